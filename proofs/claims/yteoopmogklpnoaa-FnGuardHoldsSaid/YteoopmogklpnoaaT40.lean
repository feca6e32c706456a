/-
  What the variables of a pattern stand for, in the document's order; two appends. No statement is proved here.
-/
import Derived.Test.YteoopmogklpnoaaT39
import Derived.Test.YteoopmogklpnoaaT01
import Derived.Laws.AppendOwnNone
namespace Go.Proofs.Yteoopmogklpnoaa
open Go.RowKit Go.Sort Go.Deep
set_option maxRecDepth 100000
set_option linter.unusedVariables false
/-- In the order of the document. -/
def mtS : Nat → Pt → Vl → Option (List Bn)
  | 0, _, _ => none
  | d + 1, p, v =>
    if p.op = 2 then some [⟨p.var, v⟩]
    else if p.op = 3 then (if p.n ≤ v.n ∧ v.n ≤ p.m then some [] else none)
    else if p.op = 4 then (if p.ctor = v.ctor then catO (fun i => mtS d (p.kids.getD i default) (v.kids.getD i default)) p.kids.length else none)
    else if p.op = 5 then (match mtS d (p.kids.getD 0 default) v with | some l => some l | none => mtS d (p.kids.getD 1 default) v)
    else if p.op = 6 then (mtS d (p.kids.getD 0 default) v).map (⟨p.var, v⟩ :: ·)
    else some []
def kidS (d : Nat) (ps : List Pt) (vs : List Vl) (i : Nat) : Option (List Bn) := mtS d (ps.getD i default) (vs.getD i default)
section
variable {d : Nat} {p : Pt} {v : Vl} {ps : List Pt} {vs : List Vl}
theorem kidS_at {i : Nat} (h : i < ps.length) (h' : i < vs.length) : kidS d ps vs i = mtS d ps[i] vs[i] := by unfold kidS; rw [getD_kid h, getD_vl h']
theorem mtS_any (h : p.op = 1) : mtS (d + 1) p v = some [] := by rw [mtS, if_neg (by omega), if_neg (by omega), if_neg (by omega), if_neg (by omega), if_neg (by omega)]
theorem mtS_var (h : p.op = 2) : mtS (d + 1) p v = some [⟨p.var, v⟩] := by rw [mtS, if_pos h]
theorem mtS_in (h : p.op = 3) (h1 : p.n ≤ v.n) (h2 : v.n ≤ p.m) : mtS (d + 1) p v = some [] := by rw [mtS, if_neg (by omega), if_pos h, if_pos ⟨h1, h2⟩]
theorem mtS_out (h : p.op = 3) (h1 : ¬ (p.n ≤ v.n ∧ v.n ≤ p.m)) : mtS (d + 1) p v = none := by rw [mtS, if_neg (by omega), if_pos h, if_neg h1]
theorem mtS_ctor (h : p.op = 4) (h1 : p.ctor = v.ctor) : mtS (d + 1) p v = catO (kidS d p.kids v.kids) p.kids.length := by
  rw [mtS, if_neg (by omega), if_neg (by omega), if_pos h, if_pos h1]; rfl
theorem mtS_other (h : p.op = 4) (h1 : ¬ p.ctor = v.ctor) : mtS (d + 1) p v = none := by rw [mtS, if_neg (by omega), if_neg (by omega), if_pos h, if_neg h1]
theorem mtS_or0 {l : List Bn} (h : p.op = 5) (h0 : 0 < p.kids.length) (h1 : mtS d p.kids[0] v = some l) : mtS (d + 1) p v = some l := by
  rw [mtS, if_neg (by omega), if_neg (by omega), if_neg (by omega), if_pos h, getD_kid h0, h1]
theorem mtS_or1 (h : p.op = 5) (h0 : 0 < p.kids.length) (h2 : 1 < p.kids.length) (h1 : mtS d p.kids[0] v = none) : mtS (d + 1) p v = mtS d p.kids[1] v := by
  rw [mtS, if_neg (by omega), if_neg (by omega), if_neg (by omega), if_pos h, getD_kid h0, h1, getD_kid h2]
theorem mtS_as (h : p.op = 6) (h0 : 0 < p.kids.length) : mtS (d + 1) p v = (mtS d p.kids[0] v).map (⟨p.var, v⟩ :: ·) := by
  rw [mtS, if_neg (by omega), if_neg (by omega), if_neg (by omega), if_neg (by omega), if_pos h, getD_kid h0]
end
/-- One variable and what it stands for, in a block. -/
def OneB (w : World) (lo g : Nat) (x : Int) (v : Vl) (E : Option Addr) (ev : Nat) : Prop := lo ≤ g ∧ g < w.heap.size ∧ ∀ j q, [Value.int .i64 x, .int .i64 v.ctor, .int .i64 v.n, .slice E v.kids.length ev][j]? = some q → w.cell? ((⟨g, 0, none⟩ : Addr).add j) = some q
section
variable {w w' : World} {lo g : Nat} {x : Int} {v : Vl} {E : Option Addr} {ev : Nat}
theorem add_block (g j : Nat) : ((⟨g, 0, none⟩ : Addr).add j).block = g := by unfold Addr.add; split <;> rfl
theorem OneB.new (w : World) (h : lo ≤ w.heap.size) (x : Int) (v : Vl) (E : Option Addr) (ev : Nat) : OneB (w.alloc (.cells #[.int .i64 x, .int .i64 v.ctor, .int .i64 v.n, .slice E v.kids.length ev] 69)) lo w.heap.size x v E ev := ⟨h, by simp, cell_four_new w _ _ _ _ _⟩
theorem OneB.alloc (h : OneB w lo g x v E ev) (o : Obj) : OneB (w.alloc o) lo g x v E ev :=
  ⟨h.1, by have := h.2.1; simp; omega, fun j q hj => (World.cell?_of_block (a := (⟨g, 0, none⟩ : Addr).add j) (by rw [add_block]; exact Below.heap_alloc _ _ _ h.2.1)).trans (h.2.2 j q hj)⟩
theorem OneB.grown {row : Option Nat} (h : OneB w lo g x v E ev) (hg : w.grownBy w' row) (hne : some g ≠ row) : OneB w' lo g x v E ev :=
  ⟨h.1, Nat.lt_of_lt_of_le h.2.1 hg.size, fun j q hj => (World.cell?_of_block (a := (⟨g, 0, none⟩ : Addr).add j) (by rw [add_block]; exact hg.block g h.2.1 hne)).trans (h.2.2 j q hj)⟩
end
theorem OBr.new0 {e' lo B : Nat} (w : World) (h : lo ≤ w.heap.size) : OBr e' (w.alloc (.cells #[] 69)) lo B (.slice (some ⟨w.heap.size, 0, none⟩) 0 0) [] := ⟨_, World.ownsRow_lit w #[] 0 h (Nat.zero_le _) rfl, RBr.nil⟩
theorem wp_app_out {o : Oper} {a : Act} {w : World} {K : Act → World → Prop} {Q : Exit → Act → World → Prop} {e' lo B : Nat} {u0 u : Value} {L : List Bn} (s x : Operand)
    (ho : o.op = .call { callee := .builtin .append, args := #[s, x], argTypes := #[64, 64] })
    (hs : a.eval s = u0) (h0 : OBr e' w lo B u0 []) (hx : a.eval x = u) (hu : OBr e' w 0 B u L) (hB : B ≤ lo) (hlo : lo ≤ w.heap.size) (hL : L.length ≤ 1000)
    (h : ∀ u' w', OBr e' w' lo B u' L → w.grownBy w' u0.ownBlock → Below lo w w' → K (a.put o.dst u') w') : o.wp Try.prog a w K Q := by
  obtain ⟨i0, hi, hz0, hz1, hz2⟩ := info_parts infoBn
  obtain ⟨xs, hown, hrow⟩ := h0
  have hx0 : xs = [] := List.eq_nil_of_length_eq_zero (by simpa using hown.1)
  subst hx0
  rcases hu.is with ⟨rfl, rfl⟩ | ⟨g, cap, ys, rfl, _, hgl, hyl, hyr, hyc⟩
  · have hrun := run_append_owned_none (P := Try.prog) (w := w) lo 64 o.type 69 i0 4 Try.underlying64 hi u0 0 [] hown
    unfold Oper.wp execOp
    simp only [ho, resolve, invoke, builtin, Sem.run_bind, Sem.run_pure, Result.andThen_ok, List.map_toArray, List.map_cons, List.map_nil, hs, hx, hrun]
    exact h u0 w ⟨[], hown, RBr.nil⟩ ⟨rfl, rfl, rfl, Nat.le_refl _, fun _ _ _ => rfl⟩ (Below.refl _ _)
  · refine wp_append_own s x 64 ho lo 69 i0 _ 4 48 Try.underlying64 hi hz0 hz1 hz2 rfl (by decide) u0 0 [] hs hown ⟨g, 0, none⟩ L.length cap ys hx hyl hyc (hyr.one hyl) (by unfold maxLen; omega) (by omega) hlo ?_
    intro v' w' hown' hgr hat
    have hbw : Below lo w w' := (Below.refl lo w).grown hgr hlo (fun k e => (hown.lt k e).1)
    refine h v' w' ⟨ys, ?_, hyr.keep (fun q hq => hbw.cell (p := q) (by omega))⟩ hgr hbw
    simpa using hown'
theorem wp_app_one {o : Oper} {a : Act} {w : World} {K : Act → World → Prop} {Q : Exit → Act → World → Prop} {e' lo B g : Nat} {u0 : Value} {L : List Bn} {x' : Int} {v : Vl} {E : Option Addr} {ev : Nat} (s x : Operand)
    (ho : o.op = .call { callee := .builtin .append, args := #[s, x], argTypes := #[64, 64] })
    (hs : a.eval s = u0) (h0 : OBr e' w lo B u0 L) (hx : a.eval x = .slice (some ⟨g, 0, none⟩) 1 1) (h1 : OneB w lo g x' v E ev) (hv : RVs e' w B E v.kids) (hB : B ≤ lo) (hlo : lo ≤ w.heap.size) (hL : L.length ≤ 1000)
    (h : ∀ u' w', OBr e' w' lo B u' (L ++ [⟨x', v⟩]) → Below lo w w' → K (a.put o.dst u') w') : o.wp Try.prog a w K Q := by
  obtain ⟨i0, hi, hz0, hz1, hz2⟩ := info_parts infoBn
  obtain ⟨xs, hown, hrow⟩ := h0
  refine wp_append_own s x 64 ho lo 69 i0 _ 4 48 Try.underlying64 hi hz0 hz1 hz2 rfl (by decide) u0 L.length xs hs hown ⟨g, 0, none⟩ 1 1 [Value.int .i64 x', .int .i64 v.ctor, .int .i64 v.n, .slice E v.kids.length ev] hx rfl ?_ ?_ (by unfold maxLen; omega) (by omega) hlo ?_
  · exact h1.2.2
  · intro q hq; simp at hq; rcases hq with rfl | rfl | rfl | rfl <;> rfl
  intro v' w' hown' hgr hat
  have hbw : Below lo w w' := (Below.refl lo w).grown hgr hlo (fun k e => (hown.lt k e).1)
  have hk : ∀ q : Addr, q.block < B → w'.cell? q = w.cell? q := fun q hq => hbw.cell (p := q) (by omega)
  refine h v' w' ⟨_, ?_, (hrow.keep hk).cat hown.1 (RBr.single x' v (hv.keep hk (Nat.le_refl _)) (cap := ev))⟩ hbw
  rw [List.length_append]
  exact hown'
end Go.Proofs.Yteoopmogklpnoaa
