/-
  The variables of a pattern with their types: plain mathematics, and rows of the call's own. No statement is proved here.
-/
import Derived.Test.YthdnfnmglhifmaaGreatR09
import Derived.OwnWalk
namespace Go.Proofs.YthdnfnmglhifmaaGreat
open Go.RowKit Go.Sort Go.Deep
set_option maxRecDepth 100000
set_option linter.unusedVariables false
def hdV (t : Ty) (p : Pt) : List Vt := if p.op = 2 ∨ p.op = 6 then [⟨p.var, t⟩] else []
def catV (f : Nat → List Vt) : Nat → List Vt | 0 => [] | k + 1 => catV f k ++ f k
noncomputable def limV (l : List Da) (t : Ty) (p : Pt) : Nat := if p.op = 5 then 1 else (tysP l t p).length
noncomputable def vrP (l : List Da) : Nat → Ty → Pt → List Vt
  | 0, _, _ => []
  | d + 1, t, p => hdV t p ++ catV (fun i => vrP l d ((tysP l t p).getD i default) (p.kids.getD i default)) (limV l t p)
noncomputable def kidR (l : List Da) (d : Nat) (ats : List Ty) (ks : List Pt) (i : Nat) : List Vt := vrP l d (ats.getD i default) (ks.getD i default)
theorem kidR_at {l : List Da} {d : Nat} {ats : List Ty} {ks : List Pt} {i : Nat} (h : i < ats.length) (h' : i < ks.length) : kidR l d ats ks i = vrP l d ats[i] ks[i] := by
  unfold kidR; rw [getD_at ats i h, getD_at ks i h']
theorem vrP_go (l : List Da) (d : Nat) (t : Ty) (p : Pt) : vrP l (d + 1) t p = hdV t p ++ catV (kidR l d (tysP l t p) p.kids) (limV l t p) := rfl
theorem hdV_yes {t : Ty} {p : Pt} (h : p.op = 2 ∨ p.op = 6) : hdV t p = [⟨p.var, t⟩] := if_pos h
theorem hdV_no {t : Ty} {p : Pt} (h : ¬ (p.op = 2 ∨ p.op = 6)) : hdV t p = [] := if_neg h
theorem hdV_len (t : Ty) (p : Pt) : (hdV t p).length ≤ 1 := by unfold hdV; split <;> simp
theorem limV_le (l : List Da) (t : Ty) (p : Pt) : limV l t p ≤ (tysP l t p).length := by
  unfold limV
  split
  · rename_i h
    rw [tysP_other (by omega), List.length_replicate, h]; decide
  · exact Nat.le_refl _
theorem cat_len {l : List Da} {d : Nat} {p : Pt} {ats : List Ty} {n : Nat} (hn : n ≤ 1) (hl : p.kids.length = ats.length) (ih : ∀ i (h : i < ats.length) (h' : i < p.kids.length), (vrP l d ats[i] p.kids[i]).length ≤ 1 + wP p.kids[i]) :
    ∀ k, k ≤ p.kids.length → n + (catV (kidR l d ats p.kids) k).length ≤ upKP p.kids k
  | 0, _ => by rw [upKP_zero]; exact hn
  | k + 1, h => by
    have h1 := cat_len hn hl ih k (by omega)
    have h2 := ih k (by omega) h
    have h3 : catV (kidR l d ats p.kids) (k + 1) = catV (kidR l d ats p.kids) k ++ kidR l d ats p.kids k := rfl
    rw [upKP_succ _ _ h, h3, List.length_append, kidR_at (by omega) h]
    omega
theorem vrP_len (l : List Da) : ∀ (d : Nat) (t : Ty) (p : Pt), shP l d t p = true → (vrP l d t p).length ≤ 1 + wP p
  | 0, t, p, h => by rw [shP_zero] at h; cases h
  | d + 1, t, p, h => by
    obtain ⟨h1, h2, h3⟩ := shP_parts h
    have hc := cat_len (l := l) (d := d) (n := (hdV t p).length) (hdV_len t p) h2 (fun i hi hi' => vrP_len l d _ _ (h3 i hi hi')) (limV l t p) (by have := limV_le l t p; omega)
    have hu := upKP_le p (limV l t p) (by have := limV_le l t p; omega)
    rw [vrP_go, List.length_append]
    omega

/-! Rows of the call's own. -/
theorem infoVt : (Tryz.prog.info? 43).map (fun i => (i.zero, i.size, i.bytes)) = some (some (.agg #[.int .i64 0, .int .i64 0, .int .i64 0]), 3, 24) := by kernel_rfl
def VtRow (L : List Vt) (xs : List Value) : Prop := ∀ j (h : j < L.length), xs[j * 3]? = some (.int .i64 L[j].var) ∧ xs[j * 3 + 1]? = some (.int .i64 L[j].ty.data) ∧ xs[j * 3 + 1 + 1]? = some (.int .i64 L[j].ty.index)
theorem VtRow.app {L : List Vt} {xs : List Value} {x : Vt} (h : VtRow L xs) (hx : xs.length = L.length * 3) : VtRow (L ++ [x]) (xs ++ [.int .i64 x.var, .int .i64 x.ty.data, .int .i64 x.ty.index]) := by
  intro j hj
  by_cases e : j = L.length
  · subst e
    refine ⟨?_, ?_, ?_⟩
    · rw [List.getElem?_append_right (by omega), hx]; simp
    · rw [List.getElem?_append_right (by omega), hx]; simp
    · rw [List.getElem?_append_right (by omega), hx, show L.length * 3 + 1 + 1 - L.length * 3 = 2 by omega]; simp
  · have hj' : j < L.length := by simp at hj; omega
    obtain ⟨a, b, c⟩ := h j hj'
    rw [List.getElem_append_left hj']
    refine ⟨?_, ?_, ?_⟩
    · rw [List.getElem?_append_left (by omega)]; exact a
    · rw [List.getElem?_append_left (by omega)]; exact b
    · rw [List.getElem?_append_left (by omega)]; exact c
def OVt (w : World) (lo : Nat) (v : Value) (L : List Vt) : Prop := ∃ xs, w.ownsRow lo 43 3 v L.length xs ∧ VtRow L xs
theorem OVt.nil (w : World) (lo : Nat) : OVt w lo (.slice none 0 0) [] := ⟨[], World.ownsRow_nil _ _ _ _, fun j h => absurd h (Nat.not_lt_zero _)⟩
theorem OVt.lt {w : World} {lo : Nat} {v : Value} {L : List Vt} (h : OVt w lo v L) : ∀ g, v.ownBlock = some g → lo ≤ g ∧ g < w.heap.size := by
  obtain ⟨xs, ho, _⟩ := h; exact ho.lt
theorem OVt.alloc {w : World} {lo : Nat} {v : Value} {L : List Vt} (h : OVt w lo v L) (o : Obj) : OVt (w.alloc o) lo v L := by
  obtain ⟨xs, ho, hx⟩ := h; exact ⟨xs, ho.alloc o, hx⟩
theorem OVt.keep {w w' : World} {lo : Nat} {v : Value} {L : List Vt} (h : OVt w lo v L) (hk : ∀ b, v.ownBlock = some b → w'.heap[b]? = w.heap[b]?) : OVt w' lo v L := by
  obtain ⟨xs, ho, hx⟩ := h; exact ⟨xs, own_at ho hk, hx⟩
theorem OVt.at_ {w w' : World} {lo : Nat} {v : Value} {L : List Vt} (h : OVt w lo v L) (hb : Below w.heap.size w w') : OVt w' lo v L :=
  h.keep (fun b e => hb.block b (h.lt b e).2)
theorem OVt.form {w : World} {lo : Nat} {v : Value} {L : List Vt} (h : OVt w lo v L) (hl : L.length ≤ maxLen) : ∃ A cap, v = .slice A L.length cap ∧ RVts w w.heap.size A L := by
  obtain ⟨xs, ho, hx⟩ := h
  rcases ho.2 with ⟨rfl, h0⟩ | ⟨g, cap, cur, rfl, hb, hg, hnc, hcm, hcs, htake⟩
  · exact ⟨none, 0, by rw [h0], hl, fun k hk => absurd hk (by omega)⟩
  · refine ⟨_, cap, rfl, hl, fun k hk => ⟨g, 0, rfl, own_lt ho, ?_, ?_, ?_⟩⟩
    · rw [Nat.zero_add, ho.cellAt (k * 3) (by omega)]; exact (hx k hk).1
    · rw [Nat.zero_add, ho.cellAt (k * 3 + 1) (by omega)]; exact (hx k hk).2.1
    · rw [Nat.zero_add, ho.cellAt (k * 3 + 1 + 1) (by omega)]; exact (hx k hk).2.2
theorem OTys.kept2 {w w' : World} {lo : Nat} {u : Value} {l : List Ty} {k : Nat} (h : OTys w lo u l k) (hk : ∀ b, u.ownBlock = some b → w'.heap[b]? = w.heap[b]?) : OTys w' lo u l k := by
  obtain ⟨xs, ho, hx⟩ := h; exact ⟨xs, own_at ho hk, hx⟩
theorem OTys.own {w : World} {lo : Nat} {u : Value} {l : List Ty} {k : Nat} (h : OTys w lo u l k) : ∀ g, u.ownBlock = some g → lo ≤ g ∧ g < w.heap.size := by
  obtain ⟨xs, ho, _⟩ := h; exact ho.lt
theorem OTys.reads {w : World} {lo n c : Nat} {A : Option Addr} {l : List Ty} (h : OTys w lo (.slice A n c) l l.length) (hl : l.length ≤ maxLen) : RTys w w.heap.size A l := by
  obtain ⟨A', c', e, hr⟩ := h.form hl
  injection e with e1 e2 e3
  rw [e1]; exact hr

/-! What a call leaves alone: all but one row. -/
structure Fresh (w : World) (v v' : Value) : Prop where
  new : ∀ g, v'.ownBlock = some g → v.ownBlock = some g ∨ w.heap.size ≤ g
theorem Fresh.refl (w : World) (v : Value) : Fresh w v v := ⟨fun g h => .inl h⟩
theorem Fresh.trans {w w' : World} {v v' v'' : Value} (h : Fresh w v v') (h' : Fresh w' v' v'') (hs : w.heap.size ≤ w'.heap.size) : Fresh w v v'' :=
  ⟨fun g e => by
    rcases h'.new g e with e | e
    · exact h.new g e
    · exact .inr (by omega)⟩
theorem grown_refl (w : World) (r : Option Nat) : w.grownBy w r := ⟨rfl, rfl, rfl, Nat.le_refl _, fun _ _ _ => rfl⟩
theorem grown_chain {w w1 w2 : World} {v v1 : Value} (h : w.grownBy w1 v.ownBlock) (h2 : w1.grownBy w2 v1.ownBlock) (hf : Fresh w v v1) : w.grownBy w2 v.ownBlock :=
  ⟨h2.os.trans h.os, h2.tape.trans h.tape, h2.output.trans h.output, Nat.le_trans h.size h2.size, fun i hi hne =>
    (h2.block i (by have := h.size; omega) (fun e => by
      rcases hf.new i e.symm with h | h
      · exact hne h.symm
      · omega)).trans (h.block i hi hne)⟩
theorem grown_below {w w1 : World} {B : Nat} {r : Option Nat} (h : Below B w w1) (hB : w.heap.size ≤ B) : w.grownBy w1 r := ⟨h.os, h.tape, h.output, h.size, fun i hi _ => h.block i (by omega)⟩
theorem grown_low {w w1 : World} {lo : Nat} {r : Option Nat} (h : w.grownBy w1 r) (hr : ∀ g, r = some g → lo ≤ g) (hl : lo ≤ w.heap.size) : Below lo w w1 :=
  ⟨h.os, h.tape, h.output, h.size, fun i hi => h.block i (by omega) (fun e => by have := hr i e.symm; omega)⟩
theorem grown_drew {w w1 : World} {r : Option Nat} (h : w.grownBy w1 r) : w.grownBy w1.drew r := ⟨h.os, h.tape, h.output, h.size, h.block⟩
theorem cell_3_new (w : World) (x y z : Value) (t : TypeId) : ∀ j u, [x, y, z][j]? = some u → (w.alloc (.cells #[x, y, z] t)).cell? ((⟨w.heap.size, 0, none⟩ : Addr).add j) = some u := by
  intro j u hj
  match j, hj with
  | 0, hj => simp at hj; subst hj; simp [Addr.add, go_sem]
  | 1, hj => simp at hj; subst hj; simp [Addr.add, go_sem]
  | 2, hj => simp at hj; subst hj; simp [Addr.add, go_sem]
theorem box2_block {w w0 : World} {o o' : Obj} (h : (w.alloc o).alloc o' = w0) : w.heap.size + 2 ≤ w0.heap.size := by rw [← h]; simp
end Go.Proofs.YthdnfnmglhifmaaGreat
