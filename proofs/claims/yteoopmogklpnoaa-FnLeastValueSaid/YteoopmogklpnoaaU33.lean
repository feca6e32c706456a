/-
  A type appended to a row of types of the call's own: in place or elsewhere, and what every other row is then. No statement is proved here.
-/
import Derived.Test.YteoopmogklpnoaaU32
import Derived.Deep.RegionLawGrows
import Derived.Deep.RegionLaw
namespace Go.Proofs.Yteoopmogklpnoaa
open Go.RowKit Go.Deep
set_option maxRecDepth 100000
set_option linter.unusedVariables false
section
variable {w w' : World} {lo N n : Nat} {v : Value}
theorem XTys.set {g i : Nat} {x : Int} (h : XTys w lo N v n) : XTys (w.setCell ⟨g, i, none⟩ (.int .i64 x)) lo N v n := by
  obtain ⟨xs, ho, hn, hx⟩ := h
  obtain ⟨ys, hy, h1, h2⟩ := row_set (g := g) (i := i) (u := .int .i64 x) ho
  by_cases e : v.ownBlock = some g
  · rw [h1 e] at hy
    refine ⟨_, hy, hn, fun j hj => ?_⟩
    obtain ⟨a, b, h3, h4⟩ := hx j hj
    have e1 := set_at (i := i) (u := .int .i64 x) h3
    have e2 := set_at (i := i) (u := .int .i64 x) h4
    refine ⟨if i = j * 2 then x else a, if i = j * 2 + 1 then x else b, ?_, ?_⟩
    · rw [e1]; split <;> rfl
    · rw [e2]; split <;> rfl
  · rw [h2 e] at hy
    exact ⟨_, hy, hn, hx⟩
/-- All rows of types are rows of types still; no block of another kind has turned, nor one below lo. -/
structure TyMore (w w' : World) (lo : Nat) : Prop where
  tys : ∀ N v n, XTys w lo N v n → XTys w' lo N v n
  other : ∀ (b : Nat) (ds : Array Value) (t : TypeId), t ≠ 25 → w.heap[b]? = some (Obj.cells ds t (0, 0)) → w'.heap[b]? = w.heap[b]?
  below : Below lo w w'
theorem TyMore.row {e : TypeId} {size : Nat} {xs : List Value} (h : TyMore w w' lo) (ho : w.ownsRow lo e size v n xs) (he : e ≠ 25) : w'.ownsRow lo e size v n xs := by
  refine ⟨ho.1, ?_⟩
  rcases ho.2 with h0 | ⟨g, cap, cur, a1, a2, a3, a4⟩
  · exact .inl h0
  · exact .inr ⟨g, cap, cur, a1, a2, (h.other g cur e he a3).trans a3, a4⟩
theorem XTys.less {N' : Nat} (h : XTys w lo N v n) (hN : N ≤ N') : XTys w lo N' v n := h.keepT (KeepT.below _ _ (Below.refl _ _)) hN
theorem XCts.more {N' : Nat} (h : TyMore w w' lo) (hx : XCts w lo N v n) (hN : N ≤ N') : XCts w' lo N' v n := by
  obtain ⟨xs, ho, hn, hk⟩ := hx
  refine ⟨xs, h.row ho (by decide), by omega, fun j hj => ?_⟩
  obtain ⟨s, u, m, i, h1, h2, h3, h4, h5⟩ := hk j hj
  exact ⟨s, u, m, i, h1, h2, h3, (h.tys _ _ _ h4).less hN, h5⟩
theorem XDas.more {N' : Nat} (h : TyMore w w' lo) (hx : XDas w lo N v n) (hN : N ≤ N') : XDas w' lo N' v n := by
  obtain ⟨xs, ho, hn, hk⟩ := hx
  refine ⟨xs, h.row ho (by decide), by omega, fun j hj => ?_⟩
  obtain ⟨s, u, m, h1, h2, h3, h4⟩ := hk j hj
  exact ⟨s, u, m, h1, h2, h3, XCts.more h h4 hN⟩
theorem TyMore.set {g i : Nat} {x : Int} {cs : Array Value} (hg : w.heap[g]? = some (.cells cs 25 (0, 0))) (hl : lo ≤ g) : TyMore w (w.setCell ⟨g, i, none⟩ (.int .i64 x)) lo where
  tys := fun _ _ _ h => h.set
  other := fun b ds t ht hb => Below.heap_setCell _ _ _ _ (by
    have := other_blk hg hb (fun e => ht e.symm)
    exact this)
  below := (Below.refl _ _).setCell (p := ⟨g, i, none⟩) hl _
theorem TyMore.trans {a b c : World} (h : TyMore a b lo) (k : TyMore b c lo) : TyMore a c lo where
  tys := fun N v n hx => k.tys _ _ _ (h.tys _ _ _ hx)
  other := fun g ds t ht hg => by
    have h1 := h.other g ds t ht hg
    exact (k.other g ds t ht (h1.trans hg)).trans h1
  below := h.below.trans k.below
theorem TyMore.grown (h : w.grownBy w' none) (hl : lo ≤ w.heap.size) : TyMore w w' lo where
  tys := fun N v n hx => hx.keepT (fun b ds t _ _ hb => h.block b (heap_lt hb) (by simp)) (Nat.le_refl _)
  other := fun b ds t _ hb => h.block b (heap_lt hb) (by simp)
  below := below_of_grown h hl
theorem take_two {xs : List Value} {cur : List Value} {n : Nat} {a b : Value} (h : cur.take (n * 2) = xs) (hl : (n + 1) * 2 ≤ cur.length) : ((cur.set (n * 2) a).set (n * 2 + 1) b).take ((n + 1) * 2) = xs ++ [a, b] := by
  apply List.ext_getElem?
  intro k
  have hxl : xs.length = n * 2 := by rw [← h, List.length_take]; omega
  rw [List.getElem?_take]
  by_cases hk : k < (n + 1) * 2
  · rw [if_pos hk, List.getElem?_set, List.length_set, List.getElem?_set]
    by_cases e1 : n * 2 + 1 = k
    · subst e1
      rw [if_pos rfl, if_pos (by omega), List.getElem?_append_right (by omega), hxl]
      simp
    · rw [if_neg e1]
      by_cases e2 : n * 2 = k
      · subst e2
        rw [if_pos rfl, if_pos (by omega), List.getElem?_append_right (by omega), hxl]
        simp
      · rw [if_neg e2, List.getElem?_append_left (by omega), ← h, List.getElem?_take, if_pos (by omega)]
  · rw [if_neg hk, List.getElem?_eq_none (by simp; omega)]
/-- The law: what an append of one type to a row of types leaves. -/
theorem step_append_ty {ops : Array Oper} {o : Oper} {a : Act} {K : Act → World → Prop} {Q : Exit → Act → World → Prop} {E : Prop} (hgd : o.guard = none) (s x : Operand)
    (ho : o.op = .call { callee := .builtin .append, args := #[s, x], argTypes := #[32, 32] })
    (A : Option Addr) (m c : Nat) (hs : a.eval s = .slice A m c) (hX : XTys w lo N (.slice A m c) m) (hm : m ≤ 1000) (hlo : lo ≤ w.heap.size)
    (ad : Addr) (k : Nat) (y z : Int) (hx : a.eval x = .slice (some ad) 1 k) (hnews : ∀ j u, [Value.int .i64 y, .int .i64 z][j]? = some u → w.cell? (ad.add j) = some u)
    (h : ∀ A' c' w', TyMore w w' lo → XTys w' lo (N + 1) (.slice A' (m + 1) c') (m + 1) → K (a.put o.dst (.slice A' (m + 1) c')) w') :
    if Region.wanted o (yielded ops a.tmps) = true then Oper.wp Try.prog o a w K Q else E := by
  obtain ⟨i33, hi33, hy0, hy1, hy2⟩ := info_parts info34
  obtain ⟨xs, hr, hn, hk⟩ := hX
  have happ : ∀ w' v', w'.ownsRow lo 25 2 v' (m + 1) (xs ++ [.int .i64 y, .int .i64 z]) → XTys w' lo (N + 1) v' (m + 1) := fun w' v' hw => XTys.app (N := N + 1) hk hr.1 hw (by omega)
  rcases hr.2 with ⟨e1, rfl⟩ | ⟨g, cp, cur, e1, hl, hg, hnc, hcm, hcs, htake⟩
  · injection e1 with e1 _ e2
    subst e1 e2
    refine step_append_grows hgd s x 32 ho 25 i33 _ 2 16 Try.underlying32 hi33 hy0 hy1 hy2 rfl (by decide) none 0 0 xs hs (fun _ => ⟨rfl, rfl⟩) hr.1 (fun b e => by cases e) ad 1 k [.int .i64 y, .int .i64 z] hx rfl hnews (by simp [Value.oneCell']) (by omega) (by unfold maxLen; omega) (by omega) ?_
    intro v' w' hown hgr
    obtain ⟨A', c', rfl⟩ := row_form hown
    exact h A' c' w' (TyMore.grown hgr hlo) (happ _ _ (row_lower hown hlo))
  · injection e1 with e1 _ e2
    subst e1 e2
    by_cases hroom : m + 1 ≤ c
    · refine step_append_room hgd s x 32 ho 25 i33 2 Try.underlying32 hi33 hy1 g 0 m c hs ad 1 k [.int .i64 y, .int .i64 z] hx rfl hnews (by simp [Value.oneCell']) hroom ?_ ?_
      · intro j hj
        have hj2 : j < 2 := hj
        refine ⟨?_, free_of_blk hg _⟩
        rw [cell_of_blk hg]
        rw [Array.getElem?_eq_getElem (by omega)]
        rfl
      · have hsame : ∀ (wx : World) (cs : Array Value) (i : Nat) (u : Value), wx.heap[g]? = some (.cells cs 25 (0, 0)) → (wx.setCell ⟨g, i, none⟩ u).heap[g]? = some (.cells (cs.setIfInBounds i u) 25 (0, 0)) := fun wx cs i u hh => heap_setCell_same wx g i _ _ u hh
        have h1 := hsame w cur (0 + m * 2) (.int .i64 y) hg
        have h2 := hsame _ _ (0 + m * 2 + 1) (.int .i64 z) h1
        refine h _ _ _ ((TyMore.set hg hl).trans (TyMore.set h1 hl)) (happ _ _ ⟨by rw [List.length_append, hr.1]; simp; omega, .inr ⟨g, c, _, rfl, hl, h2, hroom, hcm, by simp [hcs], ?_⟩⟩)
        rw [Nat.zero_add, Array.toList_setIfInBounds, Array.toList_setIfInBounds]
        exact take_two htake (by simp [hcs]; omega)
    · refine step_append_grows hgd s x 32 ho 25 i33 _ 2 16 Try.underlying32 hi33 hy0 hy1 hy2 rfl (by decide) (some ⟨g, 0, none⟩) m c xs hs (fun e => by cases e) hr.1 (fun b e => by injection e with e; subst e; exact row_news hr) ad 1 k [.int .i64 y, .int .i64 z] hx rfl hnews (by simp [Value.oneCell']) (by omega) (by unfold maxLen; omega) (by omega) ?_
      intro v' w' hown hgr
      obtain ⟨A', c', rfl⟩ := row_form hown
      exact h A' c' w' (TyMore.grown hgr hlo) (happ _ _ (row_lower hown hlo))
end
end Go.Proofs.Yteoopmogklpnoaa
