/-
  The row of a list of clauses that is made one by one; the patterns' parts lie in blocks of Z. No statement is proved here.
-/
import Derived.Test.YteoopmogklpnoaaT35
import Derived.Test.YteoopmogklpnoaaT24
namespace Go.Proofs.Yteoopmogklpnoaa
open Go.RowKit
set_option maxRecDepth 100000
set_option linter.unusedVariables false
def RowK (d : Nat) (w : World) (og : Option Nat) (Z : Nat → Prop) (Q : Nat → Nat → Prop) (l : List Cn) (xs : List Value) : Prop := ∀ j (h : j < l.length), (∀ b, Q j b → Z b ∧ b < w.heap.size ∧ some b ≠ og ∧ ∀ i, i < l.length → i ≠ j → ¬ Q i b) ∧ ∃ A' cap, xs[j * 9]? = some (.int .i64 l[j].pat.op) ∧ xs[j * 9 + 1]? = some (.int .i64 l[j].pat.ctor) ∧ xs[j * 9 + 2]? = some (.int .i64 l[j].pat.n) ∧ xs[j * 9 + 3]? = some (.int .i64 l[j].pat.m) ∧ xs[j * 9 + 4]? = some (.int .i64 l[j].pat.var) ∧ xs[j * 9 + 5]? = some (.slice A' l[j].pat.kids.length cap) ∧ xs[j * 9 + 6]? = some (.int .i64 l[j].g0) ∧ xs[j * 9 + 7]? = some (.int .i64 l[j].g1) ∧ xs[j * 9 + 8]? = some (.int .i64 l[j].g2) ∧ OPs d w (Q j) A' l[j].pat.kids
theorem RowK.nil (d : Nat) (w : World) (og : Option Nat) (Z : Nat → Prop) (Q : Nat → Nat → Prop) (xs : List Value) : RowK d w og Z Q [] xs := fun j h => absurd h (Nat.not_lt_zero _)
theorem RowK.fr {d : Nat} {w w' : World} {og og' : Option Nat} {Z : Nat → Prop} {Q : Nat → Nat → Prop} {l : List Cn} {xs : List Value} {P' : Nat → Prop} (h : RowK d w og Z Q l xs) (hf : Fr P' w w') (hp : ∀ b, Z b → some b ≠ og → b < w.heap.size → ¬ P' b ∧ some b ≠ og') : RowK d w' og' Z Q l xs := fun j hj => by
  obtain ⟨h1, A', cap, e0, e1, e2, e3, e4, e5, e6, e7, e8, e9⟩ := h j hj
  refine ⟨fun b hb => ?_, A', cap, e0, e1, e2, e3, e4, e5, e6, e7, e8, e9.fr d hf (fun b hb => ?_)⟩
  · obtain ⟨a1, a2, a3, a4⟩ := h1 b hb
    exact ⟨a1, Nat.lt_of_lt_of_le a2 hf.size, (hp b a1 a3 a2).2, a4⟩
  · obtain ⟨a1, a2, a3, a4⟩ := h1 b hb
    exact (hp b a1 a3 a2).1
theorem RowK.snoc {d : Nat} {w : World} {og : Option Nat} {Z : Nat → Prop} {Q : Nat → Nat → Prop} {K : Nat → Prop} {l : List Cn} {v : Cn} {xs ys : List Value} {A' : Option Addr} {cap : Nat} (h : RowK d w og Z Q l xs) (hx : xs.length = l.length * 9) (hK : ∀ b, K b → Z b ∧ b < w.heap.size ∧ some b ≠ og ∧ ∀ j, j < l.length → ¬ Q j b) (ho : OPs d w K A' v.pat.kids)
    (hy : ys = [.int .i64 v.pat.op, .int .i64 v.pat.ctor, .int .i64 v.pat.n, .int .i64 v.pat.m, .int .i64 v.pat.var, .slice A' v.pat.kids.length cap, .int .i64 v.g0, .int .i64 v.g1, .int .i64 v.g2]) : RowK d w og Z (fun i => if i = l.length then K else Q i) (l ++ [v]) (xs ++ ys) := by
  subst hy
  intro j hj
  have hll : (l ++ [v]).length = l.length + 1 := by simp
  by_cases e : j = l.length
  · subst e
    have e1 : (l ++ [v])[l.length]'hj = v := by simp
    rw [e1]
    refine ⟨fun b hq => ?_, A', cap, ?_, ?_, ?_, ?_, ?_, ?_, ?_, ?_, ?_, ?_⟩
    · replace hq : (if l.length = l.length then K else Q l.length) b := hq
      rw [if_pos rfl] at hq
      obtain ⟨a1, a2, a3, a4⟩ := hK b hq
      refine ⟨a1, a2, a3, fun i hi hij hqi => ?_⟩
      replace hqi : (if i = l.length then K else Q i) b := hqi
      rw [if_neg hij] at hqi
      exact a4 i (by omega) hqi
    · rw [List.getElem?_append_right (by omega), show l.length * 9 - xs.length = 0 by omega]; rfl
    · rw [List.getElem?_append_right (by omega), show l.length * 9 + 1 - xs.length = 1 by omega]; rfl
    · rw [List.getElem?_append_right (by omega), show l.length * 9 + 2 - xs.length = 2 by omega]; rfl
    · rw [List.getElem?_append_right (by omega), show l.length * 9 + 3 - xs.length = 3 by omega]; rfl
    · rw [List.getElem?_append_right (by omega), show l.length * 9 + 4 - xs.length = 4 by omega]; rfl
    · rw [List.getElem?_append_right (by omega), show l.length * 9 + 5 - xs.length = 5 by omega]; rfl
    · rw [List.getElem?_append_right (by omega), show l.length * 9 + 6 - xs.length = 6 by omega]; rfl
    · rw [List.getElem?_append_right (by omega), show l.length * 9 + 7 - xs.length = 7 by omega]; rfl
    · rw [List.getElem?_append_right (by omega), show l.length * 9 + 8 - xs.length = 8 by omega]; rfl
    · show OPs d w (if l.length = l.length then K else Q l.length) A' v.pat.kids
      rw [if_pos rfl]; exact ho
  · have hj' : j < l.length := by omega
    have e1 : (l ++ [v])[j]'hj = l[j] := List.getElem_append_left hj'
    rw [e1]
    obtain ⟨h1, A2, c2, f0, f1, f2, f3, f4, f5, f6, f7, f8, f9⟩ := h j hj'
    have hx' : ∀ c, c < 9 → (xs ++ [Value.int .i64 v.pat.op, .int .i64 v.pat.ctor, .int .i64 v.pat.n, .int .i64 v.pat.m, .int .i64 v.pat.var, .slice A' v.pat.kids.length cap, .int .i64 v.g0, .int .i64 v.g1, .int .i64 v.g2])[j * 9 + c]? = xs[j * 9 + c]? := fun c hc => List.getElem?_append_left (by omega)
    refine ⟨fun b hq => ?_, A2, c2, (hx' 0 (by omega)).trans f0, (hx' 1 (by omega)).trans f1, (hx' 2 (by omega)).trans f2, (hx' 3 (by omega)).trans f3, (hx' 4 (by omega)).trans f4, (hx' 5 (by omega)).trans f5, (hx' 6 (by omega)).trans f6, (hx' 7 (by omega)).trans f7, (hx' 8 (by omega)).trans f8, ?_⟩
    · replace hq : (if j = l.length then K else Q j) b := hq
      rw [if_neg e] at hq
      obtain ⟨a1, a2, a3, a4⟩ := h1 b hq
      refine ⟨a1, a2, a3, fun i hi hij hqi => ?_⟩
      replace hqi : (if i = l.length then K else Q i) b := hqi
      by_cases e2 : i = l.length
      · rw [if_pos e2] at hqi
        exact (hK b hqi).2.2.2 j hj' hq
      · rw [if_neg e2] at hqi
        exact a4 i (by omega) hij hqi
    · show OPs d w (if j = l.length then K else Q j) A2 l[j].pat.kids
      rw [if_neg e]; exact f9
theorem OCs.of_rowK {d : Nat} {w : World} {lo : Nat} {v : Value} {l : List Cn} {xs : List Value} {Z : Nat → Prop} {Q : Nat → Nat → Prop} (h : w.ownsRow lo 128 9 v l.length xs) (hx : RowK d w v.ownBlock Z Q l xs) (hn : l.length ≤ 1048576) : ∃ A cap, v = .slice A l.length cap ∧ OCs d w (fun b => (Z b ∨ lo ≤ b) ∧ b < w.heap.size) A l := by
  rcases h.2 with ⟨h', h0⟩ | ⟨g, cap, cur, h', hb, hg, hnc, hcm, hcs, htake⟩
  · refine ⟨none, 0, by rw [h0]; exact h', by unfold maxLen; omega, fun hl => absurd hl (by omega)⟩
  · subst h'
    refine ⟨_, cap, rfl, by unfold maxLen; omega, fun _ => ⟨g, cur, Q, rfl, ⟨.inr hb, heap_lt hg⟩, hg, fun k b hk hq => ?_, fun k hk => ?_⟩⟩
    · obtain ⟨a1, a2, a3, a4⟩ := (hx k hk).1 b hq
      exact ⟨⟨.inl a1, a2⟩, fun e => a3 (by rw [e]; rfl), a4⟩
    · obtain ⟨_, A', c', e0, e1, e2, e3, e4, e5, e6, e7, e8, e9⟩ := hx k hk
      have hat : ∀ i, i < l.length * 9 → cur[i]? = xs[i]? := fun i hi => by
        rw [← htake, List.getElem?_take_of_lt hi, Array.getElem?_toList]
      exact ⟨A', c', (hat _ (by omega)).trans e0, (hat _ (by omega)).trans e1, (hat _ (by omega)).trans e2, (hat _ (by omega)).trans e3, (hat _ (by omega)).trans e4, (hat _ (by omega)).trans e5, (hat _ (by omega)).trans e6, (hat _ (by omega)).trans e7, (hat _ (by omega)).trans e8, e9⟩
theorem cell_nine_new (w : World) (y0 y1 y2 y3 y4 y5 y6 y7 y8 : Value) (t : TypeId) : ∀ j u, [y0, y1, y2, y3, y4, y5, y6, y7, y8][j]? = some u → (w.alloc (.cells #[y0, y1, y2, y3, y4, y5, y6, y7, y8] t)).cell? ((⟨w.heap.size, 0, none⟩ : Addr).add j) = some u := by
  intro j u h
  rw [addr_zero_add, cell_of_blk (heap_alloc_new w _)]
  rw [← h]
  exact Array.getElem?_toList.symm
end Go.Proofs.Yteoopmogklpnoaa
