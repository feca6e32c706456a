/-
  A pattern that is made part by part while a source of numbers turns; parts may lie in older blocks. No statement is proved here.
-/
import Derived.Test.YteoopmogklpnoaaT01
import Derived.Test.YteoopmogklpnoaaT23
import Derived.Test.YteoopmogklpnoaaT20
import Derived.Test.YteoopmogklpnoaaT02
import Derived.Test.YteoopmogklpnoaaT00
namespace Go.Proofs.Yteoopmogklpnoaa
open Go.RowKit
set_option maxRecDepth 100000
set_option linter.unusedVariables false
/-- The row of a list of which k parts are made, in blocks of Z. -/
def RowG (d : Nat) (w : World) (og : Option Nat) (Z : Nat → Prop) (Q : Nat → Nat → Prop) (l : List Pt) (xs : List Value) : Prop := ∀ j (h : j < l.length), (∀ b, Q j b → Z b ∧ b < w.heap.size ∧ some b ≠ og ∧ ∀ i, i < l.length → i ≠ j → ¬ Q i b) ∧ ∃ A' cap, xs[j * 6]? = some (.int .i64 l[j].op) ∧ xs[j * 6 + 1]? = some (.int .i64 l[j].ctor) ∧ xs[j * 6 + 2]? = some (.int .i64 l[j].n) ∧ xs[j * 6 + 3]? = some (.int .i64 l[j].m) ∧ xs[j * 6 + 4]? = some (.int .i64 l[j].var) ∧ xs[j * 6 + 5]? = some (.slice A' l[j].kids.length cap) ∧ OPs d w (Q j) A' l[j].kids
theorem RowG.fr {d : Nat} {w w' : World} {og og' : Option Nat} {Z : Nat → Prop} {Q : Nat → Nat → Prop} {l : List Pt} {xs : List Value} {P' : Nat → Prop} (h : RowG d w og Z Q l xs) (hf : Fr P' w w') (hp : ∀ b, Z b → some b ≠ og → b < w.heap.size → ¬ P' b ∧ some b ≠ og') : RowG d w' og' Z Q l xs := fun j hj => by
  obtain ⟨h1, A', cap, e0, e1, e2, e3, e4, e8, e9⟩ := h j hj
  refine ⟨fun b hb => ?_, A', cap, e0, e1, e2, e3, e4, e8, e9.fr d hf (fun b hb => ?_)⟩
  · obtain ⟨a1, a2, a3, a4⟩ := h1 b hb
    exact ⟨a1, Nat.lt_of_lt_of_le a2 hf.size, (hp b a1 a3 a2).2, a4⟩
  · obtain ⟨a1, a2, a3, a4⟩ := h1 b hb
    exact (hp b a1 a3 a2).1
theorem RowG.snoc {d : Nat} {w : World} {og : Option Nat} {Z : Nat → Prop} {Q : Nat → Nat → Prop} {K : Nat → Prop} {l : List Pt} {v : Pt} {xs ys : List Value} {A' : Option Addr} {cap : Nat} (h : RowG d w og Z Q l xs) (hx : xs.length = l.length * 6) (hK : ∀ b, K b → Z b ∧ b < w.heap.size ∧ some b ≠ og ∧ ∀ j, j < l.length → ¬ Q j b) (ho : OPs d w K A' v.kids)
    (hy : ys = [.int .i64 v.op, .int .i64 v.ctor, .int .i64 v.n, .int .i64 v.m, .int .i64 v.var, .slice A' v.kids.length cap]) : RowG d w og Z (fun i => if i = l.length then K else Q i) (l ++ [v]) (xs ++ ys) := by
  subst hy
  intro j hj
  have hll : (l ++ [v]).length = l.length + 1 := by simp
  by_cases e : j = l.length
  · subst e
    have e1 : (l ++ [v])[l.length]'hj = v := by simp
    rw [e1]
    refine ⟨fun b hq => ?_, A', cap, ?_, ?_, ?_, ?_, ?_, ?_, ?_⟩
    · replace hq : (if l.length = l.length then K else Q l.length) b := hq
      rw [if_pos rfl] at hq
      obtain ⟨a1, a2, a3, a4⟩ := hK b hq
      refine ⟨a1, a2, a3, fun i hi hij hqi => ?_⟩
      replace hqi : (if i = l.length then K else Q i) b := hqi
      rw [if_neg hij] at hqi
      exact a4 i (by omega) hqi
    · rw [List.getElem?_append_right (by omega), show l.length * 6 - xs.length = 0 by omega]; rfl
    · rw [List.getElem?_append_right (by omega), show l.length * 6 + 1 - xs.length = 1 by omega]; rfl
    · rw [List.getElem?_append_right (by omega), show l.length * 6 + 2 - xs.length = 2 by omega]; rfl
    · rw [List.getElem?_append_right (by omega), show l.length * 6 + 3 - xs.length = 3 by omega]; rfl
    · rw [List.getElem?_append_right (by omega), show l.length * 6 + 4 - xs.length = 4 by omega]; rfl
    · rw [List.getElem?_append_right (by omega), show l.length * 6 + 5 - xs.length = 5 by omega]; rfl
    · show OPs d w (if l.length = l.length then K else Q l.length) A' v.kids
      rw [if_pos rfl]; exact ho
  · have hj' : j < l.length := by omega
    have e1 : (l ++ [v])[j]'hj = l[j] := List.getElem_append_left hj'
    rw [e1]
    obtain ⟨h1, A2, c2, f0, f1, f2, f3, f4, f8, f9⟩ := h j hj'
    have hx' : ∀ c, c < 6 → (xs ++ [Value.int .i64 v.op, .int .i64 v.ctor, .int .i64 v.n, .int .i64 v.m, .int .i64 v.var, .slice A' v.kids.length cap])[j * 6 + c]? = xs[j * 6 + c]? := fun c hc => List.getElem?_append_left (by omega)
    refine ⟨fun b hq => ?_, A2, c2, (hx' 0 (by omega)).trans f0, (hx' 1 (by omega)).trans f1, (hx' 2 (by omega)).trans f2, (hx' 3 (by omega)).trans f3, (hx' 4 (by omega)).trans f4, (hx' 5 (by omega)).trans f8, ?_⟩
    · replace hq : (if j = l.length then K else Q j) b := hq
      rw [if_neg e] at hq
      obtain ⟨a1, a2, a3, a4⟩ := h1 b hq
      refine ⟨a1, a2, a3, fun i hi hij hqi => ?_⟩
      replace hqi : (if i = l.length then K else Q i) b := hqi
      by_cases e2 : i = l.length
      · rw [if_pos e2] at hqi
        exact (hK b hqi).2.2.2 j hj' hq
      · rw [if_neg e2] at hqi
        exact a4 i (by omega) hij hqi
    · show OPs d w (if j = l.length then K else Q j) A2 l[j].kids
      rw [if_neg e]; exact f9
theorem OPs.of_rowG {d : Nat} {w : World} {lo : Nat} {v : Value} {l : List Pt} {xs : List Value} {Z : Nat → Prop} {Q : Nat → Nat → Prop} (h : w.ownsRow lo 50 6 v l.length xs) (hx : RowG d w v.ownBlock Z Q l xs) (hn : l.length ≤ 1048576) : ∃ A cap, v = .slice A l.length cap ∧ OPs (d + 1) w (fun b => (Z b ∨ lo ≤ b) ∧ b < w.heap.size) A l := by
  rcases h.2 with ⟨h', h0⟩ | ⟨g, cap, cur, h', hb, hg, hnc, hcm, hcs, htake⟩
  · refine ⟨none, 0, by rw [h0]; exact h', by unfold maxLen; omega, fun hl => absurd hl (by omega)⟩
  · subst h'
    refine ⟨_, cap, rfl, by unfold maxLen; omega, fun _ => ⟨g, cur, Q, rfl, ⟨.inr hb, heap_lt hg⟩, hg, fun k b hk hq => ?_, fun k hk => ?_⟩⟩
    · obtain ⟨a1, a2, a3, a4⟩ := (hx k hk).1 b hq
      exact ⟨⟨.inl a1, a2⟩, fun e => a3 (by rw [e]; rfl), a4⟩
    · obtain ⟨_, A', c', e0, e1, e2, e3, e4, e8, e9⟩ := hx k hk
      have hat : ∀ i, i < l.length * 6 → cur[i]? = xs[i]? := fun i hi => by
        rw [← htake, List.getElem?_take_of_lt hi, Array.getElem?_toList]
      exact ⟨A', c', (hat _ (by omega)).trans e0, (hat _ (by omega)).trans e1, (hat _ (by omega)).trans e2, (hat _ (by omega)).trans e3, (hat _ (by omega)).trans e4, (hat _ (by omega)).trans e8, e9⟩
/-- A node in block g whose parts so far are l; the source lies in block rb. -/
def BldG (d : Nat) (w0 wr : World) (g rb : Nat) (Z : Nat → Prop) (x0 x1 x2 x3 x4 : Int) (l : List Pt) (Q : Nat → Nat → Prop) : Prop := g < w0.heap.size ∧ rb < w0.heap.size ∧ g ≠ rb ∧ Fr (fun b => b = g ∨ b = rb) w0 wr ∧ ∃ A c ys, wr.heap[g]? = some (.cells #[.int .i64 x0, .int .i64 x1, .int .i64 x2, .int .i64 x3, .int .i64 x4, .slice A l.length c] 50 (0, 0)) ∧ wr.ownsRow w0.heap.size 50 6 (.slice A l.length c) l.length ys ∧ RowG d wr (Value.slice A l.length c).ownBlock Z Q l ys
theorem BldG.zero {d : Nat} {w0 : World} {g rb : Nat} {Z : Nat → Prop} {x0 x1 x2 x3 x4 : Int} (Q : Nat → Nat → Prop) (h : w0.heap[g]? = some (.cells #[.int .i64 x0, .int .i64 x1, .int .i64 x2, .int .i64 x3, .int .i64 x4, .slice none 0 0] 50 (0, 0))) (hrb : rb < w0.heap.size) (hne : g ≠ rb) : BldG d w0 w0 g rb Z x0 x1 x2 x3 x4 [] Q :=
  ⟨heap_lt h, hrb, hne, Fr.refl _ _, none, 0, [], h, World.ownsRow_nil _ _ _ _, fun j hj => absurd hj (by simp)⟩
theorem BldG.step {d : Nat} {w0 wr w2 w4 : World} {g rb : Nat} {Z K : Nat → Prop} {x0 x1 x2 x3 x4 : Int} {l : List Pt} {v : Pt} {c c2 : Nat} {A A2 : Option Addr} {ys : List Value} {Q : Nat → Nat → Prop} {v' : Value} {box : Obj}
    (hgl : g < w0.heap.size) (hrb : rb < w0.heap.size) (hne : g ≠ rb) (hf : Fr (fun b => b = g ∨ b = rb) w0 wr) (hg : wr.heap[g]? = some (.cells #[.int .i64 x0, .int .i64 x1, .int .i64 x2, .int .i64 x3, .int .i64 x4, .slice A l.length c] 50 (0, 0))) (ho : wr.ownsRow w0.heap.size 50 6 (.slice A l.length c) l.length ys) (hrow : RowG d wr (Value.slice A l.length c).ownBlock Z Q l ys)
    (hZ : ∀ b, Z b → b ≠ g ∧ b ≠ rb) (hb : Fr (fun b => b = rb) wr w2) (hkid : OPs d w2 K A2 v.kids) (hK : ∀ b, K b → Z b ∧ b < w2.heap.size ∧ some b ≠ (Value.slice A l.length c).ownBlock ∧ ∀ j, j < l.length → ¬ Q j b) (hown : w4.ownsRow w0.heap.size 50 6 v' (l.length + 1) (ys ++ [.int .i64 v.op, .int .i64 v.ctor, .int .i64 v.n, .int .i64 v.m, .int .i64 v.var, .slice A2 v.kids.length c2])) (hgr : (w2.alloc box).grownBy w4 (Value.slice A l.length c).ownBlock)
    (hat : v'.ownBlock = (Value.slice A l.length c).ownBlock ∨ v'.ownBlock = some (w2.alloc box).heap.size) :
    ∃ A' c', v' = .slice A' (l.length + 1) c' ∧ w4.heap[g]? = some (.cells #[.int .i64 x0, .int .i64 x1, .int .i64 x2, .int .i64 x3, .int .i64 x4, .slice A l.length c] 50 (0, 0)) ∧ BldG d w0 (w4.setCell ⟨g, 5, none⟩ v') g rb Z x0 x1 x2 x3 x4 (l ++ [v]) (fun i => if i = l.length then K else Q i) := by
  have hys := ho.1
  obtain ⟨_, _, _, hob⟩ := own_form ho
  obtain ⟨A', c', hv, hnb⟩ := own_form hown
  have hgw := heap_lt hg
  have hb2 := hb.size
  have hz : (w2.alloc box).heap.size = w2.heap.size + 1 := by simp
  have hng : ¬ some g = (Value.slice A l.length c).ownBlock := fun e => by have := (hob g e.symm).1; omega
  have hg4 : w4.heap[g]? = some (.cells #[.int .i64 x0, .int .i64 x1, .int .i64 x2, .int .i64 x3, .int .i64 x4, .slice A l.length c] 50 (0, 0)) := by
    rw [hgr.block g (by omega) hng, Below.heap_alloc _ _ _ (by omega), hb.2.2.2.2 g hgw hne]; exact hg
  have hF : Fr (fun b => some b = (Value.slice A l.length c).ownBlock ∨ b = g) w2 (w4.setCell ⟨g, 5, none⟩ v') :=
    ((Fr.below ((Below.refl _ w2).alloc (Nat.le_refl _) box)).trans (Fr.grown hgr (fun b e => .inl e))).trans (Fr.set _ _ _ _ (.inr rfl))
  have hr1 : RowG d w2 (Value.slice A l.length c).ownBlock Z Q l ys := hrow.fr hb (fun b h1 h2 h3 => ⟨(hZ b h1).2, h2⟩)
  have hr2 := hr1.snoc (v := v) (by omega) hK hkid rfl (cap := c2)
  have hr3 := hr2.fr (og' := v'.ownBlock) hF (fun b h1 h2 h3 => ⟨fun h => by
    rcases h with h | h
    · exact h2 h
    · exact (hZ b h1).1 h, fun e => by
    rcases hat with h | h
    · exact h2 (e.trans h)
    · rw [h] at e; injection e with e; omega⟩)
  have hF0 : Fr (fun b => b = g ∨ b = rb) w0 (w4.setCell ⟨g, 5, none⟩ v') := by
    refine ⟨?_, ?_, ?_, ?_, fun b hb0 hne' => ?_⟩
    · exact hF.1.trans (hb.1.trans hf.1)
    · exact hF.2.1.trans (hb.2.1.trans hf.2.1)
    · exact hF.2.2.1.trans (hb.2.2.1.trans hf.2.2.1)
    · exact Nat.le_trans hf.size (Nat.le_trans hb2 hF.size)
    · have h0 := hf.size
      rw [hF.2.2.2.2 b (by omega) (fun h => by
        rcases h with h | h
        · have := (hob b h.symm).1; omega
        · exact hne' (.inl h)), hb.2.2.2.2 b (by omega) (fun h => hne' (.inr h))]
      exact hf.2.2.2.2 b hb0 hne'
  refine ⟨A', c', hv, hg4, ?_⟩
  subst hv
  have hll : (l ++ [v]).length = l.length + 1 := by simp
  refine ⟨hgl, hrb, hne, hF0, A', c', ys ++ [.int .i64 v.op, .int .i64 v.ctor, .int .i64 v.n, .int .i64 v.m, .int .i64 v.var, .slice A2 v.kids.length c2], ?_, ?_, ?_⟩
  · have := heap_setCell_same w4 g 5 _ _ (.slice A' (l.length + 1) c') hg4
    rw [this, hll]
    rfl
  · rw [hll]
    exact own_at hown (fun b e => Below.heap_setCell _ _ _ _ (fun h => by have := (hnb b e).1; simp only at h; omega))
  · rw [hll]; exact hr3
theorem BldG.all {d : Nat} {w0 wr : World} {g rb : Nat} {Z : Nat → Prop} {x0 x1 x2 x3 x4 : Int} {l : List Pt} {Q : Nat → Nat → Prop} (h : BldG d w0 wr g rb Z x0 x1 x2 x3 x4 l Q) (hn : l.length ≤ 1048576) :
    ∃ A c, wr.heap[g]? = some (.cells #[.int .i64 x0, .int .i64 x1, .int .i64 x2, .int .i64 x3, .int .i64 x4, .slice A l.length c] 50 (0, 0)) ∧ OPs (d + 1) wr (fun b => (Z b ∨ w0.heap.size ≤ b) ∧ b < wr.heap.size) A l ∧ Fr (fun b => b = g ∨ b = rb) w0 wr := by
  obtain ⟨_, _, _, hf, A, c, ys, hg, ho, hrow⟩ := h
  obtain ⟨A', c', e, hO⟩ := OPs.of_rowG ho hrow hn
  injection e with e1 e2 e3
  subst e1
  exact ⟨A, c, hg, hO, hf⟩
/-- How many numbers a pattern of n levels draws at most. -/
def pkP : Nat → Nat
  | 0 => 0
  | n + 1 => 5 + 3 * pkP n
theorem ZP.put {w : World} {b : Nat} {x0 x1 x2 x3 x4 : Int} {s0 : Value} (h : w.heap[b]? = some (.cells #[.int .i64 x0, .int .i64 x1, .int .i64 x2, .int .i64 x3, .int .i64 x4, s0] 50 (0, 0))) (y0 y1 y2 y3 y4 : Int) (s : Value) :
    ((((((w.setCell ⟨b, 0, none⟩ (.int .i64 y0)).setCell ⟨b, 1, none⟩ (.int .i64 y1)).setCell ⟨b, 2, none⟩ (.int .i64 y2)).setCell ⟨b, 3, none⟩ (.int .i64 y3)).setCell ⟨b, 4, none⟩ (.int .i64 y4)).setCell ⟨b, 5, none⟩ s).heap[b]? = some (.cells #[.int .i64 y0, .int .i64 y1, .int .i64 y2, .int .i64 y3, .int .i64 y4, s] 50 (0, 0)) :=
  (heap_setCell_same _ b 5 _ _ _ (heap_setCell_same _ b 4 _ _ _ (heap_setCell_same _ b 3 _ _ _ (heap_setCell_same _ b 2 _ _ _ (heap_setCell_same _ b 1 _ _ _ (heap_setCell_same _ b 0 _ _ _ h)))))).trans rfl
/-- The six cells of a pattern in block b: read and free. -/
theorem cellsP {w : World} {b : Nat} {x0 x1 x2 x3 x4 : Int} {s : Value} (h : w.heap[b]? = some (.cells #[.int .i64 x0, .int .i64 x1, .int .i64 x2, .int .i64 x3, .int .i64 x4, s] 50 (0, 0))) : w.cell? ⟨b, 0, none⟩ = some (.int .i64 x0) ∧ w.cell? ⟨b, 1, none⟩ = some (.int .i64 x1) ∧ w.cell? ⟨b, 2, none⟩ = some (.int .i64 x2) ∧ w.cell? ⟨b, 3, none⟩ = some (.int .i64 x3) ∧ w.cell? ⟨b, 4, none⟩ = some (.int .i64 x4) ∧ w.cell? ⟨b, 5, none⟩ = some s ∧ w.frozen? ⟨b, 0, none⟩ = false ∧ w.frozen? ⟨b, 1, none⟩ = false ∧ w.frozen? ⟨b, 2, none⟩ = false ∧ w.frozen? ⟨b, 3, none⟩ = false ∧ w.frozen? ⟨b, 4, none⟩ = false ∧ w.frozen? ⟨b, 5, none⟩ = false :=
  ⟨(cell_of_blk h 0).trans rfl, (cell_of_blk h 1).trans rfl, (cell_of_blk h 2).trans rfl, (cell_of_blk h 3).trans rfl, (cell_of_blk h 4).trans rfl, (cell_of_blk h 5).trans rfl, frozen_of_row w b 0 _ 50 h, frozen_of_row w b 1 _ 50 h, frozen_of_row w b 2 _ 50 h, frozen_of_row w b 3 _ 50 h, frozen_of_row w b 4 _ 50 h, frozen_of_row w b 5 _ 50 h⟩
theorem Fr.put6 {P : Nat → Prop} {w w1 : World} (h : Fr P w w1) {b : Nat} (hb : w.heap.size ≤ b) (y0 y1 y2 y3 y4 s : Value) : Fr P w ((((((w1.setCell ⟨b, 0, none⟩ y0).setCell ⟨b, 1, none⟩ y1).setCell ⟨b, 2, none⟩ y2).setCell ⟨b, 3, none⟩ y3).setCell ⟨b, 4, none⟩ y4).setCell ⟨b, 5, none⟩ s) :=
  (((((h.setNew hb).setNew hb).setNew hb).setNew hb).setNew hb).setNew hb
theorem Fr.setOf {P : Nat → Prop} {a w : World} (h : Fr P a w) {b i : Nat} {u : Value} (hp : P b) : Fr P a (w.setCell ⟨b, i, none⟩ u) := h.trans (Fr.set _ _ _ _ hp)
theorem Fr.six (w : World) (b : Nat) (y0 y1 y2 y3 y4 s : Value) : Fr (fun x => x = b) w ((((((w.setCell ⟨b, 0, none⟩ y0).setCell ⟨b, 1, none⟩ y1).setCell ⟨b, 2, none⟩ y2).setCell ⟨b, 3, none⟩ y3).setCell ⟨b, 4, none⟩ y4).setCell ⟨b, 5, none⟩ s) :=
  ((((((Fr.refl (fun x => x = b) w).setOf rfl).setOf rfl).setOf rfl).setOf rfl).setOf rfl).setOf rfl
end Go.Proofs.Yteoopmogklpnoaa
/-
  How many nodes a value has, up to a number, and when it is one within the limits: the document's functions. No statement is proved here.
-/
namespace Go.Proofs.Yteoopmogklpnoaa
open Go.RowKit Go.Sort Go.Deep
set_option maxRecDepth 100000
set_option linter.unusedVariables false
/-- A count up to a number. -/
def CntOK (N : Nat) (most r : Int) : Prop := ((N : Int) ≤ most → r = N) ∧ (most < N → most < r) ∧ r ≤ N ∧ 1 ≤ r
def CntP (N : Nat) (most : Int) (w : World) (e : Ending) (w' : World) : Prop := ∃ r : Int, e = .returned (.int .i64 r) ∧ CntOK N most r ∧ Below w.heap.size w w'
theorem CntOK.one {most : Int} (h : 0 ≤ most) : CntOK 1 most 1 := ⟨fun _ => rfl, fun h' => by omega, by omega, by omega⟩
theorem CntOK.step {N M : Nat} {most q r : Int} (h : CntOK N most q) (hq : q ≤ most) (hr : CntOK M (most - q) r) : CntOK (N + M) most (q + r) := by
  obtain ⟨a, b, c, d⟩ := h
  obtain ⟨a', b', c', d'⟩ := hr
  have hN : q = N := by
    by_cases e : (N : Int) ≤ most
    · exact a e
    · have := b (by omega); omega
  refine ⟨fun h => ?_, fun h => ?_, ?_, ?_⟩
  · have := a' (by push_cast at h; omega); push_cast; omega
  · have := b' (by push_cast at h; omega); omega
  · push_cast; omega
  · omega
theorem CntOK.over {N M : Nat} {most q : Int} (h : CntOK N most q) (hq : most < q) (hM : N ≤ M) : CntOK M most q := by
  obtain ⟨a, b, c, d⟩ := h
  exact ⟨fun h => by omega, fun _ => hq, by omega, d⟩
end Go.Proofs.Yteoopmogklpnoaa
/-
  The pattern that only one value matches: the document's function. No statement is proved here.
-/
namespace Go.Proofs.Yteoopmogklpnoaa
open Go.RowKit Go.Sort Go.Deep
set_option maxRecDepth 100000
set_option linter.unusedVariables false
theorem cell_six_new (w : World) (a b c d e f : Value) (t : TypeId) : ∀ j u, [a, b, c, d, e, f][j]? = some u → (w.alloc (.cells #[a, b, c, d, e, f] t)).cell? ((⟨w.heap.size, 0, none⟩ : Addr).add j) = some u := by
  intro j u hj
  match j, hj with
  | 0, hj => simp at hj; subst hj; simp [Addr.add, go_sem]
  | 1, hj => simp at hj; subst hj; simp [Addr.add, go_sem]
  | 2, hj => simp at hj; subst hj; simp [Addr.add, go_sem]
  | 3, hj => simp at hj; subst hj; simp [Addr.add, go_sem]
  | 4, hj => simp at hj; subst hj; simp [Addr.add, go_sem]
  | 5, hj => simp at hj; subst hj; simp [Addr.add, go_sem]
end Go.Proofs.Yteoopmogklpnoaa
