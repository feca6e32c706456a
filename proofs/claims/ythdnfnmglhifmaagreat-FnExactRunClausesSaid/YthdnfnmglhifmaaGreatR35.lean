/-
  Lists of clauses that are marked where they lie. No statement is proved here.
-/
import Derived.Test.YthdnfnmglhifmaaGreatR34
import Derived.Test.YthdnfnmglhifmaaGreatR33
import Derived.Test.YthdnfnmglhifmaaGreatR29
namespace Go.Proofs.YthdnfnmglhifmaaGreat
open Go.RowKit
set_option maxRecDepth 100000
set_option linter.unusedVariables false
/-- What marking leaves. -/
def numC (k : Int) (x : Cn) : Cn := ⟨.mk k (k + 1) (k + 2) (k + 3) (k + 4) (numPs (k + 5) x.pat.kids), k + (5 + 5 * wC x : Nat), k + (5 + 5 * wC x : Nat) + 1, k + (5 + 5 * wC x : Nat) + 2⟩
def numCs : Int → List Cn → List Cn
  | _, [] => []
  | k, x :: xs => numC k x :: numCs (k + (8 + 5 * wC x : Nat)) xs
/-- How far marking counts for the first j. -/
def stC (l : List Cn) (j : Nat) : Nat := 8 * j + 5 * ((l.take j).map wC).sum
theorem stC_zero (l : List Cn) : stC l 0 = 0 := rfl
theorem stC_succ (l : List Cn) (j : Nat) (h : j < l.length) : stC l (j + 1) = stC l j + (8 + 5 * wC l[j]) := by
  unfold stC; rw [sum_take_succ wC l j h]; omega
theorem stC_le (l : List Cn) (j : Nat) (h : j ≤ l.length) : stC l j ≤ stC l l.length := by
  unfold stC; have := sum_take_le wC l j; rw [List.take_length]; omega
theorem numCs_len : ∀ (k : Int) (l : List Cn), (numCs k l).length = l.length
  | _, [] => by rw [numCs]
  | k, x :: xs => by rw [numCs, List.length_cons, numCs_len, List.length_cons]
theorem numCs_at : ∀ (k : Int) (l : List Cn) (j : Nat) (h : j < (numCs k l).length) (h' : j < l.length), (numCs k l)[j] = numC (k + (stC l j : Nat)) l[j]
  | _, [], j, _, h' => absurd h' (Nat.not_lt_zero _)
  | k, x :: xs, 0, h, h' => by
    simp only [numCs, List.getElem_cons_zero, stC_zero]
    congr 1
    omega
  | k, x :: xs, j + 1, h, h' => by
    have h2 : j < (numCs (k + (8 + 5 * wC x : Nat)) xs).length := by rw [numCs_len]; simpa using h'
    simp only [numCs, List.getElem_cons_succ]
    rw [numCs_at _ xs j h2 (by simpa using h')]
    congr 1
    unfold stC
    simp only [List.take_succ_cons, List.map_cons, List.sum_cons]
    omega
/-- Marked up to the element j. -/
def HalfC (d : Nat) (P : Nat → Prop) (A : Option Addr) (l : List Cn) (k : Int) (j : Nat) (w wr : World) : Prop := Fr P w wr ∧ ∃ m : List Cn, m.length = l.length ∧ (∀ i (h : i < m.length) (h' : i < (numCs k l).length), i < j → m[i] = (numCs k l)[i]) ∧ (∀ i (h : i < m.length) (h' : i < l.length), j ≤ i → m[i] = l[i]) ∧ OCs d wr P A m
theorem HalfC.zero {d : Nat} {P : Nat → Prop} {A : Option Addr} {l : List Cn} {k : Int} {w : World} (h : OCs d w P A l) : HalfC d P A l k 0 w w := ⟨Fr.refl _ _, l, rfl, fun _ _ _ h => absurd h (Nat.not_lt_zero _), fun _ _ _ _ => rfl, h⟩
theorem HalfC.all {d : Nat} {P : Nat → Prop} {A : Option Addr} {l : List Cn} {k : Int} {j : Nat} {w wr : World} (h : HalfC d P A l k j w wr) (hj : l.length ≤ j) : OCs d wr P A (numCs k l) := by
  obtain ⟨_, m, hm, h1, _, h3⟩ := h
  have e : m = numCs k l := List.ext_getElem (by rw [hm, numCs_len]) (fun i a b => h1 i a b (by omega))
  rw [← e]; exact h3
theorem HalfC.at_ {d : Nat} {P : Nat → Prop} {A : Option Addr} {l : List Cn} {k S : Int} {j : Nat} {w wr : World} (h : HalfC d P A l k j w wr) (hj : j < l.length) (hS : S = (stC l j : Nat)) :
    ∃ (g : Nat) (cs : Array Value) (Q : Nat → Prop) (A' : Option Addr) (cap : Nat), A = some ⟨g, 0, none⟩ ∧ wr.heap[g]? = some (.cells cs 57 (0, 0)) ∧ cs[j * 9]? = some (.int .i64 l[j].pat.op) ∧ cs[j * 9 + 1]? = some (.int .i64 l[j].pat.ctor) ∧ cs[j * 9 + 2]? = some (.int .i64 l[j].pat.n) ∧ cs[j * 9 + 3]? = some (.int .i64 l[j].pat.m) ∧ cs[j * 9 + 4]? = some (.int .i64 l[j].pat.var) ∧ cs[j * 9 + 5]? = some (.slice A' l[j].pat.kids.length cap) ∧ cs[j * 9 + 6]? = some (.int .i64 l[j].g0) ∧ cs[j * 9 + 7]? = some (.int .i64 l[j].g1) ∧ cs[j * 9 + 8]? = some (.int .i64 l[j].g2) ∧ OPs d wr Q A' l[j].pat.kids ∧ ¬ Q g ∧
      ∀ (w3 : World) (cs3 : Array Value), w3.heap[g]? = some (.cells cs3 57 (0, 0)) → (∀ i c, i ≠ j → c < 9 → cs3[i * 9 + c]? = cs[i * 9 + c]?) → cs3[j * 9]? = some (.int .i64 (k + S)) → cs3[j * 9 + 1]? = some (.int .i64 (k + S + 1)) → cs3[j * 9 + 2]? = some (.int .i64 (k + S + 2)) → cs3[j * 9 + 3]? = some (.int .i64 (k + S + 3)) → cs3[j * 9 + 4]? = some (.int .i64 (k + S + 4)) → cs3[j * 9 + 5]? = some (.slice A' l[j].pat.kids.length cap) → cs3[j * 9 + 6]? = some (.int .i64 (k + S + (5 + 5 * wC l[j] : Nat))) → cs3[j * 9 + 7]? = some (.int .i64 (k + S + (5 + 5 * wC l[j] : Nat) + 1)) → cs3[j * 9 + 8]? = some (.int .i64 (k + S + (5 + 5 * wC l[j] : Nat) + 2)) → OPs d w3 Q A' (numPs (k + S + 5) l[j].pat.kids) → Fr (fun b => Q b ∨ b = g) wr w3 → HalfC d P A l k (j + 1) w w3 := by
  obtain ⟨hf, m, hm, h1, h2, h3⟩ := h
  obtain ⟨hl, hp⟩ := h3
  obtain ⟨g, cs, Q, rfl, hg, hh, hq, hc⟩ := hp (by omega)
  have hc' := hc
  obtain ⟨A', cap, e0, e1, e2, e3, e4, e5, e6, e7, e8, e9⟩ := hc j (by omega)
  have hmj : m[j]'(by omega) = l[j] := h2 j (by omega) hj (Nat.le_refl _)
  simp only [hmj] at e0 e1 e2 e3 e4 e5 e6 e7 e8 e9
  refine ⟨g, cs, Q j, A', cap, rfl, hh, e0, e1, e2, e3, e4, e5, e6, e7, e8, e9, fun hqg => (hq j g (by omega) hqg).2.1 rfl, ?_⟩
  intro w3 cs3 hg3 hsame f0 f1 f2 f3 f4 f5 f6 f7 f8 ho3 hf3
  have hnj : (numCs k l)[j]'(by rw [numCs_len]; exact hj) = numC (k + S) l[j] := by rw [numCs_at _ _ _ _ hj, hS]
  refine ⟨hf.trans (hf3.wide (fun b hb => ?_)), m.set j (numC (k + S) l[j]), by simp [hm], fun i h h' hij => ?_, fun i h h' hij => ?_, by simpa using hl, fun _ => ⟨g, cs3, Q, rfl, hg, hg3, fun i b hi hb => ?_, fun i hi => ?_⟩⟩
  · rcases hb with hb | hb
    · exact (hq j b (by omega) hb).1
    · rw [hb]; exact hg
  · by_cases e : i = j
    · subst e
      simp only [List.getElem_set_self]
      exact hnj.symm
    · rw [List.getElem_set_ne (by omega)]
      exact h1 i (by simpa using h) h' (by omega)
  · rw [List.getElem_set_ne (by omega)]
    exact h2 i (by simpa using h) h' (by omega)
  · simp only [List.length_set] at hi
    obtain ⟨a1, a2, a3⟩ := hq i b hi hb
    exact ⟨a1, a2, fun i' hi' => a3 i' (by simpa using hi')⟩
  · simp only [List.length_set] at hi
    by_cases e : i = j
    · subst e
      simp only [List.getElem_set_self, numC, Pt.op, Pt.ctor, Pt.n, Pt.m, Pt.var, Pt.kids, numPs_len]
      exact ⟨A', cap, f0, f1, f2, f3, f4, f5, f6, f7, f8, ho3⟩
    · rw [List.getElem_set_ne (by omega)]
      obtain ⟨A2, c2, q0, q1, q2, q3, q4, q5, q6, q7, q8, q9⟩ := hc' i hi
      refine ⟨A2, c2, (hsame i 0 e (by omega)).trans q0, (hsame i 1 e (by omega)).trans q1, (hsame i 2 e (by omega)).trans q2, (hsame i 3 e (by omega)).trans q3, (hsame i 4 e (by omega)).trans q4, (hsame i 5 e (by omega)).trans q5, (hsame i 6 e (by omega)).trans q6, (hsame i 7 e (by omega)).trans q7, (hsame i 8 e (by omega)).trans q8, q9.fr d hf3 (fun b hb => ?_)⟩
      rintro (hb' | hb')
      · exact (hq i b hi hb).2.2 j (by omega) (by omega) hb'
      · exact (hq i b hi hb).2.1 hb'
theorem blk_some {w : World} {g i : Nat} {cs : Array Value} {e : TypeId} (h : w.heap[g]? = some (.cells cs e (0, 0))) (hi : i < cs.size) : ∃ v, w.cell? ⟨g, i, none⟩ = some v := ⟨cs[i], by rw [cell_of_blk h]; exact Array.getElem?_eq_getElem hi⟩
set_option maxHeartbeats 3200000 in
theorem mkC_any (d : Nat) (P : Nat → Prop) (A : Option Addr) (l : List Cn) (cap : Nat) (k : Int) (w : World) (hr : OCs d w P A l) (hn : wCs l ≤ 1048576) (h0 : 0 ≤ k) (h1 : k + (stC l l.length : Nat) ≤ 16777216) :
    Calls Tryz.prog 47 #[.slice A l.length cap, .int .i64 k] w fun e w' => e = .returned (.int .i64 (k + (stC l l.length : Nat))) ∧ OCs d w' P A (numCs k l) ∧ Fr P w w' := by
  have HSum : Hid (wCs l = l.length + (l.map wC).sum) := rfl
  have hlb : l.length ≤ 1048576 := by have := HSum.out; omega
  have hll := hr.1
  unfold maxLen at hll
  have HZ := Lib.hid (HalfC.zero (k := k) hr)
  have IH := Lib.hid (mkP_any d)
  clear hr
  go_enter Tryz.func47, Tryz.ntmps47
  go_wp2_with fail
  go_loopw [1, 5] (fun q i wr => ∃ j : Nat, j ≤ l.length ∧ i = .int .i64 j ∧ ∃ S : Nat, q = .int .i64 (k + S) ∧ Hid ((S : Int) = (stC l j : Nat)) ∧ Hid (HalfC d P A l k j w wr)) (fun _ i _ => l.length - (intOf i).toNat)
  case atStart => exact ⟨0, by omega, rfl, 0, by simp, by unfold Hid; rw [stC_zero], HZ⟩
  case round =>
    obtain ⟨j, hj, rfl, S, rfl, HS, HH⟩ := hrel
    clear HZ
    by_cases hlt : j < l.length
    · have HT := Lib.hid (stC_succ l j hlt)
      have HL := Lib.hid (stC_le l (j + 1) hlt)
      have HWC : Hid (wC l[j] = wPs l[j].pat.kids) := rfl
      have hSb : k + (S : Int) + 8 + 5 * (wPs l[j].pat.kids : Int) ≤ 16777216 ∧ wPs l[j].pat.kids ≤ 1048576 := by
        have b1 := sum_take_succ wC l j hlt; have b2 := sum_take_le wC l (j + 1); have b3 := HSum.out; have a1 := HT.out; have a2 := HL.out; have a4 := HS.out; have a5 := HWC.out; omega
      obtain ⟨hSb, hwb⟩ := hSb
      obtain ⟨g, cs, Q, A', cp, rfl, hg, e0, e1, e2, e3, e4, e5, e6, e7, e8, ho, hQg, hnext⟩ := HH.out.at_ hlt HS.out
      have c0 := (cell_of_blk hg (j * 9)).trans e0
      have c1 := (cell_of_blk hg (j * 9 + 1)).trans e1
      have c2 := (cell_of_blk hg (j * 9 + 2)).trans e2
      have c3 := (cell_of_blk hg (j * 9 + 3)).trans e3
      have c4 := (cell_of_blk hg (j * 9 + 4)).trans e4
      have c5 := (cell_of_blk hg (j * 9 + 5)).trans e5
      have c6 := (cell_of_blk hg (j * 9 + 6)).trans e6
      have c7 := (cell_of_blk hg (j * 9 + 7)).trans e7
      have c8 := (cell_of_blk hg (j * 9 + 8)).trans e8
      have z0 := frozen_of_row wr g (j * 9) cs 57 hg
      have z1 := frozen_of_row wr g (j * 9 + 1) cs 57 hg
      have z2 := frozen_of_row wr g (j * 9 + 2) cs 57 hg
      have z3 := frozen_of_row wr g (j * 9 + 3) cs 57 hg
      have z4 := frozen_of_row wr g (j * 9 + 4) cs 57 hg
      obtain ⟨w2, hw2⟩ : ∃ w2, w2 = (((((wr.setCell ⟨g, j * 9, none⟩ (.int .i64 (k + S))).setCell ⟨g, j * 9 + 1, none⟩ (.int .i64 (k + S + 1))).setCell ⟨g, j * 9 + 2, none⟩ (.int .i64 (k + S + 1 + 1))).setCell ⟨g, j * 9 + 3, none⟩ (.int .i64 (k + S + 1 + 1 + 1))).setCell ⟨g, j * 9 + 4, none⟩ (.int .i64 (k + S + 1 + 1 + 1 + 1))) := ⟨_, rfl⟩
      have F2 : Fr (fun b => b = g) wr w2 := by rw [hw2]; exact (((((Fr.set (P := fun b => b = g) _ _ _ _ rfl).trans (Fr.set _ _ _ _ rfl)).trans (Fr.set _ _ _ _ rfl)).trans (Fr.set _ _ _ _ rfl)).trans (Fr.set _ _ _ _ rfl))
      have G2 : Hid (w2.heap[g]? = some (.cells (((((cs.setIfInBounds (j * 9) (.int .i64 (k + S))).setIfInBounds (j * 9 + 1) (.int .i64 (k + S + 1))).setIfInBounds (j * 9 + 2) (.int .i64 (k + S + 1 + 1))).setIfInBounds (j * 9 + 3) (.int .i64 (k + S + 1 + 1 + 1))).setIfInBounds (j * 9 + 4) (.int .i64 (k + S + 1 + 1 + 1 + 1))) 57 (0, 0))) := by
        rw [hw2]
        unfold Hid
        refine heap_setCell_same _ g _ _ _ _ ?_
        refine heap_setCell_same _ g _ _ _ _ ?_
        refine heap_setCell_same _ g _ _ _ _ ?_
        refine heap_setCell_same _ g _ _ _ _ ?_
        refine heap_setCell_same _ g _ _ _ _ ?_
        exact hg
      have O2 := Lib.hid (ho.fr _ F2 (fun b hb e => hQg (e ▸ hb)))
      have HF2 := Lib.hid F2
      have HQg := Lib.hid hQg
      have HN := Lib.hid hnext
      have HW2 := Lib.hid hw2
      have HE5 := Lib.hid e5
      have HE8 := Lib.hid e8
      clear hw2 F2 hQg hnext ho e0 e1 e2 e3 e4 e5 e6 e7 e8
      go_wp2_with (go_at_call 112; rw [← HW2.out]; refine (IH.out Q A' l[j].pat.kids cp _ w2 O2.out (by omega) (by omega) (by omega)).mono ?_; rintro e w3 ⟨rfl, ho3, hf3⟩; have G3 := Lib.hid (hf3.block G2.out HQg.out); have z6 := frozen_of_row w3 g (j * 9 + 6) _ 57 G3.out; have z7 := frozen_of_row w3 g (j * 9 + 7) _ 57 G3.out; have z8 := frozen_of_row w3 g (j * 9 + 8) _ 57 G3.out; have hz : j * 9 + 8 < cs.size := (Array.getElem?_eq_some_iff.1 HE8.out).1; have s6 : ∃ v, w3.cell? ⟨g, j * 9 + 6, none⟩ = some v := (blk_some G3.out (by simp; omega)); have s7 : ∃ v, w3.cell? ⟨g, j * 9 + 7, none⟩ = some v := (blk_some G3.out (by simp; omega)); have s8 : ∃ v, w3.cell? ⟨g, j * 9 + 8, none⟩ = some v := (blk_some G3.out (by simp; omega)); obtain ⟨v6, c6'⟩ := s6; obtain ⟨v7, c7'⟩ := s7; obtain ⟨v8, c8'⟩ := s8)
      have hk2 : k + S + 1 + 1 + 1 + 1 + 1 = k + S + 5 := by omega
      have ho3' : OPs d w3 Q A' (numPs (k + S + 5) l[j].pat.kids) := by rw [← hk2]; exact ho3
      obtain ⟨w4, hw4⟩ : ∃ w4, w4 = (((w3.setCell ⟨g, j * 9 + 6, none⟩ (.int .i64 (k + (S : Int) + 1 + 1 + 1 + 1 + 1 + 5 * (wPs l[j].pat.kids : Nat)))).setCell ⟨g, j * 9 + 7, none⟩ (.int .i64 (k + (S : Int) + 1 + 1 + 1 + 1 + 1 + 5 * (wPs l[j].pat.kids : Nat) + 1))).setCell ⟨g, j * 9 + 8, none⟩ (.int .i64 (k + (S : Int) + 1 + 1 + 1 + 1 + 1 + 5 * (wPs l[j].pat.kids : Nat) + 1 + 1))) := ⟨_, rfl⟩
      have F4 : Fr (fun b => b = g) w3 w4 := by rw [hw4]; exact (((Fr.set (P := fun b => b = g) _ _ _ _ rfl).trans (Fr.set _ _ _ _ rfl)).trans (Fr.set _ _ _ _ rfl))
      have G4 : Hid (w4.heap[g]? = some (.cells ((((((((cs.setIfInBounds (j * 9) (.int .i64 (k + S))).setIfInBounds (j * 9 + 1) (.int .i64 (k + S + 1))).setIfInBounds (j * 9 + 2) (.int .i64 (k + S + 1 + 1))).setIfInBounds (j * 9 + 3) (.int .i64 (k + S + 1 + 1 + 1))).setIfInBounds (j * 9 + 4) (.int .i64 (k + S + 1 + 1 + 1 + 1))).setIfInBounds (j * 9 + 6) (.int .i64 (k + (S : Int) + 1 + 1 + 1 + 1 + 1 + 5 * (wPs l[j].pat.kids : Nat)))).setIfInBounds (j * 9 + 7) (.int .i64 (k + (S : Int) + 1 + 1 + 1 + 1 + 1 + 5 * (wPs l[j].pat.kids : Nat) + 1))).setIfInBounds (j * 9 + 8) (.int .i64 (k + (S : Int) + 1 + 1 + 1 + 1 + 1 + 5 * (wPs l[j].pat.kids : Nat) + 1 + 1))) 57 (0, 0))) := by
        rw [hw4]
        unfold Hid
        refine heap_setCell_same _ g _ _ _ _ ?_
        refine heap_setCell_same _ g _ _ _ _ ?_
        refine heap_setCell_same _ g _ _ _ _ ?_
        exact G3.out
      have O4 : OPs d w4 Q A' (numPs (k + S + 5) l[j].pat.kids) := ho3'.fr _ F4 (fun b hb e => HQg.out (e ▸ hb))
      have HH4 : Hid (HalfC d P (some ⟨g, 0, none⟩) l k (j + 1) w w4) := by
        refine HN.out w4 _ G4.out (fun i c hi hc => ?_) ?_ ?_ ?_ ?_ ?_ ?_ ?_ ?_ ?_ O4 (((HF2.out.wide (fun b hb => .inr hb)).trans (hf3.wide (fun b hb => .inl hb))).trans (F4.wide (fun b hb => .inr hb)))
        · have h1 : i * 9 + c ≠ j * 9 ∧ i * 9 + c ≠ j * 9 + 1 ∧ i * 9 + c ≠ j * 9 + 2 ∧ i * 9 + c ≠ j * 9 + 3 ∧ i * 9 + c ≠ j * 9 + 4 ∧ i * 9 + c ≠ j * 9 + 6 ∧ i * 9 + c ≠ j * 9 + 7 ∧ i * 9 + c ≠ j * 9 + 8 := by omega
          simp only [Array.getElem?_setIfInBounds_ne (Ne.symm h1.1), Array.getElem?_setIfInBounds_ne (Ne.symm h1.2.1), Array.getElem?_setIfInBounds_ne (Ne.symm h1.2.2.1), Array.getElem?_setIfInBounds_ne (Ne.symm h1.2.2.2.1), Array.getElem?_setIfInBounds_ne (Ne.symm h1.2.2.2.2.1), Array.getElem?_setIfInBounds_ne (Ne.symm h1.2.2.2.2.2.1), Array.getElem?_setIfInBounds_ne (Ne.symm h1.2.2.2.2.2.2.1), Array.getElem?_setIfInBounds_ne (Ne.symm h1.2.2.2.2.2.2.2)]
        · simp [show j * 9 < cs.size by omega]
        · simp [show j * 9 + 1 < cs.size by omega]
        · simp [show j * 9 + 2 < cs.size by omega] <;> omega
        · simp [show j * 9 + 3 < cs.size by omega] <;> omega
        · simp [show j * 9 + 4 < cs.size by omega] <;> omega
        · simpa using HE5.out
        · rw [HWC.out]; simp [show j * 9 + 6 < cs.size by omega] <;> omega
        · rw [HWC.out]; simp [show j * 9 + 7 < cs.size by omega] <;> omega
        · rw [HWC.out]; simp [show j * 9 + 8 < cs.size by omega] <;> omega
      have HW4 := Lib.hid hw4
      clear hw4 F4 O4 ho3' ho3 hf3
      first | rw [← HW4.out] | skip
      go_roundw
      case rel => exact ⟨j + 1, by omega, by go_num, S + (8 + 5 * wPs l[j].pat.kids), by congr 1; push_cast; omega, by unfold Hid; have a1 := HT.out; have a2 := HS.out; have a3 := HWC.out; omega, by first | exact HH4 | (rw [HW4.out] at HH4; exact HH4)⟩
      case measure => simp [intOf]; omega
    · have HE : Hid ((S : Int) = (stC l l.length : Nat)) := by unfold Hid; rw [HS.out, show j = l.length by omega]
      have HA := Lib.hid (HH.out.all (by omega))
      go_wp2_with fail
      go_ret
      exact ⟨ret_i64 (by rw [HE.out]), HA.out, HH.out.1⟩
end Go.Proofs.YthdnfnmglhifmaaGreat
/-
  Comparison of lists of clauses, where both sides read as the same. No statement is proved here.
-/
namespace Go.Proofs.YthdnfnmglhifmaaGreat
open Go.RowKit Go.Sort
set_option maxRecDepth 100000
set_option linter.unusedVariables false
set_option maxHeartbeats 1600000 in
theorem eqCs_same (d : Nat) (A A' : Option Addr) (l : List Cn) (cap cap' : Nat) (w : World) (hr : RCs d w w.heap.size A l) (hr' : RCs d w w.heap.size A' l) :
    Calls Tryz.prog 44 #[.slice A l.length cap, .slice A' l.length cap'] w fun e w' => e = .returned (.bool true) ∧ Below w.heap.size w w' := by
  have hn := hr.1
  unfold maxLen at hn
  have Hr := Lib.hid hr
  have Hr' := Lib.hid hr'
  clear hr hr'
  go_enter Tryz.func44, Tryz.ntmps44
  go_wp2_with fail
  go_loopw [5] (fun i wr => ∃ k : Nat, k ≤ l.length ∧ i = .int .i64 k ∧ Below w.heap.size w wr) (fun i _ => l.length - (intOf i).toNat)
  case atStart => exact ⟨0, by omega, rfl, Below.refl _ _⟩
  case round =>
    obtain ⟨k, hk, rfl, hb⟩ := hrel
    by_cases hlt : k < l.length
    · obtain ⟨b, off, rfl, hbB, B1, cp, c0, c1, c2, c3, c4, c5, c6, c7, c8, hm⟩ := (Hr.out.below hb (Nat.le_refl _)).2 k hlt
      obtain ⟨b', off', rfl, hbB', B2, cp', c0q, c1q, c2q, c3q, c4q, c5q, c6q, c7q, c8q, hm'⟩ := (Hr'.out.below hb (Nat.le_refl _)).2 k hlt
      have d0 := cell_regrown c0
      have d0q := cell_regrown c0q
      have d1 := cell_regrown c1
      have d1q := cell_regrown c1q
      have d2 := cell_regrown c2
      have d2q := cell_regrown c2q
      have d3 := cell_regrown c3
      have d3q := cell_regrown c3q
      have d4 := cell_regrown c4
      have d4q := cell_regrown c4q
      have d5 := cell_regrown c5
      have d5q := cell_regrown c5q
      have d6 := cell_regrown c6
      have d6q := cell_regrown c6q
      have d7 := cell_regrown c7
      have d7q := cell_regrown c7q
      have d8 := cell_regrown c8
      have d8q := cell_regrown c8q
      have Hm := Lib.hid hm
      have Hm' := Lib.hid hm'
      clear c0 c0q c1 c1q c2 c2q c3 c3q c4 c4q c5 c5q c6 c6q c7 c7q c8 c8q hm hm'
      have hi : (k : Int) < (l.length : Int) := by omega
      go_wp2_with fail
      refine wp_region_quiet_below (by kernel_rfl) (by kernel_rfl) ?_
      repeat (quiet_step (exact Calls.regrown_of (eqC_same d _ _ _ _ _ _ _ _ _ _ _ _ _ _ (Hm.out.keep (fun p hp => (below_regrown wr _ _).cell (Nat.lt_of_lt_of_le hp hb.size)) (Nat.le_trans hb.size (below_regrown wr _ _).size)) (Hm'.out.keep (fun p hp => (below_regrown wr _ _).cell (Nat.lt_of_lt_of_le hp hb.size)) (Nat.le_trans hb.size (below_regrown wr _ _).size)))))
      refine wpQuiet_nil ?_
      intro _ hw'
      obtain ⟨⟨dq, osq⟩, hw''⟩ := hw'
      subst hw''
      have hb2 := hb.trans ((below_regrown wr dq osq).mono hb.size)
      clear d0 d0q d1 d1q d2 d2q d3 d3q d4 d4q d5 d5q d6 d6q d7 d7q d8 d8q
      go_wp2_with fail
      go_roundw
      case rel => exact ⟨k + 1, by omega, by go_num, hb2⟩
      case measure => simp [intOf]; omega
    · go_wp2_with fail
      go_ret
      exact ⟨rfl, hb⟩
end Go.Proofs.YthdnfnmglhifmaaGreat
