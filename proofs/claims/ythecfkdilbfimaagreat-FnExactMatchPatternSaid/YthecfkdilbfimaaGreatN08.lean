/-
  Lists of what variables stand for that are marked where they lie. No statement is proved here.
-/
import Derived.Test.YthecfkdilbfimaaGreatN00
import Derived.Test.YthecfkdilbfimaaGreatK06
namespace Go.Proofs.YthecfkdilbfimaaGreat
open Go.RowKit
set_option maxRecDepth 100000
set_option linter.unusedVariables false

def numB (k : Int) (x : Bn) : Bn := ⟨k, .mk (k + 1) (k + 2) (numVs (k + 3) x.val.kids)⟩
def numBs : Int → List Bn → List Bn
  | _, [] => []
  | k, x :: xs => numB k x :: numBs (k + (3 + 2 * wB x : Nat)) xs
def stB (l : List Bn) (j : Nat) : Nat := 3 * j + 2 * ((l.take j).map wB).sum
theorem stB_zero (l : List Bn) : stB l 0 = 0 := rfl
theorem stB_succ (l : List Bn) (j : Nat) (h : j < l.length) : stB l (j + 1) = stB l j + (3 + 2 * wB l[j]) := by
  unfold stB; rw [sum_take_succ wB l j h]; omega
theorem stB_le (l : List Bn) (j : Nat) (h : j ≤ l.length) : stB l j ≤ stB l l.length := by
  unfold stB; have := sum_take_le wB l j; rw [List.take_length]; omega
theorem numBs_len : ∀ (k : Int) (l : List Bn), (numBs k l).length = l.length
  | _, [] => by rw [numBs]
  | k, x :: xs => by rw [numBs, List.length_cons, numBs_len, List.length_cons]
theorem numBs_at : ∀ (k : Int) (l : List Bn) (j : Nat) (h : j < (numBs k l).length) (h' : j < l.length), (numBs k l)[j] = numB (k + (stB l j : Nat)) l[j]
  | _, [], j, _, h' => absurd h' (Nat.not_lt_zero _)
  | k, x :: xs, 0, h, h' => by
    simp only [numBs, List.getElem_cons_zero, stB_zero]
    congr 1
    omega
  | k, x :: xs, j + 1, h, h' => by
    have h2 : j < (numBs (k + (3 + 2 * wB x : Nat)) xs).length := by rw [numBs_len]; simpa using h'
    simp only [numBs, List.getElem_cons_succ]
    rw [numBs_at _ xs j h2 (by simpa using h')]
    congr 1
    unfold stB
    simp only [List.take_succ_cons, List.map_cons, List.sum_cons]
    omega
def HalfB (d : Nat) (P : Nat → Prop) (A : Option Addr) (l : List Bn) (k : Int) (j : Nat) (w wr : World) : Prop := Fr P w wr ∧ ∃ m : List Bn, m.length = l.length ∧ (∀ i (h : i < m.length) (h' : i < (numBs k l).length), i < j → m[i] = (numBs k l)[i]) ∧ (∀ i (h : i < m.length) (h' : i < l.length), j ≤ i → m[i] = l[i]) ∧ OBs d wr P A m
theorem HalfB.zero {d : Nat} {P : Nat → Prop} {A : Option Addr} {l : List Bn} {k : Int} {w : World} (h : OBs d w P A l) : HalfB d P A l k 0 w w := ⟨Fr.refl _ _, l, rfl, fun _ _ _ h => absurd h (Nat.not_lt_zero _), fun _ _ _ _ => rfl, h⟩
theorem HalfB.all {d : Nat} {P : Nat → Prop} {A : Option Addr} {l : List Bn} {k : Int} {j : Nat} {w wr : World} (h : HalfB d P A l k j w wr) (hj : l.length ≤ j) : OBs d wr P A (numBs k l) := by
  obtain ⟨_, m, hm, h1, _, h3⟩ := h
  have e : m = numBs k l := List.ext_getElem (by rw [hm, numBs_len]) (fun i a b => h1 i a b (by omega))
  rw [← e]; exact h3
theorem HalfB.at_ {d : Nat} {P : Nat → Prop} {A : Option Addr} {l : List Bn} {k S : Int} {j : Nat} {w wr : World} (h : HalfB d P A l k j w wr) (hj : j < l.length) (hS : S = (stB l j : Nat)) :
    ∃ (g : Nat) (cs : Array Value) (Q : Nat → Prop) (A' : Option Addr) (cap : Nat), A = some ⟨g, 0, none⟩ ∧ wr.heap[g]? = some (.cells cs 128 (0, 0)) ∧ cs[j * 4]? = some (.int .i64 l[j].var) ∧ cs[j * 4 + 1]? = some (.int .i64 l[j].val.ctor) ∧ cs[j * 4 + 2]? = some (.int .i64 l[j].val.n) ∧ cs[j * 4 + 3]? = some (.slice A' l[j].val.kids.length cap) ∧ OVs d wr Q A' l[j].val.kids ∧ ¬ Q g ∧
      ∀ (w3 : World) (cs3 : Array Value), w3.heap[g]? = some (.cells cs3 128 (0, 0)) → (∀ i c, i ≠ j → c < 4 → cs3[i * 4 + c]? = cs[i * 4 + c]?) → cs3[j * 4]? = some (.int .i64 (k + S)) → cs3[j * 4 + 1]? = some (.int .i64 (k + S + 1)) → cs3[j * 4 + 2]? = some (.int .i64 (k + S + 2)) → cs3[j * 4 + 3]? = some (.slice A' l[j].val.kids.length cap) → OVs d w3 Q A' (numVs (k + S + 3) l[j].val.kids) → Fr (fun b => Q b ∨ b = g) wr w3 → HalfB d P A l k (j + 1) w w3 := by
  obtain ⟨hf, m, hm, h1, h2, h3⟩ := h
  obtain ⟨hl, hp⟩ := h3
  obtain ⟨g, cs, Q, rfl, hg, hh, hq, hc⟩ := hp (by omega)
  have hc' := hc
  obtain ⟨A', cap, e0, e1, e2, e8, e9⟩ := hc j (by omega)
  have hmj : m[j]'(by omega) = l[j] := h2 j (by omega) hj (Nat.le_refl _)
  simp only [hmj] at e0 e1 e2 e8 e9
  refine ⟨g, cs, Q j, A', cap, rfl, hh, e0, e1, e2, e8, e9, fun hqg => (hq j g (by omega) hqg).2.1 rfl, ?_⟩
  intro w3 cs3 hg3 hsame f0 f1 f2 f8 ho3 hf3
  have hnj : (numBs k l)[j]'(by rw [numBs_len]; exact hj) = numB (k + S) l[j] := by rw [numBs_at _ _ _ _ hj, hS]
  refine ⟨hf.trans (hf3.wide (fun b hb => ?_)), m.set j (numB (k + S) l[j]), by simp [hm], fun i h h' hij => ?_, fun i h h' hij => ?_, by simpa using hl, fun _ => ⟨g, cs3, Q, rfl, hg, hg3, fun i b hi hb => ?_, fun i hi => ?_⟩⟩
  · rcases hb with hb | hb
    · exact (hq j b (by omega) hb).1
    · rw [hb]; exact hg
  · by_cases e : i = j
    · subst e
      simp only [List.getElem_set_self]
      exact hnj.symm
    · rw [List.getElem_set_ne (by omega)]
      exact h1 i (by simpa using h) h' (by omega)
  · rw [List.getElem_set_ne (by omega)]
    exact h2 i (by simpa using h) h' (by omega)
  · simp only [List.length_set] at hi
    obtain ⟨a1, a2, a3⟩ := hq i b hi hb
    exact ⟨a1, a2, fun i' hi' => a3 i' (by simpa using hi')⟩
  · simp only [List.length_set] at hi
    by_cases e : i = j
    · subst e
      simp only [List.getElem_set_self, numB, Vl.ctor, Vl.n, Vl.kids, numVs_len]
      exact ⟨A', cap, f0, f1, f2, f8, ho3⟩
    · rw [List.getElem_set_ne (by omega)]
      obtain ⟨A2, c2, q0, q1, q2, q8, q9⟩ := hc' i hi
      refine ⟨A2, c2, (hsame i 0 e (by omega)).trans q0, (hsame i 1 e (by omega)).trans q1, (hsame i 2 e (by omega)).trans q2, (hsame i 3 e (by omega)).trans q8, q9.fr d hf3 (fun b hb => ?_)⟩
      rintro (hb' | hb')
      · exact (hq i b hi hb).2.2 j (by omega) (by omega) hb'
      · exact (hq i b hi hb).2.1 hb'

set_option maxHeartbeats 1600000 in
theorem mkB_any (d : Nat) (P : Nat → Prop) (A : Option Addr) (l : List Bn) (cap : Nat) (k : Int) (w : World) (hr : OBs d w P A l) (hn : stB l l.length ≤ 1048576) (h0 : 0 ≤ k) (h1 : k + (stB l l.length : Nat) ≤ 16777216) :
    Calls Tryz.prog 37 #[.slice A l.length cap, .int .i64 k] w fun e w' => e = .returned (.int .i64 (k + (stB l l.length : Nat))) ∧ OBs d w' P A (numBs k l) ∧ Fr P w w' := by
  have hlb : l.length ≤ 1048576 := by unfold stB at hn; omega
  have HZ := Lib.hid (HalfB.zero (k := k) hr)
  have IH := Lib.hid (mkV_any d)
  clear hr
  go_enter Tryz.func37, Tryz.ntmps37
  go_wp2_with fail
  go_loopw [1, 5] (fun q i wr => ∃ j : Nat, j ≤ l.length ∧ i = .int .i64 j ∧ ∃ S : Nat, q = .int .i64 (k + S) ∧ Hid ((S : Int) = (stB l j : Nat)) ∧ Hid (HalfB d P A l k j w wr)) (fun _ i _ => l.length - (intOf i).toNat)
  case atStart => exact ⟨0, by omega, rfl, 0, by simp, by unfold Hid; rw [stB_zero], HZ⟩
  case round =>
    obtain ⟨j, hj, rfl, S, rfl, HS, HH⟩ := hrel
    clear HZ
    by_cases hlt : j < l.length
    · have HT := Lib.hid (stB_succ l j hlt)
      have HL := Lib.hid (stB_le l (j + 1) hlt)
      have HWB : Hid (wB l[j] = wVs l[j].val.kids) := rfl
      have hSb : k + (S : Int) + 3 + 2 * (wVs l[j].val.kids : Int) ≤ 16777216 ∧ wVs l[j].val.kids ≤ 1048576 := by
        have a1 := HT.out; have a2 := HL.out; have a4 := HS.out; have a5 := HWB.out; omega
      obtain ⟨hSb, hwb⟩ := hSb
      obtain ⟨g, cs, Q, A', cp, rfl, hg, e0, e1, e2, e8, ho, hQg, hnext⟩ := HH.out.at_ hlt HS.out
      have c0 := (cell_of_blk hg (j * 4)).trans e0
      have c1 := (cell_of_blk hg (j * 4 + 1)).trans e1
      have c2 := (cell_of_blk hg (j * 4 + 2)).trans e2
      have c8 := (cell_of_blk hg (j * 4 + 3)).trans e8
      have z0 := frozen_of_row wr g (j * 4) cs 128 hg
      have z1 := frozen_of_row wr g (j * 4 + 1) cs 128 hg
      have z2 := frozen_of_row wr g (j * 4 + 2) cs 128 hg
      obtain ⟨w2, hw2⟩ : ∃ w2, w2 = (((wr.setCell ⟨g, j * 4, none⟩ (.int .i64 (k + S))).setCell ⟨g, j * 4 + 1, none⟩ (.int .i64 (k + S + 1))).setCell ⟨g, j * 4 + 2, none⟩ (.int .i64 (k + S + 1 + 1))) := ⟨_, rfl⟩
      have F2 : Fr (fun b => b = g) wr w2 := by rw [hw2]; exact (((Fr.set (P := fun b => b = g) _ _ _ _ rfl).trans (Fr.set _ _ _ _ rfl)).trans (Fr.set _ _ _ _ rfl))
      have G2 : Hid (w2.heap[g]? = some (.cells (((cs.setIfInBounds (j * 4) (.int .i64 (k + S))).setIfInBounds (j * 4 + 1) (.int .i64 (k + S + 1))).setIfInBounds (j * 4 + 2) (.int .i64 (k + S + 1 + 1))) 128 (0, 0))) := by
        rw [hw2]
        unfold Hid
        refine heap_setCell_same _ g _ _ _ _ ?_
        refine heap_setCell_same _ g _ _ _ _ ?_
        refine heap_setCell_same _ g _ _ _ _ ?_
        exact hg
      have O2 := Lib.hid (ho.fr _ F2 (fun b hb e => hQg (e ▸ hb)))
      have HF2 := Lib.hid F2
      have HQg := Lib.hid hQg
      have HN := Lib.hid hnext
      have HW2 := Lib.hid hw2
      clear hw2 F2 hQg hnext ho
      go_wp2_with fail
      rw [← HW2.out]
      refine (IH.out Q A' l[j].val.kids cp _ w2 O2.out hwb (by omega) (by omega)).mono ?_
      rintro e w3 ⟨rfl, ho3, hf3⟩
      have hk2 : k + S + 1 + 1 + 1 = k + S + 3 := by omega
      have hk3 : k + (S : Int) + 1 + 1 = k + S + 2 := by omega
      have ho3' : OVs d w3 Q A' (numVs (k + S + 3) l[j].val.kids) := by rw [← hk2]; exact ho3
      have HH3 : Hid (HalfB d P (some ⟨g, 0, none⟩) l k (j + 1) w w3) := by
        have hz : j * 4 + 3 < cs.size := (Array.getElem?_eq_some_iff.1 e8).1
        refine HN.out w3 _ (hf3.block G2.out HQg.out) (fun i c hi hc => ?_) ?_ ?_ ?_ ?_ ho3' ((HF2.out.wide (fun b hb => .inr hb)).trans (hf3.wide (fun b hb => .inl hb)))
        · have h1 : i * 4 + c ≠ j * 4 ∧ i * 4 + c ≠ j * 4 + 1 ∧ i * 4 + c ≠ j * 4 + 2 := by omega
          simp only [Array.getElem?_setIfInBounds_ne (Ne.symm h1.1), Array.getElem?_setIfInBounds_ne (Ne.symm h1.2.1), Array.getElem?_setIfInBounds_ne (Ne.symm h1.2.2)]
        · simp [show j * 4 < cs.size by omega]
        · simp [show j * 4 + 1 < cs.size by omega]
        · simp [show j * 4 + 2 < cs.size by omega, hk3]
        · simpa using e8
      clear c0 c1 c2 c8 z0 z1 z2 hk3 hk2
      go_wp2_with fail
      go_roundw
      case rel => exact ⟨j + 1, by omega, by go_num, S + (3 + 2 * wVs l[j].val.kids), by congr 1; push_cast; omega, by unfold Hid; have a1 := HT.out; have a2 := HS.out; have a3 := HWB.out; omega, HH3⟩
      case measure => simp [intOf]; omega
    · have HE : Hid ((S : Int) = (stB l l.length : Nat)) := by unfold Hid; rw [HS.out, show j = l.length by omega]
      have HA := Lib.hid (HH.out.all (by omega))
      go_wp2_with fail
      go_ret
      exact ⟨ret_i64 (by rw [HE.out]), HA.out, HH.out.1⟩
end Go.Proofs.YthecfkdilbfimaaGreat
namespace Go.Proofs.YthecfkdilbfimaaGreat
open Go.RowKit
set_option maxRecDepth 100000
set_option linter.unusedVariables false

set_option maxHeartbeats 1600000 in
theorem hdB_any (d : Nat) (A : Option Addr) (l : List Bn) (cap : Nat) (k : Int) (w : World) (hr : RBs d w w.heap.size A (numBs k l)) (hn : stB l l.length ≤ 1048576) (h0 : 0 ≤ k) (h1 : k + (stB l l.length : Nat) ≤ 16777216) :
    Calls Tryz.prog 38 #[.slice A l.length cap, .int .i64 k] w fun e w' => e = .returned (.int .i64 (k + (stB l l.length : Nat))) ∧ w = w' := by
  have hlb : l.length ≤ 1048576 := by unfold stB at hn; omega
  have Hr := Lib.hid hr
  have IH := Lib.hid (hdV_any d)
  clear hr
  go_enter Tryz.func38, Tryz.ntmps38
  go_wp2_with fail
  go_loopw [1, 5] (fun q i wr => ∃ j : Nat, j ≤ l.length ∧ i = .int .i64 j ∧ ∃ S : Nat, q = .int .i64 (k + S) ∧ Hid ((S : Int) = (stB l j : Nat)) ∧ w = wr) (fun _ i _ => l.length - (intOf i).toNat)
  case atStart => exact ⟨0, by omega, rfl, 0, by simp, by unfold Hid; rw [stB_zero], rfl⟩
  case round =>
    obtain ⟨j, hj, rfl, S, rfl, HS, rfl⟩ := hrel
    by_cases hlt : j < l.length
    · have HT := Lib.hid (stB_succ l j hlt)
      have HL := Lib.hid (stB_le l (j + 1) hlt)
      have HWB : Hid (wB l[j] = wVs l[j].val.kids) := rfl
      have hSb : k + (S : Int) + 3 + 2 * (wVs l[j].val.kids : Int) ≤ 16777216 ∧ wVs l[j].val.kids ≤ 1048576 := by
        have a1 := HT.out; have a2 := HL.out; have a4 := HS.out; have a5 := HWB.out; omega
      obtain ⟨hSb, hwb⟩ := hSb
      obtain ⟨b, off, rfl, hbB, hv⟩ := Hr.out.2 j (by rw [numBs_len]; exact hlt)
      rw [numBs_at _ _ _ _ hlt, ← HS.out] at hv
      obtain ⟨A', cp, c0, c1, c2, c8, hm⟩ := hv
      simp only [numB, Vl.ctor, Vl.n, Vl.kids, numVs_len] at c0 c1 c2 c8 hm
      have hk3 : k + (S : Int) + 1 + 1 = k + S + 2 := by omega
      rw [← hk3] at c2
      have Hm : Hid (RVs d w w.heap.size A' (numVs (k + (S : Int) + 1 + 1 + 1) l[j].val.kids)) := by unfold Hid; rw [show k + (S : Int) + 1 + 1 + 1 = k + (S : Int) + 3 by omega]; exact hm
      clear hm hk3
      go_wp2_with (go_at_call 81; refine (IH.out A' l[j].val.kids cp (k + (S : Int) + 1 + 1 + 1) _ Hm.out hwb (by omega) (by omega)).mono ?_; rintro e w3 ⟨rfl, rfl⟩)
      go_roundw
      case rel => exact ⟨j + 1, by omega, by go_num, S + (3 + 2 * wVs l[j].val.kids), by congr 1; push_cast; omega, by unfold Hid; have a1 := HT.out; have a2 := HS.out; have a3 := HWB.out; omega, by first | rfl | trivial⟩
      case measure => simp [intOf]; omega
    · have HE : Hid ((S : Int) = (stB l l.length : Nat)) := by unfold Hid; rw [HS.out, show j = l.length by omega]
      go_wp2_with fail
      go_ret
      exact ⟨ret_i64 (by rw [HE.out]), rfl⟩
end Go.Proofs.YthecfkdilbfimaaGreat
