/-
  Data types that are marked where they lie; integers that are marked and looked at again. No statement is proved here.
-/
import Derived.Test.YthebdlejoficmaaMark
import Derived.Test.YthebdlejoficmaaInts
namespace Go.Proofs.Ythebdlejoficmaa
open Go.RowKit
set_option maxRecDepth 100000
set_option linter.unusedVariables false

set_option maxHeartbeats 1600000 in
theorem markDataS_any (A : Option Addr) (l : List Da) (cap lo hi : Nat) (k : Int) (w : World) (hlo : lo ≤ w.heap.size) (hn : l.length ≤ 1048576) (ha : ∀ i (h : i < l.length), l[i].ctors.length ≤ 1048576 ∧ ∀ m (h' : m < l[i].ctors.length), l[i].ctors[m].args.length ≤ 1048576) (h0 : 1 ≤ k) (h1 : k + ((l.map mD).sum : Nat) ≤ 4194304) (hr : SDas w lo hi A l) :
    Calls Try.prog 26 #[.slice A l.length cap, .int .i64 k] w fun e w' => e = .returned (.int .i64 (k + ((l.map mD).sum : Nat))) ∧ Kept lo hi w w' := by
  have Hr := Lib.hid hr
  have HA := Lib.hid ha
  clear hr ha
  go_enter Try.func26, Try.ntmps26
  go_wp2_with fail
  go_loopw [1, 5] (fun q i wr => ∃ j : Nat, j ≤ l.length ∧ i = .int .i64 j ∧ ∃ S : Nat, q = .int .i64 (k + S) ∧ Hid (S = ((l.take j).map mD).sum) ∧ Kept lo hi w wr) (fun _ i _ => l.length - (intOf i).toNat)
  case atStart => exact ⟨0, by omega, rfl, 0, by simp, by unfold Hid; simp, Kept.refl _ _ _⟩
  case round =>
    obtain ⟨j, hj, rfl, S, rfl, HS, hk⟩ := hrel
    have HK := Lib.hid hk
    have hlw : lo ≤ wr.heap.size := Nat.le_trans hlo hk.1.size
    clear hk
    by_cases hlt : j < l.length
    · have HT := Lib.hid (sum_take_succ mD l j hlt)
      have HL := Lib.hid (sum_take_le mD l (j + 1))
      have HM : Hid (mD l[j] = 1 + (l[j].ctors.map mC).sum) := rfl
      have hma := (HA.out j hlt).1
      have hSb : k + (S : Int) + (1 + ((l[j].ctors.map mC).sum : Nat)) ≤ 4194304 := by
        have a1 := HT.out; have a2 := HL.out; have a3 := HM.out; have a4 := HS.out; omega
      obtain ⟨g, cs, rfl, hgl, hg, hc⟩ := (Hr.out.kept HK.out) (by omega)
      have hgw := heap_lt hg
      clear hg hc
      have hSh : ∀ W, Kept lo hi w W → ∃ (cs : Array Value) (s : ByteArray) (A' : Option Addr) (cp : Nat), W.heap[g]? = some (.cells cs 56 (0, 0)) ∧ cs[j * 2]? = some (.string s) ∧ cs[j * 2 + 1]? = some (.slice A' l[j].ctors.length cp) ∧ SCts W lo hi A' l[j].ctors := fun W hW => by
        obtain ⟨g', cs', e, _, hg', hc'⟩ := (Hr.out.kept hW) (by omega)
        cases e
        obtain ⟨s, A', cp, e0, e1, e3⟩ := hc' j hlt
        exact ⟨cs', s, A', cp, hg', e0, e1, e3⟩
      have HSh := Lib.hid hSh
      clear hSh
      go_wp2_with fail
      refine (markText_any _ _ (by omega) (by omega)).mono ?_
      rintro e w1 ⟨s1, rfl, _, hb1⟩
      have K1 := Lib.hid (HK.out.trans (Kept.below hb1 hlw))
      have hlw1 : lo ≤ w1.heap.size := Nat.le_trans hlw hb1.size
      obtain ⟨cs1, s0, A1, cp1, hg1, e0, e1, hty⟩ := HSh.out w1 K1.out
      have c0 := (cell_of_blk hg1 (j * 2)).trans e0
      have c1 := (cell_of_blk hg1 (j * 2 + 1)).trans e1
      have z0 := frozen_of_row w1 g (j * 2) cs1 56 hg1
      have K2 : Hid (Kept lo hi w1 (w1.setCell ⟨g, j * 2, none⟩ (.string s1))) := Kept.set hg1 hgl e0 (.inr (.inr ⟨_, _, rfl, rfl⟩))
      have HTy := Lib.hid (hty.kept K2.out)
      clear hg1 e0 e1 hty hb1
      go_wp2_with fail
      refine (markCtorS_any _ _ _ lo hi _ _ (by simpa using hlw1) hma (HA.out j hlt).2 (by omega) (by omega) HTy.out).mono ?_
      rintro e w2 ⟨rfl, hk3⟩
      have K3 := Lib.hid ((K1.out.trans K2.out).trans hk3)
      clear hk3 c0 c1 z0
      go_wp2_with fail
      go_roundw
      case rel => exact ⟨j + 1, by omega, by go_num, S + (1 + (l[j].ctors.map mC).sum), by congr 1; push_cast; omega, by unfold Hid; rw [HT.out, HM.out, HS.out], K3.out⟩
      case measure => simp [intOf]; omega
    · go_wp2_with fail
      go_ret
      exact ⟨ret_i64 (by rw [HS.out, List.take_of_length_le (by omega)]), HK.out⟩

theorem markInts_none (A : Option Addr) (cap : Nat) (k : Int) (w : World) :
    Calls Try.prog 27 #[.slice A 0 cap, .int .i64 k] w fun e w' => e = .returned (.int .i64 k) ∧ w = w' := by
  go_enter Try.func27, Try.ntmps27
  go_wp2_with fail
  go_loopw [1, 5] (fun q i wr => i = .int .i64 0 ∧ q = .int .i64 k ∧ w = wr) (fun _ _ _ => 0)
  case atStart => exact ⟨rfl, rfl, rfl⟩
  case round =>
    obtain ⟨rfl, rfl, rfl⟩ := hrel
    go_wp2_with fail
    go_ret
    exact ⟨rfl, rfl⟩

/-- The marks lie there. -/
def RMk (w : World) (A : Option Addr) (n : Nat) (k : Int) : Prop := ∀ j, j < n → ∃ b off, A = some ⟨b, off, none⟩ ∧ b < w.heap.size ∧ w.cell? ⟨b, off + j, none⟩ = some (.int .i64 (k + j))
theorem RMk.at_ {w w' : World} {A : Option Addr} {n : Nat} {k : Int} (h : RMk w A n k) (hb : Below w.heap.size w w') : RMk w' A n k := fun j hj => by
  obtain ⟨b, off, e, hbl, h1⟩ := h j hj
  exact ⟨b, off, e, Nat.lt_of_lt_of_le hbl hb.size, (hb.cell (p := ⟨b, off + j, none⟩) hbl).trans h1⟩
theorem Marked.reads {w : World} {lo g n cap : Nat} {k : Int} (h : Marked w lo (.slice (some ⟨g, 0, none⟩) n cap) n k n) : RMk w (some ⟨g, 0, none⟩) n k := fun j hj => by
  obtain ⟨xs, ho, hx⟩ := h
  refine ⟨g, 0, rfl, own_lt ho, ?_⟩
  rw [Nat.zero_add, ho.cellAt j (by omega)]
  exact hx j hj

set_option maxHeartbeats 800000 in
theorem heldInts_any (A : Option Addr) (n cap : Nat) (k : Int) (w : World) (hn : n ≤ 1048576) (h0 : 0 ≤ k) (h1 : k ≤ 1048576) (hr : RMk w A n k) :
    Calls Try.prog 28 #[.slice A n cap, .int .i64 k] w fun e w' => e = .returned (.int .i64 (k + n)) ∧ w = w' := by
  have Hr := Lib.hid hr
  clear hr
  go_enter Try.func28, Try.ntmps28
  go_wp2_with fail
  go_loopw [1, 5] (fun q i wr => ∃ j : Nat, j ≤ n ∧ i = .int .i64 j ∧ q = .int .i64 (k + j) ∧ w = wr) (fun _ i _ => n - (intOf i).toNat)
  case atStart => exact ⟨0, by omega, rfl, by simp, rfl⟩
  case round =>
    obtain ⟨j, hj, rfl, rfl, rfl⟩ := hrel
    by_cases hlt : j < n
    · obtain ⟨b, off, rfl, _, c0⟩ := Hr.out j hlt
      go_wp2_with fail
      go_roundw
      case rel => exact ⟨j + 1, by omega, by go_num, by go_num, trivial⟩
      case measure => simp [intOf]; omega
    · have he : j = n := by omega
      have HE := Lib.hid he
      clear he
      go_wp2_with fail
      go_ret
      exact ⟨ret_i64 (by rw [HE.out]), rfl⟩
end Go.Proofs.Ythebdlejoficmaa
