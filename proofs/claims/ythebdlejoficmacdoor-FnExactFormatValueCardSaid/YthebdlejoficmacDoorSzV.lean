/-
  The functions that count how much values hold. No statement is proved here.
-/
import Derived.Test.YthebdlejoficmacDoorVal
import Derived.Test.YthebdlejoficmacDoorSz
namespace Go.Proofs.YthebdlejoficmacDoor
open Go.RowKit
set_option maxRecDepth 100000
set_option linter.unusedVariables false

def SzS (d : Nat) : Prop := ∀ (A : Option Addr) (l : List Vl) (cap : Nat) (q : Int) (w : World), RVs d w w.heap.size A l → 0 ≤ q → q ≤ 1048576 →
  Calls Tryd.prog 14 #[.slice A l.length cap, .int .i64 q] w fun e w' => e = .returned (.int .i64 (left q (wVs l))) ∧ Below w.heap.size w w'

theorem szV_of {d : Nat} (ih : SzS d) (A : Option Addr) (l : List Vl) (cap : Nat) (c n q : Int) (w : World) (hr : RVs d w w.heap.size A l) (h0 : 0 ≤ q) (h1 : q ≤ 1048576) :
    Calls Tryd.prog 5 #[.agg #[.int .i64 c, .int .i64 n, .slice A l.length cap], .int .i64 q] w fun e w' => e = .returned (.int .i64 (left q (wVs l))) ∧ Below w.heap.size w w' := by
  have Hr := Lib.hid hr
  have IH := Lib.hid ih
  clear hr ih
  by_cases hc2 : (wVs l : Int) ≤ q
  · have H2 := Lib.hid (left_ok hc2)
    go_enter Tryd.func5, Tryd.ntmps5
    go_wp2_with (go_at_call 14; refine (IH.out _ _ _ _ _ (by exact Hr.out.keep (fun p hp => World.cell?_alloc_lt _ _ _ hp) (by simp)) h0 h1).mono ?_; rw [H2.out]; rintro e w' ⟨rfl, hb⟩)
    go_ret
    exact ⟨ret_i64 (by rw [H2.out]), ((Below.refl _ _).alloc (Nat.le_refl _) _).trans (hb.mono (by simp))⟩
  · have H2 := Lib.hid (left_no hc2)
    go_enter Tryd.func5, Tryd.ntmps5
    go_wp2_with (go_at_call 14; refine (IH.out _ _ _ _ _ (by exact Hr.out.keep (fun p hp => World.cell?_alloc_lt _ _ _ hp) (by simp)) h0 h1).mono ?_; rw [H2.out]; rintro e w' ⟨rfl, hb⟩)
    go_ret
    exact ⟨ret_i64 (by rw [H2.out]), ((Below.refl _ _).alloc (Nat.le_refl _) _).trans (hb.mono (by simp))⟩

set_option maxHeartbeats 400000 in
theorem szS_of (d : Nat) (ih : ∀ d', d = d' + 1 → SzS d') : SzS d := by
  intro A l cap q0 w hr h0 h1
  have hn := hr.1
  unfold maxLen at hn
  have Hr := Lib.hid hr
  have IH := Lib.hid ih
  have HSum := Lib.hid (wVs_sum l)
  clear hr ih
  by_cases hc : (l.length : Int) ≤ q0
  · go_enter Tryd.func14, Tryd.ntmps14
    go_wp2_with fail
    go_loopw [1, 5] (fun t i wr => ∃ k : Nat, k ≤ l.length ∧ i = .int .i64 k ∧ ∃ q : Int, 0 ≤ q ∧ q ≤ 1048576 ∧ t = .int .i64 q ∧ Hid (q = q0 - (l.length + ((l.take k).map wV).sum : Nat)) ∧ Below w.heap.size w wr) (fun _ i _ => l.length - (intOf i).toNat)
    case atStart => exact ⟨0, by omega, rfl, _, by omega, by omega, rfl, by unfold Hid; simp, Below.refl _ _⟩
    case round =>
      obtain ⟨k, hk, rfl, q, hq0, hq1, rfl, HQ, hb⟩ := hrel
      by_cases hlt : k < l.length
      · obtain ⟨b, off, rfl, hbB, hv⟩ := (Hr.out.below hb (Nat.le_refl _)).2 k hlt
        obtain ⟨d', hd, A', cp, c0, c1, c2, hm⟩ := hv.parts
        have HS := Lib.hid (sum_take_succ wV l k hlt)
        have HL := Lib.hid (sum_take_le wV l (k + 1))
        have HW := Lib.hid (wV_kids l[k])
        have Hm := Lib.hid (hm.keep (fun _ _ => rfl) hb.size)
        have IHd := Lib.hid (IH.out d' hd)
        clear hm hv hd
        by_cases hc2 : (wVs l[k].kids : Int) ≤ q
        · have H2 := Lib.hid (left_ok hc2)
          go_wp2_with (go_at_call 5; refine (szV_of IHd.out _ _ _ _ _ _ _ Hm.out (by omega) (by omega)).mono ?_; rw [H2.out]; rintro e w' ⟨rfl, hb'⟩)
          have hb2 := hb.trans (hb'.mono hb.size)
          go_roundw
          case rel => exact ⟨k + 1, by omega, by go_num, _, by omega, by omega, rfl, by unfold Hid; rw [HS.out, HW.out, HQ.out]; omega, hb2⟩
          case measure => simp [intOf]; omega
        · have H2 := Lib.hid (left_no hc2)
          have H := Lib.hid (left_no (l := q0) (n := wVs l) (by rw [HSum.out]; rw [HQ.out] at hc2; rw [HS.out, HW.out] at HL; have := HL.out; omega))
          go_wp2_with (go_at_call 5; refine (szV_of IHd.out _ _ _ _ _ _ _ Hm.out (by omega) (by omega)).mono ?_; rw [H2.out]; rintro e w' ⟨rfl, hb'⟩)
          have hb2 := hb.trans (hb'.mono hb.size)
          go_ret
          exact ⟨ret_i64 (by rw [H.out]), hb2⟩
      · go_wp2_with fail
        go_ret
        refine ⟨ret_i64 ?_, hb⟩
        have h2 := HQ.out
        rw [List.take_of_length_le (by omega), ← HSum.out] at h2
        rw [left_ok (by omega)]
        exact h2
  · have H := Lib.hid (left_no (l := q0) (n := wVs l) (by rw [HSum.out]; omega))
    go_enter Tryd.func14, Tryd.ntmps14
    go_wp2_with fail
    go_ret
    exact ⟨ret_i64 (by rw [H.out]), Below.refl _ _⟩
theorem szS_any : ∀ d, SzS d
  | 0 => szS_of 0 (fun _ h => by omega)
  | d + 1 => szS_of (d + 1) (fun d' h => (Nat.succ.inj h) ▸ szS_any d)
theorem szV_any (d : Nat) (A : Option Addr) (l : List Vl) (cap : Nat) (c n q : Int) (w : World) (hr : RVs d w w.heap.size A l) (h0 : 0 ≤ q) (h1 : q ≤ 1048576) :
    Calls Tryd.prog 5 #[.agg #[.int .i64 c, .int .i64 n, .slice A l.length cap], .int .i64 q] w fun e w' => e = .returned (.int .i64 (left q (wVs l))) ∧ Below w.heap.size w w' := szV_of (szS_any d) A l cap c n q w hr h0 h1
end Go.Proofs.YthebdlejoficmacDoor
