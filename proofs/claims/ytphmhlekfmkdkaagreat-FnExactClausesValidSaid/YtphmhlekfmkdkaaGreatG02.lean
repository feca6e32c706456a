/-
  The functions that count how much types, constructors and data types hold. No statement is proved here.
-/
import Derived.Test.YtphmhlekfmkdkaaGreatG00
namespace Go.Proofs.YtphmhlekfmkdkaaGreat
open Go.RowKit
set_option maxRecDepth 100000
set_option linter.unusedVariables false

theorem ret_i64 {a b : Int} (h : a = b) : Ending.returned (.int .i64 a) = .returned (.int .i64 b) := by rw [h]

theorem szTypeS_any (A : Option Addr) (n cap : Nat) (l : Int) (w : World) (hn : n ≤ maxLen) (h0 : 0 ≤ l) (h1 : l ≤ 1048576) :
    Calls Tryz.prog 145 #[.slice A n cap, .int .i64 l] w fun e w' => e = .returned (.int .i64 (left l n)) ∧ w = w' := by
  unfold maxLen at hn
  by_cases hc : (n : Int) ≤ l
  · have H := Lib.hid (left_ok hc)
    go_enter Tryz.func145, Tryz.ntmps145
    go_wp2_with fail
    go_ret
    exact ⟨ret_i64 H.out.symm, rfl⟩
  · have H := Lib.hid (left_no hc)
    go_enter Tryz.func145, Tryz.ntmps145
    go_wp2_with fail
    go_ret
    exact ⟨ret_i64 H.out.symm, rfl⟩

theorem szCtor_any (nm : ByteArray) (A : Option Addr) (m cap : Nat) (ix l : Int) (w : World) (hs : nm.size ≤ maxLen) (hm : m ≤ maxLen) (h0 : 0 ≤ l) (h1 : l ≤ 1048576) :
    Calls Tryz.prog 109 #[.agg #[.string nm, .slice A m cap, .int .i64 ix], .int .i64 l] w fun e w' => e = .returned (.int .i64 (left l (nm.size + m))) ∧ Below w.heap.size w w' := by
  have hm' := hm
  unfold maxLen at hs hm
  by_cases hc : (nm.size : Int) ≤ l
  · by_cases hc2 : (m : Int) ≤ l - nm.size
    · have H := Lib.hid (left_ok (l := l) (n := nm.size + m) (by omega))
      have H2 := Lib.hid (left_ok hc2)
      go_enter Tryz.func109, Tryz.ntmps109
      go_wp2_with (go_at_call 145; refine (szTypeS_any _ _ _ _ _ hm' (by omega) (by omega)).mono ?_; rw [H2.out]; rintro e w' ⟨rfl, rfl⟩)
      go_ret
      exact ⟨ret_i64 (by rw [H.out]; omega), (Below.refl _ _).alloc (Nat.le_refl _) _⟩
    · have H := Lib.hid (left_no (l := l) (n := nm.size + m) (by omega))
      have H2 := Lib.hid (left_no hc2)
      go_enter Tryz.func109, Tryz.ntmps109
      go_wp2_with (go_at_call 145; refine (szTypeS_any _ _ _ _ _ hm' (by omega) (by omega)).mono ?_; rw [H2.out]; rintro e w' ⟨rfl, rfl⟩)
      go_ret
      exact ⟨ret_i64 (by rw [H.out]), (Below.refl _ _).alloc (Nat.le_refl _) _⟩
  · have H := Lib.hid (left_no (l := l) (n := nm.size + m) (by omega))
    go_enter Tryz.func109, Tryz.ntmps109
    go_wp2_with fail
    go_ret
    exact ⟨ret_i64 (by rw [H.out]), (Below.refl _ _).alloc (Nat.le_refl _) _⟩

set_option maxHeartbeats 400000 in
theorem szCtorS_any (A : Option Addr) (cs : List Ct) (cap : Nat) (l : Int) (w : World) (hr : RCts w w.heap.size A cs) (h0 : 0 ≤ l) (h1 : l ≤ 1048576) :
    Calls Tryz.prog 77 #[.slice A cs.length cap, .int .i64 l] w fun e w' => e = .returned (.int .i64 (left l (wCts cs))) ∧ Below w.heap.size w w' := by
  have hn := hr.1
  unfold maxLen at hn
  have Hr := Lib.hid hr
  clear hr
  by_cases hc : (cs.length : Int) ≤ l
  · go_enter Tryz.func77, Tryz.ntmps77
    go_wp2_with fail
    go_loopw [1, 5] (fun t i wr => ∃ k : Nat, k ≤ cs.length ∧ i = .int .i64 k ∧ ∃ q : Int, 0 ≤ q ∧ q ≤ 1048576 ∧ t = .int .i64 q ∧ Hid (q = l - (cs.length + ((cs.take k).map wCt).sum : Nat)) ∧ Below w.heap.size w wr) (fun _ i _ => cs.length - (intOf i).toNat)
    case atStart => exact ⟨0, by omega, rfl, _, by omega, by omega, rfl, by unfold Hid; simp, Below.refl _ _⟩
    case round =>
      obtain ⟨k, hk, rfl, q, hq0, hq1, rfl, HQ, hb⟩ := hrel
      by_cases hlt : k < cs.length
      · obtain ⟨b, off, rfl, hbB, A', cp, c0, c1, c2, hs, hm⟩ := (Hr.out.below hb (Nat.le_refl _)).2 k hlt
        have hm1 := hm.1
        have HS := Lib.hid (sum_take_succ wCt cs k hlt)
        have HL := Lib.hid (sum_take_le wCt cs (k + 1))
        have HW : Hid (wCt cs[k] = cs[k].name.size + cs[k].args.length) := rfl
        have Hm := Lib.hid hm
        clear hm
        by_cases hc2 : ((cs[k].name.size + cs[k].args.length : Nat) : Int) ≤ q
        · have H2 := Lib.hid (left_ok hc2)
          go_wp2_with (go_at_call 109; refine (szCtor_any _ _ _ _ _ _ _ hs hm1 (by omega) (by omega)).mono ?_; rw [H2.out]; rintro e w' ⟨rfl, hb'⟩)
          have hb2 := hb.trans (hb'.mono hb.size)
          go_roundw
          case rel => exact ⟨k + 1, by omega, by go_num, _, by omega, by omega, rfl, by unfold Hid; rw [HS.out, HW.out, HQ.out]; omega, hb2⟩
          case measure => simp [intOf]; omega
        · have H2 := Lib.hid (left_no hc2)
          have H := Lib.hid (left_no (l := l) (n := wCts cs) (by unfold wCts; rw [HQ.out] at hc2; rw [HS.out, HW.out] at HL; have := HL.out; omega))
          go_wp2_with (go_at_call 109; refine (szCtor_any _ _ _ _ _ _ _ hs hm1 (by omega) (by omega)).mono ?_; rw [H2.out]; rintro e w' ⟨rfl, hb'⟩)
          have hb2 := hb.trans (hb'.mono hb.size)
          go_ret
          exact ⟨ret_i64 (by rw [H.out]), hb2⟩
      · go_wp2_with fail
        go_ret
        exact ⟨ret_i64 (by rw [HQ.out, List.take_of_length_le (by omega)]; rw [left_ok]; rfl; rw [List.take_of_length_le (by omega)] at HQ; unfold wCts; have := HQ.out; omega), hb⟩
  · have H := Lib.hid (left_no (l := l) (n := wCts cs) (by unfold wCts; omega))
    go_enter Tryz.func77, Tryz.ntmps77
    go_wp2_with fail
    go_ret
    exact ⟨ret_i64 (by rw [H.out]), Below.refl _ _⟩

theorem szData_any (nm : ByteArray) (A : Option Addr) (cs : List Ct) (cap : Nat) (l : Int) (w : World) (hs : nm.size ≤ maxLen) (hr : RCts w w.heap.size A cs) (h0 : 0 ≤ l) (h1 : l ≤ 1048576) :
    Calls Tryz.prog 38 #[.agg #[.string nm, .slice A cs.length cap], .int .i64 l] w fun e w' => e = .returned (.int .i64 (left l (nm.size + wCts cs))) ∧ Below w.heap.size w w' := by
  unfold maxLen at hs
  have Hr := Lib.hid hr
  clear hr
  by_cases hc : (nm.size : Int) ≤ l
  · by_cases hc2 : (wCts cs : Int) ≤ l - nm.size
    · have H := Lib.hid (left_ok (l := l) (n := nm.size + wCts cs) (by omega))
      have H2 := Lib.hid (left_ok hc2)
      go_enter Tryz.func38, Tryz.ntmps38
      go_wp2_with (go_at_call 77; refine (szCtorS_any _ _ _ _ _ (by exact Hr.out.keep (fun p hp => World.cell?_alloc_lt _ _ _ hp) (by simp)) (by omega) (by omega)).mono ?_; rw [H2.out]; rintro e w' ⟨rfl, hb⟩)
      go_ret
      exact ⟨ret_i64 (by rw [H.out]; omega), ((Below.refl _ _).alloc (Nat.le_refl _) _).trans (hb.mono (by simp))⟩
    · have H := Lib.hid (left_no (l := l) (n := nm.size + wCts cs) (by omega))
      have H2 := Lib.hid (left_no hc2)
      go_enter Tryz.func38, Tryz.ntmps38
      go_wp2_with (go_at_call 77; refine (szCtorS_any _ _ _ _ _ (by exact Hr.out.keep (fun p hp => World.cell?_alloc_lt _ _ _ hp) (by simp)) (by omega) (by omega)).mono ?_; rw [H2.out]; rintro e w' ⟨rfl, hb⟩)
      go_ret
      exact ⟨ret_i64 (by rw [H.out]), ((Below.refl _ _).alloc (Nat.le_refl _) _).trans (hb.mono (by simp))⟩
  · have H := Lib.hid (left_no (l := l) (n := nm.size + wCts cs) (by omega))
    go_enter Tryz.func38, Tryz.ntmps38
    go_wp2_with fail
    go_ret
    exact ⟨ret_i64 (by rw [H.out]), (Below.refl _ _).alloc (Nat.le_refl _) _⟩

set_option maxHeartbeats 400000 in
theorem szDataS_any (A : Option Addr) (ds : List Da) (cap : Nat) (l : Int) (w : World) (hr : RDas w w.heap.size A ds) (h0 : 0 ≤ l) (h1 : l ≤ 1048576) :
    Calls Tryz.prog 7 #[.slice A ds.length cap, .int .i64 l] w fun e w' => e = .returned (.int .i64 (left l (wDas ds))) ∧ Below w.heap.size w w' := by
  have hn := hr.1
  unfold maxLen at hn
  have Hr := Lib.hid hr
  clear hr
  by_cases hc : (ds.length : Int) ≤ l
  · go_enter Tryz.func7, Tryz.ntmps7
    go_wp2_with fail
    go_loopw [1, 5] (fun t i wr => ∃ k : Nat, k ≤ ds.length ∧ i = .int .i64 k ∧ ∃ q : Int, 0 ≤ q ∧ q ≤ 1048576 ∧ t = .int .i64 q ∧ Hid (q = l - (ds.length + ((ds.take k).map wDa).sum : Nat)) ∧ Below w.heap.size w wr) (fun _ i _ => ds.length - (intOf i).toNat)
    case atStart => exact ⟨0, by omega, rfl, _, by omega, by omega, rfl, by unfold Hid; simp, Below.refl _ _⟩
    case round =>
      obtain ⟨k, hk, rfl, q, hq0, hq1, rfl, HQ, hb⟩ := hrel
      by_cases hlt : k < ds.length
      · obtain ⟨b, off, rfl, hbB, A', cp, c0, c1, hs, hm⟩ := (Hr.out.below hb (Nat.le_refl _)).2 k hlt
        have HS := Lib.hid (sum_take_succ wDa ds k hlt)
        have HL := Lib.hid (sum_take_le wDa ds (k + 1))
        have HW : Hid (wDa ds[k] = ds[k].name.size + wCts ds[k].ctors) := rfl
        have Hm := Lib.hid (hm.keep (fun _ _ => rfl) hb.size)
        clear hm
        by_cases hc2 : ((ds[k].name.size + wCts ds[k].ctors : Nat) : Int) ≤ q
        · have H2 := Lib.hid (left_ok hc2)
          go_wp2_with (go_at_call 38; refine (szData_any _ _ _ _ _ _ hs Hm.out (by omega) (by omega)).mono ?_; rw [H2.out]; rintro e w' ⟨rfl, hb'⟩)
          have hb2 := hb.trans (hb'.mono hb.size)
          go_roundw
          case rel => exact ⟨k + 1, by omega, by go_num, _, by omega, by omega, rfl, by unfold Hid; rw [HS.out, HW.out, HQ.out]; omega, hb2⟩
          case measure => simp [intOf]; omega
        · have H2 := Lib.hid (left_no hc2)
          have H := Lib.hid (left_no (l := l) (n := wDas ds) (by unfold wDas; rw [HQ.out] at hc2; rw [HS.out, HW.out] at HL; have := HL.out; omega))
          go_wp2_with (go_at_call 38; refine (szData_any _ _ _ _ _ _ hs Hm.out (by omega) (by omega)).mono ?_; rw [H2.out]; rintro e w' ⟨rfl, hb'⟩)
          have hb2 := hb.trans (hb'.mono hb.size)
          go_ret
          exact ⟨ret_i64 (by rw [H.out]), hb2⟩
      · go_wp2_with fail
        go_ret
        exact ⟨ret_i64 (by rw [HQ.out, List.take_of_length_le (by omega)]; rw [left_ok]; rfl; rw [List.take_of_length_le (by omega)] at HQ; unfold wDas; have := HQ.out; omega), hb⟩
  · have H := Lib.hid (left_no (l := l) (n := wDas ds) (by unfold wDas; omega))
    go_enter Tryz.func7, Tryz.ntmps7
    go_wp2_with fail
    go_ret
    exact ⟨ret_i64 (by rw [H.out]), Below.refl _ _⟩
end Go.Proofs.YtphmhlekfmkdkaaGreat
