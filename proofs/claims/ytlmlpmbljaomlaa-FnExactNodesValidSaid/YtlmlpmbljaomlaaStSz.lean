/-
  The functions that count how much is held. No statement is proved here.
-/
import Derived.Test.YtlmlpmbljaomlaaSt
namespace Go.Proofs.Ytlmlpmbljaomlaa
open Go.RowKit
set_option maxRecDepth 100000
set_option linter.unusedVariables false

theorem ret_i64 {a b : Int} (h : a = b) : Ending.returned (.int .i64 a) = .returned (.int .i64 b) := by rw [h]
theorem szIs_any (A : Option Addr) (n cap : Nat) (l : Int) (w : World) (hn : n ≤ maxLen) (h0 : 0 ≤ l) (h1 : l ≤ 1048576) :
    Calls Try.prog 17 #[.slice A n cap, .int .i64 l] w fun e w' => e = .returned (.int .i64 (left l n)) ∧ w = w' := by
  unfold maxLen at hn
  by_cases hc : (n : Int) ≤ l
  · have H := Lib.hid (left_ok hc)
    go_enter Try.func17, Try.ntmps17
    go_wp2_with fail
    go_ret
    exact ⟨ret_i64 H.out.symm, rfl⟩
  · have H := Lib.hid (left_no hc)
    go_enter Try.func17, Try.ntmps17
    go_wp2_with fail
    go_ret
    exact ⟨ret_i64 H.out.symm, rfl⟩
theorem szPb_any (A1 : Option Addr) (c1 : Nat) (x : Pb) (l : Int) (w : World) (q1 : QIs w 0 w.heap.size A1 x.path) (h0 : 0 ≤ l) (h1 : l ≤ 1048576) :
    Calls Try.prog 26 #[.agg #[.int .i64 x.var, .slice A1 x.path.length c1], .int .i64 l] w fun e w' => e = .returned (.int .i64 (left l (wPb x))) ∧ Below w.heap.size w w' := by
  generalize hwx : w.alloc (.cells #[.int .i64 x.var, .slice A1 x.path.length c1] 59) = wx
  have hbx : Below w.heap.size w wx := by rw [← hwx]; exact (Below.refl _ _).alloc (Nat.le_refl _) _
  have HWX := Lib.hid hwx
  have Q1 := Lib.hid (q1.at_ hbx)
  have X0 : Hid (wx.cell? ⟨w.heap.size, 0, none⟩ = some (.int .i64 x.var)) := by unfold Hid; rw [← hwx]; simp [go_sem]
  have X1 : Hid (wx.cell? ⟨w.heap.size, 1, none⟩ = some (.slice A1 x.path.length c1)) := by unfold Hid; rw [← hwx]; simp [go_sem]
  have HWD : Hid (wPb x = x.path.length) := rfl
  have hl0 : w.heap.size < wx.heap.size := by rw [← hwx]; simp
  clear hwx q1
  by_cases h_0 : ((x.path.length : Nat) : Int) ≤ l
  · have H0 := Lib.hid (left_ok h_0)
    go_enter Try.func26, Try.ntmps26
    go_wp2_with fail
    rw [HWX.out]
    refine (szIs_any _ _ _ (l) wx (by exact Q1.out.1) (by omega) (by omega)).mono ?_
    rw [H0.out]
    rintro e0 w0 ⟨rfl, rfl⟩
    go_wp2_with fail
    go_ret
    exact ⟨ret_i64 (by rw [HWD.out, left_ok (by omega)] <;> omega), hbx⟩
  · have H0 := Lib.hid (left_no h_0)
    go_enter Try.func26, Try.ntmps26
    go_wp2_with fail
    rw [HWX.out]
    refine (szIs_any _ _ _ (l) wx (by exact Q1.out.1) (by omega) (by omega)).mono ?_
    rw [H0.out]
    rintro e0 w0 ⟨rfl, rfl⟩
    go_wp2_with fail
    go_ret
    exact ⟨ret_i64 (by rw [HWD.out, left_no (by omega)]), hbx⟩

set_option maxHeartbeats 800000 in
theorem szPbs_any (A : Option Addr) (l0 : List Pb) (cap : Nat) (l : Int) (w : World) (hr : QPbs w 0 w.heap.size A l0) (h0 : 0 ≤ l) (h1 : l ≤ 1048576) :
    Calls Try.prog 16 #[.slice A l0.length cap, .int .i64 l] w fun e w' => e = .returned (.int .i64 (left l (wPbs l0))) ∧ Below w.heap.size w w' := by
  have hn := hr.1
  unfold maxLen at hn
  have Hr := Lib.hid hr
  clear hr
  by_cases hc : (l0.length : Int) ≤ l
  · go_enter Try.func16, Try.ntmps16
    go_wp2_with fail
    go_loopw [1, 5] (fun t i wr => ∃ k : Nat, k ≤ l0.length ∧ i = .int .i64 k ∧ ∃ q : Int, 0 ≤ q ∧ q ≤ 1048576 ∧ t = .int .i64 q ∧ Hid (q = l - (l0.length + ((l0.take k).map wPb).sum : Nat)) ∧ Below w.heap.size w wr) (fun _ i _ => l0.length - (intOf i).toNat)
    case atStart => exact ⟨0, by omega, rfl, _, by omega, by omega, rfl, by unfold Hid; simp, Below.refl _ _⟩
    case round =>
      obtain ⟨k, hk, rfl, q, hq0, hq1, rfl, HQ, hb⟩ := hrel
      by_cases hlt : k < l0.length
      · obtain ⟨b, off, rfl, hb0, hbB, A1, c1, x0, x1, s1⟩ := (Hr.out.below hb (Nat.le_refl _)).2 k hlt
        have HS := Lib.hid (sum_take_succ wPb l0 k hlt)
        have HL := Lib.hid (sum_take_le wPb l0 (k + 1))
        have S1 := Lib.hid s1
        clear s1
        have hi : (k : Int) < (l0.length : Int) := by omega
        by_cases hc2 : ((wPb l0[k] : Nat) : Int) ≤ q
        · have H2 := Lib.hid (left_ok hc2)
          go_wp2_with fail
          refine (szPb_any A1 c1 l0[k] _ _ (S1.out.keep (fun _ _ _ => rfl) (Nat.zero_le _) hb.size) (by omega) (by omega)).mono ?_
          rw [H2.out]
          rintro e w' ⟨rfl, hb'⟩
          have hb2 := hb.trans (hb'.mono hb.size)
          go_wp2_with fail
          go_roundw
          case rel => exact ⟨k + 1, by omega, by go_num, _, by omega, by omega, rfl, by unfold Hid; rw [HS.out, HQ.out]; omega, hb2⟩
          case measure => simp [intOf]; omega
        · have H2 := Lib.hid (left_no hc2)
          have H := Lib.hid (left_no (l := l) (n := wPbs l0) (by unfold wPbs; rw [HQ.out] at hc2; rw [HS.out] at HL; have := HL.out; omega))
          go_wp2_with fail
          refine (szPb_any A1 c1 l0[k] _ _ (S1.out.keep (fun _ _ _ => rfl) (Nat.zero_le _) hb.size) (by omega) (by omega)).mono ?_
          rw [H2.out]
          rintro e w' ⟨rfl, hb'⟩
          have hb2 := hb.trans (hb'.mono hb.size)
          go_wp2_with fail
          go_ret
          exact ⟨ret_i64 (by rw [H.out]), hb2⟩
      · go_wp2_with fail
        go_ret
        exact ⟨ret_i64 (by rw [HQ.out, List.take_of_length_le (by omega)]; rw [left_ok]; rfl; rw [List.take_of_length_le (by omega)] at HQ; unfold wPbs; have := HQ.out; omega), hb⟩
  · have H := Lib.hid (left_no (l := l) (n := wPbs l0) (by unfold wPbs; omega))
    go_enter Try.func16, Try.ntmps16
    go_wp2_with fail
    go_ret
    exact ⟨ret_i64 (by rw [H.out]), Below.refl _ _⟩
theorem szEgs_any (A : Option Addr) (n cap : Nat) (l : Int) (w : World) (hn : n ≤ maxLen) (h0 : 0 ≤ l) (h1 : l ≤ 1048576) :
    Calls Try.prog 18 #[.slice A n cap, .int .i64 l] w fun e w' => e = .returned (.int .i64 (left l n)) ∧ w = w' := by
  unfold maxLen at hn
  by_cases hc : (n : Int) ≤ l
  · have H := Lib.hid (left_ok hc)
    go_enter Try.func18, Try.ntmps18
    go_wp2_with fail
    go_ret
    exact ⟨ret_i64 H.out.symm, rfl⟩
  · have H := Lib.hid (left_no hc)
    go_enter Try.func18, Try.ntmps18
    go_wp2_with fail
    go_ret
    exact ⟨ret_i64 H.out.symm, rfl⟩
theorem szNd_any (A2 : Option Addr) (c2 : Nat) (A3 : Option Addr) (c3 : Nat) (A4 : Option Addr) (c4 : Nat) (x : Nd) (l : Int) (w : World) (q2 : QPbs w 0 w.heap.size A2 x.binds) (q3 : QIs w 0 w.heap.size A3 x.path) (q4 : QEgs w 0 w.heap.size A4 x.edges) (h0 : 0 ≤ l) (h1 : l ≤ 1048576) :
    Calls Try.prog 9 #[.agg #[.int .i64 x.op, .int .i64 x.clause, .slice A2 x.binds.length c2, .slice A3 x.path.length c3, .slice A4 x.edges.length c4, .int .i64 x.els], .int .i64 l] w fun e w' => e = .returned (.int .i64 (left l (wNd x))) ∧ Below w.heap.size w w' := by
  generalize hwx : w.alloc (.cells #[.int .i64 x.op, .int .i64 x.clause, .slice A2 x.binds.length c2, .slice A3 x.path.length c3, .slice A4 x.edges.length c4, .int .i64 x.els] 34) = wx
  have hbx : Below w.heap.size w wx := by rw [← hwx]; exact (Below.refl _ _).alloc (Nat.le_refl _) _
  have HWX := Lib.hid hwx
  have Q2 := Lib.hid (q2.at_ hbx)
  have Q3 := Lib.hid (q3.at_ hbx)
  have Q4 := Lib.hid (q4.at_ hbx)
  have X0 : Hid (wx.cell? ⟨w.heap.size, 0, none⟩ = some (.int .i64 x.op)) := by unfold Hid; rw [← hwx]; simp [go_sem]
  have X1 : Hid (wx.cell? ⟨w.heap.size, 1, none⟩ = some (.int .i64 x.clause)) := by unfold Hid; rw [← hwx]; simp [go_sem]
  have X2 : Hid (wx.cell? ⟨w.heap.size, 2, none⟩ = some (.slice A2 x.binds.length c2)) := by unfold Hid; rw [← hwx]; simp [go_sem]
  have X3 : Hid (wx.cell? ⟨w.heap.size, 3, none⟩ = some (.slice A3 x.path.length c3)) := by unfold Hid; rw [← hwx]; simp [go_sem]
  have X4 : Hid (wx.cell? ⟨w.heap.size, 4, none⟩ = some (.slice A4 x.edges.length c4)) := by unfold Hid; rw [← hwx]; simp [go_sem]
  have X5 : Hid (wx.cell? ⟨w.heap.size, 5, none⟩ = some (.int .i64 x.els)) := by unfold Hid; rw [← hwx]; simp [go_sem]
  have HWD : Hid (wNd x = wPbs x.binds + x.path.length + x.edges.length) := rfl
  have hl0 : w.heap.size < wx.heap.size := by rw [← hwx]; simp
  clear hwx q2 q3 q4
  by_cases h_0 : ((wPbs x.binds : Nat) : Int) ≤ l
  · have H0 := Lib.hid (left_ok h_0)
    by_cases h_1 : ((x.path.length : Nat) : Int) ≤ l - (wPbs x.binds : Nat)
    · have H1 := Lib.hid (left_ok h_1)
      by_cases h_2 : ((x.edges.length : Nat) : Int) ≤ l - (wPbs x.binds : Nat) - (x.path.length : Nat)
      · have H2 := Lib.hid (left_ok h_2)
        go_enter Try.func9, Try.ntmps9
        go_wp2_with fail
        rw [HWX.out]
        refine (szPbs_any _ _ _ (l) wx Q2.out (by omega) (by omega)).mono ?_
        rw [H0.out]
        rintro e0 w0 ⟨rfl, hb0⟩
        have B0 : Hid (Below wx.heap.size wx w0) := hb0
        have x0_0 := (B0.out.cell (p := ⟨w.heap.size, 0, none⟩) hl0).trans X0.out
        have x1_0 := (B0.out.cell (p := ⟨w.heap.size, 1, none⟩) hl0).trans X1.out
        have x2_0 := (B0.out.cell (p := ⟨w.heap.size, 2, none⟩) hl0).trans X2.out
        have x3_0 := (B0.out.cell (p := ⟨w.heap.size, 3, none⟩) hl0).trans X3.out
        have x4_0 := (B0.out.cell (p := ⟨w.heap.size, 4, none⟩) hl0).trans X4.out
        have x5_0 := (B0.out.cell (p := ⟨w.heap.size, 5, none⟩) hl0).trans X5.out
        go_wp2_with fail
        refine (szIs_any _ _ _ (l - (wPbs x.binds : Nat)) w0 (by exact Q3.out.1) (by omega) (by omega)).mono ?_
        rw [H1.out]
        rintro e1 w1 ⟨rfl, rfl⟩
        go_wp2_with fail
        refine (szEgs_any _ _ _ (l - (wPbs x.binds : Nat) - (x.path.length : Nat)) w0 (by exact Q4.out.1) (by omega) (by omega)).mono ?_
        rw [H2.out]
        rintro e2 w2 ⟨rfl, rfl⟩
        go_wp2_with fail
        go_ret
        exact ⟨ret_i64 (by rw [HWD.out, left_ok (by omega)] <;> omega), below_aft' hbx B0.out hbx.size⟩
      · have H2 := Lib.hid (left_no h_2)
        go_enter Try.func9, Try.ntmps9
        go_wp2_with fail
        rw [HWX.out]
        refine (szPbs_any _ _ _ (l) wx Q2.out (by omega) (by omega)).mono ?_
        rw [H0.out]
        rintro e0 w0 ⟨rfl, hb0⟩
        have B0 : Hid (Below wx.heap.size wx w0) := hb0
        have x0_0 := (B0.out.cell (p := ⟨w.heap.size, 0, none⟩) hl0).trans X0.out
        have x1_0 := (B0.out.cell (p := ⟨w.heap.size, 1, none⟩) hl0).trans X1.out
        have x2_0 := (B0.out.cell (p := ⟨w.heap.size, 2, none⟩) hl0).trans X2.out
        have x3_0 := (B0.out.cell (p := ⟨w.heap.size, 3, none⟩) hl0).trans X3.out
        have x4_0 := (B0.out.cell (p := ⟨w.heap.size, 4, none⟩) hl0).trans X4.out
        have x5_0 := (B0.out.cell (p := ⟨w.heap.size, 5, none⟩) hl0).trans X5.out
        go_wp2_with fail
        refine (szIs_any _ _ _ (l - (wPbs x.binds : Nat)) w0 (by exact Q3.out.1) (by omega) (by omega)).mono ?_
        rw [H1.out]
        rintro e1 w1 ⟨rfl, rfl⟩
        go_wp2_with fail
        refine (szEgs_any _ _ _ (l - (wPbs x.binds : Nat) - (x.path.length : Nat)) w0 (by exact Q4.out.1) (by omega) (by omega)).mono ?_
        rw [H2.out]
        rintro e2 w2 ⟨rfl, rfl⟩
        go_wp2_with fail
        go_ret
        exact ⟨ret_i64 (by rw [HWD.out, left_no (by omega)]), below_aft' hbx B0.out hbx.size⟩
    · have H1 := Lib.hid (left_no h_1)
      go_enter Try.func9, Try.ntmps9
      go_wp2_with fail
      rw [HWX.out]
      refine (szPbs_any _ _ _ (l) wx Q2.out (by omega) (by omega)).mono ?_
      rw [H0.out]
      rintro e0 w0 ⟨rfl, hb0⟩
      have B0 : Hid (Below wx.heap.size wx w0) := hb0
      have x0_0 := (B0.out.cell (p := ⟨w.heap.size, 0, none⟩) hl0).trans X0.out
      have x1_0 := (B0.out.cell (p := ⟨w.heap.size, 1, none⟩) hl0).trans X1.out
      have x2_0 := (B0.out.cell (p := ⟨w.heap.size, 2, none⟩) hl0).trans X2.out
      have x3_0 := (B0.out.cell (p := ⟨w.heap.size, 3, none⟩) hl0).trans X3.out
      have x4_0 := (B0.out.cell (p := ⟨w.heap.size, 4, none⟩) hl0).trans X4.out
      have x5_0 := (B0.out.cell (p := ⟨w.heap.size, 5, none⟩) hl0).trans X5.out
      go_wp2_with fail
      refine (szIs_any _ _ _ (l - (wPbs x.binds : Nat)) w0 (by exact Q3.out.1) (by omega) (by omega)).mono ?_
      rw [H1.out]
      rintro e1 w1 ⟨rfl, rfl⟩
      go_wp2_with fail
      go_ret
      exact ⟨ret_i64 (by rw [HWD.out, left_no (by omega)]), below_aft' hbx B0.out hbx.size⟩
  · have H0 := Lib.hid (left_no h_0)
    go_enter Try.func9, Try.ntmps9
    go_wp2_with fail
    rw [HWX.out]
    refine (szPbs_any _ _ _ (l) wx Q2.out (by omega) (by omega)).mono ?_
    rw [H0.out]
    rintro e0 w0 ⟨rfl, hb0⟩
    have B0 : Hid (Below wx.heap.size wx w0) := hb0
    have x0_0 := (B0.out.cell (p := ⟨w.heap.size, 0, none⟩) hl0).trans X0.out
    have x1_0 := (B0.out.cell (p := ⟨w.heap.size, 1, none⟩) hl0).trans X1.out
    have x2_0 := (B0.out.cell (p := ⟨w.heap.size, 2, none⟩) hl0).trans X2.out
    have x3_0 := (B0.out.cell (p := ⟨w.heap.size, 3, none⟩) hl0).trans X3.out
    have x4_0 := (B0.out.cell (p := ⟨w.heap.size, 4, none⟩) hl0).trans X4.out
    have x5_0 := (B0.out.cell (p := ⟨w.heap.size, 5, none⟩) hl0).trans X5.out
    go_wp2_with fail
    go_ret
    exact ⟨ret_i64 (by rw [HWD.out, left_no (by omega)]), below_aft' hbx B0.out hbx.size⟩

set_option maxHeartbeats 800000 in
theorem szNds_any (A : Option Addr) (l0 : List Nd) (cap : Nat) (l : Int) (w : World) (hr : QNds w 0 w.heap.size A l0) (h0 : 0 ≤ l) (h1 : l ≤ 1048576) :
    Calls Try.prog 4 #[.slice A l0.length cap, .int .i64 l] w fun e w' => e = .returned (.int .i64 (left l (wNds l0))) ∧ Below w.heap.size w w' := by
  have hn := hr.1
  unfold maxLen at hn
  have Hr := Lib.hid hr
  clear hr
  by_cases hc : (l0.length : Int) ≤ l
  · go_enter Try.func4, Try.ntmps4
    go_wp2_with fail
    go_loopw [1, 5] (fun t i wr => ∃ k : Nat, k ≤ l0.length ∧ i = .int .i64 k ∧ ∃ q : Int, 0 ≤ q ∧ q ≤ 1048576 ∧ t = .int .i64 q ∧ Hid (q = l - (l0.length + ((l0.take k).map wNd).sum : Nat)) ∧ Below w.heap.size w wr) (fun _ i _ => l0.length - (intOf i).toNat)
    case atStart => exact ⟨0, by omega, rfl, _, by omega, by omega, rfl, by unfold Hid; simp, Below.refl _ _⟩
    case round =>
      obtain ⟨k, hk, rfl, q, hq0, hq1, rfl, HQ, hb⟩ := hrel
      by_cases hlt : k < l0.length
      · obtain ⟨b, off, rfl, hb0, hbB, A2, c2, A3, c3, A4, c4, x0, x1, x2, x3, x4, x5, s2, s3, s4⟩ := (Hr.out.below hb (Nat.le_refl _)).2 k hlt
        have HS := Lib.hid (sum_take_succ wNd l0 k hlt)
        have HL := Lib.hid (sum_take_le wNd l0 (k + 1))
        have S2 := Lib.hid s2
        have S3 := Lib.hid s3
        have S4 := Lib.hid s4
        clear s2 s3 s4
        have hi : (k : Int) < (l0.length : Int) := by omega
        by_cases hc2 : ((wNd l0[k] : Nat) : Int) ≤ q
        · have H2 := Lib.hid (left_ok hc2)
          go_wp2_with fail
          refine (szNd_any A2 c2 A3 c3 A4 c4 l0[k] _ _ (S2.out.keep (fun _ _ _ => rfl) (Nat.zero_le _) hb.size) (S3.out.keep (fun _ _ _ => rfl) (Nat.zero_le _) hb.size) (S4.out.keep (fun _ _ _ => rfl) (Nat.zero_le _) hb.size) (by omega) (by omega)).mono ?_
          rw [H2.out]
          rintro e w' ⟨rfl, hb'⟩
          have hb2 := hb.trans (hb'.mono hb.size)
          go_wp2_with fail
          go_roundw
          case rel => exact ⟨k + 1, by omega, by go_num, _, by omega, by omega, rfl, by unfold Hid; rw [HS.out, HQ.out]; omega, hb2⟩
          case measure => simp [intOf]; omega
        · have H2 := Lib.hid (left_no hc2)
          have H := Lib.hid (left_no (l := l) (n := wNds l0) (by unfold wNds; rw [HQ.out] at hc2; rw [HS.out] at HL; have := HL.out; omega))
          go_wp2_with fail
          refine (szNd_any A2 c2 A3 c3 A4 c4 l0[k] _ _ (S2.out.keep (fun _ _ _ => rfl) (Nat.zero_le _) hb.size) (S3.out.keep (fun _ _ _ => rfl) (Nat.zero_le _) hb.size) (S4.out.keep (fun _ _ _ => rfl) (Nat.zero_le _) hb.size) (by omega) (by omega)).mono ?_
          rw [H2.out]
          rintro e w' ⟨rfl, hb'⟩
          have hb2 := hb.trans (hb'.mono hb.size)
          go_wp2_with fail
          go_ret
          exact ⟨ret_i64 (by rw [H.out]), hb2⟩
      · go_wp2_with fail
        go_ret
        exact ⟨ret_i64 (by rw [HQ.out, List.take_of_length_le (by omega)]; rw [left_ok]; rfl; rw [List.take_of_length_le (by omega)] at HQ; unfold wNds; have := HQ.out; omega), hb⟩
  · have H := Lib.hid (left_no (l := l) (n := wNds l0) (by unfold wNds; omega))
    go_enter Try.func4, Try.ntmps4
    go_wp2_with fail
    go_ret
    exact ⟨ret_i64 (by rw [H.out]), Below.refl _ _⟩
end Go.Proofs.Ytlmlpmbljaomlaa
