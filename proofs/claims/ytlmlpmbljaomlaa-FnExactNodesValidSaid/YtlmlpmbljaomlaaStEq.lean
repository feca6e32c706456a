/-
  The functions that compare, where both sides read as the same. No statement is proved here.
-/
import Derived.Test.YtlmlpmbljaomlaaStTo
import Derived.Lib.QuietBelow
import Derived.Deep.QuietTactic
namespace Go.Proofs.Ytlmlpmbljaomlaa
open Go.RowKit Go.Sort
set_option maxRecDepth 100000
set_option linter.unusedVariables false

theorem below_two {w w' : World} {o o' : Obj} (h : Below ((w.alloc o).alloc o').heap.size ((w.alloc o).alloc o') w') : Below w.heap.size w w' :=
  (((Below.refl _ _).alloc (Nat.le_refl _) _).alloc (by simp) _).trans (h.mono (by simp; omega))
set_option maxHeartbeats 800000 in
theorem eqIs_same (A A' : Option Addr) (l : List Int) (cap cap' : Nat) (w : World) (hr : QIs w 0 w.heap.size A l) (hr' : QIs w 0 w.heap.size A' l) :
    Calls Try.prog 24 #[.slice A l.length cap, .slice A' l.length cap'] w fun e w' => e = .returned (.bool true) ∧ Below w.heap.size w w' := by
  have hn := hr.1
  unfold maxLen at hn
  have Hr := Lib.hid hr
  have Hr' := Lib.hid hr'
  clear hr hr'
  go_enter Try.func24, Try.ntmps24
  go_wp2_with fail
  go_loopw [5] (fun i wr => ∃ k : Nat, k ≤ l.length ∧ i = .int .i64 k ∧ Below w.heap.size w wr) (fun i _ => l.length - (intOf i).toNat)
  case atStart => exact ⟨0, by omega, rfl, Below.refl _ _⟩
  case round =>
    obtain ⟨k, hk, rfl, hb⟩ := hrel
    by_cases hlt : k < l.length
    · have hi : (k : Int) < (l.length : Int) := by omega
      obtain ⟨b, off, rfl, hb0, hbB, c0⟩ := (Hr.out.below hb (Nat.le_refl _)).2 k hlt
      obtain ⟨b', off', rfl, hb0', hbB', c0'⟩ := (Hr'.out.below hb (Nat.le_refl _)).2 k hlt
      have d0 := cell_regrown c0
      have d0x := cell_regrown c0'
      clear c0 c0'
      have hne : (l[k] != l[k]) = false := by simp
      go_wp2_with fail
      refine wp_region_quiet_below (by kernel_rfl) (by kernel_rfl) ?_
      repeat (quiet_step (fail))
      refine wpQuiet_nil ?_
      intro _ hw'
      obtain ⟨⟨dq, osq⟩, hw''⟩ := hw'
      subst hw''
      have hb2 := hb.trans ((below_regrown wr dq osq).mono hb.size)
      clear d0 d0x
      go_wp2_with fail
      go_roundw
      case rel => exact ⟨k + 1, by omega, by go_num, hb2⟩
      case measure => simp [intOf]; omega
    · go_wp2_with fail
      go_ret
      exact ⟨rfl, hb⟩
set_option maxHeartbeats 800000 in
theorem eqPb_same (A1 : Option Addr) (c1 : Nat) (A1x : Option Addr) (c1x : Nat) (x : Pb) (w : World) (q1 : QIs w 0 w.heap.size A1 x.path) (q1x : QIs w 0 w.heap.size A1x x.path) :
    Calls Try.prog 29 #[.agg #[.int .i64 x.var, .slice A1 x.path.length c1], .agg #[.int .i64 x.var, .slice A1x x.path.length c1x]] w fun e w' => e = .returned (.bool true) ∧ Below w.heap.size w w' := by
  generalize hw0 : (w.alloc (.cells #[.int .i64 x.var, .slice A1 x.path.length c1] 60)).alloc (.cells #[.int .i64 x.var, .slice A1x x.path.length c1x] 60) = W0
  have hb0 : Below w.heap.size w W0 := by rw [← hw0]; exact ((Below.refl _ _).alloc (Nat.le_refl _) _).alloc (by simp) _
  have X0 : Hid (W0.heap[w.heap.size]? = some (.cells #[.int .i64 x.var, .slice A1 x.path.length c1] 60 (0, 0))) := by unfold Hid; rw [← hw0]; exact blk_alloc (blk_new _ _) _
  have Y0 : Hid (W0.heap[w.heap.size + 1]? = some (.cells #[.int .i64 x.var, .slice A1x x.path.length c1x] 60 (0, 0))) := by
    have h := blk_new (w.alloc (.cells #[.int .i64 x.var, .slice A1 x.path.length c1] 60)) (.cells #[.int .i64 x.var, .slice A1x x.path.length c1x] 60)
    rw [World.size_alloc] at h
    unfold Hid; rw [← hw0]; exact h
  have S1_0 := Lib.hid (q1.at_ hb0)
  have U1_0 := Lib.hid (q1x.at_ hb0)
  have BW0 := Lib.hid hb0
  have HW0 := Lib.hid hw0
  clear hw0 hb0 q1 q1x
  go_enter Try.func29, Try.ntmps29
  go_wp2_with fail
  rw [HW0.out]
  with_reducible refine (eqIs_same A1 A1x x.path c1 c1x W0 S1_0.out U1_0.out).mono ?_
  rintro e0 W1 ⟨rfl, hb0⟩
  have x0_0 := ((hb0.cell (p := ⟨w.heap.size, 0, none⟩) (heap_lt X0.out)).trans (cell_of_blk X0.out 0)).trans rfl
  have y0_0 := ((hb0.cell (p := ⟨w.heap.size + 1, 0, none⟩) (heap_lt Y0.out)).trans (cell_of_blk Y0.out 0)).trans rfl
  have x1_0 := ((hb0.cell (p := ⟨w.heap.size, 1, none⟩) (heap_lt X0.out)).trans (cell_of_blk X0.out 1)).trans rfl
  have y1_0 := ((hb0.cell (p := ⟨w.heap.size + 1, 1, none⟩) (heap_lt Y0.out)).trans (cell_of_blk Y0.out 1)).trans rfl
  have X1 := Lib.hid ((hb0.block _ (heap_lt X0.out)).trans X0.out)
  have Y1 := Lib.hid ((hb0.block _ (heap_lt Y0.out)).trans Y0.out)
  have BW1 := Lib.hid (below_aft' BW0.out hb0 BW0.out.size)
  clear hb0
  go_wp2_with fail
  go_ret
  exact ⟨rfl, BW1.out⟩
set_option maxHeartbeats 800000 in
theorem eqPbs_same (A A' : Option Addr) (l : List Pb) (cap cap' : Nat) (w : World) (hr : QPbs w 0 w.heap.size A l) (hr' : QPbs w 0 w.heap.size A' l) :
    Calls Try.prog 23 #[.slice A l.length cap, .slice A' l.length cap'] w fun e w' => e = .returned (.bool true) ∧ Below w.heap.size w w' := by
  have hn := hr.1
  unfold maxLen at hn
  have Hr := Lib.hid hr
  have Hr' := Lib.hid hr'
  clear hr hr'
  go_enter Try.func23, Try.ntmps23
  go_wp2_with fail
  go_loopw [5] (fun i wr => ∃ k : Nat, k ≤ l.length ∧ i = .int .i64 k ∧ Below w.heap.size w wr) (fun i _ => l.length - (intOf i).toNat)
  case atStart => exact ⟨0, by omega, rfl, Below.refl _ _⟩
  case round =>
    obtain ⟨k, hk, rfl, hb⟩ := hrel
    by_cases hlt : k < l.length
    · have hi : (k : Int) < (l.length : Int) := by omega
      obtain ⟨b, off, rfl, hb0, hbB, A1, c1, x0, x1, s1⟩ := (Hr.out.below hb (Nat.le_refl _)).2 k hlt
      obtain ⟨b', off', rfl, hb0', hbB', A1y, c1y, x0y, x1y, s1y⟩ := (Hr'.out.below hb (Nat.le_refl _)).2 k hlt
      have d0 := cell_regrown x0
      have d0x := cell_regrown x0y
      have d1 := cell_regrown x1
      have d1x := cell_regrown x1y
      have S1 := Lib.hid s1
      have U1 := Lib.hid s1y
      clear x0 x0y x1 x1y s1 s1y
      go_wp2_with fail
      refine wp_region_quiet_below (by kernel_rfl) (by kernel_rfl) ?_
      repeat (quiet_step (exact Calls.regrown_of (eqPb_same _ _ _ _ l[k] _ (S1.out.keep (fun p _ hp => (below_regrown wr _ _).cell (Nat.lt_of_lt_of_le hp hb.size)) (Nat.le_refl _) (Nat.le_trans hb.size (below_regrown wr _ _).size)) (U1.out.keep (fun p _ hp => (below_regrown wr _ _).cell (Nat.lt_of_lt_of_le hp hb.size)) (Nat.le_refl _) (Nat.le_trans hb.size (below_regrown wr _ _).size)))))
      refine wpQuiet_nil ?_
      intro _ hw'
      obtain ⟨⟨dq, osq⟩, hw''⟩ := hw'
      subst hw''
      have hb2 := hb.trans ((below_regrown wr dq osq).mono hb.size)
      clear d0 d0x d1 d1x
      go_wp2_with fail
      go_roundw
      case rel => exact ⟨k + 1, by omega, by go_num, hb2⟩
      case measure => simp [intOf]; omega
    · go_wp2_with fail
      go_ret
      exact ⟨rfl, hb⟩
theorem eqEg_same (x : Eg) (w : World) :
    Calls Try.prog 30 #[.agg #[.int .i64 x.ctor, .int .i64 x.n, .int .i64 x.m, .int .i64 x.to], .agg #[.int .i64 x.ctor, .int .i64 x.n, .int .i64 x.m, .int .i64 x.to]] w fun e w' => e = .returned (.bool true) ∧ Below w.heap.size w w' := by
  go_enter Try.func30, Try.ntmps30
  go_wp2_with fail
  go_ret
  exact ⟨rfl, ((Below.refl _ _).alloc (Nat.le_refl _) _).alloc (by simp) _⟩
set_option maxHeartbeats 800000 in
theorem eqEgs_same (A A' : Option Addr) (l : List Eg) (cap cap' : Nat) (w : World) (hr : QEgs w 0 w.heap.size A l) (hr' : QEgs w 0 w.heap.size A' l) :
    Calls Try.prog 25 #[.slice A l.length cap, .slice A' l.length cap'] w fun e w' => e = .returned (.bool true) ∧ Below w.heap.size w w' := by
  have hn := hr.1
  unfold maxLen at hn
  have Hr := Lib.hid hr
  have Hr' := Lib.hid hr'
  clear hr hr'
  go_enter Try.func25, Try.ntmps25
  go_wp2_with fail
  go_loopw [5] (fun i wr => ∃ k : Nat, k ≤ l.length ∧ i = .int .i64 k ∧ Below w.heap.size w wr) (fun i _ => l.length - (intOf i).toNat)
  case atStart => exact ⟨0, by omega, rfl, Below.refl _ _⟩
  case round =>
    obtain ⟨k, hk, rfl, hb⟩ := hrel
    by_cases hlt : k < l.length
    · have hi : (k : Int) < (l.length : Int) := by omega
      obtain ⟨b, off, rfl, hb0, hbB, x0, x1, x2, x3⟩ := (Hr.out.below hb (Nat.le_refl _)).2 k hlt
      obtain ⟨b', off', rfl, hb0', hbB', x0y, x1y, x2y, x3y⟩ := (Hr'.out.below hb (Nat.le_refl _)).2 k hlt
      have d0 := cell_regrown x0
      have d0x := cell_regrown x0y
      have d1 := cell_regrown x1
      have d1x := cell_regrown x1y
      have d2 := cell_regrown x2
      have d2x := cell_regrown x2y
      have d3 := cell_regrown x3
      have d3x := cell_regrown x3y
      clear x0 x0y x1 x1y x2 x2y x3 x3y
      go_wp2_with fail
      refine wp_region_quiet_below (by kernel_rfl) (by kernel_rfl) ?_
      repeat (quiet_step (exact Calls.regrown_of (eqEg_same l[k] _)))
      refine wpQuiet_nil ?_
      intro _ hw'
      obtain ⟨⟨dq, osq⟩, hw''⟩ := hw'
      subst hw''
      have hb2 := hb.trans ((below_regrown wr dq osq).mono hb.size)
      clear d0 d0x d1 d1x d2 d2x d3 d3x
      go_wp2_with fail
      go_roundw
      case rel => exact ⟨k + 1, by omega, by go_num, hb2⟩
      case measure => simp [intOf]; omega
    · go_wp2_with fail
      go_ret
      exact ⟨rfl, hb⟩
set_option maxHeartbeats 800000 in
theorem eqNd_same (A2 : Option Addr) (c2 : Nat) (A2x : Option Addr) (c2x : Nat) (A3 : Option Addr) (c3 : Nat) (A3x : Option Addr) (c3x : Nat) (A4 : Option Addr) (c4 : Nat) (A4x : Option Addr) (c4x : Nat) (x : Nd) (w : World) (q2 : QPbs w 0 w.heap.size A2 x.binds) (q2x : QPbs w 0 w.heap.size A2x x.binds) (q3 : QIs w 0 w.heap.size A3 x.path) (q3x : QIs w 0 w.heap.size A3x x.path) (q4 : QEgs w 0 w.heap.size A4 x.edges) (q4x : QEgs w 0 w.heap.size A4x x.edges) :
    Calls Try.prog 15 #[.agg #[.int .i64 x.op, .int .i64 x.clause, .slice A2 x.binds.length c2, .slice A3 x.path.length c3, .slice A4 x.edges.length c4, .int .i64 x.els], .agg #[.int .i64 x.op, .int .i64 x.clause, .slice A2x x.binds.length c2x, .slice A3x x.path.length c3x, .slice A4x x.edges.length c4x, .int .i64 x.els]] w fun e w' => e = .returned (.bool true) ∧ Below w.heap.size w w' := by
  generalize hw0 : (w.alloc (.cells #[.int .i64 x.op, .int .i64 x.clause, .slice A2 x.binds.length c2, .slice A3 x.path.length c3, .slice A4 x.edges.length c4, .int .i64 x.els] 38)).alloc (.cells #[.int .i64 x.op, .int .i64 x.clause, .slice A2x x.binds.length c2x, .slice A3x x.path.length c3x, .slice A4x x.edges.length c4x, .int .i64 x.els] 38) = W0
  have hb0 : Below w.heap.size w W0 := by rw [← hw0]; exact ((Below.refl _ _).alloc (Nat.le_refl _) _).alloc (by simp) _
  have X0 : Hid (W0.heap[w.heap.size]? = some (.cells #[.int .i64 x.op, .int .i64 x.clause, .slice A2 x.binds.length c2, .slice A3 x.path.length c3, .slice A4 x.edges.length c4, .int .i64 x.els] 38 (0, 0))) := by unfold Hid; rw [← hw0]; exact blk_alloc (blk_new _ _) _
  have Y0 : Hid (W0.heap[w.heap.size + 1]? = some (.cells #[.int .i64 x.op, .int .i64 x.clause, .slice A2x x.binds.length c2x, .slice A3x x.path.length c3x, .slice A4x x.edges.length c4x, .int .i64 x.els] 38 (0, 0))) := by
    have h := blk_new (w.alloc (.cells #[.int .i64 x.op, .int .i64 x.clause, .slice A2 x.binds.length c2, .slice A3 x.path.length c3, .slice A4 x.edges.length c4, .int .i64 x.els] 38)) (.cells #[.int .i64 x.op, .int .i64 x.clause, .slice A2x x.binds.length c2x, .slice A3x x.path.length c3x, .slice A4x x.edges.length c4x, .int .i64 x.els] 38)
    rw [World.size_alloc] at h
    unfold Hid; rw [← hw0]; exact h
  have S2_0 := Lib.hid (q2.at_ hb0)
  have U2_0 := Lib.hid (q2x.at_ hb0)
  have S3_0 := Lib.hid (q3.at_ hb0)
  have U3_0 := Lib.hid (q3x.at_ hb0)
  have S4_0 := Lib.hid (q4.at_ hb0)
  have U4_0 := Lib.hid (q4x.at_ hb0)
  have BW0 := Lib.hid hb0
  have HW0 := Lib.hid hw0
  clear hw0 hb0 q2 q2x q3 q3x q4 q4x
  go_enter Try.func15, Try.ntmps15
  go_wp2_with fail
  rw [HW0.out]
  with_reducible refine (eqPbs_same A2 A2x x.binds c2 c2x W0 S2_0.out U2_0.out).mono ?_
  rintro e0 W1 ⟨rfl, hb0⟩
  have x0_0 := ((hb0.cell (p := ⟨w.heap.size, 0, none⟩) (heap_lt X0.out)).trans (cell_of_blk X0.out 0)).trans rfl
  have y0_0 := ((hb0.cell (p := ⟨w.heap.size + 1, 0, none⟩) (heap_lt Y0.out)).trans (cell_of_blk Y0.out 0)).trans rfl
  have x1_0 := ((hb0.cell (p := ⟨w.heap.size, 1, none⟩) (heap_lt X0.out)).trans (cell_of_blk X0.out 1)).trans rfl
  have y1_0 := ((hb0.cell (p := ⟨w.heap.size + 1, 1, none⟩) (heap_lt Y0.out)).trans (cell_of_blk Y0.out 1)).trans rfl
  have x2_0 := ((hb0.cell (p := ⟨w.heap.size, 2, none⟩) (heap_lt X0.out)).trans (cell_of_blk X0.out 2)).trans rfl
  have y2_0 := ((hb0.cell (p := ⟨w.heap.size + 1, 2, none⟩) (heap_lt Y0.out)).trans (cell_of_blk Y0.out 2)).trans rfl
  have x3_0 := ((hb0.cell (p := ⟨w.heap.size, 3, none⟩) (heap_lt X0.out)).trans (cell_of_blk X0.out 3)).trans rfl
  have y3_0 := ((hb0.cell (p := ⟨w.heap.size + 1, 3, none⟩) (heap_lt Y0.out)).trans (cell_of_blk Y0.out 3)).trans rfl
  have x4_0 := ((hb0.cell (p := ⟨w.heap.size, 4, none⟩) (heap_lt X0.out)).trans (cell_of_blk X0.out 4)).trans rfl
  have y4_0 := ((hb0.cell (p := ⟨w.heap.size + 1, 4, none⟩) (heap_lt Y0.out)).trans (cell_of_blk Y0.out 4)).trans rfl
  have x5_0 := ((hb0.cell (p := ⟨w.heap.size, 5, none⟩) (heap_lt X0.out)).trans (cell_of_blk X0.out 5)).trans rfl
  have y5_0 := ((hb0.cell (p := ⟨w.heap.size + 1, 5, none⟩) (heap_lt Y0.out)).trans (cell_of_blk Y0.out 5)).trans rfl
  have X1 := Lib.hid ((hb0.block _ (heap_lt X0.out)).trans X0.out)
  have Y1 := Lib.hid ((hb0.block _ (heap_lt Y0.out)).trans Y0.out)
  have S3_1 := Lib.hid (S3_0.out.at_ hb0)
  have U3_1 := Lib.hid (U3_0.out.at_ hb0)
  have S4_1 := Lib.hid (S4_0.out.at_ hb0)
  have U4_1 := Lib.hid (U4_0.out.at_ hb0)
  have BW1 := Lib.hid (below_aft' BW0.out hb0 BW0.out.size)
  clear hb0
  go_wp2_with fail
  with_reducible refine (eqIs_same A3 A3x x.path c3 c3x W1 S3_1.out U3_1.out).mono ?_
  rintro e1 W2 ⟨rfl, hb1⟩
  have x0_1 := ((hb1.cell (p := ⟨w.heap.size, 0, none⟩) (heap_lt X1.out)).trans (cell_of_blk X1.out 0)).trans rfl
  have y0_1 := ((hb1.cell (p := ⟨w.heap.size + 1, 0, none⟩) (heap_lt Y1.out)).trans (cell_of_blk Y1.out 0)).trans rfl
  have x1_1 := ((hb1.cell (p := ⟨w.heap.size, 1, none⟩) (heap_lt X1.out)).trans (cell_of_blk X1.out 1)).trans rfl
  have y1_1 := ((hb1.cell (p := ⟨w.heap.size + 1, 1, none⟩) (heap_lt Y1.out)).trans (cell_of_blk Y1.out 1)).trans rfl
  have x2_1 := ((hb1.cell (p := ⟨w.heap.size, 2, none⟩) (heap_lt X1.out)).trans (cell_of_blk X1.out 2)).trans rfl
  have y2_1 := ((hb1.cell (p := ⟨w.heap.size + 1, 2, none⟩) (heap_lt Y1.out)).trans (cell_of_blk Y1.out 2)).trans rfl
  have x3_1 := ((hb1.cell (p := ⟨w.heap.size, 3, none⟩) (heap_lt X1.out)).trans (cell_of_blk X1.out 3)).trans rfl
  have y3_1 := ((hb1.cell (p := ⟨w.heap.size + 1, 3, none⟩) (heap_lt Y1.out)).trans (cell_of_blk Y1.out 3)).trans rfl
  have x4_1 := ((hb1.cell (p := ⟨w.heap.size, 4, none⟩) (heap_lt X1.out)).trans (cell_of_blk X1.out 4)).trans rfl
  have y4_1 := ((hb1.cell (p := ⟨w.heap.size + 1, 4, none⟩) (heap_lt Y1.out)).trans (cell_of_blk Y1.out 4)).trans rfl
  have x5_1 := ((hb1.cell (p := ⟨w.heap.size, 5, none⟩) (heap_lt X1.out)).trans (cell_of_blk X1.out 5)).trans rfl
  have y5_1 := ((hb1.cell (p := ⟨w.heap.size + 1, 5, none⟩) (heap_lt Y1.out)).trans (cell_of_blk Y1.out 5)).trans rfl
  have X2 := Lib.hid ((hb1.block _ (heap_lt X1.out)).trans X1.out)
  have Y2 := Lib.hid ((hb1.block _ (heap_lt Y1.out)).trans Y1.out)
  have S4_2 := Lib.hid (S4_1.out.at_ hb1)
  have U4_2 := Lib.hid (U4_1.out.at_ hb1)
  have BW2 := Lib.hid (below_aft' BW1.out hb1 BW1.out.size)
  clear hb1
  clear x0_0 y0_0 x1_0 y1_0 x2_0 y2_0 x3_0 y3_0 x4_0 y4_0 x5_0 y5_0
  go_wp2_with fail
  with_reducible refine (eqEgs_same A4 A4x x.edges c4 c4x W2 S4_2.out U4_2.out).mono ?_
  rintro e2 W3 ⟨rfl, hb2⟩
  have x0_2 := ((hb2.cell (p := ⟨w.heap.size, 0, none⟩) (heap_lt X2.out)).trans (cell_of_blk X2.out 0)).trans rfl
  have y0_2 := ((hb2.cell (p := ⟨w.heap.size + 1, 0, none⟩) (heap_lt Y2.out)).trans (cell_of_blk Y2.out 0)).trans rfl
  have x1_2 := ((hb2.cell (p := ⟨w.heap.size, 1, none⟩) (heap_lt X2.out)).trans (cell_of_blk X2.out 1)).trans rfl
  have y1_2 := ((hb2.cell (p := ⟨w.heap.size + 1, 1, none⟩) (heap_lt Y2.out)).trans (cell_of_blk Y2.out 1)).trans rfl
  have x2_2 := ((hb2.cell (p := ⟨w.heap.size, 2, none⟩) (heap_lt X2.out)).trans (cell_of_blk X2.out 2)).trans rfl
  have y2_2 := ((hb2.cell (p := ⟨w.heap.size + 1, 2, none⟩) (heap_lt Y2.out)).trans (cell_of_blk Y2.out 2)).trans rfl
  have x3_2 := ((hb2.cell (p := ⟨w.heap.size, 3, none⟩) (heap_lt X2.out)).trans (cell_of_blk X2.out 3)).trans rfl
  have y3_2 := ((hb2.cell (p := ⟨w.heap.size + 1, 3, none⟩) (heap_lt Y2.out)).trans (cell_of_blk Y2.out 3)).trans rfl
  have x4_2 := ((hb2.cell (p := ⟨w.heap.size, 4, none⟩) (heap_lt X2.out)).trans (cell_of_blk X2.out 4)).trans rfl
  have y4_2 := ((hb2.cell (p := ⟨w.heap.size + 1, 4, none⟩) (heap_lt Y2.out)).trans (cell_of_blk Y2.out 4)).trans rfl
  have x5_2 := ((hb2.cell (p := ⟨w.heap.size, 5, none⟩) (heap_lt X2.out)).trans (cell_of_blk X2.out 5)).trans rfl
  have y5_2 := ((hb2.cell (p := ⟨w.heap.size + 1, 5, none⟩) (heap_lt Y2.out)).trans (cell_of_blk Y2.out 5)).trans rfl
  have X3 := Lib.hid ((hb2.block _ (heap_lt X2.out)).trans X2.out)
  have Y3 := Lib.hid ((hb2.block _ (heap_lt Y2.out)).trans Y2.out)
  have BW3 := Lib.hid (below_aft' BW2.out hb2 BW2.out.size)
  clear hb2
  clear x0_1 y0_1 x1_1 y1_1 x2_1 y2_1 x3_1 y3_1 x4_1 y4_1 x5_1 y5_1
  go_wp2_with fail
  go_ret
  exact ⟨rfl, BW3.out⟩
set_option maxHeartbeats 800000 in
theorem eqNds_same (A A' : Option Addr) (l : List Nd) (cap cap' : Nat) (w : World) (hr : QNds w 0 w.heap.size A l) (hr' : QNds w 0 w.heap.size A' l) :
    Calls Try.prog 8 #[.slice A l.length cap, .slice A' l.length cap'] w fun e w' => e = .returned (.bool true) ∧ Below w.heap.size w w' := by
  have hn := hr.1
  unfold maxLen at hn
  have Hr := Lib.hid hr
  have Hr' := Lib.hid hr'
  clear hr hr'
  go_enter Try.func8, Try.ntmps8
  go_wp2_with fail
  go_loopw [5] (fun i wr => ∃ k : Nat, k ≤ l.length ∧ i = .int .i64 k ∧ Below w.heap.size w wr) (fun i _ => l.length - (intOf i).toNat)
  case atStart => exact ⟨0, by omega, rfl, Below.refl _ _⟩
  case round =>
    obtain ⟨k, hk, rfl, hb⟩ := hrel
    by_cases hlt : k < l.length
    · have hi : (k : Int) < (l.length : Int) := by omega
      obtain ⟨b, off, rfl, hb0, hbB, A2, c2, A3, c3, A4, c4, x0, x1, x2, x3, x4, x5, s2, s3, s4⟩ := (Hr.out.below hb (Nat.le_refl _)).2 k hlt
      obtain ⟨b', off', rfl, hb0', hbB', A2y, c2y, A3y, c3y, A4y, c4y, x0y, x1y, x2y, x3y, x4y, x5y, s2y, s3y, s4y⟩ := (Hr'.out.below hb (Nat.le_refl _)).2 k hlt
      have d0 := cell_regrown x0
      have d0x := cell_regrown x0y
      have d1 := cell_regrown x1
      have d1x := cell_regrown x1y
      have d2 := cell_regrown x2
      have d2x := cell_regrown x2y
      have d3 := cell_regrown x3
      have d3x := cell_regrown x3y
      have d4 := cell_regrown x4
      have d4x := cell_regrown x4y
      have d5 := cell_regrown x5
      have d5x := cell_regrown x5y
      have S2 := Lib.hid s2
      have U2 := Lib.hid s2y
      have S3 := Lib.hid s3
      have U3 := Lib.hid s3y
      have S4 := Lib.hid s4
      have U4 := Lib.hid s4y
      clear x0 x0y x1 x1y x2 x2y x3 x3y x4 x4y x5 x5y s2 s2y s3 s3y s4 s4y
      go_wp2_with fail
      refine wp_region_quiet_below (by kernel_rfl) (by kernel_rfl) ?_
      repeat (quiet_step (exact Calls.regrown_of (eqNd_same _ _ _ _ _ _ _ _ _ _ _ _ l[k] _ (S2.out.keep (fun p _ hp => (below_regrown wr _ _).cell (Nat.lt_of_lt_of_le hp hb.size)) (Nat.le_refl _) (Nat.le_trans hb.size (below_regrown wr _ _).size)) (U2.out.keep (fun p _ hp => (below_regrown wr _ _).cell (Nat.lt_of_lt_of_le hp hb.size)) (Nat.le_refl _) (Nat.le_trans hb.size (below_regrown wr _ _).size)) (S3.out.keep (fun p _ hp => (below_regrown wr _ _).cell (Nat.lt_of_lt_of_le hp hb.size)) (Nat.le_refl _) (Nat.le_trans hb.size (below_regrown wr _ _).size)) (U3.out.keep (fun p _ hp => (below_regrown wr _ _).cell (Nat.lt_of_lt_of_le hp hb.size)) (Nat.le_refl _) (Nat.le_trans hb.size (below_regrown wr _ _).size)) (S4.out.keep (fun p _ hp => (below_regrown wr _ _).cell (Nat.lt_of_lt_of_le hp hb.size)) (Nat.le_refl _) (Nat.le_trans hb.size (below_regrown wr _ _).size)) (U4.out.keep (fun p _ hp => (below_regrown wr _ _).cell (Nat.lt_of_lt_of_le hp hb.size)) (Nat.le_refl _) (Nat.le_trans hb.size (below_regrown wr _ _).size)))))
      refine wpQuiet_nil ?_
      intro _ hw'
      obtain ⟨⟨dq, osq⟩, hw''⟩ := hw'
      subst hw''
      have hb2 := hb.trans ((below_regrown wr dq osq).mono hb.size)
      clear d0 d0x d1 d1x d2 d2x d3 d3x d4 d4x d5 d5x
      go_wp2_with fail
      go_roundw
      case rel => exact ⟨k + 1, by omega, by go_num, hb2⟩
      case measure => simp [intOf]; omega
    · go_wp2_with fail
      go_ret
      exact ⟨rfl, hb⟩
end Go.Proofs.Ytlmlpmbljaomlaa
