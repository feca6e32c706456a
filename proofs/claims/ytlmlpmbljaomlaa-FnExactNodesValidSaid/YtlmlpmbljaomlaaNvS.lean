/-
  NodesValid of the document. No statement is proved here.
-/
import Derived.Test.YtlmlpmbljaomlaaNvM
namespace Go.Proofs.Ytlmlpmbljaomlaa
open Go.RowKit Go.Sort
set_option maxRecDepth 100000
set_option linter.unusedVariables false

theorem none_any (w : World) : Calls Try.prog 10 #[] w fun e w' => e = .returned (.int .i64 (-1)) ∧ Below w.heap.size w w' := by
  go_enter Try.func10, Try.ntmps10
  go_wp2_with fail
  go_ret
  exact ⟨rfl, Below.refl _ _⟩
set_option maxHeartbeats 3200000 in
theorem nv_spec (A : Option Addr) (l : List Nd) (cap : Nat) (w : World) (hr : QNds w 0 w.heap.size A l) :
    Calls Try.prog 5 #[.slice A l.length cap] w fun e w' => e = .returned (.bool (nvB l)) ∧ Below w.heap.size w w' := by
  have hn := hr.1
  unfold maxLen at hn
  have Hr := Lib.hid hr
  clear hr
  by_cases hl1 : 1 ≤ l.length
  case neg =>
    have H := Lib.hid (nv_len (l := l) (by omega))
    have q : ((l.length : Int) == 0) = true := by have h0 : l.length = 0 := by omega
                                                  rw [h0]; rfl
    go_enter Try.func5, Try.ntmps5
    go_wp2_with fail
    go_ret
    exact ⟨ret_b H.out.symm, Below.refl _ _⟩
  have q : ((l.length : Int) == 0) = false := beq_eq_false_iff_ne.2 (by omega)
  by_cases hl2 : l.length ≤ 300
  case neg =>
    have H := Lib.hid (nv_len (l := l) (by omega))
    have hI2 : (300 : Int) < (l.length : Int) := by omega
    go_enter Try.func5, Try.ntmps5
    go_wp2_with fail
    go_ret
    exact ⟨ret_b H.out.symm, Below.refl _ _⟩
  have hI2 : (l.length : Int) ≤ 300 := by omega
  go_enter Try.func5, Try.ntmps5
  go_wp2_with fail
  go_loopw [3] (fun i wr => ∃ k : Nat, k ≤ l.length ∧ i = .int .i64 k ∧ Hid (OkL l k) ∧ Below w.heap.size w wr) (fun i _ => l.length - (intOf i).toNat)
  case atStart => exact ⟨0, by omega, rfl, OkL.zero _, Below.refl _ _⟩
  case round =>
    obtain ⟨k, hk, rfl, HO, hb⟩ := hrel
    by_cases hlt : k < l.length
    · have hkI : (k : Int) < (l.length : Int) := by omega
      obtain ⟨b, off, rfl, hb0, hbB, A2, c2, A3, c3, A4, c4, x0, x1, x2, x3, x4, x5, s2, s3, s4⟩ := (Hr.out.below hb (Nat.le_refl _)).2 k hlt
      have HNA := Lib.hid (nv_at (l := l) hlt)
      have HST := Lib.hid (HO.out.step hlt)
      have hel := s4.1
      unfold maxLen at hel
      have S4 := Lib.hid (s4.keep (fun _ _ _ => rfl) (Nat.le_refl _) hb.size)
      generalize l[k] = x at HNA HST x0 x1 x2 x3 x4 x5 S4 hel
      generalize hwn : wr.alloc (.cells #[.int .i64 x.op, .int .i64 x.clause, .slice A2 x.binds.length c2, .slice A3 x.path.length c3, .slice A4 x.edges.length c4, .int .i64 x.els] 38) = wn
      have hbn : Below wr.heap.size wr wn := by rw [← hwn]; exact (Below.refl _ _).alloc (Nat.le_refl _) _
      have N0 : Hid (wn.heap[wr.heap.size]? = some (.cells #[.int .i64 x.op, .int .i64 x.clause, .slice A2 x.binds.length c2, .slice A3 x.path.length c3, .slice A4 x.edges.length c4, .int .i64 x.els] 38 (0, 0))) := by unfold Hid; rw [← hwn]; exact blk_new _ _
      have E4 := Lib.hid (S4.out.at_ hbn)
      have HWN := Lib.hid hwn
      have hb2 := hb.trans (hbn.mono hb.size)
      clear s2 s3 s4 hwn hbn
      have d0 := cell_regrown ((cell_of_blk N0.out 0).trans rfl)
      have d4 := cell_regrown ((cell_of_blk N0.out 4).trans rfl)
      have d5 := cell_regrown ((cell_of_blk N0.out 5).trans rfl)
      by_cases ho1 : 0 ≤ x.op
      case neg =>
        have H := Lib.hid (HNA.out (fun h => ho1 h.1.1))
        have hoI : x.op < 0 := by omega
        clear ho1
        go_wp2_with fail
        rw [HWN.out]
        refine wp_region_quiet_below (by kernel_rfl) (by kernel_rfl) ?_
        repeat (quiet_step (exact Calls.regrown_of (none_any _)))
        refine wpQuiet_nil ?_
        intro _ hw'
        obtain ⟨⟨dq, osq⟩, hw''⟩ := hw'
        subst hw''
        have hb3 := hb2.trans ((below_regrown wn dq osq).mono hb2.size)
        go_wp2_with fail
        go_ret
        exact ⟨ret_b H.out.symm, hb3⟩
      by_cases ho2 : x.op ≤ 2
      case neg =>
        have H := Lib.hid (HNA.out (fun h => ho2 h.1.2))
        have hoI : (2 : Int) < x.op := by omega
        clear ho2
        go_wp2_with fail
        rw [HWN.out]
        refine wp_region_quiet_below (by kernel_rfl) (by kernel_rfl) ?_
        repeat (quiet_step (exact Calls.regrown_of (none_any _)))
        refine wpQuiet_nil ?_
        intro _ hw'
        obtain ⟨⟨dq, osq⟩, hw''⟩ := hw'
        subst hw''
        have hb3 := hb2.trans ((below_regrown wn dq osq).mono hb2.size)
        go_wp2_with fail
        go_ret
        exact ⟨ret_b H.out.symm, hb3⟩
      by_cases h5 : -1 ≤ x.els
      case neg =>
        have H := Lib.hid (HNA.out (fun h => h5 h.2.1.1))
        have h5I : x.els < -1 := by omega
        clear h5
        go_wp2_with fail
        rw [HWN.out]
        refine wp_region_quiet_below (by kernel_rfl) (by kernel_rfl) ?_
        repeat (quiet_step (exact Calls.regrown_of (none_any _)))
        refine wpQuiet_nil ?_
        intro _ hw'
        obtain ⟨⟨dq, osq⟩, hw''⟩ := hw'
        subst hw''
        have hb3 := hb2.trans ((below_regrown wn dq osq).mono hb2.size)
        go_wp2_with fail
        go_ret
        exact ⟨ret_b H.out.symm, hb3⟩
      by_cases h6 : x.els < (k : Int)
      case neg =>
        have H := Lib.hid (HNA.out (fun h => h6 h.2.1.2))
        have h6I : (k : Int) ≤ x.els := by omega
        clear h6
        go_wp2_with fail
        rw [HWN.out]
        refine wp_region_quiet_below (by kernel_rfl) (by kernel_rfl) ?_
        repeat (quiet_step (exact Calls.regrown_of (none_any _)))
        refine wpQuiet_nil ?_
        intro _ hw'
        obtain ⟨⟨dq, osq⟩, hw''⟩ := hw'
        subst hw''
        have hb3 := hb2.trans ((below_regrown wn dq osq).mono hb2.size)
        go_wp2_with fail
        go_ret
        exact ⟨ret_b H.out.symm, hb3⟩
      by_cases he : x.edges.length ≤ 10
      case neg =>
        have H := Lib.hid (HNA.out (fun h => he h.2.2.1))
        have heI : (10 : Int) < (x.edges.length : Int) := by omega
        clear he
        go_wp2_with fail
        rw [HWN.out]
        refine wp_region_quiet_below (by kernel_rfl) (by kernel_rfl) ?_
        repeat (quiet_step (exact Calls.regrown_of (none_any _)))
        refine wpQuiet_nil ?_
        intro _ hw'
        obtain ⟨⟨dq, osq⟩, hw''⟩ := hw'
        subst hw''
        have hb3 := hb2.trans ((below_regrown wn dq osq).mono hb2.size)
        go_wp2_with fail
        go_ret
        exact ⟨ret_b H.out.symm, hb3⟩
      have heI : (x.edges.length : Int) ≤ 10 := by omega
      go_wp2_with fail
      rw [HWN.out]
      refine wp_region_quiet_below (by kernel_rfl) (by kernel_rfl) ?_
      repeat (quiet_step (exact Calls.regrown_of (none_any _)))
      refine wpQuiet_nil ?_
      intro _ hw'
      obtain ⟨⟨dq, osq⟩, hw''⟩ := hw'
      subst hw''
      have hb3 := hb2.trans ((below_regrown wn dq osq).mono hb2.size)
      clear d0 d4 d5
      have hbq := below_regrown wn dq osq
      go_wp2_with fail
      obtain ⟨bx, hbx⟩ : ∃ bx, wr.heap.size = bx := ⟨_, rfl⟩
      rw [hbx] at N0 ⊢
      clear hbx
      go_loopw [5] (fun j wr => ∃ m : Nat, m ≤ x.edges.length ∧ j = .int .i64 m ∧ Hid (OkE x.edges k m) ∧ Below wn.heap.size wn wr) (fun j _ => x.edges.length - (intOf j).toNat)
      case atStart => exact ⟨0, by omega, rfl, OkE.zero _ _, hbq⟩
      case round =>
        obtain ⟨m, hm, rfl, HE, hb4⟩ := hrel
        have hb5 := hb2.trans (hb4.mono hb2.size)
        have n4 : wr.cell? ⟨bx, 4, none⟩ = some (.slice A4 x.edges.length c4) := (hb4.cell (p := ⟨bx, 4, none⟩) (heap_lt N0.out)).trans ((cell_of_blk N0.out 4).trans rfl)
        by_cases hml : m < x.edges.length
        · have hmI : (m : Int) < (x.edges.length : Int) := by omega
          obtain ⟨b4, off4, rfl, hb40, hb4B, y0, y1, y2, y3⟩ := (E4.out.at_ hb4).2 m hml
          have HES := Lib.hid (HE.out.step hml)
          have HEN : Hid (¬ (0 ≤ x.edges[m].to ∧ x.edges[m].to < (k : Int)) → nvB l = false) := fun h => HNA.out (fun hh => h (hh.2.2.2 m hml hml))
          generalize x.edges[m] = z at HES HEN y0 y1 y2 y3
          by_cases hz : 0 ≤ z.to
          case neg =>
            have H := Lib.hid (HEN.out (fun h => hz h.1))
            have hzI : z.to < 0 := by omega
            clear hz
            go_wp2_with fail
            go_ret
            exact ⟨ret_b H.out.symm, hb5⟩
          by_cases hz2 : z.to < (k : Int)
          case neg =>
            have H := Lib.hid (HEN.out (fun h => hz2 h.2))
            have hzI : (k : Int) ≤ z.to := by omega
            clear hz2
            go_wp2_with fail
            go_ret
            exact ⟨ret_b H.out.symm, hb5⟩
          have HN := Lib.hid (HES.out ⟨hz, hz2⟩)
          go_wp2_with fail
          go_roundw
          case rel => exact ⟨m + 1, by omega, by go_num, HN, hb4⟩
          case measure => simp [intOf]; omega
        · have hmI : (x.edges.length : Int) ≤ (m : Int) := by omega
          have HN := Lib.hid (HST.out ⟨⟨ho1, ho2⟩, ⟨h5, h6⟩, he, fun j hj _ => HE.out j hj (by omega)⟩)
          go_wp2_with fail
          go_roundw
          case rel => exact ⟨k + 1, by omega, by go_num, HN, hb5⟩
          case measure => simp [intOf]; omega
    · have H := Lib.hid (nv_yes ⟨hl1, hl2⟩ HO.out (by omega))
      have hkI : (l.length : Int) ≤ (k : Int) := by omega
      go_wp2_with fail
      go_ret
      exact ⟨ret_b H.out.symm, hb⟩
end Go.Proofs.Ytlmlpmbljaomlaa
