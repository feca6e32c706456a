/-
  GuardHolds of the document. No statement is proved here.
-/
import Derived.Test.YteoopmogklpnoaaT43
import Derived.Test.YteoopmogklpnoaaT42
import Derived.Test.YteoopmogklpnoaaT22
import Derived.Deep.Slices
import Derived.ChangeArms
namespace Go.Proofs.Yteoopmogklpnoaa
open Go.RowKit Go.Sort Go.Deep
set_option maxRecDepth 100000
set_option linter.unusedVariables false
set_option maxHeartbeats 6400000 in
theorem gh_spec (d : Nat) (A : Option Addr) (l : List Bn) (cap : Nat) (g0 g1 g2 : Int) (w : World) (hr : RBs d w w.heap.size A l) :
    Calls Try.prog 39 #[.agg #[.int .i64 g0, .int .i64 g1, .int .i64 g2], .slice A l.length cap] w fun e w' => e = .returned (.bool (ghB g0 g1 g2 l)) ∧ Below w.heap.size w w' := by
  by_cases h0 : g0 = 0
  · have u0 := ieq_t h0
    have HE : Hid (ghB g0 g1 g2 l = true) := if_pos h0
    clear h0
    go_enter Try.func39, Try.ntmps39
    go_wp2_with fail
    go_ret
    exact ⟨ret_bool HE.out.symm, (Below.refl _ _).alloc (Nat.le_refl _) _⟩
  · have u0 := ieq_f h0
    have HE : Hid (ghB g0 g1 g2 l = fndB g0 g1 g2 l) := if_neg h0
    have hn := hr.1
    unfold maxLen at hn
    have Hr := Lib.hid hr
    clear hr
    generalize hw0 : w.alloc (.cells #[.int .i64 g0, .int .i64 g1, .int .i64 g2] 63) = w0
    have hb0 : Below w.heap.size w w0 := by rw [← hw0]; exact (Below.refl _ _).alloc (Nat.le_refl _) _
    have HX : Hid (GBx w0 w.heap.size g0 g1 g2) := by rw [← hw0]; exact ⟨by simp [go_sem], by simp [go_sem], by simp [go_sem]⟩
    have HW := Lib.hid hw0
    clear hw0
    obtain ⟨x0, x1, x2⟩ := HX.out
    go_enter Try.func39, Try.ntmps39
    go_wp2_with fail
    rw [HW.out]
    go_loopw [5] (fun i wr => ∃ k : Nat, k ≤ l.length ∧ i = .int .i64 k ∧ NoB l g1 k ∧ Below w0.heap.size w0 wr) (fun i _ => l.length - (intOf i).toNat)
    case atStart => exact ⟨0, by omega, rfl, NoB.zero _ _, Below.refl _ _⟩
    case round =>
      obtain ⟨k, hk, rfl, hno, hb0r⟩ := hrel
      obtain ⟨y0, y1, y2⟩ := HX.out.at_ hb0r
      have hb := below_aft hb0 hb0r hb0.size
      clear x0 x1 x2
      by_cases hlt : k < l.length
      · obtain ⟨b, off, rfl, hbB, A', cp, c0, c1, c2, c3, hm⟩ := (Hr.out.below hb (Nat.le_refl _)).2 k hlt
        have hkI : (k : Int) < (l.length : Int) := by omega
        have c2' : wr.cell? ⟨b, off + k * 4 + 1 + 1, none⟩ = some (.int .i64 l[k].val.n) := c2
        have d0 := cell_regrown c0
        have d1 := cell_regrown c1
        have d2 := cell_regrown c2
        have d2' := cell_regrown c2'
        have z0 := cell_regrown y0
        have z1 := cell_regrown y1
        have z2 := cell_regrown y2
        clear c0 c1 c2 c2' c3 hm y0 y1 y2
        by_cases hv : l[k].var = g1
        · have HF : Hid (fndB g0 g1 g2 l = okB g0 g2 l[k].val) := fnd_at hlt hno hv
          have qv : (l[k].var != g1) = false := by simp [hv]
          clear hno hv
          by_cases hc : l[k].val.ctor = -1
          · have u := ieq_t hc
            by_cases h1 : g0 = 1
            · have u1 := ieq_t h1
              have e1 : okB g0 g2 l[k].val = decide (l[k].val.n < g2) := ok_less hc h1
              by_cases hn2 : l[k].val.n < g2
              · have q2 : decide (l[k].val.n < g2) = true := decide_eq_true hn2
                have HF2 : Hid (ghB g0 g1 g2 l = true) := by unfold Hid; rw [HE.out, HF.out]; rw [e1, q2]
                go_wp2_with fail
                refine wp_region_quiet_below (by kernel_rfl) (by kernel_rfl) ?_
                repeat (quiet_step (fail))
                refine wpQuiet_nil ?_
                intro _ hw'
                obtain ⟨⟨dq, osq⟩, hw''⟩ := hw'
                subst hw''
                have hb2 := hb.trans ((below_regrown wr dq osq).mono hb.size)
                go_wp2_with fail
                go_ret
                exact ⟨ret_bool HF2.out.symm, hb2⟩
              · have q2 : decide (l[k].val.n < g2) = false := decide_eq_false hn2
                have u2 : (g0 == 2) = false := ieq_f (by omega)
                have HF2 : Hid (ghB g0 g1 g2 l = false) := by unfold Hid; rw [HE.out, HF.out]; rw [e1, q2]
                go_wp2_with fail
                refine wp_region_quiet_below (by kernel_rfl) (by kernel_rfl) ?_
                repeat (quiet_step (fail))
                refine wpQuiet_nil ?_
                intro _ hw'
                obtain ⟨⟨dq, osq⟩, hw''⟩ := hw'
                subst hw''
                have hb2 := hb.trans ((below_regrown wr dq osq).mono hb.size)
                go_wp2_with fail
                go_ret
                exact ⟨ret_bool HF2.out.symm, hb2⟩
            · have u1 := ieq_f h1
              by_cases h2 : g0 = 2
              · have u2 := ieq_t h2
                have e1 : okB g0 g2 l[k].val = decide (l[k].val.n = g2) := ok_equal hc h2
                by_cases hn2 : l[k].val.n = g2
                · have q2 := ieq_t hn2
                  have e2 : decide (l[k].val.n = g2) = true := decide_eq_true hn2
                  have HF2 : Hid (ghB g0 g1 g2 l = true) := by unfold Hid; rw [HE.out, HF.out]; rw [e1, e2]
                  go_wp2_with fail
                  refine wp_region_quiet_below (by kernel_rfl) (by kernel_rfl) ?_
                  repeat (quiet_step (fail))
                  refine wpQuiet_nil ?_
                  intro _ hw'
                  obtain ⟨⟨dq, osq⟩, hw''⟩ := hw'
                  subst hw''
                  have hb2 := hb.trans ((below_regrown wr dq osq).mono hb.size)
                  go_wp2_with fail
                  go_ret
                  exact ⟨ret_bool HF2.out.symm, hb2⟩
                · have q2 := ieq_f hn2
                  have e2 : decide (l[k].val.n = g2) = false := decide_eq_false hn2
                  have HF2 : Hid (ghB g0 g1 g2 l = false) := by unfold Hid; rw [HE.out, HF.out]; rw [e1, e2]
                  go_wp2_with fail
                  refine wp_region_quiet_below (by kernel_rfl) (by kernel_rfl) ?_
                  repeat (quiet_step (fail))
                  refine wpQuiet_nil ?_
                  intro _ hw'
                  obtain ⟨⟨dq, osq⟩, hw''⟩ := hw'
                  subst hw''
                  have hb2 := hb.trans ((below_regrown wr dq osq).mono hb.size)
                  go_wp2_with fail
                  go_ret
                  exact ⟨ret_bool HF2.out.symm, hb2⟩
              · have u2 := ieq_f h2
                have e1 : okB g0 g2 l[k].val = false := ok_unk (fun h => h.elim h1 h2)
                have HF2 : Hid (ghB g0 g1 g2 l = false) := by unfold Hid; rw [HE.out, HF.out]; exact e1
                go_wp2_with fail
                refine wp_region_quiet_below (by kernel_rfl) (by kernel_rfl) ?_
                repeat (quiet_step (fail))
                refine wpQuiet_nil ?_
                intro _ hw'
                obtain ⟨⟨dq, osq⟩, hw''⟩ := hw'
                subst hw''
                have hb2 := hb.trans ((below_regrown wr dq osq).mono hb.size)
                go_wp2_with fail
                go_ret
                exact ⟨ret_bool HF2.out.symm, hb2⟩
          · have u := ieq_f hc
            have e1 : okB g0 g2 l[k].val = false := ok_ctor hc
            have HF2 : Hid (ghB g0 g1 g2 l = false) := by unfold Hid; rw [HE.out, HF.out]; exact e1
            go_wp2_with fail
            refine wp_region_quiet_below (by kernel_rfl) (by kernel_rfl) ?_
            repeat (quiet_step (fail))
            refine wpQuiet_nil ?_
            intro _ hw'
            obtain ⟨⟨dq, osq⟩, hw''⟩ := hw'
            subst hw''
            have hb2 := hb.trans ((below_regrown wr dq osq).mono hb.size)
            go_wp2_with fail
            go_ret
            exact ⟨ret_bool HF2.out.symm, hb2⟩
        · have HN := Lib.hid (hno.step hlt hv)
          have qv : (l[k].var != g1) = true := by simp [hv]
          clear hno hv
          go_wp2_with fail
          refine wp_region_quiet_below (by kernel_rfl) (by kernel_rfl) ?_
          repeat (quiet_step (fail))
          refine wpQuiet_nil ?_
          intro _ hw'
          obtain ⟨⟨dq, osq⟩, hw''⟩ := hw'
          subst hw''
          have hb2 := hb0r.trans ((below_regrown wr dq osq).mono hb0r.size)
          go_wp2_with fail
          go_roundw
          case rel => exact ⟨k + 1, by omega, by go_num, HN.out, hb2⟩
          case measure => simp [intOf]; omega
      · have HF : Hid (ghB g0 g1 g2 l = false) := by unfold Hid; rw [HE.out]; exact fnd_none (fun j hj hjk => hno j hj (by omega))
        clear hno
        go_wp2_with fail
        go_ret
        exact ⟨ret_bool HF.out.symm, hb⟩
end Go.Proofs.Yteoopmogklpnoaa
/-
  The law FnGuardHolds walked. No statement is proved here.
-/
namespace Go.Proofs.Yteoopmogklpnoaa
open Go.RowKit Go.Sort Go.Deep
set_option maxRecDepth 100000
set_option linter.unusedVariables false
theorem gh_one1 (a N n : Int) : ghB 1 a N [⟨a, .mk (-1) n []⟩] = decide (n < N) := by
  unfold ghB fndB okB
  simp [Vl.ctor, Vl.n]
theorem gh_one2 (a N n : Int) : ghB 2 a N [⟨a, .mk (-1) n []⟩] = decide (n = N) := by
  unfold ghB fndB okB
  simp [Vl.ctor, Vl.n]
theorem gh_none (a N : Int) (l : List Bn) : ghB 0 a N l = true := rfl
theorem one_bindI {w : World} {g : Nat} {k m : Int} (h : w.heap[g]? = some (.cells #[.int .i64 k, .int .i64 (-1), .int .i64 m, .slice none 0 0] 69 (0, 0))) : RBs 1 w w.heap.size (some ⟨g, 0, none⟩) [⟨k, .mk (-1) m []⟩] :=
  ⟨by simp [maxLen], fun j hj => by
    have hj0 : j = 0 := by simpa using hj
    subst hj0
    exact ⟨g, 0, rfl, heap_lt h, none, 0, (cell_of_blk h 0).trans rfl, (cell_of_blk h 1).trans rfl, (cell_of_blk h 2).trans rfl, (cell_of_blk h 3).trans rfl, RVs.nil⟩⟩
set_option maxHeartbeats 4000000 in
theorem guardH_law (n cap m cap2 : Nat) (Ac Am : Option Addr) (w : World) (hn : n ≤ maxLen) (hc : n ≤ cap) (h : RBy w w.heap.size Ac n) (hm : m ≤ maxLen) : Calls Try.prog 10 #[.slice Ac n cap, .slice Am m cap2] w fun e w' => e = .returned (.bool true) ∧ Below w.heap.size w w' := by
  have HC := Lib.hid hc
  have HNM := Lib.hid hn
  have H := Lib.hid h
  clear hc hn h
  by_cases hb : n ≤ 1048576
  · have hbI : (n : Int) ≤ 1048576 := by omega
    by_cases hm2 : m ≤ 1048576
    · have hmI : (m : Int) ≤ 1048576 := by omega
      go_enter Try.func10, Try.ntmps10
      go_wp2_with fail
      refine (drawGH_any n cap Ac w HNM.out HC.out H.out).mono ?_
      rintro e w1 ⟨g0, g1, g2, A, c, bs, d, rfl, hrb, hb1⟩
      generalize hwb : w1.alloc (.cells #[.int .i64 g0, .int .i64 g1, .int .i64 g2] 63) = wb
      have hbb : Below w1.heap.size w1 wb := by rw [← hwb]; exact (Below.refl _ _).alloc (Nat.le_refl _) _
      have X0 : Hid (GBx wb w1.heap.size g0 g1 g2) := by rw [← hwb]; exact ⟨by simp [go_sem], by simp [go_sem], by simp [go_sem]⟩
      have R0 : Hid (RBs d wb wb.heap.size A bs) := hrb.at_ hbb
      have B0 : Hid (Below w.heap.size w wb) := below_after hb1 hbb hb1.size
      have HWB := Lib.hid hwb
      have HGB := Lib.hid (gh_none 0 0 bs)
      obtain ⟨gb, hgb⟩ : ∃ gb, ghB g0 g1 g2 bs = gb := ⟨_, rfl⟩
      have HG := Lib.hid hgb
      have hgg : (gb == gb) = true := by simp
      clear hwb hbb hrb hb1 hgb
      go_wp2_with fail
      rw [HWB.out]
      with_reducible refine (gh_impl d A bs c g0 g1 g2 wb R0.out).mono ?_
      rw [HG.out]
      rintro e2 w2 ⟨rfl, hb2⟩
      have X2 : Hid (GBx w2 w1.heap.size g0 g1 g2) := X0.out.at_ hb2
      have R2 : Hid (RBs d w2 w2.heap.size A bs) := R0.out.at_ hb2
      have B2 : Hid (Below w.heap.size w w2) := below_after B0.out hb2 B0.out.size
      clear hb2
      obtain ⟨x0, x1, x2⟩ := X2.out
      have hl12 : w1.heap.size < w2.heap.size := Go.block_lt_of_cell x0
      go_wp2_with fail
      generalize (m : Int) % 10 = k
      generalize hwc : w2.alloc (.cells #[.int .i64 g1, .int .i64 (-1), .int .i64 k, .slice none 0 0] 69) = wc
      have hbc : Below w2.heap.size w2 wc := by rw [← hwc]; exact (Below.refl _ _).alloc (Nat.le_refl _) _
      have HBN : Hid (RBs 1 wc wc.heap.size (some ⟨w2.heap.size, 0, none⟩) [⟨g1, .mk (-1) k []⟩]) := by
        refine one_bindI ?_
        rw [← hwc]; exact heap_alloc_new w2 _
      have X3 : Hid (GBx wc w1.heap.size g0 g1 g2) := X2.out.at_ hbc
      have R3 : Hid (RBs d wc wc.heap.size A bs) := R2.out.at_ hbc
      have B3 : Hid (Below w.heap.size w wc) := below_after B2.out hbc B2.out.size
      have HCI : Hid (∀ (W : World) (gA : Int), RBs 1 W W.heap.size (some ⟨w2.heap.size, 0, none⟩) [⟨g1, .mk (-1) k []⟩] → Calls Try.prog 38 #[.agg #[.int .i64 gA, .int .i64 g1, .int .i64 g2], .slice (some ⟨w2.heap.size, 0, none⟩) 1 1] W fun e w' => e = .returned (.bool (ghB gA g1 g2 [⟨g1, .mk (-1) k []⟩])) ∧ Below W.heap.size W w') := fun W gA h => gh_impl 1 (some ⟨w2.heap.size, 0, none⟩) [⟨g1, .mk (-1) k []⟩] 1 gA g1 g2 W h
      have HO1 := Lib.hid (gh_one1 g1 g2 k)
      have HO2 := Lib.hid (gh_one2 g1 g2 k)
      clear hwc hbc x0 x1 x2 R2 X2 hl12
      by_cases hlt : k < g2 <;> by_cases heq : k = g2
      · omega
      · have q1 : decide (k < g2) = true := decide_eq_true hlt
        have q2 : decide (k = g2) = false := decide_eq_false heq
        have q3 : (k == g2) = false := ieq_f heq
        rw [q1] at HO1
        rw [q2] at HO2
        have q4 : k < g2 := hlt
        clear q2 heq hlt
        with_reducible refine (HCI.out wc 1 HBN.out).mono ?_
        rw [HO1.out]
        rintro e4 w4 ⟨rfl, hb4⟩
        have X4 : Hid (GBx w4 w1.heap.size g0 g1 g2) := X3.out.at_ hb4
        have R4 : Hid (RBs d w4 w4.heap.size A bs) := R3.out.at_ hb4
        have N4 : Hid (RBs 1 w4 w4.heap.size (some ⟨w2.heap.size, 0, none⟩) [⟨g1, .mk (-1) k []⟩]) := HBN.out.at_ hb4
        have B4 : Hid (Below w.heap.size w w4) := below_after B3.out hb4 B3.out.size
        clear hb4
        obtain ⟨x0, x1, x2⟩ := X4.out
        go_wp2_with fail
        with_reducible refine (HCI.out w4 2 N4.out).mono ?_
        rw [HO2.out]
        rintro e5 w5 ⟨rfl, hb5⟩
        have X5 : Hid (GBx w5 w1.heap.size g0 g1 g2) := X4.out.at_ hb5
        have R5 : Hid (RBs d w5 w5.heap.size A bs) := R4.out.at_ hb5
        have B5 : Hid (Below w.heap.size w w5) := below_after B4.out hb5 B4.out.size
        clear hb5 x0 x1 x2
        obtain ⟨x0, x1, x2⟩ := X5.out
        go_wp2_with fail
        with_reducible refine (gh_spec d A bs c g0 g1 g2 w5 R5.out).mono ?_
        rw [HG.out]
        rintro e6 w6 ⟨rfl, hb6⟩
        have X6 : Hid (GBx w6 w1.heap.size g0 g1 g2) := X5.out.at_ hb6
        have R6 : Hid (RBs d w6 w6.heap.size A bs) := R5.out.at_ hb6
        have B6 : Hid (Below w.heap.size w w6) := below_after B5.out hb6 B5.out.size
        clear hb6 x0 x1 x2
        obtain ⟨x0, x1, x2⟩ := X6.out
        go_wp2_with fail
        with_reducible refine (gh_impl d A bs c 0 0 0 w6 R6.out).mono ?_
        rw [HGB.out]
        rintro e7 w7 ⟨rfl, hb7⟩
        have B7 : Hid (Below w.heap.size w w7) := below_after B6.out hb7 B6.out.size
        clear hb7 x0 x1 x2
        go_wp2_with fail
        go_ret
        exact ⟨rfl, B7.out⟩
      · have q1 : decide (k < g2) = false := decide_eq_false hlt
        have q2 : decide (k = g2) = true := decide_eq_true heq
        have q3 : (k == g2) = true := ieq_t heq
        rw [q1] at HO1
        rw [q2] at HO2
        have q4 : g2 ≤ k := by omega
        clear q2 heq hlt
        with_reducible refine (HCI.out wc 1 HBN.out).mono ?_
        rw [HO1.out]
        rintro e4 w4 ⟨rfl, hb4⟩
        have X4 : Hid (GBx w4 w1.heap.size g0 g1 g2) := X3.out.at_ hb4
        have R4 : Hid (RBs d w4 w4.heap.size A bs) := R3.out.at_ hb4
        have N4 : Hid (RBs 1 w4 w4.heap.size (some ⟨w2.heap.size, 0, none⟩) [⟨g1, .mk (-1) k []⟩]) := HBN.out.at_ hb4
        have B4 : Hid (Below w.heap.size w w4) := below_after B3.out hb4 B3.out.size
        clear hb4
        obtain ⟨x0, x1, x2⟩ := X4.out
        go_wp2_with fail
        with_reducible refine (HCI.out w4 2 N4.out).mono ?_
        rw [HO2.out]
        rintro e5 w5 ⟨rfl, hb5⟩
        have X5 : Hid (GBx w5 w1.heap.size g0 g1 g2) := X4.out.at_ hb5
        have R5 : Hid (RBs d w5 w5.heap.size A bs) := R4.out.at_ hb5
        have B5 : Hid (Below w.heap.size w w5) := below_after B4.out hb5 B4.out.size
        clear hb5 x0 x1 x2
        obtain ⟨x0, x1, x2⟩ := X5.out
        go_wp2_with fail
        with_reducible refine (gh_spec d A bs c g0 g1 g2 w5 R5.out).mono ?_
        rw [HG.out]
        rintro e6 w6 ⟨rfl, hb6⟩
        have X6 : Hid (GBx w6 w1.heap.size g0 g1 g2) := X5.out.at_ hb6
        have R6 : Hid (RBs d w6 w6.heap.size A bs) := R5.out.at_ hb6
        have B6 : Hid (Below w.heap.size w w6) := below_after B5.out hb6 B5.out.size
        clear hb6 x0 x1 x2
        obtain ⟨x0, x1, x2⟩ := X6.out
        go_wp2_with fail
        with_reducible refine (gh_impl d A bs c 0 0 0 w6 R6.out).mono ?_
        rw [HGB.out]
        rintro e7 w7 ⟨rfl, hb7⟩
        have B7 : Hid (Below w.heap.size w w7) := below_after B6.out hb7 B6.out.size
        clear hb7 x0 x1 x2
        go_wp2_with fail
        go_ret
        exact ⟨rfl, B7.out⟩
      · have q1 : decide (k < g2) = false := decide_eq_false hlt
        have q2 : decide (k = g2) = false := decide_eq_false heq
        have q3 : (k == g2) = false := ieq_f heq
        rw [q1] at HO1
        rw [q2] at HO2
        have q4 : g2 ≤ k := by omega
        clear q2 heq hlt
        with_reducible refine (HCI.out wc 1 HBN.out).mono ?_
        rw [HO1.out]
        rintro e4 w4 ⟨rfl, hb4⟩
        have X4 : Hid (GBx w4 w1.heap.size g0 g1 g2) := X3.out.at_ hb4
        have R4 : Hid (RBs d w4 w4.heap.size A bs) := R3.out.at_ hb4
        have N4 : Hid (RBs 1 w4 w4.heap.size (some ⟨w2.heap.size, 0, none⟩) [⟨g1, .mk (-1) k []⟩]) := HBN.out.at_ hb4
        have B4 : Hid (Below w.heap.size w w4) := below_after B3.out hb4 B3.out.size
        clear hb4
        obtain ⟨x0, x1, x2⟩ := X4.out
        go_wp2_with fail
        with_reducible refine (HCI.out w4 2 N4.out).mono ?_
        rw [HO2.out]
        rintro e5 w5 ⟨rfl, hb5⟩
        have X5 : Hid (GBx w5 w1.heap.size g0 g1 g2) := X4.out.at_ hb5
        have R5 : Hid (RBs d w5 w5.heap.size A bs) := R4.out.at_ hb5
        have B5 : Hid (Below w.heap.size w w5) := below_after B4.out hb5 B4.out.size
        clear hb5 x0 x1 x2
        obtain ⟨x0, x1, x2⟩ := X5.out
        go_wp2_with fail
        with_reducible refine (gh_spec d A bs c g0 g1 g2 w5 R5.out).mono ?_
        rw [HG.out]
        rintro e6 w6 ⟨rfl, hb6⟩
        have X6 : Hid (GBx w6 w1.heap.size g0 g1 g2) := X5.out.at_ hb6
        have R6 : Hid (RBs d w6 w6.heap.size A bs) := R5.out.at_ hb6
        have B6 : Hid (Below w.heap.size w w6) := below_after B5.out hb6 B5.out.size
        clear hb6 x0 x1 x2
        obtain ⟨x0, x1, x2⟩ := X6.out
        go_wp2_with fail
        with_reducible refine (gh_impl d A bs c 0 0 0 w6 R6.out).mono ?_
        rw [HGB.out]
        rintro e7 w7 ⟨rfl, hb7⟩
        have B7 : Hid (Below w.heap.size w w7) := below_after B6.out hb7 B6.out.size
        clear hb7 x0 x1 x2
        go_wp2_with fail
        go_ret
        exact ⟨rfl, B7.out⟩
    · have hmI : (1048576 : Int) < (m : Int) := by omega
      go_enter Try.func10, Try.ntmps10
      go_wp2_with fail
      go_ret
      exact ⟨rfl, Below.refl _ _⟩
  · have hbI : (1048576 : Int) < (n : Int) := by omega
    go_enter Try.func10, Try.ntmps10
    go_wp2_with fail
    go_ret
    exact ⟨rfl, Below.refl _ _⟩
end Go.Proofs.Yteoopmogklpnoaa
/-
  The argument of the statements, opened; lists of numbers compared: the statements' own functions. No statement is proved here.
-/
namespace Go.Proofs.Yteoopmogklpnoaa
open Go.RowKit Go.Deep
open Go.ChangeShapes Go.WideShapes Go.ChangeAt
set_option maxRecDepth 100000
set_option linter.unusedVariables false
section
variable {H : Type} {enc : TypeId × Value → H} {w : World} {spare : Nat → Bool} {held : Bool}
theorem spot_none {w : World} {a : Addr} {v : Value} (h : w.cell? a = some v) : a.spot = none := by
  unfold World.cell? at h
  split at h
  · split at h
    · cases h
    · simpa using ‹¬ a.spot.isSome = true›
  · cases h
theorem open_code {v : Value} {d : DataW H} {p : List MemPlace} (hval : Value.okWide Try.prog w .any w.heap.size 22 v) (h : DataW.Trod enc Try.prog w 0 spare held 22 v d p) :
    ∃ A n cap, v = .slice A n cap ∧ n ≤ maxLen ∧ n ≤ cap ∧ RBy w w.heap.size A n := by
  obtain ⟨fuel, hf⟩ := h
  have hv : ∃ A n cap, v = .slice A n cap := okWide_slice Try.underlying22 hval
  obtain ⟨A, n, cap, rfl⟩ := hv
  rcases open_slice Try.underlying22 hf with ⟨hcs, _⟩ | ⟨a, len, cap', m, n', D, Pl, hcs, hb, hl, hm, hmm, hx, hi⟩
  · simp [Value.cells] at hcs
    obtain ⟨rfl, rfl, rfl⟩ := hcs
    exact ⟨none, 0, 0, rfl, Nat.zero_le _, Nat.le_refl _, fun k hk => absurd hk (by omega)⟩
  · simp [Value.cells] at hcs
    obtain ⟨rfl, rfl, rfl⟩ := hcs
    have hlm : n ≤ m := by rw [hmm]; split <;> omega
    refine ⟨some a, n, cap, rfl, by omega, hl, fun k hk => ?_⟩
    obtain ⟨cs', q1, q2⟩ := hi k (by omega)
    have h1 : Try.prog.cellsOf 5 = 1 := by kernel_rfl
    rw [h1] at q1
    obtain ⟨_, hcl, hat⟩ := World.cells?_some q1
    obtain ⟨x, rfl, _, hwf⟩ := DataW.trod_int Try.underlying5 q2
    have hc := (hat 0 (by omega)).trans rfl
    have hsp : a.spot = none := by
      obtain ⟨cs0, r1, r2⟩ := hi 0 (by omega)
      rw [h1] at r1
      obtain ⟨_, _, hat0⟩ := World.cells?_some r1
      obtain ⟨x0, rfl, _, _⟩ := DataW.trod_int Try.underlying5 r2
      have h0 := (hat0 0 (by omega)).trans rfl
      exact spot_none (w := w) (a := a) (by simpa [Addr.add] using h0)
    obtain ⟨b, off, sp⟩ := a
    simp only at hsp
    subst hsp
    simp only [Addr.add_lit, Nat.add_zero, Nat.mul_one] at hc
    have hw : 0 ≤ x ∧ x ≤ 255 := by
      have : (IntKind.u8.min ≤ x ∧ x ≤ IntKind.u8.max) := by simpa [Lit.wf] using hwf
      exact this
    exact ⟨b, off, x, rfl, block_lt_of_cell hc, hc, hw.1, hw.2⟩
end
end Go.Proofs.Yteoopmogklpnoaa
