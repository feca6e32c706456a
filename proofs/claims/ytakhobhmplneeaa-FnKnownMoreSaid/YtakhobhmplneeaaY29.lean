/-
  When a tree is a value of a type: the program's function. No statement is proved here.
-/
import Derived.Test.YtakhobhmplneeaaY28
namespace Go.Proofs.Ytakhobhmplneeaa
open Go.RowKit Go.Sort Go.Deep
set_option maxRecDepth 100000
set_option linter.unusedVariables false
/-- What the program's function gives beside the answer. -/
noncomputable def ndH (l : List Da) (d : Nat) (t : Ty) (v : Vl) : Int := if fitH l d t v then 1 + (wV v : Int) else if 0 < d ∧ t.data = -1 then 1 else 0
theorem ndH_yes {l : List Da} {d : Nat} {t : Ty} {v : Vl} (h : fitH l d t v = true) : ndH l d t v = 1 + (wV v : Int) := by unfold ndH; rw [h]; rfl
theorem ndH_int {l : List Da} {d : Nat} {t : Ty} {v : Vl} (h : fitH l (d + 1) t v = false) (ht : t.data = -1) : ndH l (d + 1) t v = 1 := by unfold ndH; rw [h, if_neg (by simp), if_pos ⟨by omega, ht⟩]
theorem ndH_no {l : List Da} {d : Nat} {t : Ty} {v : Vl} (h : fitH l d t v = false) (ht : ¬ t.data = -1) : ndH l d t v = 0 := by unfold ndH; rw [h, if_neg (by simp), if_neg (fun e => ht e.2)]
theorem ndH_zero {l : List Da} {t : Ty} {v : Vl} : ndH l 0 t v = 0 := by unfold ndH; rw [fitH_zero, if_neg (by simp), if_neg (fun e => by omega)]
def NdHC (l : List Da) (d : Nat) (z : Int) : Prop := ∀ (A D : Option Addr) (cap ep e : Nat) (t : Ty) (v : Vl) (w : World), RDas w w.heap.size A l → TyOK l t → RVs e w w.heap.size D v.kids → wV v ≤ 16000000 →
  Calls Try.prog 38 #[.slice A l.length cap, .agg #[.int .i64 t.data, .int .i64 t.index], .agg #[.int .i64 v.ctor, .int .i64 v.n, .slice D v.kids.length ep], .int .i64 z, .func (.func 24) #[] #[]] w fun e w' => e = .returned (.tuple #[.int .i64 (ndH l d t v), .bool (fitH l d t v)]) ∧ Below w.heap.size w w'
def NdHS (l : List Da) (d : Nat) : Prop := NdHC l d (d : Nat)
theorem NdHC.known {l : List Da} {d : Nat} {z : Int} (h : NdHC l d z) (A D : Option Addr) (cap ep e : Nat) (t : Ty) (v : Vl) (r : Int) (b : Bool) (w : World) (hf : fitH l d t v = b) (hn : ndH l d t v = r) (hr : RDas w w.heap.size A l) (ht : TyOK l t) (hv : RVs e w w.heap.size D v.kids) (hw : wV v ≤ 16000000) :
    Calls Try.prog 38 #[.slice A l.length cap, .agg #[.int .i64 t.data, .int .i64 t.index], .agg #[.int .i64 v.ctor, .int .i64 v.n, .slice D v.kids.length ep], .int .i64 z, .func (.func 24) #[] #[]] w fun e w' => e = .returned (.tuple #[.int .i64 r, .bool b]) ∧ Below w.heap.size w w' := by
  rw [← hf, ← hn]; exact h A D cap ep e t v w hr ht hv hw
theorem ndHS_zero (l : List Da) : NdHS l 0 := by
  intro A D cap ep e t v w hr ht hv hw
  have HB : Hid (∀ o o' : Obj, Below w.heap.size w ((w.alloc o).alloc o')) := fun o o' => ((Below.refl _ _).alloc (Nat.le_refl _) _).alloc (by simp) _
  have HZ := Lib.hid (ndH_zero (l := l) (t := t) (v := v))
  clear hr ht hv
  go_enter Try.func38, Try.ntmps38
  go_wp2_with fail
  go_ret2
  exact ⟨ret_nb HZ.out.symm rfl, HB.out _ _⟩
set_option maxHeartbeats 1600000 in
theorem ndHS_int (l : List Da) (d : Nat) (hd : d < 100) (A D : Option Addr) (cap ep : Nat) (t : Ty) (v : Vl) (w : World) (h1 : t.data = -1) (hh : holeV v = false) (hl : v.kids.length ≤ maxLen) :
    Calls Try.prog 38 #[.slice A l.length cap, .agg #[.int .i64 t.data, .int .i64 t.index], .agg #[.int .i64 v.ctor, .int .i64 v.n, .slice D v.kids.length ep], .int .i64 ((d + 1 : Nat) : Int), .func (.func 24) #[] #[]] w fun e w' => e = .returned (.tuple #[.int .i64 (ndH l (d + 1) t v), .bool (fitH l (d + 1) t v)]) ∧ Below w.heap.size w w' := by
  have HH := Lib.hid hh
  have HLE := Lib.hid hl
  have HF := Lib.hid (fitH_int (l := l) (d := d) (v := v) hh h1)
  clear hh
  have HR : Hid (ndH l (d + 1) t v = 1) := by
    by_cases hf : fitH l (d + 1) t v = true
    · have h2 := hf
      rw [fitH_int HH.out h1] at h2
      simp only [Bool.and_eq_true, decide_eq_true_eq] at h2
      unfold Hid
      rw [ndH_yes hf, wV_none h2.2.2.2]; rfl
    · exact ndH_int (by simpa using hf) h1
  have q1 := ieq_t h1
  generalize hz : ((d + 1 : Nat) : Int) = z
  have hz0 : 1 ≤ z := by omega
  have hz1 : (z == 0) = false := ieq_f (by omega)
  clear h1 hz
  unfold maxLen at hl
  generalize hw0 : (w.alloc (.cells #[.int .i64 t.data, .int .i64 t.index] 25)).alloc (.cells #[.int .i64 v.ctor, .int .i64 v.n, .slice D v.kids.length ep] 28) = w0
  have hb0 := below_box2 hw0
  have HXV : Hid (VBx w0 (w.heap.size + 1) v.ctor v.n (.slice D v.kids.length ep)) := by rw [← hw0]; exact ⟨by simp [go_sem], by simp [go_sem], by simp [go_sem]⟩
  have HXT : Hid (Bx w0 w.heap.size t) := by rw [← hw0]; exact ⟨by simp [go_sem], by simp [go_sem]⟩
  have HW := Lib.hid hw0
  clear hw0
  by_cases a1 : v.ctor = -1
  · have p1 := ieq_t a1
    by_cases a2 : 0 ≤ v.n
    · by_cases a3 : v.n ≤ 9
      · by_cases a4 : v.kids.length = 0
        · have p4 := ieq_t (show (v.kids.length : Int) = 0 by omega)
          rw [decide_eq_true a1, decide_eq_true a2, decide_eq_true a3, decide_eq_true a4] at HF
          clear a1 a4
          go_enter Try.func38, Try.ntmps38
          go_wp2_with (go_at_call 24; rw [HW.out]; refine (isH_any_known D ep v false _ HH.out HLE.out).mono ?_; rintro e0 wm ⟨rfl, hbm⟩; obtain ⟨x0, x1⟩ := HXT.out.at_ hbm; obtain ⟨y0, y1, y2⟩ := HXV.out.at_ hbm; have hb0 := below_aft hb0 hbm hb0.size; have HXT := Lib.hid (HXT.out.at_ hbm); have HXV := Lib.hid (HXV.out.at_ hbm))
          go_quiet (fail)
          go_wp2_with fail
          go_ret2
          exact ⟨ret_nb HR.out.symm (by rw [HF.out]; rfl), below_drawn hb0 _⟩
        · have p4 := ieq_f (show ¬ (v.kids.length : Int) = 0 by omega)
          rw [decide_eq_false a4] at HF
          clear a1 a4
          go_enter Try.func38, Try.ntmps38
          go_wp2_with (go_at_call 24; rw [HW.out]; refine (isH_any_known D ep v false _ HH.out HLE.out).mono ?_; rintro e0 wm ⟨rfl, hbm⟩; obtain ⟨x0, x1⟩ := HXT.out.at_ hbm; obtain ⟨y0, y1, y2⟩ := HXV.out.at_ hbm; have hb0 := below_aft hb0 hbm hb0.size; have HXT := Lib.hid (HXT.out.at_ hbm); have HXV := Lib.hid (HXV.out.at_ hbm))
          go_quiet (fail)
          go_wp2_with fail
          go_ret2
          exact ⟨ret_nb HR.out.symm (by rw [HF.out]; simp), below_drawn hb0 _⟩
      · have p3 : decide (v.n ≤ 9) = false := decide_eq_false a3
        rw [decide_eq_false a3] at HF
        clear a1
        go_enter Try.func38, Try.ntmps38
        go_wp2_with (go_at_call 24; rw [HW.out]; refine (isH_any_known D ep v false _ HH.out HLE.out).mono ?_; rintro e0 wm ⟨rfl, hbm⟩; obtain ⟨x0, x1⟩ := HXT.out.at_ hbm; obtain ⟨y0, y1, y2⟩ := HXV.out.at_ hbm; have hb0 := below_aft hb0 hbm hb0.size; have HXT := Lib.hid (HXT.out.at_ hbm); have HXV := Lib.hid (HXV.out.at_ hbm))
        go_quiet (fail)
        go_wp2_with fail
        go_ret2
        exact ⟨ret_nb HR.out.symm (by rw [HF.out]; simp), below_drawn hb0 _⟩
    · have p2 : decide (0 ≤ v.n) = false := decide_eq_false a2
      rw [decide_eq_false a2] at HF
      clear a1
      go_enter Try.func38, Try.ntmps38
      go_wp2_with (go_at_call 24; rw [HW.out]; refine (isH_any_known D ep v false _ HH.out HLE.out).mono ?_; rintro e0 wm ⟨rfl, hbm⟩; obtain ⟨x0, x1⟩ := HXT.out.at_ hbm; obtain ⟨y0, y1, y2⟩ := HXV.out.at_ hbm; have hb0 := below_aft hb0 hbm hb0.size; have HXT := Lib.hid (HXT.out.at_ hbm); have HXV := Lib.hid (HXV.out.at_ hbm))
      go_quiet (fail)
      go_wp2_with fail
      go_ret2
      exact ⟨ret_nb HR.out.symm (by rw [HF.out]; simp), below_drawn hb0 _⟩
  · have p1 := ieq_f a1
    rw [decide_eq_false a1] at HF
    clear a1
    go_enter Try.func38, Try.ntmps38
    go_wp2_with (go_at_call 24; rw [HW.out]; refine (isH_any_known D ep v false _ HH.out HLE.out).mono ?_; rintro e0 wm ⟨rfl, hbm⟩; obtain ⟨x0, x1⟩ := HXT.out.at_ hbm; obtain ⟨y0, y1, y2⟩ := HXV.out.at_ hbm; have hb0 := below_aft hb0 hbm hb0.size; have HXT := Lib.hid (HXT.out.at_ hbm); have HXV := Lib.hid (HXV.out.at_ hbm))
    go_quiet (fail)
    go_wp2_with fail
    go_ret2
    exact ⟨ret_nb HR.out.symm (by rw [HF.out]; simp), below_drawn hb0 _⟩
set_option maxHeartbeats 3000000 in
theorem ndHS_step (l : List Da) (d : Nat) (hd : d < 100) (ih : NdHS l d) : NdHS l (d + 1) := by
  intro A D cap ep e t v w hr ht hv hwv
  have hl := hv.1
  by_cases hh : holeV v = true
  · have HLE := Lib.hid hl
    have HH := Lib.hid hh
    have HF := Lib.hid (fitH_hole (l := l) (d := d) (t := t) hh)
    have HR := Lib.hid (ndH_yes HF.out)
    have HW0 := Lib.hid (wV_none (holeV_parts hh).2.2)
    generalize hz : ((d + 1 : Nat) : Int) = z
    have hz0 : 1 ≤ z := by omega
    have hz1 : (z == 0) = false := ieq_f (by omega)
    clear hh hr ht hv ih hz
    generalize hw0 : (w.alloc (.cells #[.int .i64 t.data, .int .i64 t.index] 25)).alloc (.cells #[.int .i64 v.ctor, .int .i64 v.n, .slice D v.kids.length ep] 28) = w0
    have hb0 := below_box2 hw0
    have HXT : Hid (Bx w0 w.heap.size t) := by rw [← hw0]; exact ⟨by simp [go_sem], by simp [go_sem]⟩
    have HXV : Hid (VBx w0 (w.heap.size + 1) v.ctor v.n (.slice D v.kids.length ep)) := by rw [← hw0]; exact ⟨by simp [go_sem], by simp [go_sem], by simp [go_sem]⟩
    have HW := Lib.hid hw0
    clear hw0
    go_enter Try.func38, Try.ntmps38
    go_wp2_with (go_at_call 24; rw [HW.out]; refine (isH_any_known D ep v true _ HH.out HLE.out).mono ?_; rintro e0 wm ⟨rfl, hbm⟩)
    go_ret2
    exact ⟨ret_nb (by rw [HR.out, HW0.out]; rfl) HF.out.symm, below_aft hb0 hbm hb0.size⟩
  have hh' : holeV v = false := by simpa using hh
  have HH := Lib.hid hh'
  have HLE := Lib.hid hl
  clear hh hh'
  by_cases h1 : t.data = -1
  · exact ndHS_int l d hd A D cap ep t v w h1 HH.out hl
  have q1 := ieq_f h1
  have H1 := Lib.hid h1
  have Hr := Lib.hid hr
  have HT := Lib.hid ht
  have HV := Lib.hid hv
  have IH := Lib.hid ih
  unfold maxLen at hl
  generalize hz : ((d + 1 : Nat) : Int) = z
  have hz0 : 1 ≤ z := by omega
  have hz2 : z ≤ 101 := by omega
  have hz1 : (z == 0) = false := ieq_f (by omega)
  have IHz : Hid (NdHC l d (z - 1)) := by unfold Hid; rw [show z - 1 = (d : Int) by omega]; exact ih
  clear h1 hr ht hv ih hz IH
  generalize hw0 : (w.alloc (.cells #[.int .i64 t.data, .int .i64 t.index] 25)).alloc (.cells #[.int .i64 v.ctor, .int .i64 v.n, .slice D v.kids.length ep] 28) = w0
  have hb0 := below_box2 hw0
  have HXT : Hid (Bx w0 w.heap.size t) := by rw [← hw0]; exact ⟨by simp [go_sem], by simp [go_sem]⟩
  have HXV : Hid (VBx w0 (w.heap.size + 1) v.ctor v.n (.slice D v.kids.length ep)) := by rw [← hw0]; exact ⟨by simp [go_sem], by simp [go_sem], by simp [go_sem]⟩
  have HW := Lib.hid hw0
  clear hw0
  by_cases hn : v.n = 0
  · have qn : (v.n != 0) = false := by simp [hn]
    by_cases hc : v.ctor ∈ ctR l t
    · have HC := Lib.hid hc
      have HD := Lib.hid (dec_t hc)
      by_cases hk : v.kids.length = (agR l t v.ctor).length
      · have HF := Lib.hid (fitH_go (d := d) HH.out H1.out hn hc hk)
        have hm3 := agR_len l t v.ctor
        have HOK := Lib.hid (agR_ok hc)
        have HK := Lib.hid (fun (i : Nat) (h : i < (agR l t v.ctor).length) (h' : i < v.kids.length) => kidH_at (l := l) (d := d) h h')
        have HAG := Lib.hid (argTypes_all A l cap t v.ctor · · hc)
        generalize hats : agR l t v.ctor = ats at HF hm3 HOK HK HAG hk
        have hkI : ((v.kids.length : Int) != (ats.length : Int)) = false := by simp [hk]
        have HKL := Lib.hid hk
        clear hn hc hats hk
        go_enter Try.func38, Try.ntmps38
        go_wp2_with (go_at_call 24; rw [HW.out]; refine (isH_any_known D ep v false _ HH.out HLE.out).mono ?_; rintro e0 wm ⟨rfl, hbm⟩; obtain ⟨x0, x1⟩ := HXT.out.at_ hbm; obtain ⟨y0, y1, y2⟩ := HXV.out.at_ hbm; have hb0 := below_aft hb0 hbm hb0.size; have HXT := Lib.hid (HXT.out.at_ hbm); have HXV := Lib.hid (HXV.out.at_ hbm))
        go_region_with (first | (go_at_call 59; refine (ctorsOf_all _ l _ t _ (by exact Hr.out.at_ hb0.drew) HT.out).mono ?_; rintro e w1 ⟨v1, rfl, ho, hb1'⟩; have hb1 : Below wm.heap.size wm w1 := ⟨hb1'.os, hb1'.tape, hb1'.output, hb1'.size, hb1'.block⟩; obtain ⟨A1, c1, rfl, hri⟩ := ho.form (by have := ctR_len l t; unfold maxLen; omega); have HRI := Lib.hid hri; have HXV1 := Lib.hid (HXV.out.at_ hb1); obtain ⟨z0, z1, z2⟩ := HXV1.out; clear hri ho hb1') | (go_at_call 58; refine (contains_any _ _ _ _ _ HRI.out).mono ?_; rw [HD.out]; rintro e w2 ⟨rfl, rfl⟩))
        all_goals
          have HXT1 := Lib.hid (HXT.out.at_ hb1)
          obtain ⟨u0, u1⟩ := HXT1.out
          have hb1w := below_aft hb0 hb1 hb0.size
          clear x0 x1 y0 y1 y2
          go_wp2_with (go_at_call 60; refine (HAG.out _ (by exact Hr.out.at_ hb1w)).mono ?_; rintro e w3 ⟨v3, rfl, ho3, hb3'⟩; obtain ⟨A3, c3, rfl, hr3⟩ := ho3.form (by unfold maxLen; omega); have HR3 := Lib.hid hr3; have HXV3 := Lib.hid (HXV1.out.at_ hb3'); obtain ⟨z0', z1', z2'⟩ := HXV3.out; have hb3 := below_aft hb1w hb3' hb1w.size; clear hr3 ho3 hb3')
          go_loopw [13, 70] (fun n i wr => ∃ k : Nat, k ≤ ats.length ∧ i = .int .i64 k ∧ ∃ q : Int, 1 ≤ q ∧ q ≤ 32000000 ∧ n = .int .i64 q ∧ Hid (q = upK v.kids k) ∧ Hid (upto (kidH l d ats v.kids) k = true) ∧ Below w3.heap.size w3 wr) (fun _ i _ => ats.length - (intOf i).toNat)
          case atStart => exact ⟨0, by omega, rfl, 1, by omega, by omega, rfl, rfl, rfl, Below.refl _ _⟩
          case round =>
            obtain ⟨k, hk, rfl, q, hq1, hq2, rfl, HQ, HU, hb⟩ := hrel
            clear u0 u1 z0 z1 z2 z0' z1' z2'
            have hbw : Below w.heap.size w wr := below_aft hb3 hb hb3.size
            have HXVr := Lib.hid (HXV3.out.at_ hb)
            by_cases hlt : k < ats.length
            · have hkl : k < v.kids.length := by rw [HKL.out]; exact hlt
              obtain ⟨g, o, rfl, hgB, t0, t1⟩ := (HR3.out.below hb (Nat.le_refl _)).2 k hlt
              have hi : (k : Int) < (ats.length : Int) := by omega
              have hi2 : (k : Int) < (v.kids.length : Int) := by omega
              have hzs : IntKind.i64.wrap (z - 1) = z - 1 := IntWalk.i64_in _ (by omega)
              generalize hwA : wr.alloc (.cells #[.int .i64 ats[k].data, .int .i64 ats[k].index] 25) = wA
              have hbA : Below wr.heap.size wr wA := by rw [← hwA]; exact (Below.refl _ _).alloc (Nat.le_refl _) _
              have HXTA : Hid (Bx wA wr.heap.size ats[k]) := by rw [← hwA]; exact Bx.new _ _ _
              have hbwA := below_aft hbw hbA hbw.size
              obtain ⟨b, off, rfl, hbB, hvk⟩ := (HV.out.below hbwA (Nat.le_refl _)).2 k hkl
              obtain ⟨e', he', D', cp, c0, c1, c2, hm⟩ := hvk.parts
              obtain ⟨f0, f1, f2⟩ := HXVr.out.at_ hbA
              obtain ⟨s0, s1⟩ := HXTA.out
              have d0 := cell_regrown s0
              have d1 := cell_regrown s1
              have d2 := cell_regrown c0
              have d3 := cell_regrown c1
              have d4 := cell_regrown c2
              have d5 := cell_regrown f2
              have HWA := Lib.hid hwA
              have Hm : Hid (RVs e' wA wA.heap.size D' v.kids[k].kids) := hm.keep (fun _ _ => rfl) hbwA.size
              have Hrr : Hid (RDas wA wA.heap.size A l) := Hr.out.at_ hbwA
              have HTk := Lib.hid (HOK.out _ (List.getElem_mem hlt))
              have HKk := Lib.hid (HK.out k hlt hkl)
              have HWK : Hid (wV v.kids[k] ≤ 16000000) := by have := wV_kid v k hkl; unfold Hid; omega
              have HS := Lib.hid (upK_succ v.kids k hkl)
              have HL2 := Lib.hid (upK_le v (k + 1) (by omega))
              clear c0 c1 c2 s0 s1 f0 f1 f2 hm hvk he' hwA
              by_cases hf : fitH l d ats[k] v.kids[k] = true
              · have HFk := Lib.hid hf
                have HNk := Lib.hid (ndH_yes hf)
                have HUk : Hid (upto (kidH l d ats v.kids) (k + 1) = true) := upto_t HU.out (by rw [HKk.out]; exact hf)
                have hr1 : (0 : Int) ≤ 1 + (wV v.kids[k] : Int) := by omega
                have hr2 : 1 + (wV v.kids[k] : Int) ≤ 16000001 := by have := HWK.out; omega
                generalize hrr : 1 + (wV v.kids[k] : Int) = r at hr1 hr2 HNk
                have HRR := Lib.hid hrr
                clear hf hrr
                go_wp2_with fail
                rw [HWA.out]
                refine wp_region_quiet_below (by kernel_rfl) (by kernel_rfl) ?_
                repeat (quiet_step (exact Calls.regrown_of (IHz.out.known _ _ _ _ _ _ _ _ _ _ HFk.out HNk.out (Hrr.out.at_ (below_regrown wA _ _)) HTk.out (Hm.out.at_ (below_regrown wA _ _)) HWK.out)))
                refine wpQuiet_nil ?_
                intro _ hw'
                obtain ⟨⟨dq, osq⟩, hw''⟩ := hw'
                subst hw''
                have hb2 := (below_aft hb hbA hb.size).trans ((below_regrown wA dq osq).mono (Nat.le_trans hb.size hbA.size))
                clear d0 d1 d2 d3 d4 d5
                go_wp2_with fail
                have hqn : q + r = ((upK v.kids (k + 1) : Nat) : Int) := by rw [HS.out, ← HRR.out, HQ.out]; push_cast; omega
                have hqb := HL2.out
                go_roundw
                case rel => exact ⟨k + 1, by omega, by go_num, _, by omega, by omega, rfl, hqn, HUk, hb2⟩
                case measure => simp [intOf]; omega
              · have hf' : fitH l d ats[k] v.kids[k] = false := by simpa using hf
                have HFk := Lib.hid hf'
                have HUk := Lib.hid (upto_f (f := kidH l d ats v.kids) hlt (by rw [HKk.out]; exact hf'))
                have HFF : Hid (fitH l (d + 1) t v = false) := by unfold Hid; rw [HF.out, HUk.out]
                clear hf hf'
                go_wp2_with fail
                rw [HWA.out]
                refine wp_region_quiet_below (by kernel_rfl) (by kernel_rfl) ?_
                repeat (quiet_step (exact Calls.regrown_of (IHz.out.known _ _ _ _ _ _ _ _ _ _ HFk.out rfl (Hrr.out.at_ (below_regrown wA _ _)) HTk.out (Hm.out.at_ (below_regrown wA _ _)) HWK.out)))
                refine wpQuiet_nil ?_
                intro _ hw'
                obtain ⟨⟨dq, osq⟩, hw''⟩ := hw'
                subst hw''
                have hb2 := hbwA.trans ((below_regrown wA dq osq).mono hbwA.size)
                clear d0 d1 d2 d3 d4 d5
                go_wp2_with fail
                go_ret2
                exact ⟨ret_nb (ndH_no HFF.out H1.out).symm HFF.out.symm, hb2⟩
            · have he : k = ats.length := by omega
              have HE : Hid (fitH l (d + 1) t v = true) := by unfold Hid; rw [HF.out, ← he]; exact HU.out
              have HQN : Hid (q = ndH l (d + 1) t v) := by unfold Hid; rw [ndH_yes HE.out, HQ.out, he, ← HKL.out, upK_all]; push_cast; rfl
              clear he
              go_wp2_with fail
              go_ret2
              exact ⟨ret_nb HQN.out HE.out.symm, hbw⟩
      · have HF := Lib.hid (fitH_len (d := d) HH.out H1.out hk)
        have hm3 := agR_len l t v.ctor
        have HAG := Lib.hid (argTypes_all A l cap t v.ctor · · hc)
        generalize hats : agR l t v.ctor = ats at HF hm3 HAG hk
        have hkI : ((v.kids.length : Int) != (ats.length : Int)) = true := by simp; omega
        clear hn hc hats hk
        go_enter Try.func38, Try.ntmps38
        go_wp2_with (go_at_call 24; rw [HW.out]; refine (isH_any_known D ep v false _ HH.out HLE.out).mono ?_; rintro e0 wm ⟨rfl, hbm⟩; obtain ⟨x0, x1⟩ := HXT.out.at_ hbm; obtain ⟨y0, y1, y2⟩ := HXV.out.at_ hbm; have hb0 := below_aft hb0 hbm hb0.size; have HXT := Lib.hid (HXT.out.at_ hbm); have HXV := Lib.hid (HXV.out.at_ hbm))
        go_region_with (first | (go_at_call 59; refine (ctorsOf_all _ l _ t _ (by exact Hr.out.at_ hb0.drew) HT.out).mono ?_; rintro e w1 ⟨v1, rfl, ho, hb1'⟩; have hb1 : Below wm.heap.size wm w1 := ⟨hb1'.os, hb1'.tape, hb1'.output, hb1'.size, hb1'.block⟩; obtain ⟨A1, c1, rfl, hri⟩ := ho.form (by have := ctR_len l t; unfold maxLen; omega); have HRI := Lib.hid hri; have HXV1 := Lib.hid (HXV.out.at_ hb1); obtain ⟨z0, z1, z2⟩ := HXV1.out; clear hri ho hb1') | (go_at_call 58; refine (contains_any _ _ _ _ _ HRI.out).mono ?_; rw [HD.out]; rintro e w2 ⟨rfl, rfl⟩))
        all_goals
          have HXT1 := Lib.hid (HXT.out.at_ hb1)
          obtain ⟨u0, u1⟩ := HXT1.out
          have hb1w := below_aft hb0 hb1 hb0.size
          clear x0 x1 y0 y1 y2
          go_wp2_with (go_at_call 60; refine (HAG.out _ (by exact Hr.out.at_ hb1w)).mono ?_; rintro e w3 ⟨v3, rfl, ho3, hb3'⟩; obtain ⟨A3, c3, rfl, hr3⟩ := ho3.form (by unfold maxLen; omega); have HXV3 := Lib.hid (HXV1.out.at_ hb3'); obtain ⟨z0', z1', z2'⟩ := HXV3.out; have hb3 := below_aft hb1w hb3' hb1w.size; clear hr3 ho3 hb3')
          go_ret2
          exact ⟨ret_nb (ndH_no HF.out H1.out).symm HF.out.symm, hb3⟩
    · have HF := Lib.hid (fitH_ctor (d := d) HH.out H1.out hc)
      have HD := Lib.hid (dec_f hc)
      clear hn hc
      go_enter Try.func38, Try.ntmps38
      go_wp2_with (go_at_call 24; rw [HW.out]; refine (isH_any_known D ep v false _ HH.out HLE.out).mono ?_; rintro e0 wm ⟨rfl, hbm⟩; obtain ⟨x0, x1⟩ := HXT.out.at_ hbm; obtain ⟨y0, y1, y2⟩ := HXV.out.at_ hbm; have hb0 := below_aft hb0 hbm hb0.size; have HXT := Lib.hid (HXT.out.at_ hbm); have HXV := Lib.hid (HXV.out.at_ hbm))
      go_region_with (first | (go_at_call 59; refine (ctorsOf_all _ l _ t _ (by exact Hr.out.at_ hb0.drew) HT.out).mono ?_; rintro e w1 ⟨v1, rfl, ho, hb1'⟩; have hb1 : Below wm.heap.size wm w1 := ⟨hb1'.os, hb1'.tape, hb1'.output, hb1'.size, hb1'.block⟩; obtain ⟨A1, c1, rfl, hri⟩ := ho.form (by have := ctR_len l t; unfold maxLen; omega); have HRI := Lib.hid hri; have HXV1 := Lib.hid (HXV.out.at_ hb1); obtain ⟨z0, z1, z2⟩ := HXV1.out; clear hri ho hb1') | (go_at_call 58; refine (contains_any _ _ _ _ _ HRI.out).mono ?_; rw [HD.out]; rintro e w2 ⟨rfl, rfl⟩))
      all_goals
        go_wp2_with fail
        go_ret2
        exact ⟨ret_nb (ndH_no HF.out H1.out).symm HF.out.symm, below_aft hb0 hb1 hb0.size⟩
  · have qn : (v.n != 0) = true := by simpa using hn
    have HF := Lib.hid (fitH_n (l := l) (d := d) HH.out H1.out hn)
    clear hn
    go_enter Try.func38, Try.ntmps38
    go_wp2_with (go_at_call 24; rw [HW.out]; refine (isH_any_known D ep v false _ HH.out HLE.out).mono ?_; rintro e0 wm ⟨rfl, hbm⟩; obtain ⟨x0, x1⟩ := HXT.out.at_ hbm; obtain ⟨y0, y1, y2⟩ := HXV.out.at_ hbm; have hb0 := below_aft hb0 hbm hb0.size; have HXT := Lib.hid (HXT.out.at_ hbm); have HXV := Lib.hid (HXV.out.at_ hbm))
    go_quiet (fail)
    go_wp2_with fail
    go_ret2
    exact ⟨ret_nb (ndH_no HF.out H1.out).symm HF.out.symm, below_drawn hb0 _⟩
end Go.Proofs.Ytakhobhmplneeaa
