/-
  When a value is one that is known in part: the document's functions. No statement is proved here.
-/
import Derived.Test.YtakhobhmplneeaaY28
import Derived.Test.YtakhobhmplneeaaY29
import Derived.Test.YtakhobhmplneeaaY06
namespace Go.Proofs.Ytakhobhmplneeaa
open Go.RowKit Go.Sort Go.Deep
set_option maxRecDepth 100000
set_option linter.unusedVariables false
def FitHC (l : List Da) (d : Nat) (z : Int) : Prop := ∀ (A D : Option Addr) (cap ep e : Nat) (t : Ty) (v : Vl) (w : World), RDas w w.heap.size A l → TyOK l t → RVs e w w.heap.size D v.kids →
  Calls Try.prog 54 #[.slice A l.length cap, .agg #[.int .i64 t.data, .int .i64 t.index], .agg #[.int .i64 v.ctor, .int .i64 v.n, .slice D v.kids.length ep], .int .i64 z] w fun e w' => e = .returned (.bool (fitH l d t v)) ∧ Below w.heap.size w w'
def FitHS (l : List Da) (d : Nat) : Prop := FitHC l d (d : Nat)
theorem FitHC.known {l : List Da} {d : Nat} {z : Int} (h : FitHC l d z) (A D : Option Addr) (cap ep e : Nat) (t : Ty) (v : Vl) (b : Bool) (w : World) (hf : fitH l d t v = b) (hr : RDas w w.heap.size A l) (ht : TyOK l t) (hv : RVs e w w.heap.size D v.kids) :
    Calls Try.prog 54 #[.slice A l.length cap, .agg #[.int .i64 t.data, .int .i64 t.index], .agg #[.int .i64 v.ctor, .int .i64 v.n, .slice D v.kids.length ep], .int .i64 z] w fun e w' => e = .returned (.bool b) ∧ Below w.heap.size w w' := by
  rw [← hf]; exact h A D cap ep e t v w hr ht hv
theorem fitHS_zero (l : List Da) : FitHS l 0 := by
  intro A D cap ep e t v w hr ht hv
  have HB : Hid (∀ o o' : Obj, Below w.heap.size w ((w.alloc o).alloc o')) := fun o o' => ((Below.refl _ _).alloc (Nat.le_refl _) _).alloc (by simp) _
  clear hr ht hv
  go_enter Try.func54, Try.ntmps54
  go_wp2_with fail
  go_ret
  exact ⟨rfl, HB.out _ _⟩
set_option maxHeartbeats 3000000 in
theorem fitHS_step (l : List Da) (d : Nat) (hd : d < 99) (ih : FitHS l d) : FitHS l (d + 1) := by
  intro A D cap ep e t v w hr ht hv
  have hl := hv.1
  have hle := hv.1
  have Hr := Lib.hid hr
  have HT := Lib.hid ht
  have HV := Lib.hid hv
  unfold maxLen at hl
  have IF := Lib.hid (fitS_any l (d + 1) (by omega))
  have IH := Lib.hid ih
  generalize hz : ((d + 1 : Nat) : Int) = z
  have hz0 : 1 ≤ z := by omega
  have hz2 : z ≤ 101 := by omega
  have hz1 : decide (z < 1) = false := by simpa using hz0
  have IFz : Hid (FitC l (d + 1) z) := by unfold Hid; rw [← hz]; exact IF.out
  have IHz : Hid (FitHC l d (z - 1)) := by unfold Hid; rw [show z - 1 = (d : Int) by omega]; exact ih
  clear hr ht hv ih hz IH IF
  generalize hw0 : (w.alloc (.cells #[.int .i64 t.data, .int .i64 t.index] 25)).alloc (.cells #[.int .i64 v.ctor, .int .i64 v.n, .slice D v.kids.length ep] 28) = w0
  have hb0 := below_box2 hw0
  have HXT : Hid (Bx w0 w.heap.size t) := by rw [← hw0]; exact ⟨by simp [go_sem], by simp [go_sem]⟩
  have HXV : Hid (VBx w0 (w.heap.size + 1) v.ctor v.n (.slice D v.kids.length ep)) := by rw [← hw0]; exact ⟨by simp [go_sem], by simp [go_sem], by simp [go_sem]⟩
  have HW := Lib.hid hw0
  clear hw0
  obtain ⟨x0, x1⟩ := HXT.out
  obtain ⟨y0, y1, y2⟩ := HXV.out
  by_cases h2 : v.ctor = -2
  · have p2 := ieq_t h2
    have HF2 := Lib.hid (fitH_two (l := l) (d := d) (t := t) h2)
    clear h2
    go_enter Try.func54, Try.ntmps54
    go_wp2_with (go_at_call 75; rw [HW.out]; refine (l10H_any D ep v _ hle).mono ?_; rintro e1 w1 ⟨rfl, hb1⟩)
    go_ret
    exact ⟨ret_bool HF2.out.symm, below_aft hb0 hb1 hb0.size⟩
  have p2 := ieq_f h2
  have HH := Lib.hid (holeV_no h2)
  have H2 := Lib.hid h2
  clear h2
  by_cases h1 : t.data = -1
  · have q1 := ieq_t h1
    have HF2 := Lib.hid (fitV_fitH_int (l := l) (d := d) h1 H2.out)
    clear h1
    go_enter Try.func54, Try.ntmps54
    go_wp2_with (go_at_call 76; rw [HW.out]; refine (IFz.out A D cap ep e t v _ (Hr.out.at_ hb0) HT.out (HV.out.at_ hb0)).mono ?_; rintro e1 w1 ⟨rfl, hb1⟩)
    go_ret
    exact ⟨ret_bool HF2.out, below_aft hb0 hb1 hb0.size⟩
  have q1 := ieq_f h1
  have H1 := Lib.hid h1
  clear h1 hle
  by_cases hn : v.n = 0
  · have qn : (v.n != 0) = false := by simp [hn]
    by_cases hc : v.ctor ∈ ctR l t
    · have HC := Lib.hid hc
      have HD := Lib.hid (dec_t hc)
      by_cases hk : v.kids.length = (agR l t v.ctor).length
      · have HF := Lib.hid (fitH_go (d := d) HH.out H1.out hn hc hk)
        have hm3 := agR_len l t v.ctor
        have HOK := Lib.hid (agR_ok hc)
        have HK := Lib.hid (fun (i : Nat) (h : i < (agR l t v.ctor).length) (h' : i < v.kids.length) => kidH_at (l := l) (d := d) h h')
        have HAG := Lib.hid (l1Args_all A l cap t v.ctor · · hc)
        generalize hats : agR l t v.ctor = ats at HF hm3 HOK HK HAG hk
        have hkI : ((v.kids.length : Int) != (ats.length : Int)) = false := by simp [hk]
        have HKL := Lib.hid hk
        clear hn hc hats hk
        go_enter Try.func54, Try.ntmps54
        go_wp2_with fail
        rw [HW.out]
        go_region_with (first | (go_at_call 48; refine (l1Ctors_all _ l _ t _ (by exact Hr.out.at_ hb0.drew) HT.out).mono ?_; rintro e w1 ⟨v1, rfl, ho, hb1'⟩; have hb1 : Below w0.heap.size w0 w1 := ⟨hb1'.os, hb1'.tape, hb1'.output, hb1'.size, hb1'.block⟩; obtain ⟨A1, c1, rfl, hri⟩ := ho.form (by have := ctR_len l t; unfold maxLen; omega); have HRI := Lib.hid hri; have HXV1 := Lib.hid (HXV.out.at_ hb1); obtain ⟨z0, z1, z2⟩ := HXV1.out; clear hri ho hb1') | (go_at_call 77; refine (has_any _ _ _ _ _ HRI.out).mono ?_; rw [HD.out]; rintro e w2 ⟨rfl, rfl⟩))
        all_goals
          have HXT1 := Lib.hid (HXT.out.at_ hb1)
          obtain ⟨u0, u1⟩ := HXT1.out
          have hb1w := below_aft hb0 hb1 hb0.size
          clear x0 x1 y0 y1 y2
          go_wp2_with (go_at_call 51; refine (HAG.out _ (by exact Hr.out.at_ hb1w)).mono ?_; rintro e w3 ⟨v3, rfl, ho3, hb3'⟩; obtain ⟨A3, c3, rfl, hr3⟩ := ho3.form (by unfold maxLen; omega); have HR3 := Lib.hid hr3; have HXV3 := Lib.hid (HXV1.out.at_ hb3'); obtain ⟨z0', z1', z2'⟩ := HXV3.out; have hb3 := below_aft hb1w hb3' hb1w.size; clear hr3 ho3 hb3')
          go_loopw [10] (fun i wr => ∃ k : Nat, k ≤ ats.length ∧ i = .int .i64 k ∧ Hid (upto (kidH l d ats v.kids) k = true) ∧ Below w3.heap.size w3 wr) (fun i _ => ats.length - (intOf i).toNat)
          case atStart => exact ⟨0, by omega, rfl, rfl, Below.refl _ _⟩
          case round =>
            obtain ⟨k, hk, rfl, HU, hb⟩ := hrel
            clear u0 u1 z0 z1 z2 z0' z1' z2'
            have hbw : Below w.heap.size w wr := below_aft hb3 hb hb3.size
            have HXVr := Lib.hid (HXV3.out.at_ hb)
            obtain ⟨f0, f1, f2⟩ := HXVr.out
            by_cases hlt : k < ats.length
            · have hkl : k < v.kids.length := by rw [HKL.out]; exact hlt
              obtain ⟨g, o, rfl, hgB, t0, t1⟩ := (HR3.out.below hb (Nat.le_refl _)).2 k hlt
              obtain ⟨b, off, rfl, hbB, hvk⟩ := (HV.out.below hbw (Nat.le_refl _)).2 k hkl
              obtain ⟨e', he', D', cp, c0, c1, c2, hm⟩ := hvk.parts
              have d0 := cell_regrown t0
              have d1 := cell_regrown t1
              have d2 := cell_regrown c0
              have d3 := cell_regrown c1
              have d4 := cell_regrown c2
              have d5 := cell_regrown f2
              have Hm : Hid (RVs e' wr wr.heap.size D' v.kids[k].kids) := hm.keep (fun _ _ => rfl) hbw.size
              have Hrr : Hid (RDas wr wr.heap.size A l) := Hr.out.at_ hbw
              have HTk := Lib.hid (HOK.out _ (List.getElem_mem hlt))
              have HKk := Lib.hid (HK.out k hlt hkl)
              have hi : (k : Int) < (ats.length : Int) := by omega
              have hi2 : (k : Int) < (v.kids.length : Int) := by omega
              have hzs : IntKind.i64.wrap (z - 1) = z - 1 := IntWalk.i64_in _ (by omega)
              clear c0 c1 c2 t0 t1 f0 f1 f2 hm hvk he'
              by_cases hf : fitH l d ats[k] v.kids[k] = true
              · have HFk := Lib.hid hf
                have HUk : Hid (upto (kidH l d ats v.kids) (k + 1) = true) := upto_t HU.out (by rw [HKk.out]; exact hf)
                clear hf
                go_wp2_with fail
                refine wp_region_quiet_below (by kernel_rfl) (by kernel_rfl) ?_
                repeat (quiet_step (exact Calls.regrown_of (IHz.out.known _ _ _ _ _ _ _ _ _ HFk.out (Hrr.out.at_ (below_regrown wr _ _)) HTk.out (Hm.out.at_ (below_regrown wr _ _)))))
                refine wpQuiet_nil ?_
                intro _ hw'
                obtain ⟨⟨dq, osq⟩, hw''⟩ := hw'
                subst hw''
                have hb2 := hb.trans ((below_regrown wr dq osq).mono hb.size)
                clear d0 d1 d2 d3 d4 d5
                go_wp2_with fail
                go_roundw
                case rel => exact ⟨k + 1, by omega, by go_num, HUk, hb2⟩
                case measure => simp [intOf]; omega
              · have hf' : fitH l d ats[k] v.kids[k] = false := by simpa using hf
                have HFk := Lib.hid hf'
                have HUk := Lib.hid (upto_f (f := kidH l d ats v.kids) hlt (by rw [HKk.out]; exact hf'))
                clear hf hf'
                go_wp2_with fail
                refine wp_region_quiet_below (by kernel_rfl) (by kernel_rfl) ?_
                repeat (quiet_step (exact Calls.regrown_of (IHz.out.known _ _ _ _ _ _ _ _ _ HFk.out (Hrr.out.at_ (below_regrown wr _ _)) HTk.out (Hm.out.at_ (below_regrown wr _ _)))))
                refine wpQuiet_nil ?_
                intro _ hw'
                obtain ⟨⟨dq, osq⟩, hw''⟩ := hw'
                subst hw''
                have hb2 := hbw.trans ((below_regrown wr dq osq).mono hbw.size)
                clear d0 d1 d2 d3 d4 d5
                go_wp2_with fail
                go_ret
                exact ⟨ret_bool (by rw [HF.out, HUk.out]), hb2⟩
            · have he : k = ats.length := by omega
              have HE : Hid (fitH l (d + 1) t v = true) := by unfold Hid; rw [HF.out, ← he]; exact HU.out
              clear he
              go_wp2_with fail
              go_ret
              exact ⟨ret_bool HE.out.symm, hbw⟩
      · have HF := Lib.hid (fitH_len (d := d) HH.out H1.out hk)
        have hm3 := agR_len l t v.ctor
        have HAG := Lib.hid (l1Args_all A l cap t v.ctor · · hc)
        generalize hats : agR l t v.ctor = ats at HF hm3 HAG hk
        have hkI : ((v.kids.length : Int) != (ats.length : Int)) = true := by simp; omega
        clear hn hc hats hk
        go_enter Try.func54, Try.ntmps54
        go_wp2_with fail
        rw [HW.out]
        go_region_with (first | (go_at_call 48; refine (l1Ctors_all _ l _ t _ (by exact Hr.out.at_ hb0.drew) HT.out).mono ?_; rintro e w1 ⟨v1, rfl, ho, hb1'⟩; have hb1 : Below w0.heap.size w0 w1 := ⟨hb1'.os, hb1'.tape, hb1'.output, hb1'.size, hb1'.block⟩; obtain ⟨A1, c1, rfl, hri⟩ := ho.form (by have := ctR_len l t; unfold maxLen; omega); have HRI := Lib.hid hri; have HXV1 := Lib.hid (HXV.out.at_ hb1); obtain ⟨z0, z1, z2⟩ := HXV1.out; clear hri ho hb1') | (go_at_call 77; refine (has_any _ _ _ _ _ HRI.out).mono ?_; rw [HD.out]; rintro e w2 ⟨rfl, rfl⟩))
        all_goals
          have HXT1 := Lib.hid (HXT.out.at_ hb1)
          obtain ⟨u0, u1⟩ := HXT1.out
          have hb1w := below_aft hb0 hb1 hb0.size
          clear x0 x1 y0 y1 y2
          go_wp2_with (go_at_call 51; refine (HAG.out _ (by exact Hr.out.at_ hb1w)).mono ?_; rintro e w3 ⟨v3, rfl, ho3, hb3'⟩; obtain ⟨A3, c3, rfl, hr3⟩ := ho3.form (by unfold maxLen; omega); have HXV3 := Lib.hid (HXV1.out.at_ hb3'); obtain ⟨z0', z1', z2'⟩ := HXV3.out; have hb3 := below_aft hb1w hb3' hb1w.size; clear hr3 ho3 hb3')
          go_ret
          exact ⟨ret_bool HF.out.symm, hb3⟩
    · have HF := Lib.hid (fitH_ctor (d := d) HH.out H1.out hc)
      have HD := Lib.hid (dec_f hc)
      clear hn hc
      go_enter Try.func54, Try.ntmps54
      go_wp2_with fail
      rw [HW.out]
      go_region_with (first | (go_at_call 48; refine (l1Ctors_all _ l _ t _ (by exact Hr.out.at_ hb0.drew) HT.out).mono ?_; rintro e w1 ⟨v1, rfl, ho, hb1'⟩; have hb1 : Below w0.heap.size w0 w1 := ⟨hb1'.os, hb1'.tape, hb1'.output, hb1'.size, hb1'.block⟩; obtain ⟨A1, c1, rfl, hri⟩ := ho.form (by have := ctR_len l t; unfold maxLen; omega); have HRI := Lib.hid hri; have HXV1 := Lib.hid (HXV.out.at_ hb1); obtain ⟨z0, z1, z2⟩ := HXV1.out; clear hri ho hb1') | (go_at_call 77; refine (has_any _ _ _ _ _ HRI.out).mono ?_; rw [HD.out]; rintro e w2 ⟨rfl, rfl⟩))
      all_goals
        go_wp2_with fail
        go_ret
        exact ⟨ret_bool HF.out.symm, below_aft hb0 hb1 hb0.size⟩
  · have qn : (v.n != 0) = true := by simpa using hn
    have HF := Lib.hid (fitH_n (l := l) (d := d) HH.out H1.out hn)
    clear hn
    go_enter Try.func54, Try.ntmps54
    go_wp2_with fail
    rw [HW.out]
    go_quiet (fail)
    go_wp2_with fail
    go_ret
    exact ⟨ret_bool HF.out.symm, below_drawn hb0 _⟩
theorem fitHS_any (l : List Da) : ∀ d, d < 100 → FitHS l d
  | 0, _ => fitHS_zero l
  | d + 1, h => fitHS_step l d (by omega) (fitHS_any l d (by omega))
/-- A value of a type within the limits. -/
noncomputable def isH (l : List Da) (t : Ty) (v : Vl) : Bool := fitH l 10 t v && decide (1 + wV v ≤ 60)
theorem isH_fit {l : List Da} {t : Ty} {v : Vl} (h : fitH l 10 t v = false) : isH l t v = false := by unfold isH; rw [h]; rfl
theorem isH_yes {l : List Da} {t : Ty} {v : Vl} (h : fitH l 10 t v = true) (h' : 1 + wV v ≤ 60) : isH l t v = true := by unfold isH; rw [h, decide_eq_true h']; rfl
theorem isH_big {l : List Da} {t : Ty} {v : Vl} (h' : ¬ 1 + wV v ≤ 60) : isH l t v = false := by unfold isH; rw [decide_eq_false h']; simp
theorem isHd_any (A D : Option Addr) (l : List Da) (cap ep e : Nat) (t : Ty) (v : Vl) (w : World) (hr : RDas w w.heap.size A l) (ht : TyOK l t) (hv : RVs e w w.heap.size D v.kids) (hn : wV v ≤ 16000000) :
    Calls Try.prog 36 #[.slice A l.length cap, .agg #[.int .i64 t.data, .int .i64 t.index], .agg #[.int .i64 v.ctor, .int .i64 v.n, .slice D v.kids.length ep]] w fun e w' => e = .returned (.bool (isH l t v)) ∧ Below w.heap.size w w' := by
  have Hr := Lib.hid hr
  have HV := Lib.hid hv
  have IF : Hid (FitHC l 10 10) := fitHS_any l 10 (by omega)
  clear hr hv
  generalize hw0 : (w.alloc (.cells #[.int .i64 t.data, .int .i64 t.index] 25)).alloc (.cells #[.int .i64 v.ctor, .int .i64 v.n, .slice D v.kids.length ep] 28) = w0
  have hb0 := below_box2 hw0
  have HXT : Hid (Bx w0 w.heap.size t) := by rw [← hw0]; exact ⟨by simp [go_sem], by simp [go_sem]⟩
  have HXV : Hid (VBx w0 (w.heap.size + 1) v.ctor v.n (.slice D v.kids.length ep)) := by rw [← hw0]; exact ⟨by simp [go_sem], by simp [go_sem], by simp [go_sem]⟩
  have HW := Lib.hid hw0
  clear hw0
  obtain ⟨x0, x1⟩ := HXT.out
  obtain ⟨y0, y1, y2⟩ := HXV.out
  by_cases hf : fitH l 10 t v = true
  · have HF := Lib.hid hf
    go_enter Try.func36, Try.ntmps36
    go_wp2_with (first | (go_at_call 54; rw [HW.out]; refine (IF.out.known A D cap ep e t v true _ HF.out (Hr.out.at_ hb0) ht (HV.out.at_ hb0)).mono ?_; rintro e1 w1 ⟨rfl, hb1⟩; obtain ⟨z0, z1, z2⟩ := HXV.out.at_ hb1; have hb1w := below_aft hb0 hb1 hb0.size) | (go_at_call 55; refine (cntS_any e D ep v 60 _ (HV.out.at_ hb1w) hn (by omega) (by omega)).mono ?_; rintro e2 w2 ⟨r, rfl, hr, hb2⟩; have HR := Lib.hid hr; clear hr))
    all_goals go_ret
    all_goals
      refine ⟨ret_bool ?_, below_aft hb1w hb2 hb1w.size⟩
      by_cases h60 : 1 + wV v ≤ 60
      · rw [isH_yes HF.out h60]
        have := HR.out.1 (by omega)
        simp only [decide_eq_true_eq]; omega
      · rw [isH_big h60]
        have := HR.out.2.1 (by omega)
        simp only [decide_eq_false_iff_not]; omega
  · have hf' : fitH l 10 t v = false := by simpa using hf
    have HF := Lib.hid hf'
    clear hf hf'
    go_enter Try.func36, Try.ntmps36
    go_wp2_with (go_at_call 54; rw [HW.out]; refine (IF.out.known A D cap ep e t v false _ HF.out (Hr.out.at_ hb0) ht (HV.out.at_ hb0)).mono ?_; rintro e1 w1 ⟨rfl, hb1⟩; have hb1w := below_aft hb0 hb1 hb0.size)
    go_ret
    exact ⟨ret_bool (isH_fit HF.out).symm, hb1w⟩
end Go.Proofs.Ytakhobhmplneeaa
/-
  PartialValid of the program and of the document. No statement is proved here.
-/
namespace Go.Proofs.Ytakhobhmplneeaa
open Go.RowKit Go.Sort Go.Deep
set_option maxRecDepth 100000
set_option linter.unusedVariables false
noncomputable def paT (l : List Da) (t : Ty) (v : Vl) : Bool := dec (TyOK l t) && isH l t v
theorem paT_yes {l : List Da} {t : Ty} {v : Vl} (h : TyOK l t) : paT l t v = isH l t v := by unfold paT; rw [dec_t h]; rfl
theorem paT_no {l : List Da} {t : Ty} {v : Vl} (h : ¬ TyOK l t) : paT l t v = false := by unfold paT; rw [dec_f h]; rfl
theorem ndHS_any (l : List Da) : ∀ d, d < 100 → NdHS l d
  | 0, _ => ndHS_zero l
  | d + 1, h => ndHS_step l d (by omega) (ndHS_any l d (by omega))
theorem pa_spec (A D : Option Addr) (l : List Da) (cap ep e : Nat) (t : Ty) (v : Vl) (w : World) (hr : RDas w w.heap.size A l) (hv : RVs e w w.heap.size D v.kids) (hn : wV v ≤ 16000000) :
    Calls Try.prog 21 #[.slice A l.length cap, .agg #[.int .i64 t.data, .int .i64 t.index], .agg #[.int .i64 v.ctor, .int .i64 v.n, .slice D v.kids.length ep]] w fun e w' => e = .returned (.bool (paT l t v)) ∧ Below w.heap.size w w' := by
  have Hr := Lib.hid hr
  have HV := Lib.hid hv
  clear hr hv
  generalize hw0 : (w.alloc (.cells #[.int .i64 t.data, .int .i64 t.index] 25)).alloc (.cells #[.int .i64 v.ctor, .int .i64 v.n, .slice D v.kids.length ep] 28) = w0
  have hb0 := below_box2 hw0
  have HXT : Hid (Bx w0 w.heap.size t) := by rw [← hw0]; exact ⟨by simp [go_sem], by simp [go_sem]⟩
  have HXV : Hid (VBx w0 (w.heap.size + 1) v.ctor v.n (.slice D v.kids.length ep)) := by rw [← hw0]; exact ⟨by simp [go_sem], by simp [go_sem], by simp [go_sem]⟩
  have HW := Lib.hid hw0
  clear hw0
  by_cases ht : TyOK l t
  · have HT := Lib.hid ht
    have HF := Lib.hid (paT_yes (v := v) ht)
    clear ht
    go_enter Try.func21, Try.ntmps21
    go_wp2_with (first | (go_at_call 35; rw [HW.out]; refine (typeV_yes (t := t) (Hr.out.at_ hb0) HT.out).mono ?_; rintro e1 w1 ⟨rfl, hb1⟩; obtain ⟨x0, x1⟩ := HXT.out.at_ hb1; obtain ⟨y0, y1, y2⟩ := HXV.out.at_ hb1; have hb1w := below_aft hb0 hb1 hb0.size) | (go_at_call 36; refine (isHd_any A D l cap ep e t v _ (Hr.out.at_ hb1w) HT.out (HV.out.at_ hb1w) hn).mono ?_; rintro e2 w2 ⟨rfl, hb2⟩))
    all_goals go_ret
    all_goals exact ⟨ret_bool HF.out.symm, below_aft hb1w hb2 hb1w.size⟩
  · have HT := Lib.hid ht
    have HF := Lib.hid (paT_no (v := v) ht)
    clear ht
    go_enter Try.func21, Try.ntmps21
    go_wp2_with (go_at_call 35; rw [HW.out]; refine (typeV_no (t := t) (Hr.out.at_ hb0) HT.out).mono ?_; rintro e1 w1 ⟨rfl, hb1⟩; have hb1w := below_aft hb0 hb1 hb0.size)
    go_ret
    exact ⟨ret_bool HF.out.symm, hb1w⟩
theorem pw_impl (A D : Option Addr) (l : List Da) (cap ep e : Nat) (t : Ty) (v : Vl) (w : World) (hr : RDas w w.heap.size A l) (hv : RVs e w w.heap.size D v.kids) (hn : wV v ≤ 16000000) :
    Calls Try.prog 23 #[.slice A l.length cap, .agg #[.int .i64 t.data, .int .i64 t.index], .agg #[.int .i64 v.ctor, .int .i64 v.n, .slice D v.kids.length ep], .func (.func 24) #[] #[]] w fun e w' => e = .returned (.bool (paT l t v)) ∧ Below w.heap.size w w' := by
  have Hr := Lib.hid hr
  have HV := Lib.hid hv
  have IN : Hid (NdHC l 10 10) := ndHS_any l 10 (by omega)
  clear hr hv
  generalize hw0 : (w.alloc (.cells #[.int .i64 t.data, .int .i64 t.index] 25)).alloc (.cells #[.int .i64 v.ctor, .int .i64 v.n, .slice D v.kids.length ep] 28) = w0
  have hb0 := below_box2 hw0
  have HXT : Hid (Bx w0 w.heap.size t) := by rw [← hw0]; exact ⟨by simp [go_sem], by simp [go_sem]⟩
  have HXV : Hid (VBx w0 (w.heap.size + 1) v.ctor v.n (.slice D v.kids.length ep)) := by rw [← hw0]; exact ⟨by simp [go_sem], by simp [go_sem], by simp [go_sem]⟩
  have HW := Lib.hid hw0
  clear hw0
  by_cases ht : TyOK l t
  · have HT := Lib.hid ht
    have HF := Lib.hid (paT_yes (v := v) ht)
    clear ht
    by_cases hf : fitH l 10 t v = true
    · have HFT := Lib.hid hf
      have HND := Lib.hid (ndH_yes hf)
      have hr1 : (0 : Int) ≤ 1 + (wV v : Int) := by omega
      have hr2 : 1 + (wV v : Int) ≤ 16000001 := by omega
      have HIS : Hid (isH l t v = decide (1 + (wV v : Int) ≤ 60)) := by
        unfold Hid isH; rw [hf]
        show decide _ = decide _
        simp only [decide_eq_decide]; omega
      generalize hrr : 1 + (wV v : Int) = r at hr1 hr2 HND HIS
      clear hf hrr
      go_enter Try.func23, Try.ntmps23
      go_wp2_with (first | (go_at_call 37; rw [HW.out]; refine (typeI_yes (t := t) (Hr.out.at_ hb0) HT.out).mono ?_; rintro e1 w1 ⟨rfl, hb1⟩; obtain ⟨x0, x1⟩ := HXT.out.at_ hb1; obtain ⟨y0, y1, y2⟩ := HXV.out.at_ hb1; have hb1w := below_aft hb0 hb1 hb0.size) | (go_at_call 38; refine (IN.out.known A D cap ep e t v _ _ _ HFT.out HND.out (Hr.out.at_ hb1w) HT.out (HV.out.at_ hb1w) hn).mono ?_; rintro e2 w2 ⟨rfl, hb2⟩))
      all_goals go_ret
      all_goals exact ⟨ret_bool (by rw [HF.out, HIS.out]), below_aft hb1w hb2 hb1w.size⟩
    · have hf' : fitH l 10 t v = false := by simpa using hf
      have HFT := Lib.hid hf'
      have HIS := Lib.hid (isH_fit hf')
      clear hf hf'
      go_enter Try.func23, Try.ntmps23
      go_wp2_with (first | (go_at_call 37; rw [HW.out]; refine (typeI_yes (t := t) (Hr.out.at_ hb0) HT.out).mono ?_; rintro e1 w1 ⟨rfl, hb1⟩; obtain ⟨x0, x1⟩ := HXT.out.at_ hb1; obtain ⟨y0, y1, y2⟩ := HXV.out.at_ hb1; have hb1w := below_aft hb0 hb1 hb0.size) | (go_at_call 38; refine (IN.out.known A D cap ep e t v _ _ _ HFT.out rfl (Hr.out.at_ hb1w) HT.out (HV.out.at_ hb1w) hn).mono ?_; rintro e2 w2 ⟨rfl, hb2⟩))
      all_goals go_ret
      all_goals exact ⟨ret_bool (by rw [HF.out, HIS.out]), below_aft hb1w hb2 hb1w.size⟩
  · have HT := Lib.hid ht
    have HF := Lib.hid (paT_no (v := v) ht)
    clear ht
    go_enter Try.func23, Try.ntmps23
    go_wp2_with (go_at_call 37; rw [HW.out]; refine (typeI_no (t := t) (Hr.out.at_ hb0) HT.out).mono ?_; rintro e1 w1 ⟨rfl, hb1⟩; have hb1w := below_aft hb0 hb1 hb0.size)
    go_ret
    exact ⟨ret_bool HF.out.symm, hb1w⟩
theorem pa_impl (A D : Option Addr) (l : List Da) (cap ep e : Nat) (t : Ty) (v : Vl) (w : World) (hr : RDas w w.heap.size A l) (hv : RVs e w w.heap.size D v.kids) (hn : wV v ≤ 16000000) :
    Calls Try.prog 10 #[.slice A l.length cap, .agg #[.int .i64 t.data, .int .i64 t.index], .agg #[.int .i64 v.ctor, .int .i64 v.n, .slice D v.kids.length ep]] w fun e w' => e = .returned (.bool (paT l t v)) ∧ Below w.heap.size w w' := by
  have Hr := Lib.hid hr
  have HV := Lib.hid hv
  clear hr hv
  generalize hw0 : (w.alloc (.cells #[.int .i64 t.data, .int .i64 t.index] 25)).alloc (.cells #[.int .i64 v.ctor, .int .i64 v.n, .slice D v.kids.length ep] 28) = w0
  have hb0 := below_box2 hw0
  have HW := Lib.hid hw0
  clear hw0
  go_enter Try.func10, Try.ntmps10
  go_wp2_with (go_at_call 23; rw [HW.out]; refine (pw_impl A D l cap ep e t v _ (Hr.out.at_ hb0) (HV.out.at_ hb0) hn).mono ?_; rintro e1 w1 ⟨rfl, hb1⟩)
  go_ret
  exact ⟨rfl, below_aft hb0 hb1 hb0.size⟩
end Go.Proofs.Ytakhobhmplneeaa
