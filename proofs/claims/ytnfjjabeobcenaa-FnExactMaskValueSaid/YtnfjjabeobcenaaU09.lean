/-
  When a value is one that is known in part: the document's functions. No statement is proved here.
-/
import Derived.Test.YtnfjjabeobcenaaU08
import Derived.Test.YtnfjjabeobcenaaU04
import Derived.Test.YtnfjjabeobcenaaU05
import Derived.Test.YtnfjjabeobcenaaU00
import Derived.Test.YtnfjjabeobcenaaU01
import Derived.Maps.AppendAt
namespace Go.Proofs.Ytnfjjabeobcenaa
open Go.RowKit Go.Sort Go.Deep
set_option maxRecDepth 100000
set_option linter.unusedVariables false
def FitHC (l : List Da) (d : Nat) (z : Int) : Prop := ∀ (A D : Option Addr) (cap ep e : Nat) (t : Ty) (v : Vl) (w : World), RDas w w.heap.size A l → TyOK l t → RVs e w w.heap.size D v.kids →
  Calls Try.prog 62 #[.slice A l.length cap, .agg #[.int .i64 t.data, .int .i64 t.index], .agg #[.int .i64 v.ctor, .int .i64 v.n, .slice D v.kids.length ep], .int .i64 z] w fun e w' => e = .returned (.bool (fitH l d t v)) ∧ Below w.heap.size w w'
def FitHS (l : List Da) (d : Nat) : Prop := FitHC l d (d : Nat)
theorem FitHC.known {l : List Da} {d : Nat} {z : Int} (h : FitHC l d z) (A D : Option Addr) (cap ep e : Nat) (t : Ty) (v : Vl) (b : Bool) (w : World) (hf : fitH l d t v = b) (hr : RDas w w.heap.size A l) (ht : TyOK l t) (hv : RVs e w w.heap.size D v.kids) :
    Calls Try.prog 62 #[.slice A l.length cap, .agg #[.int .i64 t.data, .int .i64 t.index], .agg #[.int .i64 v.ctor, .int .i64 v.n, .slice D v.kids.length ep], .int .i64 z] w fun e w' => e = .returned (.bool b) ∧ Below w.heap.size w w' := by
  rw [← hf]; exact h A D cap ep e t v w hr ht hv
theorem fitHS_zero (l : List Da) : FitHS l 0 := by
  intro A D cap ep e t v w hr ht hv
  have HB : Hid (∀ o o' : Obj, Below w.heap.size w ((w.alloc o).alloc o')) := fun o o' => ((Below.refl _ _).alloc (Nat.le_refl _) _).alloc (by simp) _
  clear hr ht hv
  go_enter Try.func62, Try.ntmps62
  go_wp2_with fail
  go_ret
  exact ⟨rfl, HB.out _ _⟩
set_option maxHeartbeats 3000000 in
theorem fitHS_step (l : List Da) (d : Nat) (hd : d < 99) (ih : FitHS l d) : FitHS l (d + 1) := by
  intro A D cap ep e t v w hr ht hv
  have hl := hv.1
  have hle := hv.1
  have Hr := Lib.hid hr
  have HT := Lib.hid ht
  have HV := Lib.hid hv
  unfold maxLen at hl
  have IF := Lib.hid (fitS_any l (d + 1) (by omega))
  have IH := Lib.hid ih
  generalize hz : ((d + 1 : Nat) : Int) = z
  have hz0 : 1 ≤ z := by omega
  have hz2 : z ≤ 101 := by omega
  have hz1 : decide (z < 1) = false := by simpa using hz0
  have IFz : Hid (FitC l (d + 1) z) := by unfold Hid; rw [← hz]; exact IF.out
  have IHz : Hid (FitHC l d (z - 1)) := by unfold Hid; rw [show z - 1 = (d : Int) by omega]; exact ih
  clear hr ht hv ih hz IH IF
  generalize hw0 : (w.alloc (.cells #[.int .i64 t.data, .int .i64 t.index] 33)).alloc (.cells #[.int .i64 v.ctor, .int .i64 v.n, .slice D v.kids.length ep] 37) = w0
  have hb0 := below_box2 hw0
  have HXT : Hid (Bx w0 w.heap.size t) := by rw [← hw0]; exact ⟨by simp [go_sem], by simp [go_sem]⟩
  have HXV : Hid (VBx w0 (w.heap.size + 1) v.ctor v.n (.slice D v.kids.length ep)) := by rw [← hw0]; exact ⟨by simp [go_sem], by simp [go_sem], by simp [go_sem]⟩
  have HW := Lib.hid hw0
  clear hw0
  obtain ⟨x0, x1⟩ := HXT.out
  obtain ⟨y0, y1, y2⟩ := HXV.out
  by_cases h2 : v.ctor = -2
  · have p2 := ieq_t h2
    have HF2 := Lib.hid (fitH_two (l := l) (d := d) (t := t) h2)
    clear h2
    go_enter Try.func62, Try.ntmps62
    go_wp2_with (go_at_call 84; rw [HW.out]; refine (l10H_any D ep v _ hle).mono ?_; rintro e1 w1 ⟨rfl, hb1⟩)
    go_ret
    exact ⟨ret_bool HF2.out.symm, below_aft hb0 hb1 hb0.size⟩
  have p2 := ieq_f h2
  have HH := Lib.hid (holeV_no h2)
  have H2 := Lib.hid h2
  clear h2
  by_cases h1 : t.data = -1
  · have q1 := ieq_t h1
    have HF2 := Lib.hid (fitV_fitH_int (l := l) (d := d) h1 H2.out)
    clear h1
    go_enter Try.func62, Try.ntmps62
    go_wp2_with (go_at_call 56; rw [HW.out]; refine (IFz.out A D cap ep e t v _ (Hr.out.at_ hb0) HT.out (HV.out.at_ hb0)).mono ?_; rintro e1 w1 ⟨rfl, hb1⟩)
    go_ret
    exact ⟨ret_bool HF2.out, below_aft hb0 hb1 hb0.size⟩
  have q1 := ieq_f h1
  have H1 := Lib.hid h1
  clear h1 hle
  by_cases hn : v.n = 0
  · have qn : (v.n != 0) = false := by simp [hn]
    by_cases hc : v.ctor ∈ ctR l t
    · have HC := Lib.hid hc
      have HD := Lib.hid (dec_t hc)
      by_cases hk : v.kids.length = (agR l t v.ctor).length
      · have HF := Lib.hid (fitH_go (d := d) HH.out H1.out hn hc hk)
        have hm3 := agR_len l t v.ctor
        have HOK := Lib.hid (agR_ok hc)
        have HK := Lib.hid (fun (i : Nat) (h : i < (agR l t v.ctor).length) (h' : i < v.kids.length) => kidH_at (l := l) (d := d) h h')
        have HAG := Lib.hid (l1Args_all A l cap t v.ctor · · hc)
        generalize hats : agR l t v.ctor = ats at HF hm3 HOK HK HAG hk
        have hkI : ((v.kids.length : Int) != (ats.length : Int)) = false := by simp [hk]
        have HKL := Lib.hid hk
        clear hn hc hats hk
        go_enter Try.func62, Try.ntmps62
        go_wp2_with fail
        rw [HW.out]
        go_region_with (first | (go_at_call 75; refine (l1Ctors_all _ l _ t _ (by exact Hr.out.at_ hb0.drew) HT.out).mono ?_; rintro e w1 ⟨v1, rfl, ho, hb1'⟩; have hb1 : Below w0.heap.size w0 w1 := ⟨hb1'.os, hb1'.tape, hb1'.output, hb1'.size, hb1'.block⟩; obtain ⟨A1, c1, rfl, hri⟩ := ho.form (by have := ctR_len l t; unfold maxLen; omega); have HRI := Lib.hid hri; have HXV1 := Lib.hid (HXV.out.at_ hb1); obtain ⟨z0, z1, z2⟩ := HXV1.out; clear hri ho hb1') | (go_at_call 74; refine (has_any _ _ _ _ _ HRI.out).mono ?_; rw [HD.out]; rintro e w2 ⟨rfl, rfl⟩))
        all_goals
          have HXT1 := Lib.hid (HXT.out.at_ hb1)
          obtain ⟨u0, u1⟩ := HXT1.out
          have hb1w := below_aft hb0 hb1 hb0.size
          clear x0 x1 y0 y1 y2
          go_wp2_with (go_at_call 76; refine (HAG.out _ (by exact Hr.out.at_ hb1w)).mono ?_; rintro e w3 ⟨v3, rfl, ho3, hb3'⟩; obtain ⟨A3, c3, rfl, hr3⟩ := ho3.form (by unfold maxLen; omega); have HR3 := Lib.hid hr3; have HXV3 := Lib.hid (HXV1.out.at_ hb3'); obtain ⟨z0', z1', z2'⟩ := HXV3.out; have hb3 := below_aft hb1w hb3' hb1w.size; clear hr3 ho3 hb3')
          go_loopw [10] (fun i wr => ∃ k : Nat, k ≤ ats.length ∧ i = .int .i64 k ∧ Hid (upto (kidH l d ats v.kids) k = true) ∧ Below w3.heap.size w3 wr) (fun i _ => ats.length - (intOf i).toNat)
          case atStart => exact ⟨0, by omega, rfl, rfl, Below.refl _ _⟩
          case round =>
            obtain ⟨k, hk, rfl, HU, hb⟩ := hrel
            clear u0 u1 z0 z1 z2 z0' z1' z2'
            have hbw : Below w.heap.size w wr := below_aft hb3 hb hb3.size
            have HXVr := Lib.hid (HXV3.out.at_ hb)
            obtain ⟨f0, f1, f2⟩ := HXVr.out
            by_cases hlt : k < ats.length
            · have hkl : k < v.kids.length := by rw [HKL.out]; exact hlt
              obtain ⟨g, o, rfl, hgB, t0, t1⟩ := (HR3.out.below hb (Nat.le_refl _)).2 k hlt
              obtain ⟨b, off, rfl, hbB, hvk⟩ := (HV.out.below hbw (Nat.le_refl _)).2 k hkl
              obtain ⟨e', he', D', cp, c0, c1, c2, hm⟩ := hvk.parts
              have d0 := cell_regrown t0
              have d1 := cell_regrown t1
              have d2 := cell_regrown c0
              have d3 := cell_regrown c1
              have d4 := cell_regrown c2
              have d5 := cell_regrown f2
              have Hm : Hid (RVs e' wr wr.heap.size D' v.kids[k].kids) := hm.keep (fun _ _ => rfl) hbw.size
              have Hrr : Hid (RDas wr wr.heap.size A l) := Hr.out.at_ hbw
              have HTk := Lib.hid (HOK.out _ (List.getElem_mem hlt))
              have HKk := Lib.hid (HK.out k hlt hkl)
              have hi : (k : Int) < (ats.length : Int) := by omega
              have hi2 : (k : Int) < (v.kids.length : Int) := by omega
              have hzs : IntKind.i64.wrap (z - 1) = z - 1 := IntWalk.i64_in _ (by omega)
              clear c0 c1 c2 t0 t1 f0 f1 f2 hm hvk he'
              by_cases hf : fitH l d ats[k] v.kids[k] = true
              · have HFk := Lib.hid hf
                have HUk : Hid (upto (kidH l d ats v.kids) (k + 1) = true) := upto_t HU.out (by rw [HKk.out]; exact hf)
                clear hf
                go_wp2_with fail
                refine wp_region_quiet_below (by kernel_rfl) (by kernel_rfl) ?_
                repeat (quiet_step (exact Calls.regrown_of (IHz.out.known _ _ _ _ _ _ _ _ _ HFk.out (Hrr.out.at_ (below_regrown wr _ _)) HTk.out (Hm.out.at_ (below_regrown wr _ _)))))
                refine wpQuiet_nil ?_
                intro _ hw'
                obtain ⟨⟨dq, osq⟩, hw''⟩ := hw'
                subst hw''
                have hb2 := hb.trans ((below_regrown wr dq osq).mono hb.size)
                clear d0 d1 d2 d3 d4 d5
                go_wp2_with fail
                go_roundw
                case rel => exact ⟨k + 1, by omega, by go_num, HUk, hb2⟩
                case measure => simp [intOf]; omega
              · have hf' : fitH l d ats[k] v.kids[k] = false := by simpa using hf
                have HFk := Lib.hid hf'
                have HUk := Lib.hid (upto_f (f := kidH l d ats v.kids) hlt (by rw [HKk.out]; exact hf'))
                clear hf hf'
                go_wp2_with fail
                refine wp_region_quiet_below (by kernel_rfl) (by kernel_rfl) ?_
                repeat (quiet_step (exact Calls.regrown_of (IHz.out.known _ _ _ _ _ _ _ _ _ HFk.out (Hrr.out.at_ (below_regrown wr _ _)) HTk.out (Hm.out.at_ (below_regrown wr _ _)))))
                refine wpQuiet_nil ?_
                intro _ hw'
                obtain ⟨⟨dq, osq⟩, hw''⟩ := hw'
                subst hw''
                have hb2 := hbw.trans ((below_regrown wr dq osq).mono hbw.size)
                clear d0 d1 d2 d3 d4 d5
                go_wp2_with fail
                go_ret
                exact ⟨ret_bool (by rw [HF.out, HUk.out]), hb2⟩
            · have he : k = ats.length := by omega
              have HE : Hid (fitH l (d + 1) t v = true) := by unfold Hid; rw [HF.out, ← he]; exact HU.out
              clear he
              go_wp2_with fail
              go_ret
              exact ⟨ret_bool HE.out.symm, hbw⟩
      · have HF := Lib.hid (fitH_len (d := d) HH.out H1.out hk)
        have hm3 := agR_len l t v.ctor
        have HAG := Lib.hid (l1Args_all A l cap t v.ctor · · hc)
        generalize hats : agR l t v.ctor = ats at HF hm3 HAG hk
        have hkI : ((v.kids.length : Int) != (ats.length : Int)) = true := by simp; omega
        clear hn hc hats hk
        go_enter Try.func62, Try.ntmps62
        go_wp2_with fail
        rw [HW.out]
        go_region_with (first | (go_at_call 75; refine (l1Ctors_all _ l _ t _ (by exact Hr.out.at_ hb0.drew) HT.out).mono ?_; rintro e w1 ⟨v1, rfl, ho, hb1'⟩; have hb1 : Below w0.heap.size w0 w1 := ⟨hb1'.os, hb1'.tape, hb1'.output, hb1'.size, hb1'.block⟩; obtain ⟨A1, c1, rfl, hri⟩ := ho.form (by have := ctR_len l t; unfold maxLen; omega); have HRI := Lib.hid hri; have HXV1 := Lib.hid (HXV.out.at_ hb1); obtain ⟨z0, z1, z2⟩ := HXV1.out; clear hri ho hb1') | (go_at_call 74; refine (has_any _ _ _ _ _ HRI.out).mono ?_; rw [HD.out]; rintro e w2 ⟨rfl, rfl⟩))
        all_goals
          have HXT1 := Lib.hid (HXT.out.at_ hb1)
          obtain ⟨u0, u1⟩ := HXT1.out
          have hb1w := below_aft hb0 hb1 hb0.size
          clear x0 x1 y0 y1 y2
          go_wp2_with (go_at_call 76; refine (HAG.out _ (by exact Hr.out.at_ hb1w)).mono ?_; rintro e w3 ⟨v3, rfl, ho3, hb3'⟩; obtain ⟨A3, c3, rfl, hr3⟩ := ho3.form (by unfold maxLen; omega); have HXV3 := Lib.hid (HXV1.out.at_ hb3'); obtain ⟨z0', z1', z2'⟩ := HXV3.out; have hb3 := below_aft hb1w hb3' hb1w.size; clear hr3 ho3 hb3')
          go_ret
          exact ⟨ret_bool HF.out.symm, hb3⟩
    · have HF := Lib.hid (fitH_ctor (d := d) HH.out H1.out hc)
      have HD := Lib.hid (dec_f hc)
      clear hn hc
      go_enter Try.func62, Try.ntmps62
      go_wp2_with fail
      rw [HW.out]
      go_region_with (first | (go_at_call 75; refine (l1Ctors_all _ l _ t _ (by exact Hr.out.at_ hb0.drew) HT.out).mono ?_; rintro e w1 ⟨v1, rfl, ho, hb1'⟩; have hb1 : Below w0.heap.size w0 w1 := ⟨hb1'.os, hb1'.tape, hb1'.output, hb1'.size, hb1'.block⟩; obtain ⟨A1, c1, rfl, hri⟩ := ho.form (by have := ctR_len l t; unfold maxLen; omega); have HRI := Lib.hid hri; have HXV1 := Lib.hid (HXV.out.at_ hb1); obtain ⟨z0, z1, z2⟩ := HXV1.out; clear hri ho hb1') | (go_at_call 74; refine (has_any _ _ _ _ _ HRI.out).mono ?_; rw [HD.out]; rintro e w2 ⟨rfl, rfl⟩))
      all_goals
        go_wp2_with fail
        go_ret
        exact ⟨ret_bool HF.out.symm, below_aft hb0 hb1 hb0.size⟩
  · have qn : (v.n != 0) = true := by simpa using hn
    have HF := Lib.hid (fitH_n (l := l) (d := d) HH.out H1.out hn)
    clear hn
    go_enter Try.func62, Try.ntmps62
    go_wp2_with fail
    rw [HW.out]
    go_quiet (fail)
    go_wp2_with fail
    go_ret
    exact ⟨ret_bool HF.out.symm, below_drawn hb0 _⟩
theorem fitHS_any (l : List Da) : ∀ d, d < 100 → FitHS l d
  | 0, _ => fitHS_zero l
  | d + 1, h => fitHS_step l d (by omega) (fitHS_any l d (by omega))
/-- A value of a type within the limits. -/
noncomputable def isH (l : List Da) (t : Ty) (v : Vl) : Bool := fitH l 10 t v && decide (1 + wV v ≤ 60)
theorem isH_fit {l : List Da} {t : Ty} {v : Vl} (h : fitH l 10 t v = false) : isH l t v = false := by unfold isH; rw [h]; rfl
theorem isH_yes {l : List Da} {t : Ty} {v : Vl} (h : fitH l 10 t v = true) (h' : 1 + wV v ≤ 60) : isH l t v = true := by unfold isH; rw [h, decide_eq_true h']; rfl
theorem isH_big {l : List Da} {t : Ty} {v : Vl} (h' : ¬ 1 + wV v ≤ 60) : isH l t v = false := by unfold isH; rw [decide_eq_false h']; simp
theorem isHd_any (A D : Option Addr) (l : List Da) (cap ep e : Nat) (t : Ty) (v : Vl) (w : World) (hr : RDas w w.heap.size A l) (ht : TyOK l t) (hv : RVs e w w.heap.size D v.kids) (hn : wV v ≤ 16000000) :
    Calls Try.prog 39 #[.slice A l.length cap, .agg #[.int .i64 t.data, .int .i64 t.index], .agg #[.int .i64 v.ctor, .int .i64 v.n, .slice D v.kids.length ep]] w fun e w' => e = .returned (.bool (isH l t v)) ∧ Below w.heap.size w w' := by
  have Hr := Lib.hid hr
  have HV := Lib.hid hv
  have IF : Hid (FitHC l 10 10) := fitHS_any l 10 (by omega)
  clear hr hv
  generalize hw0 : (w.alloc (.cells #[.int .i64 t.data, .int .i64 t.index] 33)).alloc (.cells #[.int .i64 v.ctor, .int .i64 v.n, .slice D v.kids.length ep] 37) = w0
  have hb0 := below_box2 hw0
  have HXT : Hid (Bx w0 w.heap.size t) := by rw [← hw0]; exact ⟨by simp [go_sem], by simp [go_sem]⟩
  have HXV : Hid (VBx w0 (w.heap.size + 1) v.ctor v.n (.slice D v.kids.length ep)) := by rw [← hw0]; exact ⟨by simp [go_sem], by simp [go_sem], by simp [go_sem]⟩
  have HW := Lib.hid hw0
  clear hw0
  obtain ⟨x0, x1⟩ := HXT.out
  obtain ⟨y0, y1, y2⟩ := HXV.out
  by_cases hf : fitH l 10 t v = true
  · have HF := Lib.hid hf
    go_enter Try.func39, Try.ntmps39
    go_wp2_with (first | (go_at_call 62; rw [HW.out]; refine (IF.out.known A D cap ep e t v true _ HF.out (Hr.out.at_ hb0) ht (HV.out.at_ hb0)).mono ?_; rintro e1 w1 ⟨rfl, hb1⟩; obtain ⟨z0, z1, z2⟩ := HXV.out.at_ hb1; have hb1w := below_aft hb0 hb1 hb0.size) | (go_at_call 57; refine (cntS_any e D ep v 60 _ (HV.out.at_ hb1w) hn (by omega) (by omega)).mono ?_; rintro e2 w2 ⟨r, rfl, hr, hb2⟩; have HR := Lib.hid hr; clear hr))
    all_goals go_ret
    all_goals
      refine ⟨ret_bool ?_, below_aft hb1w hb2 hb1w.size⟩
      by_cases h60 : 1 + wV v ≤ 60
      · rw [isH_yes HF.out h60]
        have := HR.out.1 (by omega)
        simp only [decide_eq_true_eq]; omega
      · rw [isH_big h60]
        have := HR.out.2.1 (by omega)
        simp only [decide_eq_false_iff_not]; omega
  · have hf' : fitH l 10 t v = false := by simpa using hf
    have HF := Lib.hid hf'
    clear hf hf'
    go_enter Try.func39, Try.ntmps39
    go_wp2_with (go_at_call 62; rw [HW.out]; refine (IF.out.known A D cap ep e t v false _ HF.out (Hr.out.at_ hb0) ht (HV.out.at_ hb0)).mono ?_; rintro e1 w1 ⟨rfl, hb1⟩; have hb1w := below_aft hb0 hb1 hb0.size)
    go_ret
    exact ⟨ret_bool (isH_fit HF.out).symm, hb1w⟩
end Go.Proofs.Ytnfjjabeobcenaa
/-
  PartialValid of the program and of the document. No statement is proved here.
-/
namespace Go.Proofs.Ytnfjjabeobcenaa
open Go.RowKit Go.Sort Go.Deep
set_option maxRecDepth 100000
set_option linter.unusedVariables false
noncomputable def paT (l : List Da) (t : Ty) (v : Vl) : Bool := dec (TyOK l t) && isH l t v
theorem paT_yes {l : List Da} {t : Ty} {v : Vl} (h : TyOK l t) : paT l t v = isH l t v := by unfold paT; rw [dec_t h]; rfl
theorem paT_no {l : List Da} {t : Ty} {v : Vl} (h : ¬ TyOK l t) : paT l t v = false := by unfold paT; rw [dec_f h]; rfl
theorem ndHS_any (l : List Da) : ∀ d, d < 100 → NdHS l d
  | 0, _ => ndHS_zero l
  | d + 1, h => ndHS_step l d (by omega) (ndHS_any l d (by omega))
theorem pa_spec (A D : Option Addr) (l : List Da) (cap ep e : Nat) (t : Ty) (v : Vl) (w : World) (hr : RDas w w.heap.size A l) (hv : RVs e w w.heap.size D v.kids) (hn : wV v ≤ 16000000) :
    Calls Try.prog 16 #[.slice A l.length cap, .agg #[.int .i64 t.data, .int .i64 t.index], .agg #[.int .i64 v.ctor, .int .i64 v.n, .slice D v.kids.length ep]] w fun e w' => e = .returned (.bool (paT l t v)) ∧ Below w.heap.size w w' := by
  have Hr := Lib.hid hr
  have HV := Lib.hid hv
  clear hr hv
  generalize hw0 : (w.alloc (.cells #[.int .i64 t.data, .int .i64 t.index] 33)).alloc (.cells #[.int .i64 v.ctor, .int .i64 v.n, .slice D v.kids.length ep] 37) = w0
  have hb0 := below_box2 hw0
  have HXT : Hid (Bx w0 w.heap.size t) := by rw [← hw0]; exact ⟨by simp [go_sem], by simp [go_sem]⟩
  have HXV : Hid (VBx w0 (w.heap.size + 1) v.ctor v.n (.slice D v.kids.length ep)) := by rw [← hw0]; exact ⟨by simp [go_sem], by simp [go_sem], by simp [go_sem]⟩
  have HW := Lib.hid hw0
  clear hw0
  by_cases ht : TyOK l t
  · have HT := Lib.hid ht
    have HF := Lib.hid (paT_yes (v := v) ht)
    clear ht
    go_enter Try.func16, Try.ntmps16
    go_wp2_with (first | (go_at_call 31; rw [HW.out]; refine (typeV_yes (t := t) (Hr.out.at_ hb0) HT.out).mono ?_; rintro e1 w1 ⟨rfl, hb1⟩; obtain ⟨x0, x1⟩ := HXT.out.at_ hb1; obtain ⟨y0, y1, y2⟩ := HXV.out.at_ hb1; have hb1w := below_aft hb0 hb1 hb0.size) | (go_at_call 39; refine (isHd_any A D l cap ep e t v _ (Hr.out.at_ hb1w) HT.out (HV.out.at_ hb1w) hn).mono ?_; rintro e2 w2 ⟨rfl, hb2⟩))
    all_goals go_ret
    all_goals exact ⟨ret_bool HF.out.symm, below_aft hb1w hb2 hb1w.size⟩
  · have HT := Lib.hid ht
    have HF := Lib.hid (paT_no (v := v) ht)
    clear ht
    go_enter Try.func16, Try.ntmps16
    go_wp2_with (go_at_call 31; rw [HW.out]; refine (typeV_no (t := t) (Hr.out.at_ hb0) HT.out).mono ?_; rintro e1 w1 ⟨rfl, hb1⟩; have hb1w := below_aft hb0 hb1 hb0.size)
    go_ret
    exact ⟨ret_bool HF.out.symm, hb1w⟩
theorem pw_impl (A D : Option Addr) (l : List Da) (cap ep e : Nat) (t : Ty) (v : Vl) (w : World) (hr : RDas w w.heap.size A l) (hv : RVs e w w.heap.size D v.kids) (hn : wV v ≤ 16000000) :
    Calls Try.prog 35 #[.slice A l.length cap, .agg #[.int .i64 t.data, .int .i64 t.index], .agg #[.int .i64 v.ctor, .int .i64 v.n, .slice D v.kids.length ep], .func (.func 40) #[] #[]] w fun e w' => e = .returned (.bool (paT l t v)) ∧ Below w.heap.size w w' := by
  have Hr := Lib.hid hr
  have HV := Lib.hid hv
  have IN : Hid (NdHC l 10 10) := ndHS_any l 10 (by omega)
  clear hr hv
  generalize hw0 : (w.alloc (.cells #[.int .i64 t.data, .int .i64 t.index] 33)).alloc (.cells #[.int .i64 v.ctor, .int .i64 v.n, .slice D v.kids.length ep] 37) = w0
  have hb0 := below_box2 hw0
  have HXT : Hid (Bx w0 w.heap.size t) := by rw [← hw0]; exact ⟨by simp [go_sem], by simp [go_sem]⟩
  have HXV : Hid (VBx w0 (w.heap.size + 1) v.ctor v.n (.slice D v.kids.length ep)) := by rw [← hw0]; exact ⟨by simp [go_sem], by simp [go_sem], by simp [go_sem]⟩
  have HW := Lib.hid hw0
  clear hw0
  by_cases ht : TyOK l t
  · have HT := Lib.hid ht
    have HF := Lib.hid (paT_yes (v := v) ht)
    clear ht
    by_cases hf : fitH l 10 t v = true
    · have HFT := Lib.hid hf
      have HND := Lib.hid (ndH_yes hf)
      have hr1 : (0 : Int) ≤ 1 + (wV v : Int) := by omega
      have hr2 : 1 + (wV v : Int) ≤ 16000001 := by omega
      have HIS : Hid (isH l t v = decide (1 + (wV v : Int) ≤ 60)) := by
        unfold Hid isH; rw [hf]
        show decide _ = decide _
        simp only [decide_eq_decide]; omega
      generalize hrr : 1 + (wV v : Int) = r at hr1 hr2 HND HIS
      clear hf hrr
      go_enter Try.func35, Try.ntmps35
      go_wp2_with (first | (go_at_call 59; rw [HW.out]; refine (typeI_yes (t := t) (Hr.out.at_ hb0) HT.out).mono ?_; rintro e1 w1 ⟨rfl, hb1⟩; obtain ⟨x0, x1⟩ := HXT.out.at_ hb1; obtain ⟨y0, y1, y2⟩ := HXV.out.at_ hb1; have hb1w := below_aft hb0 hb1 hb0.size) | (go_at_call 60; refine (IN.out.known A D cap ep e t v _ _ _ HFT.out HND.out (Hr.out.at_ hb1w) HT.out (HV.out.at_ hb1w) hn).mono ?_; rintro e2 w2 ⟨rfl, hb2⟩))
      all_goals go_ret
      all_goals exact ⟨ret_bool (by rw [HF.out, HIS.out]), below_aft hb1w hb2 hb1w.size⟩
    · have hf' : fitH l 10 t v = false := by simpa using hf
      have HFT := Lib.hid hf'
      have HIS := Lib.hid (isH_fit hf')
      clear hf hf'
      go_enter Try.func35, Try.ntmps35
      go_wp2_with (first | (go_at_call 59; rw [HW.out]; refine (typeI_yes (t := t) (Hr.out.at_ hb0) HT.out).mono ?_; rintro e1 w1 ⟨rfl, hb1⟩; obtain ⟨x0, x1⟩ := HXT.out.at_ hb1; obtain ⟨y0, y1, y2⟩ := HXV.out.at_ hb1; have hb1w := below_aft hb0 hb1 hb0.size) | (go_at_call 60; refine (IN.out.known A D cap ep e t v _ _ _ HFT.out rfl (Hr.out.at_ hb1w) HT.out (HV.out.at_ hb1w) hn).mono ?_; rintro e2 w2 ⟨rfl, hb2⟩))
      all_goals go_ret
      all_goals exact ⟨ret_bool (by rw [HF.out, HIS.out]), below_aft hb1w hb2 hb1w.size⟩
  · have HT := Lib.hid ht
    have HF := Lib.hid (paT_no (v := v) ht)
    clear ht
    go_enter Try.func35, Try.ntmps35
    go_wp2_with (go_at_call 59; rw [HW.out]; refine (typeI_no (t := t) (Hr.out.at_ hb0) HT.out).mono ?_; rintro e1 w1 ⟨rfl, hb1⟩; have hb1w := below_aft hb0 hb1 hb0.size)
    go_ret
    exact ⟨ret_bool HF.out.symm, hb1w⟩
theorem pa_impl (A D : Option Addr) (l : List Da) (cap ep e : Nat) (t : Ty) (v : Vl) (w : World) (hr : RDas w w.heap.size A l) (hv : RVs e w w.heap.size D v.kids) (hn : wV v ≤ 16000000) :
    Calls Try.prog 17 #[.slice A l.length cap, .agg #[.int .i64 t.data, .int .i64 t.index], .agg #[.int .i64 v.ctor, .int .i64 v.n, .slice D v.kids.length ep]] w fun e w' => e = .returned (.bool (paT l t v)) ∧ Below w.heap.size w w' := by
  have Hr := Lib.hid hr
  have HV := Lib.hid hv
  clear hr hv
  generalize hw0 : (w.alloc (.cells #[.int .i64 t.data, .int .i64 t.index] 33)).alloc (.cells #[.int .i64 v.ctor, .int .i64 v.n, .slice D v.kids.length ep] 37) = w0
  have hb0 := below_box2 hw0
  have HW := Lib.hid hw0
  clear hw0
  go_enter Try.func17, Try.ntmps17
  go_wp2_with (go_at_call 35; rw [HW.out]; refine (pw_impl A D l cap ep e t v _ (Hr.out.at_ hb0) (HV.out.at_ hb0) hn).mono ?_; rintro e1 w1 ⟨rfl, hb1⟩)
  go_ret
  exact ⟨rfl, below_aft hb0 hb1 hb0.size⟩
end Go.Proofs.Ytnfjjabeobcenaa
/-
  Worlds that differ only in some blocks. No statement is proved here.
-/
namespace Go.Proofs.Ytnfjjabeobcenaa
open Go.RowKit
set_option maxRecDepth 100000
set_option linter.unusedVariables false
/-- Only blocks of P have turned, and blocks that are new. -/
def Fr (P : Nat → Prop) (w w' : World) : Prop := w'.os = w.os ∧ w'.tape = w.tape ∧ w'.output = w.output ∧ w.heap.size ≤ w'.heap.size ∧ ∀ b, b < w.heap.size → ¬ P b → w'.heap[b]? = w.heap[b]?
theorem Fr.refl (P : Nat → Prop) (w : World) : Fr P w w := ⟨rfl, rfl, rfl, Nat.le_refl _, fun _ _ _ => rfl⟩
theorem Fr.size {P : Nat → Prop} {w w' : World} (h : Fr P w w') : w.heap.size ≤ w'.heap.size := h.2.2.2.1
theorem Fr.trans {P : Nat → Prop} {a b c : World} (h : Fr P a b) (h' : Fr P b c) : Fr P a c :=
  ⟨h'.1.trans h.1, h'.2.1.trans h.2.1, h'.2.2.1.trans h.2.2.1, Nat.le_trans h.size h'.size, fun x hx hp => (h'.2.2.2.2 x (Nat.lt_of_lt_of_le hx h.size) hp).trans (h.2.2.2.2 x hx hp)⟩
theorem Fr.wide {P P' : Nat → Prop} {w w' : World} (h : Fr P w w') (hp : ∀ b, P b → P' b) : Fr P' w w' :=
  ⟨h.1, h.2.1, h.2.2.1, h.size, fun x hx hq => h.2.2.2.2 x hx (fun h' => hq (hp x h'))⟩
theorem Fr.block {P : Nat → Prop} {w w' : World} (h : Fr P w w') {b : Nat} {o : Obj} (hb : w.heap[b]? = some o) (hp : ¬ P b) : w'.heap[b]? = some o := (h.2.2.2.2 b (heap_lt hb) hp).trans hb
theorem Fr.below {P : Nat → Prop} {w w' : World} (h : Below w.heap.size w w') : Fr P w w' := ⟨h.os, h.tape, h.output, h.size, fun b hb _ => h.block b hb⟩
theorem Fr.to {P : Nat → Prop} {w w' : World} {B : Nat} (h : Fr P w w') (hB : B ≤ w.heap.size) (hp : ∀ b, b < B → ¬ P b) : Below B w w' :=
  ⟨h.1, h.2.1, h.2.2.1, h.size, fun b hb => h.2.2.2.2 b (Nat.lt_of_lt_of_le hb hB) (hp b hb)⟩
theorem Fr.set {P : Nat → Prop} (w : World) (g i : Nat) (u : Value) (hp : P g) : Fr P w (w.setCell ⟨g, i, none⟩ u) := by
  have h := (Below.refl 0 w).setCell (p := ⟨g, i, none⟩) (Nat.zero_le _) u
  exact ⟨h.os, h.tape, h.output, h.size, fun b _ hb => Below.heap_setCell w ⟨g, i, none⟩ u b (fun e => hb (e ▸ hp))⟩
theorem Fr.grown {P : Nat → Prop} {w w' : World} {row : Option Nat} (h : w.grownBy w' row) (hp : ∀ b, some b = row → P b) : Fr P w w' :=
  ⟨h.os, h.tape, h.output, h.size, fun b hb hq => h.block b hb (fun e => hq (hp b e))⟩
theorem Fr.kept {lo hi : Nat} {w w' : World} (h : Kept lo hi w w') : Fr (fun b => lo ≤ b ∧ b < hi) w w' := by
  refine ⟨h.1.os, h.1.tape, h.1.output, h.1.size, fun b hb hq => ?_⟩
  by_cases e : b < lo
  · exact h.1.block b e
  · exact h.2.1 b (by have : ¬ b < hi := fun h' => hq ⟨by omega, h'⟩; omega) hb
/-- The blocks that are new between two worlds. -/
def Nw (w w' : World) : Nat → Prop := fun b => w.heap.size ≤ b ∧ b < w'.heap.size
end Go.Proofs.Ytnfjjabeobcenaa
/-
  Vl trees in blocks of their own: no part has a block of another part. No statement is proved here.
-/
namespace Go.Proofs.Ytnfjjabeobcenaa
open Go.RowKit
set_option maxRecDepth 100000
set_option linter.unusedVariables false
/-- Trees in blocks of P; no part has a block of another part. -/
def OVs : Nat → World → (Nat → Prop) → Option Addr → List Vl → Prop
  | 0, _, _, _, _ => False
  | d + 1, w, P, A, l => l.length ≤ maxLen ∧ (0 < l.length → ∃ (g : Nat) (cs : Array Value) (Q : Nat → Nat → Prop), A = some ⟨g, 0, none⟩ ∧ P g ∧ w.heap[g]? = some (.cells cs 37 (0, 0)) ∧ (∀ k b, k < l.length → Q k b → P b ∧ b ≠ g ∧ ∀ j, j < l.length → j ≠ k → ¬ Q j b) ∧ ∀ k (h : k < l.length), ∃ A' cap, cs[k * 3]? = some (.int .i64 l[k].ctor) ∧ cs[k * 3 + 1]? = some (.int .i64 l[k].n) ∧ cs[k * 3 + 2]? = some (.slice A' l[k].kids.length cap) ∧ OVs d w (Q k) A' l[k].kids)
def OVp (d : Nat) (w : World) (P : Nat → Prop) (g : Nat) (cs : Array Value) (Q : Nat → Nat → Prop) (l : List Vl) : Prop := P g ∧ w.heap[g]? = some (.cells cs 37 (0, 0)) ∧ (∀ k b, k < l.length → Q k b → P b ∧ b ≠ g ∧ ∀ j, j < l.length → j ≠ k → ¬ Q j b) ∧ ∀ k (h : k < l.length), ∃ A' cap, cs[k * 3]? = some (.int .i64 l[k].ctor) ∧ cs[k * 3 + 1]? = some (.int .i64 l[k].n) ∧ cs[k * 3 + 2]? = some (.slice A' l[k].kids.length cap) ∧ OVs d w (Q k) A' l[k].kids
theorem OVs.parts {d : Nat} {w : World} {P : Nat → Prop} {A : Option Addr} {l : List Vl} (h : OVs d w P A l) : ∃ d', d = d' + 1 ∧ l.length ≤ maxLen ∧ (0 < l.length → ∃ g cs Q, A = some ⟨g, 0, none⟩ ∧ OVp d' w P g cs Q l) := by
  cases d with
  | zero => exact h.elim
  | succ d => exact ⟨d, rfl, h⟩
theorem OVs.mk {d : Nat} {w : World} {P : Nat → Prop} {A : Option Addr} {l : List Vl} (hl : l.length ≤ maxLen) (h : 0 < l.length → ∃ g cs Q, A = some ⟨g, 0, none⟩ ∧ OVp d w P g cs Q l) : OVs (d + 1) w P A l := ⟨hl, h⟩
theorem OVs.nil (d : Nat) (w : World) (P : Nat → Prop) (A : Option Addr) : OVs (d + 1) w P A [] := ⟨Nat.zero_le _, fun h => absurd h (Nat.not_lt_zero _)⟩
theorem OVs.wide : ∀ (d : Nat) {w : World} {P P' : Nat → Prop} {A : Option Addr} {l : List Vl}, OVs d w P A l → (∀ b, P b → P' b) → OVs d w P' A l
  | 0, _, _, _, _, _, h, _ => h.elim
  | d + 1, _, _, _, _, _, ⟨h1, h2⟩, hp => ⟨h1, fun hl => by
    obtain ⟨g, cs, Q, e, hg, hh, hq, hc⟩ := h2 hl
    exact ⟨g, cs, Q, e, hp g hg, hh, fun k b hk hb => ⟨hp b (hq k b hk hb).1, (hq k b hk hb).2⟩, hc⟩⟩
theorem OVs.fr : ∀ (d : Nat) {w w' : World} {P P' : Nat → Prop} {A : Option Addr} {l : List Vl}, OVs d w P A l → Fr P' w w' → (∀ b, P b → ¬ P' b) → OVs d w' P A l
  | 0, _, _, _, _, _, _, h, _, _ => h.elim
  | d + 1, _, _, _, _, _, _, ⟨h1, h2⟩, hf, hp => ⟨h1, fun hl => by
    obtain ⟨g, cs, Q, e, hg, hh, hq, hc⟩ := h2 hl
    refine ⟨g, cs, Q, e, hg, hf.block hh (hp g hg), hq, fun k hk => ?_⟩
    obtain ⟨A', cap, e0, e1, e8, e9⟩ := hc k hk
    exact ⟨A', cap, e0, e1, e8, OVs.fr d e9 hf (fun b hb => hp b (hq k b hk hb).1)⟩⟩
theorem OVs.up : ∀ (d : Nat) {w : World} {P : Nat → Prop} {A : Option Addr} {l : List Vl}, OVs d w P A l → OVs (d + 1) w P A l
  | 0, _, _, _, _, h => h.elim
  | d + 1, _, _, _, _, ⟨h1, h2⟩ => ⟨h1, fun hl => by
    obtain ⟨g, cs, Q, e, hg, hh, hq, hc⟩ := h2 hl
    refine ⟨g, cs, Q, e, hg, hh, hq, fun k hk => ?_⟩
    obtain ⟨A', cap, e0, e1, e8, e9⟩ := hc k hk
    exact ⟨A', cap, e0, e1, e8, OVs.up d e9⟩⟩
theorem OVs.more {d d' : Nat} {w : World} {P : Nat → Prop} {A : Option Addr} {l : List Vl} (h : OVs d w P A l) (hd : d ≤ d') : OVs d' w P A l := by
  obtain ⟨e, rfl⟩ := Nat.exists_eq_add_of_le hd
  clear hd
  induction e with
  | zero => exact h
  | succ e ih => exact OVs.up _ ih
theorem OVs.reads : ∀ (d : Nat) {w : World} {P : Nat → Prop} {A : Option Addr} {l : List Vl}, OVs (d + 1) w P A l → RVs d w w.heap.size A l
  | d, w, P, A, l, ⟨h1, h2⟩ => ⟨h1, fun k hk => by
    obtain ⟨g, cs, Q, e, hg, hh, hq, hc⟩ := h2 (by omega)
    obtain ⟨A', cap, e0, e1, e8, e9⟩ := hc k hk
    refine ⟨g, 0, e, heap_lt hh, ?_⟩
    cases d with
    | zero => exact e9.elim
    | succ d =>
      obtain ⟨q1, q2⟩ := OVs.reads d e9
      exact ⟨A', cap, by rw [cell_of_blk hh, Nat.zero_add]; exact e0, by rw [cell_of_blk hh, Nat.zero_add]; exact e1, by rw [cell_of_blk hh, Nat.zero_add]; exact e8, q1, q2⟩⟩
/-- The row of a list while it is made: k parts are there, each with blocks of its own, from lo on. -/
def RowV (d : Nat) (w : World) (lo : Nat) (og : Option Nat) (Q : Nat → Nat → Prop) (l : List Vl) (xs : List Value) (k : Nat) : Prop := ∀ j (h : j < l.length), j < k → (∀ b, Q j b → lo ≤ b ∧ b < w.heap.size ∧ some b ≠ og ∧ ∀ i, i < k → i ≠ j → ¬ Q i b) ∧ ∃ A' cap, xs[j * 3]? = some (.int .i64 l[j].ctor) ∧ xs[j * 3 + 1]? = some (.int .i64 l[j].n) ∧ xs[j * 3 + 2]? = some (.slice A' l[j].kids.length cap) ∧ OVs d w (Q j) A' l[j].kids
theorem RowV.zero (d : Nat) (w : World) (lo : Nat) (og : Option Nat) (Q : Nat → Nat → Prop) (l : List Vl) (xs : List Value) : RowV d w lo og Q l xs 0 := fun j _ h => absurd h (by omega)
theorem RowV.fr {d : Nat} {w w' : World} {lo : Nat} {og : Option Nat} {Q : Nat → Nat → Prop} {l : List Vl} {xs : List Value} {k : Nat} {P' : Nat → Prop} (h : RowV d w lo og Q l xs k) (hf : Fr P' w w') (hp : ∀ b, lo ≤ b → some b ≠ og → b < w.heap.size → ¬ P' b) : RowV d w' lo og Q l xs k := fun j hj hjk => by
  obtain ⟨h1, A', cap, e0, e1, e8, e9⟩ := h j hj hjk
  refine ⟨fun b hb => ?_, A', cap, e0, e1, e8, e9.fr d hf (fun b hb => ?_)⟩
  · obtain ⟨a1, a2, a3, a4⟩ := h1 b hb
    exact ⟨a1, Nat.lt_of_lt_of_le a2 hf.size, a3, a4⟩
  · obtain ⟨a1, a2, a3, a4⟩ := h1 b hb
    exact hp b a1 a3 a2
/-- One part more: its blocks are new. -/
theorem RowV.more {d : Nat} {w w' : World} {lo : Nat} {og : Option Nat} {Q : Nat → Nat → Prop} {l : List Vl} {xs xs' : List Value} {k cap : Nat} {A' : Option Addr} (h : RowV d w lo og Q l xs k) (hb : Below w.heap.size w w') (hk : k < l.length) (hlo : lo ≤ w.heap.size) (hog : ∀ g, og = some g → g < w.heap.size)
    (ho : OVs d w' (Nw w w') A' l[k].kids) (hx : ∀ j c, j < k → c < 3 → xs'[j * 3 + c]? = xs[j * 3 + c]?) (e0 : xs'[k * 3]? = some (.int .i64 l[k].ctor)) (e1 : xs'[k * 3 + 1]? = some (.int .i64 l[k].n)) (e8 : xs'[k * 3 + 2]? = some (.slice A' l[k].kids.length cap)) :
    RowV d w' lo og (fun i => if i = k then Nw w w' else Q i) l xs' (k + 1) := by
  have h' := h.fr (P' := fun _ => False) (Fr.below hb) (fun _ _ _ _ h => h)
  intro j hj hjk
  by_cases e : j = k
  · subst e
    refine ⟨fun b hq => ?_, A', cap, e0, e1, e8, ?_⟩
    · replace hq : (if j = j then Nw w w' else Q j) b := hq
      rw [if_pos rfl] at hq
      refine ⟨Nat.le_trans hlo hq.1, hq.2, fun e => ?_, fun i hi hij hqi => ?_⟩
      · have := hog b e.symm; have := hq.1; omega
      · replace hqi : (if i = j then Nw w w' else Q i) b := hqi
        rw [if_neg hij] at hqi
        have := ((h i (by omega) (by omega)).1 b hqi).2.1
        have := hq.1
        omega
    · show OVs d w' (if j = j then Nw w w' else Q j) A' l[j].kids
      rw [if_pos rfl]; exact ho
  · obtain ⟨h1, A2, c2, f0, f1, f8, f9⟩ := h' j hj (by omega)
    refine ⟨fun b hq => ?_, A2, c2, (hx j 0 (by omega) (by omega)).trans f0, (hx j 1 (by omega) (by omega)).trans f1, (hx j 2 (by omega) (by omega)).trans f8, ?_⟩
    · replace hq : (if j = k then Nw w w' else Q j) b := hq
      rw [if_neg e] at hq
      obtain ⟨a1, a2, a3, a4⟩ := h1 b hq
      refine ⟨a1, a2, a3, fun i hi hij hqi => ?_⟩
      replace hqi : (if i = k then Nw w w' else Q i) b := hqi
      by_cases e2 : i = k
      · rw [if_pos e2] at hqi
        have := ((h j hj (by omega)).1 b hq).2.1
        have := hqi.1
        omega
      · rw [if_neg e2] at hqi
        exact a4 i (by omega) hij hqi
    · show OVs d w' (if j = k then Nw w w' else Q j) A2 l[j].kids
      rw [if_neg e]; exact f9
theorem OVs.of_row {d : Nat} {w : World} {lo : Nat} {v : Value} {l : List Vl} {xs : List Value} {Q : Nat → Nat → Prop} (h : w.ownsRow lo 37 3 v l.length xs) (hx : RowV d w lo v.ownBlock Q l xs l.length) (hn : l.length ≤ 1048576) : ∃ A cap, v = .slice A l.length cap ∧ OVs (d + 1) w (fun b => lo ≤ b ∧ b < w.heap.size) A l := by
  rcases h.2 with ⟨h', h0⟩ | ⟨g, cap, cur, h', hb, hg, hnc, hcm, hcs, htake⟩
  · refine ⟨none, 0, by rw [h0]; exact h', by unfold maxLen; omega, fun hl => absurd hl (by omega)⟩
  · subst h'
    refine ⟨_, cap, rfl, by unfold maxLen; omega, fun _ => ⟨g, cur, Q, rfl, ⟨hb, heap_lt hg⟩, hg, fun k b hk hq => ?_, fun k hk => ?_⟩⟩
    · obtain ⟨a1, a2, a3, a4⟩ := (hx k hk hk).1 b hq
      exact ⟨⟨a1, a2⟩, fun e => a3 (by rw [e]; rfl), a4⟩
    · obtain ⟨_, A', c', e0, e1, e8, e9⟩ := hx k hk hk
      have hat : ∀ i, i < l.length * 3 → cur[i]? = xs[i]? := fun i hi => by
        rw [← htake, List.getElem?_take_of_lt hi, Array.getElem?_toList]
      exact ⟨A', c', (hat _ (by omega)).trans e0, (hat _ (by omega)).trans e1, (hat _ (by omega)).trans e8, e9⟩
end Go.Proofs.Ytnfjjabeobcenaa
/-
  An append to a row of the call's own, as one operation of a region. No statement is proved here.
-/
namespace Go.Proofs.Ytnfjjabeobcenaa
open Go.RowKit
set_option maxRecDepth 100000
set_option linter.unusedVariables false
theorem wp_append_own {P : Program} {o : Oper} {a : Act} {w : World} {K : Act → World → Prop} {Q : Exit → Act → World → Prop} (s x : Operand) (t : TypeId)
    (ho : o.op = .call { callee := .builtin .append, args := #[s, x], argTypes := #[t, t] })
    (base : Nat) (e : TypeId) (i : TypeInfo) (z : Value) (size bytes : Nat) (ht : P.underlying t = some (.slice e)) (hi : P.info? e = some i) (hz : i.zero = some z)
    (hsize : i.size = size) (hby : i.bytes = bytes) (hzs : z.cells.size = size) (hsz : 0 < size)
    (v : Value) (n : Nat) (xs : List Value) (hs : a.eval s = v) (hown : w.ownsRow base e size v n xs)
    (ad : Addr) (m c : Nat) (news : List Value) (hx : a.eval x = .slice (some ad) m c) (hl : news.length = m * size) (hnews : ∀ j u, news[j]? = some u → w.cell? (ad.add j) = some u) (h1 : ∀ u ∈ news, u.oneCell' = true)
    (h63 : n + m ≤ maxLen) (hbytes : (n + m) * bytes ≤ 140737488355328) (hbase : base ≤ w.heap.size)
    (h : ∀ v' w', w'.ownsRow base e size v' (n + m) (xs ++ news) → w.grownBy w' v.ownBlock → (v'.ownBlock = v.ownBlock ∨ v'.ownBlock = some w.heap.size) → K (a.put o.dst v') w') : o.wp P a w K Q := by
  obtain ⟨v', w', hr, h2, h3, _, h5⟩ := run_append_own_at (P := P) w base t o.type e i z size bytes ht hi hz hsize hby hzs hsz v n xs hown ad m c news hl hnews h1 h63 hbytes hbase
  unfold Oper.wp execOp
  simp only [ho, resolve, invoke, builtin, Sem.run_bind, Sem.run_pure, Result.andThen_ok, List.map_toArray, List.map_cons, List.map_nil, hs, hx, hr]
  exact h v' w' h2 h3 h5
theorem own_at {w w' : World} {base : Nat} {e : TypeId} {size n : Nat} {v : Value} {xs : List Value} (h : w.ownsRow base e size v n xs) (hk : ∀ b, v.ownBlock = some b → w'.heap[b]? = w.heap[b]?) : w'.ownsRow base e size v n xs := by
  refine ⟨h.1, ?_⟩
  rcases h.2 with h0 | ⟨g, cap, cur, a1, a2, a3, a4⟩
  · exact .inl h0
  · exact .inr ⟨g, cap, cur, a1, a2, (hk g (by rw [a1]; rfl)).trans a3, a4⟩
theorem own_form {w : World} {base : Nat} {e : TypeId} {size n : Nat} {v : Value} {xs : List Value} (h : w.ownsRow base e size v n xs) : ∃ A c, v = .slice A n c ∧ ∀ b, v.ownBlock = some b → base ≤ b ∧ b < w.heap.size := by
  rcases h.2 with ⟨rfl, rfl⟩ | ⟨g, cap, cur, rfl, a2, a3, a4⟩
  · exact ⟨none, 0, rfl, fun b e => by cases e⟩
  · exact ⟨_, _, rfl, fun b e => by injection e with e; subst e; exact ⟨a2, heap_lt a3⟩⟩
end Go.Proofs.Ytnfjjabeobcenaa
