/-
  PartialValid of the program and of the document. No statement is proved here.
-/
import Derived.Test.YtnfjjabeobcenaaW10
import Derived.Test.YtnfjjabeobcenaaW08
import Derived.Deep.RegionHeld3
namespace Go.Proofs.Ytnfjjabeobcenaa
open Go.RowKit Go.Sort Go.Deep
set_option maxRecDepth 100000
set_option linter.unusedVariables false
noncomputable def paT (l : List Da) (t : Ty) (v : Vl) : Bool := dec (TyOK l t) && isH l t v
theorem paT_yes {l : List Da} {t : Ty} {v : Vl} (h : TyOK l t) : paT l t v = isH l t v := by unfold paT; rw [dec_t h]; rfl
theorem paT_no {l : List Da} {t : Ty} {v : Vl} (h : ¬ TyOK l t) : paT l t v = false := by unfold paT; rw [dec_f h]; rfl
theorem ndHS_any (l : List Da) : ∀ d, d < 100 → NdHS l d
  | 0, _ => ndHS_zero l
  | d + 1, h => ndHS_step l d (by omega) (ndHS_any l d (by omega))
theorem pa_spec (A D : Option Addr) (l : List Da) (cap ep e : Nat) (t : Ty) (v : Vl) (w : World) (hr : RDas w w.heap.size A l) (hv : RVs e w w.heap.size D v.kids) (hn : wV v ≤ 16000000) :
    Calls Try.prog 16 #[.slice A l.length cap, .agg #[.int .i64 t.data, .int .i64 t.index], .agg #[.int .i64 v.ctor, .int .i64 v.n, .slice D v.kids.length ep]] w fun e w' => e = .returned (.bool (paT l t v)) ∧ Below w.heap.size w w' := by
  have Hr := Lib.hid hr
  have HV := Lib.hid hv
  clear hr hv
  generalize hw0 : (w.alloc (.cells #[.int .i64 t.data, .int .i64 t.index] 33)).alloc (.cells #[.int .i64 v.ctor, .int .i64 v.n, .slice D v.kids.length ep] 37) = w0
  have hb0 := below_box2 hw0
  have HXT : Hid (Bx w0 w.heap.size t) := by rw [← hw0]; exact ⟨by simp [go_sem], by simp [go_sem]⟩
  have HXV : Hid (VBx w0 (w.heap.size + 1) v.ctor v.n (.slice D v.kids.length ep)) := by rw [← hw0]; exact ⟨by simp [go_sem], by simp [go_sem], by simp [go_sem]⟩
  have HW := Lib.hid hw0
  clear hw0
  by_cases ht : TyOK l t
  · have HT := Lib.hid ht
    have HF := Lib.hid (paT_yes (v := v) ht)
    clear ht
    go_enter Try.func16, Try.ntmps16
    go_wp2_with (first | (go_at_call 31; rw [HW.out]; refine (typeV_yes (t := t) (Hr.out.at_ hb0) HT.out).mono ?_; rintro e1 w1 ⟨rfl, hb1⟩; obtain ⟨x0, x1⟩ := HXT.out.at_ hb1; obtain ⟨y0, y1, y2⟩ := HXV.out.at_ hb1; have hb1w := below_aft hb0 hb1 hb0.size) | (go_at_call 39; refine (isHd_any A D l cap ep e t v _ (Hr.out.at_ hb1w) HT.out (HV.out.at_ hb1w) hn).mono ?_; rintro e2 w2 ⟨rfl, hb2⟩))
    all_goals go_ret
    all_goals exact ⟨ret_bool HF.out.symm, below_aft hb1w hb2 hb1w.size⟩
  · have HT := Lib.hid ht
    have HF := Lib.hid (paT_no (v := v) ht)
    clear ht
    go_enter Try.func16, Try.ntmps16
    go_wp2_with (go_at_call 31; rw [HW.out]; refine (typeV_no (t := t) (Hr.out.at_ hb0) HT.out).mono ?_; rintro e1 w1 ⟨rfl, hb1⟩; have hb1w := below_aft hb0 hb1 hb0.size)
    go_ret
    exact ⟨ret_bool HF.out.symm, hb1w⟩
theorem pw_impl (A D : Option Addr) (l : List Da) (cap ep e : Nat) (t : Ty) (v : Vl) (w : World) (hr : RDas w w.heap.size A l) (hv : RVs e w w.heap.size D v.kids) (hn : wV v ≤ 16000000) :
    Calls Try.prog 35 #[.slice A l.length cap, .agg #[.int .i64 t.data, .int .i64 t.index], .agg #[.int .i64 v.ctor, .int .i64 v.n, .slice D v.kids.length ep], .func (.func 40) #[] #[]] w fun e w' => e = .returned (.bool (paT l t v)) ∧ Below w.heap.size w w' := by
  have Hr := Lib.hid hr
  have HV := Lib.hid hv
  have IN : Hid (NdHC l 10 10) := ndHS_any l 10 (by omega)
  clear hr hv
  generalize hw0 : (w.alloc (.cells #[.int .i64 t.data, .int .i64 t.index] 33)).alloc (.cells #[.int .i64 v.ctor, .int .i64 v.n, .slice D v.kids.length ep] 37) = w0
  have hb0 := below_box2 hw0
  have HXT : Hid (Bx w0 w.heap.size t) := by rw [← hw0]; exact ⟨by simp [go_sem], by simp [go_sem]⟩
  have HXV : Hid (VBx w0 (w.heap.size + 1) v.ctor v.n (.slice D v.kids.length ep)) := by rw [← hw0]; exact ⟨by simp [go_sem], by simp [go_sem], by simp [go_sem]⟩
  have HW := Lib.hid hw0
  clear hw0
  by_cases ht : TyOK l t
  · have HT := Lib.hid ht
    have HF := Lib.hid (paT_yes (v := v) ht)
    clear ht
    by_cases hf : fitH l 10 t v = true
    · have HFT := Lib.hid hf
      have HND := Lib.hid (ndH_yes hf)
      have hr1 : (0 : Int) ≤ 1 + (wV v : Int) := by omega
      have hr2 : 1 + (wV v : Int) ≤ 16000001 := by omega
      have HIS : Hid (isH l t v = decide (1 + (wV v : Int) ≤ 60)) := by
        unfold Hid isH; rw [hf]
        show decide _ = decide _
        simp only [decide_eq_decide]; omega
      generalize hrr : 1 + (wV v : Int) = r at hr1 hr2 HND HIS
      clear hf hrr
      go_enter Try.func35, Try.ntmps35
      go_wp2_with (first | (go_at_call 59; rw [HW.out]; refine (typeI_yes (t := t) (Hr.out.at_ hb0) HT.out).mono ?_; rintro e1 w1 ⟨rfl, hb1⟩; obtain ⟨x0, x1⟩ := HXT.out.at_ hb1; obtain ⟨y0, y1, y2⟩ := HXV.out.at_ hb1; have hb1w := below_aft hb0 hb1 hb0.size) | (go_at_call 60; refine (IN.out.known A D cap ep e t v _ _ _ HFT.out HND.out (Hr.out.at_ hb1w) HT.out (HV.out.at_ hb1w) hn).mono ?_; rintro e2 w2 ⟨rfl, hb2⟩))
      all_goals go_ret
      all_goals exact ⟨ret_bool (by rw [HF.out, HIS.out]), below_aft hb1w hb2 hb1w.size⟩
    · have hf' : fitH l 10 t v = false := by simpa using hf
      have HFT := Lib.hid hf'
      have HIS := Lib.hid (isH_fit hf')
      clear hf hf'
      go_enter Try.func35, Try.ntmps35
      go_wp2_with (first | (go_at_call 59; rw [HW.out]; refine (typeI_yes (t := t) (Hr.out.at_ hb0) HT.out).mono ?_; rintro e1 w1 ⟨rfl, hb1⟩; obtain ⟨x0, x1⟩ := HXT.out.at_ hb1; obtain ⟨y0, y1, y2⟩ := HXV.out.at_ hb1; have hb1w := below_aft hb0 hb1 hb0.size) | (go_at_call 60; refine (IN.out.known A D cap ep e t v _ _ _ HFT.out rfl (Hr.out.at_ hb1w) HT.out (HV.out.at_ hb1w) hn).mono ?_; rintro e2 w2 ⟨rfl, hb2⟩))
      all_goals go_ret
      all_goals exact ⟨ret_bool (by rw [HF.out, HIS.out]), below_aft hb1w hb2 hb1w.size⟩
  · have HT := Lib.hid ht
    have HF := Lib.hid (paT_no (v := v) ht)
    clear ht
    go_enter Try.func35, Try.ntmps35
    go_wp2_with (go_at_call 59; rw [HW.out]; refine (typeI_no (t := t) (Hr.out.at_ hb0) HT.out).mono ?_; rintro e1 w1 ⟨rfl, hb1⟩; have hb1w := below_aft hb0 hb1 hb0.size)
    go_ret
    exact ⟨ret_bool HF.out.symm, hb1w⟩
theorem pa_impl (A D : Option Addr) (l : List Da) (cap ep e : Nat) (t : Ty) (v : Vl) (w : World) (hr : RDas w w.heap.size A l) (hv : RVs e w w.heap.size D v.kids) (hn : wV v ≤ 16000000) :
    Calls Try.prog 17 #[.slice A l.length cap, .agg #[.int .i64 t.data, .int .i64 t.index], .agg #[.int .i64 v.ctor, .int .i64 v.n, .slice D v.kids.length ep]] w fun e w' => e = .returned (.bool (paT l t v)) ∧ Below w.heap.size w w' := by
  have Hr := Lib.hid hr
  have HV := Lib.hid hv
  clear hr hv
  generalize hw0 : (w.alloc (.cells #[.int .i64 t.data, .int .i64 t.index] 33)).alloc (.cells #[.int .i64 v.ctor, .int .i64 v.n, .slice D v.kids.length ep] 37) = w0
  have hb0 := below_box2 hw0
  have HW := Lib.hid hw0
  clear hw0
  go_enter Try.func17, Try.ntmps17
  go_wp2_with (go_at_call 35; rw [HW.out]; refine (pw_impl A D l cap ep e t v _ (Hr.out.at_ hb0) (HV.out.at_ hb0) hn).mono ?_; rintro e1 w1 ⟨rfl, hb1⟩)
  go_ret
  exact ⟨rfl, below_aft hb0 hb1 hb0.size⟩
end Go.Proofs.Ytnfjjabeobcenaa
/-
  The law FnExactPartialValid walked. No statement is proved here.
-/
namespace Go.Proofs.Ytnfjjabeobcenaa
open Go.RowKit Go.Deep
set_option maxRecDepth 100000
set_option linter.unusedVariables false
set_option maxHeartbeats 3000000 in
theorem pa_law (A D : Option Addr) (l : List Da) (cap ep e : Nat) (t : Ty) (v : Vl) (w : World) (hr : RDas w w.heap.size A l) (hv : RVs e w w.heap.size D v.kids) :
    Calls Try.prog 4 #[.slice A l.length cap, .agg #[.int .i64 t.data, .int .i64 t.index], .agg #[.int .i64 v.ctor, .int .i64 v.n, .slice D v.kids.length ep]] w fun e w' => e = .returned (.bool true) ∧ Below w.heap.size w w' := by
  have Hr := Lib.hid hr
  have HV := Lib.hid hv
  clear hr hv
  generalize hw0 : (w.alloc (.cells #[.int .i64 t.data, .int .i64 t.index] 24)).alloc (.cells #[.int .i64 v.ctor, .int .i64 v.n, .slice D v.kids.length ep] 27) = w0
  have hb0 := below_box2 hw0
  have HXT : Hid (Bx w0 w.heap.size t) := by rw [← hw0]; exact ⟨by simp [go_sem], by simp [go_sem]⟩
  have HXV : Hid (VBx w0 (w.heap.size + 1) v.ctor v.n (.slice D v.kids.length ep)) := by rw [← hw0]; exact ⟨by simp [go_sem], by simp [go_sem], by simp [go_sem]⟩
  have HW := Lib.hid hw0
  clear hw0
  by_cases h1 : (wDas l : Int) ≤ 1048576
  · have H1 := Lib.hid (left_ok h1)
    by_cases h2 : (wVs v.kids : Int) ≤ 1048576 - (wDas l : Int)
    · have H2 := Lib.hid (left_ok h2)
      have hnv : wVs v.kids ≤ 1048576 := by omega
      have hnw : wV v ≤ 16000000 := by rw [wV_kids]; omega
      have hnd : wDas l ≤ 1048576 := by omega
      go_enter Try.func4, Try.ntmps4
      go_wp2_with (first | (go_at_call 7; rw [HW.out]; refine (szDataS_any _ _ _ _ _ (Hr.out.at_ hb0) (by omega) (by omega)).mono ?_; rw [H1.out]; rintro e1 w1 ⟨rfl, hb1⟩; obtain ⟨y0, y1, y2⟩ := HXV.out.at_ hb1; have hb1w := below_aft hb0 hb1 hb0.size) | (go_at_call 8; refine (szV_any e D v.kids ep v.ctor v.n _ _ (HV.out.at_ hb1w) (by omega) (by omega)).mono ?_; rw [H2.out]; rintro e2 w2 ⟨rfl, hb2⟩; have hb2w := below_aft hb1w hb2 hb1w.size; have hb20 := below_aft hb1 hb2 hb1.size))
      clear y0 y1 y2
      have hS2 : w2.cell? ⟨w.heap.size, 0, none⟩ = some (.int .i64 t.data) ∧ w2.cell? ⟨w.heap.size, 1, none⟩ = some (.int .i64 t.index) ∧ w2.cell? ⟨w.heap.size + 1, 0, none⟩ = some (.int .i64 v.ctor) ∧ w2.cell? ⟨w.heap.size + 1, 1, none⟩ = some (.int .i64 v.n) ∧ w2.cell? ⟨w.heap.size + 1, 2, none⟩ = some (.slice D v.kids.length ep) := by
        obtain ⟨a, b⟩ := HXT.out.at_ hb20
        obtain ⟨c, d, f⟩ := HXV.out.at_ hb20
        exact ⟨a, b, c, d, f⟩
      obtain ⟨x0, x1, y0, y1, y2⟩ := hS2
      go_region_held3 (fun w' => w'.cell? ⟨w.heap.size, 0, none⟩ = some (.int .i64 t.data) ∧ w'.cell? ⟨w.heap.size, 1, none⟩ = some (.int .i64 t.index) ∧ w'.cell? ⟨w.heap.size + 1, 0, none⟩ = some (.int .i64 v.ctor) ∧ w'.cell? ⟨w.heap.size + 1, 1, none⟩ = some (.int .i64 v.n) ∧ w'.cell? ⟨w.heap.size + 1, 2, none⟩ = some (.slice D v.kids.length ep)) (first | exact ⟨x0, x1, y0, y1, y2⟩ | exact S6 | exact S5 | exact S4 | exact S3 | go_keep) (first | (go_at_call 10; refine (toDataS_any _ _ _ _ (by exact Hr.out.at_ hb2w.drew) (by omega)).mono ?_; rintro e3 w3 ⟨g3, rfl, hf3, hb3'⟩; have hb3 : Below w2.heap.size w2 w3 := ⟨hb3'.os, hb3'.tape, hb3'.output, hb3'.size, hb3'.block⟩; have R3 := Lib.hid hf3.reads; have hb3w := below_aft hb2w hb3 hb2w.size; have hb30 := below_aft hb20 hb3 hb20.size; have XT3 := HXT.out.at_ hb30; have XV3 := HXV.out.at_ hb30; have S3 := And.intro XT3.1 (And.intro XT3.2 XV3); clear hf3 hb3' hb3) | (go_at_call 11; refine (toType_any _ _ _).mono ?_; rintro e4 w4 ⟨rfl, hb4⟩; have R4 := Lib.hid (R3.out.at_ hb4); have hb4w := below_aft hb3w hb4 hb3w.size; have hb40 := below_aft hb30 hb4 hb30.size; have XT4 := HXT.out.at_ hb40; have XV4 := HXV.out.at_ hb40; have S4 := And.intro XT4.1 (And.intro XT4.2 XV4); clear hb4) | (go_at_call 12; refine (toV_any e D v.kids ep v.ctor v.n _ (HV.out.at_ hb4w) hnv).mono ?_; rintro e5 w5 ⟨g5, rfl, hf5, hb5⟩; have R5 := Lib.hid (R4.out.at_ hb5); have V5 := Lib.hid (FVs.reads _ hf5); have hb5w := below_aft hb4w hb5 hb4w.size; have hb50 := below_aft hb40 hb5 hb40.size; have XT5 := HXT.out.at_ hb50; have XV5 := HXV.out.at_ hb50; have S5 := And.intro XT5.1 (And.intro XT5.2 XV5); clear hf5 hb5) | (go_at_call 16; refine (pa_spec _ _ l _ _ e t v _ R5.out V5.out hnw).mono ?_; rintro e6 w6 ⟨rfl, hb6⟩; have hb6w := below_aft hb5w hb6 hb5w.size; have hb60 := below_aft hb50 hb6 hb50.size; have XT6 := HXT.out.at_ hb60; have XV6 := HXV.out.at_ hb60; have S6 := And.intro XT6.1 (And.intro XT6.2 XV6); clear hb6))
      clear x0 x1 y0 y1 y2 S3 S4 S5 S6 XT3 XT4 XT5 XV3 XV4 XV5 R3 R4 R5 V5 hb3w hb4w hb5w hb30 hb40 hb50
      obtain ⟨a0, a1⟩ := XT6
      obtain ⟨a2, a3, a4⟩ := XV6
      go_wp2_with (first | (go_at_call 10; refine (toDataS_any _ _ _ _ (by exact Hr.out.at_ hb6w) (by omega)).mono ?_; rintro e7 w7 ⟨g7, rfl, hf7, hb7⟩; have R7 := Lib.hid hf7.reads; have hb7w := below_aft hb6w hb7 hb6w.size; have hb70 := below_aft hb60 hb7 hb60.size; obtain ⟨c2, c3, c4⟩ := HXV.out.at_ hb70; clear hf7 hb7) | (go_at_call 12; refine (toV_any e D v.kids ep v.ctor v.n _ (HV.out.at_ hb7w) hnv).mono ?_; rintro e8 w8 ⟨g8, rfl, hf8, hb8⟩; have R8 := Lib.hid (R7.out.at_ hb8); have V8 := Lib.hid (FVs.reads _ hf8); have hb8w := below_aft hb7w hb8 hb7w.size; have hb80 := below_aft hb70 hb8 hb70.size; clear hf8 hb8))
      clear a0 a1 a2 a3 a4 c2 c3 c4
      obtain ⟨w9, hw9⟩ : ∃ w9, w9 = w8.alloc (.cells #[.int .i64 v.ctor, .int .i64 v.n, .slice (some ⟨g8, 0, none⟩) v.kids.length v.kids.length] 37) := ⟨_, rfl⟩
      rw [← hw9]
      have hb89 : Below w8.heap.size w8 w9 := by rw [hw9]; exact (Below.refl _ _).alloc (Nat.le_refl _) _
      have HXI : Hid (VBx w9 w8.heap.size v.ctor v.n (.slice (some ⟨g8, 0, none⟩) v.kids.length v.kids.length)) := by rw [hw9]; exact ⟨by simp [go_sem], by simp [go_sem], by simp [go_sem]⟩
      have R9 := Lib.hid (R8.out.at_ hb89)
      have V9 := Lib.hid (V8.out.at_ hb89)
      have hb9w := below_aft hb8w hb89 hb8w.size
      have hb90 := below_aft hb80 hb89 hb80.size
      clear hw9 hb89 R8 V8
      obtain ⟨x0, x1⟩ := HXT.out.at_ hb90
      obtain ⟨y0, y1, y2⟩ := HXI.out
      go_region_held3 (fun w' => w'.cell? ⟨w.heap.size, 0, none⟩ = some (.int .i64 t.data) ∧ w'.cell? ⟨w.heap.size, 1, none⟩ = some (.int .i64 t.index) ∧ w'.cell? ⟨w8.heap.size, 0, none⟩ = some (.int .i64 v.ctor) ∧ w'.cell? ⟨w8.heap.size, 1, none⟩ = some (.int .i64 v.n) ∧ w'.cell? ⟨w8.heap.size, 2, none⟩ = some (.slice (some ⟨g8, 0, none⟩) v.kids.length v.kids.length)) (first | exact ⟨x0, x1, y0, y1, y2⟩ | exact S11 | exact S10 | go_keep) (first | (go_at_call 11; refine (toType_any _ _ _).mono ?_; rintro e10 w10 ⟨rfl, hb10'⟩; have hb10 : Below w9.heap.size w9 w10 := ⟨hb10'.os, hb10'.tape, hb10'.output, hb10'.size, hb10'.block⟩; have R10 := Lib.hid (R9.out.at_ hb10); have V10 := Lib.hid (V9.out.at_ hb10); have hb10w := below_aft hb9w hb10 hb9w.size; have hb100 := below_aft hb90 hb10 hb90.size; have XT10 := HXT.out.at_ hb100; have XI10 := HXI.out.at_ hb10; have S10 := And.intro XT10.1 (And.intro XT10.2 XI10); clear hb10') | (go_at_call 17; refine (pa_impl _ _ l _ _ e t v _ R10.out V10.out hnw).mono ?_; rintro e11 w11 ⟨rfl, hb11⟩; have R11 := Lib.hid (R10.out.at_ hb11); have V11 := Lib.hid (V10.out.at_ hb11); have hb11w := below_aft hb10w hb11 hb10w.size; have hb110 := below_aft hb100 hb11 hb100.size; have hb119 := below_aft hb10 hb11 hb10.size; have XT11 := HXT.out.at_ hb110; have XI11 := HXI.out.at_ hb119; have S11 := And.intro XT11.1 (And.intro XT11.2 XI11); clear hb11))
      clear x0 x1 y0 y1 y2 S10 S11 XT10 XI10 XT11 XI11 R10 V10 hb10w hb100 hb10 R9 V9
      go_wp2_with (first | (go_at_call 10; refine (toDataS_any _ _ _ _ (by exact Hr.out.at_ hb11w) (by omega)).mono ?_; rintro e12 w12 ⟨g12, rfl, hf12, hb12⟩; have R12 := Lib.hid (R11.out.at_ hb12); have V12 := Lib.hid (V11.out.at_ hb12); have Q12 := Lib.hid hf12.reads; have hb12w := below_aft hb11w hb12 hb11w.size; have hb120 := below_aft hb110 hb12 hb110.size; have hb129 := below_aft hb119 hb12 hb119.size; clear hf12 hb12) | (go_at_call 14; refine (eqDataS_same _ _ _ _ _ _ R12.out Q12.out).mono ?_; rintro e13 w13 ⟨rfl, hb13⟩; have V13 := Lib.hid (V12.out.at_ hb13); have hb13w := below_aft hb12w hb13 hb12w.size; have hb130 := below_aft hb120 hb13 hb120.size; have hb139 := below_aft hb129 hb13 hb129.size; clear hb13))
      obtain ⟨x2, x3, x4⟩ := HXV.out.at_ hb130
      obtain ⟨y0, y1, y2⟩ := HXI.out.at_ hb139
      go_region_held3 (fun w' => w'.cell? ⟨w.heap.size + 1, 0, none⟩ = some (.int .i64 v.ctor) ∧ w'.cell? ⟨w.heap.size + 1, 1, none⟩ = some (.int .i64 v.n) ∧ w'.cell? ⟨w.heap.size + 1, 2, none⟩ = some (.slice D v.kids.length ep) ∧ w'.cell? ⟨w8.heap.size, 0, none⟩ = some (.int .i64 v.ctor) ∧ w'.cell? ⟨w8.heap.size, 1, none⟩ = some (.int .i64 v.n) ∧ w'.cell? ⟨w8.heap.size, 2, none⟩ = some (.slice (some ⟨g8, 0, none⟩) v.kids.length v.kids.length)) (first | exact ⟨x2, x3, x4, y0, y1, y2⟩ | exact S15 | exact S14 | go_keep) (first | (go_at_call 12; refine (toV_any e D v.kids ep v.ctor v.n _ (by exact HV.out.at_ hb13w.drew) hnv).mono ?_; rintro e14 w14 ⟨g14, rfl, hf14, hb14'⟩; have hb14 : Below w13.heap.size w13 w14 := ⟨hb14'.os, hb14'.tape, hb14'.output, hb14'.size, hb14'.block⟩; have V14 := Lib.hid (V13.out.at_ hb14); have Q14 := Lib.hid (FVs.reads _ hf14); have hb14w := below_aft hb13w hb14 hb13w.size; have hb140 := below_aft hb130 hb14 hb130.size; have hb149 := below_aft hb139 hb14 hb139.size; have XV14 := HXV.out.at_ hb140; have XI14 := HXI.out.at_ hb149; have S14 := And.intro XV14.1 (And.intro XV14.2.1 (And.intro XV14.2.2 XI14)); clear hf14 hb14') | (go_at_call 15; refine (eqV_same e _ _ v.kids _ _ v.ctor v.n _ V14.out Q14.out).mono ?_; rintro e15 w15 ⟨rfl, hb15⟩; have hb15w := below_aft hb14w hb15 hb14w.size; have hb150 := below_aft hb140 hb15 hb140.size; have hb159 := below_aft hb149 hb15 hb149.size; have XV15 := HXV.out.at_ hb150; have XI15 := HXI.out.at_ hb159; have S15 := And.intro XV15.1 (And.intro XV15.2.1 (And.intro XV15.2.2 XI15)); clear hb15))
      clear x2 x3 x4 y0 y1 y2 S14 S15 XV14 XI14 XV15 XI15
      go_wp2_with fail
      go_ret
      exact ⟨rfl, hb15w⟩
    · have H2 := Lib.hid (left_no h2)
      go_enter Try.func4, Try.ntmps4
      go_wp2_with (first | (go_at_call 7; rw [HW.out]; refine (szDataS_any _ _ _ _ _ (Hr.out.at_ hb0) (by omega) (by omega)).mono ?_; rw [H1.out]; rintro e1 w1 ⟨rfl, hb1⟩; obtain ⟨y0, y1, y2⟩ := HXV.out.at_ hb1; have hb1w := below_aft hb0 hb1 hb0.size) | (go_at_call 8; refine (szV_any e D v.kids ep v.ctor v.n _ _ (HV.out.at_ hb1w) (by omega) (by omega)).mono ?_; rw [H2.out]; rintro e2 w2 ⟨rfl, hb2⟩; have hb2w := below_aft hb1w hb2 hb1w.size))
      go_ret
      exact ⟨rfl, hb2w⟩
  · have H1 := Lib.hid (left_no h1)
    go_enter Try.func4, Try.ntmps4
    go_wp2_with (go_at_call 7; rw [HW.out]; refine (szDataS_any _ _ _ _ _ (Hr.out.at_ hb0) (by omega) (by omega)).mono ?_; rw [H1.out]; rintro e1 w1 ⟨rfl, hb1⟩; have hb1w := below_aft hb0 hb1 hb0.size)
    go_ret
    exact ⟨rfl, hb1w⟩
end Go.Proofs.Ytnfjjabeobcenaa
