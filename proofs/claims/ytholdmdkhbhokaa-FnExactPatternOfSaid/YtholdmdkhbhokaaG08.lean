/-
  ValueValid of the program and of the document. No statement is proved here.
-/
import Derived.Test.YtholdmdkhbhokaaSNodes
import Derived.Test.YtholdmdkhbhokaaG03
namespace Go.Proofs.Ytholdmdkhbhokaa
open Go.RowKit Go.Sort Go.Deep
set_option maxRecDepth 100000
set_option linter.unusedVariables false

noncomputable def vvT (l : List Da) (t : Ty) (v : Vl) : Bool := dec (TyOK l t) && isV l t v
theorem vvT_yes {l : List Da} {t : Ty} {v : Vl} (h : TyOK l t) : vvT l t v = isV l t v := by unfold vvT; rw [dec_t h]; rfl
theorem vvT_no {l : List Da} {t : Ty} {v : Vl} (h : ¬ TyOK l t) : vvT l t v = false := by unfold vvT; rw [dec_f h]; rfl
theorem ndS_any (l : List Da) : ∀ d, d < 100 → NdS l d
  | 0, _ => ndS_zero l
  | d + 1, h => ndS_step l d (by omega) (ndS_any l d (by omega))

theorem vv_spec (A D : Option Addr) (l : List Da) (cap ep e : Nat) (t : Ty) (v : Vl) (w : World) (hr : RDas w w.heap.size A l) (hv : RVs e w w.heap.size D v.kids) (hn : wV v ≤ 1048576) :
    Calls Try.prog 60 #[.slice A l.length cap, .agg #[.int .i64 t.data, .int .i64 t.index], .agg #[.int .i64 v.ctor, .int .i64 v.n, .slice D v.kids.length ep]] w fun e w' => e = .returned (.bool (vvT l t v)) ∧ Below w.heap.size w w' := by
  have Hr := Lib.hid hr
  have HV := Lib.hid hv
  clear hr hv
  generalize hw0 : (w.alloc (.cells #[.int .i64 t.data, .int .i64 t.index] 33)).alloc (.cells #[.int .i64 v.ctor, .int .i64 v.n, .slice D v.kids.length ep] 56) = w0
  have hb0 := below_box2 hw0
  have HXT : Hid (Bx w0 w.heap.size t) := by rw [← hw0]; exact ⟨by simp [go_sem], by simp [go_sem]⟩
  have HXV : Hid (VBx w0 (w.heap.size + 1) v.ctor v.n (.slice D v.kids.length ep)) := by rw [← hw0]; exact ⟨by simp [go_sem], by simp [go_sem], by simp [go_sem]⟩
  have HW := Lib.hid hw0
  clear hw0
  by_cases ht : TyOK l t
  · have HT := Lib.hid ht
    have HF := Lib.hid (vvT_yes (v := v) ht)
    clear ht
    go_enter Try.func60, Try.ntmps60
    go_wp2_with (first | (go_at_call 47; rw [HW.out]; refine (typeV_yes (t := t) (Hr.out.at_ hb0) HT.out).mono ?_; rintro e1 w1 ⟨rfl, hb1⟩; obtain ⟨x0, x1⟩ := HXT.out.at_ hb1; obtain ⟨y0, y1, y2⟩ := HXV.out.at_ hb1; have hb1w := below_aft hb0 hb1 hb0.size) | (go_at_call 72; refine (isV_any A D l cap ep e t v _ (Hr.out.at_ hb1w) HT.out (HV.out.at_ hb1w) hn).mono ?_; rintro e2 w2 ⟨rfl, hb2⟩))
    all_goals go_ret
    all_goals exact ⟨ret_bool HF.out.symm, below_aft hb1w hb2 hb1w.size⟩
  · have HT := Lib.hid ht
    have HF := Lib.hid (vvT_no (v := v) ht)
    clear ht
    go_enter Try.func60, Try.ntmps60
    go_wp2_with (go_at_call 47; rw [HW.out]; refine (typeV_no (t := t) (Hr.out.at_ hb0) HT.out).mono ?_; rintro e1 w1 ⟨rfl, hb1⟩; have hb1w := below_aft hb0 hb1 hb0.size)
    go_ret
    exact ⟨ret_bool HF.out.symm, hb1w⟩

theorem vv_impl (A D : Option Addr) (l : List Da) (cap ep e : Nat) (t : Ty) (v : Vl) (w : World) (hr : RDas w w.heap.size A l) (hv : RVs e w w.heap.size D v.kids) (hn : wV v ≤ 1048576) :
    Calls Try.prog 63 #[.slice A l.length cap, .agg #[.int .i64 t.data, .int .i64 t.index], .agg #[.int .i64 v.ctor, .int .i64 v.n, .slice D v.kids.length ep]] w fun e w' => e = .returned (.bool (vvT l t v)) ∧ Below w.heap.size w w' := by
  have Hr := Lib.hid hr
  have HV := Lib.hid hv
  have IN : Hid (NdC l 10 10) := ndS_any l 10 (by omega)
  clear hr hv
  generalize hw0 : (w.alloc (.cells #[.int .i64 t.data, .int .i64 t.index] 33)).alloc (.cells #[.int .i64 v.ctor, .int .i64 v.n, .slice D v.kids.length ep] 56) = w0
  have hb0 := below_box2 hw0
  have HXT : Hid (Bx w0 w.heap.size t) := by rw [← hw0]; exact ⟨by simp [go_sem], by simp [go_sem]⟩
  have HXV : Hid (VBx w0 (w.heap.size + 1) v.ctor v.n (.slice D v.kids.length ep)) := by rw [← hw0]; exact ⟨by simp [go_sem], by simp [go_sem], by simp [go_sem]⟩
  have HW := Lib.hid hw0
  clear hw0
  by_cases ht : TyOK l t
  · have HT := Lib.hid ht
    have HF := Lib.hid (vvT_yes (v := v) ht)
    clear ht
    by_cases hf : fitV l 10 t v = true
    · have HFT := Lib.hid hf
      have HND := Lib.hid (ndR_yes hf)
      have hr1 : (0 : Int) ≤ 1 + (wV v : Int) := by omega
      have hr2 : 1 + (wV v : Int) ≤ 1048577 := by omega
      have HIS : Hid (isV l t v = decide (1 + (wV v : Int) ≤ 60)) := by
        unfold Hid isV; rw [hf]
        show decide _ = decide _
        simp only [decide_eq_decide]; omega
      generalize hrr : 1 + (wV v : Int) = r at hr1 hr2 HND HIS
      clear hf hrr
      go_enter Try.func63, Try.ntmps63
      go_wp2_with (first | (go_at_call 73; rw [HW.out]; refine (typeI_yes (t := t) (Hr.out.at_ hb0) HT.out).mono ?_; rintro e1 w1 ⟨rfl, hb1⟩; obtain ⟨x0, x1⟩ := HXT.out.at_ hb1; obtain ⟨y0, y1, y2⟩ := HXV.out.at_ hb1; have hb1w := below_aft hb0 hb1 hb0.size) | (go_at_call 93; refine (IN.out.known A D cap ep e t v _ _ _ HFT.out HND.out (Hr.out.at_ hb1w) HT.out (HV.out.at_ hb1w) hn).mono ?_; rintro e2 w2 ⟨rfl, hb2⟩))
      all_goals go_ret
      all_goals exact ⟨ret_bool (by rw [HF.out, HIS.out]), below_aft hb1w hb2 hb1w.size⟩
    · have hf' : fitV l 10 t v = false := by simpa using hf
      have HFT := Lib.hid hf'
      have HIS := Lib.hid (isV_fit hf')
      clear hf hf'
      go_enter Try.func63, Try.ntmps63
      go_wp2_with (first | (go_at_call 73; rw [HW.out]; refine (typeI_yes (t := t) (Hr.out.at_ hb0) HT.out).mono ?_; rintro e1 w1 ⟨rfl, hb1⟩; obtain ⟨x0, x1⟩ := HXT.out.at_ hb1; obtain ⟨y0, y1, y2⟩ := HXV.out.at_ hb1; have hb1w := below_aft hb0 hb1 hb0.size) | (go_at_call 93; refine (IN.out.known A D cap ep e t v _ _ _ HFT.out rfl (Hr.out.at_ hb1w) HT.out (HV.out.at_ hb1w) hn).mono ?_; rintro e2 w2 ⟨rfl, hb2⟩))
      all_goals go_ret
      all_goals exact ⟨ret_bool (by rw [HF.out, HIS.out]), below_aft hb1w hb2 hb1w.size⟩
  · have HT := Lib.hid ht
    have HF := Lib.hid (vvT_no (v := v) ht)
    clear ht
    go_enter Try.func63, Try.ntmps63
    go_wp2_with (go_at_call 73; rw [HW.out]; refine (typeI_no (t := t) (Hr.out.at_ hb0) HT.out).mono ?_; rintro e1 w1 ⟨rfl, hb1⟩; have hb1w := below_aft hb0 hb1 hb0.size)
    go_ret
    exact ⟨ret_bool HF.out.symm, hb1w⟩
end Go.Proofs.Ytholdmdkhbhokaa
