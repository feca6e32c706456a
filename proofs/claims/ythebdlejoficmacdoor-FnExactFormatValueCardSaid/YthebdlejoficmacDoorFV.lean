/-
  FormatValue of the program and of the document. No statement is proved here.
-/
import Derived.Test.YthebdlejoficmacDoorVTxI
import Derived.Test.YthebdlejoficmacDoorVV
namespace Go.Proofs.YthebdlejoficmacDoor
open Go.RowKit Go.Sort Go.Deep
set_option maxRecDepth 100000
set_option linter.unusedVariables false

/-- The text of a value, or none. -/
noncomputable def fvT (l : List Da) (t : Ty) (v : Vl) : ByteArray := if vvT l t v then txV l 10 t v else ⟨#[]⟩
theorem fvT_yes {l : List Da} {t : Ty} {v : Vl} (h : vvT l t v = true) : fvT l t v = txV l 10 t v := by unfold fvT; rw [h]; rfl
theorem fvT_no {l : List Da} {t : Ty} {v : Vl} (h : vvT l t v = false) : fvT l t v = ⟨#[]⟩ := by unfold fvT; rw [h]; rfl
theorem vvT_parts {l : List Da} {t : Ty} {v : Vl} (h : vvT l t v = true) : TyOK l t ∧ fitV l 10 t v = true := by
  by_cases ht : TyOK l t
  · rw [vvT_yes ht] at h
    refine ⟨ht, ?_⟩
    by_cases hf : fitV l 10 t v = true
    · exact hf
    · rw [isV_fit (by simpa using hf)] at h; cases h
  · rw [vvT_no ht] at h; cases h

theorem fv_spec (A D : Option Addr) (l : List Da) (cap ep e : Nat) (t : Ty) (v : Vl) (w : World) (hr : RDas w w.heap.size A l) (hv : RVs e w w.heap.size D v.kids) (hn : wV v ≤ 1048576) :
    Calls Tryd.prog 6 #[.slice A l.length cap, .agg #[.int .i64 t.data, .int .i64 t.index], .agg #[.int .i64 v.ctor, .int .i64 v.n, .slice D v.kids.length ep]] w fun e w' => e = .returned (.string (fvT l t v)) ∧ Below w.heap.size w w' := by
  have Hr := Lib.hid hr
  have HV := Lib.hid hv
  have IT : Hid (TxC l 10) := txS_any l 10 (by omega)
  clear hr hv
  generalize hw0 : (w.alloc (.cells #[.int .i64 t.data, .int .i64 t.index] 33)).alloc (.cells #[.int .i64 v.ctor, .int .i64 v.n, .slice D v.kids.length ep] 37) = w0
  have hb0 := below_box2 hw0
  have HXT : Hid (Bx w0 w.heap.size t) := by rw [← hw0]; exact ⟨by simp [go_sem], by simp [go_sem]⟩
  have HXV : Hid (VBx w0 (w.heap.size + 1) v.ctor v.n (.slice D v.kids.length ep)) := by rw [← hw0]; exact ⟨by simp [go_sem], by simp [go_sem], by simp [go_sem]⟩
  have HW := Lib.hid hw0
  clear hw0
  by_cases ht : vvT l t v = true
  · have HP := Lib.hid (vvT_parts ht)
    have HF := Lib.hid (fvT_yes ht)
    have HE := Lib.hid ht
    clear ht
    go_enter Tryd.func6, Tryd.ntmps6
    go_wp2_with (first | (go_at_call 15; rw [HW.out]; refine (vv_spec A D l cap ep e t v _ (Hr.out.at_ hb0) (HV.out.at_ hb0) hn).mono ?_; rw [HE.out]; rintro e1 w1 ⟨rfl, hb1⟩; obtain ⟨x0, x1⟩ := HXT.out.at_ hb1; obtain ⟨y0, y1, y2⟩ := HXV.out.at_ hb1; have hb1w := below_aft hb0 hb1 hb0.size) | (go_at_call 16; refine (IT.out A D cap ep e t v _ (Hr.out.at_ hb1w) HP.out.1 (HV.out.at_ hb1w) HP.out.2).mono ?_; rintro e2 w2 ⟨rfl, hb2⟩))
    all_goals go_ret
    all_goals exact ⟨ret_str HF.out.symm, below_aft hb1w hb2 hb1w.size⟩
  · have ht' : vvT l t v = false := by simpa using ht
    have HF := Lib.hid (fvT_no ht')
    have HE := Lib.hid ht'
    clear ht ht'
    go_enter Tryd.func6, Tryd.ntmps6
    go_wp2_with (go_at_call 15; rw [HW.out]; refine (vv_spec A D l cap ep e t v _ (Hr.out.at_ hb0) (HV.out.at_ hb0) hn).mono ?_; rw [HE.out]; rintro e1 w1 ⟨rfl, hb1⟩; have hb1w := below_aft hb0 hb1 hb0.size)
    go_ret
    exact ⟨ret_str HF.out.symm, hb1w⟩
theorem fv_impl (A D : Option Addr) (l : List Da) (cap ep e : Nat) (t : Ty) (v : Vl) (w : World) (hr : RDas w w.heap.size A l) (hv : RVs e w w.heap.size D v.kids) (hn : wV v ≤ 1048576) :
    Calls Tryd.prog 10 #[.slice A l.length cap, .agg #[.int .i64 t.data, .int .i64 t.index], .agg #[.int .i64 v.ctor, .int .i64 v.n, .slice D v.kids.length ep]] w fun e w' => e = .returned (.string (fvT l t v)) ∧ Below w.heap.size w w' := by
  have Hr := Lib.hid hr
  have HV := Lib.hid hv
  have IT : Hid (TiC l 10) := tiS_any l 10 (by omega)
  clear hr hv
  generalize hw0 : (w.alloc (.cells #[.int .i64 t.data, .int .i64 t.index] 33)).alloc (.cells #[.int .i64 v.ctor, .int .i64 v.n, .slice D v.kids.length ep] 37) = w0
  have hb0 := below_box2 hw0
  have HXT : Hid (Bx w0 w.heap.size t) := by rw [← hw0]; exact ⟨by simp [go_sem], by simp [go_sem]⟩
  have HXV : Hid (VBx w0 (w.heap.size + 1) v.ctor v.n (.slice D v.kids.length ep)) := by rw [← hw0]; exact ⟨by simp [go_sem], by simp [go_sem], by simp [go_sem]⟩
  have HW := Lib.hid hw0
  clear hw0
  by_cases ht : vvT l t v = true
  · have HP := Lib.hid (vvT_parts ht)
    have HF := Lib.hid (fvT_yes ht)
    have HE := Lib.hid ht
    clear ht
    go_enter Tryd.func10, Tryd.ntmps10
    go_wp2_with (first | (go_at_call 19; rw [HW.out]; refine (vv_impl A D l cap ep e t v _ (Hr.out.at_ hb0) (HV.out.at_ hb0) hn).mono ?_; rw [HE.out]; rintro e1 w1 ⟨rfl, hb1⟩; obtain ⟨x0, x1⟩ := HXT.out.at_ hb1; obtain ⟨y0, y1, y2⟩ := HXV.out.at_ hb1; have hb1w := below_aft hb0 hb1 hb0.size) | (go_at_call 20; refine (IT.out A D cap ep e t v _ (Hr.out.at_ hb1w) HP.out.1 (HV.out.at_ hb1w) HP.out.2).mono ?_; rintro e2 w2 ⟨rfl, hb2⟩))
    all_goals go_ret
    all_goals exact ⟨ret_str HF.out.symm, below_aft hb1w hb2 hb1w.size⟩
  · have ht' : vvT l t v = false := by simpa using ht
    have HF := Lib.hid (fvT_no ht')
    have HE := Lib.hid ht'
    clear ht ht'
    go_enter Tryd.func10, Tryd.ntmps10
    go_wp2_with (go_at_call 19; rw [HW.out]; refine (vv_impl A D l cap ep e t v _ (Hr.out.at_ hb0) (HV.out.at_ hb0) hn).mono ?_; rw [HE.out]; rintro e1 w1 ⟨rfl, hb1⟩; have hb1w := below_aft hb0 hb1 hb0.size)
    go_ret
    exact ⟨ret_str HF.out.symm, hb1w⟩
end Go.Proofs.YthebdlejoficmacDoor
