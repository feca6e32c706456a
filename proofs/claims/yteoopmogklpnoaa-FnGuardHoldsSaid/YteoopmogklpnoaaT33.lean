/-
  PatternValid of the document. No statement is proved here.
-/
import Derived.Test.YteoopmogklpnoaaT32
import Derived.Test.YteoopmogklpnoaaT24
import Derived.Test.YteoopmogklpnoaaT05
namespace Go.Proofs.Yteoopmogklpnoaa
open Go.RowKit Go.Sort Go.Deep
set_option maxRecDepth 100000
set_option linter.unusedVariables false
noncomputable def isP (l : List Da) (t : Ty) (p : Pt) : Bool := shP l 10 t p && (decide (1 + wP p ≤ 60) && linP l 10 t p)
theorem isP_sh {l : List Da} {t : Ty} {p : Pt} (h : shP l 10 t p = false) : isP l t p = false := by unfold isP; rw [h]; rfl
theorem isP_big {l : List Da} {t : Ty} {p : Pt} (h : ¬ 1 + wP p ≤ 60) : isP l t p = false := by unfold isP; rw [decide_eq_false h]; simp
theorem isP_go {l : List Da} {t : Ty} {p : Pt} (h : shP l 10 t p = true) (h' : 1 + wP p ≤ 60) : isP l t p = linP l 10 t p := by unfold isP; rw [h, decide_eq_true h']; rfl
set_option maxHeartbeats 1600000 in
theorem isP_any (A D : Option Addr) (l : List Da) (cap ep e : Nat) (t : Ty) (p : Pt) (w : World) (hr : RDas w w.heap.size A l) (ht : TyOK l t) (hv : RPs e w w.heap.size D p.kids) (hn : wP p ≤ 1048576) :
    Calls Try.prog 70 #[.slice A l.length cap, .agg #[.int .i64 t.data, .int .i64 t.index], .agg #[.int .i64 p.op, .int .i64 p.ctor, .int .i64 p.n, .int .i64 p.m, .int .i64 p.var, .slice D p.kids.length ep]] w fun e w' => e = .returned (.bool (isP l t p)) ∧ Below w.heap.size w w' := by
  have HR := Lib.hid hr
  have HT := Lib.hid ht
  have HV := Lib.hid hv
  have IS : Hid (ShC l 10 10) := shS_any l 10 (by omega)
  clear hr ht hv
  generalize hw0 : (w.alloc (.cells #[.int .i64 t.data, .int .i64 t.index] 25)).alloc (.cells #[.int .i64 p.op, .int .i64 p.ctor, .int .i64 p.n, .int .i64 p.m, .int .i64 p.var, .slice D p.kids.length ep] 50) = w0
  have hb0 := below_box2 hw0
  have HXT : Hid (Bx w0 w.heap.size t) := by rw [← hw0]; exact ⟨by simp [go_sem], by simp [go_sem]⟩
  have HXP : Hid (PBx w0 (w.heap.size + 1) p (.slice D p.kids.length ep)) := by rw [← hw0]; exact ⟨by simp [go_sem], by simp [go_sem], by simp [go_sem], by simp [go_sem], by simp [go_sem], by simp [go_sem]⟩
  have HW := Lib.hid hw0
  clear hw0
  obtain ⟨x0, x1⟩ := HXT.out
  obtain ⟨y0, y1, y2, y3, y4, y5⟩ := HXP.out
  by_cases hf : shP l 10 t p = true
  · have HF := Lib.hid hf
    clear hf
    by_cases h60 : 1 + wP p ≤ 60
    · have HI := Lib.hid (isP_go HF.out h60)
      go_enter Try.func70, Try.ntmps70
      go_wp2_with (first | (go_at_call 106; rw [HW.out]; refine (IS.out.known A D cap ep e t p true _ HF.out (HR.out.at_ hb0) HT.out (HV.out.at_ hb0)).mono ?_; rintro e1 w1 ⟨rfl, hb1⟩; obtain ⟨u0, u1⟩ := HXT.out.at_ hb1; obtain ⟨z0, z1, z2, z3, z4, z5⟩ := HXP.out.at_ hb1; have hb1w := below_aft hb0 hb1 hb0.size) | (go_at_call 107; refine (cntPS_any e D ep p 60 _ (HV.out.at_ hb1w) hn (by omega) (by omega)).mono ?_; rintro e2 w2 ⟨r, rfl, hr, hb2⟩; have HC := Lib.hid hr; obtain ⟨z0, z1⟩ := HXT.out.at_ (hb1.trans (hb2.mono hb1.size)); obtain ⟨y0', y1', y2', y3', y4', y5'⟩ := HXP.out.at_ (hb1.trans (hb2.mono hb1.size)); have hb2w := below_aft hb1w hb2 hb1w.size; have hq : decide (r ≤ 60) = true := decide_eq_true (by have := HC.out.1 (by omega); omega); clear hr) | (go_at_call 108; refine (linC_any l 10 A D cap ep e t p _ (HR.out.at_ hb2w) HT.out (HV.out.at_ hb2w) HF.out (by omega)).mono ?_; rintro e3 w3 ⟨rfl, hb3⟩))
      all_goals go_ret
      all_goals exact ⟨ret_bool HI.out.symm, below_aft hb2w hb3 hb2w.size⟩
    · have HI := Lib.hid (isP_big (l := l) (t := t) h60)
      go_enter Try.func70, Try.ntmps70
      go_wp2_with (first | (go_at_call 106; rw [HW.out]; refine (IS.out.known A D cap ep e t p true _ HF.out (HR.out.at_ hb0) HT.out (HV.out.at_ hb0)).mono ?_; rintro e1 w1 ⟨rfl, hb1⟩; obtain ⟨u0, u1⟩ := HXT.out.at_ hb1; obtain ⟨z0, z1, z2, z3, z4, z5⟩ := HXP.out.at_ hb1; have hb1w := below_aft hb0 hb1 hb0.size) | (go_at_call 107; refine (cntPS_any e D ep p 60 _ (HV.out.at_ hb1w) hn (by omega) (by omega)).mono ?_; rintro e2 w2 ⟨r, rfl, hr, hb2⟩; have HC := Lib.hid hr; obtain ⟨z0, z1⟩ := HXT.out.at_ (hb1.trans (hb2.mono hb1.size)); obtain ⟨y0', y1', y2', y3', y4', y5'⟩ := HXP.out.at_ (hb1.trans (hb2.mono hb1.size)); have hb2w := below_aft hb1w hb2 hb1w.size; have hq : decide (r ≤ 60) = false := decide_eq_false (by have := HC.out.2.1 (by omega); omega); clear hr))
      all_goals go_ret
      all_goals exact ⟨ret_bool HI.out.symm, hb2w⟩
  · have hf' : shP l 10 t p = false := by simpa using hf
    have HF := Lib.hid hf'
    have HI := Lib.hid (isP_sh hf')
    clear hf hf'
    go_enter Try.func70, Try.ntmps70
    go_wp2_with (go_at_call 106; rw [HW.out]; refine (IS.out.known A D cap ep e t p false _ HF.out (HR.out.at_ hb0) HT.out (HV.out.at_ hb0)).mono ?_; rintro e1 w1 ⟨rfl, hb1⟩; obtain ⟨u0, u1⟩ := HXT.out.at_ hb1; obtain ⟨z0, z1, z2, z3, z4, z5⟩ := HXP.out.at_ hb1; have hb1w := below_aft hb0 hb1 hb0.size)
    go_ret
    exact ⟨ret_bool HI.out.symm, hb1w⟩
end Go.Proofs.Yteoopmogklpnoaa
