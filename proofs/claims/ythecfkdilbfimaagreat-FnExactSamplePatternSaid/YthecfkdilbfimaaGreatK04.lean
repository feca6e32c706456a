/-
  Whether the least values that a sample needs are not too deep: the document's function. No statement is proved here.
-/
import Derived.Test.YthecfkdilbfimaaGreatK00
import Derived.Test.YthecfkdilbfimaaGreatG14
import Derived.Test.YthecfkdilbfimaaGreatH08
import Derived.Test.YthecfkdilbfimaaGreatG22
import Derived.Deep.RegionHeld3
import Derived.Lib.QuietBelow
namespace Go.Proofs.YthecfkdilbfimaaGreat
open Go.RowKit Go.Sort Go.Deep
set_option maxRecDepth 100000
set_option linter.unusedVariables false

def LoC (l : List Da) (d : Nat) : Prop := ∀ (A A2 D : Option Addr) (T : List Int) (cap cap2 ep e : Nat) (t : Ty) (p : Pt) (w : World), RDas w w.heap.size A l → RInts w A2 T → St l T (l.length * 4 + 1) 0 0 → TyOK l t → shP l d t p = true → RPs e w w.heap.size D p.kids →
  Calls Tryz.prog 71 #[.slice A l.length cap, .slice A2 (l.length * 4) cap2, .agg #[.int .i64 t.data, .int .i64 t.index], .agg #[.int .i64 p.op, .int .i64 p.ctor, .int .i64 p.n, .int .i64 p.m, .int .i64 p.var, .slice D p.kids.length ep]] w fun e w' => e = .returned (.bool (loP l d t p)) ∧ Below w.heap.size w w'
theorem LoC.known {l : List Da} {d : Nat} (h : LoC l d) (A A2 D : Option Addr) (T : List Int) (cap cap2 ep e : Nat) (t : Ty) (p : Pt) (b : Bool) (w : World) (hf : loP l d t p = b) (hr : RDas w w.heap.size A l) (hT : RInts w A2 T) (hS : St l T (l.length * 4 + 1) 0 0) (ht : TyOK l t) (hs : shP l d t p = true) (hv : RPs e w w.heap.size D p.kids) :
    Calls Tryz.prog 71 #[.slice A l.length cap, .slice A2 (l.length * 4) cap2, .agg #[.int .i64 t.data, .int .i64 t.index], .agg #[.int .i64 p.op, .int .i64 p.ctor, .int .i64 p.n, .int .i64 p.m, .int .i64 p.var, .slice D p.kids.length ep]] w fun e w' => e = .returned (.bool b) ∧ Below w.heap.size w w' := by
  rw [← hf]; exact h A A2 D T cap cap2 ep e t p w hr hT hS ht hs hv

set_option maxHeartbeats 1600000 in
theorem loS_1 (l : List Da) (d : Nat) (ih : LoC l d) (A A2 D : Option Addr) (T : List Int) (cap cap2 ep e : Nat) (t : Ty) (p : Pt) (w : World) (hr : RDas w w.heap.size A l) (hT : RInts w A2 T) (hS : St l T (l.length * 4 + 1) 0 0) (ht : TyOK l t) (hs : shP l (d + 1) t p = true) (hv : RPs e w w.heap.size D p.kids) (hop : p.op = 1) :
    Calls Tryz.prog 71 #[.slice A l.length cap, .slice A2 (l.length * 4) cap2, .agg #[.int .i64 t.data, .int .i64 t.index], .agg #[.int .i64 p.op, .int .i64 p.ctor, .int .i64 p.n, .int .i64 p.m, .int .i64 p.var, .slice D p.kids.length ep]] w fun e w' => e = .returned (.bool (loP l (d + 1) t p)) ∧ Below w.heap.size w w' := by
  have hl := hv.1
  unfold maxLen at hl
  have Hr := Lib.hid hr
  have HTT := Lib.hid hT
  have HS := Lib.hid hS
  have HK := Lib.hid ht
  have HWO : Hid (WorldOK l) := ht.1
  have HV := Lib.hid hv
  have IH := Lib.hid ih
  have u1 := ieq_t hop
  have u2 : (p.op == 2) = false := ieq_f (by omega)
  have u3 : (p.op == 3) = false := ieq_f (by omega)
  have u4 : (p.op == 4) = false := ieq_f (by omega)
  have u5 : (p.op == 5) = false := ieq_f (by omega)
  have u6 : (p.op == 6) = false := ieq_f (by omega)
  have HF := Lib.hid (loP_any (l := l) (d := d) (t := t) (p := p) (by omega))
  clear hr hT hS ht hs hv ih hop
  generalize hw0 : (w.alloc (.cells #[.int .i64 t.data, .int .i64 t.index] 31)).alloc (.cells #[.int .i64 p.op, .int .i64 p.ctor, .int .i64 p.n, .int .i64 p.m, .int .i64 p.var, .slice D p.kids.length ep] 45) = w0
  have hb0 := below_box2 hw0
  have HXT : Hid (Bx w0 w.heap.size t) := by rw [← hw0]; exact ⟨by simp [go_sem], by simp [go_sem]⟩
  have HXP : Hid (PBx w0 (w.heap.size + 1) p (.slice D p.kids.length ep)) := by rw [← hw0]; exact ⟨by simp [go_sem], by simp [go_sem], by simp [go_sem], by simp [go_sem], by simp [go_sem], by simp [go_sem]⟩
  have HW := Lib.hid hw0
  clear hw0
  obtain ⟨x0, x1⟩ := HXT.out
  obtain ⟨y0, y1, y2, y3, y4, y5⟩ := HXP.out
  go_enter Tryz.func71, Tryz.ntmps71
  go_wp2_with fail
  rw [HW.out]
  refine (depth_l A2 l T _ _ t HS.out.len _ (HTT.out.at_ hb0) HWO.out HS.out (ok_tys HK.out)).mono ?_
  rintro e1 w1 ⟨rfl, hb1⟩
  have hb1w := below_aft hb0 hb1 hb0.size
  go_wp2_with fail
  go_ret
  exact ⟨ret_bool HF.out.symm, hb1w⟩
set_option maxHeartbeats 1600000 in
theorem loS_2 (l : List Da) (d : Nat) (ih : LoC l d) (A A2 D : Option Addr) (T : List Int) (cap cap2 ep e : Nat) (t : Ty) (p : Pt) (w : World) (hr : RDas w w.heap.size A l) (hT : RInts w A2 T) (hS : St l T (l.length * 4 + 1) 0 0) (ht : TyOK l t) (hs : shP l (d + 1) t p = true) (hv : RPs e w w.heap.size D p.kids) (hop : p.op = 2) :
    Calls Tryz.prog 71 #[.slice A l.length cap, .slice A2 (l.length * 4) cap2, .agg #[.int .i64 t.data, .int .i64 t.index], .agg #[.int .i64 p.op, .int .i64 p.ctor, .int .i64 p.n, .int .i64 p.m, .int .i64 p.var, .slice D p.kids.length ep]] w fun e w' => e = .returned (.bool (loP l (d + 1) t p)) ∧ Below w.heap.size w w' := by
  have hl := hv.1
  unfold maxLen at hl
  have Hr := Lib.hid hr
  have HTT := Lib.hid hT
  have HS := Lib.hid hS
  have HK := Lib.hid ht
  have HWO : Hid (WorldOK l) := ht.1
  have HV := Lib.hid hv
  have IH := Lib.hid ih
  have u1 : (p.op == 1) = false := ieq_f (by omega)
  have u2 := ieq_t hop
  have u3 : (p.op == 3) = false := ieq_f (by omega)
  have u4 : (p.op == 4) = false := ieq_f (by omega)
  have u5 : (p.op == 5) = false := ieq_f (by omega)
  have u6 : (p.op == 6) = false := ieq_f (by omega)
  have HF := Lib.hid (loP_any (l := l) (d := d) (t := t) (p := p) (by omega))
  clear hr hT hS ht hs hv ih hop
  generalize hw0 : (w.alloc (.cells #[.int .i64 t.data, .int .i64 t.index] 31)).alloc (.cells #[.int .i64 p.op, .int .i64 p.ctor, .int .i64 p.n, .int .i64 p.m, .int .i64 p.var, .slice D p.kids.length ep] 45) = w0
  have hb0 := below_box2 hw0
  have HXT : Hid (Bx w0 w.heap.size t) := by rw [← hw0]; exact ⟨by simp [go_sem], by simp [go_sem]⟩
  have HXP : Hid (PBx w0 (w.heap.size + 1) p (.slice D p.kids.length ep)) := by rw [← hw0]; exact ⟨by simp [go_sem], by simp [go_sem], by simp [go_sem], by simp [go_sem], by simp [go_sem], by simp [go_sem]⟩
  have HW := Lib.hid hw0
  clear hw0
  obtain ⟨x0, x1⟩ := HXT.out
  obtain ⟨y0, y1, y2, y3, y4, y5⟩ := HXP.out
  go_enter Tryz.func71, Tryz.ntmps71
  go_wp2_with fail
  rw [HW.out]
  refine (depth_l A2 l T _ _ t HS.out.len _ (HTT.out.at_ hb0) HWO.out HS.out (ok_tys HK.out)).mono ?_
  rintro e1 w1 ⟨rfl, hb1⟩
  have hb1w := below_aft hb0 hb1 hb0.size
  go_wp2_with fail
  go_ret
  exact ⟨ret_bool HF.out.symm, hb1w⟩
set_option maxHeartbeats 1600000 in
theorem loS_0 (l : List Da) (d : Nat) (ih : LoC l d) (A A2 D : Option Addr) (T : List Int) (cap cap2 ep e : Nat) (t : Ty) (p : Pt) (w : World) (hr : RDas w w.heap.size A l) (hT : RInts w A2 T) (hS : St l T (l.length * 4 + 1) 0 0) (ht : TyOK l t) (hs : shP l (d + 1) t p = true) (hv : RPs e w w.heap.size D p.kids) (hop : ¬ (p.op = 1 ∨ p.op = 2)) :
    Calls Tryz.prog 71 #[.slice A l.length cap, .slice A2 (l.length * 4) cap2, .agg #[.int .i64 t.data, .int .i64 t.index], .agg #[.int .i64 p.op, .int .i64 p.ctor, .int .i64 p.n, .int .i64 p.m, .int .i64 p.var, .slice D p.kids.length ep]] w fun e w' => e = .returned (.bool (loP l (d + 1) t p)) ∧ Below w.heap.size w w' := by
  have hl := hv.1
  unfold maxLen at hl
  have Hr := Lib.hid hr
  have HTT := Lib.hid hT
  have HS := Lib.hid hS
  have HK := Lib.hid ht
  have HWO : Hid (WorldOK l) := ht.1
  have HV := Lib.hid hv
  have IH := Lib.hid ih
  have u1 : (p.op == 1) = false := ieq_f (by omega)
  have u2 : (p.op == 2) = false := ieq_f (by omega)
  obtain ⟨how, hkl, hsh⟩ := shP_parts hs
  have HF := Lib.hid (loP_go (l := l) (d := d) (t := t) hop)
  have HOW := Lib.hid how
  have HKL := Lib.hid hkl
  have HSH := Lib.hid hsh
  have HOK := Lib.hid (tysP_ok ht how)
  have hm3 := tysP_len l t p
  have HM := Lib.hid (fun (i : Nat) (h : i < (tysP l t p).length) (h' : i < p.kids.length) => kidW_at (l := l) (d := d) h h')
  clear how hkl hsh
  clear hr hT hS ht hs hv ih hop
  generalize hw0 : (w.alloc (.cells #[.int .i64 t.data, .int .i64 t.index] 31)).alloc (.cells #[.int .i64 p.op, .int .i64 p.ctor, .int .i64 p.n, .int .i64 p.m, .int .i64 p.var, .slice D p.kids.length ep] 45) = w0
  have hb0 := below_box2 hw0
  have HXT : Hid (Bx w0 w.heap.size t) := by rw [← hw0]; exact ⟨by simp [go_sem], by simp [go_sem]⟩
  have HXP : Hid (PBx w0 (w.heap.size + 1) p (.slice D p.kids.length ep)) := by rw [← hw0]; exact ⟨by simp [go_sem], by simp [go_sem], by simp [go_sem], by simp [go_sem], by simp [go_sem], by simp [go_sem]⟩
  have HW := Lib.hid hw0
  clear hw0
  obtain ⟨x0, x1⟩ := HXT.out
  obtain ⟨y0, y1, y2, y3, y4, y5⟩ := HXP.out
  go_enter Tryz.func71, Tryz.ntmps71
  go_wp2_with fail
  rw [HW.out]
  refine (tys_any A D l cap ep t p _ (Hr.out.at_ hb0) HK.out HOW.out.mem).mono ?_
  rintro e3 w3 ⟨v3, rfl, ho3, hb3'⟩
  generalize tysP l t p = ats at *
  obtain ⟨A3, c3, rfl, hr3⟩ := ho3.form (by unfold maxLen; omega)
  have HR3 := Lib.hid hr3
  have HXT3 := Lib.hid (HXT.out.at_ hb3')
  have HXP3 := Lib.hid (HXP.out.at_ hb3')
  have hb3 := below_aft hb0 hb3' hb0.size
  clear hr3 ho3 hb3' x0 x1 y0 y1 y2 y3 y4 y5
  go_wp2_with fail
  go_loopw [10] (fun i wr => ∃ k : Nat, k ≤ ats.length ∧ i = .int .i64 k ∧ Hid (upto (kidW l d ats p.kids) k = true) ∧ Below w3.heap.size w3 wr) (fun i _ => ats.length - (intOf i).toNat)
  case atStart => exact ⟨0, by omega, rfl, rfl, Below.refl _ _⟩
  case round =>
    obtain ⟨k, hk, rfl, HU, hb⟩ := hrel
    have hbw : Below w.heap.size w wr := below_aft hb3 hb hb3.size
    have HXPr := Lib.hid (HXP3.out.at_ hb)
    obtain ⟨f0, f1, f2, f3, f4, f5⟩ := HXPr.out
    by_cases hlt : k < ats.length
    · have hkl : k < p.kids.length := by rw [HKL.out]; exact hlt
      obtain ⟨g, o, rfl, hgB, t0, t1⟩ := (HR3.out.below hb (Nat.le_refl _)).2 k hlt
      obtain ⟨b, off, rfl, hbB, hvk⟩ := (HV.out.below hbw (Nat.le_refl _)).2 k hkl
      obtain ⟨e', he', D', cp, c0, c1, c2, c3', c4, c5, hm⟩ := hvk.parts
      have d0 := cell_regrown t0
      have d1 := cell_regrown t1
      have d2 := cell_regrown c0
      have d3 := cell_regrown c1
      have d4 := cell_regrown c2
      have d5 := cell_regrown c3'
      have d6 := cell_regrown c4
      have d7 := cell_regrown c5
      have d8 := cell_regrown f5
      have Hm : Hid (RPs e' wr wr.heap.size D' p.kids[k].kids) := hm.keep (fun _ _ => rfl) hbw.size
      have Hrr : Hid (RDas wr wr.heap.size A l) := Hr.out.at_ hbw
      have HTr : Hid (RInts wr A2 T) := HTT.out.at_ hbw
      have HTk := Lib.hid (HOK.out _ (List.getElem_mem hlt))
      have HMk := Lib.hid (HM.out k hlt hkl)
      have HSk := Lib.hid (HSH.out k hlt hkl)
      have hi : (k : Int) < (ats.length : Int) := by omega
      have hi2 : (k : Int) < (p.kids.length : Int) := by omega
      clear c0 c1 c2 c3' c4 c5 t0 t1 f0 f1 f2 f3 f4 f5 hm hvk he'
      by_cases hf : loP l d ats[k] p.kids[k] = true
      · have HFk := Lib.hid hf
        have HUk : Hid (upto (kidW l d ats p.kids) (k + 1) = true) := upto_t HU.out (by rw [HMk.out]; exact hf)
        clear hf
        go_wp2_with fail
        refine wp_region_quiet_below (by kernel_rfl) (by kernel_rfl) ?_
        repeat (quiet_step (exact Calls.regrown_of (IH.out.known _ _ _ _ _ _ _ _ _ _ _ _ HFk.out (Hrr.out.at_ (below_regrown wr _ _)) (HTr.out.at_ (below_regrown wr _ _)) HS.out HTk.out HSk.out (Hm.out.at_ (below_regrown wr _ _)))))
        refine wpQuiet_nil ?_
        intro w2 hw'
        have hb2 : Below wr.heap.size wr w2 := by obtain ⟨⟨dq, osq⟩, h⟩ := hw'; subst h; exact below_regrown wr dq osq
        clear hw'
        have hb2' := below_aft hb hb2 hb.size
        clear d0 d1 d2 d3 d4 d5 d6 d7 d8
        go_wp2_with fail
        go_roundw
        case rel => exact ⟨k + 1, by omega, by go_num, HUk, hb2'⟩
        case measure => simp [intOf]; omega
      · have hf' : loP l d ats[k] p.kids[k] = false := by simpa using hf
        have HFk := Lib.hid hf'
        have HUk := Lib.hid (upto_f (f := kidW l d ats p.kids) hlt (by rw [HMk.out]; exact hf'))
        clear hf hf'
        go_wp2_with fail
        refine wp_region_quiet_below (by kernel_rfl) (by kernel_rfl) ?_
        repeat (quiet_step (exact Calls.regrown_of (IH.out.known _ _ _ _ _ _ _ _ _ _ _ _ HFk.out (Hrr.out.at_ (below_regrown wr _ _)) (HTr.out.at_ (below_regrown wr _ _)) HS.out HTk.out HSk.out (Hm.out.at_ (below_regrown wr _ _)))))
        refine wpQuiet_nil ?_
        intro w2 hw'
        have hb2 : Below wr.heap.size wr w2 := by obtain ⟨⟨dq, osq⟩, h⟩ := hw'; subst h; exact below_regrown wr dq osq
        clear hw'
        have hb2' := below_aft hbw hb2 hbw.size
        clear d0 d1 d2 d3 d4 d5 d6 d7 d8
        go_wp2_with fail
        go_ret
        exact ⟨ret_bool (by rw [HF.out, HUk.out]), hb2'⟩
    · have he : k = ats.length := by omega
      have hki : (ats.length : Int) ≤ (k : Int) := by omega
      have HE : Hid (loP l (d + 1) t p = true) := by unfold Hid; rw [HF.out, ← he]; exact HU.out
      clear he
      go_wp2_with fail
      go_ret
      exact ⟨ret_bool HE.out.symm, hbw⟩
theorem loS_any (l : List Da) : ∀ d, LoC l d
  | 0 => fun A A2 D T cap cap2 ep e t p w hr hT hS ht hs hv => by rw [shP_zero] at hs; cases hs
  | d + 1 => fun A A2 D T cap cap2 ep e t p w hr hT hS ht hs hv => by
    have ih := loS_any l d
    by_cases h1 : p.op = 1
    · exact loS_1 l d ih A A2 D T cap cap2 ep e t p w hr hT hS ht hs hv h1
    by_cases h2 : p.op = 2
    · exact loS_2 l d ih A A2 D T cap cap2 ep e t p w hr hT hS ht hs hv h2
    exact loS_0 l d ih A A2 D T cap cap2 ep e t p w hr hT hS ht hs hv (by omega)
end Go.Proofs.YthecfkdilbfimaaGreat
/-
  The greatest of the least depths that a sample needs: the program's method. No statement is proved here.
-/
namespace Go.Proofs.YthecfkdilbfimaaGreat
open Go.RowKit Go.Sort Go.Deep
set_option maxRecDepth 100000
set_option linter.unusedVariables false

def GdC (l : List Da) (d : Nat) : Prop := ∀ (A D : Option Addr) (cap mb ep e : Nat) (t : Ty) (p : Pt) (w : World), RDas w w.heap.size A l → MapTy w mb 400 (ldep l) (Inh l) → TyOK l t → shP l d t p = true → RPs e w w.heap.size D p.kids →
  Calls Tryz.prog 74 #[.agg #[.slice A l.length cap, .map (some mb)], .agg #[.int .i64 t.data, .int .i64 t.index], .agg #[.int .i64 p.op, .int .i64 p.ctor, .int .i64 p.n, .int .i64 p.m, .int .i64 p.var, .slice D p.kids.length ep]] w fun e w' => e = .returned (.int .i64 (gdP l d t p)) ∧ Below w.heap.size w w'

set_option maxHeartbeats 1600000 in
theorem gdI_1 (l : List Da) (d : Nat) (ih : GdC l d) (A D : Option Addr) (cap mb ep e : Nat) (t : Ty) (p : Pt) (w : World) (hr : RDas w w.heap.size A l) (hmp : MapTy w mb 400 (ldep l) (Inh l)) (ht : TyOK l t) (hs : shP l (d + 1) t p = true) (hv : RPs e w w.heap.size D p.kids) (hop : p.op = 1) :
    Calls Tryz.prog 74 #[.agg #[.slice A l.length cap, .map (some mb)], .agg #[.int .i64 t.data, .int .i64 t.index], .agg #[.int .i64 p.op, .int .i64 p.ctor, .int .i64 p.n, .int .i64 p.m, .int .i64 p.var, .slice D p.kids.length ep]] w fun e w' => e = .returned (.int .i64 (gdP l (d + 1) t p)) ∧ Below w.heap.size w w' := by
  have hl := hv.1
  unfold maxLen at hl
  have Hr := Lib.hid hr
  have HMP := Lib.hid hmp
  have HK := Lib.hid ht
  have HV := Lib.hid hv
  have IH := Lib.hid ih
  have u1 := ieq_t hop
  have u2 : (p.op == 2) = false := ieq_f (by omega)
  have u3 : (p.op == 3) = false := ieq_f (by omega)
  have u4 : (p.op == 4) = false := ieq_f (by omega)
  have u5 : (p.op == 5) = false := ieq_f (by omega)
  have u6 : (p.op == 6) = false := ieq_f (by omega)
  have HF := Lib.hid (gdP_any (l := l) (d := d) (t := t) (p := p) (by omega))
  have hlk : ∀ o1 o2 o3 : Obj, (Instr.lookup 108 (.map (some mb)) (.agg #[.int .i64 t.data, .int .i64 t.index]) false).run Tryz.prog (((w.alloc o1).alloc o2).alloc o3) = .ok (.int .i64 (ldep l t)) (((w.alloc o1).alloc o2).alloc o3) := fun o1 o2 o3 => look_ldep (hmp.at_ (below_box3 rfl)) ht
  generalize hw0 : ((w.alloc (.cells #[.slice A l.length cap, .map (some mb)] 110)).alloc (.cells #[.int .i64 t.data, .int .i64 t.index] 31)).alloc (.cells #[.int .i64 p.op, .int .i64 p.ctor, .int .i64 p.n, .int .i64 p.m, .int .i64 p.var, .slice D p.kids.length ep] 45) = w0
  have hb0 := below_box3 hw0
  have HXS : Hid (SpB w0 w.heap.size A l cap mb) := by rw [← hw0]; exact ⟨by simp [go_sem], by simp [go_sem]⟩
  have HXT : Hid (Bx w0 (w.heap.size + 1) t) := by rw [← hw0]; exact ⟨by simp [go_sem], by simp [go_sem]⟩
  have HXP : Hid (PBx w0 (w.heap.size + 2) p (.slice D p.kids.length ep)) := by rw [← hw0]; exact ⟨by simp [go_sem], by simp [go_sem], by simp [go_sem], by simp [go_sem], by simp [go_sem], by simp [go_sem]⟩
  have HW := Lib.hid hw0
  clear hr hmp ht hs hv ih hop hw0
  obtain ⟨s0, s1⟩ := HXS.out
  obtain ⟨x0, x1⟩ := HXT.out
  obtain ⟨y0, y1, y2, y3, y4, y5⟩ := HXP.out
  go_enter Tryz.func74, Tryz.ntmps74
  go_wp2_with fail
  rw [HW.out]
  go_ret
  exact ⟨ret_i64 HF.out.symm, hb0⟩
set_option maxHeartbeats 1600000 in
theorem gdI_2 (l : List Da) (d : Nat) (ih : GdC l d) (A D : Option Addr) (cap mb ep e : Nat) (t : Ty) (p : Pt) (w : World) (hr : RDas w w.heap.size A l) (hmp : MapTy w mb 400 (ldep l) (Inh l)) (ht : TyOK l t) (hs : shP l (d + 1) t p = true) (hv : RPs e w w.heap.size D p.kids) (hop : p.op = 2) :
    Calls Tryz.prog 74 #[.agg #[.slice A l.length cap, .map (some mb)], .agg #[.int .i64 t.data, .int .i64 t.index], .agg #[.int .i64 p.op, .int .i64 p.ctor, .int .i64 p.n, .int .i64 p.m, .int .i64 p.var, .slice D p.kids.length ep]] w fun e w' => e = .returned (.int .i64 (gdP l (d + 1) t p)) ∧ Below w.heap.size w w' := by
  have hl := hv.1
  unfold maxLen at hl
  have Hr := Lib.hid hr
  have HMP := Lib.hid hmp
  have HK := Lib.hid ht
  have HV := Lib.hid hv
  have IH := Lib.hid ih
  have u1 : (p.op == 1) = false := ieq_f (by omega)
  have u2 := ieq_t hop
  have u3 : (p.op == 3) = false := ieq_f (by omega)
  have u4 : (p.op == 4) = false := ieq_f (by omega)
  have u5 : (p.op == 5) = false := ieq_f (by omega)
  have u6 : (p.op == 6) = false := ieq_f (by omega)
  have HF := Lib.hid (gdP_any (l := l) (d := d) (t := t) (p := p) (by omega))
  have hlk : ∀ o1 o2 o3 : Obj, (Instr.lookup 108 (.map (some mb)) (.agg #[.int .i64 t.data, .int .i64 t.index]) false).run Tryz.prog (((w.alloc o1).alloc o2).alloc o3) = .ok (.int .i64 (ldep l t)) (((w.alloc o1).alloc o2).alloc o3) := fun o1 o2 o3 => look_ldep (hmp.at_ (below_box3 rfl)) ht
  generalize hw0 : ((w.alloc (.cells #[.slice A l.length cap, .map (some mb)] 110)).alloc (.cells #[.int .i64 t.data, .int .i64 t.index] 31)).alloc (.cells #[.int .i64 p.op, .int .i64 p.ctor, .int .i64 p.n, .int .i64 p.m, .int .i64 p.var, .slice D p.kids.length ep] 45) = w0
  have hb0 := below_box3 hw0
  have HXS : Hid (SpB w0 w.heap.size A l cap mb) := by rw [← hw0]; exact ⟨by simp [go_sem], by simp [go_sem]⟩
  have HXT : Hid (Bx w0 (w.heap.size + 1) t) := by rw [← hw0]; exact ⟨by simp [go_sem], by simp [go_sem]⟩
  have HXP : Hid (PBx w0 (w.heap.size + 2) p (.slice D p.kids.length ep)) := by rw [← hw0]; exact ⟨by simp [go_sem], by simp [go_sem], by simp [go_sem], by simp [go_sem], by simp [go_sem], by simp [go_sem]⟩
  have HW := Lib.hid hw0
  clear hr hmp ht hs hv ih hop hw0
  obtain ⟨s0, s1⟩ := HXS.out
  obtain ⟨x0, x1⟩ := HXT.out
  obtain ⟨y0, y1, y2, y3, y4, y5⟩ := HXP.out
  go_enter Tryz.func74, Tryz.ntmps74
  go_wp2_with fail
  rw [HW.out]
  go_ret
  exact ⟨ret_i64 HF.out.symm, hb0⟩
set_option maxHeartbeats 1600000 in
theorem gdI_0 (l : List Da) (d : Nat) (ih : GdC l d) (A D : Option Addr) (cap mb ep e : Nat) (t : Ty) (p : Pt) (w : World) (hr : RDas w w.heap.size A l) (hmp : MapTy w mb 400 (ldep l) (Inh l)) (ht : TyOK l t) (hs : shP l (d + 1) t p = true) (hv : RPs e w w.heap.size D p.kids) (hop : ¬ (p.op = 1 ∨ p.op = 2)) :
    Calls Tryz.prog 74 #[.agg #[.slice A l.length cap, .map (some mb)], .agg #[.int .i64 t.data, .int .i64 t.index], .agg #[.int .i64 p.op, .int .i64 p.ctor, .int .i64 p.n, .int .i64 p.m, .int .i64 p.var, .slice D p.kids.length ep]] w fun e w' => e = .returned (.int .i64 (gdP l (d + 1) t p)) ∧ Below w.heap.size w w' := by
  have hl := hv.1
  unfold maxLen at hl
  have Hr := Lib.hid hr
  have HMP := Lib.hid hmp
  have HK := Lib.hid ht
  have HV := Lib.hid hv
  have IH := Lib.hid ih
  have u1 : (p.op == 1) = false := ieq_f (by omega)
  have u2 : (p.op == 2) = false := ieq_f (by omega)
  obtain ⟨how, hkl, hsh⟩ := shP_parts hs
  have HF := Lib.hid (gdP_go (l := l) (d := d) (t := t) hop)
  have HOW := Lib.hid how
  have HKL := Lib.hid hkl
  have HSH := Lib.hid hsh
  have HOK := Lib.hid (tysP_ok ht how)
  have HOD := Lib.hid (dec_t how)
  have hm3 := tysP_len l t p
  have HM := Lib.hid (fun (i : Nat) (h : i < (tysP l t p).length) (h' : i < p.kids.length) => kidG_at (l := l) (d := d) h h')
  have HTP := Lib.hid (fun (i : Nat) (h : i < (tysP l t p).length) (h' : i < p.kids.length) => gd_top ht.1 d _ _ (tysP_ok ht how _ (List.getElem_mem h)) (hsh i h h'))
  clear how hkl hsh
  generalize hw0 : ((w.alloc (.cells #[.slice A l.length cap, .map (some mb)] 110)).alloc (.cells #[.int .i64 t.data, .int .i64 t.index] 31)).alloc (.cells #[.int .i64 p.op, .int .i64 p.ctor, .int .i64 p.n, .int .i64 p.m, .int .i64 p.var, .slice D p.kids.length ep] 45) = w0
  have hb0 := below_box3 hw0
  have HXS : Hid (SpB w0 w.heap.size A l cap mb) := by rw [← hw0]; exact ⟨by simp [go_sem], by simp [go_sem]⟩
  have HXT : Hid (Bx w0 (w.heap.size + 1) t) := by rw [← hw0]; exact ⟨by simp [go_sem], by simp [go_sem]⟩
  have HXP : Hid (PBx w0 (w.heap.size + 2) p (.slice D p.kids.length ep)) := by rw [← hw0]; exact ⟨by simp [go_sem], by simp [go_sem], by simp [go_sem], by simp [go_sem], by simp [go_sem], by simp [go_sem]⟩
  have HW := Lib.hid hw0
  clear hr hmp ht hs hv ih hop hw0
  obtain ⟨s0, s1⟩ := HXS.out
  obtain ⟨x0, x1⟩ := HXT.out
  obtain ⟨y0, y1, y2, y3, y4, y5⟩ := HXP.out
  go_enter Tryz.func74, Tryz.ntmps74
  go_wp2_with fail
  rw [HW.out]
  refine (kt_any A D l cap ep t p _ (Hr.out.at_ hb0) HK.out).mono ?_
  rintro e3 w3 ⟨v3, rfl, ho3, hb03⟩
  have HO3 := Lib.hid (ho3 HOW.out)
  have HB3 := Lib.hid hb03
  clear ho3 hb03
  generalize tysP l t p = ats at *
  obtain ⟨A3, c3, rfl, hr3⟩ := HO3.out.form (by unfold maxLen; omega)
  have HR3 := Lib.hid hr3
  have HXS3 := Lib.hid (HXS.out.at_ HB3.out)
  have HXT3 := Lib.hid (HXT.out.at_ HB3.out)
  have HXP3 := Lib.hid (HXP.out.at_ HB3.out)
  have hb3 := below_aft hb0 HB3.out hb0.size
  clear hr3 s0 s1 x0 x1 y0 y1 y2 y3 y4 y5
  go_wp2_with fail
  go_loopw [7, 34] (fun m i wr => ∃ k : Nat, k ≤ ats.length ∧ i = .int .i64 k ∧ ∃ q : Int, 0 ≤ q ∧ q ≤ 5000 ∧ m = .int .i64 q ∧ Hid (q = gdTo l d ats p.kids k) ∧ Below w3.heap.size w3 wr) (fun _ i _ => ats.length - (intOf i).toNat)
  case atStart => exact ⟨0, by omega, rfl, 0, by omega, by omega, rfl, gdTo_zero.symm, Below.refl _ _⟩
  case round =>
    obtain ⟨k, hk, rfl, q, hq0, hq5, rfl, HU, hbq⟩ := hrel
    by_cases hlt : k < ats.length
    · generalize hwb : wr.alloc (.cells #[.int .i64 ats[k].data, .int .i64 ats[k].index] 31) = wb
      have hbb : Below wr.heap.size wr wb := by rw [← hwb]; exact (Below.refl _ _).alloc (Nat.le_refl _) _
      have HXB : Hid (Bx wb wr.heap.size ats[k]) := by rw [← hwb]; exact Bx.new _ _ _
      have HWB := Lib.hid hwb
      clear hwb
      have hb := below_aft hbq hbb hbq.size
      have hbw : Below w.heap.size w wb := below_aft hb3 hb hb3.size
      obtain ⟨s0, s1⟩ := HXS3.out.at_ hb
      have HXPr := Lib.hid (HXP3.out.at_ hb)
      obtain ⟨f0, f1, f2, f3, f4, f5⟩ := HXPr.out
      obtain ⟨t0, t1⟩ := HXB.out
      have hkl : k < p.kids.length := by rw [HKL.out]; exact hlt
      obtain ⟨g, o, rfl, hgB, q0, q1⟩ := (HR3.out.below hbq (Nat.le_refl _)).2 k hlt
      obtain ⟨b, off, rfl, hbB, hvk⟩ := (HV.out.below hbw (Nat.le_refl _)).2 k hkl
      obtain ⟨e', he', D', cp, c0, c1, c2, c3', c4, c5, hm⟩ := hvk.parts
      have d0 := cell_regrown t0
      have d1 := cell_regrown t1
      have d2 := cell_regrown c0
      have d3 := cell_regrown c1
      have d4 := cell_regrown c2
      have d5 := cell_regrown c3'
      have d6 := cell_regrown c4
      have d7 := cell_regrown c5
      have d8 := cell_regrown f5
      have d9 := cell_regrown s0
      have da := cell_regrown s1
      have Hm : Hid (RPs e' wb wb.heap.size D' p.kids[k].kids) := hm.keep (fun _ _ => rfl) hbw.size
      have Hrr : Hid (RDas wb wb.heap.size A l) := Hr.out.at_ hbw
      have HMr : Hid (MapTy wb mb 400 (ldep l) (Inh l)) := HMP.out.at_ hbw
      have HTk := Lib.hid (HOK.out _ (List.getElem_mem hlt))
      have HMk := Lib.hid (HM.out k hlt hkl)
      have HSk := Lib.hid (HSH.out k hlt hkl)
      have hi : (k : Int) < (ats.length : Int) := by omega
      have hi2 : (k : Int) < (p.kids.length : Int) := by omega
      clear c0 c1 c2 c3' c4 c5 t0 t1 f0 f1 f2 f3 f4 f5 s0 s1 hm hvk he'
      have htp := HTP.out k hlt hkl
      have hg0 := gdP_nonneg l d ats[k] p.kids[k]
      have HU2 : Hid ((if q < gdP l d ats[k] p.kids[k] then gdP l d ats[k] p.kids[k] else q) = gdTo l d ats p.kids (k + 1)) := by unfold Hid; rw [gdTo_succ, HMk.out, ← HU]; split <;> omega
      generalize hgq : gdP l d ats[k] p.kids[k] = gq at htp hg0 HU2
      go_wp2_with fail
      rw [HWB.out]
      refine wp_region_quiet_below (by kernel_rfl) (by kernel_rfl) ?_
      repeat (quiet_step (exact Calls.regrown_of (hgq ▸ IH.out _ _ _ _ _ _ _ _ _ (Hrr.out.at_ (below_regrown wb _ _)) (HMr.out.at_ (below_regrown wb _ _)) HTk.out HSk.out (Hm.out.at_ (below_regrown wb _ _)))))
      refine wpQuiet_nil ?_
      intro w2 hw'
      have hb2 : Below wb.heap.size wb w2 := by obtain ⟨⟨dq, osq⟩, h⟩ := hw'; subst h; exact below_regrown wb dq osq
      clear hw'
      have hb2' := below_aft hb hb2 hb.size
      clear d0 d1 d2 d3 d4 d5 d6 d7 d8 d9 da
      go_wp2_with fail
      go_roundw
      case rel => exact ⟨k + 1, by omega, by go_num, _, by omega, by omega, rfl, HU2, hb2'⟩
      case measure => simp [intOf]; omega
    · have he : k = ats.length := by omega
      have hki : (ats.length : Int) ≤ (k : Int) := by omega
      have HE : Hid (gdP l (d + 1) t p = q) := by unfold Hid; rw [HF.out, ← he]; exact HU.symm
      clear he
      go_wp2_with fail
      go_ret
      exact ⟨ret_i64 HE.out.symm, below_aft hb3 hbq hb3.size⟩
theorem gdI_any (l : List Da) : ∀ d, GdC l d
  | 0 => fun A D cap mb ep e t p w hr hm ht hs hv => by rw [shP_zero] at hs; cases hs
  | d + 1 => fun A D cap mb ep e t p w hr hm ht hs hv => by
    have ih := gdI_any l d
    by_cases h1 : p.op = 1
    · exact gdI_1 l d ih A D cap mb ep e t p w hr hm ht hs hv h1
    by_cases h2 : p.op = 2
    · exact gdI_2 l d ih A D cap mb ep e t p w hr hm ht hs hv h2
    exact gdI_0 l d ih A D cap mb ep e t p w hr hm ht hs hv (by omega)
end Go.Proofs.YthecfkdilbfimaaGreat
