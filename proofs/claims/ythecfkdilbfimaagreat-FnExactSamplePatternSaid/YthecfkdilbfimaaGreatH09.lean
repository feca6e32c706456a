/-
  EmptyPattern of the document and of the program. No statement is proved here.
-/
import Derived.Test.YthecfkdilbfimaaGreatH03
import Derived.Test.YthecfkdilbfimaaGreatH08
import Derived.Test.YthecfkdilbfimaaGreatG03
import Derived.Test.YthecfkdilbfimaaGreatG04
import Derived.Deep.RegionHeld3
namespace Go.Proofs.YthecfkdilbfimaaGreat
open Go.RowKit Go.Sort Go.Deep
set_option maxRecDepth 100000
set_option linter.unusedVariables false

theorem MapTy.ne {w : World} {b n : Nat} {F : Ty → Int} {S : Ty → Prop} (h : MapTy w b n F S) {g : Nat} {cs : Array Value} {t : TypeId} {z : Nat × Nat} (hg : w.heap[g]? = some (.cells cs t z)) : b ≠ g := by
  rintro rfl
  obtain ⟨D, ⟨es, clock, h1, _⟩, _⟩ := h
  rw [h1] at hg; cases hg
/-- The program's sets. -/
theorem spaces_any (A : Option Addr) (l : List Da) (cap : Nat) (w : World) (hr : RDas w w.heap.size A l) (hw : WorldOK l) :
    Calls Tryz.prog 69 #[.slice A l.length cap] w fun e w' => ∃ mb, e = .returned (.agg #[.slice A l.length cap, .map (some mb)]) ∧ MapTy w' mb 400 (ldep l) (Inh l) ∧ Below w.heap.size w w' := by
  have Hr := Lib.hid hr
  have HWO := Lib.hid hw
  clear hr hw
  generalize hw0 : w.alloc (.cells #[.slice none 0 0, .map none] 110) = w0
  have hb0 : Below w.heap.size w w0 := by rw [← hw0]; exact (Below.refl _ _).alloc (Nat.le_refl _) _
  have HXR : Hid (w0.heap[w.heap.size]? = some (.cells #[.slice none 0 0, .map none] 110 (0, 0))) := by unfold Hid; rw [← hw0]; exact heap_alloc_new _ _
  have HW := Lib.hid hw0
  clear hw0
  go_enter Tryz.func69, Tryz.ntmps69
  go_wp2_with fail
  rw [HW.out]
  refine (leastDepths_m A l cap _ (Hr.out.at_ hb0) HWO.out).mono ?_
  rintro e w1 ⟨mb, rfl, hM, hb1⟩
  have HM := Lib.hid hM
  have hb1w := below_aft hb0 hb1 hb0.size
  have hr1 : w1.heap[w.heap.size]? = some (.cells #[.slice none 0 0, .map none] 110 (0, 0)) := (hb1.block _ (heap_lt HXR.out)).trans HXR.out
  have HNE := Lib.hid (hM.ne hr1)
  have r0 := (cell_of_blk hr1 0).trans rfl
  have r1 := (cell_of_blk hr1 1).trans rfl
  have f0 := frozen_of_row w1 w.heap.size 0 _ 110 hr1
  have f1 := frozen_of_row w1 w.heap.size 1 _ 110 hr1
  clear hM hr1
  go_wp2_with fail
  refine bodyPost_ret (v := .agg #[.slice A l.length cap, .map (some mb)]) (by simp [results, Tryz.results69, go_sem, r0, r1]) rfl ⟨mb, rfl, ?_, ?_⟩
  · refine HM.out.keep ?_ (Nat.le_refl _) (fun _ _ => Iff.rfl)
    exact ((Fr.set (P := fun b => b = w.heap.size) _ _ _ _ rfl).trans (Fr.set _ _ _ _ rfl)).2.2.2.2 mb HM.out.lt HNE.out
  · refine Below.setCell (Below.setCell hb1w ?_ _) ?_ _ <;> (simp <;> omega)
set_option maxHeartbeats 3000000 in
theorem em_spec (A D : Option Addr) (l : List Da) (cap ep e : Nat) (t : Ty) (p : Pt) (w : World) (hr : RDas w w.heap.size A l) (hv : RPs e w w.heap.size D p.kids) (hn : wP p ≤ 1048576) :
    Calls Tryz.prog 21 #[.slice A l.length cap, .agg #[.int .i64 t.data, .int .i64 t.index], .agg #[.int .i64 p.op, .int .i64 p.ctor, .int .i64 p.n, .int .i64 p.m, .int .i64 p.var, .slice D p.kids.length ep]] w fun e w' => e = .returned (.bool (emB l t p)) ∧ Below w.heap.size w w' := by
  have Hr := Lib.hid hr
  have HV := Lib.hid hv
  clear hr hv
  generalize hw0 : (w.alloc (.cells #[.int .i64 t.data, .int .i64 t.index] 31)).alloc (.cells #[.int .i64 p.op, .int .i64 p.ctor, .int .i64 p.n, .int .i64 p.m, .int .i64 p.var, .slice D p.kids.length ep] 45) = w0
  have hb0 := below_box2 hw0
  have HXT : Hid (Bx w0 w.heap.size t) := by rw [← hw0]; exact ⟨by simp [go_sem], by simp [go_sem]⟩
  have HXP : Hid (PBx w0 (w.heap.size + 1) p (.slice D p.kids.length ep)) := by rw [← hw0]; exact ⟨by simp [go_sem], by simp [go_sem], by simp [go_sem], by simp [go_sem], by simp [go_sem], by simp [go_sem]⟩
  have HW := Lib.hid hw0
  clear hw0
  by_cases hv0 : pvT l t p = true
  · obtain ⟨hsh, _⟩ := pvT_sh hv0
    have ht : TyOK l t := by
      by_cases ht : TyOK l t
      · exact ht
      · rw [pvT_no ht] at hv0; cases hv0
    have HVT := Lib.hid hv0
    have HSH := Lib.hid hsh
    have HK := Lib.hid ht
    have HWO : Hid (WorldOK l) := ht.1
    have HF := Lib.hid (emB_yes hv0)
    clear hv0 hsh ht
    go_enter Tryz.func21, Tryz.ntmps21
    go_wp2_with fail
    rw [HW.out]
    refine (pv_spec A D l cap ep e t p _ (Hr.out.at_ hb0) (HV.out.at_ hb0) hn).mono ?_
    rw [HVT.out]
    rintro e1 w1 ⟨rfl, hb1⟩
    have hb1w := below_aft hb0 hb1 hb0.size
    obtain ⟨x0, x1⟩ := HXT.out.at_ hb1
    obtain ⟨y0, y1, y2, y3, y4, y5⟩ := HXP.out.at_ hb1
    go_wp2_with fail
    go_region_held3 (fun w' => w'.cell? ⟨w.heap.size, 0, none⟩ = some (.int .i64 t.data) ∧ w'.cell? ⟨w.heap.size, 1, none⟩ = some (.int .i64 t.index) ∧ w'.cell? ⟨w.heap.size + 1, 0, none⟩ = some (.int .i64 p.op) ∧ w'.cell? ⟨w.heap.size + 1, 1, none⟩ = some (.int .i64 p.ctor) ∧ w'.cell? ⟨w.heap.size + 1, 2, none⟩ = some (.int .i64 p.n) ∧ w'.cell? ⟨w.heap.size + 1, 3, none⟩ = some (.int .i64 p.m) ∧ w'.cell? ⟨w.heap.size + 1, 4, none⟩ = some (.int .i64 p.var) ∧ w'.cell? ⟨w.heap.size + 1, 5, none⟩ = some (.slice D p.kids.length ep)) (first | exact ⟨x0, x1, y0, y1, y2, y3, y4, y5⟩ | exact S2 | exact S3 | go_keep) (first | (go_at_call 66; refine (table_l _ l _ _ (by exact Hr.out.at_ hb1w.drew) HWO.out).mono ?_; rintro e2 w2 ⟨T, B, rfl, hTl, hT, hS, hb2'⟩; have HTT := Lib.hid hT; have HSS := Lib.hid hS; have hb2 : Below w1.heap.size w1 w2 := ⟨hb2'.os, hb2'.tape, hb2'.output, hb2'.size, hb2'.block⟩; have hb2w := below_aft hb1w hb2 hb1w.size; have XT2 := HXT.out.at_ (below_aft hb1 hb2 hb1.size); have XP2 := HXP.out.at_ (below_aft hb1 hb2 hb1.size); have S2 := And.intro XT2.1 (And.intro XT2.2 XP2); have HB2 := Lib.hid hb2; clear hTl hT hS hb2' hb2) | (go_at_call 65; refine (smS_any l 10 A _ D T cap _ ep e t p _ (Hr.out.at_ hb2w) HTT.out HSS.out HK.out HSH.out (HV.out.at_ hb2w)).mono ?_; rintro e3 w3 ⟨rfl, hb3⟩; have hb3w := below_aft hb2w hb3 hb2w.size; have XT3 := HXT.out.at_ (below_aft (below_aft hb1 HB2.out hb1.size) hb3 (by have := hb1.size; have := HB2.out.size; omega)); have XP3 := HXP.out.at_ (below_aft (below_aft hb1 HB2.out hb1.size) hb3 (by have := hb1.size; have := HB2.out.size; omega)); have S3 := And.intro XT3.1 (And.intro XT3.2 XP3); clear hb3))
    all_goals
      clear x0 x1 y0 y1 y2 y3 y4 y5
      go_wp2_with fail
      go_ret
      exact ⟨ret_bool (by rw [HF.out]), hb3w⟩
  · have hv1 : pvT l t p = false := by simpa using hv0
    have HVT := Lib.hid hv1
    have HF := Lib.hid (emB_no hv1)
    clear hv0 hv1
    go_enter Tryz.func21, Tryz.ntmps21
    go_wp2_with fail
    rw [HW.out]
    refine (pv_spec A D l cap ep e t p _ (Hr.out.at_ hb0) (HV.out.at_ hb0) hn).mono ?_
    rw [HVT.out]
    rintro e1 w1 ⟨rfl, hb1⟩
    have hb1w := below_aft hb0 hb1 hb0.size
    go_wp2_with fail
    go_ret
    exact ⟨ret_bool HF.out.symm, hb1w⟩
set_option maxHeartbeats 3000000 in
theorem em_impl (A D : Option Addr) (l : List Da) (cap ep e : Nat) (t : Ty) (p : Pt) (w : World) (hr : RDas w w.heap.size A l) (hv : RPs e w w.heap.size D p.kids) :
    Calls Tryz.prog 23 #[.slice A l.length cap, .agg #[.int .i64 t.data, .int .i64 t.index], .agg #[.int .i64 p.op, .int .i64 p.ctor, .int .i64 p.n, .int .i64 p.m, .int .i64 p.var, .slice D p.kids.length ep]] w fun e w' => e = .returned (.bool (emB l t p)) ∧ Below w.heap.size w w' := by
  have Hr := Lib.hid hr
  have HV := Lib.hid hv
  clear hr hv
  generalize hw0 : (w.alloc (.cells #[.int .i64 t.data, .int .i64 t.index] 31)).alloc (.cells #[.int .i64 p.op, .int .i64 p.ctor, .int .i64 p.n, .int .i64 p.m, .int .i64 p.var, .slice D p.kids.length ep] 45) = w0
  have hb0 := below_box2 hw0
  have HXT : Hid (Bx w0 w.heap.size t) := by rw [← hw0]; exact ⟨by simp [go_sem], by simp [go_sem]⟩
  have HXP : Hid (PBx w0 (w.heap.size + 1) p (.slice D p.kids.length ep)) := by rw [← hw0]; exact ⟨by simp [go_sem], by simp [go_sem], by simp [go_sem], by simp [go_sem], by simp [go_sem], by simp [go_sem]⟩
  have HW := Lib.hid hw0
  clear hw0
  by_cases hv0 : pvT l t p = true
  · obtain ⟨hsh, _⟩ := pvT_sh hv0
    have ht : TyOK l t := by
      by_cases ht : TyOK l t
      · exact ht
      · rw [pvT_no ht] at hv0; cases hv0
    have HVT := Lib.hid hv0
    have HSH := Lib.hid hsh
    have HK := Lib.hid ht
    have HWO : Hid (WorldOK l) := ht.1
    have HF := Lib.hid (emB_yes hv0)
    clear hv0 hsh ht
    go_enter Tryz.func23, Tryz.ntmps23
    go_wp2_with fail
    rw [HW.out]
    obtain ⟨x0, x1⟩ := HXT.out
    obtain ⟨y0, y1, y2, y3, y4, y5⟩ := HXP.out
    go_region_held3 (fun w' => w'.cell? ⟨w.heap.size, 0, none⟩ = some (.int .i64 t.data) ∧ w'.cell? ⟨w.heap.size, 1, none⟩ = some (.int .i64 t.index) ∧ w'.cell? ⟨w.heap.size + 1, 0, none⟩ = some (.int .i64 p.op) ∧ w'.cell? ⟨w.heap.size + 1, 1, none⟩ = some (.int .i64 p.ctor) ∧ w'.cell? ⟨w.heap.size + 1, 2, none⟩ = some (.int .i64 p.n) ∧ w'.cell? ⟨w.heap.size + 1, 3, none⟩ = some (.int .i64 p.m) ∧ w'.cell? ⟨w.heap.size + 1, 4, none⟩ = some (.int .i64 p.var) ∧ w'.cell? ⟨w.heap.size + 1, 5, none⟩ = some (.slice D p.kids.length ep)) (first | exact ⟨x0, x1, y0, y1, y2, y3, y4, y5⟩ | exact S1 | exact S2 | exact S3 | go_keep) (first | (go_at_call 68; refine (pv_impl A D l cap ep e t p _ (by exact Hr.out.at_ hb0.drew) (by exact HV.out.at_ hb0.drew)).mono ?_; rw [HVT.out]; rintro e1 w1 ⟨rfl, hb1'⟩; have hb1 : Below w0.heap.size w0 w1 := ⟨hb1'.os, hb1'.tape, hb1'.output, hb1'.size, hb1'.block⟩; have hb1w := below_aft hb0 hb1 hb0.size; have XT1 := HXT.out.at_ hb1; have XP1 := HXP.out.at_ hb1; have S1 := And.intro XT1.1 (And.intro XT1.2 XP1); clear hb1') | (go_at_call 69; refine (spaces_any A l cap _ (by exact Hr.out.at_ hb1w) HWO.out).mono ?_; rintro e2 w2 ⟨mb, rfl, hM, hb2'⟩; have HM := Lib.hid hM; have hb2 : Below w1.heap.size w1 w2 := ⟨hb2'.os, hb2'.tape, hb2'.output, hb2'.size, hb2'.block⟩; have hb2w := below_aft hb1w hb2 hb1w.size; have XT2 := HXT.out.at_ (below_aft hb1 hb2 hb1.size); have XP2 := HXP.out.at_ (below_aft hb1 hb2 hb1.size); have S2 := And.intro XT2.1 (And.intro XT2.2 XP2); have HB2 := Lib.hid hb2; clear hM hb2' hb2) | (go_at_call 70; refine (smI_any l 10 A D cap mb ep e t p _ (Hr.out.at_ hb2w) HM.out HK.out HSH.out (HV.out.at_ hb2w)).mono ?_; rintro e3 w3 ⟨rfl, hb3⟩; have hb3w := below_aft hb2w hb3 hb2w.size; have XT3 := HXT.out.at_ (below_aft (below_aft hb1 HB2.out hb1.size) hb3 (by have := hb1.size; have := HB2.out.size; omega)); have XP3 := HXP.out.at_ (below_aft (below_aft hb1 HB2.out hb1.size) hb3 (by have := hb1.size; have := HB2.out.size; omega)); have S3 := And.intro XT3.1 (And.intro XT3.2 XP3); clear hb3))
    all_goals
      clear x0 x1 y0 y1 y2 y3 y4 y5
      go_wp2_with fail
      go_ret
      exact ⟨ret_bool (by rw [HF.out]), hb3w⟩
  · have hv1 : pvT l t p = false := by simpa using hv0
    have HVT := Lib.hid hv1
    have HF := Lib.hid (emB_no hv1)
    clear hv0 hv1
    go_enter Tryz.func23, Tryz.ntmps23
    go_wp2_with fail
    rw [HW.out]
    obtain ⟨x0, x1⟩ := HXT.out
    obtain ⟨y0, y1, y2, y3, y4, y5⟩ := HXP.out
    have g0 := cell_regrown x0
    have g1 := cell_regrown x1
    have g2 := cell_regrown y0
    have g3 := cell_regrown y1
    have g4 := cell_regrown y2
    have g5 := cell_regrown y3
    have g6 := cell_regrown y4
    have g7 := cell_regrown y5
    have HPV : Hid (∀ W, Below w0.heap.size w0 W → Calls Tryz.prog 68 #[.slice A l.length cap, .agg #[.int .i64 t.data, .int .i64 t.index], .agg #[.int .i64 p.op, .int .i64 p.ctor, .int .i64 p.n, .int .i64 p.m, .int .i64 p.var, .slice D p.kids.length ep]] W fun e w' => e = .returned (.bool false) ∧ Below W.heap.size W w') := fun W h => by
      have hq := pv_impl A D l cap ep e t p W ((Hr.out.at_ hb0).at_ h) ((HV.out.at_ hb0).at_ h)
      rw [HVT.out] at hq
      exact hq
    refine wp_region_quiet_below (by kernel_rfl) (by kernel_rfl) ?_
    repeat (quiet_step (exact Calls.regrown_of (HPV.out _ (below_regrown w0 _ _))))
    refine wpQuiet_nil ?_
    intro w1 hw'
    have hb1 : Below w0.heap.size w0 w1 := by obtain ⟨⟨dq, osq⟩, h⟩ := hw'; subst h; exact below_regrown w0 dq osq
    have hb1w := below_aft hb0 hb1 hb0.size
    clear hw' g0 g1 g2 g3 g4 g5 g6 g7 x0 x1 y0 y1 y2 y3 y4 y5
    go_wp2_with fail
    go_ret
    exact ⟨ret_bool HF.out.symm, hb1w⟩
end Go.Proofs.YthecfkdilbfimaaGreat
/-
  The law FnExactEmptyPattern walked. No statement is proved here.
-/
namespace Go.Proofs.YthecfkdilbfimaaGreat
open Go.RowKit Go.Deep
set_option maxRecDepth 100000
set_option linter.unusedVariables false

theorem below_sameE {B : Nat} {w w1 w' : World} (h : Below B w w') (hos : w1.os = w.os) (htape : w1.tape = w.tape) (hout : w1.output = w.output) (hh : w1.heap = w.heap) : Below B w1 w' := by
  refine ⟨h.os.trans hos.symm, h.tape.trans htape.symm, h.output.trans hout.symm, by rw [hh]; exact h.size, fun k hk => by rw [hh]; exact h.block k hk⟩

set_option maxHeartbeats 3000000 in
theorem em_law (A D : Option Addr) (l : List Da) (cap ep e : Nat) (t : Ty) (p : Pt) (w : World) (hr : RDas w w.heap.size A l) (hv : RPs e w w.heap.size D p.kids) :
    Calls Tryz.prog 4 #[.slice A l.length cap, .agg #[.int .i64 t.data, .int .i64 t.index], .agg #[.int .i64 p.op, .int .i64 p.ctor, .int .i64 p.n, .int .i64 p.m, .int .i64 p.var, .slice D p.kids.length ep]] w fun e w' => e = .returned (.bool true) ∧ Below w.heap.size w w' := by
  have Hr := Lib.hid hr
  have HV := Lib.hid hv
  clear hr hv
  generalize hw0 : (w.alloc (.cells #[.int .i64 t.data, .int .i64 t.index] 24)).alloc (.cells #[.int .i64 p.op, .int .i64 p.ctor, .int .i64 p.n, .int .i64 p.m, .int .i64 p.var, .slice D p.kids.length ep] 40) = w0
  have hb0 := below_box2 hw0
  have HXT : Hid (Bx w0 w.heap.size t) := by rw [← hw0]; exact ⟨by simp [go_sem], by simp [go_sem]⟩
  have HXV : Hid (PBx w0 (w.heap.size + 1) p (.slice D p.kids.length ep)) := by rw [← hw0]; exact ⟨by simp [go_sem], by simp [go_sem], by simp [go_sem], by simp [go_sem], by simp [go_sem], by simp [go_sem]⟩
  have HW := Lib.hid hw0
  clear hw0
  by_cases h1 : (wDas l : Int) ≤ 1048576
  · have H1 := Lib.hid (left_ok h1)
    by_cases h2 : (wPs p.kids : Int) ≤ 1048576 - (wDas l : Int)
    · have H2 := Lib.hid (left_ok h2)
      have hnv : wPs p.kids ≤ 1048576 := by omega
      have hnw : wP p ≤ 1048576 := by rw [wP_kids]; exact hnv
      have hnd : wDas l ≤ 1048576 := by omega
      go_enter Tryz.func4, Tryz.ntmps4
      go_wp2_with (first | (go_at_call 11; rw [HW.out]; refine (szDataS_any _ _ _ _ _ (Hr.out.at_ hb0) (by omega) (by omega)).mono ?_; rw [H1.out]; rintro e1 w1 ⟨rfl, hb1⟩; obtain ⟨y0, y1, y2, y3, y4, y5⟩ := HXV.out.at_ hb1; have hb1w := below_aft hb0 hb1 hb0.size) | (go_at_call 20; refine (szP_any e D p.kids ep p.op p.ctor p.n p.m p.var _ _ (HV.out.at_ hb1w) (by omega) (by omega)).mono ?_; rw [H2.out]; rintro e2 w2 ⟨rfl, hb2⟩; have hb2w := below_aft hb1w hb2 hb1w.size; have hb20 := below_aft hb1 hb2 hb1.size))
      clear y0 y1 y2 y3 y4 y5
      have hS2 : w2.cell? ⟨w.heap.size, 0, none⟩ = some (.int .i64 t.data) ∧ w2.cell? ⟨w.heap.size, 1, none⟩ = some (.int .i64 t.index) ∧ w2.cell? ⟨w.heap.size + 1, 0, none⟩ = some (.int .i64 p.op) ∧ w2.cell? ⟨w.heap.size + 1, 1, none⟩ = some (.int .i64 p.ctor) ∧ w2.cell? ⟨w.heap.size + 1, 2, none⟩ = some (.int .i64 p.n) ∧ w2.cell? ⟨w.heap.size + 1, 3, none⟩ = some (.int .i64 p.m) ∧ w2.cell? ⟨w.heap.size + 1, 4, none⟩ = some (.int .i64 p.var) ∧ w2.cell? ⟨w.heap.size + 1, 5, none⟩ = some (.slice D p.kids.length ep) := by
        obtain ⟨a, b⟩ := HXT.out.at_ hb20
        obtain ⟨c0, c1, c2, c3, c4, c5⟩ := HXV.out.at_ hb20
        exact ⟨a, b, c0, c1, c2, c3, c4, c5⟩
      obtain ⟨x0, x1, y0, y1, y2, y3, y4, y5⟩ := hS2
      go_region_held3 (fun w' => w'.cell? ⟨w.heap.size, 0, none⟩ = some (.int .i64 t.data) ∧ w'.cell? ⟨w.heap.size, 1, none⟩ = some (.int .i64 t.index) ∧ w'.cell? ⟨w.heap.size + 1, 0, none⟩ = some (.int .i64 p.op) ∧ w'.cell? ⟨w.heap.size + 1, 1, none⟩ = some (.int .i64 p.ctor) ∧ w'.cell? ⟨w.heap.size + 1, 2, none⟩ = some (.int .i64 p.n) ∧ w'.cell? ⟨w.heap.size + 1, 3, none⟩ = some (.int .i64 p.m) ∧ w'.cell? ⟨w.heap.size + 1, 4, none⟩ = some (.int .i64 p.var) ∧ w'.cell? ⟨w.heap.size + 1, 5, none⟩ = some (.slice D p.kids.length ep)) (first | exact ⟨x0, x1, y0, y1, y2, y3, y4, y5⟩ | exact S6 | exact S5 | exact S4 | exact S3 | go_keep) (first | (go_at_call 14; refine (toDataS_any _ _ _ _ (by exact Hr.out.at_ hb2w.drew) (by omega)).mono ?_; rintro e3 w3 ⟨g3, rfl, hf3, hb3'⟩; have hb3 : Below w2.heap.size w2 w3 := ⟨hb3'.os, hb3'.tape, hb3'.output, hb3'.size, hb3'.block⟩; have R3 := Lib.hid hf3.reads; have hb3w := below_aft hb2w hb3 hb2w.size; have hb30 := below_aft hb20 hb3 hb20.size; have XT3 := HXT.out.at_ hb30; have XV3 := HXV.out.at_ hb30; have S3 := And.intro XT3.1 (And.intro XT3.2 XV3); clear hf3 hb3' hb3) | (go_at_call 15; refine (toType_any _ _ _).mono ?_; rintro e4 w4 ⟨rfl, hb4⟩; have R4 := Lib.hid (R3.out.at_ hb4); have hb4w := below_aft hb3w hb4 hb3w.size; have hb40 := below_aft hb30 hb4 hb30.size; have XT4 := HXT.out.at_ hb40; have XV4 := HXV.out.at_ hb40; have S4 := And.intro XT4.1 (And.intro XT4.2 XV4); clear hb4) | (go_at_call 22; refine (toPO_any e D p.kids ep p.op p.ctor p.n p.m p.var _ (HV.out.at_ hb4w) hnv).mono ?_; rintro e5 w5 ⟨g5, rfl, hf5, hb5⟩; have R5 := Lib.hid (R4.out.at_ hb5); have V5 := Lib.hid (OPs.reads _ hf5); have hb5w := below_aft hb4w hb5 hb4w.size; have hb50 := below_aft hb40 hb5 hb40.size; have XT5 := HXT.out.at_ hb50; have XV5 := HXV.out.at_ hb50; have S5 := And.intro XT5.1 (And.intro XT5.2 XV5); clear hf5 hb5) | (go_at_call 21; refine (em_spec _ _ l _ _ e t p _ R5.out V5.out hnw).mono ?_; rintro e6 w6 ⟨rfl, hb6⟩; have hb6w := below_aft hb5w hb6 hb5w.size; have hb60 := below_aft hb50 hb6 hb50.size; have XT6 := HXT.out.at_ hb60; have XV6 := HXV.out.at_ hb60; have S6 := And.intro XT6.1 (And.intro XT6.2 XV6); clear hb6))
      clear x0 x1 y0 y1 y2 y3 y4 y5 S3 S4 S5 S6 XT3 XT4 XT5 XV3 XV4 XV5 R3 R4 R5 V5 hb3w hb4w hb5w hb30 hb40 hb50
      obtain ⟨a0, a1⟩ := XT6
      obtain ⟨a2, a3, a4, a5, a6, a7⟩ := XV6
      go_wp2_with (first | (go_at_call 14; refine (toDataS_any _ _ _ _ (by exact Hr.out.at_ hb6w) (by omega)).mono ?_; rintro e7 w7 ⟨g7, rfl, hf7, hb7⟩; have R7 := Lib.hid hf7.reads; have hb7w := below_aft hb6w hb7 hb6w.size; have hb70 := below_aft hb60 hb7 hb60.size; obtain ⟨c2, c3, c4, c5, c6, c7⟩ := HXV.out.at_ hb70; clear hf7 hb7) | (go_at_call 22; refine (toPO_any e D p.kids ep p.op p.ctor p.n p.m p.var _ (HV.out.at_ hb7w) hnv).mono ?_; rintro e8 w8 ⟨g8, rfl, hf8, hb8⟩; have R8 := Lib.hid (R7.out.at_ hb8); have V8 := Lib.hid (OPs.reads _ hf8); have hb8w := below_aft hb7w hb8 hb7w.size; have hb80 := below_aft hb70 hb8 hb70.size; clear hf8 hb8))
      clear a0 a1 a2 a3 a4 a5 a6 a7 c2 c3 c4 c5 c6 c7
      obtain ⟨w9, hw9⟩ : ∃ w9, w9 = w8.alloc (.cells #[.int .i64 p.op, .int .i64 p.ctor, .int .i64 p.n, .int .i64 p.m, .int .i64 p.var, .slice g8 p.kids.length p.kids.length] 45) := ⟨_, rfl⟩
      rw [← hw9]
      have hb89 : Below w8.heap.size w8 w9 := by rw [hw9]; exact (Below.refl _ _).alloc (Nat.le_refl _) _
      have HXI : Hid (PBx w9 w8.heap.size p (.slice g8 p.kids.length p.kids.length)) := by rw [hw9]; exact ⟨by simp [go_sem], by simp [go_sem], by simp [go_sem], by simp [go_sem], by simp [go_sem], by simp [go_sem]⟩
      have R9 := Lib.hid (R8.out.at_ hb89)
      have V9 := Lib.hid (V8.out.at_ hb89)
      have hb9w := below_aft hb8w hb89 hb8w.size
      have hb90 := below_aft hb80 hb89 hb80.size
      clear hw9 hb89 R8 V8
      obtain ⟨x0, x1⟩ := HXT.out.at_ hb90
      obtain ⟨y0, y1, y2, y3, y4, y5⟩ := HXI.out
      go_region_held3 (fun w' => w'.cell? ⟨w.heap.size, 0, none⟩ = some (.int .i64 t.data) ∧ w'.cell? ⟨w.heap.size, 1, none⟩ = some (.int .i64 t.index) ∧ w'.cell? ⟨w8.heap.size, 0, none⟩ = some (.int .i64 p.op) ∧ w'.cell? ⟨w8.heap.size, 1, none⟩ = some (.int .i64 p.ctor) ∧ w'.cell? ⟨w8.heap.size, 2, none⟩ = some (.int .i64 p.n) ∧ w'.cell? ⟨w8.heap.size, 3, none⟩ = some (.int .i64 p.m) ∧ w'.cell? ⟨w8.heap.size, 4, none⟩ = some (.int .i64 p.var) ∧ w'.cell? ⟨w8.heap.size, 5, none⟩ = some (.slice g8 p.kids.length p.kids.length)) (first | exact ⟨x0, x1, y0, y1, y2, y3, y4, y5⟩ | exact S11 | exact S10 | go_keep) (first | (go_at_call 15; refine (toType_any _ _ _).mono ?_; rintro e10 w10 ⟨rfl, hb10'⟩; have hb10 : Below w9.heap.size w9 w10 := ⟨hb10'.os, hb10'.tape, hb10'.output, hb10'.size, hb10'.block⟩; have R10 := Lib.hid (R9.out.at_ hb10); have V10 := Lib.hid (V9.out.at_ hb10); have hb10w := below_aft hb9w hb10 hb9w.size; have hb100 := below_aft hb90 hb10 hb90.size; have XT10 := HXT.out.at_ hb100; have XI10 := HXI.out.at_ hb10; have S10 := And.intro XT10.1 (And.intro XT10.2 XI10); clear hb10') | (go_at_call 23; refine (em_impl _ _ l _ _ e t p _ R10.out V10.out).mono ?_; rintro e11 w11 ⟨rfl, hb11⟩; have R11 := Lib.hid (R10.out.at_ hb11); have V11 := Lib.hid (V10.out.at_ hb11); have hb11w := below_aft hb10w hb11 hb10w.size; have hb110 := below_aft hb100 hb11 hb100.size; have hb119 := below_aft hb10 hb11 hb10.size; have XT11 := HXT.out.at_ hb110; have XI11 := HXI.out.at_ hb119; have S11 := And.intro XT11.1 (And.intro XT11.2 XI11); clear hb11))
      clear x0 x1 y0 y1 y2 y3 y4 y5 S10 S11 XT10 XI10 XT11 XI11 R10 V10 hb10w hb100 hb10 R9 V9
      go_wp2_with (first | (go_at_call 14; refine (toDataS_any _ _ _ _ (by exact Hr.out.at_ hb11w) (by omega)).mono ?_; rintro e12 w12 ⟨g12, rfl, hf12, hb12⟩; have R12 := Lib.hid (R11.out.at_ hb12); have V12 := Lib.hid (V11.out.at_ hb12); have Q12 := Lib.hid hf12.reads; have hb12w := below_aft hb11w hb12 hb11w.size; have hb120 := below_aft hb110 hb12 hb110.size; have hb129 := below_aft hb119 hb12 hb119.size; clear hf12 hb12) | (go_at_call 18; refine (eqDataS_same _ _ _ _ _ _ R12.out Q12.out).mono ?_; rintro e13 w13 ⟨rfl, hb13⟩; have V13 := Lib.hid (V12.out.at_ hb13); have hb13w := below_aft hb12w hb13 hb12w.size; have hb130 := below_aft hb120 hb13 hb120.size; have hb139 := below_aft hb129 hb13 hb129.size; clear hb13))
      obtain ⟨x2, x3, x4, x5, x6, x7⟩ := HXV.out.at_ hb130
      obtain ⟨y0, y1, y2, y3, y4, y5⟩ := HXI.out.at_ hb139
      go_region_held3 (fun w' => w'.cell? ⟨w.heap.size + 1, 0, none⟩ = some (.int .i64 p.op) ∧ w'.cell? ⟨w.heap.size + 1, 1, none⟩ = some (.int .i64 p.ctor) ∧ w'.cell? ⟨w.heap.size + 1, 2, none⟩ = some (.int .i64 p.n) ∧ w'.cell? ⟨w.heap.size + 1, 3, none⟩ = some (.int .i64 p.m) ∧ w'.cell? ⟨w.heap.size + 1, 4, none⟩ = some (.int .i64 p.var) ∧ w'.cell? ⟨w.heap.size + 1, 5, none⟩ = some (.slice D p.kids.length ep) ∧ w'.cell? ⟨w8.heap.size, 0, none⟩ = some (.int .i64 p.op) ∧ w'.cell? ⟨w8.heap.size, 1, none⟩ = some (.int .i64 p.ctor) ∧ w'.cell? ⟨w8.heap.size, 2, none⟩ = some (.int .i64 p.n) ∧ w'.cell? ⟨w8.heap.size, 3, none⟩ = some (.int .i64 p.m) ∧ w'.cell? ⟨w8.heap.size, 4, none⟩ = some (.int .i64 p.var) ∧ w'.cell? ⟨w8.heap.size, 5, none⟩ = some (.slice g8 p.kids.length p.kids.length)) (first | exact ⟨x2, x3, x4, x5, x6, x7, y0, y1, y2, y3, y4, y5⟩ | exact S15 | exact S14 | go_keep) (first | (go_at_call 22; refine (toPO_any e D p.kids ep p.op p.ctor p.n p.m p.var _ (by exact HV.out.at_ hb13w.drew) hnv).mono ?_; rintro e14 w14 ⟨g14, rfl, hf14, hb14'⟩; have hb14 : Below w13.heap.size w13 w14 := ⟨hb14'.os, hb14'.tape, hb14'.output, hb14'.size, hb14'.block⟩; have V14 := Lib.hid (V13.out.at_ hb14); have Q14 := Lib.hid (OPs.reads _ hf14); have hb14w := below_aft hb13w hb14 hb13w.size; have hb140 := below_aft hb130 hb14 hb130.size; have hb149 := below_aft hb139 hb14 hb139.size; have XV14 := HXV.out.at_ hb140; have XI14 := HXI.out.at_ hb149; have S14 := And.intro XV14.1 (And.intro XV14.2.1 (And.intro XV14.2.2.1 (And.intro XV14.2.2.2.1 (And.intro XV14.2.2.2.2.1 (And.intro XV14.2.2.2.2.2 XI14))))); clear hf14 hb14') | (go_at_call 24; refine (eqP_same e _ _ p.kids _ _ p.op p.ctor p.n p.m p.var _ V14.out Q14.out).mono ?_; rintro e15 w15 ⟨rfl, hb15⟩; have hb15w := below_aft hb14w hb15 hb14w.size; have hb150 := below_aft hb140 hb15 hb140.size; have hb159 := below_aft hb149 hb15 hb149.size; have XV15 := HXV.out.at_ hb150; have XI15 := HXI.out.at_ hb159; have S15 := And.intro XV15.1 (And.intro XV15.2.1 (And.intro XV15.2.2.1 (And.intro XV15.2.2.2.1 (And.intro XV15.2.2.2.2.1 (And.intro XV15.2.2.2.2.2 XI15))))); clear hb15))
      clear x2 x3 x4 x5 x6 x7 y0 y1 y2 y3 y4 y5 S14 S15 XV14 XI14 XV15 XI15
      go_wp2_with fail
      go_ret
      exact ⟨rfl, hb15w⟩
    · have H2 := Lib.hid (left_no h2)
      go_enter Tryz.func4, Tryz.ntmps4
      go_wp2_with (first | (go_at_call 11; rw [HW.out]; refine (szDataS_any _ _ _ _ _ (Hr.out.at_ hb0) (by omega) (by omega)).mono ?_; rw [H1.out]; rintro e1 w1 ⟨rfl, hb1⟩; obtain ⟨y0, y1, y2, y3, y4, y5⟩ := HXV.out.at_ hb1; have hb1w := below_aft hb0 hb1 hb0.size) | (go_at_call 20; refine (szP_any e D p.kids ep p.op p.ctor p.n p.m p.var _ _ (HV.out.at_ hb1w) (by omega) (by omega)).mono ?_; rw [H2.out]; rintro e2 w2 ⟨rfl, hb2⟩; have hb2w := below_aft hb1w hb2 hb1w.size))
      go_ret
      exact ⟨rfl, hb2w⟩
  · have H1 := Lib.hid (left_no h1)
    go_enter Tryz.func4, Tryz.ntmps4
    go_wp2_with (go_at_call 11; rw [HW.out]; refine (szDataS_any _ _ _ _ _ (Hr.out.at_ hb0) (by omega) (by omega)).mono ?_; rw [H1.out]; rintro e1 w1 ⟨rfl, hb1⟩; have hb1w := below_aft hb0 hb1 hb0.size)
    go_ret
    exact ⟨rfl, hb1w⟩
end Go.Proofs.YthecfkdilbfimaaGreat
