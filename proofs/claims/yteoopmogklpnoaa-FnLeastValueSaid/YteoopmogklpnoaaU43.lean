/-
  LeastValue of the program, with room. No statement is proved here.
-/
import Derived.Test.YteoopmogklpnoaaU42
namespace Go.Proofs.Yteoopmogklpnoaa
open Go.RowKit Go.Sort Go.Deep
set_option maxRecDepth 100000
set_option linter.unusedVariables false
set_option maxHeartbeats 1600000 in
theorem lvc_impl (A : Option Addr) (l : List Da) (cap : Nat) (t : Ty) (w : World) (hr : RDas w w.heap.size A l) :
    Calls Try.prog 24 #[.slice A l.length cap, .agg #[.int .i64 t.data, .int .i64 t.index]] w (LvTc l t w) := by
  have Hr := Lib.hid hr
  clear hr
  generalize hwx : (w.alloc (.cells #[.int .i64 t.data, .int .i64 t.index] 25)).alloc (.cells #[.int .i64 0, .int .i64 0, .slice none 0 0] 28) = wx
  have hbx := below_box2 hwx
  have HXT : Hid (Bx wx w.heap.size t) := by rw [← hwx]; exact ⟨by simp [go_sem], by simp [go_sem]⟩
  have HXR : Hid (ZbV wx (w.heap.size + 1)) := by
    have h := ZbV.new (w.alloc (.cells #[.int .i64 t.data, .int .i64 t.index] 25))
    simp only [World.size_alloc] at h
    unfold Hid; rw [← hwx]; exact h
  have HWX := Lib.hid hwx
  clear hwx
  obtain ⟨x0, x1⟩ := HXT.out
  by_cases ht : TyOK l t
  · have HK := Lib.hid ht
    have HT4 := Lib.hid (tys_mono ht.1.1 (ok_tys ht))
    have HW : Hid (WorldOK l) := ht.1
    have HLI := Lib.hid (lvIc_any l ht.1 10)
    clear ht
    go_enter Try.func24, Try.ntmps24
    go_wp2_with fail
    rw [HWX.out]
    refine (typeI_yes (t := t) (Hr.out.at_ hbx) HK.out).mono ?_
    rintro e w1 ⟨rfl, hb1⟩
    have hbw1 := below_aft hbx hb1 hbx.size
    have HX1 := Lib.hid (HXT.out.at_ hb1)
    have HR1 : Hid (ZbV w1 (w.heap.size + 1)) := HXR.out.at_ hb1
    clear x0 x1 hb1
    go_wp2_with fail
    refine (leastDepths_m _ l _ _ (Hr.out.at_ hbw1) HW.out).mono ?_
    rintro e w2 ⟨mb, rfl, hM, hb2⟩
    have hbw2 := below_aft hbw1 hb2 hbw1.size
    have HM := Lib.hid hM
    have HX2 := Lib.hid (HX1.out.at_ hb2)
    have HR2 : Hid (ZbV w2 (w.heap.size + 1)) := HR1.out.at_ hb2
    have hlook := hM.look HT4.out
    clear hb2 hM
    obtain ⟨x0, x1⟩ := HX2.out
    by_cases hi : Inh l t
    · rw [dec_t hi] at hlook
      simp only [if_true] at hlook
      have hpos := ldep_yes hi
      have q0 : (ldep l t == 0) = false := ieq_f (by omega)
      have HI := Lib.hid hi
      by_cases h10 : ldep l t ≤ 10
      · have q10 : decide (10 < ldep l t) = false := decide_eq_false (by omega)
        have H10 := Lib.hid h10
        have HWA := Lib.hid (lvA_w l 10 t)
        obtain ⟨v10, hv10⟩ : ∃ v, lvA l 10 t = v := ⟨_, rfl⟩
        have HV10 := Lib.hid hv10
        have HYES : Hid (∀ {w' : World} {B : Option Addr} {c : Nat}, lvOK l t → Below w.heap.size w w' → OVk 10 w' (Nw w w') B c v10.kids → LvTc l t w (.returned (.tuple #[.agg #[.int .i64 v10.ctor, .int .i64 v10.n, .slice B v10.kids.length c], .bool true])) w') := fun {_ _ _} h h1 h2 => by subst hv10; exact LvTc.yes h h1 h2
        have HLS : Hid (Calls Try.prog 60 #[.slice A l.length cap, .agg #[.int .i64 t.data, .int .i64 t.index], .map (some mb)] w2 fun e w' => ∃ B c, e = .returned (.agg #[.int .i64 v10.ctor, .int .i64 v10.n, .slice B v10.kids.length c]) ∧ OVk 10 w' (Nw w2 w') B c v10.kids ∧ Below w2.heap.size w2 w') := by
          unfold Hid; rw [← hv10]; exact HLI.out A cap t mb w2 (Hr.out.at_ hbw2) HM.out HK.out HI.out H10.out
        rw [hv10] at HWA
        clear hv10 hi h10 HLI
        go_wp2_with fail
        refine HLS.out.mono ?_
        rintro e w3 ⟨B3, c3, rfl, ho3, hb3⟩
        have hst := StVc.new (w1 := w2) (c := c3) hb3 ho3 (fun b h => h)
        have hbw3 := below_aft hbw2 hb3 hbw2.size
        obtain ⟨w4, hw4⟩ : ∃ w4, w4 = w3.alloc (.cells #[.int .i64 v10.ctor, .int .i64 v10.n, .slice B3 v10.kids.length c3] 28) := ⟨_, rfl⟩
        rw [← hw4] at hst
        have HST := Lib.hid hst
        have hb24 := hst.2.1
        have hbw4 := below_aft hbw2 hb24 hbw2.size
        have HX4 := Lib.hid (HX2.out.at_ hb24)
        have HR4 : Hid (ZbV w4 (w.heap.size + 1)) := HR2.out.at_ hb24
        have HW4 := Lib.hid hw4
        have hl2 := hbw2.size
        have HRV : Hid (RVs 9 w4 w4.heap.size B3 v10.kids) := OVk.reads 9 hst.2.2.2
        have hwlt3 : w.heap.size < w3.heap.size := by have := heap_lt HR2.out; have := hb3.size; omega
        obtain ⟨u0, u1⟩ := HX2.out.at_ hb3
        clear hw4 x0 x1 hlook hst ho3
        by_cases hv : isV l t v10 = true
        · have HVV := Lib.hid ((vvT_yes (v := v10) HK.out).trans hv)
          have HOK : Hid (lvOK l t) := ⟨HK.out, HI.out, H10.out, by rw [HV10.out]; exact hv⟩
          clear hv
          go_wp2_with fail
          rw [← HW4.out]
          refine (vv_impl A B3 l cap c3 9 t v10 _ (Hr.out.at_ hbw4) HRV.out (by have := HWA.out; omega)).mono ?_
          rw [HVV.out]
          rintro e w5 ⟨rfl, hb5⟩
          have hbw5 := below_aft hbw4 hb5 hbw4.size
          have HST5 := Lib.hid (HST.out.later hb5)
          obtain ⟨v0, v1, v2⟩ := HST5.out.cells
          clear u0 u1
          have hrr : w5.heap[w.heap.size + 1]? = some (.cells #[.int .i64 0, .int .i64 0, .slice none 0 0] 28 (0, 0)) := HR4.out.at_ hb5
          have r0 := (cell_of_blk hrr 0).trans rfl
          have r1 := (cell_of_blk hrr 1).trans rfl
          have r2 := (cell_of_blk hrr 2).trans rfl
          have f0 := frozen_of_row w5 (w.heap.size + 1) 0 _ 28 hrr
          have f1 := frozen_of_row w5 (w.heap.size + 1) 1 _ 28 hrr
          have f2 := frozen_of_row w5 (w.heap.size + 1) 2 _ 28 hrr
          clear hrr
          go_wp2_with fail
          refine bodyPost_ret (v := .tuple #[.agg #[.int .i64 v10.ctor, .int .i64 v10.n, .slice B3 v10.kids.length c3], .bool true]) (by simp [results, Try.results24, go_sem, r0, r1, r2]) rfl (HYES.out HOK.out ?_ ?_)
          · refine Below.setCell (Below.setCell (Below.setCell hbw5 ?_ _) ?_ _) ?_ _ <;> (simp <;> omega)
          · have hz1 := heap_lt HR2.out
            refine (HST5.out.2.2.2.fr _ (P' := fun b => b = w.heap.size + 1) (((Fr.set (P := fun b => b = w.heap.size + 1) _ _ _ _ rfl).trans (Fr.set _ _ _ _ rfl)).trans (Fr.set _ _ _ _ rfl)) (fun b hq e => by have := hq.1; omega)).wide _ (fun b hq => ⟨by have := hq.1; omega, by have h2 := hq.2.1; simpa [World.setCell] using h2⟩)
        · have hvf : isV l t v10 = false := by simpa using hv
          have HVV := Lib.hid ((vvT_yes (v := v10) HK.out).trans hvf)
          have HNO : Hid (¬ lvOK l t) := fun h => by have h1 := h.2.2.2; rw [HV10.out, hvf] at h1; cases h1
          clear hv hvf
          go_wp2_with fail
          rw [← HW4.out]
          refine (vv_impl A B3 l cap c3 9 t v10 _ (Hr.out.at_ hbw4) HRV.out (by have := HWA.out; omega)).mono ?_
          rw [HVV.out]
          rintro e w5 ⟨rfl, hb5⟩
          have hbw5 := below_aft hbw4 hb5 hbw4.size
          clear u0 u1
          have hrr : w5.heap[w.heap.size + 1]? = some (.cells #[.int .i64 0, .int .i64 0, .slice none 0 0] 28 (0, 0)) := HR4.out.at_ hb5
          have r0 := (cell_of_blk hrr 0).trans rfl
          have r1 := (cell_of_blk hrr 1).trans rfl
          have r2 := (cell_of_blk hrr 2).trans rfl
          have f0 := frozen_of_row w5 (w.heap.size + 1) 0 _ 28 hrr
          have f1 := frozen_of_row w5 (w.heap.size + 1) 1 _ 28 hrr
          have f2 := frozen_of_row w5 (w.heap.size + 1) 2 _ 28 hrr
          clear hrr
          go_wp2_with fail
          refine bodyPost_ret (v := .tuple #[.agg #[.int .i64 0, .int .i64 0, .slice none 0 0], .bool false]) (by simp [results, Try.results24, go_sem, r0, r1, r2]) rfl (LvTc.no HNO.out ?_)
          refine Below.setCell (Below.setCell (Below.setCell hbw5 ?_ _) ?_ _) ?_ _ <;> (simp <;> omega)
      · have q10 : decide (10 < ldep l t) = true := decide_eq_true (by omega)
        have HNO : Hid (¬ lvOK l t) := fun h => h10 h.2.2.1
        clear hi h10
        have hrr : w2.heap[w.heap.size + 1]? = some (.cells #[.int .i64 0, .int .i64 0, .slice none 0 0] 28 (0, 0)) := HR2.out
        have r0 := (cell_of_blk hrr 0).trans rfl
        have r1 := (cell_of_blk hrr 1).trans rfl
        have r2 := (cell_of_blk hrr 2).trans rfl
        have f0 := frozen_of_row w2 (w.heap.size + 1) 0 _ 28 hrr
        have f1 := frozen_of_row w2 (w.heap.size + 1) 1 _ 28 hrr
        have f2 := frozen_of_row w2 (w.heap.size + 1) 2 _ 28 hrr
        clear hrr
        go_wp2_with fail
        refine bodyPost_ret (v := .tuple #[.agg #[.int .i64 0, .int .i64 0, .slice none 0 0], .bool false]) (by simp [results, Try.results24, go_sem, r0, r1, r2]) rfl (LvTc.no HNO.out ?_)
        refine Below.setCell (Below.setCell (Below.setCell hbw2 ?_ _) ?_ _) ?_ _ <;> (simp <;> omega)
    · rw [dec_f hi] at hlook
      simp only [Bool.false_eq_true, if_false] at hlook
      have HNO : Hid (¬ lvOK l t) := fun h => hi h.2.1
      clear hi
      have hrr : w2.heap[w.heap.size + 1]? = some (.cells #[.int .i64 0, .int .i64 0, .slice none 0 0] 28 (0, 0)) := HR2.out
      have r0 := (cell_of_blk hrr 0).trans rfl
      have r1 := (cell_of_blk hrr 1).trans rfl
      have r2 := (cell_of_blk hrr 2).trans rfl
      have f0 := frozen_of_row w2 (w.heap.size + 1) 0 _ 28 hrr
      have f1 := frozen_of_row w2 (w.heap.size + 1) 1 _ 28 hrr
      have f2 := frozen_of_row w2 (w.heap.size + 1) 2 _ 28 hrr
      clear hrr
      go_wp2_with fail
      refine bodyPost_ret (v := .tuple #[.agg #[.int .i64 0, .int .i64 0, .slice none 0 0], .bool false]) (by simp [results, Try.results24, go_sem, r0, r1, r2]) rfl (LvTc.no HNO.out ?_)
      refine Below.setCell (Below.setCell (Below.setCell hbw2 ?_ _) ?_ _) ?_ _ <;> (simp <;> omega)
  · have HNO : Hid (¬ lvOK l t) := fun h => ht h.1
    go_enter Try.func24, Try.ntmps24
    go_wp2_with fail
    rw [HWX.out]
    refine (typeI_no (t := t) (Hr.out.at_ hbx) ht).mono ?_
    rintro e w1 ⟨rfl, hb1⟩
    have hbw1 := below_aft hbx hb1 hbx.size
    clear x0 x1
    have hrr : w1.heap[w.heap.size + 1]? = some (.cells #[.int .i64 0, .int .i64 0, .slice none 0 0] 28 (0, 0)) := HXR.out.at_ hb1
    have r0 := (cell_of_blk hrr 0).trans rfl
    have r1 := (cell_of_blk hrr 1).trans rfl
    have r2 := (cell_of_blk hrr 2).trans rfl
    have f0 := frozen_of_row w1 (w.heap.size + 1) 0 _ 28 hrr
    have f1 := frozen_of_row w1 (w.heap.size + 1) 1 _ 28 hrr
    have f2 := frozen_of_row w1 (w.heap.size + 1) 2 _ 28 hrr
    clear hrr
    go_wp2_with fail
    refine bodyPost_ret (v := .tuple #[.agg #[.int .i64 0, .int .i64 0, .slice none 0 0], .bool false]) (by simp [results, Try.results24, go_sem, r0, r1, r2]) rfl (LvTc.no HNO.out ?_)
    refine Below.setCell (Below.setCell (Below.setCell hbw1 ?_ _) ?_ _) ?_ _ <;> (simp <;> omega)
end Go.Proofs.Yteoopmogklpnoaa
