/-
  SamplePattern of the document and of the program. No statement is proved here.
-/
import Derived.Test.YthecfkdilbfimaaGreatK03
import Derived.Test.YthecfkdilbfimaaGreatK04
import Derived.Test.YthecfkdilbfimaaGreatH09
import Derived.Deep.DeepCutAuto
namespace Go.Proofs.YthecfkdilbfimaaGreat
open Go.RowKit Go.Sort Go.Deep
set_option maxRecDepth 100000
set_option linter.unusedVariables false

/-- What is returned. -/
def SpT (l : List Da) (t : Ty) (p : Pt) (w : World) (e : Ending) (w' : World) : Prop := ∃ B c, e = .returned (.tuple #[.agg #[.int .i64 (spR l t p).ctor, .int .i64 (spR l t p).n, .slice B (spR l t p).kids.length c], .bool (spB l t p)]) ∧ OVs 20 w' (Nw w w') B (spR l t p).kids ∧ Below w.heap.size w w'
theorem SpT.no {l : List Da} {t : Ty} {p : Pt} {w w' : World} (h : spB l t p = false) (hb : Below w.heap.size w w') : SpT l t p w (.returned (.tuple #[.agg #[.int .i64 0, .int .i64 0, .slice none 0 0], .bool false])) w' := by
  unfold SpT; rw [h, spR_no h]; exact ⟨none, 0, rfl, OVs.nil _ _ _ _, hb⟩
theorem SpT.yes {l : List Da} {t : Ty} {p : Pt} {w w' : World} {B : Option Addr} {c : Nat} {v : Vl} (hv : svP l 10 t p = v) (h : spB l t p = true) (hb : Below w.heap.size w w') (ho : OVs 20 w' (Nw w w') B v.kids) : SpT l t p w (.returned (.tuple #[.agg #[.int .i64 v.ctor, .int .i64 v.n, .slice B v.kids.length c], .bool true])) w' := by
  subst hv; unfold SpT; rw [h, spR_yes h]; exact ⟨B, c, rfl, ho, hb⟩
set_option maxHeartbeats 8000000 in
theorem sp_impl (A D : Option Addr) (l : List Da) (cap ep e : Nat) (t : Ty) (p : Pt) (w : World) (hr : RDas w w.heap.size A l) (hv : RPs e w w.heap.size D p.kids) :
    Calls Tryz.prog 26 #[.slice A l.length cap, .agg #[.int .i64 t.data, .int .i64 t.index], .agg #[.int .i64 p.op, .int .i64 p.ctor, .int .i64 p.n, .int .i64 p.m, .int .i64 p.var, .slice D p.kids.length ep]] w (SpT l t p w) := by
  have Hr := Lib.hid hr
  have HV := Lib.hid hv
  clear hr hv
  generalize hwx : ((w.alloc (.cells #[.int .i64 t.data, .int .i64 t.index] 31)).alloc (.cells #[.int .i64 p.op, .int .i64 p.ctor, .int .i64 p.n, .int .i64 p.m, .int .i64 p.var, .slice D p.kids.length ep] 45)).alloc (.cells #[.int .i64 0, .int .i64 0, .slice none 0 0] 51) = wx
  have hbx : Below w.heap.size w wx := below_box3' hwx
  have hsx0 : wx.heap.size = w.heap.size + 3 := by rw [← hwx]; simp
  have hsx1 : w.heap.size + 3 ≤ wx.heap.size := by omega
  have hsx2 : wx.heap.size ≤ w.heap.size + 3 := by omega
  have HXT : Hid (Bx wx w.heap.size t) := by rw [← hwx]; exact ⟨by simp [go_sem], by simp [go_sem]⟩
  have HXP : Hid (PBx wx (w.heap.size + 1) p (.slice D p.kids.length ep)) := by rw [← hwx]; exact ⟨by simp [go_sem], by simp [go_sem], by simp [go_sem], by simp [go_sem], by simp [go_sem], by simp [go_sem]⟩
  have HXR : Hid (ZbV wx (w.heap.size + 2)) := by
    have h := ZbV.new ((w.alloc (.cells #[.int .i64 t.data, .int .i64 t.index] 31)).alloc (.cells #[.int .i64 p.op, .int .i64 p.ctor, .int .i64 p.n, .int .i64 p.m, .int .i64 p.var, .slice D p.kids.length ep] 45))
    simp only [World.size_alloc] at h
    unfold Hid; rw [← hwx]; exact h
  have HW := Lib.hid hwx
  clear hwx hsx0
  obtain ⟨x0, x1⟩ := HXT.out
  obtain ⟨y0, y1, y2, y3, y4, y5⟩ := HXP.out
  by_cases hv0 : pvT l t p = true
  ·
    obtain ⟨hsh, h60⟩ := pvT_sh hv0
    have ht : TyOK l t := by
      by_cases ht : TyOK l t
      · exact ht
      · rw [pvT_no ht] at hv0; cases hv0
    have HVT := Lib.hid hv0
    have HSH := Lib.hid hsh
    have H60 := Lib.hid h60
    have HK := Lib.hid ht
    have HWO : Hid (WorldOK l) := ht.1
    have HIT : Hid (∀ v, vvT l t v = isV l t v) := fun v => vvT_yes ht
    clear hv0 hsh ht h60
    go_enter Tryz.func26, Tryz.ntmps26
    go_wp2_with fail
    rw [HW.out]
    refine (pv_impl A D l cap ep e t p _ (Hr.out.at_ hbx) (HV.out.at_ hbx)).mono ?_
    rw [HVT.out]
    rintro e1 w1 ⟨rfl, hb1⟩
    have hbw1 := below_aft hbx hb1 hbx.size
    have HX1 := Lib.hid (HXT.out.at_ hb1)
    have HP1 := Lib.hid (HXP.out.at_ hb1)
    have HR1 : Hid (ZbV w1 (w.heap.size + 2)) := HXR.out.at_ hb1
    have hs1 := hb1.size
    clear x0 x1 y0 y1 y2 y3 y4 y5 hb1
    go_wp2_with fail
    refine (spaces_any A l cap _ (Hr.out.at_ hbw1) HWO.out).mono ?_
    rintro e2 w2 ⟨mb, rfl, hM, hb2⟩
    have hbw2 := below_aft hbw1 hb2 hbw1.size
    have hs2 := hb2.size
    generalize hw3 : w2.alloc (.cells #[.slice A l.length cap, .map (some mb)] 110) = w3
    have hb3 : Below w2.heap.size w2 w3 := by rw [← hw3]; exact (Below.refl _ _).alloc (Nat.le_refl _) _
    have HXS : Hid (SpB w3 w2.heap.size A l cap mb) := by rw [← hw3]; exact ⟨by simp [go_sem], by simp [go_sem]⟩
    have HM3 : Hid (MapTy w3 mb 400 (ldep l) (Inh l)) := hM.at_ hb3
    have HW3 := Lib.hid hw3
    have hb13 := below_aft hb2 hb3 hb2.size
    have hbw3 := below_aft hbw2 hb3 hbw2.size
    have HX3 := Lib.hid (HX1.out.at_ hb13)
    have HP3 := Lib.hid (HP1.out.at_ hb13)
    have HR3 : Hid (ZbV w3 (w.heap.size + 2)) := HR1.out.at_ hb13
    have hs3 := hb3.size
    obtain ⟨x0, x1⟩ := HX1.out.at_ hb2
    obtain ⟨y0, y1, y2, y3, y4, y5⟩ := HP1.out.at_ hb2
    have hlt0 : w.heap.size < w2.heap.size := Go.block_lt_of_cell x0
    have hlt1 : w.heap.size + 1 < w2.heap.size := Go.block_lt_of_cell y0
    clear hM hb2 hb3 hw3 hb13
    have HGT := Lib.hid (gd_top HWO.out 10 t p HK.out HSH.out)
    have HGN := Lib.hid (gdP_nonneg l 10 t p)
    have HGL := Lib.hid (gd_lo l 10 t p)
    have hgr := gdI_any l 10 A D cap mb ep e t p w3 (Hr.out.at_ hbw3) HM3.out HK.out HSH.out (HV.out.at_ hbw3)
    generalize gdP l 10 t p = gd at HGT HGN HGL hgr
    have HGR := Lib.hid hgr
    clear hgr
    go_wp2_with fail
    rw [HW3.out]
    refine HGR.out.mono ?_
    rintro e4 w4 ⟨rfl, hb4⟩
    have hbw4 := below_aft hbw3 hb4 hbw3.size
    have HX4 := Lib.hid (HX3.out.at_ hb4)
    have HP4 := Lib.hid (HP3.out.at_ hb4)
    have HS4 := Lib.hid (HXS.out.at_ hb4)
    have HR4 : Hid (ZbV w4 (w.heap.size + 2)) := HR3.out.at_ hb4
    have HM4 : Hid (MapTy w4 mb 400 (ldep l) (Inh l)) := HM3.out.at_ hb4
    have hs4 := hb4.size
    clear x0 x1 y0 y1 y2 y3 y4 y5 hb4
    by_cases h10 : gd ≤ 10
    · have q10 : decide (10 < gd) = false := decide_eq_false (by omega)
      have HLO : Hid (loP l 10 t p = true) := by unfold Hid; rw [← HGL.out]; exact decide_eq_true h10
      clear h10
      obtain ⟨s0, s1⟩ := HS4.out
      obtain ⟨x0, x1⟩ := HX4.out
      obtain ⟨y0, y1, y2, y3, y4, y5⟩ := HP4.out
      have hsi := siI_any l 10 A D cap mb ep e t p w4 (Hr.out.at_ hbw4) HM4.out HK.out HSH.out (HV.out.at_ hbw4)
      by_cases hok : okS l 10 t p = true
      · have HSI : Hid (Calls Tryz.prog 75 #[.agg #[.slice A l.length cap, .map (some mb)], .agg #[.int .i64 t.data, .int .i64 t.index], .agg #[.int .i64 p.op, .int .i64 p.ctor, .int .i64 p.n, .int .i64 p.m, .int .i64 p.var, .slice D p.kids.length ep]] w4 fun e w' => ∃ B c, e = .returned (.tuple #[.agg #[.int .i64 (svP l 10 t p).ctor, .int .i64 (svP l 10 t p).n, .slice B (svP l 10 t p).kids.length c], .bool true]) ∧ OVs 20 w' (Nw w4 w') B (svP l 10 t p).kids ∧ Below w4.heap.size w4 w') := by
          refine hsi.mono ?_
          rintro e w' ⟨B, c, he, ho, hb⟩
          rw [siR_yes hok] at he ho
          rw [hok] at he
          exact ⟨B, c, he, ho, hb⟩
        have HSM := Lib.hid (sm_of l 10 t p HSH.out hok)
        have HWV := Lib.hid (svP_w HSH.out H60.out)
        have HYB : Hid (isV l t (svP l 10 t p) = true → spB l t p = true) := fun h => spB_yes HVT.out HSM.out HLO.out h
        have HNB : Hid (isV l t (svP l 10 t p) = false → spB l t p = false) := fun h => spB_is h
        obtain ⟨v, hv⟩ : ∃ v, svP l 10 t p = v := ⟨_, rfl⟩
        have HVV := Lib.hid hv
        rw [hv] at HSI HWV HYB HNB
        clear hsi hok hv
        go_wp2_with fail
        refine HSI.out.mono ?_
        rintro e5 w5 ⟨B5, c5, rfl, ho5, hb5⟩
        have hst := StV.new (w1 := w4) (c := c5) hb5 ho5 (fun b h => h)
        obtain ⟨w6, hw6⟩ : ∃ w6, w6 = w5.alloc (.cells #[.int .i64 v.ctor, .int .i64 v.n, .slice B5 v.kids.length c5] 51) := ⟨_, rfl⟩
        rw [← hw6] at hst
        have HST := Lib.hid hst
        have hb46 := hst.2.1
        have hbw6 := below_aft hbw4 hb46 hbw4.size
        have HX6 := Lib.hid (HX4.out.at_ hb46)
        have HR6 : Hid (ZbV w6 (w.heap.size + 2)) := HR4.out.at_ hb46
        have HW6 := Lib.hid hw6
        have HRV : Hid (RVs 19 w6 w6.heap.size B5 v.kids) := OVs.reads 19 hst.2.2.2
        obtain ⟨u0, u1⟩ := HX4.out.at_ hb5
        have hlt5 : w.heap.size < w5.heap.size := Go.block_lt_of_cell u0
        clear s0 s1 x0 x1 y0 y1 y2 y3 y4 y5 hw6 hst ho5
        by_cases hv : isV l t v = true
        · have HVI := Lib.hid ((HIT.out v).trans hv)
          have HY := Lib.hid (HYB.out hv)
          clear hv
          go_wp2_with fail
          rw [← HW6.out]
          refine (vv_impl A B5 l cap c5 19 t v _ (Hr.out.at_ hbw6) HRV.out HWV.out).mono ?_
          rw [HVI.out]
          rintro e7 w7 ⟨rfl, hb7⟩
          have hbw7 := below_aft hbw6 hb7 hbw6.size
          have HST7 := Lib.hid (HST.out.later hb7)
          obtain ⟨v0, v1, v2⟩ := HST7.out.cells
          clear u0 u1
          have hrr : w7.heap[w.heap.size + 2]? = some (.cells #[.int .i64 0, .int .i64 0, .slice none 0 0] 51 (0, 0)) := HR6.out.at_ hb7
          have r0 := (cell_of_blk hrr 0).trans rfl
          have r1 := (cell_of_blk hrr 1).trans rfl
          have r2 := (cell_of_blk hrr 2).trans rfl
          have f0 := frozen_of_row w7 (w.heap.size + 2) 0 _ 51 hrr
          have f1 := frozen_of_row w7 (w.heap.size + 2) 1 _ 51 hrr
          have f2 := frozen_of_row w7 (w.heap.size + 2) 2 _ 51 hrr
          clear hrr
          go_wp2_with fail
          refine bodyPost_ret (v := .tuple #[.agg #[.int .i64 v.ctor, .int .i64 v.n, .slice B5 v.kids.length c5], .bool true]) (by simp [results, Tryz.results26, go_sem, r0, r1, r2]) rfl (SpT.yes HVV.out HY.out ?_ ?_)
          · refine Below.setCell (Below.setCell (Below.setCell hbw7 ?_ _) ?_ _) ?_ _ <;> (simp <;> omega)
          · exact (HST7.out.2.2.2.fr _ (((Fr.set (P := fun b => b = w.heap.size + 2) _ _ _ _ rfl).trans (Fr.set _ _ _ _ rfl)).trans (Fr.set _ _ _ _ rfl)) (fun b hq e => by have := hq.1; omega)).wide _ (fun b hq => ⟨by have := hq.1; omega, by have h2 := hq.2.1; simpa [World.setCell] using h2⟩)
        · have hvf : isV l t v = false := by simpa using hv
          have HVI := Lib.hid ((HIT.out v).trans hvf)
          have HN := Lib.hid (HNB.out hvf)
          clear hv hvf
          go_wp2_with fail
          rw [← HW6.out]
          refine (vv_impl A B5 l cap c5 19 t v _ (Hr.out.at_ hbw6) HRV.out HWV.out).mono ?_
          rw [HVI.out]
          rintro e7 w7 ⟨rfl, hb7⟩
          have hbw7 := below_aft hbw6 hb7 hbw6.size
          clear u0 u1
          have hrr : w7.heap[w.heap.size + 2]? = some (.cells #[.int .i64 0, .int .i64 0, .slice none 0 0] 51 (0, 0)) := HR6.out.at_ hb7
          have r0 := (cell_of_blk hrr 0).trans rfl
          have r1 := (cell_of_blk hrr 1).trans rfl
          have r2 := (cell_of_blk hrr 2).trans rfl
          have f0 := frozen_of_row w7 (w.heap.size + 2) 0 _ 51 hrr
          have f1 := frozen_of_row w7 (w.heap.size + 2) 1 _ 51 hrr
          have f2 := frozen_of_row w7 (w.heap.size + 2) 2 _ 51 hrr
          clear hrr
          go_wp2_with fail
          refine bodyPost_ret (v := .tuple #[.agg #[.int .i64 0, .int .i64 0, .slice none 0 0], .bool false]) (by simp [results, Tryz.results26, go_sem, r0, r1, r2]) rfl (SpT.no HN.out ?_)
          refine Below.setCell (Below.setCell (Below.setCell hbw7 ?_ _) ?_ _) ?_ _ <;> (simp <;> omega)
      · have hok' : okS l 10 t p = false := by simpa using hok
        have HN := Lib.hid (spB_ok HK.out HSH.out hok')
        have HSI : Hid (Calls Tryz.prog 75 #[.agg #[.slice A l.length cap, .map (some mb)], .agg #[.int .i64 t.data, .int .i64 t.index], .agg #[.int .i64 p.op, .int .i64 p.ctor, .int .i64 p.n, .int .i64 p.m, .int .i64 p.var, .slice D p.kids.length ep]] w4 fun e w' => ∃ B c, e = .returned (.tuple #[.agg #[.int .i64 0, .int .i64 0, .slice B 0 c], .bool false]) ∧ Below w4.heap.size w4 w') := by
          refine hsi.mono ?_
          rintro e w' ⟨B, c, he, ho, hb⟩
          rw [siR_no hok', hok'] at he
          exact ⟨B, c, he, hb⟩
        clear hsi hok hok'
        go_wp2_with fail
        refine HSI.out.mono ?_
        rintro e5 w5 ⟨B5, c5, rfl, hb5⟩
        have hbw5 := below_aft hbw4 hb5 hbw4.size
        have hb56 : Below w5.heap.size w5 (w5.alloc (.cells #[.int .i64 0, .int .i64 0, .slice B5 0 c5] 51)) := (Below.refl _ _).alloc (Nat.le_refl _) _
        have hb46 := below_aft hb5 hb56 hb5.size
        have hbw6 := below_aft hbw4 hb46 hbw4.size
        clear s0 s1 x0 x1 y0 y1 y2 y3 y4 y5
        have hrr : (w5.alloc (.cells #[.int .i64 0, .int .i64 0, .slice B5 0 c5] 51)).heap[w.heap.size + 2]? = some (.cells #[.int .i64 0, .int .i64 0, .slice none 0 0] 51 (0, 0)) := HR4.out.at_ hb46
        have r0 := (cell_of_blk hrr 0).trans rfl
        have r1 := (cell_of_blk hrr 1).trans rfl
        have r2 := (cell_of_blk hrr 2).trans rfl
        have f0 := frozen_of_row (w5.alloc (.cells #[.int .i64 0, .int .i64 0, .slice B5 0 c5] 51)) (w.heap.size + 2) 0 _ 51 hrr
        have f1 := frozen_of_row (w5.alloc (.cells #[.int .i64 0, .int .i64 0, .slice B5 0 c5] 51)) (w.heap.size + 2) 1 _ 51 hrr
        have f2 := frozen_of_row (w5.alloc (.cells #[.int .i64 0, .int .i64 0, .slice B5 0 c5] 51)) (w.heap.size + 2) 2 _ 51 hrr
        clear hrr
        go_wp2_with fail
        refine bodyPost_ret (v := .tuple #[.agg #[.int .i64 0, .int .i64 0, .slice none 0 0], .bool false]) (by simp [results, Tryz.results26, go_sem, r0, r1, r2]) rfl (SpT.no HN.out ?_)
        refine Below.setCell (Below.setCell (Below.setCell hbw6 ?_ _) ?_ _) ?_ _ <;> (simp <;> omega)
    · have q10 : decide (10 < gd) = true := decide_eq_true (by omega)
      have HLO : Hid (loP l 10 t p = false) := by unfold Hid; rw [← HGL.out]; exact decide_eq_false h10
      have HN := Lib.hid (spB_lo HLO.out)
      clear h10
      have hrr : w4.heap[w.heap.size + 2]? = some (.cells #[.int .i64 0, .int .i64 0, .slice none 0 0] 51 (0, 0)) := HR4.out
      have r0 := (cell_of_blk hrr 0).trans rfl
      have r1 := (cell_of_blk hrr 1).trans rfl
      have r2 := (cell_of_blk hrr 2).trans rfl
      have f0 := frozen_of_row w4 (w.heap.size + 2) 0 _ 51 hrr
      have f1 := frozen_of_row w4 (w.heap.size + 2) 1 _ 51 hrr
      have f2 := frozen_of_row w4 (w.heap.size + 2) 2 _ 51 hrr
      clear hrr
      go_wp2_with fail
      refine bodyPost_ret (v := .tuple #[.agg #[.int .i64 0, .int .i64 0, .slice none 0 0], .bool false]) (by simp [results, Tryz.results26, go_sem, r0, r1, r2]) rfl (SpT.no HN.out ?_)
      refine Below.setCell (Below.setCell (Below.setCell hbw4 ?_ _) ?_ _) ?_ _ <;> (simp <;> omega)
  · have hv1 : pvT l t p = false := by simpa using hv0
    have HVT := Lib.hid hv1
    have HN := Lib.hid (spB_val hv1)
    clear hv0 hv1
    go_enter Tryz.func26, Tryz.ntmps26
    go_wp2_with fail
    rw [HW.out]
    refine (pv_impl A D l cap ep e t p _ (Hr.out.at_ hbx) (HV.out.at_ hbx)).mono ?_
    rw [HVT.out]
    rintro e1 w1 ⟨rfl, hb1⟩
    have hbw1 := below_aft hbx hb1 hbx.size
    clear x0 x1 y0 y1 y2 y3 y4 y5
    have hrr : w1.heap[w.heap.size + 2]? = some (.cells #[.int .i64 0, .int .i64 0, .slice none 0 0] 51 (0, 0)) := HXR.out.at_ hb1
    have r0 := (cell_of_blk hrr 0).trans rfl
    have r1 := (cell_of_blk hrr 1).trans rfl
    have r2 := (cell_of_blk hrr 2).trans rfl
    have f0 := frozen_of_row w1 (w.heap.size + 2) 0 _ 51 hrr
    have f1 := frozen_of_row w1 (w.heap.size + 2) 1 _ 51 hrr
    have f2 := frozen_of_row w1 (w.heap.size + 2) 2 _ 51 hrr
    clear hrr
    go_wp2_with fail
    refine bodyPost_ret (v := .tuple #[.agg #[.int .i64 0, .int .i64 0, .slice none 0 0], .bool false]) (by simp [results, Tryz.results26, go_sem, r0, r1, r2]) rfl (SpT.no HN.out ?_)
    refine Below.setCell (Below.setCell (Below.setCell hbw1 ?_ _) ?_ _) ?_ _ <;> (simp <;> omega)
set_option maxHeartbeats 8000000 in
theorem sp_spec (A D : Option Addr) (l : List Da) (cap ep e : Nat) (t : Ty) (p : Pt) (w : World) (hr : RDas w w.heap.size A l) (hv : RPs e w w.heap.size D p.kids) (hn : wP p ≤ 1048576) :
    Calls Tryz.prog 25 #[.slice A l.length cap, .agg #[.int .i64 t.data, .int .i64 t.index], .agg #[.int .i64 p.op, .int .i64 p.ctor, .int .i64 p.n, .int .i64 p.m, .int .i64 p.var, .slice D p.kids.length ep]] w (SpT l t p w) := by
  have Hr := Lib.hid hr
  have HV := Lib.hid hv
  clear hr hv
  generalize hwx : ((w.alloc (.cells #[.int .i64 t.data, .int .i64 t.index] 31)).alloc (.cells #[.int .i64 p.op, .int .i64 p.ctor, .int .i64 p.n, .int .i64 p.m, .int .i64 p.var, .slice D p.kids.length ep] 45)).alloc (.cells #[.int .i64 0, .int .i64 0, .slice none 0 0] 51) = wx
  have hbx : Below w.heap.size w wx := below_box3' hwx
  have hsx0 : wx.heap.size = w.heap.size + 3 := by rw [← hwx]; simp
  have hsx1 : w.heap.size + 3 ≤ wx.heap.size := by omega
  have hsx2 : wx.heap.size ≤ w.heap.size + 3 := by omega
  have HXT : Hid (Bx wx w.heap.size t) := by rw [← hwx]; exact ⟨by simp [go_sem], by simp [go_sem]⟩
  have HXP : Hid (PBx wx (w.heap.size + 1) p (.slice D p.kids.length ep)) := by rw [← hwx]; exact ⟨by simp [go_sem], by simp [go_sem], by simp [go_sem], by simp [go_sem], by simp [go_sem], by simp [go_sem]⟩
  have HXR : Hid (ZbV wx (w.heap.size + 2)) := by
    have h := ZbV.new ((w.alloc (.cells #[.int .i64 t.data, .int .i64 t.index] 31)).alloc (.cells #[.int .i64 p.op, .int .i64 p.ctor, .int .i64 p.n, .int .i64 p.m, .int .i64 p.var, .slice D p.kids.length ep] 45))
    simp only [World.size_alloc] at h
    unfold Hid; rw [← hwx]; exact h
  have HW := Lib.hid hwx
  clear hwx hsx0
  obtain ⟨x0, x1⟩ := HXT.out
  obtain ⟨y0, y1, y2, y3, y4, y5⟩ := HXP.out
  by_cases hv0 : pvT l t p = true
  ·
    obtain ⟨hsh, h60⟩ := pvT_sh hv0
    have ht : TyOK l t := by
      by_cases ht : TyOK l t
      · exact ht
      · rw [pvT_no ht] at hv0; cases hv0
    have HVT := Lib.hid hv0
    have HSH := Lib.hid hsh
    have H60 := Lib.hid h60
    have HK := Lib.hid ht
    have HWO : Hid (WorldOK l) := ht.1
    have HIT : Hid (∀ v, vvT l t v = isV l t v) := fun v => vvT_yes ht
    clear hv0 hsh ht h60
    by_cases hm : smP l 10 t p = true
    · have HSM := Lib.hid hm
      have HEF : Hid (emB l t p = false) := by unfold Hid; rw [emB_yes HVT.out, hm]; rfl
      have HKS : Hid (∀ W, Below wx.heap.size wx W → W.cell? ⟨w.heap.size, 0, none⟩ = some (.int .i64 t.data) ∧ W.cell? ⟨w.heap.size, 1, none⟩ = some (.int .i64 t.index) ∧ W.cell? ⟨w.heap.size + 1, 0, none⟩ = some (.int .i64 p.op) ∧ W.cell? ⟨w.heap.size + 1, 1, none⟩ = some (.int .i64 p.ctor) ∧ W.cell? ⟨w.heap.size + 1, 2, none⟩ = some (.int .i64 p.n) ∧ W.cell? ⟨w.heap.size + 1, 3, none⟩ = some (.int .i64 p.m) ∧ W.cell? ⟨w.heap.size + 1, 4, none⟩ = some (.int .i64 p.var) ∧ W.cell? ⟨w.heap.size + 1, 5, none⟩ = some (.slice D p.kids.length ep)) := fun W h => by
        obtain ⟨a0, a1⟩ := HXT.out.at_ h
        exact ⟨a0, a1, HXP.out.at_ h⟩
      have HPV : Hid (∀ W, Below wx.heap.size wx W → Calls Tryz.prog 64 #[.slice A l.length cap, .agg #[.int .i64 t.data, .int .i64 t.index], .agg #[.int .i64 p.op, .int .i64 p.ctor, .int .i64 p.n, .int .i64 p.m, .int .i64 p.var, .slice D p.kids.length ep]] W fun e w' => e = .returned (.bool true) ∧ Below W.heap.size W w') := fun W h => by
        have hq := pv_spec A D l cap ep e t p W ((Hr.out.at_ hbx).at_ h) ((HV.out.at_ hbx).at_ h) hn
        rw [HVT.out] at hq
        exact hq
      have HPE : Hid (∀ W, Below wx.heap.size wx W → Calls Tryz.prog 21 #[.slice A l.length cap, .agg #[.int .i64 t.data, .int .i64 t.index], .agg #[.int .i64 p.op, .int .i64 p.ctor, .int .i64 p.n, .int .i64 p.m, .int .i64 p.var, .slice D p.kids.length ep]] W fun e w' => e = .returned (.bool false) ∧ Below W.heap.size W w') := fun W h => by
        have hq := em_spec A D l cap ep e t p W ((Hr.out.at_ hbx).at_ h) ((HV.out.at_ hbx).at_ h) hn
        rw [HEF.out] at hq
        exact hq
      have HLW : Hid (∀ (W : World) (A2 : Option Addr) (T : List Int) (c2 : Nat), Below wx.heap.size wx W → RInts W A2 T → St l T (l.length * 4 + 1) 0 0 → Calls Tryz.prog 71 #[.slice A l.length cap, .slice A2 (l.length * 4) c2, .agg #[.int .i64 t.data, .int .i64 t.index], .agg #[.int .i64 p.op, .int .i64 p.ctor, .int .i64 p.n, .int .i64 p.m, .int .i64 p.var, .slice D p.kids.length ep]] W fun e w' => e = .returned (.bool (loP l 10 t p)) ∧ Below W.heap.size W w') := fun W A2 T c2 h hT hS => loS_any l 10 A A2 D T cap c2 ep e t p W ((Hr.out.at_ hbx).at_ h) hT hS HK.out HSH.out ((HV.out.at_ hbx).at_ h)
      have HTB : Hid (∀ W, Below wx.heap.size wx W → Calls Tryz.prog 66 #[.slice A l.length cap] W fun e w' => ∃ T B, e = .returned (.slice (some ⟨B, 0, none⟩) (l.length * 4) (l.length * 4)) ∧ T.length = l.length * 4 ∧ RInts w' (some ⟨B, 0, none⟩) T ∧ St l T (l.length * 4 + 1) 0 0 ∧ Below W.heap.size W w') := fun W h => table_l A l cap W ((Hr.out.at_ hbx).at_ h) HWO.out
      have HBD : Hid (Below wx.heap.size wx wx.drew) := (Below.refl _ wx).drew
      obtain ⟨lo, hlo⟩ : ∃ lo, loP l 10 t p = lo := ⟨_, rfl⟩
      rw [hlo] at HLW
      have HLO := Lib.hid hlo
      have SQ := HKS.out wx.drew HBD.out
      clear hm x0 x1 y0 y1 y2 y3 y4 y5 hlo
      go_enter Tryz.func25, Tryz.ntmps25
      go_wp2_with fail
      rw [HW.out]
      cases lo with
      | false =>
        go_region_held3 (fun w' => w'.cell? ⟨w.heap.size, 0, none⟩ = some (.int .i64 t.data) ∧ w'.cell? ⟨w.heap.size, 1, none⟩ = some (.int .i64 t.index) ∧ w'.cell? ⟨w.heap.size + 1, 0, none⟩ = some (.int .i64 p.op) ∧ w'.cell? ⟨w.heap.size + 1, 1, none⟩ = some (.int .i64 p.ctor) ∧ w'.cell? ⟨w.heap.size + 1, 2, none⟩ = some (.int .i64 p.n) ∧ w'.cell? ⟨w.heap.size + 1, 3, none⟩ = some (.int .i64 p.m) ∧ w'.cell? ⟨w.heap.size + 1, 4, none⟩ = some (.int .i64 p.var) ∧ w'.cell? ⟨w.heap.size + 1, 5, none⟩ = some (.slice D p.kids.length ep)) (with_reducible exact SQ) (first
          | (go_at_call 64; (with_reducible refine (HPV.out wx.drew HBD.out).mono ?_); rintro e1 w1 ⟨rfl, hb'⟩; have hbq : Below wx.heap.size wx w1 := ⟨hb'.os, hb'.tape, hb'.output, hb'.size, hb'.block⟩; have SQ := HKS.out _ hbq; clear hb')
          | (go_at_call 21; (with_reducible refine (HPE.out w1 hbq).mono ?_); rintro e2 w2 ⟨rfl, hb'⟩; have hbq := below_aft hbq hb' hbq.size; have SQ := HKS.out _ hbq; clear hb')
          | (go_at_call 66; (with_reducible refine (HTB.out w2 hbq).mono ?_); rintro e3 w3 ⟨T, B, rfl, _, hT, hS, hb'⟩; have hbq := below_aft hbq hb' hbq.size; have SQ := HKS.out _ hbq; have HTT := Lib.hid hT; have HSS := Lib.hid hS; clear hb' hT hS)
          | (go_at_call 71; (with_reducible refine (HLW.out w3 _ T _ hbq HTT.out HSS.out).mono ?_); rintro e4 w4 ⟨rfl, hb'⟩; have hbq := below_aft hbq hb' hbq.size; have SQ := HKS.out _ hbq; clear hb'))
        all_goals
          clear SQ
          have hbw4 := below_aft hbx hbq hbx.size
          have HN := Lib.hid (spB_lo HLO.out)
          have hrr : w4.heap[w.heap.size + 2]? = some (.cells #[.int .i64 0, .int .i64 0, .slice none 0 0] 51 (0, 0)) := HXR.out.at_ hbq
          have r0 := (cell_of_blk hrr 0).trans rfl
          have r1 := (cell_of_blk hrr 1).trans rfl
          have r2 := (cell_of_blk hrr 2).trans rfl
          have f0 := frozen_of_row w4 (w.heap.size + 2) 0 _ 51 hrr
          have f1 := frozen_of_row w4 (w.heap.size + 2) 1 _ 51 hrr
          have f2 := frozen_of_row w4 (w.heap.size + 2) 2 _ 51 hrr
          clear hrr
          go_wp2_with fail
          refine bodyPost_ret (v := .tuple #[.agg #[.int .i64 0, .int .i64 0, .slice none 0 0], .bool false]) (by simp [results, Tryz.results25, go_sem, r0, r1, r2]) rfl (SpT.no HN.out ?_)
          refine Below.setCell (Below.setCell (Below.setCell hbw4 ?_ _) ?_ _) ?_ _ <;> (simp <;> omega)
      | true =>
        have HWV := Lib.hid (svP_w HSH.out H60.out)
        have HYB : Hid (isV l t (svP l 10 t p) = true → spB l t p = true) := fun h => spB_yes HVT.out HSM.out HLO.out h
        have HNB : Hid (isV l t (svP l 10 t p) = false → spB l t p = false) := fun h => spB_is h
        have HSV : Hid (∀ (W : World) (A2 : Option Addr) (T : List Int) (c2 : Nat), Below wx.heap.size wx W → RInts W A2 T → St l T (l.length * 4 + 1) 0 0 → Calls Tryz.prog 72 #[.slice A l.length cap, .slice A2 (l.length * 4) c2, .agg #[.int .i64 t.data, .int .i64 t.index], .agg #[.int .i64 p.op, .int .i64 p.ctor, .int .i64 p.n, .int .i64 p.m, .int .i64 p.var, .slice D p.kids.length ep]] W fun e w' => ∃ B c, e = .returned (.agg #[.int .i64 (svP l 10 t p).ctor, .int .i64 (svP l 10 t p).n, .slice B (svP l 10 t p).kids.length c]) ∧ OVs 20 w' (Nw W w') B (svP l 10 t p).kids ∧ Below W.heap.size W w') := fun W A2 T c2 h hT hS => svS_any l 10 A A2 D T cap c2 ep e t p W ((Hr.out.at_ hbx).at_ h) hT hS HK.out HSH.out HSM.out HLO.out ((HV.out.at_ hbx).at_ h)
        obtain ⟨v, hv⟩ : ∃ v, svP l 10 t p = v := ⟨_, rfl⟩
        rw [hv] at HWV HYB HNB HSV
        have HVV := Lib.hid hv
        clear hv
        go_region_held3 (fun w' => w'.cell? ⟨w.heap.size, 0, none⟩ = some (.int .i64 t.data) ∧ w'.cell? ⟨w.heap.size, 1, none⟩ = some (.int .i64 t.index) ∧ w'.cell? ⟨w.heap.size + 1, 0, none⟩ = some (.int .i64 p.op) ∧ w'.cell? ⟨w.heap.size + 1, 1, none⟩ = some (.int .i64 p.ctor) ∧ w'.cell? ⟨w.heap.size + 1, 2, none⟩ = some (.int .i64 p.n) ∧ w'.cell? ⟨w.heap.size + 1, 3, none⟩ = some (.int .i64 p.m) ∧ w'.cell? ⟨w.heap.size + 1, 4, none⟩ = some (.int .i64 p.var) ∧ w'.cell? ⟨w.heap.size + 1, 5, none⟩ = some (.slice D p.kids.length ep)) (with_reducible exact SQ) (first
          | (go_at_call 64; (with_reducible refine (HPV.out wx.drew HBD.out).mono ?_); rintro e1 w1 ⟨rfl, hb'⟩; have hbq : Below wx.heap.size wx w1 := ⟨hb'.os, hb'.tape, hb'.output, hb'.size, hb'.block⟩; have SQ := HKS.out _ hbq; clear hb')
          | (go_at_call 21; (with_reducible refine (HPE.out w1 hbq).mono ?_); rintro e2 w2 ⟨rfl, hb'⟩; have hbq := below_aft hbq hb' hbq.size; have SQ := HKS.out _ hbq; clear hb')
          | (go_at_call 66; (with_reducible refine (HTB.out w2 hbq).mono ?_); rintro e3 w3 ⟨T, B, rfl, _, hT, hS, hb'⟩; have hbq := below_aft hbq hb' hbq.size; have SQ := HKS.out _ hbq; have HTT := Lib.hid hT; have HSS := Lib.hid hS; clear hb' hT hS)
          | (go_at_call 71; (with_reducible refine (HLW.out w3 _ T _ hbq HTT.out HSS.out).mono ?_); rintro e4 w4 ⟨rfl, hb'⟩; have hbq := below_aft hbq hb' hbq.size; have SQ := HKS.out _ hbq; clear hb'))
        clear SQ HTT HSS
        have HQ := Lib.hid hbq
        have hs4 := hbq.size
        clear hbq
        generalize w4 = wq at *
        have SQ := HKS.out wq.drew HQ.out.drew
        have SQ1 := HKS.out ((wq.alloc (.cells #[.int .i64 0, .int .i64 0, .slice none 0 0] 51)).drew) (HQ.out.alloc hs4 _).drew
        have HBZ : Hid (Below wq.heap.size wq ((wq.alloc (.cells #[.int .i64 0, .int .i64 0, .slice none 0 0] 51)).drew)) := ((Below.refl _ wq).alloc (Nat.le_refl _) _).drew
        have HK2 : Hid (∀ W, Below wq.heap.size wq W → Below wx.heap.size wx W) := fun W h => below_aft HQ.out h hs4
        have HDZ : Hid (((wq.alloc (.cells #[.int .i64 0, .int .i64 0, .slice none 0 0] 51)).drew).heap.size = wq.heap.size + 1) := World.size_alloc _ _
        go_upto_region 3 with fail
        go_cut [8] (fun s8 wz => ∃ g B c, s8 = .pointer (some ⟨g, 0, none⟩) ∧ StV 20 wq g v B c wz)
        case first =>
          go_region_held3 (fun w' => w'.cell? ⟨w.heap.size, 0, none⟩ = some (.int .i64 t.data) ∧ w'.cell? ⟨w.heap.size, 1, none⟩ = some (.int .i64 t.index) ∧ w'.cell? ⟨w.heap.size + 1, 0, none⟩ = some (.int .i64 p.op) ∧ w'.cell? ⟨w.heap.size + 1, 1, none⟩ = some (.int .i64 p.ctor) ∧ w'.cell? ⟨w.heap.size + 1, 2, none⟩ = some (.int .i64 p.n) ∧ w'.cell? ⟨w.heap.size + 1, 3, none⟩ = some (.int .i64 p.m) ∧ w'.cell? ⟨w.heap.size + 1, 4, none⟩ = some (.int .i64 p.var) ∧ w'.cell? ⟨w.heap.size + 1, 5, none⟩ = some (.slice D p.kids.length ep)) (first | with_reducible exact SQ | with_reducible exact SQ1 | with_reducible exact (HKS.out _ (HK2.out _ (hbq.alloc hbq.size _))) | with_reducible exact (HKS.out _ (HK2.out _ (below_set3 hbq hgz _ _ _)))) (first
            | (go_at_call 66; (with_reducible refine (HTB.out wq.drew HQ.out.drew).mono ?_); rintro e5 w5 ⟨T, B, rfl, _, hT, hS, hb'⟩; have hbq : Below wq.heap.size wq w5 := ⟨hb'.os, hb'.tape, hb'.output, hb'.size, hb'.block⟩; have SQ := HKS.out _ (HK2.out _ hbq); have HTT := Lib.hid hT; have HSS := Lib.hid hS; have hs5 := hbq.size; clear hb' hT hS)
            | (go_at_call 66; (with_reducible refine (HTB.out ((wq.alloc (.cells #[.int .i64 0, .int .i64 0, .slice none 0 0] 51)).drew) (HK2.out _ HBZ.out)).mono ?_); rintro e5 w5 ⟨T, B, rfl, _, hT, hS, hb'⟩; have hbq : Below wq.heap.size wq w5 := HBZ.out.trans (hb'.mono (by have := HDZ.out; omega)); have SQ := HKS.out _ (HK2.out _ hbq); have HTT := Lib.hid hT; have HSS := Lib.hid hS; have hs5 := hbq.size; have hzb : ZbV w5 wq.heap.size := ZbV.at_ (w := (wq.alloc (.cells #[.int .i64 0, .int .i64 0, .slice none 0 0] 51)).drew) (ZbV.new wq) hb'; have hgz : wq.heap.size ≤ wq.heap.size := Nat.le_refl _; clear hb' hT hS)
            | (go_at_call 72; (with_reducible refine (HSV.out w5 _ T _ (HK2.out _ hbq) HTT.out HSS.out).mono ?_); rintro e6 w6 ⟨B0, c0, rfl, ho, hb'⟩; have hbq := below_aft hbq hb' hbq.size; have SQ := HKS.out _ (HK2.out _ hbq); have O6 := Lib.hid ho; (try (have hzd := hzb.at_ hb'; obtain ⟨k0, k1, k2, k3, k4, k5⟩ := hzd.cells)); clear ho hb')
            | (go_at_call 72; (with_reducible refine (HSV.out (w5.alloc (.cells #[.int .i64 0, .int .i64 0, .slice none 0 0] 51)) _ T _ (HK2.out _ (hbq.alloc hbq.size _)) (HTT.out.at_ ((Below.refl _ _).alloc (Nat.le_refl _) _)) HSS.out).mono ?_); rintro e6 w6 ⟨B0, c0, rfl, ho, hb'⟩; have hbq0 := hbq; have hbq := below_aft (hbq.alloc hbq.size _) hb' (by simp; have := hbq0.size; omega); have SQ := HKS.out _ (HK2.out _ hbq); have O6 := Lib.hid ho; have hzd : ZbV w6 w5.heap.size := ZbV.at_ (ZbV.new w5) hb'; have hgz : wq.heap.size ≤ w5.heap.size := hbq0.size; obtain ⟨k0, k1, k2, k3, k4, k5⟩ := hzd.cells; clear ho hb'))
          all_goals
            go_wp2_with fail
            go_meet
            refine ⟨_, B0, c0, rfl, ?_⟩
            first
            | ((with_reducible refine StV.new hbq O6.out ?_); (intro b h; have h1 : w5.heap.size ≤ b := h.1; have h2 := h.2; exact ⟨by omega, h2⟩))
            | ((unfold ZbV at hzd); (with_reducible refine StV.set hbq hzd hgz O6.out ?_); (intro b h; have h1 := h.1; have h2 := h.2; (try (have h3 := heap_lt hzb)); (try simp only [World.size_alloc] at h1); exact ⟨by omega, h2, by omega⟩))
        case rest =>
          clear SQ SQ1
          obtain ⟨g7, B7, c7, rfl, hst⟩ := hcut
          generalize wc = w7 at *
          have hb7 := HK2.out _ hst.2.1
          have hbw7 := below_aft hbx hb7 hbx.size
          have HST := Lib.hid hst
          have HX7 := Lib.hid (HXT.out.at_ hb7)
          have HR7 : Hid (ZbV w7 (w.heap.size + 2)) := HXR.out.at_ hb7
          have HRV : Hid (RVs 19 w7 w7.heap.size B7 v.kids) := OVs.reads 19 hst.2.2.2
          obtain ⟨x0, x1⟩ := HX7.out
          obtain ⟨v0, v1, v2⟩ := hst.cells
          clear hst hb7
          by_cases hvi : isV l t v = true
          · have HVI := Lib.hid hvi
            have HY := Lib.hid (HYB.out hvi)
            clear hvi
            go_wp2_with fail
            refine (isV_any A B7 l cap c7 19 t v _ (Hr.out.at_ hbw7) HK.out HRV.out HWV.out).mono ?_
            rw [HVI.out]
            rintro e8 w8 ⟨rfl, hb8⟩
            have hbw8 := below_aft hbw7 hb8 hbw7.size
            have HST8 := Lib.hid (HST.out.later hb8)
            clear v0 v1 v2 x0 x1
            obtain ⟨v0, v1, v2⟩ := HST8.out.cells
            have hrr : w8.heap[w.heap.size + 2]? = some (.cells #[.int .i64 0, .int .i64 0, .slice none 0 0] 51 (0, 0)) := HR7.out.at_ hb8
            have r0 := (cell_of_blk hrr 0).trans rfl
            have r1 := (cell_of_blk hrr 1).trans rfl
            have r2 := (cell_of_blk hrr 2).trans rfl
            have f0 := frozen_of_row w8 (w.heap.size + 2) 0 _ 51 hrr
            have f1 := frozen_of_row w8 (w.heap.size + 2) 1 _ 51 hrr
            have f2 := frozen_of_row w8 (w.heap.size + 2) 2 _ 51 hrr
            clear hrr
            go_wp2_with fail
            refine bodyPost_ret (v := .tuple #[.agg #[.int .i64 v.ctor, .int .i64 v.n, .slice B7 v.kids.length c7], .bool true]) (by simp [results, Tryz.results25, go_sem, r0, r1, r2]) rfl (SpT.yes HVV.out HY.out ?_ ?_)
            · refine Below.setCell (Below.setCell (Below.setCell hbw8 ?_ _) ?_ _) ?_ _ <;> (simp <;> omega)
            · exact (HST8.out.2.2.2.fr _ (((Fr.set (P := fun b => b = w.heap.size + 2) _ _ _ _ rfl).trans (Fr.set _ _ _ _ rfl)).trans (Fr.set _ _ _ _ rfl)) (fun b hq e => by have := hq.1; omega)).wide _ (fun b hq => ⟨by have := hq.1; omega, by have h2 := hq.2.1; simpa [World.setCell] using h2⟩)
          · have hvf : isV l t v = false := by simpa using hvi
            have HVI := Lib.hid hvf
            have HN := Lib.hid (HNB.out hvf)
            clear hvi hvf
            go_wp2_with fail
            refine (isV_any A B7 l cap c7 19 t v _ (Hr.out.at_ hbw7) HK.out HRV.out HWV.out).mono ?_
            rw [HVI.out]
            rintro e8 w8 ⟨rfl, hb8⟩
            have hbw8 := below_aft hbw7 hb8 hbw7.size
            clear v0 v1 v2 x0 x1
            have hrr : w8.heap[w.heap.size + 2]? = some (.cells #[.int .i64 0, .int .i64 0, .slice none 0 0] 51 (0, 0)) := HR7.out.at_ hb8
            have r0 := (cell_of_blk hrr 0).trans rfl
            have r1 := (cell_of_blk hrr 1).trans rfl
            have r2 := (cell_of_blk hrr 2).trans rfl
            have f0 := frozen_of_row w8 (w.heap.size + 2) 0 _ 51 hrr
            have f1 := frozen_of_row w8 (w.heap.size + 2) 1 _ 51 hrr
            have f2 := frozen_of_row w8 (w.heap.size + 2) 2 _ 51 hrr
            clear hrr
            go_wp2_with fail
            refine bodyPost_ret (v := .tuple #[.agg #[.int .i64 0, .int .i64 0, .slice none 0 0], .bool false]) (by simp [results, Tryz.results25, go_sem, r0, r1, r2]) rfl (SpT.no HN.out ?_)
            refine Below.setCell (Below.setCell (Below.setCell hbw8 ?_ _) ?_ _) ?_ _ <;> (simp <;> omega)
    · have hm1 : smP l 10 t p = false := by simpa using hm
      have HN := Lib.hid (spB_em hm1)
      have HEF : Hid (emB l t p = true) := by unfold Hid; rw [emB_yes HVT.out, hm1]; rfl
      have HPV : Hid (∀ W, Below wx.heap.size wx W → Calls Tryz.prog 64 #[.slice A l.length cap, .agg #[.int .i64 t.data, .int .i64 t.index], .agg #[.int .i64 p.op, .int .i64 p.ctor, .int .i64 p.n, .int .i64 p.m, .int .i64 p.var, .slice D p.kids.length ep]] W fun e w' => e = .returned (.bool true) ∧ Below W.heap.size W w') := fun W h => by
        have hq := pv_spec A D l cap ep e t p W ((Hr.out.at_ hbx).at_ h) ((HV.out.at_ hbx).at_ h) hn
        rw [HVT.out] at hq
        exact hq
      have HPE : Hid (∀ W, Below wx.heap.size wx W → Calls Tryz.prog 21 #[.slice A l.length cap, .agg #[.int .i64 t.data, .int .i64 t.index], .agg #[.int .i64 p.op, .int .i64 p.ctor, .int .i64 p.n, .int .i64 p.m, .int .i64 p.var, .slice D p.kids.length ep]] W fun e w' => e = .returned (.bool true) ∧ Below W.heap.size W w') := fun W h => by
        have hq := em_spec A D l cap ep e t p W ((Hr.out.at_ hbx).at_ h) ((HV.out.at_ hbx).at_ h) hn
        rw [HEF.out] at hq
        exact hq
      clear hm hm1
      go_enter Tryz.func25, Tryz.ntmps25
      go_wp2_with fail
      rw [HW.out]
      have g0 := cell_regrown x0
      have g1 := cell_regrown x1
      have g2 := cell_regrown y0
      have g3 := cell_regrown y1
      have g4 := cell_regrown y2
      have g5 := cell_regrown y3
      have g6 := cell_regrown y4
      have g7 := cell_regrown y5
      refine wp_region_quiet_below (by kernel_rfl) (by kernel_rfl) ?_
      repeat (quiet_step (first | exact Calls.regrown_of (HPV.out _ (below_regrown wx _ _)) | exact Calls.regrown_of (HPE.out _ (below_regrown wx _ _))))
      refine wpQuiet_nil ?_
      intro w1 hw'
      have hb1 : Below wx.heap.size wx w1 := by obtain ⟨⟨dq, osq⟩, h⟩ := hw'; subst h; exact below_regrown wx dq osq
      clear hw'
      have hbw1 := below_aft hbx hb1 hbx.size
      clear g0 g1 g2 g3 g4 g5 g6 g7 x0 x1 y0 y1 y2 y3 y4 y5
      have hrr : w1.heap[w.heap.size + 2]? = some (.cells #[.int .i64 0, .int .i64 0, .slice none 0 0] 51 (0, 0)) := HXR.out.at_ hb1
      have r0 := (cell_of_blk hrr 0).trans rfl
      have r1 := (cell_of_blk hrr 1).trans rfl
      have r2 := (cell_of_blk hrr 2).trans rfl
      have f0 := frozen_of_row w1 (w.heap.size + 2) 0 _ 51 hrr
      have f1 := frozen_of_row w1 (w.heap.size + 2) 1 _ 51 hrr
      have f2 := frozen_of_row w1 (w.heap.size + 2) 2 _ 51 hrr
      clear hrr
      go_wp2_with fail
      refine bodyPost_ret (v := .tuple #[.agg #[.int .i64 0, .int .i64 0, .slice none 0 0], .bool false]) (by simp [results, Tryz.results25, go_sem, r0, r1, r2]) rfl (SpT.no HN.out ?_)
      refine Below.setCell (Below.setCell (Below.setCell hbw1 ?_ _) ?_ _) ?_ _ <;> (simp <;> omega)
  · have hv1 : pvT l t p = false := by simpa using hv0
    have HVT := Lib.hid hv1
    have HN := Lib.hid (spB_val hv1)
    have HPV : Hid (∀ W, Below wx.heap.size wx W → Calls Tryz.prog 64 #[.slice A l.length cap, .agg #[.int .i64 t.data, .int .i64 t.index], .agg #[.int .i64 p.op, .int .i64 p.ctor, .int .i64 p.n, .int .i64 p.m, .int .i64 p.var, .slice D p.kids.length ep]] W fun e w' => e = .returned (.bool false) ∧ Below W.heap.size W w') := fun W h => by
      have hq := pv_spec A D l cap ep e t p W ((Hr.out.at_ hbx).at_ h) ((HV.out.at_ hbx).at_ h) hn
      rw [HVT.out] at hq
      exact hq
    clear hv0 hv1
    go_enter Tryz.func25, Tryz.ntmps25
    go_wp2_with fail
    rw [HW.out]
    have g0 := cell_regrown x0
    have g1 := cell_regrown x1
    have g2 := cell_regrown y0
    have g3 := cell_regrown y1
    have g4 := cell_regrown y2
    have g5 := cell_regrown y3
    have g6 := cell_regrown y4
    have g7 := cell_regrown y5
    refine wp_region_quiet_below (by kernel_rfl) (by kernel_rfl) ?_
    repeat (quiet_step (exact Calls.regrown_of (HPV.out _ (below_regrown wx _ _))))
    refine wpQuiet_nil ?_
    intro w1 hw'
    have hb1 : Below wx.heap.size wx w1 := by obtain ⟨⟨dq, osq⟩, h⟩ := hw'; subst h; exact below_regrown wx dq osq
    clear hw'
    have hbw1 := below_aft hbx hb1 hbx.size
    clear g0 g1 g2 g3 g4 g5 g6 g7 x0 x1 y0 y1 y2 y3 y4 y5
    have hrr : w1.heap[w.heap.size + 2]? = some (.cells #[.int .i64 0, .int .i64 0, .slice none 0 0] 51 (0, 0)) := HXR.out.at_ hb1
    have r0 := (cell_of_blk hrr 0).trans rfl
    have r1 := (cell_of_blk hrr 1).trans rfl
    have r2 := (cell_of_blk hrr 2).trans rfl
    have f0 := frozen_of_row w1 (w.heap.size + 2) 0 _ 51 hrr
    have f1 := frozen_of_row w1 (w.heap.size + 2) 1 _ 51 hrr
    have f2 := frozen_of_row w1 (w.heap.size + 2) 2 _ 51 hrr
    clear hrr
    go_wp2_with fail
    refine bodyPost_ret (v := .tuple #[.agg #[.int .i64 0, .int .i64 0, .slice none 0 0], .bool false]) (by simp [results, Tryz.results25, go_sem, r0, r1, r2]) rfl (SpT.no HN.out ?_)
    refine Below.setCell (Below.setCell (Below.setCell hbw1 ?_ _) ?_ _) ?_ _ <;> (simp <;> omega)
end Go.Proofs.YthecfkdilbfimaaGreat
