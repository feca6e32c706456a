/-
  ValueValid of the program and of the document. No statement is proved here.
-/
import Derived.Test.YteoopmogklpnoaaU41
import Derived.Test.YteoopmogklpnoaaU07
import Derived.Test.YteoopmogklpnoaaU20
import Derived.Test.YteoopmogklpnoaaU39
import Derived.Deep.DeepCutAuto
namespace Go.Proofs.Yteoopmogklpnoaa
open Go.RowKit Go.Sort Go.Deep
set_option maxRecDepth 100000
set_option linter.unusedVariables false
noncomputable def vvT (l : List Da) (t : Ty) (v : Vl) : Bool := dec (TyOK l t) && isV l t v
theorem vvT_yes {l : List Da} {t : Ty} {v : Vl} (h : TyOK l t) : vvT l t v = isV l t v := by unfold vvT; rw [dec_t h]; rfl
theorem vvT_no {l : List Da} {t : Ty} {v : Vl} (h : ¬ TyOK l t) : vvT l t v = false := by unfold vvT; rw [dec_f h]; rfl
theorem ndS_any (l : List Da) : ∀ d, d < 100 → NdS l d
  | 0, _ => ndS_zero l
  | d + 1, h => ndS_step l d (by omega) (ndS_any l d (by omega))
theorem vv_impl (A D : Option Addr) (l : List Da) (cap ep e : Nat) (t : Ty) (v : Vl) (w : World) (hr : RDas w w.heap.size A l) (hv : RVs e w w.heap.size D v.kids) (hn : wV v ≤ 16000000) :
    Calls Try.prog 12 #[.slice A l.length cap, .agg #[.int .i64 t.data, .int .i64 t.index], .agg #[.int .i64 v.ctor, .int .i64 v.n, .slice D v.kids.length ep]] w fun e w' => e = .returned (.bool (vvT l t v)) ∧ Below w.heap.size w w' := by
  have Hr := Lib.hid hr
  have HV := Lib.hid hv
  have IN : Hid (NdC l 10 10) := ndS_any l 10 (by omega)
  clear hr hv
  generalize hw0 : (w.alloc (.cells #[.int .i64 t.data, .int .i64 t.index] 25)).alloc (.cells #[.int .i64 v.ctor, .int .i64 v.n, .slice D v.kids.length ep] 28) = w0
  have hb0 := below_box2 hw0
  have HXT : Hid (Bx w0 w.heap.size t) := by rw [← hw0]; exact ⟨by simp [go_sem], by simp [go_sem]⟩
  have HXV : Hid (VBx w0 (w.heap.size + 1) v.ctor v.n (.slice D v.kids.length ep)) := by rw [← hw0]; exact ⟨by simp [go_sem], by simp [go_sem], by simp [go_sem]⟩
  have HW := Lib.hid hw0
  clear hw0
  by_cases ht : TyOK l t
  · have HT := Lib.hid ht
    have HF := Lib.hid (vvT_yes (v := v) ht)
    clear ht
    by_cases hf : fitV l 10 t v = true
    · have HFT := Lib.hid hf
      have HND := Lib.hid (ndR_yes hf)
      have hr1 : (0 : Int) ≤ 1 + (wV v : Int) := by omega
      have hr2 : 1 + (wV v : Int) ≤ 16000001 := by omega
      have HIS : Hid (isV l t v = decide (1 + (wV v : Int) ≤ 60)) := by
        unfold Hid isV; rw [hf]
        show decide _ = decide _
        simp only [decide_eq_decide]; omega
      generalize hrr : 1 + (wV v : Int) = r at hr1 hr2 HND HIS
      clear hf hrr
      go_enter Try.func12, Try.ntmps12
      go_wp2_with (first | (go_at_call 30; rw [HW.out]; refine (typeI_yes (t := t) (Hr.out.at_ hb0) HT.out).mono ?_; rintro e1 w1 ⟨rfl, hb1⟩; obtain ⟨x0, x1⟩ := HXT.out.at_ hb1; obtain ⟨y0, y1, y2⟩ := HXV.out.at_ hb1; have hb1w := below_aft hb0 hb1 hb0.size) | (go_at_call 46; refine (IN.out.known A D cap ep e t v _ _ _ HFT.out HND.out (Hr.out.at_ hb1w) HT.out (HV.out.at_ hb1w) hn).mono ?_; rintro e2 w2 ⟨rfl, hb2⟩))
      all_goals go_ret
      all_goals exact ⟨ret_bool (by rw [HF.out, HIS.out]), below_aft hb1w hb2 hb1w.size⟩
    · have hf' : fitV l 10 t v = false := by simpa using hf
      have HFT := Lib.hid hf'
      have HIS := Lib.hid (isV_fit hf')
      clear hf hf'
      go_enter Try.func12, Try.ntmps12
      go_wp2_with (first | (go_at_call 30; rw [HW.out]; refine (typeI_yes (t := t) (Hr.out.at_ hb0) HT.out).mono ?_; rintro e1 w1 ⟨rfl, hb1⟩; obtain ⟨x0, x1⟩ := HXT.out.at_ hb1; obtain ⟨y0, y1, y2⟩ := HXV.out.at_ hb1; have hb1w := below_aft hb0 hb1 hb0.size) | (go_at_call 46; refine (IN.out.known A D cap ep e t v _ _ _ HFT.out rfl (Hr.out.at_ hb1w) HT.out (HV.out.at_ hb1w) hn).mono ?_; rintro e2 w2 ⟨rfl, hb2⟩))
      all_goals go_ret
      all_goals exact ⟨ret_bool (by rw [HF.out, HIS.out]), below_aft hb1w hb2 hb1w.size⟩
  · have HT := Lib.hid ht
    have HF := Lib.hid (vvT_no (v := v) ht)
    clear ht
    go_enter Try.func12, Try.ntmps12
    go_wp2_with (go_at_call 30; rw [HW.out]; refine (typeI_no (t := t) (Hr.out.at_ hb0) HT.out).mono ?_; rintro e1 w1 ⟨rfl, hb1⟩; have hb1w := below_aft hb0 hb1 hb0.size)
    go_ret
    exact ⟨ret_bool HF.out.symm, hb1w⟩
end Go.Proofs.Yteoopmogklpnoaa
/-
  LeastValue of the program and of the document. No statement is proved here.
-/
namespace Go.Proofs.Yteoopmogklpnoaa
open Go.RowKit Go.Sort Go.Deep
set_option maxRecDepth 100000
set_option linter.unusedVariables false
def lvOK (l : List Da) (t : Ty) : Prop := TyOK l t ∧ Inh l t ∧ ldep l t ≤ 10 ∧ isV l t (lvA l 10 t) = true
noncomputable def lvB (l : List Da) (t : Ty) : Bool := dec (lvOK l t)
noncomputable def lvR (l : List Da) (t : Ty) : Vl := if dec (lvOK l t) then lvA l 10 t else .mk 0 0 []
theorem lvR_w (l : List Da) (t : Ty) : wV (lvR l t) ≤ 150000 := by
  unfold lvR
  split
  · have := lvA_w l 10 t; omega
  · rw [wV, wVs]; omega
theorem ldR_yes {l : List Da} {t : Ty} (h : TyOK l t) : ldR l t = ldep l t := by unfold ldR; rw [dec_t h]; rfl
end Go.Proofs.Yteoopmogklpnoaa
/-
  LeastValue of the document, with room. No statement is proved here.
-/
namespace Go.Proofs.Yteoopmogklpnoaa
open Go.RowKit Go.Sort Go.Deep
set_option maxRecDepth 100000
set_option linter.unusedVariables false
/-- What is returned. -/
def LvTc (l : List Da) (t : Ty) (w : World) (e : Ending) (w' : World) : Prop := ∃ B c, e = .returned (.tuple #[.agg #[.int .i64 (lvR l t).ctor, .int .i64 (lvR l t).n, .slice B (lvR l t).kids.length c], .bool (lvB l t)]) ∧ OVk 10 w' (Nw w w') B c (lvR l t).kids ∧ Below w.heap.size w w'
theorem LvTc.no {l : List Da} {t : Ty} {w w' : World} (h : ¬ lvOK l t) (hb : Below w.heap.size w w') : LvTc l t w (.returned (.tuple #[.agg #[.int .i64 0, .int .i64 0, .slice none 0 0], .bool false])) w' := by
  unfold LvTc lvR lvB
  rw [dec_f h]
  exact ⟨none, 0, rfl, OVk.nil _ _ _ _, hb⟩
theorem LvTc.yes {l : List Da} {t : Ty} {w w' : World} {B : Option Addr} {c : Nat} (h : lvOK l t) (hb : Below w.heap.size w w') (ho : OVk 10 w' (Nw w w') B c (lvA l 10 t).kids) : LvTc l t w (.returned (.tuple #[.agg #[.int .i64 (lvA l 10 t).ctor, .int .i64 (lvA l 10 t).n, .slice B (lvA l 10 t).kids.length c], .bool true])) w' := by
  unfold LvTc lvR lvB
  rw [dec_t h]
  exact ⟨B, c, rfl, ho, hb⟩
theorem lvSc_any (l : List Da) (hw : WorldOK l) : ∀ n, LvSc l n
  | 0 => fun A A2 T cap cap2 t w _ _ _ _ hi h => by have := ldep_yes hi; omega
  | n + 1 => lvSc_step l n hw (lvSc_any l hw n)
theorem lvIc_any (l : List Da) (hw : WorldOK l) : ∀ n, LvIc l n
  | 0 => fun A cap t mb w _ _ _ hi h => by have := ldep_yes hi; omega
  | n + 1 => lvIc_step l n hw (lvIc_any l hw n)
set_option maxHeartbeats 1600000 in
theorem lvc_spec (A : Option Addr) (l : List Da) (cap : Nat) (t : Ty) (w : World) (hr : RDas w w.heap.size A l) :
    Calls Try.prog 25 #[.slice A l.length cap, .agg #[.int .i64 t.data, .int .i64 t.index]] w (LvTc l t w) := by
  have Hr := Lib.hid hr
  clear hr
  generalize hwx : (w.alloc (.cells #[.int .i64 t.data, .int .i64 t.index] 25)).alloc (.cells #[.int .i64 0, .int .i64 0, .slice none 0 0] 28) = wx
  have hbx := below_box2 hwx
  have HXT : Hid (Bx wx w.heap.size t) := by rw [← hwx]; exact ⟨by simp [go_sem], by simp [go_sem]⟩
  have HXR : Hid (wx.heap[w.heap.size + 1]? = some (.cells #[.int .i64 0, .int .i64 0, .slice none 0 0] 28 (0, 0))) := by
    have h := heap_alloc_new (w.alloc (.cells #[.int .i64 t.data, .int .i64 t.index] 25)) (.cells #[.int .i64 0, .int .i64 0, .slice none 0 0] 28)
    simp only [World.size_alloc] at h
    unfold Hid; rw [← hwx]; exact h
  have HWX := Lib.hid hwx
  clear hwx
  obtain ⟨x0, x1⟩ := HXT.out
  by_cases hi : TyOK l t ∧ Inh l t
  · obtain ⟨ht, hi⟩ := hi
    have HLB : Hid (lbR l t = true) := dec_t ⟨ht, hi⟩
    have HLD := Lib.hid (ldR_yes ht)
    have HK := Lib.hid ht
    have HI := Lib.hid hi
    by_cases h10 : ldep l t ≤ 10
    · have H10 := Lib.hid h10
      have hw := ht.1
      have HW := Lib.hid hw
      have HWA := Lib.hid (lvA_w l 10 t)
      have HLS0 := Lib.hid (lvSc_any l hw 10)
      have q10 : decide (10 < ldep l t) = false := decide_eq_false (by omega)
      have HYES : Hid (∀ {v : Vl} (hv : lvA l 10 t = v) {w' : World} {B : Option Addr} {c : Nat}, lvOK l t → Below w.heap.size w w' → OVk 10 w' (Nw w w') B c v.kids → LvTc l t w (.returned (.tuple #[.agg #[.int .i64 v.ctor, .int .i64 v.n, .slice B v.kids.length c], .bool true])) w') := fun hv _ _ _ h h1 h2 => by subst hv; exact LvTc.yes h h1 h2
      clear ht hi h10 hw
      go_enter Try.func25, Try.ntmps25
      go_wp2_with fail
      rw [HWX.out]
      refine (least_spec _ l _ t _ (Hr.out.at_ hbx)).mono ?_
      rw [HLB.out, HLD.out]
      rintro e w1 ⟨rfl, hb1⟩
      have hbw1 := below_aft hbx hb1 hbx.size
      obtain ⟨z0, z1⟩ := HXT.out.at_ hb1
      have HX1 : Hid (Bx w1 w.heap.size t) := ⟨z0, z1⟩
      have HR1 : Hid (w1.heap[w.heap.size + 1]? = some (.cells #[.int .i64 0, .int .i64 0, .slice none 0 0] 28 (0, 0))) := (hb1.block _ (heap_lt HXR.out)).trans HXR.out
      clear x0 x1 hb1
      have hwlt1 : w.heap.size < w1.heap.size := by have := heap_lt HR1.out; omega
      obtain ⟨v10, hv10⟩ : ∃ v, lvA l 10 t = v := ⟨_, rfl⟩
      have HV10 := Lib.hid hv10
      have HLS : Hid (∀ (A A2 : Option Addr) (T : List Int) (cap cap2 : Nat) (w : World), RDas w w.heap.size A l → RInts w A2 T → St l T (l.length * 4 + 1) 0 0 →
          Calls Try.prog 62 #[.slice A l.length cap, .slice A2 (l.length * 4) cap2, .agg #[.int .i64 t.data, .int .i64 t.index]] w fun e w' => ∃ B c, e = .returned (.agg #[.int .i64 v10.ctor, .int .i64 v10.n, .slice B v10.kids.length c]) ∧ OVk 10 w' (Nw w w') B c v10.kids ∧ Below w.heap.size w w') := fun A A2 T cap cap2 w h1 h2 h3 => by
        rw [← hv10]; exact HLS0.out A A2 T cap cap2 t w h1 h2 h3 HK.out HI.out H10.out
      clear hv10 HLS0
      go_upto_region 4 with fail
      go_cut [8] (fun s8 wx => ∃ g B c, s8 = .pointer (some ⟨g, 0, none⟩) ∧ StVc 10 w1 g v10 B c wx)
      case first =>
        go_region_with (first
          | (go_at_call 63; refine (table_l _ l _ w1.drew (Hr.out.at_ hbw1.drew) HW.out).mono ?_; rintro e w2 ⟨T, B, rfl, hTl, hT, hS, hb2'⟩; have hb2 : Below w1.heap.size w1 w2 := ⟨hb2'.os, hb2'.tape, hb2'.output, hb2'.size, hb2'.block⟩; have HT := Lib.hid hT; have HS := Lib.hid hS; obtain ⟨y0, y1⟩ := HX1.out.at_ hb2; have hbw2 := below_aft hbw1 hb2 hbw1.size; have hwlt2 := Nat.lt_of_lt_of_le hwlt1 hb2.size; clear hTl hT hS hb2')
          | (go_at_call 63; refine (table_l _ l _ (w1.drew.alloc (.cells #[.int .i64 0, .int .i64 0, .slice none 0 0] 28)) (Hr.out.at_ (hbw1.drew.alloc hbw1.size _)) HW.out).mono ?_; rintro e w2 ⟨T, B, rfl, hTl, hT, hS, hb2'⟩; have hb2 : Below w1.heap.size w1 w2 := ((Below.refl _ w1).drew.alloc (Nat.le_refl _) _).trans (hb2'.mono (by simp)); have HT := Lib.hid hT; have HS := Lib.hid hS; obtain ⟨y0, y1⟩ := HX1.out.at_ hb2; have hbw2 := below_aft hbw1 hb2 hbw1.size; have hwlt2 := Nat.lt_of_lt_of_le hwlt1 hb2.size; have hzb : ZbV w2 w1.heap.size := ZbV.at_ (ZbV.new w1.drew) hb2'; clear hTl hT hS hb2')
          | (go_at_call 62; refine (HLS.out _ _ T _ _ w2 (Hr.out.at_ hbw2) HT.out HS.out).mono ?_; rintro e w3 ⟨B3, c3, rfl, ho3, hb3⟩; have hb13 := below_aft hb2 hb3 hb2.size; have HO3 := Lib.hid ho3; (try (have hzc := hzb.at_ hb3; obtain ⟨k0, k1, k2, k3, k4, k5⟩ := hzc.cells)); clear ho3)
          | (go_at_call 62; refine (HLS.out _ _ T _ _ (w2.alloc (.cells #[.int .i64 0, .int .i64 0, .slice none 0 0] 28)) (Hr.out.at_ (hbw2.alloc hbw2.size _)) (HT.out.at_ ((Below.refl _ _).alloc (Nat.le_refl _) _)) HS.out).mono ?_; rintro e w3 ⟨B3, c3, rfl, ho3, hb3⟩; have hb13 := below_aft (hb2.alloc hb2.size _) hb3 (by simp; have := hb2.size; omega); have HO3 := Lib.hid ho3; have hzc : ZbV w3 w2.heap.size := ZbV.at_ (ZbV.new w2) hb3; obtain ⟨k0, k1, k2, k3, k4, k5⟩ := hzc.cells; clear ho3))
        all_goals
          go_wp2_with fail
          go_meet
          first
          | exact ⟨_, _, _, rfl, StVc.new hb13 HO3.out (fun b h => ⟨Nat.le_trans hb2.size h.1, h.2⟩)⟩
          | exact ⟨_, _, _, rfl, StVc.set hb13 hzc (Nat.le_refl _) HO3.out (fun b h => ⟨Nat.le_trans hb2.size h.1, h.2, by have h1 := h.1; have h2 := heap_lt hzb; omega⟩)⟩
          | exact ⟨_, _, _, rfl, StVc.set hb13 hzc hb2.size HO3.out (fun b h => by have h1 := h.1; have h2 := h.2; have h3 := hb2.size; simp only [World.size_alloc] at h1; exact ⟨by omega, h2, by omega⟩)⟩
      case rest =>
        obtain ⟨g8, B3, c3, rfl, hst⟩ := hcut
        obtain ⟨hg8, hb14, hh8, ho4⟩ := hst
        have HX4 := Lib.hid (HX1.out.at_ hb14)
        have HR4 : Hid (wc.heap[w.heap.size + 1]? = some (.cells #[.int .i64 0, .int .i64 0, .slice none 0 0] 28 (0, 0))) := (hb14.block _ (heap_lt HR1.out)).trans HR1.out
        have hle := heap_lt HR1.out
        have HV4 : Hid (VBx wc g8 v10.ctor v10.n (.slice B3 v10.kids.length c3)) := ⟨(cell_of_blk hh8 0).trans rfl, (cell_of_blk hh8 1).trans rfl, (cell_of_blk hh8 2).trans rfl⟩
        have HO4 := Lib.hid ho4
        have hbw4 := below_aft hbw1 hb14 hbw1.size
        have hR4 : RVs 9 wc wc.heap.size B3 v10.kids := OVk.reads 9 HO4.out
        have HRV := Lib.hid hR4
        obtain ⟨x0, x1⟩ := HX4.out
        obtain ⟨v0, v1, v2⟩ := HV4.out
        clear hR4 hh8 ho4 hb14 z0 z1
        by_cases hv : isV l t v10 = true
        · have HVV := Lib.hid hv
          have HOK : Hid (lvOK l t) := ⟨HK.out, HI.out, H10.out, by rw [HV10.out]; exact hv⟩
          clear hv
          go_wp2_with fail
          refine (isV_any A B3 l cap c3 9 t v10 _ (Hr.out.at_ hbw4) HK.out HRV.out (by have h1 := HWA.out; rw [HV10.out] at h1; omega)).mono ?_
          rw [HVV.out]
          rintro e w5 ⟨rfl, hb5⟩
          obtain ⟨v0, v1, v2⟩ := HV4.out.at_ hb5
          have hr5 : w5.heap[w.heap.size + 1]? = some (.cells #[.int .i64 0, .int .i64 0, .slice none 0 0] 28 (0, 0)) := (hb5.block _ (heap_lt HR4.out)).trans HR4.out
          have r0 := (cell_of_blk hr5 0).trans rfl
          have r1 := (cell_of_blk hr5 1).trans rfl
          have r2 := (cell_of_blk hr5 2).trans rfl
          have f0 := frozen_of_row w5 (w.heap.size + 1) 0 _ 28 hr5
          have f1 := frozen_of_row w5 (w.heap.size + 1) 1 _ 28 hr5
          have f2 := frozen_of_row w5 (w.heap.size + 1) 2 _ 28 hr5
          have hbw5 := below_aft hbw4 hb5 hbw4.size
          have HO5 : Hid (OVk 10 w5 (fun b => w1.heap.size ≤ b ∧ b < wc.heap.size ∧ b ≠ g8) B3 c3 v10.kids) := HO4.out.fr _ (Fr.below (P := fun _ => False) hb5) (fun _ _ h => h)
          have hl45 := hb5.size
          clear x0 x1 hr5
          go_wp2_with fail
          refine bodyPost_ret (v := .tuple #[.agg #[.int .i64 v10.ctor, .int .i64 v10.n, .slice B3 v10.kids.length c3], .bool true]) (by simp [results, Try.results25, go_sem, r0, r1, r2]) rfl (HYES.out HV10.out HOK.out ?_ ?_)
          · refine Below.setCell (Below.setCell (Below.setCell hbw5 ?_ _) ?_ _) ?_ _ <;> (simp <;> omega)
          · refine (HO5.out.fr _ (P' := fun b => b = w.heap.size + 1) (((Fr.set (P := fun b => b = w.heap.size + 1) _ _ _ _ rfl).trans (Fr.set _ _ _ _ rfl)).trans (Fr.set _ _ _ _ rfl)) (fun b hq e => by have := hq.1; omega)).wide _ (fun b hq => ⟨by have := hq.1; have := hbw1.size; omega, by have h2 := hq.2.1; have h3 := hb5.size; simp only [World.setCell, Array.size_modify]; omega⟩)
        · have hvf : isV l t v10 = false := by simpa using hv
          have HVV := Lib.hid hvf
          have HNO : Hid (¬ lvOK l t) := fun h => by have h1 := h.2.2.2; rw [HV10.out, hvf] at h1; cases h1
          clear hv hvf
          go_wp2_with fail
          refine (isV_any A B3 l cap c3 9 t v10 _ (Hr.out.at_ hbw4) HK.out HRV.out (by have h1 := HWA.out; rw [HV10.out] at h1; omega)).mono ?_
          rw [HVV.out]
          rintro e w5 ⟨rfl, hb5⟩
          have hr5 : w5.heap[w.heap.size + 1]? = some (.cells #[.int .i64 0, .int .i64 0, .slice none 0 0] 28 (0, 0)) := (hb5.block _ (heap_lt HR4.out)).trans HR4.out
          have r0 := (cell_of_blk hr5 0).trans rfl
          have r1 := (cell_of_blk hr5 1).trans rfl
          have r2 := (cell_of_blk hr5 2).trans rfl
          have f0 := frozen_of_row w5 (w.heap.size + 1) 0 _ 28 hr5
          have f1 := frozen_of_row w5 (w.heap.size + 1) 1 _ 28 hr5
          have f2 := frozen_of_row w5 (w.heap.size + 1) 2 _ 28 hr5
          have hbw5 := below_aft hbw4 hb5 hbw4.size
          clear x0 x1 hr5 v0 v1 v2
          go_wp2_with fail
          refine bodyPost_ret (v := .tuple #[.agg #[.int .i64 0, .int .i64 0, .slice none 0 0], .bool false]) (by simp [results, Try.results25, go_sem, r0, r1, r2]) rfl (LvTc.no HNO.out ?_)
          refine Below.setCell (Below.setCell (Below.setCell hbw5 ?_ _) ?_ _) ?_ _ <;> (simp <;> omega)
    · have HNO : Hid (¬ lvOK l t) := fun h => h10 h.2.2.1
      have q10 : decide (10 < ldep l t) = true := decide_eq_true (by omega)
      clear ht hi h10
      go_enter Try.func25, Try.ntmps25
      go_wp2_with fail
      rw [HWX.out]
      refine (least_spec _ l _ t _ (Hr.out.at_ hbx)).mono ?_
      rw [HLB.out, HLD.out]
      rintro e w1 ⟨rfl, hb1⟩
      have hbw1 := below_aft hbx hb1 hbx.size
      have hr1 : w1.heap[w.heap.size + 1]? = some (.cells #[.int .i64 0, .int .i64 0, .slice none 0 0] 28 (0, 0)) := (hb1.block _ (heap_lt HXR.out)).trans HXR.out
      have r0 := (cell_of_blk hr1 0).trans rfl
      have r1 := (cell_of_blk hr1 1).trans rfl
      have r2 := (cell_of_blk hr1 2).trans rfl
      have f0 := frozen_of_row w1 (w.heap.size + 1) 0 _ 28 hr1
      have f1 := frozen_of_row w1 (w.heap.size + 1) 1 _ 28 hr1
      have f2 := frozen_of_row w1 (w.heap.size + 1) 2 _ 28 hr1
      clear x0 x1 hb1 hr1
      go_wp2_with fail
      refine bodyPost_ret (v := .tuple #[.agg #[.int .i64 0, .int .i64 0, .slice none 0 0], .bool false]) (by simp [results, Try.results25, go_sem, r0, r1, r2]) rfl (LvTc.no HNO.out ?_)
      refine Below.setCell (Below.setCell (Below.setCell hbw1 ?_ _) ?_ _) ?_ _ <;> (simp <;> omega)
  · have HNO : Hid (¬ lvOK l t) := fun h => hi ⟨h.1, h.2.1⟩
    have HLB : Hid (lbR l t = false) := dec_f hi
    clear hi
    go_enter Try.func25, Try.ntmps25
    go_wp2_with fail
    rw [HWX.out]
    refine (least_spec _ l _ t _ (Hr.out.at_ hbx)).mono ?_
    rw [HLB.out]
    rintro e w1 ⟨rfl, hb1⟩
    have hbw1 := below_aft hbx hb1 hbx.size
    have hr1 : w1.heap[w.heap.size + 1]? = some (.cells #[.int .i64 0, .int .i64 0, .slice none 0 0] 28 (0, 0)) := (hb1.block _ (heap_lt HXR.out)).trans HXR.out
    have r0 := (cell_of_blk hr1 0).trans rfl
    have r1 := (cell_of_blk hr1 1).trans rfl
    have r2 := (cell_of_blk hr1 2).trans rfl
    have f0 := frozen_of_row w1 (w.heap.size + 1) 0 _ 28 hr1
    have f1 := frozen_of_row w1 (w.heap.size + 1) 1 _ 28 hr1
    have f2 := frozen_of_row w1 (w.heap.size + 1) 2 _ 28 hr1
    clear x0 x1 hb1 hr1
    go_wp2_with fail
    refine bodyPost_ret (v := .tuple #[.agg #[.int .i64 0, .int .i64 0, .slice none 0 0], .bool false]) (by simp [results, Try.results25, go_sem, r0, r1, r2]) rfl (LvTc.no HNO.out ?_)
    refine Below.setCell (Below.setCell (Below.setCell hbw1 ?_ _) ?_ _) ?_ _ <;> (simp <;> omega)
end Go.Proofs.Yteoopmogklpnoaa
