/-
  ClausesValid of the program. No statement is proved here.
-/
import Derived.Test.YtphmhlekfmkdkaaGreatG40
namespace Go.Proofs.YtphmhlekfmkdkaaGreat
open Go.RowKit Go.Sort Go.Deep
set_option maxRecDepth 100000
set_option linter.unusedVariables false


set_option maxHeartbeats 1600000 in
theorem cs_impl (A C : Option Addr) (l : List Da) (cap ccap d : Nat) (t : Ty) (L : List Cn) (w : World) (hr : RDas w w.heap.size A l) (hv : RCs d w w.heap.size C L) :
    Calls Tryz.prog 13 #[.slice A l.length cap, .agg #[.int .i64 t.data, .int .i64 t.index], .slice C L.length ccap] w fun e w' => e = .returned (.bool (csB l t L)) ∧ Below w.heap.size w w' := by
  have Hr := Lib.hid hr
  have HV := Lib.hid hv
  clear hr hv
  generalize hw0 : (w.alloc (.cells #[.slice A l.length cap] 29)).alloc (.cells #[.int .i64 t.data, .int .i64 t.index] 31) = w0
  have hb0 : Below w.heap.size w w0 := by rw [← hw0]; exact ((Below.refl _ _).alloc (Nat.le_refl _) _).alloc (by simp) _
  have HXA : Hid (w0.cell? ⟨w.heap.size, 0, none⟩ = some (.slice A l.length cap)) := by rw [← hw0]; unfold Hid; simp [go_sem]
  have HXT : Hid (Bx w0 (w.heap.size + 1) t) := by rw [← hw0]; exact ⟨by simp [go_sem], by simp [go_sem]⟩
  have hs0 : w.heap.size < w0.heap.size := by rw [← hw0]; simp <;> omega
  have HW := Lib.hid hw0
  clear hw0
  have xa := HXA.out
  obtain ⟨x0, x1⟩ := HXT.out
  by_cases ht : TyOK l t
  · have HT := Lib.hid ht
    clear ht
    by_cases hl : L.length ≤ 8
    · have q8 : decide ((L.length : Int) ≤ 8) = true := decide_eq_true (by omega)
      have HL := Lib.hid hl
      clear hl
      go_enter Tryz.func13, Tryz.ntmps13
      go_wp2_with (first | (go_at_call 46; (try rw [HW.out]); refine (typeI_yes (t := t) (Hr.out.at_ hb0) HT.out).mono ?_; rintro e1 w1 ⟨rfl, hb1⟩; have ya := (hb1.cell (p := ⟨w.heap.size, 0, none⟩) hs0).trans HXA.out; obtain ⟨y0, y1⟩ := HXT.out.at_ hb1; have hb1w := below_aft hb0 hb1 hb0.size) | (go_at_call 47; refine (containsBad_any w.heap.size (w.heap.size + 1) A C l cap ccap d t L w1 (Hr.out.at_ hb1w) (HV.out.at_ hb1w) ⟨ya, y0, y1⟩).mono ?_; rintro e2 w2 ⟨b, rfl, hcs, hb2⟩; have HCS := Lib.hid (hcs HT.out HL.out); clear hcs))
      go_ret
      exact ⟨ret_bool HCS.out.symm, below_aft hb1w hb2 hb1w.size⟩
    · have q8 : decide ((L.length : Int) ≤ 8) = false := decide_eq_false (by omega)
      have HF : Hid (csB l t L = false) := cs_nolen hl
      clear hl
      go_enter Tryz.func13, Tryz.ntmps13
      go_wp2_with (go_at_call 46; (try rw [HW.out]); refine (typeI_yes (t := t) (Hr.out.at_ hb0) HT.out).mono ?_; rintro e1 w1 ⟨rfl, hb1⟩; have ya := (hb1.cell (p := ⟨w.heap.size, 0, none⟩) hs0).trans HXA.out; obtain ⟨y0, y1⟩ := HXT.out.at_ hb1; have hb1w := below_aft hb0 hb1 hb0.size)
      go_ret
      exact ⟨ret_bool HF.out.symm, hb1w⟩
  · have HT := Lib.hid ht
    have HF : Hid (csB l t L = false) := cs_noty ht
    clear ht
    go_enter Tryz.func13, Tryz.ntmps13
    go_wp2_with (go_at_call 46; (try rw [HW.out]); refine (typeI_no (t := t) (Hr.out.at_ hb0) HT.out).mono ?_; rintro e1 w1 ⟨rfl, hb1⟩; have ya := (hb1.cell (p := ⟨w.heap.size, 0, none⟩) hs0).trans HXA.out; obtain ⟨y0, y1⟩ := HXT.out.at_ hb1; have hb1w := below_aft hb0 hb1 hb0.size)
    go_ret
    exact ⟨ret_bool HF.out.symm, hb1w⟩
end Go.Proofs.YtphmhlekfmkdkaaGreat
/-
  ClausesValid of the document. No statement is proved here.
-/
namespace Go.Proofs.YtphmhlekfmkdkaaGreat
open Go.RowKit Go.Sort Go.Deep
set_option maxRecDepth 100000
set_option linter.unusedVariables false


set_option maxHeartbeats 3200000 in
theorem cs_spec (A C : Option Addr) (l : List Da) (cap ccap d : Nat) (t : Ty) (L : List Cn) (w : World) (hr : RDas w w.heap.size A l) (hv : RCs d w w.heap.size C L) (hw : wCs L ≤ 1048576) :
    Calls Tryz.prog 9 #[.slice A l.length cap, .agg #[.int .i64 t.data, .int .i64 t.index], .slice C L.length ccap] w fun e w' => e = .returned (.bool (csB l t L)) ∧ Below w.heap.size w w' := by
  have HN : Hid (∀ k (h : k < L.length), wP L[k].pat ≤ 1048576) := fun k h => by
    have h1 := sum_take_succ wC L k h
    have h2 := sum_take_le wC L (k + 1)
    have h3 : wC L[k] = wPs L[k].pat.kids := rfl
    have h4 : wCs L = L.length + (L.map wC).sum := rfl
    rw [wP_kids]; omega
  have Hr := Lib.hid hr
  have HV := Lib.hid hv
  have hn := hv.1
  unfold maxLen at hn
  clear hr hv
  generalize hw0 : w.alloc (.cells #[.int .i64 t.data, .int .i64 t.index] 31) = w0
  have hb0 : Below w.heap.size w w0 := by rw [← hw0]; exact (Below.refl _ _).alloc (Nat.le_refl _) _
  have HXT : Hid (Bx w0 w.heap.size t) := by rw [← hw0]; exact ⟨by simp [go_sem], by simp [go_sem]⟩
  have HW := Lib.hid hw0
  clear hw0
  obtain ⟨x0, x1⟩ := HXT.out
  by_cases ht : TyOK l t
  · have HT := Lib.hid ht
    clear ht
    by_cases hl : L.length ≤ 8
    · have q8 : decide ((8 : Int) < (L.length : Int)) = false := decide_eq_false (by omega)
      have HL := Lib.hid hl
      clear hl
      go_enter Tryz.func9, Tryz.ntmps9
      go_wp2_with (go_at_call 40; (try rw [HW.out]); refine (typeV_yes (t := t) (Hr.out.at_ hb0) HT.out).mono ?_; rintro e1 w1 ⟨rfl, hb1⟩; have HX1 := Lib.hid (HXT.out.at_ hb1); have hb1w := below_aft hb0 hb1 hb0.size)
      clear x0 x1
      go_loopw [7] (fun i wr => ∃ k : Nat, k ≤ L.length ∧ i = .int .i64 k ∧ Hid (AllC l t L k) ∧ Below w1.heap.size w1 wr) (fun i _ => L.length - (intOf i).toNat)
      case atStart => exact ⟨0, by omega, rfl, AllC.zero, Below.refl _ _⟩
      case round =>
        obtain ⟨k, hk, rfl, hno, hbr⟩ := hrel
        have hb := below_aft hb1w hbr hb1w.size
        by_cases hlt : k < L.length
        · obtain ⟨g, off, rfl, hbB, A', cp, c0, c1, c2, c3, c4, c5, c6, c7, c8, hm⟩ := (HV.out.below hb (Nat.le_refl _)).2 k hlt
          have hkI : (k : Int) < (L.length : Int) := by omega
          obtain ⟨y0, y1⟩ := HX1.out.at_ hbr
          have z0 := cell_regrown y0
          have z1 := cell_regrown y1
          have d0 := cell_regrown c0
          have d1 := cell_regrown c1
          have d2 := cell_regrown c2
          have d3 := cell_regrown c3
          have d4 := cell_regrown c4
          have d5 := cell_regrown c5
          have d6 := cell_regrown c6
          have d7 := cell_regrown c7
          have d8 := cell_regrown c8
          have Hm := Lib.hid (hm.keep (fun _ _ => rfl) hb.size)
          clear c0 c1 c2 c3 c4 c5 c6 c7 c8 y0 y1 hm
          by_cases hs : ckB l t L[k] = true
          · have HCK : Hid (cvI l t L[k].pat L[k].g0 L[k].g1 L[k].g2 = true) := (cvT_ty HT.out).symm.trans hs
            have HNX := Lib.hid (hno.out.step hlt hs)
            clear hs hno
            have HC : Hid (∀ dq osq, Calls Tryz.prog 41 #[.slice A l.length cap, .agg #[.int .i64 t.data, .int .i64 t.index], .agg #[.int .i64 L[k].pat.op, .int .i64 L[k].pat.ctor, .int .i64 L[k].pat.n, .int .i64 L[k].pat.m, .int .i64 L[k].pat.var, .slice A' L[k].pat.kids.length cp, .int .i64 L[k].g0, .int .i64 L[k].g1, .int .i64 L[k].g2]] (grow (redrawn wr dq) osq) fun e' w' => e' = .returned (.bool true) ∧ Below (grow (redrawn wr dq) osq).heap.size (grow (redrawn wr dq) osq) w') := fun dq osq => by
              have h1 := l4Is_any A A' l cap cp d t L[k].pat L[k].g0 L[k].g1 L[k].g2 (grow (redrawn wr dq) osq) ((Hr.out.at_ hb).at_ (below_regrown wr dq osq)) ((Hm.out).at_ (below_regrown wr dq osq)) (HN.out k hlt) HT.out
              rw [HCK.out] at h1
              exact h1
            go_wp2_with fail
            refine wp_region_quiet_below (by kernel_rfl) (by kernel_rfl) ?_
            repeat (quiet_step (exact Calls.regrown_of (HC.out _ _)))
            refine wpQuiet_nil ?_
            intro _ hw'
            obtain ⟨⟨dq, osq⟩, hw''⟩ := hw'
            subst hw''
            have hb2 := hbr.trans ((below_regrown wr dq osq).mono hbr.size)
            clear d0 d1 d2 d3 d4 d5 d6 d7 d8 z0 z1
            go_wp2_with fail
            go_roundw
            case rel => exact ⟨k + 1, by omega, by go_num, HNX, hb2⟩
            case measure => simp [intOf]; omega
          · have hs' : ckB l t L[k] = false := by simpa using hs
            have HCK : Hid (cvI l t L[k].pat L[k].g0 L[k].g1 L[k].g2 = false) := (cvT_ty HT.out).symm.trans hs'
            have HF : Hid (csB l t L = false) := cs_noat hlt hs'
            clear hs hs' hno
            have HC : Hid (∀ dq osq, Calls Tryz.prog 41 #[.slice A l.length cap, .agg #[.int .i64 t.data, .int .i64 t.index], .agg #[.int .i64 L[k].pat.op, .int .i64 L[k].pat.ctor, .int .i64 L[k].pat.n, .int .i64 L[k].pat.m, .int .i64 L[k].pat.var, .slice A' L[k].pat.kids.length cp, .int .i64 L[k].g0, .int .i64 L[k].g1, .int .i64 L[k].g2]] (grow (redrawn wr dq) osq) fun e' w' => e' = .returned (.bool false) ∧ Below (grow (redrawn wr dq) osq).heap.size (grow (redrawn wr dq) osq) w') := fun dq osq => by
              have h1 := l4Is_any A A' l cap cp d t L[k].pat L[k].g0 L[k].g1 L[k].g2 (grow (redrawn wr dq) osq) ((Hr.out.at_ hb).at_ (below_regrown wr dq osq)) ((Hm.out).at_ (below_regrown wr dq osq)) (HN.out k hlt) HT.out
              rw [HCK.out] at h1
              exact h1
            go_wp2_with fail
            refine wp_region_quiet_below (by kernel_rfl) (by kernel_rfl) ?_
            repeat (quiet_step (exact Calls.regrown_of (HC.out _ _)))
            refine wpQuiet_nil ?_
            intro _ hw'
            obtain ⟨⟨dq, osq⟩, hw''⟩ := hw'
            subst hw''
            have hb2 := hbr.trans ((below_regrown wr dq osq).mono hbr.size)
            clear d0 d1 d2 d3 d4 d5 d6 d7 d8 z0 z1
            go_wp2_with fail
            go_ret
            exact ⟨ret_bool HF.out.symm, below_aft hb1w hb2 hb1w.size⟩
        · have HF : Hid (csB l t L = true) := cs_yes HT.out HL.out (fun j hj hjk => hno.out j hj (by omega))
          clear hno
          go_wp2_with fail
          go_ret
          exact ⟨ret_bool HF.out.symm, hb⟩
    · have q8 : decide ((8 : Int) < (L.length : Int)) = true := decide_eq_true (by omega)
      have HF : Hid (csB l t L = false) := cs_nolen hl
      clear hl
      go_enter Tryz.func9, Tryz.ntmps9
      go_wp2_with (go_at_call 40; (try rw [HW.out]); refine (typeV_yes (t := t) (Hr.out.at_ hb0) HT.out).mono ?_; rintro e1 w1 ⟨rfl, hb1⟩; have HX1 := Lib.hid (HXT.out.at_ hb1); have hb1w := below_aft hb0 hb1 hb0.size)
      go_ret
      exact ⟨ret_bool HF.out.symm, hb1w⟩
  · have HT := Lib.hid ht
    have HF : Hid (csB l t L = false) := cs_noty ht
    clear ht
    go_enter Tryz.func9, Tryz.ntmps9
    go_wp2_with (go_at_call 40; (try rw [HW.out]); refine (typeV_no (t := t) (Hr.out.at_ hb0) HT.out).mono ?_; rintro e1 w1 ⟨rfl, hb1⟩; have HX1 := Lib.hid (HXT.out.at_ hb1); have hb1w := below_aft hb0 hb1 hb0.size)
    go_ret
    exact ⟨ret_bool HF.out.symm, hb1w⟩
end Go.Proofs.YtphmhlekfmkdkaaGreat
