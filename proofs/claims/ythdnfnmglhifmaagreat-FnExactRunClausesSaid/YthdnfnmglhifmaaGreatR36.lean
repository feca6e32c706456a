/-
  The law FnExactRunClauses walked. No statement is proved here.
-/
import Derived.Test.YthdnfnmglhifmaaGreatR31
import Derived.Test.YthdnfnmglhifmaaGreatR32
import Derived.Test.YthdnfnmglhifmaaGreatR34
import Derived.Test.YthdnfnmglhifmaaGreatR35
import Derived.Test.YthdnfnmglhifmaaGreatR00
import Derived.Test.YthdnfnmglhifmaaGreatR06
import Derived.Deep.RegionHeld3
import Derived.Deep.DeepCutAuto
import Derived.Lib.SmallJoins
namespace Go.Proofs.YthdnfnmglhifmaaGreat
open Go.RowKit Go.Sort Go.Deep
set_option maxRecDepth 100000
set_option linter.unusedVariables false
theorem rc_small (l : List Da) (t : Ty) (L : List Cn) (v : Vl) : stB (rcO l t L v).2.1 (rcO l t L v).2.1.length ≤ 5000 := by
  cases h0 : csB l t L with
  | false => rw [rc_no1 h0]; simp [stB]
  | true =>
    cases h1 : isV l t v with
    | false => rw [rc_no2 h1]; simp [stB]
    | true =>
      rw [rc_yes h0 h1]
      show stB (runF v L 0).2 (runF v L 0).2.length ≤ 5000
      rcases run_cases (v := v) L 0 with h | ⟨x, hx, S, hf, h⟩
      · rw [h]; simp [stB]
      · rw [h]
        have hq := mq_small l t x.pat v
        rcases fit_mq ((cs_parts h0).2.2 x hx) h1 with ⟨_, h2⟩ | ⟨S', h2, h3⟩
        · rw [h2] at hf; cases hf
        · rw [h2] at hq
          rcases h3 with ⟨_, h4⟩ | ⟨_, h4⟩
          · rw [h4] at hf; cases hf; exact hq
          · rw [h4] at hf; cases hf
theorem stC_most (L : List Cn) : stC L L.length ≤ 8 * wCs L := by
  unfold stC wCs; rw [List.take_length]; omega
theorem OCs.fr3 {d : Nat} {w w' : World} {P P' : Nat → Prop} {A : Option Addr} {l : List Cn} (h : OCs d w P A l) (hf : Fr P' w w') (hp : ∀ b, P b → ¬ P' b) : OCs d w' P A l := h.fr hf hp
set_option maxHeartbeats 16000000 in
theorem rc_law (A C E : Option Addr) (l : List Da) (cap ccap ev e : Nat) (t : Ty) (L : List Cn) (v : Vl) (w : World) (hr : RDas w w.heap.size A l) (hc : RCs e w w.heap.size C L) (hv : RVs e w w.heap.size E v.kids) :
    Calls Tryz.prog 12 #[.slice A l.length cap, .agg #[.int .i64 t.data, .int .i64 t.index], .slice C L.length ccap, .agg #[.int .i64 v.ctor, .int .i64 v.n, .slice E v.kids.length ev]] w fun e' w' => e' = .returned (.bool true) ∧ Below w.heap.size w w' := by
  have Hr := Lib.hid hr
  have HC := Lib.hid hc
  have HV := Lib.hid hv
  clear hr hc hv
  generalize hw0 : (w.alloc (.cells #[.int .i64 t.data, .int .i64 t.index] 71)).alloc (.cells #[.int .i64 v.ctor, .int .i64 v.n, .slice E v.kids.length ev] 75) = w0
  have hb0 : Below w.heap.size w w0 := by rw [← hw0]; exact ((Below.refl _ _).alloc (Nat.le_refl _) _).alloc (by simp) _
  have HXT : Hid (Bx w0 w.heap.size t) := by rw [← hw0]; exact ⟨by simp [go_sem], by simp [go_sem]⟩
  have HXV : Hid (VBx w0 (w.heap.size + 1) v.ctor v.n (.slice E v.kids.length ev)) := by rw [← hw0]; exact ⟨by simp [go_sem], by simp [go_sem], by simp [go_sem]⟩
  have HW := Lib.hid hw0
  clear hw0
  by_cases h1 : (wDas l : Int) ≤ 1048576
  case neg =>
    have H1 := Lib.hid (left_no h1)
    go_enter Tryz.func12, Tryz.ntmps12
    go_wp2_with (go_at_call 35; rw [HW.out]; refine (szDataS_any _ _ _ _ _ (Hr.out.at_ hb0) (by omega) (by omega)).mono ?_; rw [H1.out]; rintro e1 w1 ⟨rfl, hb1⟩; have hb1w := below_aft hb0 hb1 hb0.size)
    go_ret
    exact ⟨rfl, hb1w⟩
  have H1 := Lib.hid (left_ok h1)
  by_cases h2 : (wCs L : Int) ≤ 1048576 - (wDas l : Int)
  case neg =>
    have H2 := Lib.hid (left_no h2)
    go_enter Tryz.func12, Tryz.ntmps12
    go_wp2_with (first | (go_at_call 35; rw [HW.out]; refine (szDataS_any _ _ _ _ _ (Hr.out.at_ hb0) (by omega) (by omega)).mono ?_; rw [H1.out]; rintro e1 w1 ⟨rfl, hb1⟩; have hb1w := below_aft hb0 hb1 hb0.size) | (go_at_call 36; refine (szCs_any e C L ccap _ _ (HC.out.at_ hb1w) (by omega) (by omega)).mono ?_; rw [H2.out]; rintro e2 w2' ⟨rfl, hb2⟩; have hb2w := below_aft hb1w hb2 hb1w.size; have hb20 := below_aft hb1 hb2 hb1.size; obtain ⟨z0, z1, z2⟩ := HXV.out.at_ hb20))
    go_ret
    exact ⟨rfl, hb2w⟩
  have H2 := Lib.hid (left_ok h2)
  by_cases h3 : (wVs v.kids : Int) ≤ 1048576 - (wDas l : Int) - (wCs L : Int)
  case neg =>
    have H3 := Lib.hid (left_no h3)
    go_enter Tryz.func12, Tryz.ntmps12
    go_wp2_with (first | (go_at_call 35; rw [HW.out]; refine (szDataS_any _ _ _ _ _ (Hr.out.at_ hb0) (by omega) (by omega)).mono ?_; rw [H1.out]; rintro e1 w1 ⟨rfl, hb1⟩; have hb1w := below_aft hb0 hb1 hb0.size) | (go_at_call 36; refine (szCs_any e C L ccap _ _ (HC.out.at_ hb1w) (by omega) (by omega)).mono ?_; rw [H2.out]; rintro e2 w2' ⟨rfl, hb2⟩; have hb2w := below_aft hb1w hb2 hb1w.size; have hb20 := below_aft hb1 hb2 hb1.size; obtain ⟨z0, z1, z2⟩ := HXV.out.at_ hb20) | (go_at_call 37; refine (szV_any e E v.kids ev v.ctor v.n _ _ (HV.out.at_ hb2w) (by omega) (by omega)).mono ?_; rw [H3.out]; rintro e3 w2 ⟨rfl, hb3⟩; have hb3w := below_aft hb2w hb3 hb2w.size; have hb30 := below_aft hb20 hb3 hb20.size))
    go_ret
    exact ⟨rfl, hb3w⟩
  · have H3 := Lib.hid (left_ok h3)
    have hnc : wCs L ≤ 1048576 := by omega
    have hnv : wVs v.kids ≤ 1048576 := by omega
    have hnvw : wV v ≤ 16000000 := by rw [wV_kids]; omega
    have hnd : wDas l ≤ 1048576 := by omega
    have hlens := lens_le (l := l) (N := 1048576) (by omega)
    have hmd := mD_le l
    have hsc := stC_most L
    have HLN := Lib.hid hlens
    have hmm : ∀ x : Int, (x != x) = false := fun x => by simp
    have HSP : Hid (∀ (B E1 E2 : Option Addr) (c c1 c2 : Nat) (W : World), RDas W W.heap.size B l → RCs e W W.heap.size E1 L → RVs e W W.heap.size E2 v.kids → Calls Tryz.prog 23 #[.slice B l.length c, .agg #[.int .i64 t.data, .int .i64 t.index], .slice E1 L.length c1, .agg #[.int .i64 v.ctor, .int .i64 v.n, .slice E2 v.kids.length c2]] W fun e' w' => ∃ A c, e' = .returned (.tuple #[.int .i64 (rcO l t L v).1, .slice A (rcO l t L v).2.1.length c, .bool (rcO l t L v).2.2]) ∧ RBs e w' w'.heap.size A (rcO l t L v).2.1 ∧ Below W.heap.size W w') := fun B E1 E2 c c1 c2 W h h' h'' => (rc_spec B E1 E2 l c c1 c2 e e t L v W h h' h'' hnc hnvw).mono (by rintro e1 w1 ⟨A, S, c, rfl, rfl, h, hb⟩; exact ⟨A, c, rfl, h, hb⟩)
    have HIM : Hid (∀ (B E1 E2 : Option Addr) (c c1 c2 : Nat) (W : World), RDas W W.heap.size B l → RCs e W W.heap.size E1 L → RVs e W W.heap.size E2 v.kids → Calls Tryz.prog 22 #[.slice B l.length c, .agg #[.int .i64 t.data, .int .i64 t.index], .slice E1 L.length c1, .agg #[.int .i64 v.ctor, .int .i64 v.n, .slice E2 v.kids.length c2]] W fun e' w' => ∃ A c, e' = .returned (.tuple #[.int .i64 (rcO l t L v).1, .slice A (rcO l t L v).2.1.length c, .bool (rcO l t L v).2.2]) ∧ OBs (e + 1) w' (Nw W w') A (rcO l t L v).2.1 ∧ Below W.heap.size W w') := fun B E1 E2 c c1 c2 W h h' h'' => (rc_impl B E1 E2 l c c1 c2 e t L v W h h' h'' hnvw).mono (by rintro e1 w1 ⟨A, S, c, rfl, rfl, h, hb⟩; exact ⟨A, c, rfl, h, hb⟩)
    have hst := rc_small l t L v
    generalize (rcO l t L v).2.1 = S at HSP HIM hst
    generalize (rcO l t L v).1 = rr at HSP HIM
    generalize (rcO l t L v).2.2 = bb at HSP HIM
    have hbb : (bb != bb) = false := by simp
    have hrr := hmm rr
    clear hlens
    go_enter Tryz.func12, Tryz.ntmps12
    go_wp2_with (first | (go_at_call 35; rw [HW.out]; refine (szDataS_any _ _ _ _ _ (Hr.out.at_ hb0) (by omega) (by omega)).mono ?_; rw [H1.out]; rintro e1 w1 ⟨rfl, hb1⟩; have hb1w := below_aft hb0 hb1 hb0.size) | (go_at_call 36; refine (szCs_any e C L ccap _ _ (HC.out.at_ hb1w) (by omega) (by omega)).mono ?_; rw [H2.out]; rintro e2 w2' ⟨rfl, hb2⟩; have hb2w := below_aft hb1w hb2 hb1w.size; have hb20 := below_aft hb1 hb2 hb1.size; obtain ⟨z0, z1, z2⟩ := HXV.out.at_ hb20) | (go_at_call 37; refine (szV_any e E v.kids ev v.ctor v.n _ _ (HV.out.at_ hb2w) (by omega) (by omega)).mono ?_; rw [H3.out]; rintro e3 w2 ⟨rfl, hb3⟩; have hb3w := below_aft hb2w hb3 hb2w.size; have hb30 := below_aft hb20 hb3 hb20.size))
    have HKS : Hid (∀ W, Below w2.heap.size w2 W → W.cell? ⟨w.heap.size, 0, none⟩ = some (.int .i64 t.data) ∧ W.cell? ⟨w.heap.size, 1, none⟩ = some (.int .i64 t.index) ∧ W.cell? ⟨w.heap.size + 1, 0, none⟩ = some (.int .i64 v.ctor) ∧ W.cell? ⟨w.heap.size + 1, 1, none⟩ = some (.int .i64 v.n) ∧ W.cell? ⟨w.heap.size + 1, 2, none⟩ = some (.slice E v.kids.length ev)) := fun W h => by
      obtain ⟨a0, a1⟩ := HXT.out.at_ (below_aft hb30 h hb30.size)
      exact ⟨a0, a1, HXV.out.at_ (below_aft hb30 h hb30.size)⟩
    have SQ := HKS.out w2.drew (Below.refl _ w2).drew
    clear z0 z1 z2 hb1 hb2 hb3
    go_region_held3 (fun w' => w'.cell? ⟨w.heap.size, 0, none⟩ = some (.int .i64 t.data) ∧ w'.cell? ⟨w.heap.size, 1, none⟩ = some (.int .i64 t.index) ∧ w'.cell? ⟨w.heap.size + 1, 0, none⟩ = some (.int .i64 v.ctor) ∧ w'.cell? ⟨w.heap.size + 1, 1, none⟩ = some (.int .i64 v.n) ∧ w'.cell? ⟨w.heap.size + 1, 2, none⟩ = some (.slice E v.kids.length ev)) (with_reducible exact SQ) (first
        | (go_at_call 38; (with_reducible refine (toDataS_any _ _ _ w2.drew (Hr.out.at_ hb3w.drew) (by omega)).mono ?_); rintro e3 w3 ⟨g3, rfl, hf3, hb'⟩; have hbq : Below w2.heap.size w2 w3 := ⟨hb'.os, hb'.tape, hb'.output, hb'.size, hb'.block⟩; have SQ := HKS.out _ hbq; have R3 := Lib.hid hf3.reads; clear hf3 hb')
        | (go_at_call 39; (with_reducible refine (toType_any _ _ w3).mono ?_); rintro e4 w4 ⟨rfl, hb'⟩; have hbq := below_aft hbq hb' hbq.size; have SQ := HKS.out _ hbq; have R4 := Lib.hid (R3.out.at_ hb'); clear hb')
        | (go_at_call 40; (with_reducible refine (toCO_any e C L ccap w4 (HC.out.at_ (below_aft hb3w hbq hb3w.size)) hnc).mono ?_); rintro e5 w5 ⟨A5, rfl, ho5, hb'⟩; have hbq := below_aft hbq hb' hbq.size; have SQ := HKS.out _ hbq; have R5 := Lib.hid (R4.out.at_ hb'); have V5 := Lib.hid (OCs.reads ho5); clear ho5 hb')
        | (go_at_call 41; (with_reducible refine (toVO_any e E v.kids ev v.ctor v.n w5 (HV.out.at_ (below_aft hb3w hbq hb3w.size)) hnv).mono ?_); rintro e6 w5b ⟨A6b, rfl, ho6, hb'⟩; have hbq := below_aft hbq hb' hbq.size; have SQ := HKS.out _ hbq; have R6 := Lib.hid (R5.out.at_ hb'); have V6 := Lib.hid (V5.out.at_ hb'); have U6 := Lib.hid (OVs.reads _ ho6); clear ho6 hb')
        | (go_at_call 23; (with_reducible refine (HSP.out _ _ _ _ _ _ w5b R6.out V6.out U6.out).mono ?_); rintro e7 w6 ⟨A6, c6, rfl, hr6, hb'⟩; have hbq := below_aft hbq hb' hbq.size; have SQ := HKS.out _ hbq; have Q6 := Lib.hid hr6; clear hr6 hb'))
    have hb6w := below_aft hb3w hbq hb3w.size
    have B26 := Lib.hid hbq
    have hs26 := hbq.size
    clear SQ hbq R3 R4 R5 V5 R6 V6 U6
    go_wp2_with fail
    refine (toDataS_any _ _ _ _ (Hr.out.at_ hb6w) (by omega)).mono ?_; rintro e7 w7 ⟨g7, rfl, hf7, hb7'⟩
    have B67 := Lib.hid hb7'
    have R7 := Lib.hid hf7.reads
    have SH7 := Lib.hid hf7.shape
    have hb7w := below_aft hb6w hb7' hb6w.size
    have hs67 := hb7'.size
    have B27 := Lib.hid (below_aft B26.out hb7' hs26)
    clear hb7' hf7
    go_wp2_with fail
    refine (toCO_any e C L ccap w7 (HC.out.at_ hb7w) hnc).mono ?_; rintro e8 w8 ⟨A8, rfl, ho8, hb8'⟩
    have B78 := Lib.hid hb8'
    have hs78 := hb8'.size
    have O8 := Lib.hid ho8
    have B28 := Lib.hid (below_aft B27.out hb8' B27.out.size)
    have hb8w := below_aft hb7w hb8' hb7w.size
    clear ho8 hb8'
    obtain ⟨_, _, z0, z1, z2⟩ := HKS.out w8 B28.out
    go_wp2_with fail
    refine (toVO_any e E v.kids ev v.ctor v.n w8 (HV.out.at_ hb8w) hnv).mono ?_; rintro e9 w9 ⟨A9, rfl, ho9, hb9'⟩
    have Bb9 := Lib.hid hb9'
    have hsb9 := hb9'.size
    obtain ⟨wc, hwc⟩ : ∃ wc, wc = w9.alloc (.cells #[.int .i64 v.ctor, .int .i64 v.n, .slice A9 v.kids.length v.kids.length] 31) := ⟨_, rfl⟩
    have hb9c : Below w9.heap.size w9 wc := by rw [hwc]; exact (Below.refl _ _).alloc (Nat.le_refl _) _
    have X14 : Hid (VBx wc w9.heap.size v.ctor v.n (.slice A9 v.kids.length v.kids.length)) := by rw [hwc]; exact ⟨by simp [go_sem], by simp [go_sem], by simp [go_sem]⟩
    have O9 : Hid (OVs (e + 1) wc (Nw w8 w9) A9 v.kids) := ho9.later3 hb9c
    have hs9c : w9.heap.size < wc.heap.size := by rw [hwc]; simp
    have HWC := Lib.hid hwc
    have Bbc := Lib.hid (below_aft Bb9.out hb9c hsb9)
    have B7c := Lib.hid (below_aft B78.out Bbc.out B78.out.size)
    have B6c := Lib.hid (below_aft B67.out B7c.out hs67)
    have B2c := Lib.hid (below_aft B27.out B7c.out B27.out.size)
    have hbcw := below_aft hb7w B7c.out hb7w.size
    have P13 : Hid (OCs (e + 1) wc (Nw w7 w8) A8 L) := O8.out.later_ Bbc.out
    have RD : Hid (RDas wc wc.heap.size (some ⟨g7, 0, none⟩) l) := R7.out.at_ B7c.out
    have RP : Hid (RCs e wc wc.heap.size A8 L) := OCs.reads P13.out
    have RV : Hid (RVs e wc wc.heap.size A9 v.kids) := OVs.reads e O9.out
    clear hwc ho9 hb9' hb9c z0 z1 z2
    have HKB : Hid (∀ W, Below wc.heap.size wc W → W.cell? ⟨w.heap.size, 0, none⟩ = some (.int .i64 t.data) ∧ W.cell? ⟨w.heap.size, 1, none⟩ = some (.int .i64 t.index) ∧ W.cell? ⟨w9.heap.size, 0, none⟩ = some (.int .i64 v.ctor) ∧ W.cell? ⟨w9.heap.size, 1, none⟩ = some (.int .i64 v.n) ∧ W.cell? ⟨w9.heap.size, 2, none⟩ = some (.slice A9 v.kids.length v.kids.length)) := fun W h => by
      obtain ⟨a0, a1, _⟩ := HKS.out W (below_aft B2c.out h B2c.out.size)
      exact ⟨a0, a1, X14.out.at_ h⟩
    have SQ := HKB.out wc.drew (Below.refl _ wc).drew
    go_wp2_with fail
    rw [← HWC.out]
    go_region_held3 (fun w' => w'.cell? ⟨w.heap.size, 0, none⟩ = some (.int .i64 t.data) ∧ w'.cell? ⟨w.heap.size, 1, none⟩ = some (.int .i64 t.index) ∧ w'.cell? ⟨w9.heap.size, 0, none⟩ = some (.int .i64 v.ctor) ∧ w'.cell? ⟨w9.heap.size, 1, none⟩ = some (.int .i64 v.n) ∧ w'.cell? ⟨w9.heap.size, 2, none⟩ = some (.slice A9 v.kids.length v.kids.length)) (with_reducible exact SQ) (first
        | (go_at_call 39; (with_reducible refine (toType_any _ _ wc.drew).mono ?_); rintro e10 w9b ⟨rfl, hb'⟩; have hbq : Below wc.heap.size wc w9b := ⟨hb'.os, hb'.tape, hb'.output, hb'.size, hb'.block⟩; have SQ := HKB.out _ hbq; have hsc9 := hbq.size; clear hb')
        | (go_at_call 22; (with_reducible refine (HIM.out _ _ _ _ _ _ w9b (RD.out.at_ hbq) (RP.out.at_ hbq) (RV.out.at_ hbq)).mono ?_); rintro e11 w10 ⟨A10, c10, rfl, ho10, hb'⟩; have hbq := below_aft hbq hb' hbq.size; have SQ := HKB.out _ hbq; have O10 := Lib.hid ho10; clear ho10 hb'))
    have hb10w := below_aft hbcw hbq hbcw.size
    have BC10 := Lib.hid hbq
    have B610 := Lib.hid (below_aft B6c.out hbq B6c.out.size)
    have hsc10 := hbq.size
    clear SQ hbq
    go_wp2_with fail
    refine (eqBs_same e _ _ S _ _ w10 (OBs.reads O10.out) (Q6.out.at_ B610.out)).mono ?_; rintro e11 w11 ⟨rfl, hb11'⟩
    have hb11w := below_aft hb10w hb11' hb10w.size
    have BC11 := Lib.hid (below_aft BC10.out hb11' hsc10)
    have B611 := Lib.hid (below_aft B610.out hb11' B610.out.size)
    have O11 : Hid (OBs (e + 1) w11 (Nw w9b w10) A10 S) := O10.out.later_ hb11'
    clear hb11'
    go_wp2_with fail
    refine (toDataS_any _ _ _ _ (Hr.out.at_ hb11w) (by omega)).mono ?_; rintro e12 w12 ⟨g12, rfl, hf12, hb12'⟩
    have hb12w := below_aft hb11w hb12' hb11w.size
    have R12 := Lib.hid hf12.reads
    have BC12 := Lib.hid (below_aft BC11.out hb12' BC11.out.size)
    have B612 := Lib.hid (below_aft B611.out hb12' B611.out.size)
    have O12 : Hid (OBs (e + 1) w12 (Nw w9b w10) A10 S) := O11.out.later_ hb12'
    clear hb12' hf12
    go_wp2_with fail
    refine (eqDataS_same _ _ _ _ _ _ (RD.out.at_ BC12.out) R12.out).mono ?_; rintro e13 w13 ⟨rfl, hb13'⟩
    have hb13w := below_aft hb12w hb13' hb12w.size
    have BC13 := Lib.hid (below_aft BC12.out hb13' BC12.out.size)
    have B613 := Lib.hid (below_aft B612.out hb13' B612.out.size)
    have O13 : Hid (OBs (e + 1) w13 (Nw w9b w10) A10 S) := O12.out.later_ hb13'
    clear hb13' R12
    go_wp2_with fail
    refine (toCO_any e C L ccap w13 (HC.out.at_ hb13w) hnc).mono ?_; rintro e14 w14 ⟨A14, rfl, ho14, hb14'⟩
    have hb14w := below_aft hb13w hb14' hb13w.size
    have V14 := Lib.hid (OCs.reads ho14)
    have BC14 := Lib.hid (below_aft BC13.out hb14' BC13.out.size)
    have B614 := Lib.hid (below_aft B613.out hb14' B613.out.size)
    have O14 : Hid (OBs (e + 1) w14 (Nw w9b w10) A10 S) := O13.out.later_ hb14'
    clear hb14' ho14
    go_wp2_with fail
    refine (eqCs_same e _ _ L _ _ w14 (RP.out.at_ BC14.out) V14.out).mono ?_; rintro e15 w15 ⟨rfl, hb15'⟩
    have hb15w := below_aft hb14w hb15' hb14w.size
    have BC15 := Lib.hid (below_aft BC14.out hb15' BC14.out.size)
    have B615 := Lib.hid (below_aft B614.out hb15' B614.out.size)
    have O15 : Hid (OBs (e + 1) w15 (Nw w9b w10) A10 S) := O14.out.later_ hb15'
    clear hb15' V14
    have HKD : Hid (∀ W, Below wc.heap.size wc W → W.cell? ⟨w9.heap.size, 0, none⟩ = some (.int .i64 v.ctor) ∧ W.cell? ⟨w9.heap.size, 1, none⟩ = some (.int .i64 v.n) ∧ W.cell? ⟨w9.heap.size, 2, none⟩ = some (.slice A9 v.kids.length v.kids.length) ∧ W.cell? ⟨w.heap.size + 1, 0, none⟩ = some (.int .i64 v.ctor) ∧ W.cell? ⟨w.heap.size + 1, 1, none⟩ = some (.int .i64 v.n) ∧ W.cell? ⟨w.heap.size + 1, 2, none⟩ = some (.slice E v.kids.length ev)) := fun W h => by
      obtain ⟨_, _, x0, x1, x2⟩ := HKS.out W (below_aft B2c.out h B2c.out.size)
      obtain ⟨c0, c1, c2⟩ := X14.out.at_ h
      exact ⟨c0, c1, c2, x0, x1, x2⟩
    have SQ := HKD.out w15.drew BC15.out.drew
    go_wp2_with fail
    go_region_held3 (fun w' => w'.cell? ⟨w9.heap.size, 0, none⟩ = some (.int .i64 v.ctor) ∧ w'.cell? ⟨w9.heap.size, 1, none⟩ = some (.int .i64 v.n) ∧ w'.cell? ⟨w9.heap.size, 2, none⟩ = some (.slice A9 v.kids.length v.kids.length) ∧ w'.cell? ⟨w.heap.size + 1, 0, none⟩ = some (.int .i64 v.ctor) ∧ w'.cell? ⟨w.heap.size + 1, 1, none⟩ = some (.int .i64 v.n) ∧ w'.cell? ⟨w.heap.size + 1, 2, none⟩ = some (.slice E v.kids.length ev)) (with_reducible exact SQ) (first
        | (go_at_call 41; (with_reducible refine (toVO_any e E v.kids ev v.ctor v.n w15.drew (HV.out.at_ hb15w.drew) hnv).mono ?_); rintro e16 w16 ⟨A16, rfl, ho16, hb'⟩; have hb16' : Below w15.heap.size w15 w16 := ⟨hb'.os, hb'.tape, hb'.output, hb'.size, hb'.block⟩; have hbq := below_aft BC15.out hb16' BC15.out.size; have SQ := HKD.out _ hbq; have V16 := Lib.hid (OVs.reads _ ho16); clear ho16 hb')
        | (go_at_call 45; (with_reducible refine (eqV_same e _ _ v.kids _ _ v.ctor v.n w16 (RV.out.at_ hbq) V16.out).mono ?_); rintro e17 w17 ⟨rfl, hb'⟩; have hb17' := below_aft hb16' hb' hb16'.size; have hbq := below_aft hbq hb' hbq.size; have SQ := HKD.out _ hbq; clear hb'))
    have hb17w := below_aft hb15w hb17' hb15w.size
    have BC17 := Lib.hid hbq
    have B617 := Lib.hid (below_aft B615.out hb17' B615.out.size)
    have O17 : Hid (OBs (e + 1) w17 (Nw w9b w10) A10 S) := O15.out.later_ hb17'
    have P17 : Hid (OCs (e + 1) w17 (Nw w7 w8) A8 L) := P13.out.later_ hbq
    have V17 : Hid (OVs (e + 1) w17 (Nw w8 w9) A9 v.kids) := O9.out.later3 hbq
    have Y17 := Lib.hid (X14.out.at_ hbq)
    have hsc17 := hbq.size
    clear SQ hbq hb17' V16 hb16'
    have hlens := HLN.out
    have hs78 := B78.out.size
    go_wp2_with fail
    refine (markDataS_any _ l _ w6.heap.size w7.heap.size 1 _ B617.out.size hlens.1 hlens.2 (by omega) (by omega) (SH7.out.kept (Kept.below (below_aft B7c.out BC17.out B7c.out.size) hs67))).mono ?_; rintro e18 w18 ⟨rfl, hk18⟩
    have hb18w : Below w.heap.size w w18 := hb17w.trans (hk18.1.mono hb6w.size)
    have B618 : Hid (Below w6.heap.size w6 w18) := B617.out.trans hk18.1
    have F18 := Fr.kept hk18
    have hs1718 := hk18.1.size
    have P18 : Hid (OCs (e + 1) w18 (Nw w7 w8) A8 L) := P17.out.fr F18 (fun b h1 h2 => by have := h1.1; have := h2.2; omega)
    have V18 : Hid (OVs (e + 1) w18 (Nw w8 w9) A9 v.kids) := V17.out.fr _ F18 (fun b h1 h2 => by have := h1.1; have := h2.2; omega)
    have Y18 := Lib.hid (Y17.out.fr3 F18 (fun h2 => by have := h2.2; omega))
    have O18 : Hid (OBs (e + 1) w18 (Nw w9b w10) A10 S) := O17.out.fr F18 (fun b h1 h2 => by have := h1.1; have := h2.2; omega)
    clear hk18 F18
    go_wp2_with fail
    refine (mkC_any (e + 1) (Nw w7 w8) _ L _ _ w18 P18.out hnc (by omega) (by omega)).mono ?_; rintro e19 w19 ⟨rfl, _, hf19⟩
    have hn19 : ∀ b, b < w6.heap.size → ¬ Nw w7 w8 b := fun b h h2 => by have := h2.1; omega
    have hb19w : Below w.heap.size w w19 := hb18w.trans (hf19.to hb18w.size (fun b h => hn19 b (by have := hb6w.size; omega)))
    have B619 : Hid (Below w6.heap.size w6 w19) := B618.out.trans (hf19.to B618.out.size hn19)
    have hs1819 := hf19.size
    have V19 : Hid (OVs (e + 1) w19 (Nw w8 w9) A9 v.kids) := V18.out.fr _ hf19 (fun b h1 h2 => by have := h1.1; have := h2.2; omega)
    have Y19 := Lib.hid (Y18.out.fr3 hf19 (fun h2 => by have := h2.2; omega))
    have O19 : Hid (OBs (e + 1) w19 (Nw w9b w10) A10 S) := O18.out.fr hf19 (fun b h1 h2 => by have := h1.1; have := h2.2; omega)
    clear hf19
    obtain ⟨z0, z1, z2⟩ := Y19.out
    go_wp2_with fail
    refine (markV_any (e + 1) (Nw w8 w9) _ v.kids _ v.ctor v.n _ w19 V19.out (fun b h => by have := h.2; omega) hnv (by omega) (by omega)).mono ?_; rintro e20 w20 ⟨rfl, _, hf20⟩
    have hn20 : ∀ b, b < w6.heap.size → ¬ Nw w8 w9 b := fun b h h2 => by have := h2.1; omega
    have hb20w : Below w.heap.size w w20 := hb19w.trans (hf20.to hb19w.size (fun b h => hn20 b (by have := hb6w.size; omega)))
    have B620 : Hid (Below w6.heap.size w6 w20) := B619.out.trans (hf20.to B619.out.size hn20)
    have O20 : Hid (OBs (e + 1) w20 (Nw w9b w10) A10 S) := O19.out.fr hf20 (fun b h1 h2 => by have := h1.1; have := h2.2; omega)
    have hkd : decide (1 + ((l.map mD).sum : Int) + ((stC L L.length : Nat) : Int) + 2 * (wVs v.kids : Int) < 0) = false := decide_eq_false (by omega)
    clear hf20 z0 z1 z2
    go_wp2_with fail
    refine (eqBs_same e _ _ S _ _ w20 (OBs.reads O20.out) (Q6.out.at_ B620.out)).mono ?_; rintro e21 w21 ⟨rfl, hb21'⟩
    have hb21w := below_aft hb20w hb21' hb20w.size
    have B621 := Lib.hid (below_aft B620.out hb21' B620.out.size)
    have O21 : Hid (OBs (e + 1) w21 (Nw w9b w10) A10 S) := O20.out.later_ hb21'
    clear hb21'
    go_wp2_with fail
    refine (mkB_any (e + 1) (Nw w9b w10) A10 S c10 1 w21 O21.out (by omega) (by omega) (by omega)).mono ?_; rintro e22 w22 ⟨rfl, ho22, hf22⟩
    have hn22 : ∀ b, b < w6.heap.size → ¬ Nw w9b w10 b := fun b h h2 => by have := h2.1; have := B6c.out.size; omega
    have hb22w : Below w.heap.size w w22 := hb21w.trans (hf22.to hb21w.size (fun b h => hn22 b (by have := hb6w.size; omega)))
    have B622 : Hid (Below w6.heap.size w6 w22) := B621.out.trans (hf22.to B621.out.size hn22)
    have O22 := Lib.hid ho22
    have hqd : decide (1 + ((stB S S.length : Nat) : Int) < 0) = false := decide_eq_false (by omega)
    have hqm := hmm (1 + ((stB S S.length : Nat) : Int))
    clear hf22 ho22
    go_wp2_with fail
    refine (hdB_any e A10 S c10 1 w22 (OBs.reads O22.out) (by omega) (by omega) (by omega)).mono ?_; rintro e23 w23 ⟨rfl, rfl⟩
    have B222 := Lib.hid (below_aft B26.out B622.out hs26)
    have SQ := HKS.out w22.drew B222.out.drew
    go_wp2_with fail
    go_region_held3 (fun w' => w'.cell? ⟨w.heap.size, 0, none⟩ = some (.int .i64 t.data) ∧ w'.cell? ⟨w.heap.size, 1, none⟩ = some (.int .i64 t.index) ∧ w'.cell? ⟨w.heap.size + 1, 0, none⟩ = some (.int .i64 v.ctor) ∧ w'.cell? ⟨w.heap.size + 1, 1, none⟩ = some (.int .i64 v.n) ∧ w'.cell? ⟨w.heap.size + 1, 2, none⟩ = some (.slice E v.kids.length ev)) (with_reducible exact SQ) (first
        | (go_at_call 38; (with_reducible refine (toDataS_any _ _ _ w22.drew (Hr.out.at_ hb22w.drew) (by omega)).mono ?_); rintro e3 w3 ⟨g3, rfl, hf3, hb'⟩; have hbz : Below w22.heap.size w22 w3 := ⟨hb'.os, hb'.tape, hb'.output, hb'.size, hb'.block⟩; have hbq := below_aft B222.out hbz B222.out.size; have SQ := HKS.out _ hbq; have R3 := Lib.hid hf3.reads; clear hf3 hb')
        | (go_at_call 39; (with_reducible refine (toType_any _ _ w3).mono ?_); rintro e4 w4 ⟨rfl, hb'⟩; have hbz := below_aft hbz hb' hbz.size; have hbq := below_aft B222.out hbz B222.out.size; have SQ := HKS.out _ hbq; have R4 := Lib.hid (R3.out.at_ hb'); clear hb')
        | (go_at_call 40; (with_reducible refine (toCO_any e C L ccap w4 (HC.out.at_ (below_aft hb22w hbz hb22w.size)) hnc).mono ?_); rintro e5 w5 ⟨A5, rfl, ho5, hb'⟩; have hbz := below_aft hbz hb' hbz.size; have hbq := below_aft B222.out hbz B222.out.size; have SQ := HKS.out _ hbq; have R5 := Lib.hid (R4.out.at_ hb'); have V5 := Lib.hid (OCs.reads ho5); clear ho5 hb')
        | (go_at_call 41; (with_reducible refine (toVO_any e E v.kids ev v.ctor v.n w5 (HV.out.at_ (below_aft hb22w hbz hb22w.size)) hnv).mono ?_); rintro e6 w5b ⟨A6b, rfl, ho6, hb'⟩; have hbz := below_aft hbz hb' hbz.size; have hbq := below_aft B222.out hbz B222.out.size; have SQ := HKS.out _ hbq; have R6 := Lib.hid (R5.out.at_ hb'); have V6 := Lib.hid (V5.out.at_ hb'); have U6 := Lib.hid (OVs.reads _ ho6); clear ho6 hb')
        | (go_at_call 22; (with_reducible refine (HIM.out _ _ _ _ _ _ w5b R6.out V6.out U6.out).mono ?_); rintro e24 w24 ⟨A24, c24, rfl, ho24, hb'⟩; have hbz := below_aft hbz hb' hbz.size; have hbq := below_aft B222.out hbz B222.out.size; have SQ := HKS.out _ hbq; have Q24 := Lib.hid (OBs.reads ho24); clear ho24 hb'))
    have hb24w := below_aft hb22w hbz hb22w.size
    have B624 := Lib.hid (below_aft B622.out hbz B622.out.size)
    have O24 : Hid (OBs (e + 1) w24 (Nw w9b w10) A10 (numBs 1 S)) := O22.out.later_ hbz
    clear SQ hbq hbz
    go_wp2_with fail
    refine (eqBs_same e _ _ S _ _ w24 Q24.out (Q6.out.at_ B624.out)).mono ?_; rintro e25 w25 ⟨rfl, hb25'⟩
    have hb25w := below_aft hb24w hb25' hb24w.size
    have O25 : Hid (OBs (e + 1) w25 (Nw w9b w10) A10 (numBs 1 S)) := O24.out.later_ hb25'
    clear hb25'
    go_wp2_with fail
    refine (hdB_any e A10 S c10 1 w25 (OBs.reads O25.out) (by omega) (by omega) (by omega)).mono ?_; rintro e26 w26 ⟨rfl, rfl⟩
    go_wp2_with fail
    go_ret
    exact ⟨rfl, hb25w⟩
end Go.Proofs.YthdnfnmglhifmaaGreat
/-
  What an argument that is a value reads as. No statement is proved here.
-/
namespace Go.Proofs.YthdnfnmglhifmaaGreat
open Go.RowKit Go.Deep
open Go.ChangeShapes Go.WideShapes
set_option maxRecDepth 100000
set_option linter.unusedVariables false
section
variable {H : Type} {enc : TypeId × Value → H} {w : World} {spare : Nat → Bool} {held : Bool}
theorem field_atn {e : TypeId} {fs : Array Field} {fuel : Nat} {cs : List Value} {x : DataW H × List MemPlace} (he : Tryz.prog.underlying e = some (.struct fs)) (hone : oneCellFields Tryz.prog fs = true) (hlen : cs.length = fs.size)
    (h : DataW.trod enc Tryz.prog w 0 spare held fuel e cs = some x) :
    ∃ m, fuel = m + 1 ∧ ∀ (j : Nat) (f : Field), fs[j]? = some f → ∃ v y, cs[j]? = some v ∧ DataW.trod enc Tryz.prog w 0 spare held m f.type [v] = some y := by
  obtain ⟨ys, m, hfu, _, _, hyl, hf⟩ := DataW.trod_struct he h
  refine ⟨m, hfu, fun j f hj => ?_⟩
  obtain ⟨ho, hk⟩ := hone_of hone j f hj
  have hjl : j < fs.size := (Array.getElem?_eq_some_iff.1 hj).1
  have h1 := hf j f hj
  rw [ho, hk] at h1
  have hd : (cs.drop j).take 1 = [cs[j]'(by omega)] := by
    rw [List.drop_eq_getElem_cons (by omega)]; rfl
  rw [hd, List.getElem?_eq_getElem (by omega)] at h1
  exact ⟨_, _, List.getElem?_eq_getElem (by omega), h1⟩
theorem deep_all {P : Nat → Nat → Prop} (hup : ∀ i d d', d ≤ d' → P i d → P i d') : ∀ n, (∀ i, i < n → ∃ d, P i d) → ∃ D, ∀ i, i < n → P i D
  | 0, _ => ⟨0, fun i h => absurd h (Nat.not_lt_zero _)⟩
  | n + 1, h => by
    obtain ⟨D, hD⟩ := deep_all hup n (fun i hi => h i (by omega))
    obtain ⟨d, hd⟩ := h n (by omega)
    refine ⟨max D d, fun i hi => ?_⟩
    by_cases e : i = n
    · subst e; exact hup _ _ _ (Nat.le_max_right _ _) hd
    · exact hup _ _ _ (Nat.le_max_left _ _) (hD i (by omega))
theorem vls_of (fuel : Nat) : ∀ {v : Value} {x : DataW H × List MemPlace}, DataW.trod enc Tryz.prog w 0 spare held fuel 73 [v] = some x → ∃ A l cap, v = .slice A (List.length l) cap ∧ ∃ d, RVs d w w.heap.size A l := by
  induction fuel using Nat.strongRecOn with
  | _ fuel ih =>
    intro v x h
    rcases DataW.trod_slice Tryz.underlying73 h with ⟨hcs, _⟩ | ⟨a, len, cap, elems, rest, n, hfu, hcs, hx, hb, hl, hm, hlen, hel, _, _⟩
    · obtain rfl : v = .slice none 0 0 := by simpa using hcs
      exact ⟨none, [], 0, rfl, 0, RVs.nil⟩
    · obtain rfl : v = .slice (some a) len cap := by simpa using hcs
      have h3 : Tryz.prog.cellsOf 75 = 3 := by kernel_rfl
      have hone : ∀ i, i < len → ∃ (t : Vl), ∃ A c d, w.cell? ((a.add (i * 3)).add 0) = some (.int .i64 t.ctor) ∧ w.cell? ((a.add (i * 3)).add 1) = some (.int .i64 t.n) ∧ w.cell? ((a.add (i * 3)).add 2) = some (.slice A t.kids.length c) ∧ RVs d w w.heap.size A t.kids := by
        intro i hi
        have h1 := hel i hi
        rw [List.getElem?_eq_getElem (by omega)] at h1
        obtain ⟨cs', q1, q2⟩ := Option.bind_eq_some_iff.1 h1
        obtain ⟨_, hl3, hat⟩ := World.cells?_some q1
        rw [h3] at hl3 hat
        obtain ⟨m, hfm, hf⟩ := field_atn Tryz.underlying75 (by kernel_rfl) hl3 q2
        obtain ⟨v0, y0, e0, t0⟩ := hf 0 _ rfl
        obtain ⟨v1, y1, e1, t1⟩ := hf 1 _ rfl
        obtain ⟨v2, y2, e2, t2⟩ := hf 2 _ rfl
        obtain ⟨c, p0, _, _⟩ := DataW.trod_int Tryz.underlying3 t0
        obtain ⟨k, p1, _, _⟩ := DataW.trod_int Tryz.underlying3 t1
        obtain ⟨A, l, cp, rfl, d, hr⟩ := ih m (by omega) t2
        simp only [List.cons.injEq, and_true] at p0 p1
        subst p0 p1
        exact ⟨.mk c k l, A, cp, d, (hat 0 (by omega)).trans e0, (hat 1 (by omega)).trans e1, (hat 2 (by omega)).trans e2, hr⟩
      obtain ⟨f, hf⟩ := choose_lt (α := Vl) (n := len) (p := fun i t => ∃ A c d, w.cell? ((a.add (i * 3)).add 0) = some (.int .i64 t.ctor) ∧ w.cell? ((a.add (i * 3)).add 1) = some (.int .i64 t.n) ∧ w.cell? ((a.add (i * 3)).add 2) = some (.slice A t.kids.length c) ∧ RVs d w w.heap.size A t.kids) hone
      by_cases hz : len = 0
      · subst hz
        exact ⟨some a, [], cap, rfl, 0, RVs.nil⟩
      · have hsp : a.spot = none := by
          obtain ⟨A, c, d, c0, _⟩ := hf 0 (by omega)
          exact spot_of (w := w) (a := a) (by simpa [Addr.add] using c0)
        obtain ⟨b, off, sp⟩ := a
        simp only at hsp
        subst hsp
        obtain ⟨D, hD⟩ := deep_all (P := fun i d => RVl d w w.heap.size b (off + i * 3) (f i)) (fun i d d' hd h => h.more hd) len (fun i hi => by
          obtain ⟨A, c, d, c0, c1, c2, h4, h5⟩ := hf i hi
          simp only [Addr.add_lit, Nat.add_zero] at c0 c1 c2
          exact ⟨d + 1, A, c, by simpa using c0, by simpa using c1, by simpa using c2, h4, h5⟩)
        refine ⟨some ⟨b, off, none⟩, (List.range len).map f, cap, by simp, D, by simp; omega, fun k hk => ?_⟩
        have hk' : k < len := by simpa using hk
        have hbl : b < w.heap.size := by
          obtain ⟨A, c, d, c0, _⟩ := hf k hk'
          simp only [Addr.add_lit, Nat.add_zero] at c0
          exact block_lt_of_cell c0
        exact ⟨b, off, rfl, hbl, by simpa using hD k hk'⟩
/-- An argument that is a value. -/
theorem open_vl {v : Value} {d : DataW H} {ps : List MemPlace} {b0 : Nat} {r : Reach} (hv : Value.okWide Tryz.prog w r b0 75 v) (h : DataW.Trod enc Tryz.prog w 0 spare held 75 v d ps) :
    ∃ (t : Vl) (A : Option Addr) (cap d : Nat), v = .agg #[.int .i64 t.ctor, .int .i64 t.n, .slice A t.kids.length cap] ∧ RVs d w w.heap.size A t.kids := by
  obtain ⟨c0, c1, c2, y0, y1, y2, m, rfl, rfl, rfl, hy0, hy1, hy2⟩ := Go.Joins.open_agg3 Tryz.underlying75 (by kernel_rfl) (by kernel_rfl) hv h
  obtain ⟨a, e0, _, _⟩ := DataW.trod_int Tryz.underlying3 hy0
  obtain ⟨b, e1, _, _⟩ := DataW.trod_int Tryz.underlying3 hy1
  obtain ⟨A, l, cp, rfl, d, hr⟩ := vls_of m hy2
  simp only [List.cons.injEq, and_true] at e0 e1
  subst e0 e1
  exact ⟨.mk a b l, A, cp, d, rfl, hr⟩
end
end Go.Proofs.YthdnfnmglhifmaaGreat
/-
  What an argument that is a Pt tree reads as. No statement is proved here.
-/
namespace Go.Proofs.YthdnfnmglhifmaaGreat
open Go.RowKit Go.Deep
open Go.ChangeShapes Go.WideShapes
set_option maxRecDepth 100000
set_option linter.unusedVariables false
section
variable {H : Type} {enc : TypeId × Value → H} {w : World} {spare : Nat → Bool} {held : Bool}
theorem openPs_of (fuel : Nat) : ∀ {v : Value} {x : DataW H × List MemPlace}, DataW.trod enc Tryz.prog w 0 spare held fuel 155 [v] = some x → ∃ A l cap, v = .slice A (List.length l) cap ∧ ∃ d, RPs d w w.heap.size A l := by
  induction fuel using Nat.strongRecOn with
  | _ fuel ih =>
    intro v x h
    rcases DataW.trod_slice Tryz.underlying155 h with ⟨hcs, _⟩ | ⟨a, len, cap, elems, rest, n, hfu, hcs, hx, hb, hl, hm, hlen, hel, _, _⟩
    · obtain rfl : v = .slice none 0 0 := by simpa using hcs
      exact ⟨none, [], 0, rfl, 0, RPs.nil⟩
    · obtain rfl : v = .slice (some a) len cap := by simpa using hcs
      have h3 : Tryz.prog.cellsOf 157 = 6 := by kernel_rfl
      have hone : ∀ i, i < len → ∃ (t : Pt), ∃ A c d, w.cell? ((a.add (i * 6)).add 0) = some (.int .i64 t.op) ∧ w.cell? ((a.add (i * 6)).add 1) = some (.int .i64 t.ctor) ∧ w.cell? ((a.add (i * 6)).add 2) = some (.int .i64 t.n) ∧ w.cell? ((a.add (i * 6)).add 3) = some (.int .i64 t.m) ∧ w.cell? ((a.add (i * 6)).add 4) = some (.int .i64 t.var) ∧ w.cell? ((a.add (i * 6)).add 5) = some (.slice A t.kids.length c) ∧ RPs d w w.heap.size A t.kids := by
        intro i hi
        have h1 := hel i hi
        rw [List.getElem?_eq_getElem (by omega)] at h1
        obtain ⟨cs', q1, q2⟩ := Option.bind_eq_some_iff.1 h1
        obtain ⟨_, hl3, hat⟩ := World.cells?_some q1
        rw [h3] at hl3 hat
        obtain ⟨m, hfm, hf⟩ := field_atn Tryz.underlying157 (by kernel_rfl) hl3 q2
        obtain ⟨v0, y0, e0, t0⟩ := hf 0 _ rfl
        obtain ⟨v1, y1, e1, t1⟩ := hf 1 _ rfl
        obtain ⟨v2, y2, e2, t2⟩ := hf 2 _ rfl
        obtain ⟨v3, y3, e3, t3⟩ := hf 3 _ rfl
        obtain ⟨v4, y4, e4, t4⟩ := hf 4 _ rfl
        obtain ⟨v5, y5, e5, t5⟩ := hf 5 _ rfl
        obtain ⟨z0, p0, _, _⟩ := DataW.trod_int Tryz.underlying3 t0
        obtain ⟨z1, p1, _, _⟩ := DataW.trod_int Tryz.underlying3 t1
        obtain ⟨z2, p2, _, _⟩ := DataW.trod_int Tryz.underlying3 t2
        obtain ⟨z3, p3, _, _⟩ := DataW.trod_int Tryz.underlying3 t3
        obtain ⟨z4, p4, _, _⟩ := DataW.trod_int Tryz.underlying3 t4
        obtain ⟨A, l, cp, rfl, d, hr⟩ := ih m (by omega) t5
        simp only [List.cons.injEq, and_true] at p0 p1 p2 p3 p4
        subst p0 p1 p2 p3 p4
        exact ⟨.mk z0 z1 z2 z3 z4 l, A, cp, d, (hat 0 (by omega)).trans e0, (hat 1 (by omega)).trans e1, (hat 2 (by omega)).trans e2, (hat 3 (by omega)).trans e3, (hat 4 (by omega)).trans e4, (hat 5 (by omega)).trans e5, hr⟩
      obtain ⟨f, hf⟩ := choose_lt (α := Pt) (n := len) (p := fun i t => ∃ A c d, w.cell? ((a.add (i * 6)).add 0) = some (.int .i64 t.op) ∧ w.cell? ((a.add (i * 6)).add 1) = some (.int .i64 t.ctor) ∧ w.cell? ((a.add (i * 6)).add 2) = some (.int .i64 t.n) ∧ w.cell? ((a.add (i * 6)).add 3) = some (.int .i64 t.m) ∧ w.cell? ((a.add (i * 6)).add 4) = some (.int .i64 t.var) ∧ w.cell? ((a.add (i * 6)).add 5) = some (.slice A t.kids.length c) ∧ RPs d w w.heap.size A t.kids) hone
      by_cases hz : len = 0
      · subst hz
        exact ⟨some a, [], cap, rfl, 0, RPs.nil⟩
      · have hsp : a.spot = none := by
          obtain ⟨A, c, d, c0, _⟩ := hf 0 (by omega)
          exact spot_of (w := w) (a := a) (by simpa [Addr.add] using c0)
        obtain ⟨b, off, sp⟩ := a
        simp only at hsp
        subst hsp
        obtain ⟨D, hD⟩ := deep_all (P := fun i d => RPl d w w.heap.size b (off + i * 6) (f i)) (fun i d d' hd h => h.more hd) len (fun i hi => by
          obtain ⟨A, c, d, c0, c1, c2, c3, c4, c5, h8, h9⟩ := hf i hi
          simp only [Addr.add_lit, Nat.add_zero] at c0 c1 c2 c3 c4 c5
          exact ⟨d + 1, A, c, by simpa using c0, by simpa using c1, by simpa using c2, by simpa using c3, by simpa using c4, by simpa using c5, h8, h9⟩)
        refine ⟨some ⟨b, off, none⟩, (List.range len).map f, cap, by simp, D, by simp; omega, fun k hk => ?_⟩
        have hk' : k < len := by simpa using hk
        have hbl : b < w.heap.size := by
          obtain ⟨A, c, d, c0, _⟩ := hf k hk'
          simp only [Addr.add_lit, Nat.add_zero] at c0
          exact block_lt_of_cell c0
        exact ⟨b, off, rfl, hbl, by simpa using hD k hk'⟩
end
end Go.Proofs.YthdnfnmglhifmaaGreat
