/-
  The law FnExactMaskValue walked. No statement is proved here.
-/
import Derived.Test.YtnfjjabeobcenaaU15
import Derived.Test.YtnfjjabeobcenaaU10
import Derived.Test.YtnfjjabeobcenaaU11
import Derived.Deep.RegionHeld3
import Derived.Deep.DeepCutAuto
namespace Go.Proofs.Ytnfjjabeobcenaa
open Go.RowKit Go.Sort Go.Deep
set_option maxRecDepth 100000
set_option linter.unusedVariables false
theorem VBx.fr {w w' : World} {b : Nat} {c n : Int} {s : Value} {P : Nat → Prop} (h : VBx w b c n s) (hf : Fr P w w') (hp : ¬ P b) : VBx w' b c n s := by
  have hk := hf.2.2.2.2 b (Go.block_lt_of_cell h.1) hp
  exact ⟨(World.cell?_of_block (a := ⟨b, 0, none⟩) hk).trans h.1, (World.cell?_of_block (a := ⟨b, 1, none⟩) hk).trans h.2.1, (World.cell?_of_block (a := ⟨b, 2, none⟩) hk).trans h.2.2⟩
theorem OVs.later {d : Nat} {w w' : World} {P : Nat → Prop} {A : Option Addr} {l : List Vl} (h : OVs d w P A l) (hb : Below w.heap.size w w') : OVs d w' P A l := h.fr _ (Fr.below (P := fun _ => False) hb) (fun _ _ h => h)
theorem below_set3 {B g : Nat} {w W : World} (h : Below B w W) (hg : B ≤ g) (a b c : Value) : Below B w (((W.setCell ⟨g, 0, none⟩ a).setCell ⟨g, 1, none⟩ b).setCell ⟨g, 2, none⟩ c) :=
  ((h.setCell hg _).setCell hg _).setCell hg _
theorem SIs.fr {w w' : World} {lo hi : Nat} {A : Option Addr} {n : Nat} {P : Nat → Prop} (h : SIs w lo hi A n) (hf : Fr P w w') (hp : ∀ b, lo ≤ b → b < hi → ¬ P b) : SIs w' lo hi A n := fun hn => by
  obtain ⟨g, cs, e, hl, hg, hc⟩ := h hn
  exact ⟨g, cs, e, hl, hf.block hg (hp g hl.1 hl.2), hc⟩
theorem SIss.fr {w w' : World} {lo hi : Nat} {A : Option Addr} {l : List (List Int)} {P : Nat → Prop} (h : SIss w lo hi A l) (hf : Fr P w w') (hp : ∀ b, lo ≤ b → b < hi → ¬ P b) : SIss w' lo hi A l := fun hn => by
  obtain ⟨g, cs, e, hl, hg, hc⟩ := h hn
  refine ⟨g, cs, e, hl, hf.block hg (hp g hl.1 hl.2), fun k hk => ?_⟩
  obtain ⟨A', cap, e0, e1⟩ := hc k hk
  exact ⟨A', cap, e0, e1.fr hf hp⟩
set_option maxHeartbeats 16000000 in
theorem mv_law (A D Z : Option Addr) (l : List Da) (cap ep cz e : Nat) (t : Ty) (p : Vl) (qs : List (List Int)) (w : World) (hr : RDas w w.heap.size A l) (hv : RVs e w w.heap.size D p.kids) (hq : RIss w w.heap.size Z qs) :
    Calls Try.prog 6 #[.slice A l.length cap, .agg #[.int .i64 t.data, .int .i64 t.index], .agg #[.int .i64 p.ctor, .int .i64 p.n, .slice D p.kids.length ep], .slice Z qs.length cz] w fun e w' => e = .returned (.bool true) ∧ Below w.heap.size w w' := by
  have Hr := Lib.hid hr
  have HV := Lib.hid hv
  have HQ := Lib.hid hq
  clear hr hv hq
  generalize hw0 : (w.alloc (.cells #[.int .i64 t.data, .int .i64 t.index] 24)).alloc (.cells #[.int .i64 p.ctor, .int .i64 p.n, .slice D p.kids.length ep] 27) = w0
  have hb0 := below_box2 hw0
  have HXT : Hid (Bx w0 w.heap.size t) := by rw [← hw0]; exact ⟨by simp [go_sem], by simp [go_sem]⟩
  have HXV : Hid (VBx w0 (w.heap.size + 1) p.ctor p.n (.slice D p.kids.length ep)) := by rw [← hw0]; exact ⟨by simp [go_sem], by simp [go_sem], by simp [go_sem]⟩
  have HW := Lib.hid hw0
  clear hw0
  by_cases h1 : (wDas l : Int) ≤ 1048576
  · have H1 := Lib.hid (left_ok h1)
    by_cases h2 : (wVs p.kids : Int) ≤ 1048576 - (wDas l : Int)
    · have H2 := Lib.hid (left_ok h2)
      by_cases h3 : (wIss qs : Int) ≤ 1048576 - (wDas l : Int) - (wVs p.kids : Int)
      case neg =>
        have H3 := Lib.hid (left_no h3)
        go_enter Try.func6, Try.ntmps6
        go_wp2_with (first | (go_at_call 20; refine (szIss_any Z qs cz _ w1p (HQ.out.at_ hb1pw) (by omega) (by omega)).mono ?_; rw [H3.out]; rintro e2 w2 ⟨rfl, hb2⟩; have hb2w := below_aft hb1pw hb2 hb1pw.size; have hb20 := below_aft hb1p0 hb2 hb1p0.size) | (go_at_call 8; refine (szV_any e D p.kids ep p.ctor p.n _ w1 (HV.out.at_ hb1w) (by omega) (by omega)).mono ?_; rw [H2.out]; rintro e1p w1p ⟨rfl, hb1p⟩; have hb1pw := below_aft hb1w hb1p hb1w.size; have hb1p0 := below_aft hb1 hb1p hb1.size; clear y0 y1 y2) | (go_at_call 7; rw [HW.out]; refine (szDataS_any _ _ _ _ _ (Hr.out.at_ hb0) (by omega) (by omega)).mono ?_; rw [H1.out]; rintro e1 w1 ⟨rfl, hb1⟩; obtain ⟨y0, y1, y2⟩ := HXV.out.at_ hb1; have hb1w := below_aft hb0 hb1 hb0.size))
        go_ret
        exact ⟨rfl, hb2w⟩
      have H3 := Lib.hid (left_ok h3)
      have hnq : wIss qs ≤ 1048576 := by omega
      have hnv : wVs p.kids ≤ 1048576 := by omega
      have hnw : wV p ≤ 1048576 := by rw [wV_kids]; exact hnv
      have hnd : wDas l ≤ 1048576 := by omega
      have hlens := lens_le (l := l) (N := 1048576) (by omega)
      have hmd := mD_le l
      have HLN := Lib.hid hlens
      have HSP : Hid (∀ (B E Y : Option Addr) (c c' c3 : Nat) (W : World), RDas W W.heap.size B l → RVs e W W.heap.size E p.kids → RIss W W.heap.size Y qs → Calls Try.prog 21 #[.slice B l.length c, .agg #[.int .i64 t.data, .int .i64 t.index], .agg #[.int .i64 p.ctor, .int .i64 p.n, .slice E p.kids.length c'], .slice Y qs.length c3] W fun e' w' => ∃ B' c'', e' = .returned (.tuple #[.agg #[.int .i64 (mvR e l t p qs).ctor, .int .i64 (mvR e l t p qs).n, .slice B' (mvR e l t p qs).kids.length c''], .bool (paT l t p)]) ∧ OVs (e + 1) w' (Nw W w') B' (mvR e l t p qs).kids ∧ Below W.heap.size W w') := fun B E Y c c' c3 W h h' h'' => mv_spec B E Y l c c' c3 e t p qs W h h' h'' hnw
      have HIM : Hid (∀ (B E Y : Option Addr) (c c' c3 : Nat) (W : World), RDas W W.heap.size B l → RVs e W W.heap.size E p.kids → RIss W W.heap.size Y qs → Calls Try.prog 23 #[.slice B l.length c, .agg #[.int .i64 t.data, .int .i64 t.index], .agg #[.int .i64 p.ctor, .int .i64 p.n, .slice E p.kids.length c'], .slice Y qs.length c3] W fun e' w' => ∃ B' c'', e' = .returned (.tuple #[.agg #[.int .i64 (mvR e l t p qs).ctor, .int .i64 (mvR e l t p qs).n, .slice B' (mvR e l t p qs).kids.length c''], .bool (paT l t p)]) ∧ OVs (e + 1) w' (Nw W w') B' (mvR e l t p qs).kids ∧ Below W.heap.size W w') := fun B E Y c c' c3 W h h' h'' => mv_impl B E Y l c c' c3 e t p qs W h h' h'' hnw
      have hpw := mvR_w e l t p qs
      generalize mvR e l t p qs = v at HSP HIM hpw
      generalize paT l t p = bb at HSP HIM
      have hbb : (bb != bb) = false := by simp
      have hwk : wVs v.kids ≤ 1048576 := by rw [wV_kids] at hpw; omega
      have hmm : ∀ x : Int, (x != x) = false := fun x => by simp
      clear hlens
      go_enter Try.func6, Try.ntmps6
      go_wp2_with (first | (go_at_call 20; refine (szIss_any Z qs cz _ w1p (HQ.out.at_ hb1pw) (by omega) (by omega)).mono ?_; rw [H3.out]; rintro e2 w2 ⟨rfl, hb2⟩; have hb2w := below_aft hb1pw hb2 hb1pw.size; have hb20 := below_aft hb1p0 hb2 hb1p0.size) | (go_at_call 8; refine (szV_any e D p.kids ep p.ctor p.n _ w1 (HV.out.at_ hb1w) (by omega) (by omega)).mono ?_; rw [H2.out]; rintro e1p w1p ⟨rfl, hb1p⟩; have hb1pw := below_aft hb1w hb1p hb1w.size; have hb1p0 := below_aft hb1 hb1p hb1.size; clear y0 y1 y2) | (go_at_call 7; rw [HW.out]; refine (szDataS_any _ _ _ _ _ (Hr.out.at_ hb0) (by omega) (by omega)).mono ?_; rw [H1.out]; rintro e1 w1 ⟨rfl, hb1⟩; obtain ⟨y0, y1, y2⟩ := HXV.out.at_ hb1; have hb1w := below_aft hb0 hb1 hb0.size))
      have HKS : Hid (∀ W, Below w2.heap.size w2 W → W.cell? ⟨w.heap.size, 0, none⟩ = some (.int .i64 t.data) ∧ W.cell? ⟨w.heap.size, 1, none⟩ = some (.int .i64 t.index) ∧ W.cell? ⟨w.heap.size + 1, 0, none⟩ = some (.int .i64 p.ctor) ∧ W.cell? ⟨w.heap.size + 1, 1, none⟩ = some (.int .i64 p.n) ∧ W.cell? ⟨w.heap.size + 1, 2, none⟩ = some (.slice D p.kids.length ep)) := fun W h => by
        obtain ⟨a, b⟩ := HXT.out.at_ (below_aft hb20 h hb20.size)
        exact ⟨a, b, HXV.out.at_ (below_aft hb20 h hb20.size)⟩
      have SQ := HKS.out w2.drew (Below.refl _ w2).drew
      clear hb1 hb2 hb1p hb1p0 hb1pw hb1w
      have hbZ : Below w.heap.size w ((w2.alloc (.cells #[.int .i64 0, .int .i64 0, .slice none 0 0] 37)).drew) := (hb2w.alloc hb2w.size _).drew
      have SQ1 := HKS.out ((w2.alloc (.cells #[.int .i64 0, .int .i64 0, .slice none 0 0] 37)).drew) ((Below.refl _ w2).alloc (Nat.le_refl _) _).drew
      go_upto_region 11 with fail
      go_cut [10, 11] (fun s6 s7 wx => ∃ g B c, s6 = .pointer (some ⟨g, 0, none⟩) ∧ s7 = .bool bb ∧ StV (e + 1) w2 g v B c wx)
      case first =>
        go_region_held3 (fun w' => w'.cell? ⟨w.heap.size, 0, none⟩ = some (.int .i64 t.data) ∧ w'.cell? ⟨w.heap.size, 1, none⟩ = some (.int .i64 t.index) ∧ w'.cell? ⟨w.heap.size + 1, 0, none⟩ = some (.int .i64 p.ctor) ∧ w'.cell? ⟨w.heap.size + 1, 1, none⟩ = some (.int .i64 p.n) ∧ w'.cell? ⟨w.heap.size + 1, 2, none⟩ = some (.slice D p.kids.length ep)) (first | with_reducible exact SQ | with_reducible exact (HKS.out _ (hbq.alloc hbq.size _)) | with_reducible exact SQ1 | with_reducible exact (HKS.out _ (below_set3 hbq hgz _ _ _))) (first
          | (go_at_call 10; (with_reducible refine (toDataS_any _ _ _ w2.drew (Hr.out.at_ hb2w.drew) (by omega)).mono ?_); rintro e w3 ⟨g3, rfl, hf3, hb'⟩; have hbq : Below w2.heap.size w2 w3 := ⟨hb'.os, hb'.tape, hb'.output, hb'.size, hb'.block⟩; have SQ := HKS.out _ hbq; have R3 := Lib.hid hf3.reads; have hs3 := hbq.size; clear hf3 hb')
          | (go_at_call 10; (with_reducible refine (toDataS_any _ _ _ ((w2.alloc (.cells #[.int .i64 0, .int .i64 0, .slice none 0 0] 37)).drew) (Hr.out.at_ hbZ) (by omega)).mono ?_); rintro e w3 ⟨g3, rfl, hf3, hb'⟩; have hbq : Below w2.heap.size w2 w3 := ((Below.refl _ w2).alloc (Nat.le_refl _) _).drew.trans (hb'.mono (by simp)); have SQ := HKS.out _ hbq; have hzb : ZbV w3 w2.heap.size := ZbV.at_ (w := (w2.alloc (.cells #[.int .i64 0, .int .i64 0, .slice none 0 0] 37)).drew) (ZbV.new w2) hb'; have hgz : w2.heap.size ≤ w2.heap.size := Nat.le_refl _; have R3 := Lib.hid hf3.reads; have hs3 := hbq.size; clear hf3 hb')
          | (go_at_call 11; (with_reducible refine (toType_any _ _ w3).mono ?_); rintro e w4 ⟨rfl, hb'⟩; have hbq := below_aft hbq hb' hbq.size; have SQ := HKS.out _ hbq; have R4 := Lib.hid (R3.out.at_ hb'); have hs4 := hb'.size; (try (have hzb : ZbV w4 w2.heap.size := hzb.at_ hb')); clear hb')
          | (go_at_call 11; (with_reducible refine (toType_any _ _ (w3.alloc (.cells #[.int .i64 0, .int .i64 0, .slice none 0 0] 37))).mono ?_); rintro e w4 ⟨rfl, hb'⟩; have hbq := below_aft (hbq.alloc hbq.size _) hb' (by simp; have := hbq.size; omega); have SQ := HKS.out _ hbq; have R4 := Lib.hid ((R3.out.at_ ((Below.refl _ _).alloc (Nat.le_refl _) _)).at_ hb'); have hs4 : w3.heap.size ≤ w4.heap.size := (by have := hb'.size; simp at this; omega); have hzb : ZbV w4 w3.heap.size := ZbV.at_ (ZbV.new w3) hb'; have hgz : w2.heap.size ≤ w3.heap.size := hs3; clear hb')
          | (go_at_call 12; (with_reducible refine (toVO_any e D p.kids ep p.ctor p.n w4 (HV.out.at_ (below_aft hb2w hbq hb2w.size)) hnv).mono ?_); rintro e5 w5 ⟨A5, rfl, ho5, hb'⟩; have hbq := below_aft hbq hb' hbq.size; have SQ := HKS.out _ hbq; have R5 := Lib.hid (R4.out.at_ hb'); have V5 := Lib.hid (OVs.reads _ ho5); have hs5 := hb'.size; (try (have hzb := hzb.at_ hb')); clear hb' ho5)
          | (go_at_call 12; (with_reducible refine (toVO_any e D p.kids ep p.ctor p.n (w4.alloc (.cells #[.int .i64 0, .int .i64 0, .slice none 0 0] 37)) (HV.out.at_ ((below_aft hb2w hbq hb2w.size).alloc (Nat.le_trans hb2w.size hbq.size) _)) hnv).mono ?_); rintro e5 w5 ⟨A5, rfl, ho5, hb'⟩; have hbq0 := hbq; have hbq := below_aft (hbq.alloc hbq.size _) hb' (by simp; have := hbq0.size; omega); have SQ := HKS.out _ hbq; have R5 := Lib.hid ((R4.out.at_ ((Below.refl _ _).alloc (Nat.le_refl _) _)).at_ hb'); have V5 := Lib.hid (OVs.reads _ ho5); have hs5 : w4.heap.size ≤ w5.heap.size := (by have := hb'.size; simp at this; omega); have hzb : ZbV w5 w4.heap.size := ZbV.at_ (ZbV.new w4) hb'; have hgz : w2.heap.size ≤ w4.heap.size := hbq0.size; clear hb' ho5)
          | (go_at_call 22; (with_reducible refine (toIss_any Z qs cz w5 (HQ.out.at_ (below_aft hb2w hbq hb2w.size)) hnq).mono ?_); rintro eq wq ⟨gq, rfl, hfq, hb'⟩; have hbq := below_aft hbq hb' hbq.size; have SQ := HKS.out _ hbq; have Rq := Lib.hid (R5.out.at_ hb'); have Vq := Lib.hid (V5.out.at_ hb'); have Qq := Lib.hid hfq.reads; have hsq := hb'.size; (try (have hzb := hzb.at_ hb')); clear hb' hfq)
          | (go_at_call 22; (with_reducible refine (toIss_any Z qs cz (w5.alloc (.cells #[.int .i64 0, .int .i64 0, .slice none 0 0] 37)) (HQ.out.at_ ((below_aft hb2w hbq hb2w.size).alloc (Nat.le_trans hb2w.size hbq.size) _)) hnq).mono ?_); rintro eq wq ⟨gq, rfl, hfq, hb'⟩; have hbq0 := hbq; have hbq := below_aft (hbq.alloc hbq.size _) hb' (by simp; have := hbq0.size; omega); have SQ := HKS.out _ hbq; have Rq := Lib.hid ((R5.out.at_ ((Below.refl _ _).alloc (Nat.le_refl _) _)).at_ hb'); have Vq := Lib.hid ((V5.out.at_ ((Below.refl _ _).alloc (Nat.le_refl _) _)).at_ hb'); have Qq := Lib.hid hfq.reads; have hsq : w5.heap.size ≤ wq.heap.size := (by have := hb'.size; simp at this; omega); have hzb : ZbV wq w5.heap.size := ZbV.at_ (ZbV.new w5) hb'; have hgz : w2.heap.size ≤ w5.heap.size := hbq0.size; clear hb' hfq)
          | (go_at_call 21; (with_reducible refine (HSP.out _ _ _ _ _ _ wq Rq.out Vq.out Qq.out).mono ?_); rintro e6 w6 ⟨B0, c0, rfl, ho6, hb'⟩; have hbq := below_aft hbq hb' hbq.size; have SQ := HKS.out _ hbq; have O6 := Lib.hid ho6; (try (have hzd := hzb.at_ hb'; obtain ⟨k0, k1, k2, k3, k4, k5⟩ := hzd.cells)); clear ho6 hb')
          | (go_at_call 21; (with_reducible refine (HSP.out _ _ _ _ _ _ (wq.alloc (.cells #[.int .i64 0, .int .i64 0, .slice none 0 0] 37)) (Rq.out.at_ ((Below.refl _ _).alloc (Nat.le_refl _) _)) (Vq.out.at_ ((Below.refl _ _).alloc (Nat.le_refl _) _)) (Qq.out.at_ ((Below.refl _ _).alloc (Nat.le_refl _) _))).mono ?_); rintro e6 w6 ⟨B0, c0, rfl, ho6, hb'⟩; have hbq0 := hbq; have hbq := below_aft (hbq.alloc hbq.size _) hb' (by simp; have := hbq0.size; omega); have SQ := HKS.out _ hbq; have O6 := Lib.hid ho6; have hzd : ZbV w6 wq.heap.size := ZbV.at_ (ZbV.new wq) hb'; have hgz : w2.heap.size ≤ wq.heap.size := hbq0.size; obtain ⟨k0, k1, k2, k3, k4, k5⟩ := hzd.cells; clear ho6 hb'))
        all_goals
          go_wp2_with fail
          go_meet
          refine ⟨_, B0, c0, rfl, rfl, ?_⟩
          first
          | ((with_reducible refine StV.new hbq O6.out ?_); (intro b h; have h1 := h.1; have h2 := h.2; exact ⟨by omega, h2⟩))
          | ((unfold ZbV at hzd); (with_reducible refine StV.set hbq hzd hgz O6.out ?_); (intro b h; have h1 := h.1; have h2 := h.2; (try (have h3 := heap_lt hzb)); (try simp only [World.size_alloc] at h1); exact ⟨by omega, h2, by omega⟩))
      case rest =>
        clear SQ SQ1 hbZ
        obtain ⟨gs8, B0, c0, rfl, rfl, hst⟩ := hcut
        generalize wc = wa at *
        have hba := hst.2.1
        have XA : Hid (VBx wa gs8 v.ctor v.n (.slice B0 v.kids.length c0)) := hst.cells
        have RA : Hid (RVs e wa wa.heap.size B0 v.kids) := OVs.reads e hst.2.2.2
        have hbA := below_aft hb2w hba hb2w.size
        have HKA : Hid (∀ W, Below wa.heap.size wa W → W.cell? ⟨w.heap.size, 0, none⟩ = some (.int .i64 t.data) ∧ W.cell? ⟨w.heap.size, 1, none⟩ = some (.int .i64 t.index) ∧ W.cell? ⟨w.heap.size + 1, 0, none⟩ = some (.int .i64 p.ctor) ∧ W.cell? ⟨w.heap.size + 1, 1, none⟩ = some (.int .i64 p.n) ∧ W.cell? ⟨w.heap.size + 1, 2, none⟩ = some (.slice D p.kids.length ep)) := fun W h => HKS.out W (below_aft hba h hba.size)
        have hlens := HLN.out
        clear hst
        -- the copies that are handed to the program
        go_wp2_with fail
        refine (toDataS_any _ _ _ _ (Hr.out.at_ hbA) (by omega)).mono ?_; rintro e6 w6 ⟨g6, rfl, hf6, hb6'⟩
        have BA6 := Lib.hid hb6'
        have R6 := Lib.hid hf6.reads
        have SH6 := Lib.hid hf6.shape
        have hb6 := below_aft hbA hb6' hbA.size
        have hsa6 := hb6'.size
        clear hb6' hf6
        obtain ⟨q0, q1, y0, y1, y2⟩ := HKA.out w6 BA6.out
        go_wp2_with fail
        refine (toVO_any e D p.kids ep p.ctor p.n w6 (HV.out.at_ hb6) hnv).mono ?_; rintro e7 w7 ⟨A7, rfl, ho7, hb7'⟩
        have B67 := Lib.hid hb7'
        have hb7 := below_aft hb6 hb7' hb6.size
        have BA7 := Lib.hid (below_aft BA6.out hb7' hsa6)
        have hs67 := hb7'.size
        obtain ⟨wb0, hwb⟩ : ∃ wb0, wb0 = w7.alloc (.cells #[.int .i64 p.ctor, .int .i64 p.n, .slice A7 p.kids.length p.kids.length] 37) := ⟨_, rfl⟩
        have hb7b : Below w7.heap.size w7 wb0 := by rw [hwb]; exact (Below.refl _ _).alloc (Nat.le_refl _) _
        have X10 : Hid (VBx wb0 w7.heap.size p.ctor p.n (.slice A7 p.kids.length p.kids.length)) := by rw [hwb]; exact ⟨by simp [go_sem], by simp [go_sem], by simp [go_sem]⟩
        have hs7b0 : w7.heap.size < wb0.heap.size := by rw [hwb]; simp
        have hb7b0 := below_aft hb7 hb7b hb7.size
        have HWB := Lib.hid hwb
        clear hwb q0 q1 y0 y1 y2
        go_upto_region 14 with fail
        rw [← HWB.out]
        go_wp2_with fail
        refine (toIss_any Z qs cz wb0 (HQ.out.at_ hb7b0) hnq).mono ?_; rintro ez wb ⟨gz9, rfl, hfz, hbz'⟩
        have hb7z := below_aft hb7b hbz' hb7b.size
        have QZ := Lib.hid hfz.reads
        have SHZ := Lib.hid hfz.shape
        have hsbz := hbz'.size
        have X11 : Hid (VBx wb w7.heap.size p.ctor p.n (.slice A7 p.kids.length p.kids.length)) := X10.out.at_ hbz'
        have O7 : Hid (OVs (e + 1) wb (Nw w6 w7) A7 p.kids) := ho7.later hb7z
        have hbB := below_aft hb7 hb7z hb7.size
        have BAb := Lib.hid (below_aft BA7.out hb7z BA7.out.size)
        have B6b := Lib.hid (below_aft B67.out hb7z hs67)
        have hs7b : w7.heap.size < wb.heap.size := by omega
        have RD : Hid (RDas wb wb.heap.size (some ⟨g6, 0, none⟩) l) := R6.out.at_ B6b.out
        have RV : Hid (RVs e wb wb.heap.size A7 p.kids) := OVs.reads _ O7.out
        clear ho7 hb7' hb7b hb7z hfz hbz' X10
        have HKB : Hid (∀ W, Below wb.heap.size wb W → W.cell? ⟨w.heap.size, 0, none⟩ = some (.int .i64 t.data) ∧ W.cell? ⟨w.heap.size, 1, none⟩ = some (.int .i64 t.index) ∧ W.cell? ⟨w7.heap.size, 0, none⟩ = some (.int .i64 p.ctor) ∧ W.cell? ⟨w7.heap.size, 1, none⟩ = some (.int .i64 p.n) ∧ W.cell? ⟨w7.heap.size, 2, none⟩ = some (.slice A7 p.kids.length p.kids.length)) := fun W h => by
          obtain ⟨a, b, _⟩ := HKA.out W (below_aft BAb.out h BAb.out.size)
          exact ⟨a, b, X11.out.at_ h⟩
        have SQ := HKB.out wb.drew (Below.refl _ wb).drew
        have SQ1 := HKB.out ((wb.alloc (.cells #[.int .i64 0, .int .i64 0, .slice none 0 0] 37)).drew) ((Below.refl _ wb).alloc (Nat.le_refl _) _).drew
        go_upto_region 15 with fail
        go_cut [15, 16] (fun s6 s7 wx => ∃ g B c, s6 = .pointer (some ⟨g, 0, none⟩) ∧ s7 = .bool bb ∧ StV (e + 1) wb g v B c wx)
        case first =>
          go_region_held3 (fun w' => w'.cell? ⟨w.heap.size, 0, none⟩ = some (.int .i64 t.data) ∧ w'.cell? ⟨w.heap.size, 1, none⟩ = some (.int .i64 t.index) ∧ w'.cell? ⟨w7.heap.size, 0, none⟩ = some (.int .i64 p.ctor) ∧ w'.cell? ⟨w7.heap.size, 1, none⟩ = some (.int .i64 p.n) ∧ w'.cell? ⟨w7.heap.size, 2, none⟩ = some (.slice A7 p.kids.length p.kids.length)) (first | with_reducible exact SQ | with_reducible exact (HKB.out _ (hbq.alloc hbq.size _)) | with_reducible exact SQ1 | with_reducible exact (HKB.out _ (below_set3 hbq hgz _ _ _))) (first
            | (go_at_call 11; (with_reducible refine (toType_any _ _ wb.drew).mono ?_); rintro e8 w8 ⟨rfl, hb'⟩; have hbq : Below wb.heap.size wb w8 := ⟨hb'.os, hb'.tape, hb'.output, hb'.size, hb'.block⟩; have SQ := HKB.out _ hbq; have hs8 := hbq.size; clear hb')
            | (go_at_call 11; (with_reducible refine (toType_any _ _ ((wb.alloc (.cells #[.int .i64 0, .int .i64 0, .slice none 0 0] 37)).drew)).mono ?_); rintro e8 w8 ⟨rfl, hb'⟩; have hbq : Below wb.heap.size wb w8 := ((Below.refl _ wb).alloc (Nat.le_refl _) _).drew.trans (hb'.mono (by simp)); have SQ := HKB.out _ hbq; have hs8 := hbq.size; have hzb : ZbV w8 wb.heap.size := ZbV.at_ (w := (wb.alloc (.cells #[.int .i64 0, .int .i64 0, .slice none 0 0] 37)).drew) (ZbV.new wb) hb'; have hgz : wb.heap.size ≤ wb.heap.size := Nat.le_refl _; clear hb')
            | (go_at_call 23; (with_reducible refine (HIM.out _ _ _ _ _ _ w8 (RD.out.at_ hbq) (RV.out.at_ hbq) (QZ.out.at_ hbq)).mono ?_); rintro e9 w9 ⟨B1, c1, rfl, ho9, hb'⟩; have hbq := below_aft hbq hb' hbq.size; have SQ := HKB.out _ hbq; have O9 := Lib.hid ho9; (try (have hzd := hzb.at_ hb'; obtain ⟨k0, k1, k2, k3, k4, k5⟩ := hzd.cells)); clear ho9 hb')
            | (go_at_call 23; (with_reducible refine (HIM.out _ _ _ _ _ _ (w8.alloc (.cells #[.int .i64 0, .int .i64 0, .slice none 0 0] 37)) (RD.out.at_ (hbq.alloc hbq.size _)) (RV.out.at_ (hbq.alloc hbq.size _)) (QZ.out.at_ (hbq.alloc hbq.size _))).mono ?_); rintro e9 w9 ⟨B1, c1, rfl, ho9, hb'⟩; have hbq0 := hbq; have hbq := below_aft (hbq.alloc hbq.size _) hb' (by simp; have := hbq0.size; omega); have SQ := HKB.out _ hbq; have O9 := Lib.hid ho9; have hzd : ZbV w9 w8.heap.size := ZbV.at_ (ZbV.new w8) hb'; have hgz : wb.heap.size ≤ w8.heap.size := hbq0.size; obtain ⟨k0, k1, k2, k3, k4, k5⟩ := hzd.cells; clear ho9 hb'))
          all_goals
            go_wp2_with fail
            go_meet
            refine ⟨_, B1, c1, rfl, rfl, ?_⟩
            first
            | ((with_reducible refine StV.new hbq O9.out ?_); (intro b h; have h1 := h.1; have h2 := h.2; exact ⟨by omega, h2⟩))
            | ((unfold ZbV at hzd); (with_reducible refine StV.set hbq hzd hgz O9.out ?_); (intro b h; have h1 := h.1; have h2 := h.2; (try (have h3 := heap_lt hzb)); (try simp only [World.size_alloc] at h1); exact ⟨by omega, h2, by omega⟩))
        case rest =>
          clear SQ SQ1
          obtain ⟨g12, B1, c1, rfl, rfl, hst⟩ := hcut
          generalize wc = w9 at *
          have hb9' := hst.2.1
          have hb9 := below_aft hbB hb9' hbB.size
          have BA9 := Lib.hid (below_aft BAb.out hb9' BAb.out.size)
          have B69 := Lib.hid (below_aft B6b.out hb9' B6b.out.size)
          have X12 : Hid (VBx w9 g12 v.ctor v.n (.slice B1 v.kids.length c1)) := hst.cells
          have O12 : Hid (OVs (e + 1) w9 (fun b => wb.heap.size ≤ b ∧ b < w9.heap.size ∧ b ≠ g12) B1 v.kids) := hst.2.2.2
          have hg12 : wb.heap.size ≤ g12 := hst.1
          have hg12' : g12 < w9.heap.size := heap_lt hst.2.2.1
          have P7 : Hid (OVs (e + 1) w9 (Nw w6 w7) A7 p.kids) := O7.out.later hb9'
          have Y11 := Lib.hid (X11.out.at_ hb9')
          have hs9 := hb9'.size
          have QZ9 := Lib.hid (QZ.out.at_ hb9')
          have SHZ9 : Hid (SIss w9 wb0.heap.size wb.heap.size (some ⟨gz9, 0, none⟩) qs) := SHZ.out.kept (Kept.below hb9' hsbz)
          clear hst hb9'
          obtain ⟨a0, a1, a2⟩ := X12.out
          obtain ⟨d0, d1, d2⟩ := XA.out.at_ BA9.out
          go_wp2_with fail
          refine (eqV_same e _ _ v.kids _ _ v.ctor v.n w9 (OVs.reads e O12.out) (RA.out.at_ BA9.out)).mono ?_; rintro e10 w10 ⟨rfl, hb10'⟩
          have hb10 := below_aft hb9 hb10' hb9.size
          have B910 := Lib.hid hb10'
          clear hb10' a0 a1 a2 d0 d1 d2
          go_wp2_with fail
          refine (toDataS_any _ _ _ _ (Hr.out.at_ hb10) (by omega)).mono ?_; rintro e11 w11 ⟨g11, rfl, hf11, hb11'⟩
          have hb11 := below_aft hb10 hb11' hb10.size
          have R11 := Lib.hid hf11.reads
          have B911 := Lib.hid (below_aft B910.out hb11' B910.out.size)
          clear hb11' hf11
          go_wp2_with fail
          refine (eqDataS_same _ _ _ _ _ _ (R6.out.at_ (below_aft B69.out B911.out B69.out.size)) R11.out).mono ?_; rintro e12 w12 ⟨rfl, hb12'⟩
          have hb12 := below_aft hb11 hb12' hb11.size
          have B912 := Lib.hid (below_aft B911.out hb12' B911.out.size)
          clear hb12' R11 B911 B910
          have HKC : Hid (∀ W, Below w9.heap.size w9 W → W.cell? ⟨w7.heap.size, 0, none⟩ = some (.int .i64 p.ctor) ∧ W.cell? ⟨w7.heap.size, 1, none⟩ = some (.int .i64 p.n) ∧ W.cell? ⟨w7.heap.size, 2, none⟩ = some (.slice A7 p.kids.length p.kids.length) ∧ W.cell? ⟨w.heap.size + 1, 0, none⟩ = some (.int .i64 p.ctor) ∧ W.cell? ⟨w.heap.size + 1, 1, none⟩ = some (.int .i64 p.n) ∧ W.cell? ⟨w.heap.size + 1, 2, none⟩ = some (.slice D p.kids.length ep)) := fun W h => by
            obtain ⟨_, _, x, y, z⟩ := HKA.out W (below_aft BA9.out h BA9.out.size)
            obtain ⟨a, b, c⟩ := Y11.out.at_ h
            exact ⟨a, b, c, x, y, z⟩
          have SQ := HKC.out w12.drew B912.out.drew
          have hs912 := B912.out.size
          go_wp2_with fail
          go_region_held3 (fun w' => w'.cell? ⟨w7.heap.size, 0, none⟩ = some (.int .i64 p.ctor) ∧ w'.cell? ⟨w7.heap.size, 1, none⟩ = some (.int .i64 p.n) ∧ w'.cell? ⟨w7.heap.size, 2, none⟩ = some (.slice A7 p.kids.length p.kids.length) ∧ w'.cell? ⟨w.heap.size + 1, 0, none⟩ = some (.int .i64 p.ctor) ∧ w'.cell? ⟨w.heap.size + 1, 1, none⟩ = some (.int .i64 p.n) ∧ w'.cell? ⟨w.heap.size + 1, 2, none⟩ = some (.slice D p.kids.length ep)) (with_reducible exact SQ) (first
            | (go_at_call 12; (with_reducible refine (toVO_any e D p.kids ep p.ctor p.n w12.drew (HV.out.at_ hb12.drew) hnv).mono ?_); rintro e13 w13 ⟨A13, rfl, ho13, hb'⟩; have hb13' : Below w12.heap.size w12 w13 := ⟨hb'.os, hb'.tape, hb'.output, hb'.size, hb'.block⟩; have hbq := below_aft B912.out hb13' B912.out.size; have SQ := HKC.out _ hbq; have V13 := Lib.hid (OVs.reads _ ho13); clear ho13 hb')
            | (go_at_call 15; (with_reducible refine (eqV_same e _ _ p.kids _ _ p.ctor p.n w13 (OVs.reads e (P7.out.later hbq)) V13.out).mono ?_); rintro e14 w14a ⟨rfl, hb'⟩; have hb14a' := below_aft hb13' hb' hb13'.size; have hbq := below_aft hbq hb' hbq.size; have SQ := HKC.out _ hbq; clear hb'))
          clear SQ
          go_wp2_with fail
          refine (toIss_any Z qs cz w14a (HQ.out.at_ (below_aft hb12 hb14a' hb12.size)) hnq).mono ?_; rintro ei wi ⟨gi, rfl, hfi, hbi'⟩
          have Qi := Lib.hid hfi.reads
          have hbqi := below_aft hbq hbi' hbq.size
          have hb14i' := below_aft hb14a' hbi' hb14a'.size
          clear hfi hbi'
          go_wp2_with fail
          refine (eqIss_same _ _ qs _ _ wi (QZ9.out.at_ hbqi) Qi.out).mono ?_; rintro ej w14 ⟨rfl, hbj'⟩
          have hb14' := below_aft hb14i' hbj' hb14i'.size
          have hbq := below_aft hbqi hbj' hbqi.size
          have SHZ14 : Hid (SIss w14 wb0.heap.size wb.heap.size (some ⟨gz9, 0, none⟩) qs) := SHZ9.out.kept (Kept.below hbq (by omega))
          clear hbj' Qi hbqi hb14i' hb14a'
          have hb14 := below_aft hb12 hb14' hb12.size
          have B614 := Lib.hid (below_aft B69.out hbq B69.out.size)
          have BA14 := Lib.hid (below_aft BA9.out hbq BA9.out.size)
          have P14 : Hid (OVs (e + 1) w14 (Nw w6 w7) A7 p.kids) := P7.out.later hbq
          have Q14 : Hid (OVs (e + 1) w14 (fun b => wb.heap.size ≤ b ∧ b < w9.heap.size ∧ b ≠ g12) B1 v.kids) := O12.out.later hbq
          have X14 := Lib.hid (X12.out.at_ hbq)
          have Y14 := Lib.hid (Y11.out.at_ hbq)
          have hs914 := hbq.size
          clear hbq hb14' hb13'
          go_wp2_with fail
          refine (markDataS_any _ l _ wa.heap.size w6.heap.size 1 _ (Nat.le_trans hsa6 B614.out.size) hlens.1 hlens.2 (by omega) (by omega) (SH6.out.kept (Kept.below B614.out hsa6))).mono ?_; rintro e15 w15 ⟨rfl, hk15⟩
          have hb15 : Below w.heap.size w w15 := hb14.trans (hk15.1.mono hbA.size)
          have BA15 : Hid (Below wa.heap.size wa w15) := BA14.out.trans hk15.1
          have F15 := Fr.kept hk15
          have F15' := F15
          have hs1415 : w14.heap.size ≤ w15.heap.size := hk15.1.size
          have P15 : Hid (OVs (e + 1) w15 (Nw w6 w7) A7 p.kids) := P14.out.fr _ F15 (fun b h1 h2 => by have := h1.1; have := h2.2; omega)
          have Q15 : Hid (OVs (e + 1) w15 (fun b => wb.heap.size ≤ b ∧ b < w9.heap.size ∧ b ≠ g12) B1 v.kids) := Q14.out.fr _ F15 (fun b h1 h2 => by have := h1.1; have := h2.2; omega)
          have X15 := Lib.hid (X14.out.fr F15 (fun h2 => by have := h2.2; omega))
          have Y15 := Lib.hid (Y14.out.fr F15 (fun h2 => by have := h2.2; omega))
          clear hk15 F15
          obtain ⟨y0, y1, y2⟩ := Y15.out
          go_wp2_with fail
          refine (markV_any (e + 1) (Nw w6 w7) _ p.kids _ p.ctor p.n _ w15 P15.out (fun b h => by have := h.2; omega) hnv (by omega) (by omega)).mono ?_; rintro e16 w16a ⟨rfl, _, hf16⟩
          have hna : ∀ b, b < wa.heap.size → ¬ Nw w6 w7 b := fun b h h2 => by have := h2.1; omega
          have hsa15 := BA15.out.size
          have hb16a : Below w.heap.size w w16a := hb15.trans (hf16.to hb15.size (fun b h => hna b (by have := hbA.size; omega)))
          have BA16a : Hid (Below wa.heap.size wa w16a) := BA15.out.trans (hf16.to hsa15 hna)
          have Q16a : Hid (OVs (e + 1) w16a (fun b => wb.heap.size ≤ b ∧ b < w9.heap.size ∧ b ≠ g12) B1 v.kids) := Q15.out.fr _ hf16 (fun b h1 h2 => by have := h1.1; have := h2.2; omega)
          have X16a := Lib.hid (X15.out.fr hf16 (fun h2 => by have := h2.2; omega))
          have hs1516a := hf16.size
          have SHZ16 : Hid (SIss w16a wb0.heap.size wb.heap.size (some ⟨gz9, 0, none⟩) qs) := (SHZ14.out.fr F15' (fun b h1 h2 h3 => by have := h3.2; omega)).fr hf16 (fun b h1 h2 h3 => by have := h3.2; omega)
          clear hf16 y0 y1 y2
          have hsl : (qs.map List.length).sum ≤ wIss qs := by unfold wIss; omega
          go_wp2_with fail
          refine (markIss_any _ qs _ wb0.heap.size wb.heap.size _ w16a hnq (by omega) (by omega) SHZ16.out).mono ?_; rintro e16z w16 ⟨rfl, hk16⟩
          have hwa0 : wa.heap.size ≤ wb0.heap.size := by omega
          have hb16 : Below w.heap.size w w16 := hb16a.trans (hk16.1.mono (Nat.le_trans hbA.size hwa0))
          have BA16 : Hid (Below wa.heap.size wa w16) := BA16a.out.trans (hk16.1.mono hwa0)
          have F16 := Fr.kept hk16
          have Q16 : Hid (OVs (e + 1) w16 (fun b => wb.heap.size ≤ b ∧ b < w9.heap.size ∧ b ≠ g12) B1 v.kids) := Q16a.out.fr _ F16 (fun b h1 h2 => by have := h1.1; have := h2.2; omega)
          have X16 := Lib.hid (X16a.out.fr F16 (fun h2 => by have := h2.2; omega))
          have hs1516 : w15.heap.size ≤ w16.heap.size := Nat.le_trans hs1516a hk16.1.size
          have hkd : decide (1 + ((l.map mD).sum : Int) + 2 * (wVs p.kids : Int) + ((qs.map List.length).sum : Nat) < 0) = false := decide_eq_false (by omega)
          clear hk16 F16
          obtain ⟨a0, a1, a2⟩ := X16.out
          obtain ⟨d0, d1, d2⟩ := XA.out.at_ BA16.out
          go_wp2_with fail
          refine (eqV_same e _ _ v.kids _ _ v.ctor v.n w16 (OVs.reads e Q16.out) (RA.out.at_ BA16.out)).mono ?_; rintro e17 w17 ⟨rfl, hb17'⟩
          have hb17 := below_aft hb16 hb17' hb16.size
          have BA17 := Lib.hid (below_aft BA16.out hb17' BA16.out.size)
          have Q17 : Hid (OVs (e + 1) w17 (fun b => wb.heap.size ≤ b ∧ b < w9.heap.size ∧ b ≠ g12) B1 v.kids) := Q16.out.later hb17'
          have X17 := Lib.hid (X16.out.at_ hb17')
          have hs1617 := hb17'.size
          clear hb17' a0 a1 a2 d0 d1 d2
          obtain ⟨a0, a1, a2⟩ := X17.out
          go_wp2_with fail
          refine (markV_any (e + 1) (fun b => wb.heap.size ≤ b ∧ b < w9.heap.size ∧ b ≠ g12) _ v.kids _ v.ctor v.n 1 w17 Q17.out (fun b h => by have := h.2.1; omega) hwk (by omega) (by omega)).mono ?_; rintro e18 w18 ⟨rfl, ho18, hf18⟩
          have hsab := BAb.out.size
          have hnb : ∀ b, b < wa.heap.size → ¬ (wb.heap.size ≤ b ∧ b < w9.heap.size ∧ b ≠ g12) := fun b h h2 => by have := h2.1; omega
          have hb18 : Below w.heap.size w w18 := hb17.trans (hf18.to hb17.size (fun b h => hnb b (by have := hbA.size; omega)))
          have BA18 : Hid (Below wa.heap.size wa w18) := BA17.out.trans (hf18.to BA17.out.size hnb)
          have X18 := Lib.hid (X17.out.fr hf18 (fun h2 => h2.2.2 rfl))
          have Q18 := Lib.hid ho18
          clear hf18 ho18 a0 a1 a2
          obtain ⟨a0, a1, a2⟩ := X18.out
          go_wp2_with fail
          refine (heldV_any e _ v.kids _ v.ctor v.n 1 w18 (OVs.reads e Q18.out) hwk (by omega) (by omega)).mono ?_; rintro e19 w19 ⟨rfl, hb19'⟩
          have hb19 := below_aft hb18 hb19' hb18.size
          have BA19 := Lib.hid (below_aft BA18.out hb19' BA18.out.size)
          have X19 := Lib.hid (X18.out.at_ hb19')
          have Q19 : Hid (OVs (e + 1) w19 (fun b => wb.heap.size ≤ b ∧ b < w9.heap.size ∧ b ≠ g12) B1 (numVs 1 v.kids)) := Q18.out.later hb19'
          clear hb19' a0 a1 a2
          have hqm := hmm (1 + 2 * (wVs v.kids : Int))
          have HKS : Hid (∀ W, Below w19.heap.size w19 W → W.cell? ⟨w.heap.size, 0, none⟩ = some (.int .i64 t.data) ∧ W.cell? ⟨w.heap.size, 1, none⟩ = some (.int .i64 t.index) ∧ W.cell? ⟨w.heap.size + 1, 0, none⟩ = some (.int .i64 p.ctor) ∧ W.cell? ⟨w.heap.size + 1, 1, none⟩ = some (.int .i64 p.n) ∧ W.cell? ⟨w.heap.size + 1, 2, none⟩ = some (.slice D p.kids.length ep)) := fun W h => HKA.out W (below_aft BA19.out h BA19.out.size)
          have SQ := HKS.out w19.drew (Below.refl _ w19).drew
          have hbZ : Below w.heap.size w ((w19.alloc (.cells #[.int .i64 0, .int .i64 0, .slice none 0 0] 37)).drew) := (hb19.alloc hb19.size _).drew
          have SQ1 := HKS.out ((w19.alloc (.cells #[.int .i64 0, .int .i64 0, .slice none 0 0] 37)).drew) ((Below.refl _ w19).alloc (Nat.le_refl _) _).drew
          go_upto_region 38 with fail
          go_cut [20, 21] (fun s6 s7 wx => ∃ g B c, s6 = .pointer (some ⟨g, 0, none⟩) ∧ s7 = .bool bb ∧ StV (e + 1) w19 g v B c wx)
          case first =>
            go_region_held3 (fun w' => w'.cell? ⟨w.heap.size, 0, none⟩ = some (.int .i64 t.data) ∧ w'.cell? ⟨w.heap.size, 1, none⟩ = some (.int .i64 t.index) ∧ w'.cell? ⟨w.heap.size + 1, 0, none⟩ = some (.int .i64 p.ctor) ∧ w'.cell? ⟨w.heap.size + 1, 1, none⟩ = some (.int .i64 p.n) ∧ w'.cell? ⟨w.heap.size + 1, 2, none⟩ = some (.slice D p.kids.length ep)) (first | with_reducible exact SQ | with_reducible exact (HKS.out _ (hbq.alloc hbq.size _)) | with_reducible exact SQ1 | with_reducible exact (HKS.out _ (below_set3 hbq hgz _ _ _))) (first
              | (go_at_call 10; (with_reducible refine (toDataS_any _ _ _ w19.drew (Hr.out.at_ hb19.drew) (by omega)).mono ?_); rintro e w3 ⟨g3, rfl, hf3, hb'⟩; have hbq : Below w19.heap.size w19 w3 := ⟨hb'.os, hb'.tape, hb'.output, hb'.size, hb'.block⟩; have SQ := HKS.out _ hbq; have R3 := Lib.hid hf3.reads; have hs3 := hbq.size; clear hf3 hb')
              | (go_at_call 10; (with_reducible refine (toDataS_any _ _ _ ((w19.alloc (.cells #[.int .i64 0, .int .i64 0, .slice none 0 0] 37)).drew) (Hr.out.at_ hbZ) (by omega)).mono ?_); rintro e w3 ⟨g3, rfl, hf3, hb'⟩; have hbq : Below w19.heap.size w19 w3 := ((Below.refl _ w19).alloc (Nat.le_refl _) _).drew.trans (hb'.mono (by simp)); have SQ := HKS.out _ hbq; have hzb : ZbV w3 w19.heap.size := ZbV.at_ (w := (w19.alloc (.cells #[.int .i64 0, .int .i64 0, .slice none 0 0] 37)).drew) (ZbV.new w19) hb'; have hgz : w19.heap.size ≤ w19.heap.size := Nat.le_refl _; have R3 := Lib.hid hf3.reads; have hs3 := hbq.size; clear hf3 hb')
              | (go_at_call 11; (with_reducible refine (toType_any _ _ w3).mono ?_); rintro e w4 ⟨rfl, hb'⟩; have hbq := below_aft hbq hb' hbq.size; have SQ := HKS.out _ hbq; have R4 := Lib.hid (R3.out.at_ hb'); have hs4 := hb'.size; (try (have hzb : ZbV w4 w19.heap.size := hzb.at_ hb')); clear hb')
              | (go_at_call 11; (with_reducible refine (toType_any _ _ (w3.alloc (.cells #[.int .i64 0, .int .i64 0, .slice none 0 0] 37))).mono ?_); rintro e w4 ⟨rfl, hb'⟩; have hbq := below_aft (hbq.alloc hbq.size _) hb' (by simp; have := hbq.size; omega); have SQ := HKS.out _ hbq; have R4 := Lib.hid ((R3.out.at_ ((Below.refl _ _).alloc (Nat.le_refl _) _)).at_ hb'); have hs4 : w3.heap.size ≤ w4.heap.size := (by have := hb'.size; simp at this; omega); have hzb : ZbV w4 w3.heap.size := ZbV.at_ (ZbV.new w3) hb'; have hgz : w19.heap.size ≤ w3.heap.size := hs3; clear hb')
              | (go_at_call 12; (with_reducible refine (toVO_any e D p.kids ep p.ctor p.n w4 (HV.out.at_ (below_aft hb19 hbq hb19.size)) hnv).mono ?_); rintro e5 w5 ⟨A5, rfl, ho5, hb'⟩; have hbq := below_aft hbq hb' hbq.size; have SQ := HKS.out _ hbq; have R5 := Lib.hid (R4.out.at_ hb'); have V5 := Lib.hid (OVs.reads _ ho5); have hs5 := hb'.size; (try (have hzb := hzb.at_ hb')); clear hb' ho5)
              | (go_at_call 12; (with_reducible refine (toVO_any e D p.kids ep p.ctor p.n (w4.alloc (.cells #[.int .i64 0, .int .i64 0, .slice none 0 0] 37)) (HV.out.at_ ((below_aft hb19 hbq hb19.size).alloc (Nat.le_trans hb19.size hbq.size) _)) hnv).mono ?_); rintro e5 w5 ⟨A5, rfl, ho5, hb'⟩; have hbq0 := hbq; have hbq := below_aft (hbq.alloc hbq.size _) hb' (by simp; have := hbq0.size; omega); have SQ := HKS.out _ hbq; have R5 := Lib.hid ((R4.out.at_ ((Below.refl _ _).alloc (Nat.le_refl _) _)).at_ hb'); have V5 := Lib.hid (OVs.reads _ ho5); have hs5 : w4.heap.size ≤ w5.heap.size := (by have := hb'.size; simp at this; omega); have hzb : ZbV w5 w4.heap.size := ZbV.at_ (ZbV.new w4) hb'; have hgz : w19.heap.size ≤ w4.heap.size := hbq0.size; clear hb' ho5)
              | (go_at_call 22; (with_reducible refine (toIss_any Z qs cz w5 (HQ.out.at_ (below_aft hb19 hbq hb19.size)) hnq).mono ?_); rintro eq wq ⟨gq, rfl, hfq, hb'⟩; have hbq := below_aft hbq hb' hbq.size; have SQ := HKS.out _ hbq; have Rq := Lib.hid (R5.out.at_ hb'); have Vq := Lib.hid (V5.out.at_ hb'); have Qq := Lib.hid hfq.reads; have hsq := hb'.size; (try (have hzb := hzb.at_ hb')); clear hb' hfq)
              | (go_at_call 22; (with_reducible refine (toIss_any Z qs cz (w5.alloc (.cells #[.int .i64 0, .int .i64 0, .slice none 0 0] 37)) (HQ.out.at_ ((below_aft hb19 hbq hb19.size).alloc (Nat.le_trans hb19.size hbq.size) _)) hnq).mono ?_); rintro eq wq ⟨gq, rfl, hfq, hb'⟩; have hbq0 := hbq; have hbq := below_aft (hbq.alloc hbq.size _) hb' (by simp; have := hbq0.size; omega); have SQ := HKS.out _ hbq; have Rq := Lib.hid ((R5.out.at_ ((Below.refl _ _).alloc (Nat.le_refl _) _)).at_ hb'); have Vq := Lib.hid ((V5.out.at_ ((Below.refl _ _).alloc (Nat.le_refl _) _)).at_ hb'); have Qq := Lib.hid hfq.reads; have hsq : w5.heap.size ≤ wq.heap.size := (by have := hb'.size; simp at this; omega); have hzb : ZbV wq w5.heap.size := ZbV.at_ (ZbV.new w5) hb'; have hgz : w19.heap.size ≤ w5.heap.size := hbq0.size; clear hb' hfq)
              | (go_at_call 23; (with_reducible refine (HIM.out _ _ _ _ _ _ wq Rq.out Vq.out Qq.out).mono ?_); rintro e6 w6 ⟨B0, c0, rfl, ho6, hb'⟩; have hbq := below_aft hbq hb' hbq.size; have SQ := HKS.out _ hbq; have O6 := Lib.hid ho6; (try (have hzd := hzb.at_ hb'; obtain ⟨k0, k1, k2, k3, k4, k5⟩ := hzd.cells)); clear ho6 hb')
              | (go_at_call 23; (with_reducible refine (HIM.out _ _ _ _ _ _ (wq.alloc (.cells #[.int .i64 0, .int .i64 0, .slice none 0 0] 37)) (Rq.out.at_ ((Below.refl _ _).alloc (Nat.le_refl _) _)) (Vq.out.at_ ((Below.refl _ _).alloc (Nat.le_refl _) _)) (Qq.out.at_ ((Below.refl _ _).alloc (Nat.le_refl _) _))).mono ?_); rintro e6 w6 ⟨B0, c0, rfl, ho6, hb'⟩; have hbq0 := hbq; have hbq := below_aft (hbq.alloc hbq.size _) hb' (by simp; have := hbq0.size; omega); have SQ := HKS.out _ hbq; have O6 := Lib.hid ho6; have hzd : ZbV w6 wq.heap.size := ZbV.at_ (ZbV.new wq) hb'; have hgz : w19.heap.size ≤ wq.heap.size := hbq0.size; obtain ⟨k0, k1, k2, k3, k4, k5⟩ := hzd.cells; clear ho6 hb'))
            all_goals
              go_wp2_with fail
              go_meet
              refine ⟨_, B0, c0, rfl, rfl, ?_⟩
              first
              | ((with_reducible refine StV.new hbq O6.out ?_); (intro b h; have h1 := h.1; have h2 := h.2; exact ⟨by omega, h2⟩))
              | ((unfold ZbV at hzd); (with_reducible refine StV.set hbq hzd hgz O6.out ?_); (intro b h; have h1 := h.1; have h2 := h.2; (try (have h3 := heap_lt hzb)); (try simp only [World.size_alloc] at h1); exact ⟨by omega, h2, by omega⟩))
          case rest =>
            clear SQ SQ1 hbZ
            obtain ⟨gs17, B2, c2, rfl, rfl, hst⟩ := hcut
            generalize wc = w20 at *
            have hb20' := hst.2.1
            have X20 : Hid (VBx w20 gs17 v.ctor v.n (.slice B2 v.kids.length c2)) := hst.cells
            have R20 : Hid (RVs e w20 w20.heap.size B2 v.kids) := OVs.reads e hst.2.2.2
            have hb20 := below_aft hb19 hb20' hb19.size
            have BA20 := Lib.hid (below_aft BA19.out hb20' BA19.out.size)
            have Y20 := Lib.hid (X19.out.at_ hb20')
            have Q20 : Hid (OVs (e + 1) w20 (fun b => wb.heap.size ≤ b ∧ b < w9.heap.size ∧ b ≠ g12) B1 (numVs 1 v.kids)) := Q19.out.later hb20'
            clear hst hb20'
            obtain ⟨a0, a1, a2⟩ := X20.out
            obtain ⟨d0, d1, d2⟩ := XA.out.at_ BA20.out
            go_wp2_with fail
            refine (eqV_same e _ _ v.kids _ _ v.ctor v.n w20 R20.out (RA.out.at_ BA20.out)).mono ?_; rintro e21 w21 ⟨rfl, hb21'⟩
            have hb21 := below_aft hb20 hb21' hb20.size
            have X21 := Lib.hid (Y20.out.at_ hb21')
            have Q21 : Hid (OVs (e + 1) w21 (fun b => wb.heap.size ≤ b ∧ b < w9.heap.size ∧ b ≠ g12) B1 (numVs 1 v.kids)) := Q20.out.later hb21'
            clear hb21' a0 a1 a2 d0 d1 d2
            obtain ⟨a0, a1, a2⟩ := X21.out
            go_wp2_with fail
            refine (heldV_any e _ v.kids _ v.ctor v.n 1 w21 (OVs.reads e Q21.out) hwk (by omega) (by omega)).mono ?_; rintro e22 w22 ⟨rfl, hb22'⟩
            have hb22 := below_aft hb21 hb22' hb21.size
            go_wp2_with fail
            go_ret
            exact ⟨rfl, hb22⟩
    · have H2 := Lib.hid (left_no h2)
      go_enter Try.func6, Try.ntmps6
      go_wp2_with (first | (go_at_call 8; refine (szV_any e D p.kids ep p.ctor p.n _ w1 (HV.out.at_ hb1w) (by omega) (by omega)).mono ?_; rw [H2.out]; rintro e1p w1p ⟨rfl, hb1p⟩; have hb1pw := below_aft hb1w hb1p hb1w.size; have hb1p0 := below_aft hb1 hb1p hb1.size; clear y0 y1 y2) | (go_at_call 7; rw [HW.out]; refine (szDataS_any _ _ _ _ _ (Hr.out.at_ hb0) (by omega) (by omega)).mono ?_; rw [H1.out]; rintro e1 w1 ⟨rfl, hb1⟩; obtain ⟨y0, y1, y2⟩ := HXV.out.at_ hb1; have hb1w := below_aft hb0 hb1 hb0.size))
      go_ret
      exact ⟨rfl, hb1pw⟩
  · have H1 := Lib.hid (left_no h1)
    go_enter Try.func6, Try.ntmps6
    go_wp2_with (go_at_call 7; rw [HW.out]; refine (szDataS_any _ _ _ _ _ (Hr.out.at_ hb0) (by omega) (by omega)).mono ?_; rw [H1.out]; rintro e1 w1 ⟨rfl, hb1⟩; have hb1w := below_aft hb0 hb1 hb0.size)
    go_ret
    exact ⟨rfl, hb1w⟩
end Go.Proofs.Ytnfjjabeobcenaa
