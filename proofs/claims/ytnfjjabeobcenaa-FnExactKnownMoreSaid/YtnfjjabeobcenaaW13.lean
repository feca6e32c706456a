/-
  The law FnExactKnownMore walked. No statement is proved here.
-/
import Derived.Test.YtnfjjabeobcenaaW12
import Derived.Test.YtnfjjabeobcenaaW08
import Derived.Deep.RegionHeld3
import Derived.Deep.DeepCutAuto
namespace Go.Proofs.Ytnfjjabeobcenaa
open Go.RowKit Go.Deep
set_option maxRecDepth 100000
set_option linter.unusedVariables false
set_option maxHeartbeats 8000000 in
theorem km_law (A P Q : Option Addr) (l : List Da) (cap ca cb e : Nat) (t : Ty) (a b : Vl) (w : World) (hr : RDas w w.heap.size A l) (ha : RVs e w w.heap.size P a.kids) (hb : RVs e w w.heap.size Q b.kids) :
    Calls Try.prog 5 #[.slice A l.length cap, .agg #[.int .i64 t.data, .int .i64 t.index], .agg #[.int .i64 a.ctor, .int .i64 a.n, .slice P a.kids.length ca], .agg #[.int .i64 b.ctor, .int .i64 b.n, .slice Q b.kids.length cb]] w fun e w' => e = .returned (.bool true) ∧ Below w.heap.size w w' := by
  have Hr := Lib.hid hr
  have HA := Lib.hid ha
  have HB := Lib.hid hb
  clear hr ha hb
  generalize hw0 : ((w.alloc (.cells #[.int .i64 t.data, .int .i64 t.index] 24)).alloc (.cells #[.int .i64 a.ctor, .int .i64 a.n, .slice P a.kids.length ca] 27)).alloc (.cells #[.int .i64 b.ctor, .int .i64 b.n, .slice Q b.kids.length cb] 27) = w0
  have hb0 : Below w.heap.size w w0 := below_box3k hw0
  have HXT : Hid (Bx w0 w.heap.size t) := by rw [← hw0]; exact ⟨by simp [go_sem], by simp [go_sem]⟩
  have HXA : Hid (VBx w0 (w.heap.size + 1) a.ctor a.n (.slice P a.kids.length ca)) := by rw [← hw0]; exact ⟨by simp [go_sem], by simp [go_sem], by simp [go_sem]⟩
  have HXB : Hid (VBx w0 (w.heap.size + 2) b.ctor b.n (.slice Q b.kids.length cb)) := by rw [← hw0]; exact ⟨by simp [go_sem], by simp [go_sem], by simp [go_sem]⟩
  have HW := Lib.hid hw0
  clear hw0
  by_cases h1 : (wDas l : Int) ≤ 1048576
  case neg =>
    have H1 := Lib.hid (left_no h1)
    go_enter Try.func5, Try.ntmps5
    go_wp2_with (go_at_call 7; rw [HW.out]; refine (szDataS_any _ _ _ _ _ (Hr.out.at_ hb0) (by omega) (by omega)).mono ?_; rw [H1.out]; rintro e1 w1 ⟨rfl, hb1⟩; obtain ⟨y0, y1, y2⟩ := HXA.out.at_ hb1; obtain ⟨z0, z1, z2⟩ := HXB.out.at_ hb1; have hb1w := below_aft hb0 hb1 hb0.size)
    go_ret
    exact ⟨rfl, hb1w⟩
  have H1 := Lib.hid (left_ok h1)
  by_cases h2 : (wVs a.kids : Int) ≤ 1048576 - (wDas l : Int)
  case neg =>
    have H2 := Lib.hid (left_no h2)
    go_enter Try.func5, Try.ntmps5
    go_wp2_with (first | (go_at_call 8; refine (szV_any e P a.kids ca a.ctor a.n _ w1 (HA.out.at_ hb1w) (by omega) (by omega)).mono ?_; rw [H2.out]; rintro e2 w2 ⟨rfl, hb2⟩; have hb20 := below_aft hb1 hb2 hb1.size; have Y2 := HXB.out.at_ hb20; have hb2w := below_aft hb1w hb2 hb1w.size; clear y0 y1 y2 z0 z1 z2; obtain ⟨z0, z1, z2⟩ := Y2) | (go_at_call 7; rw [HW.out]; refine (szDataS_any _ _ _ _ _ (Hr.out.at_ hb0) (by omega) (by omega)).mono ?_; rw [H1.out]; rintro e1 w1 ⟨rfl, hb1⟩; obtain ⟨y0, y1, y2⟩ := HXA.out.at_ hb1; obtain ⟨z0, z1, z2⟩ := HXB.out.at_ hb1; have hb1w := below_aft hb0 hb1 hb0.size))
    go_ret
    exact ⟨rfl, hb2w⟩
  have H2 := Lib.hid (left_ok h2)
  by_cases h3 : (wVs b.kids : Int) ≤ 1048576 - (wDas l : Int) - (wVs a.kids : Int)
  case neg =>
    have H3 := Lib.hid (left_no h3)
    go_enter Try.func5, Try.ntmps5
    go_wp2_with (first | (go_at_call 8; refine (szV_any e Q b.kids cb b.ctor b.n _ w2 (HB.out.at_ hb2w) (by omega) (by omega)).mono ?_; rw [H3.out]; rintro e3 w3 ⟨rfl, hb3⟩; have hb30 := below_aft hb20 hb3 hb20.size; have hb3w := below_aft hb2w hb3 hb2w.size; clear z0 z1 z2) | (go_at_call 8; refine (szV_any e P a.kids ca a.ctor a.n _ w1 (HA.out.at_ hb1w) (by omega) (by omega)).mono ?_; rw [H2.out]; rintro e2 w2 ⟨rfl, hb2⟩; have hb20 := below_aft hb1 hb2 hb1.size; have Y2 := HXB.out.at_ hb20; have hb2w := below_aft hb1w hb2 hb1w.size; clear y0 y1 y2 z0 z1 z2; obtain ⟨z0, z1, z2⟩ := Y2) | (go_at_call 7; rw [HW.out]; refine (szDataS_any _ _ _ _ _ (Hr.out.at_ hb0) (by omega) (by omega)).mono ?_; rw [H1.out]; rintro e1 w1 ⟨rfl, hb1⟩; obtain ⟨y0, y1, y2⟩ := HXA.out.at_ hb1; obtain ⟨z0, z1, z2⟩ := HXB.out.at_ hb1; have hb1w := below_aft hb0 hb1 hb0.size))
    go_ret
    exact ⟨rfl, hb3w⟩
  have H3 := Lib.hid (left_ok h3)
  have hnd : wDas l ≤ 1048576 := by omega
  have hna : wVs a.kids ≤ 1048576 := by omega
  have hnb : wVs b.kids ≤ 1048576 := by omega
  have hwa : wV a ≤ 16000000 := by rw [wV_kids]; omega
  have hwb : wV b ≤ 16000000 := by rw [wV_kids]; omega
  have HSP : Hid (∀ (A1 P1 Q1 : Option Addr) (c1 c2 c3 : Nat) (W : World), RDas W W.heap.size A1 l → RVs e W W.heap.size P1 a.kids → RVs e W W.heap.size Q1 b.kids → Calls Try.prog 18 #[.slice A1 l.length c1, .agg #[.int .i64 t.data, .int .i64 t.index], .agg #[.int .i64 a.ctor, .int .i64 a.n, .slice P1 a.kids.length c2], .agg #[.int .i64 b.ctor, .int .i64 b.n, .slice Q1 b.kids.length c3]] W fun e w' => e = .returned (.bool (kmT l t a b)) ∧ Below W.heap.size W w') := fun A1 P1 Q1 c1 c2 c3 W h h' h'' => km_spec A1 P1 Q1 l c1 c2 c3 e e t a b W h h' h'' hwa hwb
  have HIM : Hid (∀ (A1 P1 Q1 : Option Addr) (c1 c2 c3 : Nat) (W : World), RDas W W.heap.size A1 l → RVs e W W.heap.size P1 a.kids → RVs e W W.heap.size Q1 b.kids → Calls Try.prog 19 #[.slice A1 l.length c1, .agg #[.int .i64 t.data, .int .i64 t.index], .agg #[.int .i64 a.ctor, .int .i64 a.n, .slice P1 a.kids.length c2], .agg #[.int .i64 b.ctor, .int .i64 b.n, .slice Q1 b.kids.length c3]] W fun e w' => e = .returned (.bool (kmT l t a b)) ∧ Below W.heap.size W w') := fun A1 P1 Q1 c1 c2 c3 W h h' h'' => km_impl A1 P1 Q1 l c1 c2 c3 e e t a b W h h' h'' hwa hwb
  generalize kmT l t a b = bb at HSP HIM
  have hbb : (bb != bb) = false := by simp
  go_enter Try.func5, Try.ntmps5
  go_wp2_with (first | (go_at_call 8; refine (szV_any e Q b.kids cb b.ctor b.n _ w2 (HB.out.at_ hb2w) (by omega) (by omega)).mono ?_; rw [H3.out]; rintro e3 w3 ⟨rfl, hb3⟩; have hb30 := below_aft hb20 hb3 hb20.size; have hb3w := below_aft hb2w hb3 hb2w.size; clear z0 z1 z2) | (go_at_call 8; refine (szV_any e P a.kids ca a.ctor a.n _ w1 (HA.out.at_ hb1w) (by omega) (by omega)).mono ?_; rw [H2.out]; rintro e2 w2 ⟨rfl, hb2⟩; have hb20 := below_aft hb1 hb2 hb1.size; have Y2 := HXB.out.at_ hb20; have hb2w := below_aft hb1w hb2 hb1w.size; clear y0 y1 y2 z0 z1 z2; obtain ⟨z0, z1, z2⟩ := Y2) | (go_at_call 7; rw [HW.out]; refine (szDataS_any _ _ _ _ _ (Hr.out.at_ hb0) (by omega) (by omega)).mono ?_; rw [H1.out]; rintro e1 w1 ⟨rfl, hb1⟩; obtain ⟨y0, y1, y2⟩ := HXA.out.at_ hb1; obtain ⟨z0, z1, z2⟩ := HXB.out.at_ hb1; have hb1w := below_aft hb0 hb1 hb0.size))
  have HKS : Hid (∀ W, Below w3.heap.size w3 W → W.cell? ⟨w.heap.size, 0, none⟩ = some (.int .i64 t.data) ∧ W.cell? ⟨w.heap.size, 1, none⟩ = some (.int .i64 t.index) ∧ W.cell? ⟨w.heap.size + 1, 0, none⟩ = some (.int .i64 a.ctor) ∧ W.cell? ⟨w.heap.size + 1, 1, none⟩ = some (.int .i64 a.n) ∧ W.cell? ⟨w.heap.size + 1, 2, none⟩ = some (.slice P a.kids.length ca) ∧ W.cell? ⟨w.heap.size + 2, 0, none⟩ = some (.int .i64 b.ctor) ∧ W.cell? ⟨w.heap.size + 2, 1, none⟩ = some (.int .i64 b.n) ∧ W.cell? ⟨w.heap.size + 2, 2, none⟩ = some (.slice Q b.kids.length cb)) := fun W h => by
    obtain ⟨x0, x1⟩ := HXT.out.at_ (below_aft hb30 h hb30.size)
    obtain ⟨y0, y1, y2⟩ := HXA.out.at_ (below_aft hb30 h hb30.size)
    exact ⟨x0, x1, y0, y1, y2, HXB.out.at_ (below_aft hb30 h hb30.size)⟩
  have SQ := HKS.out w3.drew (Below.refl _ w3).drew
  clear hb1 hb2 hb3
  go_region_held3 (fun w' => w'.cell? ⟨w.heap.size, 0, none⟩ = some (.int .i64 t.data) ∧ w'.cell? ⟨w.heap.size, 1, none⟩ = some (.int .i64 t.index) ∧ w'.cell? ⟨w.heap.size + 1, 0, none⟩ = some (.int .i64 a.ctor) ∧ w'.cell? ⟨w.heap.size + 1, 1, none⟩ = some (.int .i64 a.n) ∧ w'.cell? ⟨w.heap.size + 1, 2, none⟩ = some (.slice P a.kids.length ca) ∧ w'.cell? ⟨w.heap.size + 2, 0, none⟩ = some (.int .i64 b.ctor) ∧ w'.cell? ⟨w.heap.size + 2, 1, none⟩ = some (.int .i64 b.n) ∧ w'.cell? ⟨w.heap.size + 2, 2, none⟩ = some (.slice Q b.kids.length cb)) (with_reducible exact SQ) (first
    | (go_at_call 12; (with_reducible refine (toV_any e Q b.kids cb b.ctor b.n w5 (HB.out.at_ (below_aft hb3w hbq hb3w.size)) hnb).mono ?_); rintro e6 w6 ⟨g6, rfl, hf6, hb'⟩; have hbq := below_aft hbq hb' hbq.size; have SQ := HKS.out _ hbq; have R6 := Lib.hid (R5.out.at_ hb'); have U6 := Lib.hid (V5.out.at_ hb'); have V6 := Lib.hid (FVs.reads _ hf6); clear hf6 hb')
    | (go_at_call 12; (with_reducible refine (toV_any e P a.kids ca a.ctor a.n w4t (HA.out.at_ (below_aft hb3w hbq hb3w.size)) hna).mono ?_); rintro e5 w5 ⟨g5, rfl, hf5, hb'⟩; have hbq := below_aft hbq hb' hbq.size; have SQ := HKS.out _ hbq; have R5 := Lib.hid (R4t.out.at_ hb'); have V5 := Lib.hid (FVs.reads _ hf5); clear hf5 hb')
    | (go_at_call 11; (with_reducible refine (toType_any _ _ _).mono ?_); rintro e4 w4t ⟨rfl, hb'⟩; have hbq := below_aft hbq hb' hbq.size; have SQ := HKS.out _ hbq; have R4t := Lib.hid (R4.out.at_ hb'); clear hb')
    | (go_at_call 10; (with_reducible refine (toDataS_any _ _ _ _ (Hr.out.at_ hb3w.drew) (by omega)).mono ?_); rintro e4 w4 ⟨g4, rfl, hf4, hb'⟩; have hbq : Below w3.heap.size w3 w4 := ⟨hb'.os, hb'.tape, hb'.output, hb'.size, hb'.block⟩; have SQ := HKS.out _ hbq; have R4 := Lib.hid hf4.reads; clear hf4 hb')
    | (go_at_call 18; (with_reducible refine (HSP.out _ _ _ _ _ _ w6 R6.out U6.out V6.out).mono ?_); rintro e5 w5s ⟨rfl, hb'⟩; have hbq := below_aft hbq hb' hbq.size; have SQ := HKS.out _ hbq; clear hb'))
  have hb5w := below_aft hb3w hbq hb3w.size
  have B35 := Lib.hid hbq
  clear SQ hbq R4 R4t R5 R6 V5 V6 U6
  obtain ⟨x0, x1, y0, y1, y2, z0, z1, z2⟩ := HKS.out w5s B35.out
  go_wp2_with (go_at_call 10; refine (toDataS_any _ _ _ _ (by exact Hr.out.at_ hb5w) (by omega)).mono ?_; rintro e6 w6 ⟨g6, rfl, hf6, hb6⟩; have R6 := Lib.hid hf6.reads; have hb6w := below_aft hb5w hb6 hb5w.size; have B36 := Lib.hid (below_aft B35.out hb6 B35.out.size); clear hf6 hb6 x0 x1 y0 y1 y2 z0 z1 z2; obtain ⟨x0, x1, y0, y1, y2, z0, z1, z2⟩ := HKS.out w6 B36.out)
  refine (toV_any e P a.kids ca a.ctor a.n _ (HA.out.at_ hb6w) hna).mono ?_; rintro e7 w7 ⟨g7, rfl, hf7, hb7⟩
  obtain ⟨w7b, hw7b⟩ : ∃ w7b, w7b = w7.alloc (.cells #[.int .i64 a.ctor, .int .i64 a.n, .slice (some ⟨g7, 0, none⟩) a.kids.length a.kids.length] 37) := ⟨_, rfl⟩
  have hb77 : Below w7.heap.size w7 w7b := by rw [hw7b]; exact (Below.refl _ _).alloc (Nat.le_refl _) _
  have X7 : Hid (VBx w7b w7.heap.size a.ctor a.n (.slice (some ⟨g7, 0, none⟩) a.kids.length a.kids.length)) := by rw [hw7b]; exact ⟨by simp [go_sem], by simp [go_sem], by simp [go_sem]⟩
  have V7 := Lib.hid ((FVs.reads _ hf7).at_ hb77)
  have HWB7 := Lib.hid hw7b
  have B67 := Lib.hid (below_aft hb7 hb77 hb7.size)
  have R7 := Lib.hid (R6.out.at_ B67.out)
  have B37 := Lib.hid (below_aft B36.out B67.out B36.out.size)
  have hb7w := below_aft hb6w B67.out hb6w.size
  clear hw7b hf7 hb7 hb77 x0 x1 y0 y1 y2 z0 z1 z2
  obtain ⟨_, _, _, _, _, z0, z1, z2⟩ := HKS.out w7b B37.out
  go_upto_region 14 with fail
  rw [← HWB7.out]
  go_wp2_with fail
  refine (toV_any e Q b.kids cb b.ctor b.n _ (HB.out.at_ hb7w) hnb).mono ?_; rintro e8 w8 ⟨g8, rfl, hf8, hb8⟩
  obtain ⟨w8b, hw8b⟩ : ∃ w8b, w8b = w8.alloc (.cells #[.int .i64 b.ctor, .int .i64 b.n, .slice (some ⟨g8, 0, none⟩) b.kids.length b.kids.length] 37) := ⟨_, rfl⟩
  have hb88 : Below w8.heap.size w8 w8b := by rw [hw8b]; exact (Below.refl _ _).alloc (Nat.le_refl _) _
  have X8 : Hid (VBx w8b w8.heap.size b.ctor b.n (.slice (some ⟨g8, 0, none⟩) b.kids.length b.kids.length)) := by rw [hw8b]; exact ⟨by simp [go_sem], by simp [go_sem], by simp [go_sem]⟩
  have V8 := Lib.hid ((FVs.reads _ hf8).at_ hb88)
  have HWB8 := Lib.hid hw8b
  have B78 := Lib.hid (below_aft hb8 hb88 hb8.size)
  have R8 := Lib.hid (R7.out.at_ B78.out)
  have U8 := Lib.hid (V7.out.at_ B78.out)
  have B38 := Lib.hid (below_aft B37.out B78.out B37.out.size)
  have hb8w := below_aft hb7w B78.out hb7w.size
  have X78 := Lib.hid (X7.out.at_ B78.out)
  clear hw8b hf8 hb8 hb88 z0 z1 z2
  have HKC : Hid (∀ W, Below w8b.heap.size w8b W → W.cell? ⟨w.heap.size, 0, none⟩ = some (.int .i64 t.data) ∧ W.cell? ⟨w.heap.size, 1, none⟩ = some (.int .i64 t.index) ∧ W.cell? ⟨w7.heap.size, 0, none⟩ = some (.int .i64 a.ctor) ∧ W.cell? ⟨w7.heap.size, 1, none⟩ = some (.int .i64 a.n) ∧ W.cell? ⟨w7.heap.size, 2, none⟩ = some (.slice (some ⟨g7, 0, none⟩) a.kids.length a.kids.length) ∧ W.cell? ⟨w8.heap.size, 0, none⟩ = some (.int .i64 b.ctor) ∧ W.cell? ⟨w8.heap.size, 1, none⟩ = some (.int .i64 b.n) ∧ W.cell? ⟨w8.heap.size, 2, none⟩ = some (.slice (some ⟨g8, 0, none⟩) b.kids.length b.kids.length)) := fun W h => by
    obtain ⟨x0, x1, _⟩ := HKS.out W (below_aft B38.out h B38.out.size)
    obtain ⟨c0, c1, c2⟩ := X78.out.at_ h
    exact ⟨x0, x1, c0, c1, c2, X8.out.at_ h⟩
  have SQ := HKC.out w8b.drew (Below.refl _ w8b).drew
  go_upto_region 15 with fail
  rw [← HWB8.out]
  go_region_held3 (fun w' => w'.cell? ⟨w.heap.size, 0, none⟩ = some (.int .i64 t.data) ∧ w'.cell? ⟨w.heap.size, 1, none⟩ = some (.int .i64 t.index) ∧ w'.cell? ⟨w7.heap.size, 0, none⟩ = some (.int .i64 a.ctor) ∧ w'.cell? ⟨w7.heap.size, 1, none⟩ = some (.int .i64 a.n) ∧ w'.cell? ⟨w7.heap.size, 2, none⟩ = some (.slice (some ⟨g7, 0, none⟩) a.kids.length a.kids.length) ∧ w'.cell? ⟨w8.heap.size, 0, none⟩ = some (.int .i64 b.ctor) ∧ w'.cell? ⟨w8.heap.size, 1, none⟩ = some (.int .i64 b.n) ∧ w'.cell? ⟨w8.heap.size, 2, none⟩ = some (.slice (some ⟨g8, 0, none⟩) b.kids.length b.kids.length)) (with_reducible exact SQ) (first
    | (go_at_call 11; (with_reducible refine (toType_any _ _ _).mono ?_); rintro e9 w9 ⟨rfl, hb'⟩; have hbq : Below w8b.heap.size w8b w9 := ⟨hb'.os, hb'.tape, hb'.output, hb'.size, hb'.block⟩; have SQ := HKC.out _ hbq; clear hb')
    | (go_at_call 19; (with_reducible refine (HIM.out _ _ _ _ _ _ w9 (R8.out.at_ hbq) (U8.out.at_ hbq) (V8.out.at_ hbq)).mono ?_); rintro e10 w10 ⟨rfl, hb'⟩; have hbq := below_aft hbq hb' hbq.size; have SQ := HKC.out _ hbq; clear hb'))
  have B810 := Lib.hid hbq
  have hb10w := below_aft hb8w hbq hb8w.size
  clear SQ hbq
  go_wp2_with (first | (go_at_call 10; refine (toDataS_any _ _ _ _ (by exact Hr.out.at_ hb10w) (by omega)).mono ?_; rintro e12 w12 ⟨g12, rfl, hf12, hb12⟩; have B812 := Lib.hid (below_aft B810.out hb12 B810.out.size); have Q12 := Lib.hid hf12.reads; have hb12w := below_aft hb10w hb12 hb10w.size; clear hf12 hb12) | (go_at_call 14; refine (eqDataS_same _ _ _ _ _ _ (R8.out.at_ B812.out) Q12.out).mono ?_; rintro e13 w13 ⟨rfl, hb13⟩; have B813 := Lib.hid (below_aft B812.out hb13 B812.out.size); have hb13w := below_aft hb12w hb13 hb12w.size; clear hb13))
  have HKA : Hid (∀ W, Below w8b.heap.size w8b W → W.cell? ⟨w.heap.size + 1, 0, none⟩ = some (.int .i64 a.ctor) ∧ W.cell? ⟨w.heap.size + 1, 1, none⟩ = some (.int .i64 a.n) ∧ W.cell? ⟨w.heap.size + 1, 2, none⟩ = some (.slice P a.kids.length ca) ∧ W.cell? ⟨w7.heap.size, 0, none⟩ = some (.int .i64 a.ctor) ∧ W.cell? ⟨w7.heap.size, 1, none⟩ = some (.int .i64 a.n) ∧ W.cell? ⟨w7.heap.size, 2, none⟩ = some (.slice (some ⟨g7, 0, none⟩) a.kids.length a.kids.length)) := fun W h => by
    obtain ⟨_, _, y0, y1, y2, _⟩ := HKS.out W (below_aft B38.out h B38.out.size)
    obtain ⟨c0, c1, c2⟩ := X78.out.at_ h
    exact ⟨y0, y1, y2, c0, c1, c2⟩
  have HKB : Hid (∀ W, Below w8b.heap.size w8b W → W.cell? ⟨w.heap.size + 2, 0, none⟩ = some (.int .i64 b.ctor) ∧ W.cell? ⟨w.heap.size + 2, 1, none⟩ = some (.int .i64 b.n) ∧ W.cell? ⟨w.heap.size + 2, 2, none⟩ = some (.slice Q b.kids.length cb) ∧ W.cell? ⟨w8.heap.size, 0, none⟩ = some (.int .i64 b.ctor) ∧ W.cell? ⟨w8.heap.size, 1, none⟩ = some (.int .i64 b.n) ∧ W.cell? ⟨w8.heap.size, 2, none⟩ = some (.slice (some ⟨g8, 0, none⟩) b.kids.length b.kids.length)) := fun W h => by
    obtain ⟨_, _, _, _, _, y0, y1, y2⟩ := HKS.out W (below_aft B38.out h B38.out.size)
    exact ⟨y0, y1, y2, X8.out.at_ h⟩
  have SQ := HKA.out w13.drew B813.out.drew
  go_region_held3 (fun w' => w'.cell? ⟨w.heap.size + 1, 0, none⟩ = some (.int .i64 a.ctor) ∧ w'.cell? ⟨w.heap.size + 1, 1, none⟩ = some (.int .i64 a.n) ∧ w'.cell? ⟨w.heap.size + 1, 2, none⟩ = some (.slice P a.kids.length ca) ∧ w'.cell? ⟨w7.heap.size, 0, none⟩ = some (.int .i64 a.ctor) ∧ w'.cell? ⟨w7.heap.size, 1, none⟩ = some (.int .i64 a.n) ∧ w'.cell? ⟨w7.heap.size, 2, none⟩ = some (.slice (some ⟨g7, 0, none⟩) a.kids.length a.kids.length)) (with_reducible exact SQ) (first
    | (go_at_call 12; (with_reducible refine (toV_any e P a.kids ca a.ctor a.n w13.drew (HA.out.at_ hb13w.drew) hna).mono ?_); rintro e14 w14 ⟨g14, rfl, hf14, hb'⟩; have hbr : Below w13.heap.size w13 w14 := ⟨hb'.os, hb'.tape, hb'.output, hb'.size, hb'.block⟩; have hbq := below_aft B813.out hbr B813.out.size; have SQ := HKA.out _ hbq; have V14 := Lib.hid (FVs.reads _ hf14); clear hf14 hb')
    | (go_at_call 15; (with_reducible refine (eqV_same e _ _ a.kids _ _ a.ctor a.n w14 (U8.out.at_ hbq) V14.out).mono ?_); rintro e15 w15 ⟨rfl, hb'⟩; have hbr := below_aft hbr hb' hbr.size; have hbq := below_aft hbq hb' hbq.size; have SQ := HKA.out _ hbq; clear hb'))
  have hb15w := below_aft hb13w hbr hb13w.size
  have B815 := Lib.hid hbq
  clear SQ hbq hbr V14
  have SQ := HKB.out w15.drew B815.out.drew
  go_wp2_with fail
  go_region_held3 (fun w' => w'.cell? ⟨w.heap.size + 2, 0, none⟩ = some (.int .i64 b.ctor) ∧ w'.cell? ⟨w.heap.size + 2, 1, none⟩ = some (.int .i64 b.n) ∧ w'.cell? ⟨w.heap.size + 2, 2, none⟩ = some (.slice Q b.kids.length cb) ∧ w'.cell? ⟨w8.heap.size, 0, none⟩ = some (.int .i64 b.ctor) ∧ w'.cell? ⟨w8.heap.size, 1, none⟩ = some (.int .i64 b.n) ∧ w'.cell? ⟨w8.heap.size, 2, none⟩ = some (.slice (some ⟨g8, 0, none⟩) b.kids.length b.kids.length)) (with_reducible exact SQ) (first
    | (go_at_call 12; (with_reducible refine (toV_any e Q b.kids cb b.ctor b.n w15.drew (HB.out.at_ hb15w.drew) hnb).mono ?_); rintro e16 w16 ⟨g16, rfl, hf16, hb'⟩; have hbr : Below w15.heap.size w15 w16 := ⟨hb'.os, hb'.tape, hb'.output, hb'.size, hb'.block⟩; have hbq := below_aft B815.out hbr B815.out.size; have SQ := HKB.out _ hbq; have V16 := Lib.hid (FVs.reads _ hf16); clear hf16 hb')
    | (go_at_call 15; (with_reducible refine (eqV_same e _ _ b.kids _ _ b.ctor b.n w16 (V8.out.at_ hbq) V16.out).mono ?_); rintro e17 w17 ⟨rfl, hb'⟩; have hbr := below_aft hbr hb' hbr.size; have hbq := below_aft hbq hb' hbq.size; have SQ := HKB.out _ hbq; clear hb'))
  have hb17w := below_aft hb15w hbr hb15w.size
  clear SQ hbq hbr
  go_wp2_with fail
  go_ret
  exact ⟨rfl, hb17w⟩
end Go.Proofs.Ytnfjjabeobcenaa
