/-
  The law FnExactCompareValues walked. No statement is proved here.
-/
import Derived.Test.YtchgeogdiedloaaW02
import Derived.Test.YtchgeogdiedloaaW00
import Derived.Lib.SmallJoins
namespace Go.Proofs.Ytchgeogdiedloaa
open Go.RowKit Go.Sort Go.Deep
set_option maxRecDepth 100000
set_option linter.unusedVariables false
theorem below_box2c {w w0 : World} {o o' : Obj} (h : (w.alloc o).alloc o' = w0) : Below w.heap.size w w0 := by rw [← h]; exact ((Below.refl _ _).alloc (Nat.le_refl _) _).alloc (by simp) _
theorem OVc.later3 {d : Nat} {w w' : World} {P : Nat → Prop} {A : Option Addr} {l : List Vl} (h : OVc d w P A l) (hb : Below w.heap.size w w') : OVc d w' P A l := h.fr _ (Fr.below (P := fun _ => False) hb) (fun _ _ h => h)
set_option maxHeartbeats 8000000 in
theorem vcm_law (D E : Option Addr) (cp cq d : Nat) (p q : Vl) (w : World) (hp : RVs d w w.heap.size D p.kids) (hq : RVs d w w.heap.size E q.kids) :
    Calls Try.prog 3 #[.agg #[.int .i64 p.ctor, .int .i64 p.n, .slice D p.kids.length cp], .agg #[.int .i64 q.ctor, .int .i64 q.n, .slice E q.kids.length cq]] w fun e w' => e = .returned (.bool true) ∧ Below w.heap.size w w' := by
  have HP := Lib.hid hp
  have HQ := Lib.hid hq
  clear hp hq
  generalize hw0 : (w.alloc (.cells #[.int .i64 p.ctor, .int .i64 p.n, .slice D p.kids.length cp] 24)).alloc (.cells #[.int .i64 q.ctor, .int .i64 q.n, .slice E q.kids.length cq] 24) = w0
  have hb0 : Below w.heap.size w w0 := below_box2c hw0
  have HXP : Hid (VBx w0 w.heap.size p.ctor p.n (.slice D p.kids.length cp)) := by rw [← hw0]; exact ⟨by simp [go_sem], by simp [go_sem], by simp [go_sem]⟩
  have HXQ : Hid (VBx w0 (w.heap.size + 1) q.ctor q.n (.slice E q.kids.length cq)) := by rw [← hw0]; exact ⟨by simp [go_sem], by simp [go_sem], by simp [go_sem]⟩
  have HW := Lib.hid hw0
  clear hw0
  obtain ⟨x0, x1, x2⟩ := HXP.out
  by_cases h1 : (wVs p.kids : Int) ≤ 1048576
  case neg =>
    have H1 := Lib.hid (left_no h1)
    go_enter Try.func3, Try.ntmps3
    go_wp2_with (go_at_call 5; (try rw [HW.out]); refine (szV_any d D p.kids cp p.ctor p.n _ w0 (HP.out.at_ hb0) (by omega) (by omega)).mono ?_; rw [H1.out]; rintro e1 w1 ⟨rfl, hb1⟩; obtain ⟨y0, y1, y2⟩ := HXQ.out.at_ hb1; have hb1w := below_aft hb0 hb1 hb0.size)
    go_ret
    exact ⟨rfl, hb1w⟩
  have H1 := Lib.hid (left_ok h1)
  by_cases h2 : (wVs q.kids : Int) ≤ 1048576 - (wVs p.kids : Int)
  case neg =>
    have H2 := Lib.hid (left_no h2)
    go_enter Try.func3, Try.ntmps3
    go_wp2_with (first | (go_at_call 5; refine (szV_any d E q.kids cq q.ctor q.n _ w1 (HQ.out.at_ hb1w) (by omega) (by omega)).mono ?_; rw [H2.out]; rintro e2 w2 ⟨rfl, hb2⟩; have hb2w := below_aft hb1w hb2 hb1w.size; have hb20 := below_aft hb1 hb2 hb1.size) | (go_at_call 5; (try rw [HW.out]); refine (szV_any d D p.kids cp p.ctor p.n _ w0 (HP.out.at_ hb0) (by omega) (by omega)).mono ?_; rw [H1.out]; rintro e1 w1 ⟨rfl, hb1⟩; obtain ⟨y0, y1, y2⟩ := HXQ.out.at_ hb1; have hb1w := below_aft hb0 hb1 hb0.size))
    go_ret
    exact ⟨rfl, hb2w⟩
  have H2 := Lib.hid (left_ok h2)
  have hnp : wVs p.kids ≤ 1048576 := by omega
  have hnq : wVs q.kids ≤ 1048576 := by omega
  have hnpw : wV p ≤ 1048576 := by rw [wV_kids]; exact hnp
  have HSP : Hid (∀ (E1 E2 : Option Addr) (c1 c2 : Nat) (W : World), RVs d W W.heap.size E1 p.kids → RVs d W W.heap.size E2 q.kids → Calls Try.prog 6 #[.agg #[.int .i64 p.ctor, .int .i64 p.n, .slice E1 p.kids.length c1], .agg #[.int .i64 q.ctor, .int .i64 q.n, .slice E2 q.kids.length c2]] W fun e w' => e = .returned (.int .i64 (cmV p q)) ∧ Below W.heap.size W w') := fun E1 E2 c1 c2 W h h' => cvs_spec d d E1 E2 p q c1 c2 W h h'
  have HIM : Hid (∀ (E1 E2 : Option Addr) (c1 c2 : Nat) (P1 P2 : Nat → Prop) (W : World), OVc (d + 1) W P1 E1 p.kids → OVc (d + 1) W P2 E2 q.kids → (∀ b, P1 b → b < W.heap.size) → (∀ b, P2 b → b < W.heap.size) → (p.kids.length ≤ c1 ∧ c1 ≤ maxLen) → (q.kids.length ≤ c2 ∧ c2 ≤ maxLen) → Calls Try.prog 8 #[.agg #[.int .i64 p.ctor, .int .i64 p.n, .slice E1 p.kids.length c1], .agg #[.int .i64 q.ctor, .int .i64 q.n, .slice E2 q.kids.length c2]] W fun e w' => e = .returned (.int .i64 (cmV p q)) ∧ Below W.heap.size W w') := fun E1 E2 c1 c2 P1 P2 W h h' h1 h2 h3 h4 => cv_full E1 E2 p q c1 c2 (d + 1) (d + 1) P1 P2 W h h' h1 h2 h3 h4 hnpw
  generalize cmV p q = bb at HSP HIM
  have hbb : (bb != bb) = false := by simp
  go_enter Try.func3, Try.ntmps3
  go_wp2_with (first | (go_at_call 5; refine (szV_any d E q.kids cq q.ctor q.n _ w1 (HQ.out.at_ hb1w) (by omega) (by omega)).mono ?_; rw [H2.out]; rintro e2 w2 ⟨rfl, hb2⟩; have hb2w := below_aft hb1w hb2 hb1w.size; have hb20 := below_aft hb1 hb2 hb1.size) | (go_at_call 5; (try rw [HW.out]); refine (szV_any d D p.kids cp p.ctor p.n _ w0 (HP.out.at_ hb0) (by omega) (by omega)).mono ?_; rw [H1.out]; rintro e1 w1 ⟨rfl, hb1⟩; obtain ⟨y0, y1, y2⟩ := HXQ.out.at_ hb1; have hb1w := below_aft hb0 hb1 hb0.size))
  have HKS : Hid (∀ W, Below w2.heap.size w2 W → W.cell? ⟨w.heap.size, 0, none⟩ = some (.int .i64 p.ctor) ∧ W.cell? ⟨w.heap.size, 1, none⟩ = some (.int .i64 p.n) ∧ W.cell? ⟨w.heap.size, 2, none⟩ = some (.slice D p.kids.length cp) ∧ W.cell? ⟨w.heap.size + 1, 0, none⟩ = some (.int .i64 q.ctor) ∧ W.cell? ⟨w.heap.size + 1, 1, none⟩ = some (.int .i64 q.n) ∧ W.cell? ⟨w.heap.size + 1, 2, none⟩ = some (.slice E q.kids.length cq)) := fun W h => by
    obtain ⟨a0, a1, a2⟩ := HXP.out.at_ (below_aft hb20 h hb20.size)
    exact ⟨a0, a1, a2, HXQ.out.at_ (below_aft hb20 h hb20.size)⟩
  have SQ := HKS.out w2.drew (Below.refl _ w2).drew
  clear hb1 hb2 y0 y1 y2 x0 x1 x2
  go_region_held3 (fun w' => w'.cell? ⟨w.heap.size, 0, none⟩ = some (.int .i64 p.ctor) ∧ w'.cell? ⟨w.heap.size, 1, none⟩ = some (.int .i64 p.n) ∧ w'.cell? ⟨w.heap.size, 2, none⟩ = some (.slice D p.kids.length cp) ∧ w'.cell? ⟨w.heap.size + 1, 0, none⟩ = some (.int .i64 q.ctor) ∧ w'.cell? ⟨w.heap.size + 1, 1, none⟩ = some (.int .i64 q.n) ∧ w'.cell? ⟨w.heap.size + 1, 2, none⟩ = some (.slice E q.kids.length cq)) (with_reducible exact SQ) (first
    | (go_at_call 7; (with_reducible refine (toVOc_any d E q.kids cq q.ctor q.n w3 (HQ.out.at_ (below_aft hb2w hbq hb2w.size)) hnq).mono ?_); rintro e4 w4 ⟨A4, rfl, ho4, hb'⟩; have hbq := below_aft hbq hb' hbq.size; have SQ := HKS.out _ hbq; have R4 := Lib.hid (R3.out.at_ hb'); have V4 := Lib.hid (OVc.reads _ ho4); clear ho4 hb')
    | (go_at_call 7; (with_reducible refine (toVOc_any d D p.kids cp p.ctor p.n w2.drew (HP.out.at_ hb2w.drew) hnp).mono ?_); rintro e3 w3 ⟨A3, rfl, ho3, hb'⟩; have hbq : Below w2.heap.size w2 w3 := ⟨hb'.os, hb'.tape, hb'.output, hb'.size, hb'.block⟩; have SQ := HKS.out _ hbq; have R3 := Lib.hid (OVc.reads _ ho3); clear ho3 hb')
    | (go_at_call 6; (with_reducible refine (HSP.out _ _ _ _ w4 R4.out V4.out).mono ?_); rintro e5 w5 ⟨rfl, hb'⟩; have hbq := below_aft hbq hb' hbq.size; have SQ := HKS.out _ hbq; clear hb'))
  have hb5w := below_aft hb2w hbq hb2w.size
  have B25 := Lib.hid hbq
  clear SQ hbq R3 R4 V4
  obtain ⟨x0, x1, x2, _⟩ := HKS.out w5 B25.out
  go_wp2_with fail
  refine (toVOc_any d D p.kids cp p.ctor p.n w5 (HP.out.at_ hb5w) hnp).mono ?_; rintro e6 w6 ⟨A6, rfl, ho6, hb6'⟩
  obtain ⟨w6b, hw6b⟩ : ∃ w6b, w6b = w6.alloc (.cells #[.int .i64 p.ctor, .int .i64 p.n, .slice A6 p.kids.length p.kids.length] 29) := ⟨_, rfl⟩
  have hb6b : Below w6.heap.size w6 w6b := by rw [hw6b]; exact (Below.refl _ _).alloc (Nat.le_refl _) _
  have X6 : Hid (VBx w6b w6.heap.size p.ctor p.n (.slice A6 p.kids.length p.kids.length)) := by rw [hw6b]; exact ⟨by simp [go_sem], by simp [go_sem], by simp [go_sem]⟩
  have O6 : Hid (OVc (d + 1) w6b (Nw w5 w6) A6 p.kids) := ho6.later3 hb6b
  have hs6b : w6.heap.size < w6b.heap.size := by rw [hw6b]; simp
  have HWB6 := Lib.hid hw6b
  have B5b := Lib.hid (below_aft hb6' hb6b hb6'.size)
  have B2b := Lib.hid (below_aft B25.out B5b.out B25.out.size)
  have hb6w := below_aft hb5w B5b.out hb5w.size
  have hs56 := hb6'.size
  clear hw6b ho6 hb6' hb6b x0 x1 x2
  obtain ⟨_, _, _, y0, y1, y2⟩ := HKS.out w6b B2b.out
  go_upto_region 10 with fail
  rw [← HWB6.out]
  go_wp2_with fail
  refine (toVOc_any d E q.kids cq q.ctor q.n w6b (HQ.out.at_ hb6w) hnq).mono ?_; rintro e7 w7 ⟨A7, rfl, ho7, hb7'⟩
  obtain ⟨w7b, hw7b⟩ : ∃ w7b, w7b = w7.alloc (.cells #[.int .i64 q.ctor, .int .i64 q.n, .slice A7 q.kids.length q.kids.length] 29) := ⟨_, rfl⟩
  have hb7b : Below w7.heap.size w7 w7b := by rw [hw7b]; exact (Below.refl _ _).alloc (Nat.le_refl _) _
  have X7 : Hid (VBx w7b w7.heap.size q.ctor q.n (.slice A7 q.kids.length q.kids.length)) := by rw [hw7b]; exact ⟨by simp [go_sem], by simp [go_sem], by simp [go_sem]⟩
  have O7 : Hid (OVc (d + 1) w7b (Nw w6b w7) A7 q.kids) := ho7.later3 hb7b
  have hs7b : w7.heap.size < w7b.heap.size := by rw [hw7b]; simp
  have HWB7 := Lib.hid hw7b
  have B67 := Lib.hid (below_aft hb7' hb7b hb7'.size)
  have B27 := Lib.hid (below_aft B2b.out B67.out B2b.out.size)
  have hb7w := below_aft hb6w B67.out hb6w.size
  have hs67 := hb7'.size
  have P7 : Hid (OVc (d + 1) w7b (Nw w5 w6) A6 p.kids) := O6.out.later3 B67.out
  have X67 := Lib.hid (X6.out.at_ B67.out)
  clear hw7b ho7 hb7' hb7b y0 y1 y2
  obtain ⟨a0, a1, a2⟩ := X67.out
  obtain ⟨b0, b1, b2⟩ := X7.out
  go_upto_region 11 with fail
  rw [← HWB7.out]
  go_wp2_with fail
  refine (HIM.out A6 A7 _ _ _ _ w7b P7.out O7.out (fun b h => by have := h.2; omega) (fun b h => by have := h.2; omega) ⟨Nat.le_refl _, by unfold maxLen; have := wVs_sum p.kids; omega⟩ ⟨Nat.le_refl _, by unfold maxLen; have := wVs_sum q.kids; omega⟩).mono ?_; rintro e8 w8 ⟨rfl, hb8'⟩
  have hb8w := below_aft hb7w hb8' hb7w.size
  have B78 := Lib.hid hb8'
  have B28 := Lib.hid (below_aft B27.out hb8' B27.out.size)
  have RP : Hid (RVs d w7b w7b.heap.size A6 p.kids) := OVc.reads d P7.out
  have RQ : Hid (RVs d w7b w7b.heap.size A7 q.kids) := OVc.reads d O7.out
  clear a0 a1 a2 b0 b1 b2 hb8'
  have HKC : Hid (∀ W, Below w7b.heap.size w7b W → W.cell? ⟨w6.heap.size, 0, none⟩ = some (.int .i64 p.ctor) ∧ W.cell? ⟨w6.heap.size, 1, none⟩ = some (.int .i64 p.n) ∧ W.cell? ⟨w6.heap.size, 2, none⟩ = some (.slice A6 p.kids.length p.kids.length) ∧ W.cell? ⟨w.heap.size, 0, none⟩ = some (.int .i64 p.ctor) ∧ W.cell? ⟨w.heap.size, 1, none⟩ = some (.int .i64 p.n) ∧ W.cell? ⟨w.heap.size, 2, none⟩ = some (.slice D p.kids.length cp)) := fun W h => by
    obtain ⟨x0, x1, x2, _⟩ := HKS.out W (below_aft B27.out h B27.out.size)
    obtain ⟨c0, c1, c2⟩ := X67.out.at_ h
    exact ⟨c0, c1, c2, x0, x1, x2⟩
  have HKD : Hid (∀ W, Below w7b.heap.size w7b W → W.cell? ⟨w7.heap.size, 0, none⟩ = some (.int .i64 q.ctor) ∧ W.cell? ⟨w7.heap.size, 1, none⟩ = some (.int .i64 q.n) ∧ W.cell? ⟨w7.heap.size, 2, none⟩ = some (.slice A7 q.kids.length q.kids.length) ∧ W.cell? ⟨w.heap.size + 1, 0, none⟩ = some (.int .i64 q.ctor) ∧ W.cell? ⟨w.heap.size + 1, 1, none⟩ = some (.int .i64 q.n) ∧ W.cell? ⟨w.heap.size + 1, 2, none⟩ = some (.slice E q.kids.length cq)) := fun W h => by
    obtain ⟨_, _, _, x0, x1, x2⟩ := HKS.out W (below_aft B27.out h B27.out.size)
    obtain ⟨c0, c1, c2⟩ := X7.out.at_ h
    exact ⟨c0, c1, c2, x0, x1, x2⟩
  have SQ := HKC.out w8.drew B78.out.drew
  go_wp2_with fail
  go_region_held3 (fun w' => w'.cell? ⟨w6.heap.size, 0, none⟩ = some (.int .i64 p.ctor) ∧ w'.cell? ⟨w6.heap.size, 1, none⟩ = some (.int .i64 p.n) ∧ w'.cell? ⟨w6.heap.size, 2, none⟩ = some (.slice A6 p.kids.length p.kids.length) ∧ w'.cell? ⟨w.heap.size, 0, none⟩ = some (.int .i64 p.ctor) ∧ w'.cell? ⟨w.heap.size, 1, none⟩ = some (.int .i64 p.n) ∧ w'.cell? ⟨w.heap.size, 2, none⟩ = some (.slice D p.kids.length cp)) (with_reducible exact SQ) (first
    | (go_at_call 7; (with_reducible refine (toVOc_any d D p.kids cp p.ctor p.n w8.drew (HP.out.at_ hb8w.drew) hnp).mono ?_); rintro e9 w9 ⟨A9, rfl, ho9, hb'⟩; have hb9' : Below w8.heap.size w8 w9 := ⟨hb'.os, hb'.tape, hb'.output, hb'.size, hb'.block⟩; have hbq := below_aft B78.out hb9' B78.out.size; have SQ := HKC.out _ hbq; have V9 := Lib.hid (OVc.reads _ ho9); clear ho9 hb')
    | (go_at_call 9; (with_reducible refine (eqV_same d _ _ p.kids _ _ p.ctor p.n w9 (RP.out.at_ hbq) V9.out).mono ?_); rintro e10 w10 ⟨rfl, hb'⟩; have hb10' := below_aft hb9' hb' hb9'.size; have hbq := below_aft hbq hb' hbq.size; have SQ := HKC.out _ hbq; clear hb'))
  have hb10w := below_aft hb8w hb10' hb8w.size
  have B710 := Lib.hid hbq
  clear SQ hbq hb10' hb9' V9
  have SQ := HKD.out w10.drew B710.out.drew
  go_wp2_with fail
  go_region_held3 (fun w' => w'.cell? ⟨w7.heap.size, 0, none⟩ = some (.int .i64 q.ctor) ∧ w'.cell? ⟨w7.heap.size, 1, none⟩ = some (.int .i64 q.n) ∧ w'.cell? ⟨w7.heap.size, 2, none⟩ = some (.slice A7 q.kids.length q.kids.length) ∧ w'.cell? ⟨w.heap.size + 1, 0, none⟩ = some (.int .i64 q.ctor) ∧ w'.cell? ⟨w.heap.size + 1, 1, none⟩ = some (.int .i64 q.n) ∧ w'.cell? ⟨w.heap.size + 1, 2, none⟩ = some (.slice E q.kids.length cq)) (with_reducible exact SQ) (first
    | (go_at_call 7; (with_reducible refine (toVOc_any d E q.kids cq q.ctor q.n w10.drew (HQ.out.at_ hb10w.drew) hnq).mono ?_); rintro e11 w11 ⟨A11, rfl, ho11, hb'⟩; have hb11' : Below w10.heap.size w10 w11 := ⟨hb'.os, hb'.tape, hb'.output, hb'.size, hb'.block⟩; have hbq := below_aft B710.out hb11' B710.out.size; have SQ := HKD.out _ hbq; have V11 := Lib.hid (OVc.reads _ ho11); clear ho11 hb')
    | (go_at_call 9; (with_reducible refine (eqV_same d _ _ q.kids _ _ q.ctor q.n w11 (RQ.out.at_ hbq) V11.out).mono ?_); rintro e12 w12 ⟨rfl, hb'⟩; have hb12' := below_aft hb11' hb' hb11'.size; have hbq := below_aft hbq hb' hbq.size; have SQ := HKD.out _ hbq; clear hb'))
  have hb12w := below_aft hb10w hb12' hb10w.size
  clear SQ hbq
  go_wp2_with fail
  go_ret
  exact ⟨rfl, hb12w⟩
end Go.Proofs.Ytchgeogdiedloaa
/-
  What an argument that is a value reads as. No statement is proved here.
-/
namespace Go.Proofs.Ytchgeogdiedloaa
open Go.RowKit Go.Deep
open Go.ChangeShapes Go.WideShapes
set_option maxRecDepth 100000
set_option linter.unusedVariables false
section
variable {H : Type} {enc : TypeId × Value → H} {w : World} {spare : Nat → Bool} {held : Bool}
theorem field_atn {e : TypeId} {fs : Array Field} {fuel : Nat} {cs : List Value} {x : DataW H × List MemPlace} (he : Try.prog.underlying e = some (.struct fs)) (hone : oneCellFields Try.prog fs = true) (hlen : cs.length = fs.size)
    (h : DataW.trod enc Try.prog w 0 spare held fuel e cs = some x) :
    ∃ m, fuel = m + 1 ∧ ∀ (j : Nat) (f : Field), fs[j]? = some f → ∃ v y, cs[j]? = some v ∧ DataW.trod enc Try.prog w 0 spare held m f.type [v] = some y := by
  obtain ⟨ys, m, hfu, _, _, hyl, hf⟩ := DataW.trod_struct he h
  refine ⟨m, hfu, fun j f hj => ?_⟩
  obtain ⟨ho, hk⟩ := hone_of hone j f hj
  have hjl : j < fs.size := (Array.getElem?_eq_some_iff.1 hj).1
  have h1 := hf j f hj
  rw [ho, hk] at h1
  have hd : (cs.drop j).take 1 = [cs[j]'(by omega)] := by
    rw [List.drop_eq_getElem_cons (by omega)]; rfl
  rw [hd, List.getElem?_eq_getElem (by omega)] at h1
  exact ⟨_, _, List.getElem?_eq_getElem (by omega), h1⟩
theorem deep_all {P : Nat → Nat → Prop} (hup : ∀ i d d', d ≤ d' → P i d → P i d') : ∀ n, (∀ i, i < n → ∃ d, P i d) → ∃ D, ∀ i, i < n → P i D
  | 0, _ => ⟨0, fun i h => absurd h (Nat.not_lt_zero _)⟩
  | n + 1, h => by
    obtain ⟨D, hD⟩ := deep_all hup n (fun i hi => h i (by omega))
    obtain ⟨d, hd⟩ := h n (by omega)
    refine ⟨max D d, fun i hi => ?_⟩
    by_cases e : i = n
    · subst e; exact hup _ _ _ (Nat.le_max_right _ _) hd
    · exact hup _ _ _ (Nat.le_max_left _ _) (hD i (by omega))
theorem vls_of (fuel : Nat) : ∀ {v : Value} {x : DataW H × List MemPlace}, DataW.trod enc Try.prog w 0 spare held fuel 22 [v] = some x → ∃ A l cap, v = .slice A (List.length l) cap ∧ ∃ d, RVs d w w.heap.size A l := by
  induction fuel using Nat.strongRecOn with
  | _ fuel ih =>
    intro v x h
    rcases DataW.trod_slice Try.underlying22 h with ⟨hcs, _⟩ | ⟨a, len, cap, elems, rest, n, hfu, hcs, hx, hb, hl, hm, hlen, hel, _, _⟩
    · obtain rfl : v = .slice none 0 0 := by simpa using hcs
      exact ⟨none, [], 0, rfl, 0, RVs.nil⟩
    · obtain rfl : v = .slice (some a) len cap := by simpa using hcs
      have h3 : Try.prog.cellsOf 24 = 3 := by kernel_rfl
      have hone : ∀ i, i < len → ∃ (t : Vl), ∃ A c d, w.cell? ((a.add (i * 3)).add 0) = some (.int .i64 t.ctor) ∧ w.cell? ((a.add (i * 3)).add 1) = some (.int .i64 t.n) ∧ w.cell? ((a.add (i * 3)).add 2) = some (.slice A t.kids.length c) ∧ RVs d w w.heap.size A t.kids := by
        intro i hi
        have h1 := hel i hi
        rw [List.getElem?_eq_getElem (by omega)] at h1
        obtain ⟨cs', q1, q2⟩ := Option.bind_eq_some_iff.1 h1
        obtain ⟨_, hl3, hat⟩ := World.cells?_some q1
        rw [h3] at hl3 hat
        obtain ⟨m, hfm, hf⟩ := field_atn Try.underlying24 (by kernel_rfl) hl3 q2
        obtain ⟨v0, y0, e0, t0⟩ := hf 0 _ rfl
        obtain ⟨v1, y1, e1, t1⟩ := hf 1 _ rfl
        obtain ⟨v2, y2, e2, t2⟩ := hf 2 _ rfl
        obtain ⟨c, p0, _, _⟩ := DataW.trod_int Try.underlying3 t0
        obtain ⟨k, p1, _, _⟩ := DataW.trod_int Try.underlying3 t1
        obtain ⟨A, l, cp, rfl, d, hr⟩ := ih m (by omega) t2
        simp only [List.cons.injEq, and_true] at p0 p1
        subst p0 p1
        exact ⟨.mk c k l, A, cp, d, (hat 0 (by omega)).trans e0, (hat 1 (by omega)).trans e1, (hat 2 (by omega)).trans e2, hr⟩
      obtain ⟨f, hf⟩ := choose_lt (α := Vl) (n := len) (p := fun i t => ∃ A c d, w.cell? ((a.add (i * 3)).add 0) = some (.int .i64 t.ctor) ∧ w.cell? ((a.add (i * 3)).add 1) = some (.int .i64 t.n) ∧ w.cell? ((a.add (i * 3)).add 2) = some (.slice A t.kids.length c) ∧ RVs d w w.heap.size A t.kids) hone
      by_cases hz : len = 0
      · subst hz
        exact ⟨some a, [], cap, rfl, 0, RVs.nil⟩
      · have hsp : a.spot = none := by
          obtain ⟨A, c, d, c0, _⟩ := hf 0 (by omega)
          exact spot_of (w := w) (a := a) (by simpa [Addr.add] using c0)
        obtain ⟨b, off, sp⟩ := a
        simp only at hsp
        subst hsp
        obtain ⟨D, hD⟩ := deep_all (P := fun i d => RVl d w w.heap.size b (off + i * 3) (f i)) (fun i d d' hd h => h.more hd) len (fun i hi => by
          obtain ⟨A, c, d, c0, c1, c2, h4, h5⟩ := hf i hi
          simp only [Addr.add_lit, Nat.add_zero] at c0 c1 c2
          exact ⟨d + 1, A, c, by simpa using c0, by simpa using c1, by simpa using c2, h4, h5⟩)
        refine ⟨some ⟨b, off, none⟩, (List.range len).map f, cap, by simp, D, by simp; omega, fun k hk => ?_⟩
        have hk' : k < len := by simpa using hk
        have hbl : b < w.heap.size := by
          obtain ⟨A, c, d, c0, _⟩ := hf k hk'
          simp only [Addr.add_lit, Nat.add_zero] at c0
          exact block_lt_of_cell c0
        exact ⟨b, off, rfl, hbl, by simpa using hD k hk'⟩
/-- An argument that is a value. -/
theorem open_vl {v : Value} {d : DataW H} {ps : List MemPlace} {b0 : Nat} {r : Reach} (hv : Value.okWide Try.prog w r b0 24 v) (h : DataW.Trod enc Try.prog w 0 spare held 24 v d ps) :
    ∃ (t : Vl) (A : Option Addr) (cap d : Nat), v = .agg #[.int .i64 t.ctor, .int .i64 t.n, .slice A t.kids.length cap] ∧ RVs d w w.heap.size A t.kids := by
  obtain ⟨c0, c1, c2, y0, y1, y2, m, rfl, rfl, rfl, hy0, hy1, hy2⟩ := Go.Joins.open_agg3 Try.underlying24 (by kernel_rfl) (by kernel_rfl) hv h
  obtain ⟨a, e0, _, _⟩ := DataW.trod_int Try.underlying3 hy0
  obtain ⟨b, e1, _, _⟩ := DataW.trod_int Try.underlying3 hy1
  obtain ⟨A, l, cp, rfl, d, hr⟩ := vls_of m hy2
  simp only [List.cons.injEq, and_true] at e0 e1
  subst e0 e1
  exact ⟨.mk a b l, A, cp, d, rfl, hr⟩
end
end Go.Proofs.Ytchgeogdiedloaa
