/-
  The types of the parts of a pattern: the program's function. No statement is proved here.
-/
import Derived.Test.YteoopmogklpnoaaV46
import Derived.Test.YteoopmogklpnoaaV28
namespace Go.Proofs.Yteoopmogklpnoaa
open Go.RowKit Go.Sort Go.Deep
set_option maxRecDepth 100000
set_option linter.unusedVariables false
theorem own4 {l : List Da} {t : Ty} {p : Pt} (h : p.op = 4) (hc : p.ctor ∈ ctR l t) : dec (OwnOK l t p) = dec (SameF p.op p.ctor p.n p.m p.var 4 p.ctor 0 0 0) := dec_congr ⟨fun h' => ⟨h, rfl, (h'.2.2.1 (by omega)).1, (h'.2.2.1 (by omega)).2, h'.2.1 (by omega)⟩, fun ⟨_, _, b, c, d⟩ => ⟨fun _ => by omega, fun _ => d, fun _ => ⟨b, c⟩, fun h' => absurd h h', .inr (.inr (.inr (.inr (.inr ⟨h, hc⟩))))⟩⟩
set_option maxHeartbeats 3000000 in
theorem kt_4 (A D : Option Addr) (l : List Da) (cap ep : Nat) (t : Ty) (p : Pt) (w : World) (hr : RDas w w.heap.size A l) (ht : TyOK l t) (h4 : p.op = 4) : Calls Try.prog 124 #[.slice A l.length cap, .agg #[.int .i64 t.data, .int .i64 t.index], .agg #[.int .i64 p.op, .int .i64 p.ctor, .int .i64 p.n, .int .i64 p.m, .int .i64 p.var, .slice D p.kids.length ep]] w (KtQ l t p w) := by
  have u1 : (p.op == 1) = false := ieq_f (by omega)
  have u2 : (p.op == 2) = false := ieq_f (by omega)
  have u3 : (p.op == 3) = false := ieq_f (by omega)
  have u4 := ieq_t h4
  have u5 : (p.op == 5) = false := ieq_f (by omega)
  have u6 : (p.op == 6) = false := ieq_f (by omega)
  have Hr := Lib.hid hr
  have HT := Lib.hid ht
  have HTY := Lib.hid (tysP_ctor (l := l) (t := t) h4)
  have HM : Hid (OwnOK l t p → p.ctor ∈ ctR l t) := fun h => h.mem h4
  have HO4 : Hid (p.ctor ∈ ctR l t → dec (OwnOK l t p) = dec (SameF p.op p.ctor p.n p.m p.var 4 p.ctor 0 0 0)) := fun h => own4 h4 h
  clear hr ht h4
  generalize hw0 : (w.alloc (.cells #[.int .i64 t.data, .int .i64 t.index] 25)).alloc (.cells #[.int .i64 p.op, .int .i64 p.ctor, .int .i64 p.n, .int .i64 p.m, .int .i64 p.var, .slice D p.kids.length ep] 50) = w0
  have hb0 := below_box2 hw0
  have HXT : Hid (Bx w0 w.heap.size t) := by rw [← hw0]; exact ⟨by simp [go_sem], by simp [go_sem]⟩
  have HXP : Hid (PBx w0 (w.heap.size + 1) p (.slice D p.kids.length ep)) := by rw [← hw0]; exact ⟨by simp [go_sem], by simp [go_sem], by simp [go_sem], by simp [go_sem], by simp [go_sem], by simp [go_sem]⟩
  have HW := Lib.hid hw0
  clear hw0
  have HKS : Hid (∀ w', Below w0.heap.size w0 w' → w'.cell? ⟨w.heap.size, 0, none⟩ = some (.int .i64 t.data) ∧ w'.cell? ⟨w.heap.size, 1, none⟩ = some (.int .i64 t.index) ∧ w'.cell? ⟨w.heap.size + 1, 1, none⟩ = some (.int .i64 p.ctor)) := fun w' h => ⟨(HXT.out.at_ h).1, (HXT.out.at_ h).2, (HXP.out.at_ h).2.1⟩
  have SQ := HKS.out w0.drew (Below.refl _ w0).drew
  have y0 := HXP.out.1
  by_cases hc : p.ctor ∈ ctR l t
  · have HC := Lib.hid hc
    have HD := Lib.hid (dec_t hc)
    have HOW := Lib.hid (HO4.out hc)
    clear hc HO4 HM
    go_enter Try.func124, Try.ntmps124
    go_wp2_with fail
    rw [HW.out]
    go_region_held3 (fun w' => w'.cell? ⟨w.heap.size, 0, none⟩ = some (.int .i64 t.data) ∧ w'.cell? ⟨w.heap.size, 1, none⟩ = some (.int .i64 t.index) ∧ w'.cell? ⟨w.heap.size + 1, 1, none⟩ = some (.int .i64 p.ctor)) (with_reducible exact SQ) (first | (go_at_call 86; (with_reducible refine (ctorsOf_all _ l _ t w0.drew (Hr.out.at_ hb0.drew) HT.out).mono ?_); rintro e w1 ⟨v1, rfl, ho, hb1'⟩; have hb1 : Below w0.heap.size w0 w1 := ⟨hb1'.os, hb1'.tape, hb1'.output, hb1'.size, hb1'.block⟩; obtain ⟨A1, c1, rfl, hri⟩ := ho.form (by have := ctR_len l t; unfold maxLen; omega); have HRI := Lib.hid hri; have SQ := HKS.out _ hb1; clear hri ho hb1') | (go_at_call 49; (with_reducible refine (contains_any _ _ _ _ _ HRI.out).mono ?_); rw [HD.out]; rintro e w2 ⟨rfl, rfl⟩))
    have HR1 := Lib.hid (Hr.out.at_ (below_aft hb0 hb1 hb0.size))
    have HRD : Hid (RDas w1.drew w1.drew.heap.size A l) := HR1.out.at_ (Below.refl _ w1).drew
    have HX1 := Lib.hid (HXT.out.at_ hb1)
    have HP1 := Lib.hid (HXP.out.at_ hb1)
    have HK2 : Hid (∀ w', Below w1.heap.size w1 w' → w'.cell? ⟨w.heap.size, 0, none⟩ = some (.int .i64 t.data) ∧ w'.cell? ⟨w.heap.size, 1, none⟩ = some (.int .i64 t.index) ∧ w'.cell? ⟨w.heap.size + 1, 0, none⟩ = some (.int .i64 p.op) ∧ w'.cell? ⟨w.heap.size + 1, 1, none⟩ = some (.int .i64 p.ctor) ∧ w'.cell? ⟨w.heap.size + 1, 2, none⟩ = some (.int .i64 p.n) ∧ w'.cell? ⟨w.heap.size + 1, 3, none⟩ = some (.int .i64 p.m) ∧ w'.cell? ⟨w.heap.size + 1, 4, none⟩ = some (.int .i64 p.var) ∧ w'.cell? ⟨w.heap.size + 1, 5, none⟩ = some (.slice D p.kids.length ep)) := fun w' h => ⟨(HX1.out.at_ h).1, (HX1.out.at_ h).2, HP1.out.at_ h⟩
    clear SQ y0
    have SQ := HK2.out w1.drew (Below.refl _ w1).drew
    go_wp2_with fail
    go_region_held3 (fun w' => w'.cell? ⟨w.heap.size, 0, none⟩ = some (.int .i64 t.data) ∧ w'.cell? ⟨w.heap.size, 1, none⟩ = some (.int .i64 t.index) ∧ w'.cell? ⟨w.heap.size + 1, 0, none⟩ = some (.int .i64 p.op) ∧ w'.cell? ⟨w.heap.size + 1, 1, none⟩ = some (.int .i64 p.ctor) ∧ w'.cell? ⟨w.heap.size + 1, 2, none⟩ = some (.int .i64 p.n) ∧ w'.cell? ⟨w.heap.size + 1, 3, none⟩ = some (.int .i64 p.m) ∧ w'.cell? ⟨w.heap.size + 1, 4, none⟩ = some (.int .i64 p.var) ∧ w'.cell? ⟨w.heap.size + 1, 5, none⟩ = some (.slice D p.kids.length ep)) (with_reducible exact SQ) (first | (go_at_call 51; (with_reducible refine (argTypes_all A l cap t p.ctor w1.drew HRD.out HC.out).mono ?_); rintro e4 w4 ⟨v4, rfl, ho4, hb4'⟩; have hb4 : Below w1.heap.size w1 w4 := ⟨hb4'.os, hb4'.tape, hb4'.output, hb4'.size, hb4'.block⟩; have HO4 : Hid (OTys w4 w1.heap.size v4 (agR l t p.ctor) (agR l t p.ctor).length) := ho4; have SQ := HK2.out w4 hb4; clear ho4 hb4') | (go_at_call 73; (with_reducible refine (same_any p.op p.ctor p.n p.m p.var 4 p.ctor 0 0 0 D none p.kids.length ep 0 0 w4).mono ?_); rintro e5 w5 ⟨rfl, hb5'⟩; have hb5 := hb4.trans (hb5'.mono hb4.size); have HO5 : Hid (OTys w5 w1.heap.size v4 (agR l t p.ctor) (agR l t p.ctor).length) := HO4.out.keptV2 (fun b e => hb5'.block b (HO4.out.own b e).2); have SQ := HK2.out w5 hb5; clear hb5') | (go_at_call 73; (with_reducible refine (same_any p.op p.ctor p.n p.m p.var 4 p.ctor 0 0 0 D none p.kids.length ep 0 0 w1.drew).mono ?_); rintro e6 w6 ⟨rfl, hb6'⟩; have hb6 : Below w1.heap.size w1 w6 := ⟨hb6'.os, hb6'.tape, hb6'.output, hb6'.size, hb6'.block⟩; have HR6 := Lib.hid (HR1.out.at_ hb6); have SQ := HK2.out w6 hb6; clear hb6') | (go_at_call 51; (with_reducible refine (argTypes_all A l cap t p.ctor w6 HR6.out HC.out).mono ?_); rintro e5 w5 ⟨v4, rfl, ho5, hb5'⟩; have hb5 := hb6.trans (hb5'.mono hb6.size); have HO5 : Hid (OTys w5 w1.heap.size v4 (agR l t p.ctor) (agR l t p.ctor).length) := ho5.lower hb6.size; have SQ := HK2.out w5 hb5; clear ho5 hb5'))
    all_goals
      have hbw := below_aft (below_aft hb0 hb1 hb0.size) hb5 (below_aft hb0 hb1 hb0.size).size
      have HKQ : Hid (KtQ l t p w (.returned (.tuple #[v4, .bool (dec (SameF p.op p.ctor p.n p.m p.var 4 p.ctor 0 0 0))])) w5) := ⟨v4, by rw [HOW.out], fun _ => by rw [HTY.out]; exact HO5.out.lower (below_aft hb0 hb1 hb0.size).size, hbw⟩
      go_wp2_with fail
      go_ret2
      exact HKQ.out
  · have HD := Lib.hid (dec_f hc)
    have HQ := Lib.hid (fun (w' : World) => ktQ_no (w := w) (w' := w') (v := .slice none 0 0) (fun h => hc (HM.out h)))
    clear hc HO4 HM
    go_enter Try.func124, Try.ntmps124
    go_wp2_with fail
    rw [HW.out]
    go_region_held3 (fun w' => w'.cell? ⟨w.heap.size, 0, none⟩ = some (.int .i64 t.data) ∧ w'.cell? ⟨w.heap.size, 1, none⟩ = some (.int .i64 t.index) ∧ w'.cell? ⟨w.heap.size + 1, 1, none⟩ = some (.int .i64 p.ctor)) (with_reducible exact SQ) (first | (go_at_call 86; (with_reducible refine (ctorsOf_all _ l _ t w0.drew (Hr.out.at_ hb0.drew) HT.out).mono ?_); rintro e w1 ⟨v1, rfl, ho, hb1'⟩; have hb1 : Below w0.heap.size w0 w1 := ⟨hb1'.os, hb1'.tape, hb1'.output, hb1'.size, hb1'.block⟩; obtain ⟨A1, c1, rfl, hri⟩ := ho.form (by have := ctR_len l t; unfold maxLen; omega); have HRI := Lib.hid hri; have SQ := HKS.out _ hb1; clear hri ho hb1') | (go_at_call 49; (with_reducible refine (contains_any _ _ _ _ _ HRI.out).mono ?_); rw [HD.out]; rintro e w2 ⟨rfl, rfl⟩))
    go_wp2_with fail
    go_ret2
    exact HQ.out _ (below_aft hb0 hb1 hb0.size)
end Go.Proofs.Yteoopmogklpnoaa
/-
  The types of the parts of a pattern: the program's function. No statement is proved here.
-/
namespace Go.Proofs.Yteoopmogklpnoaa
open Go.RowKit Go.Sort Go.Deep
set_option maxRecDepth 100000
set_option linter.unusedVariables false
theorem own5 {l : List Da} {t : Ty} {p : Pt} (h : p.op = 5) : dec (OwnOK l t p) = dec (SameF p.op p.ctor p.n p.m p.var 5 0 0 0 0) := dec_congr ⟨fun h' => ⟨h, h'.2.2.2.1 (by omega), (h'.2.2.1 (by omega)).1, (h'.2.2.1 (by omega)).2, h'.2.1 (by omega)⟩, fun ⟨_, a, b, c, d⟩ => ⟨fun h => by omega, fun _ => d, fun _ => ⟨b, c⟩, fun _ => a, .inr (.inr (.inl h))⟩⟩
theorem own6 {l : List Da} {t : Ty} {p : Pt} (h : p.op = 6) : dec (OwnOK l t p) = (dec (0 ≤ p.var ∧ p.var ≤ 5) && dec (SameF p.op p.ctor p.n p.m p.var 6 0 0 0 p.var)) := by
  by_cases hv : 0 ≤ p.var ∧ p.var ≤ 5
  · rw [dec_t hv, Bool.true_and]
    exact dec_congr ⟨fun h' => ⟨h, h'.2.2.2.1 (by omega), (h'.2.2.1 (by omega)).1, (h'.2.2.1 (by omega)).2, rfl⟩, fun ⟨_, a, b, c, d⟩ => ⟨fun _ => hv, fun h => by omega, fun _ => ⟨b, c⟩, fun _ => a, .inr (.inr (.inr (.inl h)))⟩⟩
  · rw [dec_f hv, Bool.false_and]
    exact dec_f (fun h' => hv (h'.1 (by omega)))
theorem two_tys (W : World) (t : Ty) : OTys (W.alloc (.cells #[.int .i64 t.data, .int .i64 t.index, .int .i64 t.data, .int .i64 t.index] 25)) W.heap.size (.slice (some ⟨W.heap.size, 0, none⟩) 2 2) [t, t] 2 := by
  refine ⟨[.int .i64 t.data, .int .i64 t.index, .int .i64 t.data, .int .i64 t.index], ?_, ?_⟩
  · exact World.ownsRow_lit W #[.int .i64 t.data, .int .i64 t.index, .int .i64 t.data, .int .i64 t.index] 2 (Nat.le_refl _) (by unfold maxLen; omega) rfl
  · intro j hj _
    match j, hj with
    | 0, _ => exact ⟨rfl, rfl⟩
    | 1, _ => exact ⟨rfl, rfl⟩
theorem one_tys (W : World) (t : Ty) : OTys (W.alloc (.cells #[.int .i64 t.data, .int .i64 t.index] 25)) W.heap.size (.slice (some ⟨W.heap.size, 0, none⟩) 1 1) [t] 1 := by
  refine ⟨[.int .i64 t.data, .int .i64 t.index], ?_, ?_⟩
  · exact World.ownsRow_lit W #[.int .i64 t.data, .int .i64 t.index] 1 (Nat.le_refl _) (by unfold maxLen; omega) rfl
  · intro j hj _
    match j, hj with
    | 0, _ => exact ⟨rfl, rfl⟩
set_option maxHeartbeats 3000000 in
theorem kt_5 (A D : Option Addr) (l : List Da) (cap ep : Nat) (t : Ty) (p : Pt) (w : World) (hr : RDas w w.heap.size A l) (ht : TyOK l t) (h5 : p.op = 5) : Calls Try.prog 124 #[.slice A l.length cap, .agg #[.int .i64 t.data, .int .i64 t.index], .agg #[.int .i64 p.op, .int .i64 p.ctor, .int .i64 p.n, .int .i64 p.m, .int .i64 p.var, .slice D p.kids.length ep]] w (KtQ l t p w) := by
  have u1 : (p.op == 1) = false := ieq_f (by omega)
  have u2 : (p.op == 2) = false := ieq_f (by omega)
  have u3 : (p.op == 3) = false := ieq_f (by omega)
  have u4 : (p.op == 4) = false := ieq_f (by omega)
  have u5 := ieq_t h5
  have u6 : (p.op == 6) = false := ieq_f (by omega)
  have HO := Lib.hid (own5 (l := l) (t := t) h5)
  have HTY : Hid (tysP l t p = [t, t]) := by unfold Hid; rw [tysP_other (by omega), h5]; rfl
  have HQ : Hid (∀ w' v, OTys w' w.heap.size v [t, t] 2 → Below w.heap.size w w' → KtQ l t p w (.returned (.tuple #[v, .bool (dec (SameF p.op p.ctor p.n p.m p.var 5 0 0 0 0))])) w') := fun w' v h hb => ⟨v, by rw [HO.out], fun _ => by rw [HTY.out]; exact h, hb⟩
  clear hr ht h5
  generalize hw0 : (w.alloc (.cells #[.int .i64 t.data, .int .i64 t.index] 25)).alloc (.cells #[.int .i64 p.op, .int .i64 p.ctor, .int .i64 p.n, .int .i64 p.m, .int .i64 p.var, .slice D p.kids.length ep] 50) = w0
  have hb0 := below_box2 hw0
  have HXT : Hid (Bx w0 w.heap.size t) := by rw [← hw0]; exact ⟨by simp [go_sem], by simp [go_sem]⟩
  have HXP : Hid (PBx w0 (w.heap.size + 1) p (.slice D p.kids.length ep)) := by rw [← hw0]; exact ⟨by simp [go_sem], by simp [go_sem], by simp [go_sem], by simp [go_sem], by simp [go_sem], by simp [go_sem]⟩
  have HW := Lib.hid hw0
  clear hw0
  have HKS : Hid (∀ w', Below w0.heap.size w0 w' → w'.cell? ⟨w.heap.size, 0, none⟩ = some (.int .i64 t.data) ∧ w'.cell? ⟨w.heap.size, 1, none⟩ = some (.int .i64 t.index) ∧ w'.cell? ⟨w.heap.size + 1, 0, none⟩ = some (.int .i64 p.op) ∧ w'.cell? ⟨w.heap.size + 1, 1, none⟩ = some (.int .i64 p.ctor) ∧ w'.cell? ⟨w.heap.size + 1, 2, none⟩ = some (.int .i64 p.n) ∧ w'.cell? ⟨w.heap.size + 1, 3, none⟩ = some (.int .i64 p.m) ∧ w'.cell? ⟨w.heap.size + 1, 4, none⟩ = some (.int .i64 p.var) ∧ w'.cell? ⟨w.heap.size + 1, 5, none⟩ = some (.slice D p.kids.length ep)) := fun w' h => ⟨(HXT.out.at_ h).1, (HXT.out.at_ h).2, HXP.out.at_ h⟩
  have SQ := HKS.out w0.drew (Below.refl _ w0).drew
  have SQ1 := HKS.out ((w0.alloc (.cells #[.int .i64 t.data, .int .i64 t.index, .int .i64 t.data, .int .i64 t.index] 25)).drew) ((Below.refl _ w0).alloc (Nat.le_refl _) _).drew
  have y0 := HXP.out.1
  go_enter Try.func124, Try.ntmps124
  go_wp2_with fail
  rw [HW.out]
  go_region_held3 (fun w' => w'.cell? ⟨w.heap.size, 0, none⟩ = some (.int .i64 t.data) ∧ w'.cell? ⟨w.heap.size, 1, none⟩ = some (.int .i64 t.index) ∧ w'.cell? ⟨w.heap.size + 1, 0, none⟩ = some (.int .i64 p.op) ∧ w'.cell? ⟨w.heap.size + 1, 1, none⟩ = some (.int .i64 p.ctor) ∧ w'.cell? ⟨w.heap.size + 1, 2, none⟩ = some (.int .i64 p.n) ∧ w'.cell? ⟨w.heap.size + 1, 3, none⟩ = some (.int .i64 p.m) ∧ w'.cell? ⟨w.heap.size + 1, 4, none⟩ = some (.int .i64 p.var) ∧ w'.cell? ⟨w.heap.size + 1, 5, none⟩ = some (.slice D p.kids.length ep)) (first | with_reducible exact SQ | with_reducible exact SQ1 | with_reducible exact (HKS.out _ (hb2.alloc hb2.size _))) (first | (go_at_call 73; (with_reducible refine (same_any p.op p.ctor p.n p.m p.var 5 0 0 0 0 D none p.kids.length ep 0 0 w0.drew).mono ?_); rintro e2 w2 ⟨rfl, hb2'⟩; have hb2 : Below w0.heap.size w0 w2 := ⟨hb2'.os, hb2'.tape, hb2'.output, hb2'.size, hb2'.block⟩; have SQ := HKS.out w2 hb2; clear hb2') | (go_at_call 73; (with_reducible refine (same_any p.op p.ctor p.n p.m p.var 5 0 0 0 0 D none p.kids.length ep 0 0 ((w0.alloc (.cells #[.int .i64 t.data, .int .i64 t.index, .int .i64 t.data, .int .i64 t.index] 25)).drew)).mono ?_); rintro e2 w2 ⟨rfl, hb2'⟩; have hb2 : Below w0.heap.size w0 w2 := (((Below.refl _ w0).alloc (Nat.le_refl _) _).drew).trans (hb2'.mono (by simp)); have HOZ : Hid (OTys w2 w.heap.size (.slice (some ⟨w0.heap.size, 0, none⟩) 2 2) [t, t] 2) := OTys.lower ((two_tys w0 t).keptV2 (fun b e => hb2'.block b ((two_tys w0 t).own b e).2)) hb0.size; have SQ := HKS.out w2 hb2; clear hb2'))
  all_goals
    go_wp2_with fail
    go_ret2
    first
    | exact HQ.out _ _ HOZ.out (below_aft hb0 hb2 hb0.size)
    | exact HQ.out _ _ ((two_tys w2 t).lower (below_aft hb0 hb2 hb0.size).size) ((below_aft hb0 hb2 hb0.size).alloc (below_aft hb0 hb2 hb0.size).size _)
end Go.Proofs.Yteoopmogklpnoaa
