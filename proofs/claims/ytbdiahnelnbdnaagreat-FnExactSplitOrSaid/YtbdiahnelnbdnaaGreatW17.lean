/-
  The types of the parts of a pattern: the program's function. No statement is proved here.
-/
import Derived.Test.YtbdiahnelnbdnaaGreatW16
import Derived.Test.YtbdiahnelnbdnaaGreatW06
import Derived.Test.YtbdiahnelnbdnaaGreatW01
namespace Go.Proofs.YtbdiahnelnbdnaaGreat
open Go.RowKit Go.Sort Go.Deep
set_option maxRecDepth 100000
set_option linter.unusedVariables false
theorem own5 {l : List Da} {t : Ty} {p : Pt} (h : p.op = 5) : dec (OwnOK l t p) = dec (SameF p.op p.ctor p.n p.m p.var 5 0 0 0 0) := dec_congr ⟨fun h' => ⟨h, h'.2.2.2.1 (by omega), (h'.2.2.1 (by omega)).1, (h'.2.2.1 (by omega)).2, h'.2.1 (by omega)⟩, fun ⟨_, a, b, c, d⟩ => ⟨fun h => by omega, fun _ => d, fun _ => ⟨b, c⟩, fun _ => a, .inr (.inr (.inl h))⟩⟩
theorem own6 {l : List Da} {t : Ty} {p : Pt} (h : p.op = 6) : dec (OwnOK l t p) = (dec (0 ≤ p.var ∧ p.var ≤ 5) && dec (SameF p.op p.ctor p.n p.m p.var 6 0 0 0 p.var)) := by
  by_cases hv : 0 ≤ p.var ∧ p.var ≤ 5
  · rw [dec_t hv, Bool.true_and]
    exact dec_congr ⟨fun h' => ⟨h, h'.2.2.2.1 (by omega), (h'.2.2.1 (by omega)).1, (h'.2.2.1 (by omega)).2, rfl⟩, fun ⟨_, a, b, c, d⟩ => ⟨fun _ => hv, fun h => by omega, fun _ => ⟨b, c⟩, fun _ => a, .inr (.inr (.inr (.inl h)))⟩⟩
  · rw [dec_f hv, Bool.false_and]
    exact dec_f (fun h' => hv (h'.1 (by omega)))
theorem two_tys (W : World) (t : Ty) : OTys (W.alloc (.cells #[.int .i64 t.data, .int .i64 t.index, .int .i64 t.data, .int .i64 t.index] 35)) W.heap.size (.slice (some ⟨W.heap.size, 0, none⟩) 2 2) [t, t] 2 := by
  refine ⟨[.int .i64 t.data, .int .i64 t.index, .int .i64 t.data, .int .i64 t.index], ?_, ?_⟩
  · exact World.ownsRow_lit W #[.int .i64 t.data, .int .i64 t.index, .int .i64 t.data, .int .i64 t.index] 2 (Nat.le_refl _) (by unfold maxLen; omega) rfl
  · intro j hj _
    match j, hj with
    | 0, _ => exact ⟨rfl, rfl⟩
    | 1, _ => exact ⟨rfl, rfl⟩
theorem one_tys (W : World) (t : Ty) : OTys (W.alloc (.cells #[.int .i64 t.data, .int .i64 t.index] 35)) W.heap.size (.slice (some ⟨W.heap.size, 0, none⟩) 1 1) [t] 1 := by
  refine ⟨[.int .i64 t.data, .int .i64 t.index], ?_, ?_⟩
  · exact World.ownsRow_lit W #[.int .i64 t.data, .int .i64 t.index] 1 (Nat.le_refl _) (by unfold maxLen; omega) rfl
  · intro j hj _
    match j, hj with
    | 0, _ => exact ⟨rfl, rfl⟩
set_option maxHeartbeats 3000000 in
theorem kt_5 (A D : Option Addr) (l : List Da) (cap ep : Nat) (t : Ty) (p : Pt) (w : World) (hr : RDas w w.heap.size A l) (ht : TyOK l t) (h5 : p.op = 5) : Calls Tryz.prog 68 #[.slice A l.length cap, .agg #[.int .i64 t.data, .int .i64 t.index], .agg #[.int .i64 p.op, .int .i64 p.ctor, .int .i64 p.n, .int .i64 p.m, .int .i64 p.var, .slice D p.kids.length ep]] w (KtQ l t p w) := by
  have u1 : (p.op == 1) = false := ieq_f (by omega)
  have u2 : (p.op == 2) = false := ieq_f (by omega)
  have u3 : (p.op == 3) = false := ieq_f (by omega)
  have u4 : (p.op == 4) = false := ieq_f (by omega)
  have u5 := ieq_t h5
  have u6 : (p.op == 6) = false := ieq_f (by omega)
  have HO := Lib.hid (own5 (l := l) (t := t) h5)
  have HTY : Hid (tysP l t p = [t, t]) := by unfold Hid; rw [tysP_other (by omega), h5]; rfl
  have HQ : Hid (∀ w' v, OTys w' w.heap.size v [t, t] 2 → Below w.heap.size w w' → KtQ l t p w (.returned (.tuple #[v, .bool (dec (SameF p.op p.ctor p.n p.m p.var 5 0 0 0 0))])) w') := fun w' v h hb => ⟨v, by rw [HO.out], fun _ => by rw [HTY.out]; exact h, hb⟩
  clear hr ht h5
  generalize hw0 : (w.alloc (.cells #[.int .i64 t.data, .int .i64 t.index] 35)).alloc (.cells #[.int .i64 p.op, .int .i64 p.ctor, .int .i64 p.n, .int .i64 p.m, .int .i64 p.var, .slice D p.kids.length ep] 38) = w0
  have hb0 := below_box2 hw0
  have HXT : Hid (Bx w0 w.heap.size t) := by rw [← hw0]; exact ⟨by simp [go_sem], by simp [go_sem]⟩
  have HXP : Hid (PBx w0 (w.heap.size + 1) p (.slice D p.kids.length ep)) := by rw [← hw0]; exact ⟨by simp [go_sem], by simp [go_sem], by simp [go_sem], by simp [go_sem], by simp [go_sem], by simp [go_sem]⟩
  have HW := Lib.hid hw0
  clear hw0
  have HKS : Hid (∀ w', Below w0.heap.size w0 w' → w'.cell? ⟨w.heap.size, 0, none⟩ = some (.int .i64 t.data) ∧ w'.cell? ⟨w.heap.size, 1, none⟩ = some (.int .i64 t.index) ∧ w'.cell? ⟨w.heap.size + 1, 0, none⟩ = some (.int .i64 p.op) ∧ w'.cell? ⟨w.heap.size + 1, 1, none⟩ = some (.int .i64 p.ctor) ∧ w'.cell? ⟨w.heap.size + 1, 2, none⟩ = some (.int .i64 p.n) ∧ w'.cell? ⟨w.heap.size + 1, 3, none⟩ = some (.int .i64 p.m) ∧ w'.cell? ⟨w.heap.size + 1, 4, none⟩ = some (.int .i64 p.var) ∧ w'.cell? ⟨w.heap.size + 1, 5, none⟩ = some (.slice D p.kids.length ep)) := fun w' h => ⟨(HXT.out.at_ h).1, (HXT.out.at_ h).2, HXP.out.at_ h⟩
  have SQ := HKS.out w0.drew (Below.refl _ w0).drew
  have SQ1 := HKS.out ((w0.alloc (.cells #[.int .i64 t.data, .int .i64 t.index, .int .i64 t.data, .int .i64 t.index] 35)).drew) ((Below.refl _ w0).alloc (Nat.le_refl _) _).drew
  have y0 := HXP.out.1
  go_enter Tryz.func68, Tryz.ntmps68
  go_wp2_with fail
  rw [HW.out]
  go_region_held3 (fun w' => w'.cell? ⟨w.heap.size, 0, none⟩ = some (.int .i64 t.data) ∧ w'.cell? ⟨w.heap.size, 1, none⟩ = some (.int .i64 t.index) ∧ w'.cell? ⟨w.heap.size + 1, 0, none⟩ = some (.int .i64 p.op) ∧ w'.cell? ⟨w.heap.size + 1, 1, none⟩ = some (.int .i64 p.ctor) ∧ w'.cell? ⟨w.heap.size + 1, 2, none⟩ = some (.int .i64 p.n) ∧ w'.cell? ⟨w.heap.size + 1, 3, none⟩ = some (.int .i64 p.m) ∧ w'.cell? ⟨w.heap.size + 1, 4, none⟩ = some (.int .i64 p.var) ∧ w'.cell? ⟨w.heap.size + 1, 5, none⟩ = some (.slice D p.kids.length ep)) (first | with_reducible exact SQ | with_reducible exact SQ1 | with_reducible exact (HKS.out _ (hb2.alloc hb2.size _))) (first | (go_at_call 84; (with_reducible refine (same_any p.op p.ctor p.n p.m p.var 5 0 0 0 0 D none p.kids.length ep 0 0 w0.drew).mono ?_); rintro e2 w2 ⟨rfl, hb2'⟩; have hb2 : Below w0.heap.size w0 w2 := ⟨hb2'.os, hb2'.tape, hb2'.output, hb2'.size, hb2'.block⟩; have SQ := HKS.out w2 hb2; clear hb2') | (go_at_call 84; (with_reducible refine (same_any p.op p.ctor p.n p.m p.var 5 0 0 0 0 D none p.kids.length ep 0 0 ((w0.alloc (.cells #[.int .i64 t.data, .int .i64 t.index, .int .i64 t.data, .int .i64 t.index] 35)).drew)).mono ?_); rintro e2 w2 ⟨rfl, hb2'⟩; have hb2 : Below w0.heap.size w0 w2 := (((Below.refl _ w0).alloc (Nat.le_refl _) _).drew).trans (hb2'.mono (by simp)); have HOZ : Hid (OTys w2 w.heap.size (.slice (some ⟨w0.heap.size, 0, none⟩) 2 2) [t, t] 2) := OTys.lower ((two_tys w0 t).kept2 (fun b e => hb2'.block b ((two_tys w0 t).own b e).2)) hb0.size; have SQ := HKS.out w2 hb2; clear hb2'))
  all_goals
    go_wp2_with fail
    go_ret2
    first
    | exact HQ.out _ _ HOZ.out (below_aft hb0 hb2 hb0.size)
    | exact HQ.out _ _ ((two_tys w2 t).lower (below_aft hb0 hb2 hb0.size).size) ((below_aft hb0 hb2 hb0.size).alloc (below_aft hb0 hb2 hb0.size).size _)
end Go.Proofs.YtbdiahnelnbdnaaGreat
/-
  The types of the parts of a pattern: the program's function. No statement is proved here.
-/
namespace Go.Proofs.YtbdiahnelnbdnaaGreat
open Go.RowKit Go.Sort Go.Deep
set_option maxRecDepth 100000
set_option linter.unusedVariables false
section
variable {P : Program} {ops : Array Oper} {Q : Exit → Act → World → Prop} {md : Region.Mode} {S : World → Prop}
theorem held_take {i : Nat} {oi : Oper} {d : Option Tmp} {v : Value} {n : Nat} {ls ls' : Array Bool} {a : Act} {w : World} (hi : ops[i]? = some oi) (hd : ops[i]?.map (fun o => o.dst) = some d) (hs : Region.noSelect ops = true) (hf : Region.free md ops ls i = true)
    (hr : (Region.ready md ops ls).contains i = true) (hQ : ∀ c a w, Q (.panic c) (a.put d v) w → Q (.panic c) a w) (hS : S w) (hl : ls.setIfInBounds i true = ls') (hy : YieldsIf P ops S oi v a)
    (h : wpAnyH P md ops Q S n ls' (a.put d v) w) : wpAnyH P md ops Q S (n + 1) ls a w := by
  have e : oi.dst = d := by rw [hi] at hd; injection hd
  subst e hl
  exact wpAnyH_take hi hs hf hr hQ hy hS h
end
set_option maxHeartbeats 3000000 in
theorem kt_6 (A D : Option Addr) (l : List Da) (cap ep : Nat) (t : Ty) (p : Pt) (w : World) (hr : RDas w w.heap.size A l) (ht : TyOK l t) (h6 : p.op = 6) : Calls Tryz.prog 68 #[.slice A l.length cap, .agg #[.int .i64 t.data, .int .i64 t.index], .agg #[.int .i64 p.op, .int .i64 p.ctor, .int .i64 p.n, .int .i64 p.m, .int .i64 p.var, .slice D p.kids.length ep]] w (KtQ l t p w) := by
  have u1 : (p.op == 1) = false := ieq_f (by omega)
  have u2 : (p.op == 2) = false := ieq_f (by omega)
  have u3 : (p.op == 3) = false := ieq_f (by omega)
  have u4 : (p.op == 4) = false := ieq_f (by omega)
  have u5 : (p.op == 5) = false := ieq_f (by omega)
  have u6 := ieq_t h6
  have HO := Lib.hid (own6 (l := l) (t := t) h6)
  have HTY : Hid (tysP l t p = [t]) := by unfold Hid; rw [tysP_other (by omega), h6]; rfl
  have HQ : Hid (∀ w' v, OTys w' w.heap.size v [t] 1 → Below w.heap.size w w' → KtQ l t p w (.returned (.tuple #[v, .bool (dec (0 ≤ p.var ∧ p.var ≤ 5) && dec (SameF p.op p.ctor p.n p.m p.var 6 0 0 0 p.var))])) w') := fun w' v h hb => ⟨v, by rw [HO.out], fun _ => by rw [HTY.out]; exact h, hb⟩
  clear hr ht h6
  generalize hw0 : (w.alloc (.cells #[.int .i64 t.data, .int .i64 t.index] 35)).alloc (.cells #[.int .i64 p.op, .int .i64 p.ctor, .int .i64 p.n, .int .i64 p.m, .int .i64 p.var, .slice D p.kids.length ep] 38) = w0
  have hb0 := below_box2 hw0
  have HXT : Hid (Bx w0 w.heap.size t) := by rw [← hw0]; exact ⟨by simp [go_sem], by simp [go_sem]⟩
  have HXP : Hid (PBx w0 (w.heap.size + 1) p (.slice D p.kids.length ep)) := by rw [← hw0]; exact ⟨by simp [go_sem], by simp [go_sem], by simp [go_sem], by simp [go_sem], by simp [go_sem], by simp [go_sem]⟩
  have HW := Lib.hid hw0
  clear hw0
  have HKS : Hid (∀ w', Below w0.heap.size w0 w' → w'.cell? ⟨w.heap.size, 0, none⟩ = some (.int .i64 t.data) ∧ w'.cell? ⟨w.heap.size, 1, none⟩ = some (.int .i64 t.index) ∧ w'.cell? ⟨w.heap.size + 1, 0, none⟩ = some (.int .i64 p.op) ∧ w'.cell? ⟨w.heap.size + 1, 1, none⟩ = some (.int .i64 p.ctor) ∧ w'.cell? ⟨w.heap.size + 1, 2, none⟩ = some (.int .i64 p.n) ∧ w'.cell? ⟨w.heap.size + 1, 3, none⟩ = some (.int .i64 p.m) ∧ w'.cell? ⟨w.heap.size + 1, 4, none⟩ = some (.int .i64 p.var) ∧ w'.cell? ⟨w.heap.size + 1, 5, none⟩ = some (.slice D p.kids.length ep)) := fun w' h => ⟨(HXT.out.at_ h).1, (HXT.out.at_ h).2, HXP.out.at_ h⟩
  have SQ := HKS.out w0.drew (Below.refl _ w0).drew
  have SQ1 := HKS.out ((w0.alloc (.cells #[.int .i64 t.data, .int .i64 t.index] 35)).drew) ((Below.refl _ w0).alloc (Nat.le_refl _) _).drew
  have y0 := HXP.out.1
  by_cases hv : 0 ≤ p.var ∧ p.var ≤ 5
  · have HD := Lib.hid (dec_t hv)
    rw [HD.out, Bool.true_and] at HQ
    clear hv
    go_enter Tryz.func68, Tryz.ntmps68
    go_wp2_with fail
    rw [HW.out]
    go_region_held3 (fun w' => w'.cell? ⟨w.heap.size, 0, none⟩ = some (.int .i64 t.data) ∧ w'.cell? ⟨w.heap.size, 1, none⟩ = some (.int .i64 t.index) ∧ w'.cell? ⟨w.heap.size + 1, 0, none⟩ = some (.int .i64 p.op) ∧ w'.cell? ⟨w.heap.size + 1, 1, none⟩ = some (.int .i64 p.ctor) ∧ w'.cell? ⟨w.heap.size + 1, 2, none⟩ = some (.int .i64 p.n) ∧ w'.cell? ⟨w.heap.size + 1, 3, none⟩ = some (.int .i64 p.m) ∧ w'.cell? ⟨w.heap.size + 1, 4, none⟩ = some (.int .i64 p.var) ∧ w'.cell? ⟨w.heap.size + 1, 5, none⟩ = some (.slice D p.kids.length ep)) (first | with_reducible exact SQ | with_reducible exact SQ1 | with_reducible exact (HKS.out _ (hb2.alloc hb2.size _))) (first | (go_at_call 84; (with_reducible refine (same_any p.op p.ctor p.n p.m p.var 6 0 0 0 p.var D none p.kids.length ep 0 0 w0.drew).mono ?_); rintro e2 w2 ⟨rfl, hb2'⟩; have hb2 : Below w0.heap.size w0 w2 := ⟨hb2'.os, hb2'.tape, hb2'.output, hb2'.size, hb2'.block⟩; have SQ := HKS.out w2 hb2; clear hb2') | (go_at_call 84; (with_reducible refine (same_any p.op p.ctor p.n p.m p.var 6 0 0 0 p.var D none p.kids.length ep 0 0 ((w0.alloc (.cells #[.int .i64 t.data, .int .i64 t.index] 35)).drew)).mono ?_); rintro e2 w2 ⟨rfl, hb2'⟩; have hb2 : Below w0.heap.size w0 w2 := (((Below.refl _ w0).alloc (Nat.le_refl _) _).drew).trans (hb2'.mono (by simp)); have HOZ : Hid (OTys w2 w.heap.size (.slice (some ⟨w0.heap.size, 0, none⟩) 1 1) [t] 1) := OTys.lower ((one_tys w0 t).kept2 (fun b e => hb2'.block b ((one_tys w0 t).own b e).2)) hb0.size; have SQ := HKS.out w2 hb2; clear hb2') | (go_at_call 85; (with_reducible refine (isVar_any _ _).mono ?_); rw [HD.out]; rintro e1 w1 ⟨rfl, rfl⟩))
    all_goals
      go_wp2_with fail
      go_ret2
      first
      | exact HQ.out _ _ HOZ.out (below_aft hb0 hb2 hb0.size)
      | exact HQ.out _ _ ((one_tys w2 t).lower (below_aft hb0 hb2 hb0.size).size) ((below_aft hb0 hb2 hb0.size).alloc (below_aft hb0 hb2 hb0.size).size _)
  · have HD := Lib.hid (dec_f hv)
    rw [HD.out, Bool.false_and] at HQ
    clear hv
    go_enter Tryz.func68, Tryz.ntmps68
    go_wp2_with fail
    rw [HW.out]
    refine wp_region_held_drew (S := fun w' => w'.cell? ⟨w.heap.size, 0, none⟩ = some (.int .i64 t.data) ∧ w'.cell? ⟨w.heap.size, 1, none⟩ = some (.int .i64 t.index) ∧ w'.cell? ⟨w.heap.size + 1, 0, none⟩ = some (.int .i64 p.op) ∧ w'.cell? ⟨w.heap.size + 1, 1, none⟩ = some (.int .i64 p.ctor) ∧ w'.cell? ⟨w.heap.size + 1, 2, none⟩ = some (.int .i64 p.n) ∧ w'.cell? ⟨w.heap.size + 1, 3, none⟩ = some (.int .i64 p.m) ∧ w'.cell? ⟨w.heap.size + 1, 4, none⟩ = some (.int .i64 p.var) ∧ w'.cell? ⟨w.heap.size + 1, 5, none⟩ = some (.slice D p.kids.length ep)) (by kernel_rfl) SQ (fun hHeld => ?_)
    refine held_take (i := 0) (d := some 89) (v := .agg #[.int .i64 t.data, .int .i64 t.index]) (ls' := #[true, false, false, false, false, false, false, false, false, false, false, false, false, false]) rfl rfl (by kernel_rfl) (by kernel_rfl) (by kernel_rfl) (fun _ _ _ h => h) hHeld rfl (Or.inl ⟨by rfl, fun wq hSw => ?_⟩) ?_
    · obtain ⟨hs0, hs1, hs2, hs3, hs4, hs5, hs6, hs7⟩ := hSw
      go_simp
    simp only [Act.put, List.setIfInBounds_toArray, List.set_cons_zero, List.set_cons_succ]
    refine held_take (i := 2) (d := some 91) (v := .pointer (some ⟨w.heap.size + 1, 4, none⟩)) (ls' := #[true, false, true, false, false, false, false, false, false, false, false, false, false, false]) rfl rfl (by kernel_rfl) (by kernel_rfl) (by kernel_rfl) (fun _ _ _ h => h) hHeld rfl (Or.inl ⟨by rfl, fun wq hSw => ?_⟩) ?_
    · obtain ⟨hs0, hs1, hs2, hs3, hs4, hs5, hs6, hs7⟩ := hSw
      go_simp
    simp only [Act.put, List.setIfInBounds_toArray, List.set_cons_zero, List.set_cons_succ]
    refine held_take (i := 3) (d := some 92) (v := .int .i64 p.var) (ls' := #[true, false, true, true, false, false, false, false, false, false, false, false, false, false]) rfl rfl (by kernel_rfl) (by kernel_rfl) (by kernel_rfl) (fun _ _ _ h => h) hHeld rfl (Or.inl ⟨by rfl, fun wq hSw => ?_⟩) ?_
    · obtain ⟨hs0, hs1, hs2, hs3, hs4, hs5, hs6, hs7⟩ := hSw
      go_simp
    simp only [Act.put, List.setIfInBounds_toArray, List.set_cons_zero, List.set_cons_succ]
    refine wpAnyH_ready (rs := [1, 4]) (by kernel_rfl) (by simp) ?_
    refine AllReadyH.cons (o := _) rfl (fun K hK => ?_) ?_
    · have tokA : True := trivial
      go_simp
      refine hK.out _ _ SQ1 (fun hHeld => ?_)
      clear hK K
      simp only [List.setIfInBounds_toArray, List.set_cons_zero, List.set_cons_succ]
      refine wpAnyH_ready (rs := [4]) (by kernel_rfl) (by simp) ?_
      refine AllReadyH.cons (o := _) rfl (fun K hK => ?_) AllReadyH.nil
      go_simp
      go_at_call 85
      (with_reducible refine (isVar_any _ _).mono ?_)
      rw [HD.out]
      rintro e1 w1 ⟨rfl, rfl⟩
      go_wp2_with fail
      refine hK.out _ _ SQ1 (fun hHeld => ?_)
      clear hK K
      simp only [List.setIfInBounds_toArray, List.set_cons_zero, List.set_cons_succ]
      refine held_take (i := 5) (d := some 94) (v := .bool false) (ls' := #[true, true, true, true, true, true, false, false, false, false, false, false, false, false]) rfl rfl (by kernel_rfl) (by kernel_rfl) (by kernel_rfl) (fun _ _ _ h => h) hHeld rfl (Or.inl ⟨by rfl, fun wq hSw => ?_⟩) ?_
      · obtain ⟨hs0, hs1, hs2, hs3, hs4, hs5, hs6, hs7⟩ := hSw
        go_simp
      simp only [Act.put, List.setIfInBounds_toArray, List.set_cons_zero, List.set_cons_succ]
      refine held_take (i := 6) (d := some 95) (v := undef) (ls' := #[true, true, true, true, true, true, true, false, false, false, false, false, false, false]) rfl rfl (by kernel_rfl) (by kernel_rfl) (by kernel_rfl) (fun _ _ _ h => h) hHeld rfl (Or.inr ⟨by rfl, rfl⟩) ?_
      simp only [Act.put, List.setIfInBounds_toArray, List.set_cons_zero, List.set_cons_succ]
      refine held_take (i := 7) (d := some 96) (v := undef) (ls' := #[true, true, true, true, true, true, true, true, false, false, false, false, false, false]) rfl rfl (by kernel_rfl) (by kernel_rfl) (by kernel_rfl) (fun _ _ _ h => h) hHeld rfl (Or.inr ⟨by rfl, rfl⟩) ?_
      simp only [Act.put, List.setIfInBounds_toArray, List.set_cons_zero, List.set_cons_succ]
      refine held_take (i := 8) (d := some 97) (v := undef) (ls' := #[true, true, true, true, true, true, true, true, true, false, false, false, false, false]) rfl rfl (by kernel_rfl) (by kernel_rfl) (by kernel_rfl) (fun _ _ _ h => h) hHeld rfl (Or.inr ⟨by rfl, rfl⟩) ?_
      simp only [Act.put, List.setIfInBounds_toArray, List.set_cons_zero, List.set_cons_succ]
      refine held_take (i := 9) (d := some 98) (v := undef) (ls' := #[true, true, true, true, true, true, true, true, true, true, false, false, false, false]) rfl rfl (by kernel_rfl) (by kernel_rfl) (by kernel_rfl) (fun _ _ _ h => h) hHeld rfl (Or.inr ⟨by rfl, rfl⟩) ?_
      simp only [Act.put, List.setIfInBounds_toArray, List.set_cons_zero, List.set_cons_succ]
      refine held_take (i := 10) (d := some 99) (v := undef) (ls' := #[true, true, true, true, true, true, true, true, true, true, true, false, false, false]) rfl rfl (by kernel_rfl) (by kernel_rfl) (by kernel_rfl) (fun _ _ _ h => h) hHeld rfl (Or.inr ⟨by rfl, rfl⟩) ?_
      simp only [Act.put, List.setIfInBounds_toArray, List.set_cons_zero, List.set_cons_succ]
      refine held_take (i := 12) (d := some 6) (v := .slice (some ⟨w0.heap.size, 0, none⟩) 1 1) (ls' := #[true, true, true, true, true, true, true, true, true, true, true, false, true, false]) rfl rfl (by kernel_rfl) (by kernel_rfl) (by kernel_rfl) (fun _ _ _ h => h) hHeld rfl (Or.inl ⟨by rfl, fun wq hSw => ?_⟩) ?_
      · obtain ⟨hs0, hs1, hs2, hs3, hs4, hs5, hs6, hs7⟩ := hSw
        go_simp
      simp only [Act.put, List.setIfInBounds_toArray, List.set_cons_zero, List.set_cons_succ]
      refine held_take (i := 11) (d := some 100) (v := .bool false) (ls' := #[true, true, true, true, true, true, true, true, true, true, true, true, true, false]) rfl rfl (by kernel_rfl) (by kernel_rfl) (by kernel_rfl) (fun _ _ _ h => h) hHeld rfl (Or.inl ⟨by rfl, fun wq hSw => ?_⟩) ?_
      · obtain ⟨hs0, hs1, hs2, hs3, hs4, hs5, hs6, hs7⟩ := hSw
        go_simp
      simp only [Act.put, List.setIfInBounds_toArray, List.set_cons_zero, List.set_cons_succ]
      refine held_take (i := 13) (d := some 7) (v := .bool false) (ls' := #[true, true, true, true, true, true, true, true, true, true, true, true, true, true]) rfl rfl (by kernel_rfl) (by kernel_rfl) (by kernel_rfl) (fun _ _ _ h => h) hHeld rfl (Or.inl ⟨by rfl, fun wq hSw => ?_⟩) ?_
      · obtain ⟨hs0, hs1, hs2, hs3, hs4, hs5, hs6, hs7⟩ := hSw
        go_simp
      simp only [Act.put, List.setIfInBounds_toArray, List.set_cons_zero, List.set_cons_succ]
      refine wpAnyH_done (by kernel_rfl) ?_ _
      go_wp2_with fail
      go_ret2
      exact HQ.out _ _ ((one_tys w0 t).lower hb0.size) ((hb0.alloc hb0.size _).drew)
    refine AllReadyH.cons (o := _) rfl (fun K hK => ?_) AllReadyH.nil
    go_simp
    go_at_call 85
    (with_reducible refine (isVar_any _ _).mono ?_)
    rw [HD.out]
    rintro e1 w1 ⟨rfl, rfl⟩
    go_wp2_with fail
    refine hK.out _ _ SQ (fun hHeld => ?_)
    clear hK K
    simp only [List.setIfInBounds_toArray, List.set_cons_zero, List.set_cons_succ]
    refine held_take (i := 5) (d := some 94) (v := .bool false) (ls' := #[true, false, true, true, true, true, false, false, false, false, false, false, false, false]) rfl rfl (by kernel_rfl) (by kernel_rfl) (by kernel_rfl) (fun _ _ _ h => h) hHeld rfl (Or.inl ⟨by rfl, fun wq hSw => ?_⟩) ?_
    · obtain ⟨hs0, hs1, hs2, hs3, hs4, hs5, hs6, hs7⟩ := hSw
      go_simp
    simp only [Act.put, List.setIfInBounds_toArray, List.set_cons_zero, List.set_cons_succ]
    refine held_take (i := 6) (d := some 95) (v := undef) (ls' := #[true, false, true, true, true, true, true, false, false, false, false, false, false, false]) rfl rfl (by kernel_rfl) (by kernel_rfl) (by kernel_rfl) (fun _ _ _ h => h) hHeld rfl (Or.inr ⟨by rfl, rfl⟩) ?_
    simp only [Act.put, List.setIfInBounds_toArray, List.set_cons_zero, List.set_cons_succ]
    refine held_take (i := 7) (d := some 96) (v := undef) (ls' := #[true, false, true, true, true, true, true, true, false, false, false, false, false, false]) rfl rfl (by kernel_rfl) (by kernel_rfl) (by kernel_rfl) (fun _ _ _ h => h) hHeld rfl (Or.inr ⟨by rfl, rfl⟩) ?_
    simp only [Act.put, List.setIfInBounds_toArray, List.set_cons_zero, List.set_cons_succ]
    refine held_take (i := 8) (d := some 97) (v := undef) (ls' := #[true, false, true, true, true, true, true, true, true, false, false, false, false, false]) rfl rfl (by kernel_rfl) (by kernel_rfl) (by kernel_rfl) (fun _ _ _ h => h) hHeld rfl (Or.inr ⟨by rfl, rfl⟩) ?_
    simp only [Act.put, List.setIfInBounds_toArray, List.set_cons_zero, List.set_cons_succ]
    refine held_take (i := 9) (d := some 98) (v := undef) (ls' := #[true, false, true, true, true, true, true, true, true, true, false, false, false, false]) rfl rfl (by kernel_rfl) (by kernel_rfl) (by kernel_rfl) (fun _ _ _ h => h) hHeld rfl (Or.inr ⟨by rfl, rfl⟩) ?_
    simp only [Act.put, List.setIfInBounds_toArray, List.set_cons_zero, List.set_cons_succ]
    refine held_take (i := 10) (d := some 99) (v := undef) (ls' := #[true, false, true, true, true, true, true, true, true, true, true, false, false, false]) rfl rfl (by kernel_rfl) (by kernel_rfl) (by kernel_rfl) (fun _ _ _ h => h) hHeld rfl (Or.inr ⟨by rfl, rfl⟩) ?_
    simp only [Act.put, List.setIfInBounds_toArray, List.set_cons_zero, List.set_cons_succ]
    refine held_take (i := 11) (d := some 100) (v := .bool false) (ls' := #[true, false, true, true, true, true, true, true, true, true, true, true, false, false]) rfl rfl (by kernel_rfl) (by kernel_rfl) (by kernel_rfl) (fun _ _ _ h => h) hHeld rfl (Or.inl ⟨by rfl, fun wq hSw => ?_⟩) ?_
    · obtain ⟨hs0, hs1, hs2, hs3, hs4, hs5, hs6, hs7⟩ := hSw
      go_simp
    simp only [Act.put, List.setIfInBounds_toArray, List.set_cons_zero, List.set_cons_succ]
    refine wpAnyH_ready (rs := [1]) (by kernel_rfl) (by simp) ?_
    refine AllReadyH.cons (o := _) rfl (fun K hK => ?_) AllReadyH.nil
    go_simp
    refine hK.out _ _ SQ1 (fun hHeld => ?_)
    clear hK K
    simp only [List.setIfInBounds_toArray, List.set_cons_zero, List.set_cons_succ]
    refine held_take (i := 12) (d := some 6) (v := .slice (some ⟨w0.heap.size, 0, none⟩) 1 1) (ls' := #[true, true, true, true, true, true, true, true, true, true, true, true, true, false]) rfl rfl (by kernel_rfl) (by kernel_rfl) (by kernel_rfl) (fun _ _ _ h => h) hHeld rfl (Or.inl ⟨by rfl, fun wq hSw => ?_⟩) ?_
    · obtain ⟨hs0, hs1, hs2, hs3, hs4, hs5, hs6, hs7⟩ := hSw
      go_simp
    simp only [Act.put, List.setIfInBounds_toArray, List.set_cons_zero, List.set_cons_succ]
    refine held_take (i := 13) (d := some 7) (v := .bool false) (ls' := #[true, true, true, true, true, true, true, true, true, true, true, true, true, true]) rfl rfl (by kernel_rfl) (by kernel_rfl) (by kernel_rfl) (fun _ _ _ h => h) hHeld rfl (Or.inl ⟨by rfl, fun wq hSw => ?_⟩) ?_
    · obtain ⟨hs0, hs1, hs2, hs3, hs4, hs5, hs6, hs7⟩ := hSw
      go_simp
    simp only [Act.put, List.setIfInBounds_toArray, List.set_cons_zero, List.set_cons_succ]
    refine wpAnyH_done (by kernel_rfl) ?_ _
    go_wp2_with fail
    go_ret2
    exact HQ.out _ _ ((one_tys w0 t).lower hb0.size) ((hb0.alloc hb0.size _).drew)
end Go.Proofs.YtbdiahnelnbdnaaGreat
/-
  The program's walk over a pattern: what it keeps. No statement is proved here.
-/
namespace Go.Proofs.YtbdiahnelnbdnaaGreat
open Go.RowKit Go.Sort Go.Deep
set_option maxRecDepth 100000
set_option linter.unusedVariables false
theorem kt_any (A D : Option Addr) (l : List Da) (cap ep : Nat) (t : Ty) (p : Pt) (w : World) (hr : RDas w w.heap.size A l) (ht : TyOK l t) : Calls Tryz.prog 68 #[.slice A l.length cap, .agg #[.int .i64 t.data, .int .i64 t.index], .agg #[.int .i64 p.op, .int .i64 p.ctor, .int .i64 p.n, .int .i64 p.m, .int .i64 p.var, .slice D p.kids.length ep]] w (KtQ l t p w) := by
  by_cases h1 : p.op = 1
  · exact kt_1 A D l cap ep t p w hr ht h1
  by_cases h2 : p.op = 2
  · exact kt_2 A D l cap ep t p w hr ht h2
  by_cases h3 : p.op = 3
  · exact kt_3 A D l cap ep t p w hr ht h3
  by_cases h4 : p.op = 4
  · exact kt_4 A D l cap ep t p w hr ht h4
  by_cases h5 : p.op = 5
  · exact kt_5 A D l cap ep t p w hr ht h5
  by_cases h6 : p.op = 6
  · exact kt_6 A D l cap ep t p w hr ht h6
  exact kt_x A D l cap ep t p w hr ht h1 h2 h3 h4 h5 h6
/-- The walk's own struct: the world and the counter. -/
def CkB (w : World) (lo g : Nat) (A : Option Addr) (len cap n : Nat) : Prop := w.ownsRow lo 89 2 (.slice (some ⟨g, 0, none⟩) 1 1) 1 [.slice A len cap, .int .i64 n]
section
variable {w w' : World} {lo g : Nat} {A : Option Addr} {len cap n : Nat}
theorem CkB.ge (h : CkB w lo g A len cap n) : lo ≤ g := (World.ownsRow.lt h g rfl).1
theorem CkB.lt (h : CkB w lo g A len cap n) : g < w.heap.size := (World.ownsRow.lt h g rfl).2
theorem CkB.c0 (h : CkB w lo g A len cap n) : w.cell? ⟨g, 0, none⟩ = some (.slice A len cap) := World.ownsRow.cellAt h 0 (by omega)
theorem CkB.c1 (h : CkB w lo g A len cap n) : w.cell? ⟨g, 1, none⟩ = some (.int .i64 n) := World.ownsRow.cellAt h 1 (by omega)
theorem CkB.f1 (h : CkB w lo g A len cap n) : w.frozen? ⟨g, 1, none⟩ = false := World.ownsRow.frozenAt h 1
theorem CkB.keep (h : CkB w lo g A len cap n) (hk : w'.heap[g]? = w.heap[g]?) : CkB w' lo g A len cap n := own_at h (fun b e => by injection e with e; subst e; exact hk)
theorem CkB.inc (h : CkB w lo g A len cap n) : CkB (w.setCell ⟨g, 1, none⟩ (.int .i64 (n + 1 : Nat))) lo g A len cap (n + 1) := (World.ownsRow.stored h 1 (.int .i64 (n + 1 : Nat))).1
theorem CkB.incg (h : CkB w lo g A len cap n) (u : Value) : w.grownBy (w.setCell ⟨g, 1, none⟩ u) (some g) := (World.ownsRow.stored h 1 u).2
end
/-- What the first k rounds have put into the row of lists. -/
def KRow (w : World) (lo : Nat) (F : Nat → List Vt) (xs : List Value) (k : Nat) : Prop := ∀ j, j < k → ∃ v, xs[j]? = some v ∧ OVt w lo v (F j)
theorem KRow.zero (w : World) (lo : Nat) (F : Nat → List Vt) (xs : List Value) : KRow w lo F xs 0 := fun j h => absurd h (Nat.not_lt_zero _)
theorem KRow.keep {w w' : World} {lo : Nat} {F : Nat → List Vt} {xs : List Value} {k : Nat} (h : KRow w lo F xs k) (hk : ∀ b, lo ≤ b → b < w.heap.size → w'.heap[b]? = w.heap[b]?) : KRow w' lo F xs k := fun j hj => by
  obtain ⟨v, e, ho⟩ := h j hj
  exact ⟨v, e, ho.keep (fun b e => hk b (ho.lt b e).1 (ho.lt b e).2)⟩
theorem KRow.step {w : World} {lo : Nat} {F : Nat → List Vt} {xs : List Value} {k : Nat} (h : KRow w lo F xs k) (hk : k < xs.length) {v : Value} (ho : OVt w lo v (F k)) : KRow w lo F (xs.set k v) (k + 1) := fun j hj => by
  by_cases e : j = k
  · subst e; exact ⟨v, by rw [List.getElem?_set_self hk], ho⟩
  · obtain ⟨u, e1, e2⟩ := h j (by omega)
    exact ⟨u, by rw [List.getElem?_set_ne (by omega)]; exact e1, e2⟩
def LsRow (w : World) (lo : Nat) (LL : List (List Vt)) (xs : List Value) : Prop := ∀ j (h : j < LL.length), ∃ v, xs[j]? = some v ∧ OVt w lo v LL[j]
theorem KRow.all {w : World} {lo : Nat} {F : Nat → List Vt} {xs : List Value} {k : Nat} (h : KRow w lo F xs k) : LsRow w lo (lisV F k) xs := fun j hj => by
  obtain ⟨v, e, ho⟩ := h j (by rw [lisV_len] at hj; exact hj)
  exact ⟨v, e, by rw [lisV_at]; exact ho⟩
theorem LsRow.keep {w w' : World} {lo : Nat} {LL : List (List Vt)} {xs : List Value} (h : LsRow w lo LL xs) (hk : ∀ b, lo ≤ b → b < w.heap.size → w'.heap[b]? = w.heap[b]?) : LsRow w' lo LL xs := fun j hj => by
  obtain ⟨v, e, ho⟩ := h j hj
  exact ⟨v, e, ho.keep (fun b e => hk b (ho.lt b e).1 (ho.lt b e).2)⟩
theorem LsRow.cons {w : World} {lo : Nat} {LL : List (List Vt)} {xs : List Value} (h : LsRow w lo LL xs) {v : Value} {L : List Vt} (ho : OVt w lo v L) : LsRow w lo (L :: LL) (v :: xs) := fun j hj => by
  match j, hj with
  | 0, _ => exact ⟨v, rfl, ho⟩
  | j + 1, hj =>
    obtain ⟨u, e, h2⟩ := h j (by simpa using hj)
    exact ⟨u, by simpa using e, by simpa using h2⟩
theorem rls_of {w : World} {base lo : Nat} {v : Value} {LL : List (List Vt)} {xs : List Value} {n : Nat} (ho : w.ownsRow base 69 1 v n xs) (hx : LsRow w lo LL xs) (hl : LL.length = n) (hn : n ≤ maxLen) : ∃ A c, v = .slice A LL.length c ∧ RLs w w.heap.size A LL := by
  subst hl
  have hc := fun g (hg : v.ownBlock = some g) => ho.cells hg
  rcases ho.2 with ⟨rfl, h0⟩ | ⟨g, cap, cur, rfl, hb, hg, _⟩
  · exact ⟨none, 0, by rw [h0], hn, fun k hk => absurd hk (by omega)⟩
  · refine ⟨_, cap, rfl, hn, fun k hk => ?_⟩
    obtain ⟨u, e, h2⟩ := hx k hk
    exact ⟨g, 0, u, rfl, heap_lt hg, by have := hc g rfl k u e; rw [Addr.add_lit] at this; exact this, h2.lower (Nat.zero_le _)⟩
/-- What the walk hands back. -/
def VoQ (l : List Da) (d : Nat) (t : Ty) (p : Pt) (lo g : Nat) (A : Option Addr) (cap n : Nat) (w : World) (b : Bool) (e : Ending) (w' : World) : Prop := ∃ A' n' c', e = .returned (.tuple #[.slice A' n' c', .bool b]) ∧ (b = true → OVt w' w.heap.size (.slice A' n' c') (vrP l d t p) ∧ CkB w' lo g A l.length cap (n + (1 + wP p))) ∧ w.grownBy w' (some g)
def VoZ (l : List Da) (d : Nat) (z : Int) : Prop := ∀ (A D : Option Addr) (cap ep e lo g n : Nat) (t : Ty) (p : Pt) (w : World), RDas w lo A l → TyOK l t → RPs e w lo D p.kids → CkB w lo g A l.length cap n → n ≤ 60 →
  Calls Tryz.prog 50 #[.pointer (some ⟨g, 0, none⟩), .agg #[.int .i64 t.data, .int .i64 t.index], .agg #[.int .i64 p.op, .int .i64 p.ctor, .int .i64 p.n, .int .i64 p.m, .int .i64 p.var, .slice D p.kids.length ep], .int .i64 z] w (VoQ l d t p lo g A cap n w (okP l d t p n))
theorem VoZ.known {l : List Da} {d : Nat} {z : Int} (h : VoZ l d z) (A D : Option Addr) (cap ep e lo g n : Nat) (t : Ty) (p : Pt) (b : Bool) (w : World) (hf : okP l d t p n = b) (hr : RDas w lo A l) (ht : TyOK l t) (hv : RPs e w lo D p.kids) (hc : CkB w lo g A l.length cap n) (hn : n ≤ 60) :
    Calls Tryz.prog 50 #[.pointer (some ⟨g, 0, none⟩), .agg #[.int .i64 t.data, .int .i64 t.index], .agg #[.int .i64 p.op, .int .i64 p.ctor, .int .i64 p.n, .int .i64 p.m, .int .i64 p.var, .slice D p.kids.length ep], .int .i64 z] w (VoQ l d t p lo g A cap n w b) := by
  rw [← hf]; exact h A D cap ep e lo g n t p w hr ht hv hc hn
theorem VoQ.no {l : List Da} {d : Nat} {t : Ty} {p : Pt} {lo g cap n : Nat} {A : Option Addr} {w w' : World} {b : Bool} (hb : b = false) (h : w.grownBy w' (some g)) : VoQ l d t p lo g A cap n w b (.returned (.tuple #[.slice none 0 0, .bool false])) w' := ⟨none, 0, 0, by rw [hb], (fun e => by rw [hb] at e; cases e), h⟩
theorem VoQ.yes {l : List Da} {d : Nat} {t : Ty} {p : Pt} {lo g cap n : Nat} {A : Option Addr} {w w' : World} {v : Value} {b b' : Bool} (hb : b = b') {L : List Vt} (hL : vrP l d t p = L) (hn : L.length ≤ maxLen) (ho : OVt w' w.heap.size v L) (hc : CkB w' lo g A l.length cap (n + (1 + wP p))) (h : w.grownBy w' (some g)) : VoQ l d t p lo g A cap n w b (.returned (.tuple #[v, .bool b'])) w' := by
  obtain ⟨A', c', rfl, _⟩ := ho.form hn
  exact ⟨A', _, c', by rw [hb], fun _ => ⟨by rw [hL]; exact ho, hc⟩, h⟩
theorem grown_below2 {w w1 w2 : World} {r : Option Nat} {B : Nat} (h : w.grownBy w1 r) (hb : Below B w1 w2) (hB : w.heap.size ≤ B) : w.grownBy w2 r :=
  ⟨hb.os.trans h.os, hb.tape.trans h.tape, hb.output.trans h.output, Nat.le_trans h.size hb.size, fun i hi hne => (hb.block i (by omega)).trans (h.block i hi hne)⟩
theorem grown_fr {w w1 w2 : World} {g gl : Nat} (h : w.grownBy w1 (some g)) (hf : Fr (fun b => b = g ∨ b = gl) w1 w2) (hgl : w.heap.size ≤ gl) : w.grownBy w2 (some g) :=
  ⟨hf.1.trans h.os, hf.2.1.trans h.tape, hf.2.2.1.trans h.output, Nat.le_trans h.size hf.size, fun i hi hne => (hf.2.2.2.2 i (by have := h.size; omega) (fun e => by
    rcases e with e | e
    · exact hne (by rw [e])
    · omega)).trans (h.block i hi hne)⟩
end Go.Proofs.YtbdiahnelnbdnaaGreat
/-
  The program's walk over a pattern: the ways that fail at once. No statement is proved here.
-/
namespace Go.Proofs.YtbdiahnelnbdnaaGreat
open Go.RowKit Go.Sort Go.Deep
set_option maxRecDepth 100000
set_option linter.unusedVariables false
theorem vo_start {w wa w1 : World} {lo g len cap n : Nat} {A : Option Addr} {t : Ty} {p : Pt} {D : Option Addr} {ep : Nat} (hc : CkB w lo g A len cap n) (hwa : w.setCell ⟨g, 1, none⟩ (.int .i64 ((n : Int) + 1)) = wa) (hw1 : ((wa.alloc (.cells #[.int .i64 t.data, .int .i64 t.index] 35)).alloc (.cells #[.int .i64 p.op, .int .i64 p.ctor, .int .i64 p.n, .int .i64 p.m, .int .i64 p.var, .slice D p.kids.length ep] 38)) = w1) :
    CkB w1 lo g A len cap (n + 1) ∧ w.grownBy w1 (some g) ∧ Bx w1 w.heap.size t ∧ PBx w1 (w.heap.size + 1) p (.slice D p.kids.length ep) ∧ w.heap.size + 2 ≤ w1.heap.size := by
  have e : ((n + 1 : Nat) : Int) = (n : Int) + 1 := by omega
  have hi := hc.inc
  have hgr := hc.incg (.int .i64 (n + 1 : Nat))
  rw [e, hwa] at hi hgr
  have hsz : wa.heap.size = w.heap.size := by rw [← hwa]; simp
  have hb : Below wa.heap.size wa w1 := below_box2 hw1
  have hs : wa.heap.size + 2 ≤ w1.heap.size := box2_block hw1
  have hx : Bx w1 wa.heap.size t := by rw [← hw1]; exact ⟨by simp [go_sem], by simp [go_sem]⟩
  have hp : PBx w1 (wa.heap.size + 1) p (.slice D p.kids.length ep) := by rw [← hw1]; exact ⟨by simp [go_sem], by simp [go_sem], by simp [go_sem], by simp [go_sem], by simp [go_sem], by simp [go_sem]⟩
  rw [hsz] at hx hp hs
  exact ⟨hi.keep (hb.block g hi.lt), grown_below2 hgr hb (by omega), hx, hp, hs⟩
set_option maxHeartbeats 3000000 in
theorem vo_own (l : List Da) (d : Nat) (z : Int) (A D : Option Addr) (cap ep e lo g n : Nat) (t : Ty) (p : Pt) (w : World) (hr : RDas w lo A l) (ht : TyOK l t) (hv : RPs e w lo D p.kids) (hc : CkB w lo g A l.length cap n) (hn60 : n ≤ 60) (ho : ¬ OwnOK l t p) : Calls Tryz.prog 50 #[.pointer (some ⟨g, 0, none⟩), .agg #[.int .i64 t.data, .int .i64 t.index], .agg #[.int .i64 p.op, .int .i64 p.ctor, .int .i64 p.n, .int .i64 p.m, .int .i64 p.var, .slice D p.kids.length ep], .int .i64 z] w (VoQ l d t p lo g A cap n w (okP l d t p n)) := by
  have HOK := Lib.hid (okP_own (d := d) (n := n) ho)
  have HD := Lib.hid (dec_f ho)
  clear ho
  have hgw := hc.lt
  have hglo := hc.ge
  have HT := Lib.hid ht
  have HCK := Lib.hid hc
  have hnI : (n : Int) ≤ 60 := by omega
  have HKR : Hid (∀ w', Below lo w w' → RDas w' w'.heap.size A l ∧ RPs e w' w'.heap.size D p.kids) := fun w' hb => ⟨hr.keep (fun q hq => hb.cell hq) (by have := hb.size; omega), hv.keep (fun q hq => hb.cell hq) (by have := hb.size; omega)⟩
  clear hr hv ht hc
  have hcA : w.cell? ⟨g, 1, none⟩ = some (.int .i64 n) := HCK.out.c1
  have hfA : w.frozen? ⟨g, 1, none⟩ = false := HCK.out.f1
  obtain ⟨wa, hwa⟩ : ∃ wa, w.setCell ⟨g, 1, none⟩ (.int .i64 ((n : Int) + 1)) = wa := ⟨_, rfl⟩
  obtain ⟨w1, hw1⟩ : ∃ w1, ((wa.alloc (.cells #[.int .i64 t.data, .int .i64 t.index] 35)).alloc (.cells #[.int .i64 p.op, .int .i64 p.ctor, .int .i64 p.n, .int .i64 p.m, .int .i64 p.var, .slice D p.kids.length ep] 38)) = w1 := ⟨_, rfl⟩
  obtain ⟨hC1, hG1, hX1, hP1, hs1⟩ := vo_start HCK.out hwa hw1
  have HWA := Lib.hid hwa
  have HW1 := Lib.hid hw1
  have HX1 := Lib.hid hX1
  have HP1 := Lib.hid hP1
  have HC1 := Lib.hid hC1
  have HG1 := Lib.hid hG1
  have hlow1 : Below lo w w1 := grown_low hG1 (fun q e => by injection e with e; omega) (by omega)
  have HKS : Hid (∀ w', Below w1.heap.size w1 w' → w'.cell? ⟨g, 0, none⟩ = some (.slice A l.length cap) ∧ w'.cell? ⟨g, 1, none⟩ = some (.int .i64 ((n : Int) + 1)) ∧ w'.cell? ⟨w.heap.size, 0, none⟩ = some (.int .i64 t.data) ∧ w'.cell? ⟨w.heap.size, 1, none⟩ = some (.int .i64 t.index) ∧ w'.cell? ⟨w.heap.size + 1, 0, none⟩ = some (.int .i64 p.op) ∧ w'.cell? ⟨w.heap.size + 1, 1, none⟩ = some (.int .i64 p.ctor) ∧ w'.cell? ⟨w.heap.size + 1, 2, none⟩ = some (.int .i64 p.n) ∧ w'.cell? ⟨w.heap.size + 1, 3, none⟩ = some (.int .i64 p.m) ∧ w'.cell? ⟨w.heap.size + 1, 4, none⟩ = some (.int .i64 p.var) ∧ w'.cell? ⟨w.heap.size + 1, 5, none⟩ = some (.slice D p.kids.length ep)) := fun w' h => ⟨(h.cell (p := ⟨g, 0, none⟩) hC1.lt).trans hC1.c0, (h.cell (p := ⟨g, 1, none⟩) hC1.lt).trans hC1.c1, (hX1.at_ h).1, (hX1.at_ h).2, hP1.at_ h⟩
  have SQ := HKS.out w1.drew (Below.refl _ w1).drew
  clear hw1 hwa hC1 hG1 hX1 hP1
  go_enter Tryz.func50, Tryz.ntmps50
  go_wp2_with fail
  rw [HWA.out, HW1.out]
  clear hcA hfA
  go_region_held3 (fun w' => w'.cell? ⟨g, 0, none⟩ = some (.slice A l.length cap) ∧ w'.cell? ⟨g, 1, none⟩ = some (.int .i64 ((n : Int) + 1)) ∧ w'.cell? ⟨w.heap.size, 0, none⟩ = some (.int .i64 t.data) ∧ w'.cell? ⟨w.heap.size, 1, none⟩ = some (.int .i64 t.index) ∧ w'.cell? ⟨w.heap.size + 1, 0, none⟩ = some (.int .i64 p.op) ∧ w'.cell? ⟨w.heap.size + 1, 1, none⟩ = some (.int .i64 p.ctor) ∧ w'.cell? ⟨w.heap.size + 1, 2, none⟩ = some (.int .i64 p.n) ∧ w'.cell? ⟨w.heap.size + 1, 3, none⟩ = some (.int .i64 p.m) ∧ w'.cell? ⟨w.heap.size + 1, 4, none⟩ = some (.int .i64 p.var) ∧ w'.cell? ⟨w.heap.size + 1, 5, none⟩ = some (.slice D p.kids.length ep)) (with_reducible exact SQ) (first | (go_at_call 68; (with_reducible refine (kt_any A D l cap ep t p w1.drew (HKR.out w1.drew hlow1.drew).1 HT.out).mono ?_); rintro e2 w2 ⟨v2, rfl, hty, hb2'⟩; have hb2 : Below w1.heap.size w1 w2 := ⟨hb2'.os, hb2'.tape, hb2'.output, hb2'.size, hb2'.block⟩; have HTY : Hid (OwnOK l t p → OTys w2 w1.heap.size v2 (tysP l t p) (tysP l t p).length) := hty; have SQ := HKS.out w2 hb2; clear hty hb2'; rw [HD.out]))
  obtain ⟨s0, s1, s2, s3, s4, s5, s6, s7, s8, s9⟩ := SQ
  have HG2 := Lib.hid (grown_below2 HG1.out hb2 (by omega))
  go_wp2_with fail
  go_ret2
  exact VoQ.no HOK.out HG2.out
set_option maxHeartbeats 3000000 in
theorem vo_zero (l : List Da) (A D : Option Addr) (cap ep e lo g n : Nat) (t : Ty) (p : Pt) (w : World) (hr : RDas w lo A l) (ht : TyOK l t) (hv : RPs e w lo D p.kids) (hc : CkB w lo g A l.length cap n) (hn60 : n ≤ 60) (ho : OwnOK l t p) : Calls Tryz.prog 50 #[.pointer (some ⟨g, 0, none⟩), .agg #[.int .i64 t.data, .int .i64 t.index], .agg #[.int .i64 p.op, .int .i64 p.ctor, .int .i64 p.n, .int .i64 p.m, .int .i64 p.var, .slice D p.kids.length ep], .int .i64 0] w (VoQ l 0 t p lo g A cap n w (okP l 0 t p n)) := by
  have HOK := Lib.hid (okP_zero (l := l) (t := t) (p := p) (n := n))
  have HD := Lib.hid (dec_t ho)
  clear ho
  have hgw := hc.lt
  have hglo := hc.ge
  have HT := Lib.hid ht
  have HCK := Lib.hid hc
  have hnI : (n : Int) ≤ 60 := by omega
  have HKR : Hid (∀ w', Below lo w w' → RDas w' w'.heap.size A l ∧ RPs e w' w'.heap.size D p.kids) := fun w' hb => ⟨hr.keep (fun q hq => hb.cell hq) (by have := hb.size; omega), hv.keep (fun q hq => hb.cell hq) (by have := hb.size; omega)⟩
  clear hr hv ht hc
  have hcA : w.cell? ⟨g, 1, none⟩ = some (.int .i64 n) := HCK.out.c1
  have hfA : w.frozen? ⟨g, 1, none⟩ = false := HCK.out.f1
  obtain ⟨wa, hwa⟩ : ∃ wa, w.setCell ⟨g, 1, none⟩ (.int .i64 ((n : Int) + 1)) = wa := ⟨_, rfl⟩
  obtain ⟨w1, hw1⟩ : ∃ w1, ((wa.alloc (.cells #[.int .i64 t.data, .int .i64 t.index] 35)).alloc (.cells #[.int .i64 p.op, .int .i64 p.ctor, .int .i64 p.n, .int .i64 p.m, .int .i64 p.var, .slice D p.kids.length ep] 38)) = w1 := ⟨_, rfl⟩
  obtain ⟨hC1, hG1, hX1, hP1, hs1⟩ := vo_start HCK.out hwa hw1
  have HWA := Lib.hid hwa
  have HW1 := Lib.hid hw1
  have HX1 := Lib.hid hX1
  have HP1 := Lib.hid hP1
  have HC1 := Lib.hid hC1
  have HG1 := Lib.hid hG1
  have hlow1 : Below lo w w1 := grown_low hG1 (fun q e => by injection e with e; omega) (by omega)
  have HKS : Hid (∀ w', Below w1.heap.size w1 w' → w'.cell? ⟨g, 0, none⟩ = some (.slice A l.length cap) ∧ w'.cell? ⟨g, 1, none⟩ = some (.int .i64 ((n : Int) + 1)) ∧ w'.cell? ⟨w.heap.size, 0, none⟩ = some (.int .i64 t.data) ∧ w'.cell? ⟨w.heap.size, 1, none⟩ = some (.int .i64 t.index) ∧ w'.cell? ⟨w.heap.size + 1, 0, none⟩ = some (.int .i64 p.op) ∧ w'.cell? ⟨w.heap.size + 1, 1, none⟩ = some (.int .i64 p.ctor) ∧ w'.cell? ⟨w.heap.size + 1, 2, none⟩ = some (.int .i64 p.n) ∧ w'.cell? ⟨w.heap.size + 1, 3, none⟩ = some (.int .i64 p.m) ∧ w'.cell? ⟨w.heap.size + 1, 4, none⟩ = some (.int .i64 p.var) ∧ w'.cell? ⟨w.heap.size + 1, 5, none⟩ = some (.slice D p.kids.length ep)) := fun w' h => ⟨(h.cell (p := ⟨g, 0, none⟩) hC1.lt).trans hC1.c0, (h.cell (p := ⟨g, 1, none⟩) hC1.lt).trans hC1.c1, (hX1.at_ h).1, (hX1.at_ h).2, hP1.at_ h⟩
  have SQ := HKS.out w1.drew (Below.refl _ w1).drew
  clear hw1 hwa hC1 hG1 hX1 hP1
  go_enter Tryz.func50, Tryz.ntmps50
  go_wp2_with fail
  rw [HWA.out, HW1.out]
  clear hcA hfA
  go_region_held3 (fun w' => w'.cell? ⟨g, 0, none⟩ = some (.slice A l.length cap) ∧ w'.cell? ⟨g, 1, none⟩ = some (.int .i64 ((n : Int) + 1)) ∧ w'.cell? ⟨w.heap.size, 0, none⟩ = some (.int .i64 t.data) ∧ w'.cell? ⟨w.heap.size, 1, none⟩ = some (.int .i64 t.index) ∧ w'.cell? ⟨w.heap.size + 1, 0, none⟩ = some (.int .i64 p.op) ∧ w'.cell? ⟨w.heap.size + 1, 1, none⟩ = some (.int .i64 p.ctor) ∧ w'.cell? ⟨w.heap.size + 1, 2, none⟩ = some (.int .i64 p.n) ∧ w'.cell? ⟨w.heap.size + 1, 3, none⟩ = some (.int .i64 p.m) ∧ w'.cell? ⟨w.heap.size + 1, 4, none⟩ = some (.int .i64 p.var) ∧ w'.cell? ⟨w.heap.size + 1, 5, none⟩ = some (.slice D p.kids.length ep)) (with_reducible exact SQ) (first | (go_at_call 68; (with_reducible refine (kt_any A D l cap ep t p w1.drew (HKR.out w1.drew hlow1.drew).1 HT.out).mono ?_); rintro e2 w2 ⟨v2, rfl, hty, hb2'⟩; have hb2 : Below w1.heap.size w1 w2 := ⟨hb2'.os, hb2'.tape, hb2'.output, hb2'.size, hb2'.block⟩; have HTY : Hid (OwnOK l t p → OTys w2 w1.heap.size v2 (tysP l t p) (tysP l t p).length) := hty; have SQ := HKS.out w2 hb2; clear hty hb2'; rw [HD.out]))
  obtain ⟨s0, s1, s2, s3, s4, s5, s6, s7, s8, s9⟩ := SQ
  have HG2 := Lib.hid (grown_below2 HG1.out hb2 (by omega))
  go_wp2_with fail
  go_ret2
  exact VoQ.no HOK.out HG2.out
set_option maxHeartbeats 3000000 in
theorem vo_big (l : List Da) (d : Nat) (z : Int) (hz : (z == 0) = false) (A D : Option Addr) (cap ep e lo g n : Nat) (t : Ty) (p : Pt) (w : World) (hr : RDas w lo A l) (ht : TyOK l t) (hv : RPs e w lo D p.kids) (hc : CkB w lo g A l.length cap n) (hn60 : n ≤ 60) (ho : OwnOK l t p) (hb : 60 < n + 1) : Calls Tryz.prog 50 #[.pointer (some ⟨g, 0, none⟩), .agg #[.int .i64 t.data, .int .i64 t.index], .agg #[.int .i64 p.op, .int .i64 p.ctor, .int .i64 p.n, .int .i64 p.m, .int .i64 p.var, .slice D p.kids.length ep], .int .i64 z] w (VoQ l d t p lo g A cap n w (okP l d t p n)) := by
  have HOK := Lib.hid (okP_big (l := l) (d := d) (t := t) (p := p) hb)
  have HD := Lib.hid (dec_t ho)
  have hq : decide (60 < (n : Int) + 1) = true := decide_eq_true (by omega)
  have hbI : (60 : Int) < (n : Int) + 1 := by omega
  clear ho hb
  have hgw := hc.lt
  have hglo := hc.ge
  have HT := Lib.hid ht
  have HCK := Lib.hid hc
  have hnI : (n : Int) ≤ 60 := by omega
  have HKR : Hid (∀ w', Below lo w w' → RDas w' w'.heap.size A l ∧ RPs e w' w'.heap.size D p.kids) := fun w' hb => ⟨hr.keep (fun q hq => hb.cell hq) (by have := hb.size; omega), hv.keep (fun q hq => hb.cell hq) (by have := hb.size; omega)⟩
  clear hr hv ht hc
  have hcA : w.cell? ⟨g, 1, none⟩ = some (.int .i64 n) := HCK.out.c1
  have hfA : w.frozen? ⟨g, 1, none⟩ = false := HCK.out.f1
  obtain ⟨wa, hwa⟩ : ∃ wa, w.setCell ⟨g, 1, none⟩ (.int .i64 ((n : Int) + 1)) = wa := ⟨_, rfl⟩
  obtain ⟨w1, hw1⟩ : ∃ w1, ((wa.alloc (.cells #[.int .i64 t.data, .int .i64 t.index] 35)).alloc (.cells #[.int .i64 p.op, .int .i64 p.ctor, .int .i64 p.n, .int .i64 p.m, .int .i64 p.var, .slice D p.kids.length ep] 38)) = w1 := ⟨_, rfl⟩
  obtain ⟨hC1, hG1, hX1, hP1, hs1⟩ := vo_start HCK.out hwa hw1
  have HWA := Lib.hid hwa
  have HW1 := Lib.hid hw1
  have HX1 := Lib.hid hX1
  have HP1 := Lib.hid hP1
  have HC1 := Lib.hid hC1
  have HG1 := Lib.hid hG1
  have hlow1 : Below lo w w1 := grown_low hG1 (fun q e => by injection e with e; omega) (by omega)
  have HKS : Hid (∀ w', Below w1.heap.size w1 w' → w'.cell? ⟨g, 0, none⟩ = some (.slice A l.length cap) ∧ w'.cell? ⟨g, 1, none⟩ = some (.int .i64 ((n : Int) + 1)) ∧ w'.cell? ⟨w.heap.size, 0, none⟩ = some (.int .i64 t.data) ∧ w'.cell? ⟨w.heap.size, 1, none⟩ = some (.int .i64 t.index) ∧ w'.cell? ⟨w.heap.size + 1, 0, none⟩ = some (.int .i64 p.op) ∧ w'.cell? ⟨w.heap.size + 1, 1, none⟩ = some (.int .i64 p.ctor) ∧ w'.cell? ⟨w.heap.size + 1, 2, none⟩ = some (.int .i64 p.n) ∧ w'.cell? ⟨w.heap.size + 1, 3, none⟩ = some (.int .i64 p.m) ∧ w'.cell? ⟨w.heap.size + 1, 4, none⟩ = some (.int .i64 p.var) ∧ w'.cell? ⟨w.heap.size + 1, 5, none⟩ = some (.slice D p.kids.length ep)) := fun w' h => ⟨(h.cell (p := ⟨g, 0, none⟩) hC1.lt).trans hC1.c0, (h.cell (p := ⟨g, 1, none⟩) hC1.lt).trans hC1.c1, (hX1.at_ h).1, (hX1.at_ h).2, hP1.at_ h⟩
  have SQ := HKS.out w1.drew (Below.refl _ w1).drew
  clear hw1 hwa hC1 hG1 hX1 hP1
  go_enter Tryz.func50, Tryz.ntmps50
  go_wp2_with fail
  rw [HWA.out, HW1.out]
  clear hcA hfA
  go_region_held3 (fun w' => w'.cell? ⟨g, 0, none⟩ = some (.slice A l.length cap) ∧ w'.cell? ⟨g, 1, none⟩ = some (.int .i64 ((n : Int) + 1)) ∧ w'.cell? ⟨w.heap.size, 0, none⟩ = some (.int .i64 t.data) ∧ w'.cell? ⟨w.heap.size, 1, none⟩ = some (.int .i64 t.index) ∧ w'.cell? ⟨w.heap.size + 1, 0, none⟩ = some (.int .i64 p.op) ∧ w'.cell? ⟨w.heap.size + 1, 1, none⟩ = some (.int .i64 p.ctor) ∧ w'.cell? ⟨w.heap.size + 1, 2, none⟩ = some (.int .i64 p.n) ∧ w'.cell? ⟨w.heap.size + 1, 3, none⟩ = some (.int .i64 p.m) ∧ w'.cell? ⟨w.heap.size + 1, 4, none⟩ = some (.int .i64 p.var) ∧ w'.cell? ⟨w.heap.size + 1, 5, none⟩ = some (.slice D p.kids.length ep)) (with_reducible exact SQ) (first | (go_at_call 68; (with_reducible refine (kt_any A D l cap ep t p w1.drew (HKR.out w1.drew hlow1.drew).1 HT.out).mono ?_); rintro e2 w2 ⟨v2, rfl, hty, hb2'⟩; have hb2 : Below w1.heap.size w1 w2 := ⟨hb2'.os, hb2'.tape, hb2'.output, hb2'.size, hb2'.block⟩; have HTY : Hid (OwnOK l t p → OTys w2 w1.heap.size v2 (tysP l t p) (tysP l t p).length) := hty; have SQ := HKS.out w2 hb2; clear hty hb2'; rw [HD.out]))
  obtain ⟨s0, s1, s2, s3, s4, s5, s6, s7, s8, s9⟩ := SQ
  have HG2 := Lib.hid (grown_below2 HG1.out hb2 (by omega))
  go_wp2_with fail
  go_ret2
  exact VoQ.no HOK.out HG2.out
set_option maxHeartbeats 3000000 in
theorem vo_len (l : List Da) (d : Nat) (z : Int) (hz : (z == 0) = false) (A D : Option Addr) (cap ep e lo g n : Nat) (t : Ty) (p : Pt) (w : World) (hr : RDas w lo A l) (ht : TyOK l t) (hv : RPs e w lo D p.kids) (hc : CkB w lo g A l.length cap n) (hn60 : n ≤ 60) (ho : OwnOK l t p) (hb : n + 1 ≤ 60) (hl : ¬ p.kids.length = (tysP l t p).length) : Calls Tryz.prog 50 #[.pointer (some ⟨g, 0, none⟩), .agg #[.int .i64 t.data, .int .i64 t.index], .agg #[.int .i64 p.op, .int .i64 p.ctor, .int .i64 p.n, .int .i64 p.m, .int .i64 p.var, .slice D p.kids.length ep], .int .i64 z] w (VoQ l d t p lo g A cap n w (okP l d t p n)) := by
  have HOK := Lib.hid (okP_len (d := d) (n := n) hl)
  have HD := Lib.hid (dec_t ho)
  have HOW := Lib.hid ho
  have hq : decide (60 < (n : Int) + 1) = false := decide_eq_false (by omega)
  have hbI : (n : Int) + 1 ≤ 60 := by omega
  have hlI : (((tysP l t p).length : Int) != (p.kids.length : Int)) = true := by simp; omega
  have HL3 := Lib.hid (tysP_len l t p)
  clear ho hb hl
  have hgw := hc.lt
  have hglo := hc.ge
  have HT := Lib.hid ht
  have HCK := Lib.hid hc
  have hnI : (n : Int) ≤ 60 := by omega
  have HKR : Hid (∀ w', Below lo w w' → RDas w' w'.heap.size A l ∧ RPs e w' w'.heap.size D p.kids) := fun w' hb => ⟨hr.keep (fun q hq => hb.cell hq) (by have := hb.size; omega), hv.keep (fun q hq => hb.cell hq) (by have := hb.size; omega)⟩
  clear hr hv ht hc
  have hcA : w.cell? ⟨g, 1, none⟩ = some (.int .i64 n) := HCK.out.c1
  have hfA : w.frozen? ⟨g, 1, none⟩ = false := HCK.out.f1
  obtain ⟨wa, hwa⟩ : ∃ wa, w.setCell ⟨g, 1, none⟩ (.int .i64 ((n : Int) + 1)) = wa := ⟨_, rfl⟩
  obtain ⟨w1, hw1⟩ : ∃ w1, ((wa.alloc (.cells #[.int .i64 t.data, .int .i64 t.index] 35)).alloc (.cells #[.int .i64 p.op, .int .i64 p.ctor, .int .i64 p.n, .int .i64 p.m, .int .i64 p.var, .slice D p.kids.length ep] 38)) = w1 := ⟨_, rfl⟩
  obtain ⟨hC1, hG1, hX1, hP1, hs1⟩ := vo_start HCK.out hwa hw1
  have HWA := Lib.hid hwa
  have HW1 := Lib.hid hw1
  have HX1 := Lib.hid hX1
  have HP1 := Lib.hid hP1
  have HC1 := Lib.hid hC1
  have HG1 := Lib.hid hG1
  have hlow1 : Below lo w w1 := grown_low hG1 (fun q e => by injection e with e; omega) (by omega)
  have HKS : Hid (∀ w', Below w1.heap.size w1 w' → w'.cell? ⟨g, 0, none⟩ = some (.slice A l.length cap) ∧ w'.cell? ⟨g, 1, none⟩ = some (.int .i64 ((n : Int) + 1)) ∧ w'.cell? ⟨w.heap.size, 0, none⟩ = some (.int .i64 t.data) ∧ w'.cell? ⟨w.heap.size, 1, none⟩ = some (.int .i64 t.index) ∧ w'.cell? ⟨w.heap.size + 1, 0, none⟩ = some (.int .i64 p.op) ∧ w'.cell? ⟨w.heap.size + 1, 1, none⟩ = some (.int .i64 p.ctor) ∧ w'.cell? ⟨w.heap.size + 1, 2, none⟩ = some (.int .i64 p.n) ∧ w'.cell? ⟨w.heap.size + 1, 3, none⟩ = some (.int .i64 p.m) ∧ w'.cell? ⟨w.heap.size + 1, 4, none⟩ = some (.int .i64 p.var) ∧ w'.cell? ⟨w.heap.size + 1, 5, none⟩ = some (.slice D p.kids.length ep)) := fun w' h => ⟨(h.cell (p := ⟨g, 0, none⟩) hC1.lt).trans hC1.c0, (h.cell (p := ⟨g, 1, none⟩) hC1.lt).trans hC1.c1, (hX1.at_ h).1, (hX1.at_ h).2, hP1.at_ h⟩
  have SQ := HKS.out w1.drew (Below.refl _ w1).drew
  clear hw1 hwa hC1 hG1 hX1 hP1
  go_enter Tryz.func50, Tryz.ntmps50
  go_wp2_with fail
  rw [HWA.out, HW1.out]
  clear hcA hfA
  go_region_held3 (fun w' => w'.cell? ⟨g, 0, none⟩ = some (.slice A l.length cap) ∧ w'.cell? ⟨g, 1, none⟩ = some (.int .i64 ((n : Int) + 1)) ∧ w'.cell? ⟨w.heap.size, 0, none⟩ = some (.int .i64 t.data) ∧ w'.cell? ⟨w.heap.size, 1, none⟩ = some (.int .i64 t.index) ∧ w'.cell? ⟨w.heap.size + 1, 0, none⟩ = some (.int .i64 p.op) ∧ w'.cell? ⟨w.heap.size + 1, 1, none⟩ = some (.int .i64 p.ctor) ∧ w'.cell? ⟨w.heap.size + 1, 2, none⟩ = some (.int .i64 p.n) ∧ w'.cell? ⟨w.heap.size + 1, 3, none⟩ = some (.int .i64 p.m) ∧ w'.cell? ⟨w.heap.size + 1, 4, none⟩ = some (.int .i64 p.var) ∧ w'.cell? ⟨w.heap.size + 1, 5, none⟩ = some (.slice D p.kids.length ep)) (with_reducible exact SQ) (first | (go_at_call 68; (with_reducible refine (kt_any A D l cap ep t p w1.drew (HKR.out w1.drew hlow1.drew).1 HT.out).mono ?_); rintro e2 w2 ⟨v2, rfl, hty, hb2'⟩; have hb2 : Below w1.heap.size w1 w2 := ⟨hb2'.os, hb2'.tape, hb2'.output, hb2'.size, hb2'.block⟩; have HTY : Hid (OwnOK l t p → OTys w2 w1.heap.size v2 (tysP l t p) (tysP l t p).length) := hty; have SQ := HKS.out w2 hb2; clear hty hb2'; rw [HD.out]))
  obtain ⟨s0, s1, s2, s3, s4, s5, s6, s7, s8, s9⟩ := SQ
  have HG2 := Lib.hid (grown_below2 HG1.out hb2 (by omega))
  obtain ⟨A2, c2, rfl, hr2⟩ := (HTY.out HOW.out).form (by have := HL3.out; unfold maxLen; omega)
  clear hr2
  go_wp2_with fail
  go_ret2
  exact VoQ.no HOK.out HG2.out
end Go.Proofs.YtbdiahnelnbdnaaGreat
/-
  The program's walk over a pattern: what holds at every round. No statement is proved here.
-/
namespace Go.Proofs.YtbdiahnelnbdnaaGreat
open Go.RowKit Go.Sort Go.Deep
set_option maxRecDepth 100000
set_option linter.unusedVariables false
theorem catV_mem {f : Nat → List Vt} {x : Vt} : ∀ {k}, x ∈ catV f k → ∃ i, i < k ∧ x ∈ f i
  | 0, h => by cases h
  | k + 1, h => by
    rcases List.mem_append.1 (show x ∈ catV f k ++ f k from h) with h | h
    · obtain ⟨i, hi, h⟩ := catV_mem h; exact ⟨i, by omega, h⟩
    · exact ⟨k, by omega, h⟩
theorem vrP_vars {l : List Da} : ∀ {d : Nat} {t : Ty} {p : Pt}, shP l d t p = true → ∀ x ∈ vrP l d t p, 0 ≤ x.var ∧ x.var ≤ 5
  | 0, t, p, h => by rw [shP_zero] at h; cases h
  | d + 1, t, p, h => fun x hx => by
    obtain ⟨h1, h2, h3⟩ := shP_parts h
    rw [vrP_go] at hx
    rcases List.mem_append.1 hx with hx | hx
    · by_cases hn : p.op = 2 ∨ p.op = 6
      · rw [hdV_yes hn] at hx
        rw [List.mem_singleton.1 hx]
        exact h1.1 hn
      · rw [hdV_no hn] at hx; cases hx
    · obtain ⟨i, hi, hx⟩ := catV_mem hx
      have hil : i < (tysP l t p).length := Nat.lt_of_lt_of_le hi (limV_le l t p)
      rw [kidR_at hil (by omega)] at hx
      exact vrP_vars (h3 i hil (by omega)) x hx
theorem KidsOK.sh {l : List Da} {d : Nat} {t : Ty} {p : Pt} {n : Nat} (h : KidsOK l d t p n (tysP l t p).length) (ho : OwnOK l t p) (hl : p.kids.length = (tysP l t p).length) : shP l (d + 1) t p = true := by
  rw [shP_go ho hl]
  exact upto_all (fun i hi => by rw [kidP_at hi (by omega)]; exact (h.2 i hi (by omega) hi).1)
theorem KidsOK.or2 {l : List Da} {d : Nat} {t : Ty} {p : Pt} {n : Nat} (h : KidsOK l d t p n (tysP l t p).length) (ho : OwnOK l t p) (hl : p.kids.length = (tysP l t p).length) (h5 : p.op = 5) :
    okP l (d + 1) t p n = sameB (kidR l d (tysP l t p) p.kids 0) (kidR l d (tysP l t p) p.kids 1) ∧ vrP l (d + 1) t p = kidR l d (tysP l t p) p.kids 0 := by
  have ht : tysP l t p = [t, t] := by rw [tysP_other (by omega), h5]; rfl
  have h0 : 0 < p.kids.length := by rw [hl, ht]; simp
  have h1 : 1 < p.kids.length := by rw [hl, ht]; simp
  have hh := h.or_ ho hl h5 h0 h1
  have e0 : kidR l d (tysP l t p) p.kids 0 = vrP l d t p.kids[0] := by rw [kidR_at (by omega) h0]; simp only [ht, List.getElem_cons_zero]
  have e1 : kidR l d (tysP l t p) p.kids 1 = vrP l d t p.kids[1] := by rw [kidR_at (by omega) h1]; simp only [ht, List.getElem_cons_succ, List.getElem_cons_zero]
  rw [e0, e1]; exact hh
theorem vo_at {w w1 w2 w3 : World} {lo g n2 c2 : Nat} {A2 : Option Addr} {t : Ty} {p : Pt} {v : Value} {ats : List Ty} (hlow1 : Below lo w w1) (hb2 : Below w1.heap.size w1 w2) (hgr : w2.grownBy w3 none) (hx1 : Bx w1 w.heap.size t) (hp1 : PBx w1 (w.heap.size + 1) p v) (hs1 : w.heap.size + 2 ≤ w1.heap.size) (hg : lo ≤ g) (hgw : g < w.heap.size) (hty : OTys w2 w1.heap.size (.slice A2 n2 c2) ats ats.length) (h3 : ats.length ≤ 3) :
    ∀ wr, Fr (fun b => b = g ∨ b = w2.heap.size) w3 wr → Below lo w wr ∧ Bx wr w.heap.size t ∧ PBx wr (w.heap.size + 1) p v ∧ RTys wr wr.heap.size A2 ats := by
  intro wr hf
  have z1 := hlow1.size
  have z2 := hb2.size
  have z3 := hgr.size
  have z4 := hf.size
  have hk : ∀ i, i < w2.heap.size → i ≠ g → wr.heap[i]? = w2.heap[i]? := fun i hi hne => (hf.2.2.2.2 i (by omega) (fun e => by rcases e with e | e <;> omega)).trans (hgr.block i hi (fun e => by cases e))
  refine ⟨⟨hf.1.trans (hgr.os.trans (hb2.os.trans hlow1.os)), hf.2.1.trans (hgr.tape.trans (hb2.tape.trans hlow1.tape)), hf.2.2.1.trans (hgr.output.trans (hb2.output.trans hlow1.output)), by omega, fun i hi => (hk i (by omega) (by omega)).trans ((hb2.block i (by omega)).trans (hlow1.block i hi))⟩, ?_, hp1.keep ((hk _ (by omega) (by omega)).trans (hb2.block _ (by omega))), ?_⟩
  · have e : wr.heap[w.heap.size]? = w1.heap[w.heap.size]? := (hk _ (by omega) (by omega)).trans (hb2.block _ (by omega))
    exact ⟨(World.cell?_of_block (a := ⟨w.heap.size, 0, none⟩) e).trans hx1.1, (World.cell?_of_block (a := ⟨w.heap.size, 1, none⟩) e).trans hx1.2⟩
  · exact (hty.kept2 (fun b e => hk b (hty.own b e).2 (by have := (hty.own b e).1; omega))).reads (by unfold maxLen; omega)
theorem OVt.one {w : World} {lo : Nat} {v : Value} {L : List Vt} (h : OVt w lo v L) : v.oneCell' = true := by
  obtain ⟨xs, ho, _⟩ := h
  rcases ho.2 with ⟨rfl, _⟩ | ⟨g, cap, cur, rfl, _⟩ <;> rfl
theorem KRow.one {w : World} {lo : Nat} {F : Nat → List Vt} {xs : List Value} {k : Nat} (h : KRow w lo F xs k) (hk : xs.length = k) : ∀ u ∈ xs, u.oneCell' = true := fun u hu => by
  obtain ⟨i, hi, rfl⟩ := List.mem_iff_getElem.1 hu
  obtain ⟨v, e, ho⟩ := h i (by omega)
  rw [List.getElem?_eq_getElem hi] at e
  injection e with e; rw [e]; exact ho.one
theorem insert_any (base g b m : Nat) (A : Option Addr) (n c : Nat) (xs : List Value) (w : World) (hm : m = 0 ∨ m = 1) (ho : w.ownsRow base 69 1 (.slice (some ⟨g, 0, none⟩) m m) m xs) (hbase : base ≤ w.heap.size) (hx : w.cell? ⟨b, 0, none⟩ = some (.slice A n c)) (h1 : ∀ u ∈ xs, u.oneCell' = true) :
    Calls Tryz.prog 70 #[.slice (some ⟨g, 0, none⟩) m m, .int .i64 0, .slice (some ⟨b, 0, none⟩) 1 1] w fun e w' => ∃ v, e = .returned v ∧ w'.ownsRow base 69 1 v (m + 1) (.slice A n c :: xs) ∧ w.grownBy w' (some g) := by
  have hl := ho.1
  rcases hm with rfl | rfl
  · obtain rfl : xs = [] := List.eq_nil_of_length_eq_zero (by omega)
    exact insert_0 base g b A n c w ho hbase hx
  · match xs, hl with
    | [y], _ => exact insert_1 base g b A n c y w ho hbase hx (h1 y (by simp))
theorem OVt.lit (w : World) (lo : Nat) (x : Vt) (h : lo ≤ w.heap.size) : OVt (w.alloc (.cells #[.int .i64 x.var, .int .i64 x.ty.data, .int .i64 x.ty.index] 104)) lo (.slice (some ⟨w.heap.size, 0, none⟩) 1 1) [x] := by
  refine ⟨[.int .i64 x.var, .int .i64 x.ty.data, .int .i64 x.ty.index], ?_, fun j hj => ?_⟩
  · exact World.ownsRow_lit w #[.int .i64 x.var, .int .i64 x.ty.data, .int .i64 x.ty.index] 1 h (by unfold maxLen; omega) rfl
  · match j, hj with
    | 0, _ => exact ⟨rfl, rfl, rfl⟩
end Go.Proofs.YtbdiahnelnbdnaaGreat
