/-
  The types of the parts of a pattern: the program's function. No statement is proved here.
-/
import Derived.Test.YteoopmogklpnoaaV47
import Derived.Test.YteoopmogklpnoaaV28
import Derived.Test.YteoopmogklpnoaaV46
import Derived.Test.YteoopmogklpnoaaV00
namespace Go.Proofs.Yteoopmogklpnoaa
open Go.RowKit Go.Sort Go.Deep
set_option maxRecDepth 100000
set_option linter.unusedVariables false
section
variable {P : Program} {ops : Array Oper} {Q : Exit → Act → World → Prop} {md : Region.Mode} {S : World → Prop}
theorem held_take {i : Nat} {oi : Oper} {d : Option Tmp} {v : Value} {n : Nat} {ls ls' : Array Bool} {a : Act} {w : World} (hi : ops[i]? = some oi) (hd : ops[i]?.map (fun o => o.dst) = some d) (hs : Region.noSelect ops = true) (hf : Region.free md ops ls i = true)
    (hr : (Region.ready md ops ls).contains i = true) (hQ : ∀ c a w, Q (.panic c) (a.put d v) w → Q (.panic c) a w) (hS : S w) (hl : ls.setIfInBounds i true = ls') (hy : YieldsIf P ops S oi v a)
    (h : wpAnyH P md ops Q S n ls' (a.put d v) w) : wpAnyH P md ops Q S (n + 1) ls a w := by
  have e : oi.dst = d := by rw [hi] at hd; injection hd
  subst e hl
  exact wpAnyH_take hi hs hf hr hQ hy hS h
end
set_option maxHeartbeats 3000000 in
theorem kt_6 (A D : Option Addr) (l : List Da) (cap ep : Nat) (t : Ty) (p : Pt) (w : World) (hr : RDas w w.heap.size A l) (ht : TyOK l t) (h6 : p.op = 6) : Calls Try.prog 124 #[.slice A l.length cap, .agg #[.int .i64 t.data, .int .i64 t.index], .agg #[.int .i64 p.op, .int .i64 p.ctor, .int .i64 p.n, .int .i64 p.m, .int .i64 p.var, .slice D p.kids.length ep]] w (KtQ l t p w) := by
  have u1 : (p.op == 1) = false := ieq_f (by omega)
  have u2 : (p.op == 2) = false := ieq_f (by omega)
  have u3 : (p.op == 3) = false := ieq_f (by omega)
  have u4 : (p.op == 4) = false := ieq_f (by omega)
  have u5 : (p.op == 5) = false := ieq_f (by omega)
  have u6 := ieq_t h6
  have HO := Lib.hid (own6 (l := l) (t := t) h6)
  have HTY : Hid (tysP l t p = [t]) := by unfold Hid; rw [tysP_other (by omega), h6]; rfl
  have HQ : Hid (∀ w' v, OTys w' w.heap.size v [t] 1 → Below w.heap.size w w' → KtQ l t p w (.returned (.tuple #[v, .bool (dec (0 ≤ p.var ∧ p.var ≤ 5) && dec (SameF p.op p.ctor p.n p.m p.var 6 0 0 0 p.var))])) w') := fun w' v h hb => ⟨v, by rw [HO.out], fun _ => by rw [HTY.out]; exact h, hb⟩
  clear hr ht h6
  generalize hw0 : (w.alloc (.cells #[.int .i64 t.data, .int .i64 t.index] 25)).alloc (.cells #[.int .i64 p.op, .int .i64 p.ctor, .int .i64 p.n, .int .i64 p.m, .int .i64 p.var, .slice D p.kids.length ep] 50) = w0
  have hb0 := below_box2 hw0
  have HXT : Hid (Bx w0 w.heap.size t) := by rw [← hw0]; exact ⟨by simp [go_sem], by simp [go_sem]⟩
  have HXP : Hid (PBx w0 (w.heap.size + 1) p (.slice D p.kids.length ep)) := by rw [← hw0]; exact ⟨by simp [go_sem], by simp [go_sem], by simp [go_sem], by simp [go_sem], by simp [go_sem], by simp [go_sem]⟩
  have HW := Lib.hid hw0
  clear hw0
  have HKS : Hid (∀ w', Below w0.heap.size w0 w' → w'.cell? ⟨w.heap.size, 0, none⟩ = some (.int .i64 t.data) ∧ w'.cell? ⟨w.heap.size, 1, none⟩ = some (.int .i64 t.index) ∧ w'.cell? ⟨w.heap.size + 1, 0, none⟩ = some (.int .i64 p.op) ∧ w'.cell? ⟨w.heap.size + 1, 1, none⟩ = some (.int .i64 p.ctor) ∧ w'.cell? ⟨w.heap.size + 1, 2, none⟩ = some (.int .i64 p.n) ∧ w'.cell? ⟨w.heap.size + 1, 3, none⟩ = some (.int .i64 p.m) ∧ w'.cell? ⟨w.heap.size + 1, 4, none⟩ = some (.int .i64 p.var) ∧ w'.cell? ⟨w.heap.size + 1, 5, none⟩ = some (.slice D p.kids.length ep)) := fun w' h => ⟨(HXT.out.at_ h).1, (HXT.out.at_ h).2, HXP.out.at_ h⟩
  have SQ := HKS.out w0.drew (Below.refl _ w0).drew
  have SQ1 := HKS.out ((w0.alloc (.cells #[.int .i64 t.data, .int .i64 t.index] 25)).drew) ((Below.refl _ w0).alloc (Nat.le_refl _) _).drew
  have y0 := HXP.out.1
  by_cases hv : 0 ≤ p.var ∧ p.var ≤ 5
  · have HD := Lib.hid (dec_t hv)
    rw [HD.out, Bool.true_and] at HQ
    clear hv
    go_enter Try.func124, Try.ntmps124
    go_wp2_with fail
    rw [HW.out]
    go_region_held3 (fun w' => w'.cell? ⟨w.heap.size, 0, none⟩ = some (.int .i64 t.data) ∧ w'.cell? ⟨w.heap.size, 1, none⟩ = some (.int .i64 t.index) ∧ w'.cell? ⟨w.heap.size + 1, 0, none⟩ = some (.int .i64 p.op) ∧ w'.cell? ⟨w.heap.size + 1, 1, none⟩ = some (.int .i64 p.ctor) ∧ w'.cell? ⟨w.heap.size + 1, 2, none⟩ = some (.int .i64 p.n) ∧ w'.cell? ⟨w.heap.size + 1, 3, none⟩ = some (.int .i64 p.m) ∧ w'.cell? ⟨w.heap.size + 1, 4, none⟩ = some (.int .i64 p.var) ∧ w'.cell? ⟨w.heap.size + 1, 5, none⟩ = some (.slice D p.kids.length ep)) (first | with_reducible exact SQ | with_reducible exact SQ1 | with_reducible exact (HKS.out _ (hb2.alloc hb2.size _))) (first | (go_at_call 73; (with_reducible refine (same_any p.op p.ctor p.n p.m p.var 6 0 0 0 p.var D none p.kids.length ep 0 0 w0.drew).mono ?_); rintro e2 w2 ⟨rfl, hb2'⟩; have hb2 : Below w0.heap.size w0 w2 := ⟨hb2'.os, hb2'.tape, hb2'.output, hb2'.size, hb2'.block⟩; have SQ := HKS.out w2 hb2; clear hb2') | (go_at_call 73; (with_reducible refine (same_any p.op p.ctor p.n p.m p.var 6 0 0 0 p.var D none p.kids.length ep 0 0 ((w0.alloc (.cells #[.int .i64 t.data, .int .i64 t.index] 25)).drew)).mono ?_); rintro e2 w2 ⟨rfl, hb2'⟩; have hb2 : Below w0.heap.size w0 w2 := (((Below.refl _ w0).alloc (Nat.le_refl _) _).drew).trans (hb2'.mono (by simp)); have HOZ : Hid (OTys w2 w.heap.size (.slice (some ⟨w0.heap.size, 0, none⟩) 1 1) [t] 1) := OTys.lower ((one_tys w0 t).keptV2 (fun b e => hb2'.block b ((one_tys w0 t).own b e).2)) hb0.size; have SQ := HKS.out w2 hb2; clear hb2') | (go_at_call 143; (with_reducible refine (isVar_any _ _).mono ?_); rw [HD.out]; rintro e1 w1 ⟨rfl, rfl⟩))
    all_goals
      go_wp2_with fail
      go_ret2
      first
      | exact HQ.out _ _ HOZ.out (below_aft hb0 hb2 hb0.size)
      | exact HQ.out _ _ ((one_tys w2 t).lower (below_aft hb0 hb2 hb0.size).size) ((below_aft hb0 hb2 hb0.size).alloc (below_aft hb0 hb2 hb0.size).size _)
  · have HD := Lib.hid (dec_f hv)
    rw [HD.out, Bool.false_and] at HQ
    clear hv
    go_enter Try.func124, Try.ntmps124
    go_wp2_with fail
    rw [HW.out]
    refine wp_region_held_drew (S := fun w' => w'.cell? ⟨w.heap.size, 0, none⟩ = some (.int .i64 t.data) ∧ w'.cell? ⟨w.heap.size, 1, none⟩ = some (.int .i64 t.index) ∧ w'.cell? ⟨w.heap.size + 1, 0, none⟩ = some (.int .i64 p.op) ∧ w'.cell? ⟨w.heap.size + 1, 1, none⟩ = some (.int .i64 p.ctor) ∧ w'.cell? ⟨w.heap.size + 1, 2, none⟩ = some (.int .i64 p.n) ∧ w'.cell? ⟨w.heap.size + 1, 3, none⟩ = some (.int .i64 p.m) ∧ w'.cell? ⟨w.heap.size + 1, 4, none⟩ = some (.int .i64 p.var) ∧ w'.cell? ⟨w.heap.size + 1, 5, none⟩ = some (.slice D p.kids.length ep)) (by kernel_rfl) SQ (fun hHeld => ?_)
    refine held_take (i := 0) (d := some 89) (v := .agg #[.int .i64 t.data, .int .i64 t.index]) (ls' := #[true, false, false, false, false, false, false, false, false, false, false, false, false, false]) rfl rfl (by kernel_rfl) (by kernel_rfl) (by kernel_rfl) (fun _ _ _ h => h) hHeld rfl (Or.inl ⟨by rfl, fun wq hSw => ?_⟩) ?_
    · obtain ⟨hs0, hs1, hs2, hs3, hs4, hs5, hs6, hs7⟩ := hSw
      go_simp
    simp only [Act.put, List.setIfInBounds_toArray, List.set_cons_zero, List.set_cons_succ]
    refine held_take (i := 2) (d := some 91) (v := .pointer (some ⟨w.heap.size + 1, 4, none⟩)) (ls' := #[true, false, true, false, false, false, false, false, false, false, false, false, false, false]) rfl rfl (by kernel_rfl) (by kernel_rfl) (by kernel_rfl) (fun _ _ _ h => h) hHeld rfl (Or.inl ⟨by rfl, fun wq hSw => ?_⟩) ?_
    · obtain ⟨hs0, hs1, hs2, hs3, hs4, hs5, hs6, hs7⟩ := hSw
      go_simp
    simp only [Act.put, List.setIfInBounds_toArray, List.set_cons_zero, List.set_cons_succ]
    refine held_take (i := 3) (d := some 92) (v := .int .i64 p.var) (ls' := #[true, false, true, true, false, false, false, false, false, false, false, false, false, false]) rfl rfl (by kernel_rfl) (by kernel_rfl) (by kernel_rfl) (fun _ _ _ h => h) hHeld rfl (Or.inl ⟨by rfl, fun wq hSw => ?_⟩) ?_
    · obtain ⟨hs0, hs1, hs2, hs3, hs4, hs5, hs6, hs7⟩ := hSw
      go_simp
    simp only [Act.put, List.setIfInBounds_toArray, List.set_cons_zero, List.set_cons_succ]
    refine wpAnyH_ready (rs := [1, 4]) (by kernel_rfl) (by simp) ?_
    refine AllReadyH.cons (o := _) rfl (fun K hK => ?_) ?_
    · have tokA : True := trivial
      go_simp
      refine hK.out _ _ SQ1 (fun hHeld => ?_)
      clear hK K
      simp only [List.setIfInBounds_toArray, List.set_cons_zero, List.set_cons_succ]
      refine wpAnyH_ready (rs := [4]) (by kernel_rfl) (by simp) ?_
      refine AllReadyH.cons (o := _) rfl (fun K hK => ?_) AllReadyH.nil
      go_simp
      go_at_call 143
      (with_reducible refine (isVar_any _ _).mono ?_)
      rw [HD.out]
      rintro e1 w1 ⟨rfl, rfl⟩
      go_wp2_with fail
      refine hK.out _ _ SQ1 (fun hHeld => ?_)
      clear hK K
      simp only [List.setIfInBounds_toArray, List.set_cons_zero, List.set_cons_succ]
      refine held_take (i := 5) (d := some 94) (v := .bool false) (ls' := #[true, true, true, true, true, true, false, false, false, false, false, false, false, false]) rfl rfl (by kernel_rfl) (by kernel_rfl) (by kernel_rfl) (fun _ _ _ h => h) hHeld rfl (Or.inl ⟨by rfl, fun wq hSw => ?_⟩) ?_
      · obtain ⟨hs0, hs1, hs2, hs3, hs4, hs5, hs6, hs7⟩ := hSw
        go_simp
      simp only [Act.put, List.setIfInBounds_toArray, List.set_cons_zero, List.set_cons_succ]
      refine held_take (i := 6) (d := some 95) (v := undef) (ls' := #[true, true, true, true, true, true, true, false, false, false, false, false, false, false]) rfl rfl (by kernel_rfl) (by kernel_rfl) (by kernel_rfl) (fun _ _ _ h => h) hHeld rfl (Or.inr ⟨by rfl, rfl⟩) ?_
      simp only [Act.put, List.setIfInBounds_toArray, List.set_cons_zero, List.set_cons_succ]
      refine held_take (i := 7) (d := some 96) (v := undef) (ls' := #[true, true, true, true, true, true, true, true, false, false, false, false, false, false]) rfl rfl (by kernel_rfl) (by kernel_rfl) (by kernel_rfl) (fun _ _ _ h => h) hHeld rfl (Or.inr ⟨by rfl, rfl⟩) ?_
      simp only [Act.put, List.setIfInBounds_toArray, List.set_cons_zero, List.set_cons_succ]
      refine held_take (i := 8) (d := some 97) (v := undef) (ls' := #[true, true, true, true, true, true, true, true, true, false, false, false, false, false]) rfl rfl (by kernel_rfl) (by kernel_rfl) (by kernel_rfl) (fun _ _ _ h => h) hHeld rfl (Or.inr ⟨by rfl, rfl⟩) ?_
      simp only [Act.put, List.setIfInBounds_toArray, List.set_cons_zero, List.set_cons_succ]
      refine held_take (i := 9) (d := some 98) (v := undef) (ls' := #[true, true, true, true, true, true, true, true, true, true, false, false, false, false]) rfl rfl (by kernel_rfl) (by kernel_rfl) (by kernel_rfl) (fun _ _ _ h => h) hHeld rfl (Or.inr ⟨by rfl, rfl⟩) ?_
      simp only [Act.put, List.setIfInBounds_toArray, List.set_cons_zero, List.set_cons_succ]
      refine held_take (i := 10) (d := some 99) (v := undef) (ls' := #[true, true, true, true, true, true, true, true, true, true, true, false, false, false]) rfl rfl (by kernel_rfl) (by kernel_rfl) (by kernel_rfl) (fun _ _ _ h => h) hHeld rfl (Or.inr ⟨by rfl, rfl⟩) ?_
      simp only [Act.put, List.setIfInBounds_toArray, List.set_cons_zero, List.set_cons_succ]
      refine held_take (i := 12) (d := some 6) (v := .slice (some ⟨w0.heap.size, 0, none⟩) 1 1) (ls' := #[true, true, true, true, true, true, true, true, true, true, true, false, true, false]) rfl rfl (by kernel_rfl) (by kernel_rfl) (by kernel_rfl) (fun _ _ _ h => h) hHeld rfl (Or.inl ⟨by rfl, fun wq hSw => ?_⟩) ?_
      · obtain ⟨hs0, hs1, hs2, hs3, hs4, hs5, hs6, hs7⟩ := hSw
        go_simp
      simp only [Act.put, List.setIfInBounds_toArray, List.set_cons_zero, List.set_cons_succ]
      refine held_take (i := 11) (d := some 100) (v := .bool false) (ls' := #[true, true, true, true, true, true, true, true, true, true, true, true, true, false]) rfl rfl (by kernel_rfl) (by kernel_rfl) (by kernel_rfl) (fun _ _ _ h => h) hHeld rfl (Or.inl ⟨by rfl, fun wq hSw => ?_⟩) ?_
      · obtain ⟨hs0, hs1, hs2, hs3, hs4, hs5, hs6, hs7⟩ := hSw
        go_simp
      simp only [Act.put, List.setIfInBounds_toArray, List.set_cons_zero, List.set_cons_succ]
      refine held_take (i := 13) (d := some 7) (v := .bool false) (ls' := #[true, true, true, true, true, true, true, true, true, true, true, true, true, true]) rfl rfl (by kernel_rfl) (by kernel_rfl) (by kernel_rfl) (fun _ _ _ h => h) hHeld rfl (Or.inl ⟨by rfl, fun wq hSw => ?_⟩) ?_
      · obtain ⟨hs0, hs1, hs2, hs3, hs4, hs5, hs6, hs7⟩ := hSw
        go_simp
      simp only [Act.put, List.setIfInBounds_toArray, List.set_cons_zero, List.set_cons_succ]
      refine wpAnyH_done (by kernel_rfl) ?_ _
      go_wp2_with fail
      go_ret2
      exact HQ.out _ _ ((one_tys w0 t).lower hb0.size) ((hb0.alloc hb0.size _).drew)
    refine AllReadyH.cons (o := _) rfl (fun K hK => ?_) AllReadyH.nil
    go_simp
    go_at_call 143
    (with_reducible refine (isVar_any _ _).mono ?_)
    rw [HD.out]
    rintro e1 w1 ⟨rfl, rfl⟩
    go_wp2_with fail
    refine hK.out _ _ SQ (fun hHeld => ?_)
    clear hK K
    simp only [List.setIfInBounds_toArray, List.set_cons_zero, List.set_cons_succ]
    refine held_take (i := 5) (d := some 94) (v := .bool false) (ls' := #[true, false, true, true, true, true, false, false, false, false, false, false, false, false]) rfl rfl (by kernel_rfl) (by kernel_rfl) (by kernel_rfl) (fun _ _ _ h => h) hHeld rfl (Or.inl ⟨by rfl, fun wq hSw => ?_⟩) ?_
    · obtain ⟨hs0, hs1, hs2, hs3, hs4, hs5, hs6, hs7⟩ := hSw
      go_simp
    simp only [Act.put, List.setIfInBounds_toArray, List.set_cons_zero, List.set_cons_succ]
    refine held_take (i := 6) (d := some 95) (v := undef) (ls' := #[true, false, true, true, true, true, true, false, false, false, false, false, false, false]) rfl rfl (by kernel_rfl) (by kernel_rfl) (by kernel_rfl) (fun _ _ _ h => h) hHeld rfl (Or.inr ⟨by rfl, rfl⟩) ?_
    simp only [Act.put, List.setIfInBounds_toArray, List.set_cons_zero, List.set_cons_succ]
    refine held_take (i := 7) (d := some 96) (v := undef) (ls' := #[true, false, true, true, true, true, true, true, false, false, false, false, false, false]) rfl rfl (by kernel_rfl) (by kernel_rfl) (by kernel_rfl) (fun _ _ _ h => h) hHeld rfl (Or.inr ⟨by rfl, rfl⟩) ?_
    simp only [Act.put, List.setIfInBounds_toArray, List.set_cons_zero, List.set_cons_succ]
    refine held_take (i := 8) (d := some 97) (v := undef) (ls' := #[true, false, true, true, true, true, true, true, true, false, false, false, false, false]) rfl rfl (by kernel_rfl) (by kernel_rfl) (by kernel_rfl) (fun _ _ _ h => h) hHeld rfl (Or.inr ⟨by rfl, rfl⟩) ?_
    simp only [Act.put, List.setIfInBounds_toArray, List.set_cons_zero, List.set_cons_succ]
    refine held_take (i := 9) (d := some 98) (v := undef) (ls' := #[true, false, true, true, true, true, true, true, true, true, false, false, false, false]) rfl rfl (by kernel_rfl) (by kernel_rfl) (by kernel_rfl) (fun _ _ _ h => h) hHeld rfl (Or.inr ⟨by rfl, rfl⟩) ?_
    simp only [Act.put, List.setIfInBounds_toArray, List.set_cons_zero, List.set_cons_succ]
    refine held_take (i := 10) (d := some 99) (v := undef) (ls' := #[true, false, true, true, true, true, true, true, true, true, true, false, false, false]) rfl rfl (by kernel_rfl) (by kernel_rfl) (by kernel_rfl) (fun _ _ _ h => h) hHeld rfl (Or.inr ⟨by rfl, rfl⟩) ?_
    simp only [Act.put, List.setIfInBounds_toArray, List.set_cons_zero, List.set_cons_succ]
    refine held_take (i := 11) (d := some 100) (v := .bool false) (ls' := #[true, false, true, true, true, true, true, true, true, true, true, true, false, false]) rfl rfl (by kernel_rfl) (by kernel_rfl) (by kernel_rfl) (fun _ _ _ h => h) hHeld rfl (Or.inl ⟨by rfl, fun wq hSw => ?_⟩) ?_
    · obtain ⟨hs0, hs1, hs2, hs3, hs4, hs5, hs6, hs7⟩ := hSw
      go_simp
    simp only [Act.put, List.setIfInBounds_toArray, List.set_cons_zero, List.set_cons_succ]
    refine wpAnyH_ready (rs := [1]) (by kernel_rfl) (by simp) ?_
    refine AllReadyH.cons (o := _) rfl (fun K hK => ?_) AllReadyH.nil
    go_simp
    refine hK.out _ _ SQ1 (fun hHeld => ?_)
    clear hK K
    simp only [List.setIfInBounds_toArray, List.set_cons_zero, List.set_cons_succ]
    refine held_take (i := 12) (d := some 6) (v := .slice (some ⟨w0.heap.size, 0, none⟩) 1 1) (ls' := #[true, true, true, true, true, true, true, true, true, true, true, true, true, false]) rfl rfl (by kernel_rfl) (by kernel_rfl) (by kernel_rfl) (fun _ _ _ h => h) hHeld rfl (Or.inl ⟨by rfl, fun wq hSw => ?_⟩) ?_
    · obtain ⟨hs0, hs1, hs2, hs3, hs4, hs5, hs6, hs7⟩ := hSw
      go_simp
    simp only [Act.put, List.setIfInBounds_toArray, List.set_cons_zero, List.set_cons_succ]
    refine held_take (i := 13) (d := some 7) (v := .bool false) (ls' := #[true, true, true, true, true, true, true, true, true, true, true, true, true, true]) rfl rfl (by kernel_rfl) (by kernel_rfl) (by kernel_rfl) (fun _ _ _ h => h) hHeld rfl (Or.inl ⟨by rfl, fun wq hSw => ?_⟩) ?_
    · obtain ⟨hs0, hs1, hs2, hs3, hs4, hs5, hs6, hs7⟩ := hSw
      go_simp
    simp only [Act.put, List.setIfInBounds_toArray, List.set_cons_zero, List.set_cons_succ]
    refine wpAnyH_done (by kernel_rfl) ?_ _
    go_wp2_with fail
    go_ret2
    exact HQ.out _ _ ((one_tys w0 t).lower hb0.size) ((hb0.alloc hb0.size _).drew)
end Go.Proofs.Yteoopmogklpnoaa
/-
  The program's walk over a pattern: what it keeps. No statement is proved here.
-/
namespace Go.Proofs.Yteoopmogklpnoaa
open Go.RowKit Go.Sort Go.Deep
set_option maxRecDepth 100000
set_option linter.unusedVariables false
theorem kt_any (A D : Option Addr) (l : List Da) (cap ep : Nat) (t : Ty) (p : Pt) (w : World) (hr : RDas w w.heap.size A l) (ht : TyOK l t) : Calls Try.prog 124 #[.slice A l.length cap, .agg #[.int .i64 t.data, .int .i64 t.index], .agg #[.int .i64 p.op, .int .i64 p.ctor, .int .i64 p.n, .int .i64 p.m, .int .i64 p.var, .slice D p.kids.length ep]] w (KtQ l t p w) := by
  by_cases h1 : p.op = 1
  · exact kt_1 A D l cap ep t p w hr ht h1
  by_cases h2 : p.op = 2
  · exact kt_2 A D l cap ep t p w hr ht h2
  by_cases h3 : p.op = 3
  · exact kt_3 A D l cap ep t p w hr ht h3
  by_cases h4 : p.op = 4
  · exact kt_4 A D l cap ep t p w hr ht h4
  by_cases h5 : p.op = 5
  · exact kt_5 A D l cap ep t p w hr ht h5
  by_cases h6 : p.op = 6
  · exact kt_6 A D l cap ep t p w hr ht h6
  exact kt_x A D l cap ep t p w hr ht h1 h2 h3 h4 h5 h6
/-- The walk's own struct: the world and the counter. -/
def CkB (w : World) (lo g : Nat) (A : Option Addr) (len cap n : Nat) : Prop := w.ownsRow lo 159 2 (.slice (some ⟨g, 0, none⟩) 1 1) 1 [.slice A len cap, .int .i64 n]
section
variable {w w' : World} {lo g : Nat} {A : Option Addr} {len cap n : Nat}
theorem CkB.ge (h : CkB w lo g A len cap n) : lo ≤ g := (World.ownsRow.lt h g rfl).1
theorem CkB.lt (h : CkB w lo g A len cap n) : g < w.heap.size := (World.ownsRow.lt h g rfl).2
theorem CkB.c0 (h : CkB w lo g A len cap n) : w.cell? ⟨g, 0, none⟩ = some (.slice A len cap) := World.ownsRow.cellAt h 0 (by omega)
theorem CkB.c1 (h : CkB w lo g A len cap n) : w.cell? ⟨g, 1, none⟩ = some (.int .i64 n) := World.ownsRow.cellAt h 1 (by omega)
theorem CkB.f1 (h : CkB w lo g A len cap n) : w.frozen? ⟨g, 1, none⟩ = false := World.ownsRow.frozenAt h 1
theorem CkB.keep (h : CkB w lo g A len cap n) (hk : w'.heap[g]? = w.heap[g]?) : CkB w' lo g A len cap n := own_at h (fun b e => by injection e with e; subst e; exact hk)
theorem CkB.inc (h : CkB w lo g A len cap n) : CkB (w.setCell ⟨g, 1, none⟩ (.int .i64 (n + 1 : Nat))) lo g A len cap (n + 1) := (World.ownsRow.stored h 1 (.int .i64 (n + 1 : Nat))).1
theorem CkB.incg (h : CkB w lo g A len cap n) (u : Value) : w.grownBy (w.setCell ⟨g, 1, none⟩ u) (some g) := (World.ownsRow.stored h 1 u).2
end
/-- What the first k rounds have put into the row of lists. -/
def KRow (w : World) (lo : Nat) (F : Nat → List Vt) (xs : List Value) (k : Nat) : Prop := ∀ j, j < k → ∃ v, xs[j]? = some v ∧ OVt w lo v (F j)
theorem KRow.zero (w : World) (lo : Nat) (F : Nat → List Vt) (xs : List Value) : KRow w lo F xs 0 := fun j h => absurd h (Nat.not_lt_zero _)
theorem KRow.keep {w w' : World} {lo : Nat} {F : Nat → List Vt} {xs : List Value} {k : Nat} (h : KRow w lo F xs k) (hk : ∀ b, lo ≤ b → b < w.heap.size → w'.heap[b]? = w.heap[b]?) : KRow w' lo F xs k := fun j hj => by
  obtain ⟨v, e, ho⟩ := h j hj
  exact ⟨v, e, ho.keep (fun b e => hk b (ho.lt b e).1 (ho.lt b e).2)⟩
theorem KRow.step {w : World} {lo : Nat} {F : Nat → List Vt} {xs : List Value} {k : Nat} (h : KRow w lo F xs k) (hk : k < xs.length) {v : Value} (ho : OVt w lo v (F k)) : KRow w lo F (xs.set k v) (k + 1) := fun j hj => by
  by_cases e : j = k
  · subst e; exact ⟨v, by rw [List.getElem?_set_self hk], ho⟩
  · obtain ⟨u, e1, e2⟩ := h j (by omega)
    exact ⟨u, by rw [List.getElem?_set_ne (by omega)]; exact e1, e2⟩
def LsRow (w : World) (lo : Nat) (LL : List (List Vt)) (xs : List Value) : Prop := ∀ j (h : j < LL.length), ∃ v, xs[j]? = some v ∧ OVt w lo v LL[j]
theorem KRow.all {w : World} {lo : Nat} {F : Nat → List Vt} {xs : List Value} {k : Nat} (h : KRow w lo F xs k) : LsRow w lo (lisV F k) xs := fun j hj => by
  obtain ⟨v, e, ho⟩ := h j (by rw [lisV_len] at hj; exact hj)
  exact ⟨v, e, by rw [lisV_at]; exact ho⟩
theorem LsRow.keep {w w' : World} {lo : Nat} {LL : List (List Vt)} {xs : List Value} (h : LsRow w lo LL xs) (hk : ∀ b, lo ≤ b → b < w.heap.size → w'.heap[b]? = w.heap[b]?) : LsRow w' lo LL xs := fun j hj => by
  obtain ⟨v, e, ho⟩ := h j hj
  exact ⟨v, e, ho.keep (fun b e => hk b (ho.lt b e).1 (ho.lt b e).2)⟩
theorem LsRow.cons {w : World} {lo : Nat} {LL : List (List Vt)} {xs : List Value} (h : LsRow w lo LL xs) {v : Value} {L : List Vt} (ho : OVt w lo v L) : LsRow w lo (L :: LL) (v :: xs) := fun j hj => by
  match j, hj with
  | 0, _ => exact ⟨v, rfl, ho⟩
  | j + 1, hj =>
    obtain ⟨u, e, h2⟩ := h j (by simpa using hj)
    exact ⟨u, by simpa using e, by simpa using h2⟩
theorem rls_of {w : World} {base lo : Nat} {v : Value} {LL : List (List Vt)} {xs : List Value} {n : Nat} (ho : w.ownsRow base 53 1 v n xs) (hx : LsRow w lo LL xs) (hl : LL.length = n) (hn : n ≤ maxLen) : ∃ A c, v = .slice A LL.length c ∧ RLs w w.heap.size A LL := by
  subst hl
  have hc := fun g (hg : v.ownBlock = some g) => ho.cells hg
  rcases ho.2 with ⟨rfl, h0⟩ | ⟨g, cap, cur, rfl, hb, hg, _⟩
  · exact ⟨none, 0, by rw [h0], hn, fun k hk => absurd hk (by omega)⟩
  · refine ⟨_, cap, rfl, hn, fun k hk => ?_⟩
    obtain ⟨u, e, h2⟩ := hx k hk
    exact ⟨g, 0, u, rfl, heap_lt hg, by have := hc g rfl k u e; rw [Addr.add_lit] at this; exact this, h2.lower (Nat.zero_le _)⟩
/-- What the walk hands back. -/
def VoQ (l : List Da) (d : Nat) (t : Ty) (p : Pt) (lo g : Nat) (A : Option Addr) (cap n : Nat) (w : World) (b : Bool) (e : Ending) (w' : World) : Prop := ∃ A' n' c', e = .returned (.tuple #[.slice A' n' c', .bool b]) ∧ (b = true → OVt w' w.heap.size (.slice A' n' c') (vrP l d t p) ∧ CkB w' lo g A l.length cap (n + (1 + wP p))) ∧ w.grownBy w' (some g)
def VoZ (l : List Da) (d : Nat) (z : Int) : Prop := ∀ (A D : Option Addr) (cap ep e lo g n : Nat) (t : Ty) (p : Pt) (w : World), RDas w lo A l → TyOK l t → RPs e w lo D p.kids → CkB w lo g A l.length cap n → n ≤ 60 →
  Calls Try.prog 101 #[.pointer (some ⟨g, 0, none⟩), .agg #[.int .i64 t.data, .int .i64 t.index], .agg #[.int .i64 p.op, .int .i64 p.ctor, .int .i64 p.n, .int .i64 p.m, .int .i64 p.var, .slice D p.kids.length ep], .int .i64 z] w (VoQ l d t p lo g A cap n w (okP l d t p n))
theorem VoZ.known {l : List Da} {d : Nat} {z : Int} (h : VoZ l d z) (A D : Option Addr) (cap ep e lo g n : Nat) (t : Ty) (p : Pt) (b : Bool) (w : World) (hf : okP l d t p n = b) (hr : RDas w lo A l) (ht : TyOK l t) (hv : RPs e w lo D p.kids) (hc : CkB w lo g A l.length cap n) (hn : n ≤ 60) :
    Calls Try.prog 101 #[.pointer (some ⟨g, 0, none⟩), .agg #[.int .i64 t.data, .int .i64 t.index], .agg #[.int .i64 p.op, .int .i64 p.ctor, .int .i64 p.n, .int .i64 p.m, .int .i64 p.var, .slice D p.kids.length ep], .int .i64 z] w (VoQ l d t p lo g A cap n w b) := by
  rw [← hf]; exact h A D cap ep e lo g n t p w hr ht hv hc hn
theorem VoQ.no {l : List Da} {d : Nat} {t : Ty} {p : Pt} {lo g cap n : Nat} {A : Option Addr} {w w' : World} {b : Bool} (hb : b = false) (h : w.grownBy w' (some g)) : VoQ l d t p lo g A cap n w b (.returned (.tuple #[.slice none 0 0, .bool false])) w' := ⟨none, 0, 0, by rw [hb], (fun e => by rw [hb] at e; cases e), h⟩
theorem VoQ.yes {l : List Da} {d : Nat} {t : Ty} {p : Pt} {lo g cap n : Nat} {A : Option Addr} {w w' : World} {v : Value} {b b' : Bool} (hb : b = b') {L : List Vt} (hL : vrP l d t p = L) (hn : L.length ≤ maxLen) (ho : OVt w' w.heap.size v L) (hc : CkB w' lo g A l.length cap (n + (1 + wP p))) (h : w.grownBy w' (some g)) : VoQ l d t p lo g A cap n w b (.returned (.tuple #[v, .bool b'])) w' := by
  obtain ⟨A', c', rfl, _⟩ := ho.form hn
  exact ⟨A', _, c', by rw [hb], fun _ => ⟨by rw [hL]; exact ho, hc⟩, h⟩
theorem grown_below2 {w w1 w2 : World} {r : Option Nat} {B : Nat} (h : w.grownBy w1 r) (hb : Below B w1 w2) (hB : w.heap.size ≤ B) : w.grownBy w2 r :=
  ⟨hb.os.trans h.os, hb.tape.trans h.tape, hb.output.trans h.output, Nat.le_trans h.size hb.size, fun i hi hne => (hb.block i (by omega)).trans (h.block i hi hne)⟩
theorem grown_fr {w w1 w2 : World} {g gl : Nat} (h : w.grownBy w1 (some g)) (hf : Fr (fun b => b = g ∨ b = gl) w1 w2) (hgl : w.heap.size ≤ gl) : w.grownBy w2 (some g) :=
  ⟨hf.1.trans h.os, hf.2.1.trans h.tape, hf.2.2.1.trans h.output, Nat.le_trans h.size hf.size, fun i hi hne => (hf.2.2.2.2 i (by have := h.size; omega) (fun e => by
    rcases e with e | e
    · exact hne (by rw [e])
    · omega)).trans (h.block i hi hne)⟩
end Go.Proofs.Yteoopmogklpnoaa
