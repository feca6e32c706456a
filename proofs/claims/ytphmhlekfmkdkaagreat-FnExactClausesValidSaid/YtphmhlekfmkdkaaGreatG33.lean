/-
  The types of the parts of a pattern: the program's function. No statement is proved here.
-/
import Derived.Test.YtphmhlekfmkdkaaGreatG32
import Derived.Test.YtphmhlekfmkdkaaGreatG27
namespace Go.Proofs.YtphmhlekfmkdkaaGreat
open Go.RowKit Go.Sort Go.Deep
set_option maxRecDepth 100000
set_option linter.unusedVariables false

section
variable {P : Program} {ops : Array Oper} {Q : Exit → Act → World → Prop} {md : Region.Mode} {S : World → Prop}
theorem held_take {i : Nat} {oi : Oper} {d : Option Tmp} {v : Value} {n : Nat} {ls ls' : Array Bool} {a : Act} {w : World} (hi : ops[i]? = some oi) (hd : ops[i]?.map (fun o => o.dst) = some d) (hs : Region.noSelect ops = true) (hf : Region.free md ops ls i = true)
    (hr : (Region.ready md ops ls).contains i = true) (hQ : ∀ c a w, Q (.panic c) (a.put d v) w → Q (.panic c) a w) (hS : S w) (hl : ls.setIfInBounds i true = ls') (hy : YieldsIf P ops S oi v a)
    (h : wpAnyH P md ops Q S n ls' (a.put d v) w) : wpAnyH P md ops Q S (n + 1) ls a w := by
  have e : oi.dst = d := by rw [hi] at hd; injection hd
  subst e hl
  exact wpAnyH_take hi hs hf hr hQ hy hS h
end

set_option maxHeartbeats 3000000 in
theorem kt_6 (A D : Option Addr) (l : List Da) (cap ep : Nat) (t : Ty) (p : Pt) (w : World) (hr : RDas w w.heap.size A l) (ht : TyOK l t) (h6 : p.op = 6) : Calls Tryz.prog 152 #[.slice A l.length cap, .agg #[.int .i64 t.data, .int .i64 t.index], .agg #[.int .i64 p.op, .int .i64 p.ctor, .int .i64 p.n, .int .i64 p.m, .int .i64 p.var, .slice D p.kids.length ep]] w (KtQ l t p w) := by
  have u1 : (p.op == 1) = false := ieq_f (by omega)
  have u2 : (p.op == 2) = false := ieq_f (by omega)
  have u3 : (p.op == 3) = false := ieq_f (by omega)
  have u4 : (p.op == 4) = false := ieq_f (by omega)
  have u5 : (p.op == 5) = false := ieq_f (by omega)
  have u6 := ieq_t h6
  have HO := Lib.hid (own6 (l := l) (t := t) h6)
  have HTY : Hid (tysP l t p = [t]) := by unfold Hid; rw [tysP_other (by omega), h6]; rfl
  have HQ : Hid (∀ w' v, OTys w' w.heap.size v [t] 1 → Below w.heap.size w w' → KtQ l t p w (.returned (.tuple #[v, .bool (dec (0 ≤ p.var ∧ p.var ≤ 5) && dec (SameF p.op p.ctor p.n p.m p.var 6 0 0 0 p.var))])) w') := fun w' v h hb => ⟨v, by rw [HO.out], fun _ => by rw [HTY.out]; exact h, hb⟩
  clear hr ht h6
  generalize hw0 : (w.alloc (.cells #[.int .i64 t.data, .int .i64 t.index] 31)).alloc (.cells #[.int .i64 p.op, .int .i64 p.ctor, .int .i64 p.n, .int .i64 p.m, .int .i64 p.var, .slice D p.kids.length ep] 51) = w0
  have hb0 := below_box2 hw0
  have HXT : Hid (Bx w0 w.heap.size t) := by rw [← hw0]; exact ⟨by simp [go_sem], by simp [go_sem]⟩
  have HXP : Hid (PBx w0 (w.heap.size + 1) p (.slice D p.kids.length ep)) := by rw [← hw0]; exact ⟨by simp [go_sem], by simp [go_sem], by simp [go_sem], by simp [go_sem], by simp [go_sem], by simp [go_sem]⟩
  have HW := Lib.hid hw0
  clear hw0
  have HKS : Hid (∀ w', Below w0.heap.size w0 w' → w'.cell? ⟨w.heap.size, 0, none⟩ = some (.int .i64 t.data) ∧ w'.cell? ⟨w.heap.size, 1, none⟩ = some (.int .i64 t.index) ∧ w'.cell? ⟨w.heap.size + 1, 0, none⟩ = some (.int .i64 p.op) ∧ w'.cell? ⟨w.heap.size + 1, 1, none⟩ = some (.int .i64 p.ctor) ∧ w'.cell? ⟨w.heap.size + 1, 2, none⟩ = some (.int .i64 p.n) ∧ w'.cell? ⟨w.heap.size + 1, 3, none⟩ = some (.int .i64 p.m) ∧ w'.cell? ⟨w.heap.size + 1, 4, none⟩ = some (.int .i64 p.var) ∧ w'.cell? ⟨w.heap.size + 1, 5, none⟩ = some (.slice D p.kids.length ep)) := fun w' h => ⟨(HXT.out.at_ h).1, (HXT.out.at_ h).2, HXP.out.at_ h⟩
  have SQ := HKS.out w0.drew (Below.refl _ w0).drew
  have SQ1 := HKS.out ((w0.alloc (.cells #[.int .i64 t.data, .int .i64 t.index] 31)).drew) ((Below.refl _ w0).alloc (Nat.le_refl _) _).drew
  have y0 := HXP.out.1
  by_cases hv : 0 ≤ p.var ∧ p.var ≤ 5
  · have HD := Lib.hid (dec_t hv)
    rw [HD.out, Bool.true_and] at HQ
    clear hv
    go_enter Tryz.func152, Tryz.ntmps152
    go_wp2_with fail
    rw [HW.out]
    go_region_held3 (fun w' => w'.cell? ⟨w.heap.size, 0, none⟩ = some (.int .i64 t.data) ∧ w'.cell? ⟨w.heap.size, 1, none⟩ = some (.int .i64 t.index) ∧ w'.cell? ⟨w.heap.size + 1, 0, none⟩ = some (.int .i64 p.op) ∧ w'.cell? ⟨w.heap.size + 1, 1, none⟩ = some (.int .i64 p.ctor) ∧ w'.cell? ⟨w.heap.size + 1, 2, none⟩ = some (.int .i64 p.n) ∧ w'.cell? ⟨w.heap.size + 1, 3, none⟩ = some (.int .i64 p.m) ∧ w'.cell? ⟨w.heap.size + 1, 4, none⟩ = some (.int .i64 p.var) ∧ w'.cell? ⟨w.heap.size + 1, 5, none⟩ = some (.slice D p.kids.length ep)) (first | with_reducible exact SQ | with_reducible exact SQ1 | with_reducible exact (HKS.out _ (hb2.alloc hb2.size _))) (first | (go_at_call 171; (with_reducible refine (same_any p.op p.ctor p.n p.m p.var 6 0 0 0 p.var D none p.kids.length ep 0 0 w0.drew).mono ?_); rintro e2 w2 ⟨rfl, hb2'⟩; have hb2 : Below w0.heap.size w0 w2 := ⟨hb2'.os, hb2'.tape, hb2'.output, hb2'.size, hb2'.block⟩; have SQ := HKS.out w2 hb2; clear hb2') | (go_at_call 171; (with_reducible refine (same_any p.op p.ctor p.n p.m p.var 6 0 0 0 p.var D none p.kids.length ep 0 0 ((w0.alloc (.cells #[.int .i64 t.data, .int .i64 t.index] 31)).drew)).mono ?_); rintro e2 w2 ⟨rfl, hb2'⟩; have hb2 : Below w0.heap.size w0 w2 := (((Below.refl _ w0).alloc (Nat.le_refl _) _).drew).trans (hb2'.mono (by simp)); have HOZ : Hid (OTys w2 w.heap.size (.slice (some ⟨w0.heap.size, 0, none⟩) 1 1) [t] 1) := OTys.lower ((one_tys w0 t).kept2 (fun b e => hb2'.block b ((one_tys w0 t).own b e).2)) hb0.size; have SQ := HKS.out w2 hb2; clear hb2') | (go_at_call 172; (with_reducible refine (isVar_any _ _).mono ?_); rw [HD.out]; rintro e1 w1 ⟨rfl, rfl⟩))
    all_goals
      go_wp2_with fail
      go_ret2
      first
      | exact HQ.out _ _ HOZ.out (below_aft hb0 hb2 hb0.size)
      | exact HQ.out _ _ ((one_tys w2 t).lower (below_aft hb0 hb2 hb0.size).size) ((below_aft hb0 hb2 hb0.size).alloc (below_aft hb0 hb2 hb0.size).size _)
  · have HD := Lib.hid (dec_f hv)
    rw [HD.out, Bool.false_and] at HQ
    clear hv
    go_enter Tryz.func152, Tryz.ntmps152
    go_wp2_with fail
    rw [HW.out]
    refine wp_region_held_drew (S := fun w' => w'.cell? ⟨w.heap.size, 0, none⟩ = some (.int .i64 t.data) ∧ w'.cell? ⟨w.heap.size, 1, none⟩ = some (.int .i64 t.index) ∧ w'.cell? ⟨w.heap.size + 1, 0, none⟩ = some (.int .i64 p.op) ∧ w'.cell? ⟨w.heap.size + 1, 1, none⟩ = some (.int .i64 p.ctor) ∧ w'.cell? ⟨w.heap.size + 1, 2, none⟩ = some (.int .i64 p.n) ∧ w'.cell? ⟨w.heap.size + 1, 3, none⟩ = some (.int .i64 p.m) ∧ w'.cell? ⟨w.heap.size + 1, 4, none⟩ = some (.int .i64 p.var) ∧ w'.cell? ⟨w.heap.size + 1, 5, none⟩ = some (.slice D p.kids.length ep)) (by kernel_rfl) SQ (fun hHeld => ?_)
    refine held_take (i := 0) (d := some 89) (v := .agg #[.int .i64 t.data, .int .i64 t.index]) (ls' := #[true, false, false, false, false, false, false, false, false, false, false, false, false, false]) rfl rfl (by kernel_rfl) (by kernel_rfl) (by kernel_rfl) (fun _ _ _ h => h) hHeld rfl (Or.inl ⟨by rfl, fun wq hSw => ?_⟩) ?_
    · obtain ⟨hs0, hs1, hs2, hs3, hs4, hs5, hs6, hs7⟩ := hSw
      go_simp
    simp only [Act.put, List.setIfInBounds_toArray, List.set_cons_zero, List.set_cons_succ]
    refine held_take (i := 2) (d := some 91) (v := .pointer (some ⟨w.heap.size + 1, 4, none⟩)) (ls' := #[true, false, true, false, false, false, false, false, false, false, false, false, false, false]) rfl rfl (by kernel_rfl) (by kernel_rfl) (by kernel_rfl) (fun _ _ _ h => h) hHeld rfl (Or.inl ⟨by rfl, fun wq hSw => ?_⟩) ?_
    · obtain ⟨hs0, hs1, hs2, hs3, hs4, hs5, hs6, hs7⟩ := hSw
      go_simp
    simp only [Act.put, List.setIfInBounds_toArray, List.set_cons_zero, List.set_cons_succ]
    refine held_take (i := 3) (d := some 92) (v := .int .i64 p.var) (ls' := #[true, false, true, true, false, false, false, false, false, false, false, false, false, false]) rfl rfl (by kernel_rfl) (by kernel_rfl) (by kernel_rfl) (fun _ _ _ h => h) hHeld rfl (Or.inl ⟨by rfl, fun wq hSw => ?_⟩) ?_
    · obtain ⟨hs0, hs1, hs2, hs3, hs4, hs5, hs6, hs7⟩ := hSw
      go_simp
    simp only [Act.put, List.setIfInBounds_toArray, List.set_cons_zero, List.set_cons_succ]
    refine wpAnyH_ready (rs := [1, 4]) (by kernel_rfl) (by simp) ?_
    refine AllReadyH.cons (o := _) rfl (fun K hK => ?_) ?_
    · have tokA : True := trivial
      go_simp
      refine hK.out _ _ SQ1 (fun hHeld => ?_)
      clear hK K
      simp only [List.setIfInBounds_toArray, List.set_cons_zero, List.set_cons_succ]
      refine wpAnyH_ready (rs := [4]) (by kernel_rfl) (by simp) ?_
      refine AllReadyH.cons (o := _) rfl (fun K hK => ?_) AllReadyH.nil
      go_simp
      go_at_call 172
      (with_reducible refine (isVar_any _ _).mono ?_)
      rw [HD.out]
      rintro e1 w1 ⟨rfl, rfl⟩
      go_wp2_with fail
      refine hK.out _ _ SQ1 (fun hHeld => ?_)
      clear hK K
      simp only [List.setIfInBounds_toArray, List.set_cons_zero, List.set_cons_succ]
      refine held_take (i := 5) (d := some 94) (v := .bool false) (ls' := #[true, true, true, true, true, true, false, false, false, false, false, false, false, false]) rfl rfl (by kernel_rfl) (by kernel_rfl) (by kernel_rfl) (fun _ _ _ h => h) hHeld rfl (Or.inl ⟨by rfl, fun wq hSw => ?_⟩) ?_
      · obtain ⟨hs0, hs1, hs2, hs3, hs4, hs5, hs6, hs7⟩ := hSw
        go_simp
      simp only [Act.put, List.setIfInBounds_toArray, List.set_cons_zero, List.set_cons_succ]
      refine held_take (i := 6) (d := some 95) (v := undef) (ls' := #[true, true, true, true, true, true, true, false, false, false, false, false, false, false]) rfl rfl (by kernel_rfl) (by kernel_rfl) (by kernel_rfl) (fun _ _ _ h => h) hHeld rfl (Or.inr ⟨by rfl, rfl⟩) ?_
      simp only [Act.put, List.setIfInBounds_toArray, List.set_cons_zero, List.set_cons_succ]
      refine held_take (i := 7) (d := some 96) (v := undef) (ls' := #[true, true, true, true, true, true, true, true, false, false, false, false, false, false]) rfl rfl (by kernel_rfl) (by kernel_rfl) (by kernel_rfl) (fun _ _ _ h => h) hHeld rfl (Or.inr ⟨by rfl, rfl⟩) ?_
      simp only [Act.put, List.setIfInBounds_toArray, List.set_cons_zero, List.set_cons_succ]
      refine held_take (i := 8) (d := some 97) (v := undef) (ls' := #[true, true, true, true, true, true, true, true, true, false, false, false, false, false]) rfl rfl (by kernel_rfl) (by kernel_rfl) (by kernel_rfl) (fun _ _ _ h => h) hHeld rfl (Or.inr ⟨by rfl, rfl⟩) ?_
      simp only [Act.put, List.setIfInBounds_toArray, List.set_cons_zero, List.set_cons_succ]
      refine held_take (i := 9) (d := some 98) (v := undef) (ls' := #[true, true, true, true, true, true, true, true, true, true, false, false, false, false]) rfl rfl (by kernel_rfl) (by kernel_rfl) (by kernel_rfl) (fun _ _ _ h => h) hHeld rfl (Or.inr ⟨by rfl, rfl⟩) ?_
      simp only [Act.put, List.setIfInBounds_toArray, List.set_cons_zero, List.set_cons_succ]
      refine held_take (i := 10) (d := some 99) (v := undef) (ls' := #[true, true, true, true, true, true, true, true, true, true, true, false, false, false]) rfl rfl (by kernel_rfl) (by kernel_rfl) (by kernel_rfl) (fun _ _ _ h => h) hHeld rfl (Or.inr ⟨by rfl, rfl⟩) ?_
      simp only [Act.put, List.setIfInBounds_toArray, List.set_cons_zero, List.set_cons_succ]
      refine held_take (i := 12) (d := some 6) (v := .slice (some ⟨w0.heap.size, 0, none⟩) 1 1) (ls' := #[true, true, true, true, true, true, true, true, true, true, true, false, true, false]) rfl rfl (by kernel_rfl) (by kernel_rfl) (by kernel_rfl) (fun _ _ _ h => h) hHeld rfl (Or.inl ⟨by rfl, fun wq hSw => ?_⟩) ?_
      · obtain ⟨hs0, hs1, hs2, hs3, hs4, hs5, hs6, hs7⟩ := hSw
        go_simp
      simp only [Act.put, List.setIfInBounds_toArray, List.set_cons_zero, List.set_cons_succ]
      refine held_take (i := 11) (d := some 100) (v := .bool false) (ls' := #[true, true, true, true, true, true, true, true, true, true, true, true, true, false]) rfl rfl (by kernel_rfl) (by kernel_rfl) (by kernel_rfl) (fun _ _ _ h => h) hHeld rfl (Or.inl ⟨by rfl, fun wq hSw => ?_⟩) ?_
      · obtain ⟨hs0, hs1, hs2, hs3, hs4, hs5, hs6, hs7⟩ := hSw
        go_simp
      simp only [Act.put, List.setIfInBounds_toArray, List.set_cons_zero, List.set_cons_succ]
      refine held_take (i := 13) (d := some 7) (v := .bool false) (ls' := #[true, true, true, true, true, true, true, true, true, true, true, true, true, true]) rfl rfl (by kernel_rfl) (by kernel_rfl) (by kernel_rfl) (fun _ _ _ h => h) hHeld rfl (Or.inl ⟨by rfl, fun wq hSw => ?_⟩) ?_
      · obtain ⟨hs0, hs1, hs2, hs3, hs4, hs5, hs6, hs7⟩ := hSw
        go_simp
      simp only [Act.put, List.setIfInBounds_toArray, List.set_cons_zero, List.set_cons_succ]
      refine wpAnyH_done (by kernel_rfl) ?_ _
      go_wp2_with fail
      go_ret2
      exact HQ.out _ _ ((one_tys w0 t).lower hb0.size) ((hb0.alloc hb0.size _).drew)
    refine AllReadyH.cons (o := _) rfl (fun K hK => ?_) AllReadyH.nil
    go_simp
    go_at_call 172
    (with_reducible refine (isVar_any _ _).mono ?_)
    rw [HD.out]
    rintro e1 w1 ⟨rfl, rfl⟩
    go_wp2_with fail
    refine hK.out _ _ SQ (fun hHeld => ?_)
    clear hK K
    simp only [List.setIfInBounds_toArray, List.set_cons_zero, List.set_cons_succ]
    refine held_take (i := 5) (d := some 94) (v := .bool false) (ls' := #[true, false, true, true, true, true, false, false, false, false, false, false, false, false]) rfl rfl (by kernel_rfl) (by kernel_rfl) (by kernel_rfl) (fun _ _ _ h => h) hHeld rfl (Or.inl ⟨by rfl, fun wq hSw => ?_⟩) ?_
    · obtain ⟨hs0, hs1, hs2, hs3, hs4, hs5, hs6, hs7⟩ := hSw
      go_simp
    simp only [Act.put, List.setIfInBounds_toArray, List.set_cons_zero, List.set_cons_succ]
    refine held_take (i := 6) (d := some 95) (v := undef) (ls' := #[true, false, true, true, true, true, true, false, false, false, false, false, false, false]) rfl rfl (by kernel_rfl) (by kernel_rfl) (by kernel_rfl) (fun _ _ _ h => h) hHeld rfl (Or.inr ⟨by rfl, rfl⟩) ?_
    simp only [Act.put, List.setIfInBounds_toArray, List.set_cons_zero, List.set_cons_succ]
    refine held_take (i := 7) (d := some 96) (v := undef) (ls' := #[true, false, true, true, true, true, true, true, false, false, false, false, false, false]) rfl rfl (by kernel_rfl) (by kernel_rfl) (by kernel_rfl) (fun _ _ _ h => h) hHeld rfl (Or.inr ⟨by rfl, rfl⟩) ?_
    simp only [Act.put, List.setIfInBounds_toArray, List.set_cons_zero, List.set_cons_succ]
    refine held_take (i := 8) (d := some 97) (v := undef) (ls' := #[true, false, true, true, true, true, true, true, true, false, false, false, false, false]) rfl rfl (by kernel_rfl) (by kernel_rfl) (by kernel_rfl) (fun _ _ _ h => h) hHeld rfl (Or.inr ⟨by rfl, rfl⟩) ?_
    simp only [Act.put, List.setIfInBounds_toArray, List.set_cons_zero, List.set_cons_succ]
    refine held_take (i := 9) (d := some 98) (v := undef) (ls' := #[true, false, true, true, true, true, true, true, true, true, false, false, false, false]) rfl rfl (by kernel_rfl) (by kernel_rfl) (by kernel_rfl) (fun _ _ _ h => h) hHeld rfl (Or.inr ⟨by rfl, rfl⟩) ?_
    simp only [Act.put, List.setIfInBounds_toArray, List.set_cons_zero, List.set_cons_succ]
    refine held_take (i := 10) (d := some 99) (v := undef) (ls' := #[true, false, true, true, true, true, true, true, true, true, true, false, false, false]) rfl rfl (by kernel_rfl) (by kernel_rfl) (by kernel_rfl) (fun _ _ _ h => h) hHeld rfl (Or.inr ⟨by rfl, rfl⟩) ?_
    simp only [Act.put, List.setIfInBounds_toArray, List.set_cons_zero, List.set_cons_succ]
    refine held_take (i := 11) (d := some 100) (v := .bool false) (ls' := #[true, false, true, true, true, true, true, true, true, true, true, true, false, false]) rfl rfl (by kernel_rfl) (by kernel_rfl) (by kernel_rfl) (fun _ _ _ h => h) hHeld rfl (Or.inl ⟨by rfl, fun wq hSw => ?_⟩) ?_
    · obtain ⟨hs0, hs1, hs2, hs3, hs4, hs5, hs6, hs7⟩ := hSw
      go_simp
    simp only [Act.put, List.setIfInBounds_toArray, List.set_cons_zero, List.set_cons_succ]
    refine wpAnyH_ready (rs := [1]) (by kernel_rfl) (by simp) ?_
    refine AllReadyH.cons (o := _) rfl (fun K hK => ?_) AllReadyH.nil
    go_simp
    refine hK.out _ _ SQ1 (fun hHeld => ?_)
    clear hK K
    simp only [List.setIfInBounds_toArray, List.set_cons_zero, List.set_cons_succ]
    refine held_take (i := 12) (d := some 6) (v := .slice (some ⟨w0.heap.size, 0, none⟩) 1 1) (ls' := #[true, true, true, true, true, true, true, true, true, true, true, true, true, false]) rfl rfl (by kernel_rfl) (by kernel_rfl) (by kernel_rfl) (fun _ _ _ h => h) hHeld rfl (Or.inl ⟨by rfl, fun wq hSw => ?_⟩) ?_
    · obtain ⟨hs0, hs1, hs2, hs3, hs4, hs5, hs6, hs7⟩ := hSw
      go_simp
    simp only [Act.put, List.setIfInBounds_toArray, List.set_cons_zero, List.set_cons_succ]
    refine held_take (i := 13) (d := some 7) (v := .bool false) (ls' := #[true, true, true, true, true, true, true, true, true, true, true, true, true, true]) rfl rfl (by kernel_rfl) (by kernel_rfl) (by kernel_rfl) (fun _ _ _ h => h) hHeld rfl (Or.inl ⟨by rfl, fun wq hSw => ?_⟩) ?_
    · obtain ⟨hs0, hs1, hs2, hs3, hs4, hs5, hs6, hs7⟩ := hSw
      go_simp
    simp only [Act.put, List.setIfInBounds_toArray, List.set_cons_zero, List.set_cons_succ]
    refine wpAnyH_done (by kernel_rfl) ?_ _
    go_wp2_with fail
    go_ret2
    exact HQ.out _ _ ((one_tys w0 t).lower hb0.size) ((hb0.alloc hb0.size _).drew)
end Go.Proofs.YtphmhlekfmkdkaaGreat
