/-
  The function FnExactKnownMore returns true for every list of data types, every type and every two values, and all four read behind the call as they read before. No condition.
-/
import Derived.Test.YtnfjjabeobcenaaW13
import Derived.Test.YtnfjjabeobcenaaW09
import Derived.Test.YtnfjjabeobcenaaW06
namespace Go.Proofs.Ytnfjjabeobcenaa
open Go.RowKit Go.Deep
open Go.ChangeShapes Go.WideShapes Go.ChangeAt
set_option maxRecDepth 100000
set_option linter.unusedVariables false
theorem kmLifted (os : Os) (started : os.Started) (H : Type) (enc : TypeId × Value → H) :
    ReturnsInHanded {} Try.checked os 5 .any (Rows.fnExactKnownMoreSpec.pre6 enc Try.prog Try.f5 Rows.fnExactKnownMoreRow.domain false) (Rows.fnExactKnownMoreSpec.post enc Try.prog Try.f5 false true false false) := by
  refine returnsInHanded_of_change (C := Try.checked) wvOwn started (by kernel_rfl) Try.func5
    (ChangeSpec.witness6 (enc := enc) (C := Try.checked) false ⟨#[], #[.slice none 0 0, .agg #[.int .i64 0, .int .i64 0], .agg #[.int .i64 0, .int .i64 0, .slice none 0 0], .agg #[.int .i64 0, .int .i64 0, .slice none 0 0]], []⟩ 8 (by kernel_rfl) (by kernel_rfl) (by kernel_rfl) (by kernel_rfl)) ?_
  intro W base args ds gs before hval0 hW hcnd _
  have hval : ∀ (j : Nat) t v, Try.f5.params[j]? = some t → args[j]? = some v → Value.okWide Try.prog W .any base t v := hval0
  have hW' := hW
  obtain ⟨pp, q, hA0, hV, rfl, hfz, hnd⟩ := hW
  have hA : DataW.TrodAll enc Try.prog W 0 (fun _ => true) true Try.f5.params.toList args.toList ds pp := hA0
  rw [Try.params5] at hA hval
  obtain ⟨v0, v1, v2, v3, d0, d1, d2, d3, p0, p1, p2, p3, hargs, rfl, rfl, h0, h1, h2, h3⟩ := trodAll_four hA
  obtain rfl : args = #[v0, v1, v2, v3] := by cases args; simp_all
  obtain ⟨rfl, rfl⟩ := trodVars_none hV
  have h0k := h0
  have h1k := h1
  have h2k := h2
  have h3k := h3
  obtain ⟨A, l, cap, rfl, hr⟩ := open_das (hval 0 _ v0 rfl rfl) h0
  obtain ⟨t, rfl⟩ := open_ty (hval 1 _ v1 rfl rfl) h1
  obtain ⟨p, D, ep, e, rfl, hp⟩ := open_vl (hval 2 _ v2 rfl rfl) h2
  obtain ⟨v, E, ev, e2, rfl, hv⟩ := open_vl (hval 3 _ v3 rfl rfl) h3
  clear hA0 hval0
  have hlt0 : ∀ y ∈ p0, y.block < W.heap.size := fun y hy => by simpa using hW'.lt y (by simp [hy])
  have hlt1 : ∀ y ∈ p1, y.block < W.heap.size := fun y hy => by simpa using hW'.lt y (by simp [hy])
  have hlt2 : ∀ y ∈ p2, y.block < W.heap.size := fun y hy => by simpa using hW'.lt y (by simp [hy])
  have hlt3 : ∀ y ∈ p3, y.block < W.heap.size := fun y hy => by simpa using hW'.lt y (by simp [hy])
  refine (km_law A D E l cap ep ev (e + e2) t p v W hr (hp.more (Nat.le_add_right _ _)) (hv.more (Nat.le_add_left _ _))).mono fun e1 W' ⟨he, hb⟩ => ?_
  subst he
  have a0 := Below.trod wvLaid (by kernel_rfl) (of_decide_eq_true (by kernel_rfl)) h0k hb hlt0
  have a1 := Below.trod wvLaid (by kernel_rfl) (of_decide_eq_true (by kernel_rfl)) h1k hb hlt1
  have a2 := Below.trod wvLaid (by kernel_rfl) (of_decide_eq_true (by kernel_rfl)) h2k hb hlt2
  have a3 := Below.trod wvLaid (by kernel_rfl) (of_decide_eq_true (by kernel_rfl)) h3k hb hlt3
  exact ⟨_, rfl, _, _, _, [], _, [], hW', trodAll_mk1 (shut_bool Try.underlying4 _), trodAll_mk4 a0 a1 a2 a3, rfl, hb.frame _, fun h => by cases h⟩
theorem kmr_k1 : (Rows.fnExactKnownMoreRow.inPlace == Try.prog.inPlace 5) = true := by kernel_rfl
theorem kmr_k2 : (Rows.fnExactKnownMoreRow.unfollowed == Try.prog.unfollowed 5) = true := by kernel_rfl
theorem kmr_k3 : (Rows.fnExactKnownMoreRow.recurses == Try.prog.recurses 5) = true := by kernel_rfl
theorem kmr_k4 : (Rows.fnExactKnownMoreRow.named == Try.prog.varsNamed 5) = true := by kernel_rfl
theorem kmr_k5 : laidOutB Try.prog = true := by kernel_rfl
theorem kmr_k6 : mapsRowed Try.prog = true := by kernel_rfl
theorem kmr_k7 : Try.prog.stopsHeard = true := by kernel_rfl
theorem kmr_k8 : Try.prog.mayEnter = true := by kernel_rfl
theorem kmr_k9 : (Rows.fnExactKnownMoreRow.plainKeys == Try.prog.plainKeys) = true := by kernel_rfl
theorem kmr_ka : (Rows.fnExactKnownMoreRow.lifted == Try.prog.liftsFinal) = true := by kernel_rfl
theorem kmr_closed : joinedFacts Try.prog 5 Try.f5 Rows.fnExactKnownMoreSpec Rows.fnExactKnownMoreRow = true := by
  unfold joinedFacts
  rw [kmr_k1, kmr_k2, kmr_k3, kmr_k4, kmr_k5, kmr_k6, kmr_k7, kmr_k8, kmr_k9, kmr_ka]
  kernel_rfl
theorem kmr_named : Try.prog.funcNamed Rows.fnExactKnownMoreRow.func = some 5 := by kernel_rfl
theorem kmr_inst : Try.f5.isInstance Try.prog Rows.fnExactKnownMoreRow.origin Rows.fnExactKnownMoreRow.targs := of_decide_eq_true (by kernel_rfl)
theorem kmr_wrap : Try.f5.isWrapper Try.prog Rows.fnExactKnownMoreRow.wrapper Rows.fnExactKnownMoreRow.mainSum := by
  unfold Func.isWrapper; first | (rw [if_pos (by decide +kernel)]; kernel_rfl) | (rw [if_neg (by decide +kernel)]; exact ⟨rfl, rfl⟩)
theorem knownMore_holds : Rows.FnExactKnownMoreSaid :=
  OpenClaim.holds_of_wide 5 Try.f5 rfl rfl rfl rfl rfl rfl rfl ⟨rfl, rfl, rfl, rfl, rfl⟩ rfl rfl rfl rfl rfl kmr_named Try.func5 kmr_closed
    kmr_inst kmr_wrap
    (fun os started H enc _ => kmLifted os started H enc)
#print axioms knownMore_holds
end Go.Proofs.Ytnfjjabeobcenaa
