/-
  The function FnExactMaskValue returns true for every list of data types, every type, every value and every list of lists of numbers, and all four read behind the call as they read before. No condition.
-/
import Derived.Test.YtnfjjabeobcenaaU16
import Derived.Test.YtnfjjabeobcenaaU17
import Derived.Test.YtnfjjabeobcenaaU07
namespace Go.Proofs.Ytnfjjabeobcenaa
open Go.RowKit Go.Deep
open Go.ChangeShapes Go.WideShapes Go.ChangeAt
set_option maxRecDepth 100000
set_option linter.unusedVariables false
theorem mvLifted (os : Os) (started : os.Started) (H : Type) (enc : TypeId × Value → H) :
    ReturnsInHanded {} Try.checked os 6 .any (Rows.fnExactMaskValueSpec.pre6 enc Try.prog Try.f6 Rows.fnExactMaskValueRow.domain false) (Rows.fnExactMaskValueSpec.post enc Try.prog Try.f6 false true false false) := by
  refine returnsInHanded_of_change (C := Try.checked) wvOwn started (by kernel_rfl) Try.func6
    (ChangeSpec.witness6 (enc := enc) (C := Try.checked) false ⟨#[], #[.slice none 0 0, .agg #[.int .i64 0, .int .i64 0], .agg #[.int .i64 0, .int .i64 0, .slice none 0 0], .slice none 0 0], []⟩ 8 (by kernel_rfl) (by kernel_rfl) (by kernel_rfl) (by kernel_rfl)) ?_
  intro W base args ds gs before hval0 hW hcnd _
  have hval : ∀ (j : Nat) t v, Try.f6.params[j]? = some t → args[j]? = some v → Value.okWide Try.prog W .any base t v := hval0
  have hW' := hW
  obtain ⟨pp, q, hA0, hV, rfl, hfz, hnd⟩ := hW
  have hA : DataW.TrodAll enc Try.prog W 0 (fun _ => true) true Try.f6.params.toList args.toList ds pp := hA0
  rw [Try.params6] at hA hval
  obtain ⟨v0, v1, v2, v3, d0, d1, d2, d3, p0, p1, p2, p3, hargs, rfl, rfl, h0, h1, h2, h3⟩ := trodAll_four hA
  obtain rfl : args = #[v0, v1, v2, v3] := by cases args; simp_all
  obtain ⟨rfl, rfl⟩ := trodVars_none hV
  have h0k := h0
  have h1k := h1
  have h2k := h2
  have h3k := h3
  obtain ⟨A, l, cap, rfl, hr⟩ := open_das (hval 0 _ v0 rfl rfl) h0
  obtain ⟨t, rfl⟩ := open_ty (hval 1 _ v1 rfl rfl) h1
  obtain ⟨p, D, ep, e, rfl, hp⟩ := open_vl (hval 2 _ v2 rfl rfl) h2
  obtain ⟨Z, qs, cz, rfl, hqs⟩ := open_iss (hval 3 _ v3 rfl rfl) h3
  clear hA0 hval0
  have hlt0 : ∀ y ∈ p0, y.block < W.heap.size := fun y hy => by simpa using hW'.lt y (by simp [hy])
  have hlt1 : ∀ y ∈ p1, y.block < W.heap.size := fun y hy => by simpa using hW'.lt y (by simp [hy])
  have hlt2 : ∀ y ∈ p2, y.block < W.heap.size := fun y hy => by simpa using hW'.lt y (by simp [hy])
  have hlt3 : ∀ y ∈ p3, y.block < W.heap.size := fun y hy => by simpa using hW'.lt y (by simp [hy])
  refine (mv_law A D Z l cap ep cz e t p qs W hr hp hqs).mono fun e1 W' ⟨he, hb⟩ => ?_
  subst he
  have a0 := Below.trod wvLaid (by kernel_rfl) (of_decide_eq_true (by kernel_rfl)) h0k hb hlt0
  have a1 := Below.trod wvLaid (by kernel_rfl) (of_decide_eq_true (by kernel_rfl)) h1k hb hlt1
  have a2 := Below.trod wvLaid (by kernel_rfl) (of_decide_eq_true (by kernel_rfl)) h2k hb hlt2
  have a3 := Below.trod wvLaid (by kernel_rfl) (of_decide_eq_true (by kernel_rfl)) h3k hb hlt3
  exact ⟨_, rfl, _, _, _, [], _, [], hW', trodAll_mk1 (shut_bool Try.underlying4 _), trodAll_mk4 a0 a1 a2 a3, rfl, hb.frame _, fun h => by cases h⟩
theorem mvr_k1 : (Rows.fnExactMaskValueRow.inPlace == Try.prog.inPlace 6) = true := by kernel_rfl
theorem mvr_k2 : (Rows.fnExactMaskValueRow.unfollowed == Try.prog.unfollowed 6) = true := by kernel_rfl
theorem mvr_k3 : (Rows.fnExactMaskValueRow.recurses == Try.prog.recurses 6) = true := by kernel_rfl
theorem mvr_k4 : (Rows.fnExactMaskValueRow.named == Try.prog.varsNamed 6) = true := by kernel_rfl
theorem mvr_k5 : laidOutB Try.prog = true := by kernel_rfl
theorem mvr_k6 : mapsRowed Try.prog = true := by kernel_rfl
theorem mvr_k7 : Try.prog.stopsHeard = true := by kernel_rfl
theorem mvr_k8 : Try.prog.mayEnter = true := by kernel_rfl
theorem mvr_k9 : (Rows.fnExactMaskValueRow.plainKeys == Try.prog.plainKeys) = true := by kernel_rfl
theorem mvr_ka : (Rows.fnExactMaskValueRow.lifted == Try.prog.liftsFinal) = true := by kernel_rfl
theorem mvr_closed : joinedFacts Try.prog 6 Try.f6 Rows.fnExactMaskValueSpec Rows.fnExactMaskValueRow = true := by
  unfold joinedFacts
  rw [mvr_k1, mvr_k2, mvr_k3, mvr_k4, mvr_k5, mvr_k6, mvr_k7, mvr_k8, mvr_k9, mvr_ka]
  kernel_rfl
theorem mvr_named : Try.prog.funcNamed Rows.fnExactMaskValueRow.func = some 6 := by kernel_rfl
theorem mvr_inst : Try.f6.isInstance Try.prog Rows.fnExactMaskValueRow.origin Rows.fnExactMaskValueRow.targs := of_decide_eq_true (by kernel_rfl)
theorem mvr_wrap : Try.f6.isWrapper Try.prog Rows.fnExactMaskValueRow.wrapper Rows.fnExactMaskValueRow.mainSum := by
  unfold Func.isWrapper; first | (rw [if_pos (by decide +kernel)]; kernel_rfl) | (rw [if_neg (by decide +kernel)]; exact ⟨rfl, rfl⟩)
theorem maskValue_holds : Rows.FnExactMaskValueSaid :=
  OpenClaim.holds_of_wide 6 Try.f6 rfl rfl rfl rfl rfl rfl rfl ⟨rfl, rfl, rfl, rfl, rfl⟩ rfl rfl rfl rfl rfl mvr_named Try.func6 mvr_closed
    mvr_inst mvr_wrap
    (fun os started H enc _ => mvLifted os started H enc)
#print axioms maskValue_holds
end Go.Proofs.Ytnfjjabeobcenaa
