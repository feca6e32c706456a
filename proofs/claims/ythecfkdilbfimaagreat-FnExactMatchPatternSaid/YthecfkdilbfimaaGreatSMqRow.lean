/-
  The function FnExactMatchPattern returns true for every list of data types, every type, every pattern and every value, and all four read behind the call as they read before. No condition.
-/
import Derived.Test.YthecfkdilbfimaaGreatN09
import Derived.Test.YthecfkdilbfimaaGreatG28
import Derived.Test.YthecfkdilbfimaaGreatG27
import Derived.Test.YthecfkdilbfimaaGreatG11
namespace Go.Proofs.YthecfkdilbfimaaGreat
open Go.RowKit Go.Deep
open Go.ChangeShapes Go.WideShapes Go.ChangeAt
set_option maxRecDepth 100000
set_option linter.unusedVariables false

theorem mqLifted (os : Os) (started : os.Started) (H : Type) (enc : TypeId × Value → H) :
    ReturnsInHanded {} Tryz.checked os 6 .any (Rows.fnExactMatchPatternSpec.pre6 enc Tryz.prog Tryz.f6 Rows.fnExactMatchPatternRow.domain false) (Rows.fnExactMatchPatternSpec.post enc Tryz.prog Tryz.f6 false true false false) := by
  refine returnsInHanded_of_change (C := Tryz.checked) wvOwn started (by kernel_rfl) Tryz.func6
    (ChangeSpec.witness6 (enc := enc) (C := Tryz.checked) false ⟨#[], #[.slice none 0 0, .agg #[.int .i64 0, .int .i64 0], .agg #[.int .i64 0, .int .i64 0, .int .i64 0, .int .i64 0, .int .i64 0, .slice none 0 0], .agg #[.int .i64 0, .int .i64 0, .slice none 0 0]], []⟩ 8 (by kernel_rfl) (by kernel_rfl) (by kernel_rfl) (by kernel_rfl)) ?_
  intro W base args ds gs before hval0 hW hcnd _
  have hval : ∀ (j : Nat) t v, Tryz.f6.params[j]? = some t → args[j]? = some v → Value.okWide Tryz.prog W .any base t v := hval0
  have hW' := hW
  obtain ⟨pp, q, hA0, hV, rfl, hfz, hnd⟩ := hW
  have hA : DataW.TrodAll enc Tryz.prog W 0 (fun _ => true) true Tryz.f6.params.toList args.toList ds pp := hA0
  rw [Tryz.params6] at hA hval
  obtain ⟨v0, v1, v2, v3, d0, d1, d2, d3, p0, p1, p2, p3, hargs, rfl, rfl, h0, h1, h2, h3⟩ := trodAll_four hA
  obtain rfl : args = #[v0, v1, v2, v3] := by cases args; simp_all
  obtain ⟨rfl, rfl⟩ := trodVars_none hV
  have h0k := h0
  have h1k := h1
  have h2k := h2
  have h3k := h3
  obtain ⟨A, l, cap, rfl, hr⟩ := open_das (hval 0 _ v0 rfl rfl) h0
  obtain ⟨t, rfl⟩ := open_ty (hval 1 _ v1 rfl rfl) h1
  obtain ⟨p, D, ep, e, rfl, hp⟩ := openP (hval 2 _ v2 rfl rfl) h2
  obtain ⟨v, E, ev, e2, rfl, hv⟩ := open_vl (hval 3 _ v3 rfl rfl) h3
  clear hA0 hval0
  have hlt0 : ∀ y ∈ p0, y.block < W.heap.size := fun y hy => by simpa using hW'.lt y (by simp [hy])
  have hlt1 : ∀ y ∈ p1, y.block < W.heap.size := fun y hy => by simpa using hW'.lt y (by simp [hy])
  have hlt2 : ∀ y ∈ p2, y.block < W.heap.size := fun y hy => by simpa using hW'.lt y (by simp [hy])
  have hlt3 : ∀ y ∈ p3, y.block < W.heap.size := fun y hy => by simpa using hW'.lt y (by simp [hy])
  refine (mq_law A D E l cap ep ev (e + e2) t p v W hr (hp.more (Nat.le_add_right _ _)) (hv.more (Nat.le_add_left _ _))).mono fun e1 W' ⟨he, hb⟩ => ?_
  subst he
  have a0 := Below.trod wvLaid (by kernel_rfl) (of_decide_eq_true (by kernel_rfl)) h0k hb hlt0
  have a1 := Below.trod wvLaid (by kernel_rfl) (of_decide_eq_true (by kernel_rfl)) h1k hb hlt1
  have a2 := Below.trod wvLaid (by kernel_rfl) (of_decide_eq_true (by kernel_rfl)) h2k hb hlt2
  have a3 := Below.trod wvLaid (by kernel_rfl) (of_decide_eq_true (by kernel_rfl)) h3k hb hlt3
  exact ⟨_, rfl, _, _, _, [], _, [], hW', trodAll_mk1 (shut_bool Tryz.underlying4 _), trodAll_mk4 a0 a1 a2 a3, rfl, hb.frame _, fun h => by cases h⟩

theorem mq_k1 : (Rows.fnExactMatchPatternRow.inPlace == Tryz.prog.inPlace 6) = true := by kernel_rfl
theorem mq_k2 : (Rows.fnExactMatchPatternRow.unfollowed == Tryz.prog.unfollowed 6) = true := by kernel_rfl
theorem mq_k3 : (Rows.fnExactMatchPatternRow.recurses == Tryz.prog.recurses 6) = true := by kernel_rfl
theorem mq_k4 : (Rows.fnExactMatchPatternRow.named == Tryz.prog.varsNamed 6) = true := by kernel_rfl
theorem mq_k5 : laidOutB Tryz.prog = true := by kernel_rfl
theorem mq_k6 : mapsRowed Tryz.prog = true := by kernel_rfl
theorem mq_k7 : Tryz.prog.stopsHeard = true := by kernel_rfl
theorem mq_k8 : Tryz.prog.mayEnter = true := by kernel_rfl
theorem mq_k9 : (Rows.fnExactMatchPatternRow.plainKeys == Tryz.prog.plainKeys) = true := by kernel_rfl
theorem mq_ka : (Rows.fnExactMatchPatternRow.lifted == Tryz.prog.liftsFinal) = true := by kernel_rfl
theorem mq_closed : joinedFacts Tryz.prog 6 Tryz.f6 Rows.fnExactMatchPatternSpec Rows.fnExactMatchPatternRow = true := by
  unfold joinedFacts
  rw [mq_k1, mq_k2, mq_k3, mq_k4, mq_k5, mq_k6, mq_k7, mq_k8, mq_k9, mq_ka]
  kernel_rfl
theorem mq_named : Tryz.prog.funcNamed Rows.fnExactMatchPatternRow.func = some 6 := by kernel_rfl
theorem mq_inst : Tryz.f6.isInstance Tryz.prog Rows.fnExactMatchPatternRow.origin Rows.fnExactMatchPatternRow.targs := of_decide_eq_true (by kernel_rfl)
theorem mq_wrap : Tryz.f6.isWrapper Tryz.prog Rows.fnExactMatchPatternRow.wrapper Rows.fnExactMatchPatternRow.mainSum := by
  unfold Func.isWrapper; first | (rw [if_pos (by decide +kernel)]; kernel_rfl) | (rw [if_neg (by decide +kernel)]; exact ⟨rfl, rfl⟩)
theorem matchPattern_holds : Rows.FnExactMatchPatternSaid :=
  OpenClaim.holds_of_wide 6 Tryz.f6 rfl rfl rfl rfl rfl rfl rfl ⟨rfl, rfl, rfl, rfl, rfl⟩ rfl rfl rfl rfl rfl mq_named Tryz.func6 mq_closed
    mq_inst mq_wrap
    (fun os started H enc _ => mqLifted os started H enc)
#print axioms matchPattern_holds
end Go.Proofs.YthecfkdilbfimaaGreat
