/-
  The function FnExactSamplePattern returns true for every list of data types, every type and every pattern, and all three read behind the call as they read before. No condition.
-/
import Derived.Test.YthecfkdilbfimaaGreatK08
import Derived.Test.YthecfkdilbfimaaGreatG28
import Derived.Test.YthecfkdilbfimaaGreatG11
namespace Go.Proofs.YthecfkdilbfimaaGreat
open Go.RowKit Go.Deep
open Go.ChangeShapes Go.WideShapes Go.ChangeAt
set_option maxRecDepth 100000
set_option linter.unusedVariables false

theorem spLifted (os : Os) (started : os.Started) (H : Type) (enc : TypeId × Value → H) :
    ReturnsInHanded {} Tryz.checked os 5 .any (Rows.fnExactSamplePatternSpec.pre6 enc Tryz.prog Tryz.f5 Rows.fnExactSamplePatternRow.domain false) (Rows.fnExactSamplePatternSpec.post enc Tryz.prog Tryz.f5 false true false false) := by
  refine returnsInHanded_of_change (C := Tryz.checked) wvOwn started (by kernel_rfl) Tryz.func5
    (ChangeSpec.witness6 (enc := enc) (C := Tryz.checked) false ⟨#[], #[.slice none 0 0, .agg #[.int .i64 0, .int .i64 0], .agg #[.int .i64 0, .int .i64 0, .int .i64 0, .int .i64 0, .int .i64 0, .slice none 0 0]], []⟩ 8 (by kernel_rfl) (by kernel_rfl) (by kernel_rfl) (by kernel_rfl)) ?_
  intro W base args ds gs before hval0 hW hcnd _
  have hval : ∀ (j : Nat) t v, Tryz.f5.params[j]? = some t → args[j]? = some v → Value.okWide Tryz.prog W .any base t v := hval0
  have hW' := hW
  obtain ⟨p, q, hA0, hV, rfl, hfz, hnd⟩ := hW
  have hA : DataW.TrodAll enc Tryz.prog W 0 (fun _ => true) true Tryz.f5.params.toList args.toList ds p := hA0
  rw [Tryz.params5] at hA hval
  obtain ⟨v0, v1, v2, d0, d1, d2, p0, p1, p2, hargs, rfl, rfl, h0, h1, h2⟩ := trodAll_three hA
  obtain rfl : args = #[v0, v1, v2] := by cases args; simp_all
  obtain ⟨rfl, rfl⟩ := trodVars_none hV
  have h0k := h0
  have h1k := h1
  have h2k := h2
  obtain ⟨A, l, cap, rfl, hr⟩ := open_das (hval 0 _ v0 rfl rfl) h0
  obtain ⟨t, rfl⟩ := open_ty (hval 1 _ v1 rfl rfl) h1
  obtain ⟨v, D, ep, e, rfl, hv⟩ := openP (hval 2 _ v2 rfl rfl) h2
  clear hA0 hval0
  have hlt0 : ∀ y ∈ p0, y.block < W.heap.size := fun y hy => by simpa using hW'.lt y (by simp [hy])
  have hlt1 : ∀ y ∈ p1, y.block < W.heap.size := fun y hy => by simpa using hW'.lt y (by simp [hy])
  have hlt2 : ∀ y ∈ p2, y.block < W.heap.size := fun y hy => by simpa using hW'.lt y (by simp [hy])
  refine (sp_law A D l cap ep e t v W hr hv).mono fun e W' ⟨he, hb⟩ => ?_
  subst he
  have a0 := Below.trod wvLaid (by kernel_rfl) (of_decide_eq_true (by kernel_rfl)) h0k hb hlt0
  have a1 := Below.trod wvLaid (by kernel_rfl) (of_decide_eq_true (by kernel_rfl)) h1k hb hlt1
  have a2 := Below.trod wvLaid (by kernel_rfl) (of_decide_eq_true (by kernel_rfl)) h2k hb hlt2
  exact ⟨_, rfl, _, _, _, [], _, [], hW', trodAll_mk1 (shut_bool Tryz.underlying4 _), trodAll_mk3 a0 a1 a2, rfl, hb.frame _, fun h => by cases h⟩

theorem sp_k1 : (Rows.fnExactSamplePatternRow.inPlace == Tryz.prog.inPlace 5) = true := by kernel_rfl
theorem sp_k2 : (Rows.fnExactSamplePatternRow.unfollowed == Tryz.prog.unfollowed 5) = true := by kernel_rfl
theorem sp_k3 : (Rows.fnExactSamplePatternRow.recurses == Tryz.prog.recurses 5) = true := by kernel_rfl
theorem sp_k4 : (Rows.fnExactSamplePatternRow.named == Tryz.prog.varsNamed 5) = true := by kernel_rfl
theorem sp_k5 : laidOutB Tryz.prog = true := by kernel_rfl
theorem sp_k6 : mapsRowed Tryz.prog = true := by kernel_rfl
theorem sp_k7 : Tryz.prog.stopsHeard = true := by kernel_rfl
theorem sp_k8 : Tryz.prog.mayEnter = true := by kernel_rfl
theorem sp_k9 : (Rows.fnExactSamplePatternRow.plainKeys == Tryz.prog.plainKeys) = true := by kernel_rfl
theorem sp_ka : (Rows.fnExactSamplePatternRow.lifted == Tryz.prog.liftsFinal) = true := by kernel_rfl
theorem sp_closed : joinedFacts Tryz.prog 5 Tryz.f5 Rows.fnExactSamplePatternSpec Rows.fnExactSamplePatternRow = true := by
  unfold joinedFacts
  rw [sp_k1, sp_k2, sp_k3, sp_k4, sp_k5, sp_k6, sp_k7, sp_k8, sp_k9, sp_ka]
  kernel_rfl
theorem sp_named : Tryz.prog.funcNamed Rows.fnExactSamplePatternRow.func = some 5 := by kernel_rfl
theorem sp_inst : Tryz.f5.isInstance Tryz.prog Rows.fnExactSamplePatternRow.origin Rows.fnExactSamplePatternRow.targs := of_decide_eq_true (by kernel_rfl)
theorem sp_wrap : Tryz.f5.isWrapper Tryz.prog Rows.fnExactSamplePatternRow.wrapper Rows.fnExactSamplePatternRow.mainSum := by
  unfold Func.isWrapper; first | (rw [if_pos (by decide +kernel)]; kernel_rfl) | (rw [if_neg (by decide +kernel)]; exact ⟨rfl, rfl⟩)
theorem samplePattern_holds : Rows.FnExactSamplePatternSaid :=
  OpenClaim.holds_of_wide 5 Tryz.f5 rfl rfl rfl rfl rfl rfl rfl ⟨rfl, rfl, rfl, rfl, rfl⟩ rfl rfl rfl rfl rfl sp_named Tryz.func5 sp_closed
    sp_inst sp_wrap
    (fun os started H enc _ => spLifted os started H enc)
#print axioms samplePattern_holds
end Go.Proofs.YthecfkdilbfimaaGreat
