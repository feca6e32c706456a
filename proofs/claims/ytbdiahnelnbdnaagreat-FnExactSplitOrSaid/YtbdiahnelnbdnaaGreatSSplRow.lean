/-
  The function FnExactSplitOr returns true for every list of data types, every type and every pattern, and all three read behind the call as they read before. No condition.
-/
import Derived.Test.YtbdiahnelnbdnaaGreatW19
import Derived.Test.YtbdiahnelnbdnaaGreatW20
import Derived.Test.YtbdiahnelnbdnaaGreatW05
namespace Go.Proofs.YtbdiahnelnbdnaaGreat
open Go.RowKit Go.Deep
open Go.ChangeShapes Go.WideShapes Go.ChangeAt
set_option maxRecDepth 100000
set_option linter.unusedVariables false
theorem splLifted (os : Os) (started : os.Started) (H : Type) (enc : TypeId × Value → H) :
    ReturnsInHanded {} Tryz.checked os 3 .any (Rows.fnExactSplitOrSpec.pre6 enc Tryz.prog Tryz.f3 Rows.fnExactSplitOrRow.domain false) (Rows.fnExactSplitOrSpec.post enc Tryz.prog Tryz.f3 false true false false) := by
  refine returnsInHanded_of_change (C := Tryz.checked) wvOwn started (by kernel_rfl) Tryz.func3
    (ChangeSpec.witness6 (enc := enc) (C := Tryz.checked) false ⟨#[], #[.slice none 0 0, .agg #[.int .i64 0, .int .i64 0], .agg #[.int .i64 0, .int .i64 0, .int .i64 0, .int .i64 0, .int .i64 0, .slice none 0 0]], []⟩ 8 (by kernel_rfl) (by kernel_rfl) (by kernel_rfl) (by kernel_rfl)) ?_
  intro W base args ds gs before hval0 hW hcnd _
  have hval : ∀ (j : Nat) t v, Tryz.f3.params[j]? = some t → args[j]? = some v → Value.okWide Tryz.prog W .any base t v := hval0
  have hW' := hW
  obtain ⟨p, q, hA0, hV, rfl, hfz, hnd⟩ := hW
  have hA : DataW.TrodAll enc Tryz.prog W 0 (fun _ => true) true Tryz.f3.params.toList args.toList ds p := hA0
  rw [Tryz.params3] at hA hval
  obtain ⟨v0, v1, v2, d0, d1, d2, p0, p1, p2, hargs, rfl, rfl, h0, h1, h2⟩ := trodAll_three hA
  obtain rfl : args = #[v0, v1, v2] := by cases args; simp_all
  obtain ⟨rfl, rfl⟩ := trodVars_none hV
  have h0k := h0
  have h1k := h1
  have h2k := h2
  obtain ⟨A, l, cap, rfl, hr⟩ := open_das (hval 0 _ v0 rfl rfl) h0
  obtain ⟨t, rfl⟩ := open_ty (hval 1 _ v1 rfl rfl) h1
  obtain ⟨v, D, ep, e, rfl, hv⟩ := openP (hval 2 _ v2 rfl rfl) h2
  clear hA0 hval0
  have hlt0 : ∀ y ∈ p0, y.block < W.heap.size := fun y hy => by simpa using hW'.lt y (by simp [hy])
  have hlt1 : ∀ y ∈ p1, y.block < W.heap.size := fun y hy => by simpa using hW'.lt y (by simp [hy])
  have hlt2 : ∀ y ∈ p2, y.block < W.heap.size := fun y hy => by simpa using hW'.lt y (by simp [hy])
  refine (spl_law A D l cap ep e t v W hr hv).mono fun e W' ⟨he, hb⟩ => ?_
  subst he
  have a0 := Below.trod wvLaid (by kernel_rfl) (of_decide_eq_true (by kernel_rfl)) h0k hb hlt0
  have a1 := Below.trod wvLaid (by kernel_rfl) (of_decide_eq_true (by kernel_rfl)) h1k hb hlt1
  have a2 := Below.trod wvLaid (by kernel_rfl) (of_decide_eq_true (by kernel_rfl)) h2k hb hlt2
  exact ⟨_, rfl, _, _, _, [], _, [], hW', trodAll_mk1 (shut_bool Tryz.underlying4 _), trodAll_mk3 a0 a1 a2, rfl, hb.frame _, fun h => by cases h⟩
theorem spl_k1 : (Rows.fnExactSplitOrRow.inPlace == Tryz.prog.inPlace 3) = true := by kernel_rfl
theorem spl_k2 : (Rows.fnExactSplitOrRow.unfollowed == Tryz.prog.unfollowed 3) = true := by kernel_rfl
theorem spl_k3 : (Rows.fnExactSplitOrRow.recurses == Tryz.prog.recurses 3) = true := by kernel_rfl
theorem spl_k4 : (Rows.fnExactSplitOrRow.named == Tryz.prog.varsNamed 3) = true := by kernel_rfl
theorem spl_k5 : laidOutB Tryz.prog = true := by kernel_rfl
theorem spl_k6 : mapsRowed Tryz.prog = true := by kernel_rfl
theorem spl_k7 : Tryz.prog.stopsHeard = true := by kernel_rfl
theorem spl_k8 : Tryz.prog.mayEnter = true := by kernel_rfl
theorem spl_k9 : (Rows.fnExactSplitOrRow.plainKeys == Tryz.prog.plainKeys) = true := by kernel_rfl
theorem spl_ka : (Rows.fnExactSplitOrRow.lifted == Tryz.prog.liftsFinal) = true := by kernel_rfl
theorem spl_closed : joinedFacts Tryz.prog 3 Tryz.f3 Rows.fnExactSplitOrSpec Rows.fnExactSplitOrRow = true := by
  unfold joinedFacts
  rw [spl_k1, spl_k2, spl_k3, spl_k4, spl_k5, spl_k6, spl_k7, spl_k8, spl_k9, spl_ka]
  kernel_rfl
theorem spl_named : Tryz.prog.funcNamed Rows.fnExactSplitOrRow.func = some 3 := by kernel_rfl
theorem spl_inst : Tryz.f3.isInstance Tryz.prog Rows.fnExactSplitOrRow.origin Rows.fnExactSplitOrRow.targs := of_decide_eq_true (by kernel_rfl)
theorem spl_wrap : Tryz.f3.isWrapper Tryz.prog Rows.fnExactSplitOrRow.wrapper Rows.fnExactSplitOrRow.mainSum := by
  unfold Func.isWrapper; first | (rw [if_pos (by decide +kernel)]; kernel_rfl) | (rw [if_neg (by decide +kernel)]; exact ⟨rfl, rfl⟩)
theorem splitOr_holds : Rows.FnExactSplitOrSaid :=
  OpenClaim.holds_of_wide 3 Tryz.f3 rfl rfl rfl rfl rfl rfl rfl ⟨rfl, rfl, rfl, rfl, rfl⟩ rfl rfl rfl rfl rfl spl_named Tryz.func3 spl_closed
    spl_inst spl_wrap
    (fun os started H enc _ => splLifted os started H enc)
#print axioms splitOr_holds
end Go.Proofs.YtbdiahnelnbdnaaGreat
