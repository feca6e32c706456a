/-
  The function FnExactClausesValid returns true for every list of data types, every type and every list of clauses, and all three read behind the call as they read before. No condition.
-/
import Derived.Test.YthecfkdilbfimaaGreatG27
import Derived.Test.YthecfkdilbfimaaGreatG28
import Derived.Test.YthecfkdilbfimaaGreatG11
namespace Go.Proofs.YthecfkdilbfimaaGreat
open Go.RowKit Go.Deep
open Go.ChangeShapes Go.WideShapes Go.ChangeAt
set_option maxRecDepth 100000
set_option linter.unusedVariables false

theorem csLifted (os : Os) (started : os.Started) (H : Type) (enc : TypeId × Value → H) :
    ReturnsInHanded {} Tryz.checked os 3 .any (Rows.fnExactClausesValidSpec.pre6 enc Tryz.prog Tryz.f3 Rows.fnExactClausesValidRow.domain false) (Rows.fnExactClausesValidSpec.post enc Tryz.prog Tryz.f3 false true false false) := by
  refine returnsInHanded_of_change (C := Tryz.checked) wvOwn started (by kernel_rfl) Tryz.func3
    (ChangeSpec.witness6 (enc := enc) (C := Tryz.checked) false ⟨#[], #[.slice none 0 0, .agg #[.int .i64 0, .int .i64 0], .slice none 0 0], []⟩ 8 (by kernel_rfl) (by kernel_rfl) (by kernel_rfl) (by kernel_rfl)) ?_
  intro W base args ds gs before hval0 hW hcnd _
  have hval : ∀ (j : Nat) t v, Tryz.f3.params[j]? = some t → args[j]? = some v → Value.okWide Tryz.prog W .any base t v := hval0
  have hW' := hW
  obtain ⟨p, q, hA0, hV, rfl, hfz, hnd⟩ := hW
  have hA : DataW.TrodAll enc Tryz.prog W 0 (fun _ => true) true Tryz.f3.params.toList args.toList ds p := hA0
  rw [Tryz.params3] at hA hval
  obtain ⟨v0, v1, v2, d0, d1, d2, p0, p1, p2, hargs, rfl, rfl, h0, h1, h2⟩ := trodAll_three hA
  obtain rfl : args = #[v0, v1, v2] := by cases args; simp_all
  obtain ⟨rfl, rfl⟩ := trodVars_none hV
  have h0k := h0
  have h1k := h1
  have h2k := h2
  obtain ⟨A, l, cap, rfl, hr⟩ := open_das (hval 0 _ v0 rfl rfl) h0
  obtain ⟨t, rfl⟩ := open_ty (hval 1 _ v1 rfl rfl) h1
  obtain ⟨C, L, ccap, rfl, d, hv⟩ := open_cns (hval 2 _ v2 rfl rfl) h2
  clear hA0 hval0
  have hlt0 : ∀ y ∈ p0, y.block < W.heap.size := fun y hy => by simpa using hW'.lt y (by simp [hy])
  have hlt1 : ∀ y ∈ p1, y.block < W.heap.size := fun y hy => by simpa using hW'.lt y (by simp [hy])
  have hlt2 : ∀ y ∈ p2, y.block < W.heap.size := fun y hy => by simpa using hW'.lt y (by simp [hy])
  refine (cs_law A C l cap ccap d t L W hr hv).mono fun e W' ⟨he, hb⟩ => ?_
  subst he
  have a0 := Below.trod wvLaid (by kernel_rfl) (of_decide_eq_true (by kernel_rfl)) h0k hb hlt0
  have a1 := Below.trod wvLaid (by kernel_rfl) (of_decide_eq_true (by kernel_rfl)) h1k hb hlt1
  have a2 := Below.trod wvLaid (by kernel_rfl) (of_decide_eq_true (by kernel_rfl)) h2k hb hlt2
  exact ⟨_, rfl, _, _, _, [], _, [], hW', trodAll_mk1 (shut_bool Tryz.underlying4 _), trodAll_mk3 a0 a1 a2, rfl, hb.frame _, fun h => by cases h⟩

theorem cs_k1 : (Rows.fnExactClausesValidRow.inPlace == Tryz.prog.inPlace 3) = true := by kernel_rfl
theorem cs_k2 : (Rows.fnExactClausesValidRow.unfollowed == Tryz.prog.unfollowed 3) = true := by kernel_rfl
theorem cs_k3 : (Rows.fnExactClausesValidRow.recurses == Tryz.prog.recurses 3) = true := by kernel_rfl
theorem cs_k4 : (Rows.fnExactClausesValidRow.named == Tryz.prog.varsNamed 3) = true := by kernel_rfl
theorem cs_k5 : laidOutB Tryz.prog = true := by kernel_rfl
theorem cs_k6 : mapsRowed Tryz.prog = true := by kernel_rfl
theorem cs_k7 : Tryz.prog.stopsHeard = true := by kernel_rfl
theorem cs_k8 : Tryz.prog.mayEnter = true := by kernel_rfl
theorem cs_k9 : (Rows.fnExactClausesValidRow.plainKeys == Tryz.prog.plainKeys) = true := by kernel_rfl
theorem cs_ka : (Rows.fnExactClausesValidRow.lifted == Tryz.prog.liftsFinal) = true := by kernel_rfl
theorem cs_closed : joinedFacts Tryz.prog 3 Tryz.f3 Rows.fnExactClausesValidSpec Rows.fnExactClausesValidRow = true := by
  unfold joinedFacts
  rw [cs_k1, cs_k2, cs_k3, cs_k4, cs_k5, cs_k6, cs_k7, cs_k8, cs_k9, cs_ka]
  kernel_rfl
theorem cs_named : Tryz.prog.funcNamed Rows.fnExactClausesValidRow.func = some 3 := by kernel_rfl
theorem cs_inst : Tryz.f3.isInstance Tryz.prog Rows.fnExactClausesValidRow.origin Rows.fnExactClausesValidRow.targs := of_decide_eq_true (by kernel_rfl)
theorem cs_wrap : Tryz.f3.isWrapper Tryz.prog Rows.fnExactClausesValidRow.wrapper Rows.fnExactClausesValidRow.mainSum := by
  unfold Func.isWrapper; first | (rw [if_pos (by decide +kernel)]; kernel_rfl) | (rw [if_neg (by decide +kernel)]; exact ⟨rfl, rfl⟩)
theorem clausesValid_holds : Rows.FnExactClausesValidSaid :=
  OpenClaim.holds_of_wide 3 Tryz.f3 rfl rfl rfl rfl rfl rfl rfl ⟨rfl, rfl, rfl, rfl, rfl⟩ rfl rfl rfl rfl rfl cs_named Tryz.func3 cs_closed
    cs_inst cs_wrap
    (fun os started H enc _ => csLifted os started H enc)
#print axioms clausesValid_holds
end Go.Proofs.YthecfkdilbfimaaGreat
