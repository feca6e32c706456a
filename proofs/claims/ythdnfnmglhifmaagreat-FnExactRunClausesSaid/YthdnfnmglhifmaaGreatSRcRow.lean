/-
  The function FnExactRunClauses returns true for every list of data types, every type, every list of clauses and every value, and all four read behind the call as they read before. No condition.
-/
import Derived.Test.YthdnfnmglhifmaaGreatR36
import Derived.Test.YthdnfnmglhifmaaGreatR37
import Derived.Test.YthdnfnmglhifmaaGreatR07
namespace Go.Proofs.YthdnfnmglhifmaaGreat
open Go.RowKit Go.Deep
open Go.ChangeShapes Go.WideShapes Go.ChangeAt
set_option maxRecDepth 100000
set_option linter.unusedVariables false
theorem RCs.moreD {d d' : Nat} {w : World} {B : Nat} {A : Option Addr} {l : List Cn} (h : RCs d w B A l) (hd : d ≤ d') : RCs d' w B A l := ⟨h.1, fun k hk => by
  obtain ⟨b, off, e, hb, hc⟩ := h.2 k hk
  exact ⟨b, off, e, hb, hc.more hd⟩⟩
theorem rcLifted (os : Os) (started : os.Started) (H : Type) (enc : TypeId × Value → H) :
    ReturnsInHanded {} Tryz.checked os 12 .any (Rows.fnExactRunClausesSpec.pre6 enc Tryz.prog Tryz.f12 Rows.fnExactRunClausesRow.domain false) (Rows.fnExactRunClausesSpec.post enc Tryz.prog Tryz.f12 false true false false) := by
  refine returnsInHanded_of_change (C := Tryz.checked) wvOwn started (by kernel_rfl) Tryz.func12
    (ChangeSpec.witness6 (enc := enc) (C := Tryz.checked) false ⟨#[], #[.slice none 0 0, .agg #[.int .i64 0, .int .i64 0], .slice none 0 0, .agg #[.int .i64 0, .int .i64 0, .slice none 0 0]], []⟩ 8 (by kernel_rfl) (by kernel_rfl) (by kernel_rfl) (by kernel_rfl)) ?_
  intro W base args ds gs before hval0 hW hcnd _
  have hval : ∀ (j : Nat) t v, Tryz.f12.params[j]? = some t → args[j]? = some v → Value.okWide Tryz.prog W .any base t v := hval0
  have hW' := hW
  obtain ⟨pp, q, hA0, hV, rfl, hfz, hnd⟩ := hW
  have hA : DataW.TrodAll enc Tryz.prog W 0 (fun _ => true) true Tryz.f12.params.toList args.toList ds pp := hA0
  rw [Tryz.params12] at hA hval
  obtain ⟨v0, v1, v2, v3, d0, d1, d2, d3, p0, p1, p2, p3, hargs, rfl, rfl, h0, h1, h2, h3⟩ := trodAll_four hA
  obtain rfl : args = #[v0, v1, v2, v3] := by cases args; simp_all
  obtain ⟨rfl, rfl⟩ := trodVars_none hV
  have h0k := h0
  have h1k := h1
  have h2k := h2
  have h3k := h3
  obtain ⟨A, l, cap, rfl, hr⟩ := open_das (hval 0 _ v0 rfl rfl) h0
  obtain ⟨t, rfl⟩ := open_ty (hval 1 _ v1 rfl rfl) h1
  obtain ⟨C, L, ccap, rfl, e, hc⟩ := open_cns (hval 2 _ v2 rfl rfl) h2
  obtain ⟨v, E, ev, e2, rfl, hv⟩ := open_vl (hval 3 _ v3 rfl rfl) h3
  clear hA0 hval0
  have hlt0 : ∀ y ∈ p0, y.block < W.heap.size := fun y hy => by simpa using hW'.lt y (by simp [hy])
  have hlt1 : ∀ y ∈ p1, y.block < W.heap.size := fun y hy => by simpa using hW'.lt y (by simp [hy])
  have hlt2 : ∀ y ∈ p2, y.block < W.heap.size := fun y hy => by simpa using hW'.lt y (by simp [hy])
  have hlt3 : ∀ y ∈ p3, y.block < W.heap.size := fun y hy => by simpa using hW'.lt y (by simp [hy])
  refine (rc_law A C E l cap ccap ev (e + e2) t L v W hr (hc.moreD (Nat.le_add_right _ _)) (hv.more (Nat.le_add_left _ _))).mono fun e1 W' ⟨he, hb⟩ => ?_
  subst he
  have a0 := Below.trod wvLaid (by kernel_rfl) (of_decide_eq_true (by kernel_rfl)) h0k hb hlt0
  have a1 := Below.trod wvLaid (by kernel_rfl) (of_decide_eq_true (by kernel_rfl)) h1k hb hlt1
  have a2 := Below.trod wvLaid (by kernel_rfl) (of_decide_eq_true (by kernel_rfl)) h2k hb hlt2
  have a3 := Below.trod wvLaid (by kernel_rfl) (of_decide_eq_true (by kernel_rfl)) h3k hb hlt3
  exact ⟨_, rfl, _, _, _, [], _, [], hW', trodAll_mk1 (shut_bool Tryz.underlying4 _), trodAll_mk4 a0 a1 a2 a3, rfl, hb.frame _, fun h => by cases h⟩
theorem rc_k1 : (Rows.fnExactRunClausesRow.inPlace == Tryz.prog.inPlace 12) = true := by kernel_rfl
theorem rc_k2 : (Rows.fnExactRunClausesRow.unfollowed == Tryz.prog.unfollowed 12) = true := by kernel_rfl
theorem rc_k3 : (Rows.fnExactRunClausesRow.recurses == Tryz.prog.recurses 12) = true := by kernel_rfl
theorem rc_k4 : (Rows.fnExactRunClausesRow.named == Tryz.prog.varsNamed 12) = true := by kernel_rfl
theorem rc_k5 : laidOutB Tryz.prog = true := by kernel_rfl
theorem rc_k6 : mapsRowed Tryz.prog = true := by kernel_rfl
theorem rc_k7 : Tryz.prog.stopsHeard = true := by kernel_rfl
theorem rc_k8 : Tryz.prog.mayEnter = true := by kernel_rfl
theorem rc_k9 : (Rows.fnExactRunClausesRow.plainKeys == Tryz.prog.plainKeys) = true := by kernel_rfl
theorem rc_ka : (Rows.fnExactRunClausesRow.lifted == Tryz.prog.liftsFinal) = true := by kernel_rfl
theorem rc_closed : joinedFacts Tryz.prog 12 Tryz.f12 Rows.fnExactRunClausesSpec Rows.fnExactRunClausesRow = true := by
  unfold joinedFacts
  rw [rc_k1, rc_k2, rc_k3, rc_k4, rc_k5, rc_k6, rc_k7, rc_k8, rc_k9, rc_ka]
  kernel_rfl
theorem rc_named : Tryz.prog.funcNamed Rows.fnExactRunClausesRow.func = some 12 := by kernel_rfl
theorem rc_inst : Tryz.f12.isInstance Tryz.prog Rows.fnExactRunClausesRow.origin Rows.fnExactRunClausesRow.targs := of_decide_eq_true (by kernel_rfl)
theorem rc_wrap : Tryz.f12.isWrapper Tryz.prog Rows.fnExactRunClausesRow.wrapper Rows.fnExactRunClausesRow.mainSum := by
  unfold Func.isWrapper; first | (rw [if_pos (by decide +kernel)]; kernel_rfl) | (rw [if_neg (by decide +kernel)]; exact ⟨rfl, rfl⟩)
theorem runClauses_holds : Rows.FnExactRunClausesSaid :=
  OpenClaim.holds_of_wide 12 Tryz.f12 rfl rfl rfl rfl rfl rfl rfl ⟨rfl, rfl, rfl, rfl, rfl⟩ rfl rfl rfl rfl rfl rc_named Tryz.func12 rc_closed
    rc_inst rc_wrap
    (fun os started H enc _ => rcLifted os started H enc)
#print axioms runClauses_holds
end Go.Proofs.YthdnfnmglhifmaaGreat
