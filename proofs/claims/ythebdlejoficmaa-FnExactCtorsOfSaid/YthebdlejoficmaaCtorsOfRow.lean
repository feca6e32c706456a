/-
  The function FnExactCtorsOf returns true for every list of data types and every type, and both read behind the call as they read before. No condition.
-/
import Derived.Test.YthebdlejoficmaaCtorsOf0
namespace Go.Proofs.Ythebdlejoficmaa
open Go.RowKit Go.Deep
open Go.ChangeShapes Go.WideShapes Go.ChangeAt
set_option maxRecDepth 100000
set_option linter.unusedVariables false

theorem ctorsOf_law (A : Option Addr) (l : List Da) (cap : Nat) (t : Ty) (w : World) (hr : RDas w w.heap.size A l) :
    Calls Try.prog 7 #[.slice A l.length cap, .agg #[.int .i64 t.data, .int .i64 t.index]] w fun e w' => e = .returned (.bool true) ∧ Below w.heap.size w w' := by
  by_cases h : ctR l t = []
  · exact ctorsOf_none A l cap t w hr h
  · exact ctorsOf_some A l cap t w hr h

theorem coLifted (os : Os) (started : os.Started) (H : Type) (enc : TypeId × Value → H) :
    ReturnsInHanded {} Try.checked os 7 .any (Rows.fnExactCtorsOfSpec.pre6 enc Try.prog Try.f7 Rows.fnExactCtorsOfRow.domain false) (Rows.fnExactCtorsOfSpec.post enc Try.prog Try.f7 false true false false) := by
  refine returnsInHanded_of_change (C := Try.checked) wvOwn started (by kernel_rfl) Try.func7
    (ChangeSpec.witness6 (enc := enc) (C := Try.checked) false ⟨#[], #[.slice none 0 0, .agg #[.int .i64 0, .int .i64 0]], []⟩ 8 (by kernel_rfl) (by kernel_rfl) (by kernel_rfl) (by kernel_rfl)) ?_
  intro W base args ds gs before hval0 hW hcnd _
  have hval : ∀ (j : Nat) t v, Try.f7.params[j]? = some t → args[j]? = some v → Value.okWide Try.prog W .any base t v := hval0
  have hW' := hW
  obtain ⟨p, q, hA0, hV, rfl, hfz, hnd⟩ := hW
  have hA : DataW.TrodAll enc Try.prog W 0 (fun _ => true) true Try.f7.params.toList args.toList ds p := hA0
  rw [Try.params7] at hA hval
  obtain ⟨v0, v1, d0, d1, p0, p1, hargs, rfl, rfl, h0, h1⟩ := trodAll_two hA
  obtain rfl : args = #[v0, v1] := by cases args; simp_all
  obtain ⟨rfl, rfl⟩ := trodVars_none hV
  have h0k := h0
  have h1k := h1
  obtain ⟨A, l, cap, rfl, hr⟩ := open_das (hval 0 23 v0 rfl rfl) h0
  obtain ⟨t, rfl⟩ := open_ty (hval 1 32 v1 rfl rfl) h1
  clear hA0 hval0
  have hlt : ∀ y ∈ p0, y.block < W.heap.size := fun y hy => by simpa using hW'.lt y (by simp [hy])
  have hlt' : ∀ y ∈ p1, y.block < W.heap.size := fun y hy => by simpa using hW'.lt y (by simp [hy])
  refine (ctorsOf_law A l cap t W hr).mono fun e W' ⟨he, hb⟩ => ?_
  subst he
  have a0 : DataW.Trod enc Try.prog W' 0 (fun b => decide (b < W.heap.size)) true 23 (.slice A l.length cap) d0 p0 := Below.trod wvLaid (by kernel_rfl) (of_decide_eq_true (by kernel_rfl)) h0k hb hlt
  have a1 : DataW.Trod enc Try.prog W' 0 (fun b => decide (b < W.heap.size)) true 32 (.agg #[.int .i64 t.data, .int .i64 t.index]) d1 p1 := Below.trod wvLaid (by kernel_rfl) (of_decide_eq_true (by kernel_rfl)) h1k hb hlt'
  exact ⟨_, rfl, _, _, _, [], _, [], hW', trodAll_mk1 (shut_bool Try.underlying4 _), trodAll_mk2 a0 a1, rfl, hb.frame _, fun h => by cases h⟩

theorem ctorsOf_holds : Rows.FnExactCtorsOfSaid :=
  OpenClaim.holds_of_wide 7 Try.f7 rfl rfl rfl rfl rfl rfl rfl ⟨rfl, rfl, rfl, rfl, rfl⟩ rfl rfl rfl rfl rfl (by kernel_rfl) Try.func7 (by kernel_rfl)
    (of_decide_eq_true (by kernel_rfl)) (by unfold Func.isWrapper; first | (rw [if_pos (by decide +kernel)]; kernel_rfl) | (rw [if_neg (by decide +kernel)]; exact ⟨rfl, rfl⟩))
    (fun os started H enc _ => coLifted os started H enc)
#print axioms ctorsOf_holds
end Go.Proofs.Ythebdlejoficmaa
