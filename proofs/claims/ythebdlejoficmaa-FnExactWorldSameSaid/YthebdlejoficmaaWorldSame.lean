/-
  The function FnExactWorldSame returns true for every two lists of data types, and both read behind the call as they read before. No condition.
-/
import Derived.Test.YthebdlejoficmaaSame4
import Derived.Test.YthebdlejoficmaaSz
import Derived.Test.YthebdlejoficmaaOpen
namespace Go.Proofs.Ythebdlejoficmaa
open Go.RowKit Go.Deep
open Go.ChangeShapes Go.WideShapes Go.ChangeAt
set_option maxRecDepth 100000
set_option linter.unusedVariables false

theorem RDas.at_ {w W : World} {A : Option Addr} {l : List Da} (h : RDas w w.heap.size A l) (hb : Below w.heap.size w W) : RDas W W.heap.size A l := h.keep (fun p hp => hb.cell hp) hb.size
theorem below_then {w w1 w2 : World} (h : Below w.heap.size w w1) (h' : Below w1.heap.size w1 w2) : Below w.heap.size w w2 := h.trans (h'.mono h.size)

set_option maxHeartbeats 800000 in
theorem worldSame_law (A A' : Option Addr) (l m : List Da) (cap cap' : Nat) (w : World) (hr : RDas w w.heap.size A l) (hr' : RDas w w.heap.size A' m) :
    Calls Try.prog 5 #[.slice A l.length cap, .slice A' m.length cap'] w fun e w' => e = .returned (.bool true) ∧ Below w.heap.size w w' := by
  have Hr := Lib.hid hr
  have Hr' := Lib.hid hr'
  clear hr hr'
  by_cases h1 : (wDas l : Int) ≤ 1048576
  · by_cases h2 : (wDas m : Int) ≤ 1048576 - wDas l
    · have H1 := Lib.hid (left_ok h1)
      have H2 := Lib.hid (left_ok h2)
      go_enter Try.func5, Try.ntmps5
      go_wp2_with fail
      refine (szDataS_any _ _ _ _ _ Hr.out (by omega) (by omega)).mono ?_; rw [H1.out]; rintro e w1 ⟨rfl, hb1⟩
      go_wp2_with fail
      refine (szDataS_any _ _ _ _ _ (Hr'.out.at_ hb1) (by omega) (by omega)).mono ?_; rw [H2.out]; rintro e w2 ⟨rfl, hb2'⟩
      have hb2 := below_then hb1 hb2'
      clear hb1 hb2'
      go_wp2_with fail
      refine (toDataS_any _ _ _ _ (Hr.out.at_ hb2) (by omega)).mono ?_; rintro e w3 ⟨g3, rfl, hf3, hb3'⟩
      have hb3 := below_then hb2 hb3'
      have R3 := Lib.hid hf3.reads
      clear hb2 hb3' hf3
      go_wp2_with fail
      refine (toDataS_any _ _ _ _ (Hr'.out.at_ hb3) (by omega)).mono ?_; rintro e w4 ⟨g4, rfl, hf4, hb4'⟩
      have hb4 := below_then hb3 hb4'
      have R4 := Lib.hid hf4.reads
      have R3' := Lib.hid (R3.out.at_ hb4')
      clear hb3 hb4' hf4 R3
      go_wp2_with fail
      refine (worldSame_spec _ _ _ _ _ _ _ R3'.out R4.out).mono ?_; rintro e w5 ⟨rfl, hb5'⟩
      have hb5 := below_then hb4 hb5'
      clear hb4 hb5' R3' R4
      go_wp2_with fail
      refine (toDataS_any _ _ _ _ (Hr.out.at_ hb5) (by omega)).mono ?_; rintro e w6 ⟨g6, rfl, hf6, hb6'⟩
      have hb6 := below_then hb5 hb6'
      have R6 := Lib.hid hf6.reads
      clear hb5 hb6' hf6
      go_wp2_with fail
      refine (toDataS_any _ _ _ _ (Hr'.out.at_ hb6) (by omega)).mono ?_; rintro e w7 ⟨g7, rfl, hf7, hb7'⟩
      have hb7 := below_then hb6 hb7'
      have R7 := Lib.hid hf7.reads
      have R6' := Lib.hid (R6.out.at_ hb7')
      clear hb6 hb7' hf7 R6
      go_wp2_with fail
      refine (worldSame_impl _ _ _ _ _ _ _ R6'.out R7.out).mono ?_; rintro e w8 ⟨rfl, hb8'⟩
      have hb8 := below_then hb7 hb8'
      have R6 := Lib.hid (R6'.out.at_ hb8')
      have R7' := Lib.hid (R7.out.at_ hb8')
      clear hb7 hb8' R6' R7
      go_wp2_with fail
      refine (toDataS_any _ _ _ _ (Hr.out.at_ hb8) (by omega)).mono ?_; rintro e w9 ⟨g9, rfl, hf9, hb9'⟩
      have hb9 := below_then hb8 hb9'
      have R9 := Lib.hid hf9.reads
      have R6' := Lib.hid (R6.out.at_ hb9')
      have R7 := Lib.hid (R7'.out.at_ hb9')
      clear hb8 hb9' hf9 R6 R7'
      go_wp2_with fail
      refine (eqDataS_same _ _ _ _ _ _ R6'.out R9.out).mono ?_; rintro e w10 ⟨rfl, hb10'⟩
      have hb10 := below_then hb9 hb10'
      have R7' := Lib.hid (R7.out.at_ hb10')
      clear hb9 hb10' R6' R9 R7
      go_wp2_with fail
      refine (toDataS_any _ _ _ _ (Hr'.out.at_ hb10) (by omega)).mono ?_; rintro e w11 ⟨g11, rfl, hf11, hb11'⟩
      have hb11 := below_then hb10 hb11'
      have R11 := Lib.hid hf11.reads
      have R7 := Lib.hid (R7'.out.at_ hb11')
      clear hb10 hb11' hf11 R7'
      go_wp2_with fail
      refine (eqDataS_same _ _ _ _ _ _ R7.out R11.out).mono ?_; rintro e w12 ⟨rfl, hb12'⟩
      have hb12 := below_then hb11 hb12'
      clear hb11 hb12' R7 R11
      go_wp2_with fail
      go_ret
      exact ⟨rfl, hb12⟩
    · have H1 := Lib.hid (left_ok h1)
      have H2 := Lib.hid (left_no h2)
      go_enter Try.func5, Try.ntmps5
      go_wp2_with fail
      refine (szDataS_any _ _ _ _ _ Hr.out (by omega) (by omega)).mono ?_; rw [H1.out]; rintro e w1 ⟨rfl, hb1⟩
      go_wp2_with fail
      refine (szDataS_any _ _ _ _ _ (Hr'.out.at_ hb1) (by omega) (by omega)).mono ?_; rw [H2.out]; rintro e w2 ⟨rfl, hb2'⟩
      have hb2 := below_then hb1 hb2'
      clear hb1 hb2'
      go_wp2_with fail
      go_ret
      exact ⟨rfl, hb2⟩
  · have H1 := Lib.hid (left_no h1)
    go_enter Try.func5, Try.ntmps5
    go_wp2_with fail
    refine (szDataS_any _ _ _ _ _ Hr.out (by omega) (by omega)).mono ?_; rw [H1.out]; rintro e w1 ⟨rfl, hb1⟩
    go_wp2_with fail
    go_ret
    exact ⟨rfl, hb1⟩

theorem wsOwn : ownKnob Try.prog.godebug = none := by kernel_rfl
theorem wsLaid : laidOutB Try.prog = true := by kernel_rfl

theorem wsLifted (os : Os) (started : os.Started) (H : Type) (enc : TypeId × Value → H) :
    ReturnsInHanded {} Try.checked os 5 .any (Rows.fnExactWorldSameSpec.pre6 enc Try.prog Try.f5 Rows.fnExactWorldSameRow.domain false) (Rows.fnExactWorldSameSpec.post enc Try.prog Try.f5 false true false false) := by
  refine returnsInHanded_of_change (C := Try.checked) wsOwn started (by kernel_rfl) Try.func5
    (ChangeSpec.witness6 (enc := enc) (C := Try.checked) false ⟨#[], #[.slice none 0 0, .slice none 0 0], []⟩ 8 (by kernel_rfl) (by kernel_rfl) (by kernel_rfl) (by kernel_rfl)) ?_
  intro W base args ds gs before hval0 hW hcnd _
  have hval : ∀ (j : Nat) t v, Try.f5.params[j]? = some t → args[j]? = some v → Value.okWide Try.prog W .any base t v := hval0
  have hW' := hW
  obtain ⟨p, q, hA0, hV, rfl, hfz, hnd⟩ := hW
  have hA : DataW.TrodAll enc Try.prog W 0 (fun _ => true) true Try.f5.params.toList args.toList ds p := hA0
  rw [Try.params5] at hA hval
  obtain ⟨v0, v1, d0, d1, p0, p1, hargs, rfl, rfl, h0, h1⟩ := trodAll_two hA
  obtain rfl : args = #[v0, v1] := by cases args; simp_all
  obtain ⟨rfl, rfl⟩ := trodVars_none hV
  have h0k := h0
  have h1k := h1
  obtain ⟨A, l, cap, rfl, hr⟩ := open_das (hval 0 23 v0 rfl rfl) h0
  obtain ⟨A', m, cap', rfl, hr'⟩ := open_das (hval 1 23 v1 rfl rfl) h1
  clear hA0 hval0
  have hlt : ∀ y ∈ p0, y.block < W.heap.size := fun y hy => by simpa using hW'.lt y (by simp [hy])
  have hlt' : ∀ y ∈ p1, y.block < W.heap.size := fun y hy => by simpa using hW'.lt y (by simp [hy])
  refine (worldSame_law A A' l m cap cap' W hr hr').mono fun e W' ⟨he, hb⟩ => ?_
  subst he
  have a0 : DataW.Trod enc Try.prog W' 0 (fun b => decide (b < W.heap.size)) true 23 (.slice A l.length cap) d0 p0 := Below.trod wsLaid (by kernel_rfl) (of_decide_eq_true (by kernel_rfl)) h0k hb hlt
  have a1 : DataW.Trod enc Try.prog W' 0 (fun b => decide (b < W.heap.size)) true 23 (.slice A' m.length cap') d1 p1 := Below.trod wsLaid (by kernel_rfl) (of_decide_eq_true (by kernel_rfl)) h1k hb hlt'
  exact ⟨_, rfl, _, _, _, [], _, [], hW', trodAll_mk1 (shut_bool Try.underlying4 _), trodAll_mk2 a0 a1, rfl, hb.frame _, fun h => by cases h⟩

theorem worldSame_holds : Rows.FnExactWorldSameSaid :=
  OpenClaim.holds_of_wide 5 Try.f5 rfl rfl rfl rfl rfl rfl rfl ⟨rfl, rfl, rfl, rfl, rfl⟩ rfl rfl rfl rfl rfl (by kernel_rfl) Try.func5 (by kernel_rfl)
    (of_decide_eq_true (by kernel_rfl)) (by unfold Func.isWrapper; first | (rw [if_pos (by decide +kernel)]; kernel_rfl) | (rw [if_neg (by decide +kernel)]; exact ⟨rfl, rfl⟩))
    (fun os started H enc _ => wsLifted os started H enc)
#print axioms worldSame_holds
end Go.Proofs.Ythebdlejoficmaa
