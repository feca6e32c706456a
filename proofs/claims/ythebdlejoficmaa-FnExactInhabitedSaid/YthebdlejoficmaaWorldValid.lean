/-
  The function FnExactWorldValid returns true for every list of data types, and the list reads behind the call as it read before. No condition.
-/
import Derived.Test.YthebdlejoficmaaWorld2
import Derived.Test.YthebdlejoficmaaEq
import Derived.Test.YthebdlejoficmaaSz
import Derived.Test.YthebdlejoficmaaOpen
namespace Go.Proofs.Ythebdlejoficmaa
open Go.RowKit Go.Deep
open Go.ChangeShapes Go.WideShapes Go.ChangeAt
set_option maxRecDepth 100000
set_option linter.unusedVariables false

theorem RDas.at_ {w W : World} {A : Option Addr} {l : List Da} (h : RDas w w.heap.size A l) (hb : Below w.heap.size w W) : RDas W W.heap.size A l := h.keep (fun p hp => hb.cell hp) hb.size
theorem below_then {w w1 w2 : World} (h : Below w.heap.size w w1) (h' : Below w1.heap.size w1 w2) : Below w.heap.size w w2 := h.trans (h'.mono h.size)

set_option maxHeartbeats 800000 in
theorem worldValid_law (A : Option Addr) (l : List Da) (cap : Nat) (w : World) (hr : RDas w w.heap.size A l) :
    Calls Try.prog 4 #[.slice A l.length cap] w fun e w' => e = .returned (.bool true) ∧ Below w.heap.size w w' := by
  have Hr := Lib.hid hr
  clear hr
  by_cases h1 : (wDas l : Int) ≤ 1048576
  · have H1 := Lib.hid (left_ok h1)
    go_enter Try.func4, Try.ntmps4
    go_wp2_with fail
    refine (szDataS_any _ _ _ _ _ Hr.out (by omega) (by omega)).mono ?_; rw [H1.out]; rintro e w1 ⟨rfl, hb1⟩
    go_wp2_with fail
    refine (toDataS_any _ _ _ _ (Hr.out.at_ hb1) (by omega)).mono ?_; rintro e w3 ⟨g3, rfl, hf3, hb3'⟩
    have hb3 := below_then hb1 hb3'
    have R3 := Lib.hid hf3.reads
    clear hb1 hb3' hf3
    go_wp2_with fail
    refine (worldValid_spec _ _ _ _ R3.out).mono ?_; rintro e w5 ⟨rfl, hb5'⟩
    have hb5 := below_then hb3 hb5'
    clear hb3 hb5' R3
    go_wp2_with fail
    refine (toDataS_any _ _ _ _ (Hr.out.at_ hb5) (by omega)).mono ?_; rintro e w6 ⟨g6, rfl, hf6, hb6'⟩
    have hb6 := below_then hb5 hb6'
    have R6 := Lib.hid hf6.reads
    clear hb5 hb6' hf6
    go_wp2_with fail
    refine (worldValid_impl _ _ _ _ R6.out).mono ?_; rintro e w8 ⟨rfl, hb8'⟩
    have hb8 := below_then hb6 hb8'
    have R6' := Lib.hid (R6.out.at_ hb8')
    clear hb6 hb8' R6
    go_wp2_with fail
    refine (toDataS_any _ _ _ _ (Hr.out.at_ hb8) (by omega)).mono ?_; rintro e w9 ⟨g9, rfl, hf9, hb9'⟩
    have hb9 := below_then hb8 hb9'
    have R9 := Lib.hid hf9.reads
    have R6 := Lib.hid (R6'.out.at_ hb9')
    clear hb8 hb9' hf9 R6'
    go_wp2_with fail
    refine (eqDataS_same _ _ _ _ _ _ R6.out R9.out).mono ?_; rintro e w10 ⟨rfl, hb10'⟩
    have hb10 := below_then hb9 hb10'
    clear hb9 hb10' R6 R9
    go_wp2_with fail
    go_ret
    exact ⟨rfl, hb10⟩
  · have H1 := Lib.hid (left_no h1)
    go_enter Try.func4, Try.ntmps4
    go_wp2_with fail
    refine (szDataS_any _ _ _ _ _ Hr.out (by omega) (by omega)).mono ?_; rw [H1.out]; rintro e w1 ⟨rfl, hb1⟩
    go_wp2_with fail
    go_ret
    exact ⟨rfl, hb1⟩

theorem wvOwn : ownKnob Try.prog.godebug = none := by kernel_rfl
theorem wvLaid : laidOutB Try.prog = true := by kernel_rfl

theorem wvLifted (os : Os) (started : os.Started) (H : Type) (enc : TypeId × Value → H) :
    ReturnsInHanded {} Try.checked os 4 .any (Rows.fnExactWorldValidSpec.pre6 enc Try.prog Try.f4 Rows.fnExactWorldValidRow.domain false) (Rows.fnExactWorldValidSpec.post enc Try.prog Try.f4 false true false false) := by
  refine returnsInHanded_of_change (C := Try.checked) wvOwn started (by kernel_rfl) Try.func4
    (ChangeSpec.witness6 (enc := enc) (C := Try.checked) false ⟨#[], #[.slice none 0 0], []⟩ 8 (by kernel_rfl) (by kernel_rfl) (by kernel_rfl) (by kernel_rfl)) ?_
  intro W base args ds gs before hval0 hW hcnd _
  have hval : ∀ (j : Nat) t v, Try.f4.params[j]? = some t → args[j]? = some v → Value.okWide Try.prog W .any base t v := hval0
  have hW' := hW
  obtain ⟨p, q, hA0, hV, rfl, hfz, hnd⟩ := hW
  have hA : DataW.TrodAll enc Try.prog W 0 (fun _ => true) true Try.f4.params.toList args.toList ds p := hA0
  rw [Try.params4] at hA hval
  obtain ⟨v0, d0, hargs, rfl, h0⟩ := trodAll_one hA
  obtain rfl : args = #[v0] := by cases args; simp_all
  obtain ⟨rfl, rfl⟩ := trodVars_none hV
  have h0k := h0
  obtain ⟨A, l, cap, rfl, hr⟩ := open_das (hval 0 23 v0 rfl rfl) h0
  clear hA0 hval0
  have hlt : ∀ y ∈ p, y.block < W.heap.size := fun y hy => by simpa using hW'.lt y (by simp [hy])
  refine (worldValid_law A l cap W hr).mono fun e W' ⟨he, hb⟩ => ?_
  subst he
  have a0 : DataW.Trod enc Try.prog W' 0 (fun b => decide (b < W.heap.size)) true 23 (.slice A l.length cap) d0 p := Below.trod wvLaid (by kernel_rfl) (of_decide_eq_true (by kernel_rfl)) h0k hb hlt
  exact ⟨_, rfl, _, _, _, [], _, [], hW', trodAll_mk1 (shut_bool Try.underlying4 _), trodAll_mk1 a0, rfl, hb.frame _, fun h => by cases h⟩

theorem worldValid_holds : Rows.FnExactWorldValidSaid :=
  OpenClaim.holds_of_wide 4 Try.f4 rfl rfl rfl rfl rfl rfl rfl ⟨rfl, rfl, rfl, rfl, rfl⟩ rfl rfl rfl rfl rfl (by kernel_rfl) Try.func4 (by kernel_rfl)
    (of_decide_eq_true (by kernel_rfl)) (by unfold Func.isWrapper; first | (rw [if_pos (by decide +kernel)]; kernel_rfl) | (rw [if_neg (by decide +kernel)]; exact ⟨rfl, rfl⟩))
    (fun os started H enc _ => wvLifted os started H enc)
#print axioms worldValid_holds
end Go.Proofs.Ythebdlejoficmaa
