/-
  The law FnExactFormatWorld walked. No statement is proved here.
-/
import Derived.Test.YthebdlejoficmaaDoorFW
import Derived.Deep.RegionWith
namespace Go.Proofs.YthebdlejoficmaaDoor
open Go.RowKit Go.Deep
set_option maxRecDepth 100000
set_option linter.unusedVariables false

theorem fworld_impl (A : Option Addr) (l : List Da) (cap : Nat) (w : World) (hr : RDas w w.heap.size A l) :
    Calls Tryd.prog 13 #[.slice A l.length cap] w fun e w' => e = .returned (.string (fwT l)) ∧ Below w.heap.size w w' := by
  by_cases h : WorldOK l
  · rw [fwT_yes h]; exact fworld_yes A l cap w hr h
  · have Hr := Lib.hid hr
    have HT := Lib.hid (fwT_no h)
    clear hr
    go_enter Tryd.func13, Tryd.ntmps13
    go_wp2_with (go_at_call 27; refine (worldI_no Hr.out h).mono ?_; rintro e w1 ⟨rfl, hb1⟩)
    go_ret
    exact ⟨ret_str HT.out.symm, hb1⟩

set_option maxHeartbeats 800000 in
theorem formatWorld_law (A : Option Addr) (l : List Da) (cap : Nat) (w : World) (hr : RDas w w.heap.size A l) :
    Calls Tryd.prog 4 #[.slice A l.length cap] w fun e w' => e = .returned (.bool true) ∧ Below w.heap.size w w' := by
  have Hr := Lib.hid hr
  clear hr
  by_cases h1 : (wDas l : Int) ≤ 1048576
  · have H1 := Lib.hid (left_ok h1)
    go_enter Tryd.func4, Tryd.ntmps4
    go_wp2_with fail
    refine (szDataS_any _ _ _ _ _ Hr.out (by omega) (by omega)).mono ?_; rw [H1.out]; rintro e w1 ⟨rfl, hb1⟩
    go_wp2_with fail
    refine (toDataS_any _ _ _ _ (Hr.out.at_ hb1) (by omega)).mono ?_; rintro e w3 ⟨g3, rfl, hf3, hb3'⟩
    have hb3 := below_then hb1 hb3'
    have R3 := Lib.hid hf3.reads
    clear hb1 hb3' hf3
    go_wp2_with fail
    refine (fworld_spec _ _ _ _ R3.out).mono ?_; rintro e w5 ⟨rfl, hb5'⟩
    have hb5 := below_then hb3 hb5'
    clear hb3 hb5' R3
    go_wp2_with fail
    refine (toDataS_any _ _ _ _ (Hr.out.at_ hb5) (by omega)).mono ?_; rintro e w6 ⟨g6, rfl, hf6, hb6'⟩
    have hb6 := below_then hb5 hb6'
    have R6 := Lib.hid hf6.reads
    clear hb5 hb6' hf6
    go_wp2_with fail
    refine (fworld_impl _ _ _ _ R6.out).mono ?_; rintro e w8 ⟨rfl, hb8'⟩
    have hb8 := below_then hb6 hb8'
    have R6' := Lib.hid (R6.out.at_ hb8')
    clear hb6 hb8' R6
    go_wp2_with fail
    refine (toDataS_any _ _ _ _ (Hr.out.at_ hb8) (by omega)).mono ?_; rintro e w9 ⟨g9, rfl, hf9, hb9'⟩
    have hb9 := below_then hb8 hb9'
    have R9 := Lib.hid hf9.reads
    have R6 := Lib.hid (R6'.out.at_ hb9')
    clear hb8 hb9' hf9 R6'
    go_wp2_with fail
    refine (eqDataS_same _ _ _ _ _ _ R6.out R9.out).mono ?_; rintro e w10 ⟨rfl, hb10'⟩
    have hb10 := below_then hb9 hb10'
    clear hb9 hb10' R6 R9
    go_wp2_with fail
    go_ret
    exact ⟨rfl, hb10⟩
  · have H1 := Lib.hid (left_no h1)
    go_enter Tryd.func4, Tryd.ntmps4
    go_wp2_with fail
    refine (szDataS_any _ _ _ _ _ Hr.out (by omega) (by omega)).mono ?_; rw [H1.out]; rintro e w1 ⟨rfl, hb1⟩
    go_wp2_with fail
    go_ret
    exact ⟨rfl, hb1⟩

end Go.Proofs.YthebdlejoficmaaDoor
