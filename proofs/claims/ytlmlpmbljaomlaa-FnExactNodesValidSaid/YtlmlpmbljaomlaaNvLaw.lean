/-
  The law FnExactNodesValid walked. No statement is proved here.
-/
import Derived.Test.YtlmlpmbljaomlaaNvI
import Derived.Test.YtlmlpmbljaomlaaNvS
import Derived.Test.YtlmlpmbljaomlaaStTo
import Derived.Test.YtlmlpmbljaomlaaStSz
import Derived.Test.YtlmlpmbljaomlaaStEq
import Derived.Deep.RegionHeld3
namespace Go.Proofs.Ytlmlpmbljaomlaa
open Go.RowKit Go.Sort
set_option maxRecDepth 100000
set_option linter.unusedVariables false

theorem below_up {w w' : World} {m : Nat} (h : Below m w w') (hm : w.heap.size ≤ m) : Below w.heap.size w w' := h.mono hm
set_option maxHeartbeats 3000000 in
theorem nv_law (A : Option Addr) (l : List Nd) (cap : Nat) (w : World) (hr : QNds w 0 w.heap.size A l) :
    Calls Try.prog 3 #[.slice A l.length cap] w fun e w' => e = .returned (.bool true) ∧ Below w.heap.size w w' := by
  have Hr := Lib.hid hr
  clear hr
  by_cases h1 : (wNds l : Int) ≤ 1048576
  case neg =>
    have H1 := Lib.hid (left_no h1)
    go_enter Try.func3, Try.ntmps3
    go_wp2_with (go_at_call 4; refine (szNds_any _ l _ _ _ Hr.out (by omega) (by omega)).mono ?_; rw [H1.out]; rintro e1 w1 ⟨rfl, hb1⟩)
    go_ret
    exact ⟨rfl, hb1⟩
  have H1 := Lib.hid (left_ok h1)
  have hnd : wNds l ≤ 1048576 := by omega
  go_enter Try.func3, Try.ntmps3
  have q : (nvB l != nvB l) = false := by simp
  go_wp2_with (first | (go_at_call 4; refine (szNds_any _ l _ _ _ Hr.out (by omega) (by omega)).mono ?_; rw [H1.out]; rintro e1 w1 ⟨rfl, hb1⟩) | (go_at_call 6; refine (toNds_any _ l _ _ (Hr.out.at_ hb5w) hnd).mono ?_; rintro e6 w6 ⟨g6, rfl, R6', hb6⟩; have R6 := Lib.hid (R6'.low (Nat.zero_le _)); have R56 := Lib.hid (R5.out.at_ hb6); have hb6w := below_aft' hb5w hb6 hb5w.size; clear R6' R5) | (go_at_call 6; refine (toNds_any _ l _ _ (Hr.out.at_ hb3w) hnd).mono ?_; rintro e4 w4 ⟨g4, rfl, R4', hb4⟩; have R4 := Lib.hid (R4'.low (Nat.zero_le _)); have hb4w := below_aft' hb3w hb4 hb3w.size; clear R4') | (go_at_call 6; refine (toNds_any _ l _ _ (Hr.out.at_ hb1) hnd).mono ?_; rintro e2 w2 ⟨g2, rfl, R2', hb2⟩; have R2 := Lib.hid (R2'.low (Nat.zero_le _)); have hb2w := below_aft' hb1 hb2 hb1.size; clear R2') | (go_at_call 5; refine (nv_spec _ l _ _ R2.out).mono ?_; rintro e3 w3 ⟨rfl, hb3⟩; have hb3w := below_aft' hb2w hb3 hb2w.size; clear R2) | (go_at_call 7; refine (nv_impl _ l _ _ R4.out).mono ?_; rintro e5 w5 ⟨rfl, hb5⟩; have R5 := Lib.hid (R4.out.at_ hb5); have hb5w := below_aft' hb4w hb5 hb4w.size; clear R4) | (go_at_call 8; refine (eqNds_same _ _ l _ _ _ R56.out R6.out).mono ?_; rintro e7 w7 ⟨rfl, hb7⟩; have hb7w := below_aft' hb6w hb7 hb6w.size))
  go_ret
  exact ⟨rfl, hb7w⟩
end Go.Proofs.Ytlmlpmbljaomlaa
