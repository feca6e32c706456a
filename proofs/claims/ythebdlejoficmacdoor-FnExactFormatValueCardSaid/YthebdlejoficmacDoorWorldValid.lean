/-
  The function FnExactWorldValid returns true for every list of data types, and the list reads behind the call as it read before. No condition.
-/
import Derived.Test.YthebdlejoficmacDoorWorld2
import Derived.Test.YthebdlejoficmacDoorEq
import Derived.Test.YthebdlejoficmacDoorSz
import Derived.Test.YthebdlejoficmacDoorOpen
namespace Go.Proofs.YthebdlejoficmacDoor
open Go.RowKit Go.Deep
open Go.ChangeShapes Go.WideShapes Go.ChangeAt
set_option maxRecDepth 100000
set_option linter.unusedVariables false

theorem RDas.at_ {w W : World} {A : Option Addr} {l : List Da} (h : RDas w w.heap.size A l) (hb : Below w.heap.size w W) : RDas W W.heap.size A l := h.keep (fun p hp => hb.cell hp) hb.size
theorem below_then {w w1 w2 : World} (h : Below w.heap.size w w1) (h' : Below w1.heap.size w1 w2) : Below w.heap.size w w2 := h.trans (h'.mono h.size)

theorem wvOwn : ownKnob Tryd.prog.godebug = none := by kernel_rfl
theorem wvLaid : laidOutB Tryd.prog = true := by kernel_rfl

end Go.Proofs.YthebdlejoficmacDoor
