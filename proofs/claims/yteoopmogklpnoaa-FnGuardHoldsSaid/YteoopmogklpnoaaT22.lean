/-
  What the statements draw, by their own functions. No statement is proved here.
-/
import Derived.Test.YteoopmogklpnoaaT19
namespace Go.Proofs.Yteoopmogklpnoaa
open Go.RowKit Go.Deep
set_option maxRecDepth 100000
set_option linter.unusedVariables false
theorem BoxT.keep {w w' : World} {b : Nat} {t : Ty} (h : BoxT w b t) (hk : w'.heap[b]? = w.heap[b]?) : BoxT w' b t := hk.trans h
end Go.Proofs.Yteoopmogklpnoaa
