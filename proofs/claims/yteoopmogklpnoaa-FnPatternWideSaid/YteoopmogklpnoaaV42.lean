/-
  Two patterns are drawn: the document's function. No statement is proved here.
-/
import Derived.Test.YteoopmogklpnoaaV39
import Derived.Test.YteoopmogklpnoaaV41
namespace Go.Proofs.Yteoopmogklpnoaa
open Go.RowKit Go.Sort Go.Deep
set_option maxRecDepth 100000
set_option linter.unusedVariables false
theorem wPs_len (l : List Pt) : l.length ≤ wPs l := by rw [wPs_sum]; omega
def ZPa (w : World) (a : Nat) : Prop := w.heap[a]? = some (.cells #[.int .i64 0, .int .i64 0, .int .i64 0, .int .i64 0, .int .i64 0, .slice none 0 0] 50 (0, 0))
theorem ZPa.frP {w w' : World} {a rb : Nat} (h : ZPa w a) (hf : Fr (fun b => b = rb) w w') (hne : a ≠ rb) : w'.heap[a]? = some (.cells #[.int .i64 0, .int .i64 0, .int .i64 0, .int .i64 0, .int .i64 0, .slice none 0 0] 50 (0, 0)) := hf.block h hne
end Go.Proofs.Yteoopmogklpnoaa
