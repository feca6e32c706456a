/-
  The constructors that can make values of a type: the document's function. No statement is proved here.
-/
import Derived.Test.YthebdlejoficmaaDoorCtors
import Derived.Test.YthebdlejoficmaaDoorEq
import Derived.Lib.QuietBelow
import Derived.Deep.QuietTactic
namespace Go.Proofs.YthebdlejoficmaaDoor
open Go.RowKit Go.Sort
set_option maxRecDepth 100000
set_option linter.unusedVariables false

theorem cell_one_one (w : World) (x : Value) (t : TypeId) : ∀ j u, [x][j]? = some u → (w.alloc (.cells #[x] t)).cell? ((⟨w.heap.size, 0, none⟩ : Addr).add j) = some u := by
  intro j u hj
  match j, hj with
  | 0, hj => simp at hj; subst hj; simp [Addr.add, go_sem]

end Go.Proofs.YthebdlejoficmaaDoor
