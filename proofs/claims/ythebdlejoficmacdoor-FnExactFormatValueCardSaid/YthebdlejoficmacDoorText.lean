/-
  The text of a mark. No statement is proved here.
-/
import Derived.Test.YthebdlejoficmacDoorMem
import Derived.Laws.BytesString
namespace Go.Proofs.YthebdlejoficmacDoor
open Go.RowKit
set_option maxRecDepth 100000
set_option linter.unusedVariables false

/-- A string of one byte. -/
def one (x : Int) : ByteArray := ByteArray.empty.push (UInt8.ofNat x.toNat)
theorem one_size (x : Int) : (one x).size = 1 := rfl
theorem conv_one (w : World) (x : Int) : (Go.convert 75 9 (.slice (some ⟨w.heap.size, 0, none⟩) 1 1)).run Tryd.prog (w.alloc (.cells #[.int .u8 x] 5)) = .ok (.string (one x)) (w.alloc (.cells #[.int .u8 x] 5)) := by
  rw [run_convert_bytes_string _ 75 9 5 _ 1 1 Tryd.underlying75 Tryd.underlying5 Tryd.underlying9]
  exact run_bytesToString _ ⟨w.heap.size, 0, none⟩ 1 1 [x] (by simp [loadCells, go_sem])
theorem quo_le {m : Int} (h : 0 < m) : 0 ≤ m / 10 ∧ m / 10 + 1 ≤ m := by omega

end Go.Proofs.YthebdlejoficmacDoor
