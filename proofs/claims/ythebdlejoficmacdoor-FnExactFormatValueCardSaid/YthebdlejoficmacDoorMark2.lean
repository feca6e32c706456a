/-
  Data types that are marked where they lie; integers that are marked and looked at again. No statement is proved here.
-/
import Derived.Test.YthebdlejoficmacDoorMark
import Derived.Test.YthebdlejoficmacDoorInts
namespace Go.Proofs.YthebdlejoficmacDoor
open Go.RowKit
set_option maxRecDepth 100000
set_option linter.unusedVariables false

/-- The marks lie there. -/
def RMk (w : World) (A : Option Addr) (n : Nat) (k : Int) : Prop := ∀ j, j < n → ∃ b off, A = some ⟨b, off, none⟩ ∧ b < w.heap.size ∧ w.cell? ⟨b, off + j, none⟩ = some (.int .i64 (k + j))
theorem RMk.at_ {w w' : World} {A : Option Addr} {n : Nat} {k : Int} (h : RMk w A n k) (hb : Below w.heap.size w w') : RMk w' A n k := fun j hj => by
  obtain ⟨b, off, e, hbl, h1⟩ := h j hj
  exact ⟨b, off, e, Nat.lt_of_lt_of_le hbl hb.size, (hb.cell (p := ⟨b, off + j, none⟩) hbl).trans h1⟩
theorem Marked.reads {w : World} {lo g n cap : Nat} {k : Int} (h : Marked w lo (.slice (some ⟨g, 0, none⟩) n cap) n k n) : RMk w (some ⟨g, 0, none⟩) n k := fun j hj => by
  obtain ⟨xs, ho, hx⟩ := h
  refine ⟨g, 0, rfl, own_lt ho, ?_⟩
  rw [Nat.zero_add, ho.cellAt j (by omega)]
  exact hx j hj

end Go.Proofs.YthebdlejoficmacDoor
