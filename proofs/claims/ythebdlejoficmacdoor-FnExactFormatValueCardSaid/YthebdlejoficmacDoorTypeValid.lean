/-
  The function FnExactTypeValid returns true for every list of data types and every type, and both read behind the call as they read before. No condition.
-/
import Derived.Test.YthebdlejoficmacDoorTypeV
import Derived.Test.YthebdlejoficmacDoorWorldValid
import Derived.Lib.SmallJoins
import Derived.Deep.RegionWith
namespace Go.Proofs.YthebdlejoficmacDoor
open Go.RowKit Go.Deep
open Go.ChangeShapes Go.WideShapes Go.ChangeAt
set_option maxRecDepth 100000
set_option linter.unusedVariables false

/-- A type in a block of its own. -/
def Bx (w : World) (b : Nat) (t : Ty) : Prop := w.cell? ⟨b, 0, none⟩ = some (.int .i64 t.data) ∧ w.cell? ⟨b, 1, none⟩ = some (.int .i64 t.index)
theorem Bx.at_ {w w' : World} {b : Nat} {t : Ty} (h : Bx w b t) (hb : Below w.heap.size w w') : Bx w' b t :=
  ⟨(hb.cell (p := ⟨b, 0, none⟩) (Go.block_lt_of_cell h.1)).trans h.1, (hb.cell (p := ⟨b, 1, none⟩) (Go.block_lt_of_cell h.2)).trans h.2⟩
theorem Bx.new (w : World) (t : Ty) (T : TypeId) : Bx (w.alloc (.cells #[.int .i64 t.data, .int .i64 t.index] T)) w.heap.size t := ⟨by simp [go_sem], by simp [go_sem]⟩
theorem below_drew1 {w wr : World} (h : Below w.heap.size w wr) : Below w.heap.size w wr.drew := h.drew

/-- An argument that is a type. -/
theorem open_ty {H : Type} {enc : TypeId × Value → H} {w : World} {spare : Nat → Bool} {held : Bool} {v : Value} {d : DataW H} {ps : List MemPlace} {b0 : Nat} {r : Reach} (hv : Value.okWide Tryd.prog w r b0 24 v) (h : DataW.Trod enc Tryd.prog w 0 spare held 24 v d ps) :
    ∃ t : Ty, v = .agg #[.int .i64 t.data, .int .i64 t.index] := by
  obtain ⟨c0, c1, y0, y1, m, rfl, rfl, rfl, hy0, hy1⟩ := Go.Joins.open_agg2 Tryd.underlying24 (by kernel_rfl) (by kernel_rfl) hv h
  obtain ⟨a, e0, _, _⟩ := DataW.trod_int Tryd.underlying3 hy0
  obtain ⟨b, e1, _, _⟩ := DataW.trod_int Tryd.underlying3 hy1
  simp only [List.cons.injEq, and_true] at e0 e1
  subst e0 e1
  exact ⟨⟨a, b⟩, rfl⟩

end Go.Proofs.YthebdlejoficmacDoor
