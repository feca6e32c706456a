/-
  The types of a world in a row; the types that have a value with arguments of known types, and the others, in two rows. No statement is proved here.
-/
import Derived.Test.YthebdlejoficmaaDoorHasMade2
import Derived.Maps.AppendAt
namespace Go.Proofs.YthebdlejoficmaaDoor
open Go.RowKit
set_option maxRecDepth 100000
set_option linter.unusedVariables false

theorem types_at {n k i : Nat} (hi : i < 4) (h : k * 4 + 1 + i < (tysN n).length) : (tysN n)[k * 4 + 1 + i] = ⟨k, i⟩ := by
  have e : (tysN n)[k * 4 + 1 + i]? = some (tyAt (k * 4 + i)) := by
    rw [show k * 4 + 1 + i = (k * 4 + i) + 1 by omega]
    unfold tysN
    rw [List.getElem?_cons_succ, List.getElem?_map]
    rw [tysN_len] at h
    rw [List.getElem?_range (by omega)]
    rfl
  rw [List.getElem?_eq_getElem h] at e
  injection e with e
  rw [e]
  unfold tyAt
  congr 1 <;> omega

theorem OTys.snoc {w w1 : World} {lo : Nat} {v v' : Value} {l : List Ty} {k : Nat} {xs : List Value} {d i : Int} (hx : TyRow l xs k) (hk : k < l.length) (hxl : xs.length = k * 2) (ho : w1.ownsRow lo 29 2 v' (k + 1) (xs ++ [.int .i64 d, .int .i64 i])) (e : l[k] = ⟨d, i⟩) : OTys w1 lo v' l (k + 1) := by
  have := hx.snoc hk hxl
  rw [e] at this
  exact ⟨_, ho, this⟩

end Go.Proofs.YthebdlejoficmaaDoor
