/-
  Lists of integers compared, marked and looked at again. No statement is proved here.
-/
import Derived.Test.YthebdlejoficmacDoorCtors2
import Derived.Test.YthebdlejoficmacDoorSz
import Derived.BigQuiet
namespace Go.Proofs.YthebdlejoficmacDoor
open Go.RowKit Go.Sort
set_option maxRecDepth 100000
set_option linter.unusedVariables false

/-- Integers that a slice holds. -/
def RInts (w : World) (A : Option Addr) (l : List Int) : Prop := l.length ≤ maxLen ∧ ∀ k (h : k < l.length), ∃ b off, A = some ⟨b, off, none⟩ ∧ b < w.heap.size ∧ w.cell? ⟨b, off + k, none⟩ = some (.int .i64 l[k])
theorem RInts.at_ {w w' : World} {A : Option Addr} {l : List Int} (h : RInts w A l) (hb : Below w.heap.size w w') : RInts w' A l :=
  ⟨h.1, fun k hk => by
    obtain ⟨b, off, e, hbl, h1⟩ := h.2 k hk
    exact ⟨b, off, e, Nat.lt_of_lt_of_le hbl hb.size, (hb.cell (p := ⟨b, off + k, none⟩) hbl).trans h1⟩⟩
/-- A row of integers of the call's own, as a slice. -/
theorem OInts.form {w : World} {lo : Nat} {v : Value} {xs : List Int} (h : OInts w lo v xs) (hx : xs.length ≤ maxLen) : ∃ A cap, v = .slice A xs.length cap ∧ RInts w A xs := by
  have h' : w.ownsRow lo 3 1 v xs.length (xs.map (Value.int .i64)) := h
  rcases h'.2 with ⟨rfl, h0⟩ | ⟨g, cap, cur, rfl, hb, hg, hnc, hcm, hcs, htake⟩
  · exact ⟨none, 0, by rw [h0], hx, fun k hk => absurd hk (by omega)⟩
  · refine ⟨_, cap, rfl, hx, fun k hk => ⟨g, 0, rfl, ?_, ?_⟩⟩
    · exact (h'.lt g rfl).2
    · rw [Nat.zero_add, h'.cellAt k (by omega), List.getElem?_map, List.getElem?_eq_getElem hk]; rfl

/-- The marks from a number on. -/
def mk (k : Int) : Nat → List Int
  | 0 => []
  | n + 1 => mk k n ++ [k + n]
theorem mk_length (k : Int) : ∀ n, (mk k n).length = n
  | 0 => rfl
  | n + 1 => by show (mk k n ++ _).length = _; rw [List.length_append, mk_length k n]; rfl
theorem mk_get (k : Int) : ∀ n j, j < n → (mk k n)[j]? = some (k + j)
  | n + 1, j, h => by
    show (mk k n ++ [k + (n : Int)])[j]? = _
    by_cases e : j = n
    · subst e; rw [List.getElem?_append_right (by rw [mk_length]; exact Nat.le_refl _), mk_length]; simp
    · rw [List.getElem?_append_left (by rw [mk_length]; omega)]; exact mk_get k n j (by omega)

/-- A row whose first cells are marked. -/
def Marked (w : World) (lo : Nat) (v : Value) (n : Nat) (k : Int) (j : Nat) : Prop := ∃ xs, w.ownsRow lo 3 1 v n xs ∧ ∀ i, i < j → xs[i]? = some (.int .i64 (k + i))

end Go.Proofs.YthebdlejoficmacDoor
