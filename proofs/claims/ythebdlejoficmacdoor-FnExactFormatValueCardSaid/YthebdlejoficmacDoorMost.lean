/-
  The depth that a table of depths gives for a type and for a constructor: the document's functions. No statement is proved here.
-/
import Derived.Test.YthebdlejoficmacDoorArgs4
namespace Go.Proofs.YthebdlejoficmacDoor
open Go.RowKit
set_option maxRecDepth 100000
set_option linter.unusedVariables false

/-- The place of a data type with an index in a table. -/
def slotN (t : Ty) : Nat := (t.data * 4 + t.index).toNat
/-- The type of numbers, or a data type within n data types with an index for values. -/
def TyIn (n : Nat) (t : Ty) : Prop := t.data = -1 ∨ (0 ≤ t.data ∧ t.data < n ∧ 0 ≤ t.index ∧ t.index ≤ 3)
def dep (T : List Int) (t : Ty) : Int := if t.data = -1 then 1 else T.getD (slotN t) 0
theorem dep_int {T : List Int} {t : Ty} (h : t.data = -1) : dep T t = 1 := if_pos h
theorem dep_data {T : List Int} {t : Ty} (h : ¬ t.data = -1) (hs : slotN t < T.length) : dep T t = T[slotN t] := by
  unfold dep; rw [if_neg h]; simp [List.getD, List.getElem?_eq_getElem hs]

/-- The greatest depth of the first k arguments. -/
def maxTo (T : List Int) (l : List Ty) : Nat → Int
  | 0 => 0
  | k + 1 => if maxTo T l k < dep T (l.getD k default) then dep T (l.getD k default) else maxTo T l k
noncomputable def mostL (T : List Int) (l : List Ty) : Int := @ite _ (∃ a ∈ l, dep T a = 0) (Classical.propDecidable _) 0 (maxTo T l l.length + 1)

theorem most_no {T : List Int} {l : List Ty} {k : Nat} (hk : k < l.length) (h : dep T l[k] = 0) : 0 = mostL T l := by
  unfold mostL; rw [if_pos ⟨l[k], List.getElem_mem hk, h⟩]
theorem most_yes {T : List Int} {l : List Ty} (h : ∀ j (hj : j < l.length), ¬ dep T l[j] = 0) : maxTo T l l.length + 1 = mostL T l := by
  unfold mostL
  rw [if_neg]
  rintro ⟨a, ha, h0⟩
  obtain ⟨j, hj, rfl⟩ := List.getElem_of_mem ha
  exact h j hj h0
theorem maxTo_succ {T : List Int} {l : List Ty} {k : Nat} (hk : k < l.length) : maxTo T l (k + 1) = if maxTo T l k < dep T l[k] then dep T l[k] else maxTo T l k := by
  show (if maxTo T l k < dep T (l.getD k default) then dep T (l.getD k default) else maxTo T l k) = _
  have e : l.getD k default = l[k] := by simp [List.getD, List.getElem?_eq_getElem hk]
  rw [e]
def Known (T : List Int) (l : List Ty) (k : Nat) : Prop := ∀ j (hj : j < l.length), j < k → ¬ dep T l[j] = 0
theorem Known.zero (T : List Int) (l : List Ty) : Known T l 0 := fun j _ h => absurd h (by omega)
theorem Known.step {T : List Int} {l : List Ty} {k : Nat} (h : Known T l k) (hk : k < l.length) (e : ¬ dep T l[k] = 0) : Known T l (k + 1) := by
  intro j hj hjk
  by_cases e' : j = k
  · subst e'; exact e
  · exact h j hj (by omega)
theorem dep_bd {T : List Int} (hT : ∀ x ∈ T, 0 ≤ x ∧ x ≤ 5000) (t : Ty) : 0 ≤ dep T t ∧ dep T t ≤ 5000 := by
  unfold dep
  by_cases h : t.data = -1
  · rw [if_pos h]; omega
  · rw [if_neg h]
    by_cases hs : slotN t < T.length
    · simp only [List.getD, List.getElem?_eq_getElem hs, Option.getD_some]
      exact hT _ (List.getElem_mem hs)
    · simp [List.getD, List.getElem?_eq_none (Nat.le_of_not_lt hs)]
theorem maxTo_bd {T : List Int} (hT : ∀ x ∈ T, 0 ≤ x ∧ x ≤ 5000) (l : List Ty) : ∀ k, 0 ≤ maxTo T l k ∧ maxTo T l k ≤ 5000
  | 0 => by show 0 ≤ (0 : Int) ∧ (0 : Int) ≤ 5000; omega
  | k + 1 => by
    have h1 := maxTo_bd hT l k
    have h2 := dep_bd hT (l.getD k default)
    show 0 ≤ (if maxTo T l k < dep T (l.getD k default) then dep T (l.getD k default) else maxTo T l k) ∧ (if maxTo T l k < dep T (l.getD k default) then dep T (l.getD k default) else maxTo T l k) ≤ 5000
    split <;> omega

end Go.Proofs.YthebdlejoficmacDoor
