/-
  Whether a type has a value with arguments of known types: the program's closure, the library's function over it, the program's function. No statement is proved here.
-/
import Derived.Test.YthebdlejoficmaaDoorMapTy
import Derived.Test.YthebdlejoficmaaDoorArgs4
import Derived.Outline
namespace Go.Proofs.YthebdlejoficmaaDoor
open Go.RowKit
set_option maxRecDepth 100000
set_option linter.unusedVariables false

/-- A map of positive numbers, behind a pointer. -/
structure MP (w : World) (bp mb n : Nat) (F : Ty → Int) (S : Ty → Prop) : Prop where
  ptr : w.cell? ⟨bp, 0, none⟩ = some (.map (some mb))
  map : MapTy w mb n F S
  pos : ∀ t ∈ tysN 4, S t → 0 < F t
theorem MP.at_ {w w' : World} {bp mb n : Nat} {F : Ty → Int} {S : Ty → Prop} (h : MP w bp mb n F S) (hb : Below w.heap.size w w') : MP w' bp mb n F S :=
  ⟨(hb.cell (p := ⟨bp, 0, none⟩) (Go.block_lt_of_cell h.ptr)).trans h.ptr, h.map.at_ hb, h.pos⟩
theorem MP.alloc {w : World} {bp mb n : Nat} {F : Ty → Int} {S : Ty → Prop} (h : MP w bp mb n F S) (o : Obj) : MP (w.alloc o) bp mb n F S :=
  h.at_ ((Below.refl _ _).alloc (Nat.le_refl _) o)

def AllTo' (S : Ty → Prop) (L : List Ty) (k : Nat) : Prop := ∀ j (h : j < L.length), j < k → S L[j]
theorem AllTo'.zero (S : Ty → Prop) (L : List Ty) : AllTo' S L 0 := fun j _ h => absurd h (by omega)
theorem AllTo'.step {S : Ty → Prop} {L : List Ty} {k : Nat} (h : AllTo' S L k) (hk : k < L.length) (e : S L[k]) : AllTo' S L (k + 1) := by
  intro j hj hjk
  by_cases e' : j = k
  · subst e'; exact e
  · exact h j hj (by omega)
theorem AllTo'.all {S : Ty → Prop} {L : List Ty} {k : Nat} (h : AllTo' S L k) (hk : L.length ≤ k) : ∀ a ∈ L, S a := fun a ha => by
  obtain ⟨j, hj, rfl⟩ := List.getElem_of_mem ha
  exact h j hj (by omega)

end Go.Proofs.YthebdlejoficmaaDoor
