/-
  Whether a type has a value with arguments of known types: the program's function. No statement is proved here.
-/
import Derived.Test.YthebdlejoficmaaDoorHasMade
import Derived.Test.YthebdlejoficmaaDoorTable4
namespace Go.Proofs.YthebdlejoficmaaDoor
open Go.RowKit
set_option maxRecDepth 100000
set_option linter.unusedVariables false

theorem ctor_at {l : List Da} {t : Ty} {x : Int} (h : x ∈ ctR l t) : ∃ (d : Nat) (hd : d < l.length) (m : Nat) (hm : m < l[d].ctors.length), t.data = d ∧ x = m ∧ fitsB l[d].ctors[m].index t.index = true ∧ agR l t x = argT l[d].ctors[m] t.index := by
  obtain ⟨ht, d, m, hd, h1, h2, hm⟩ := mem_ctR h
  obtain ⟨td, ti⟩ := t
  simp only at h1
  subst h1
  have h' := h
  rw [ctR_data ht hd] at h'
  obtain ⟨m', hm', h3, h4⟩ := fits_of_mem _ (Nat.le_refl _) h'
  subst h3
  exact ⟨d, hd, m', hm', rfl, rfl, h4, agR_yes h hd hm'⟩
theorem mkF_iff {l : List Da} {S : Ty → Prop} {t : Ty} (hok : TyOK l t) (hd : ¬ t.data = -1) : mkF l S t ↔ ∃ x ∈ ctR l t, ∀ a ∈ agR l t x, S a := by
  constructor
  · rintro (h0 | ⟨d, hdl, m, hm, h1, h2, h3⟩)
    · exact absurd h0 hd
    · obtain ⟨td, ti⟩ := t
      simp only at h1
      subst h1
      have hx : (m : Int) ∈ ctR l ⟨d, ti⟩ := by rw [ctR_data hok hdl]; exact mem_of_fits hm h2 _ hm (Nat.le_refl _)
      exact ⟨m, hx, by rw [agR_yes hx hdl hm]; exact h3⟩
  · rintro ⟨x, hx, h⟩
    obtain ⟨d, hdl, m, hm, h1, h2, h3, h4⟩ := ctor_at hx
    rw [h4] at h
    exact .inr ⟨d, hdl, m, hm, h1, h3, h⟩
theorem tys_mono {n m : Nat} (h : n ≤ m) {t : Ty} (ht : t ∈ tysN n) : t ∈ tysN m := by
  rcases mem_tys.1 ht with h1 | h1
  · exact mem_tys.2 (.inl h1)
  · exact mem_tys.2 (.inr (by omega))
theorem args_tys4 {l : List Da} {t : Ty} (hw : WorldOK l) (ht : t ∈ tysN l.length) : ∀ x ∈ ctR l t, ∀ a ∈ agR l t x, a ∈ tysN 4 := fun x hx a ha => by
  obtain ⟨d, hdl, m, hm, h1, h2, h3, h4⟩ := ctor_at hx
  rw [h4] at ha
  exact tys_mono hw.1 (args_tys hw hdl hm (tys_ix ht).1 (tys_ix ht).2 a ha)

def NoneTo (l : List Da) (t : Ty) (S : Ty → Prop) (j : Nat) : Prop := ∀ i (h : i < (ctR l t).length), i < j → ¬ ∀ a ∈ agR l t (ctR l t)[i], S a
theorem NoneTo.zero (l : List Da) (t : Ty) (S : Ty → Prop) : NoneTo l t S 0 := fun j _ h => absurd h (by omega)
theorem NoneTo.step {l : List Da} {t : Ty} {S : Ty → Prop} {k : Nat} (h : NoneTo l t S k) (hk : k < (ctR l t).length) (e : ¬ ∀ a ∈ agR l t (ctR l t)[k], S a) : NoneTo l t S (k + 1) := by
  intro j hj hjk
  by_cases e' : j = k
  · subst e'; exact e
  · exact h j hj (by omega)
theorem NoneTo.all {l : List Da} {t : Ty} {S : Ty → Prop} {k : Nat} (h : NoneTo l t S k) (hk : (ctR l t).length ≤ k) : ¬ ∃ x ∈ ctR l t, ∀ a ∈ agR l t x, S a := fun ⟨x, hx, ha⟩ => by
  obtain ⟨j, hj, rfl⟩ := List.getElem_of_mem hx
  exact h j hj (by omega) ha
theorem agR_max (l : List Da) (t : Ty) (x : Int) : (agR l t x).length ≤ maxLen := by have := agR_len l t x; unfold maxLen; omega
theorem below_after {w wr w' : World} {B : Nat} (h : Below B w wr) (hb : Below wr.heap.size wr w') (hB : B ≤ wr.heap.size) : Below B w w' := h.trans (hb.mono hB)

end Go.Proofs.YthebdlejoficmaaDoor
