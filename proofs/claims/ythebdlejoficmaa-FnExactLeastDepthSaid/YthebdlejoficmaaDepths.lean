/-
  The least depths of all types that have values, in a map: the program's function. No statement is proved here.
-/
import Derived.Test.YthebdlejoficmaaSplit2
namespace Go.Proofs.Ythebdlejoficmaa
open Go.RowKit Go.Maps
set_option maxRecDepth 100000
set_option linter.unusedVariables false

/-- The types that are made within k rounds, and those that are not, yet. -/
def Mk (l : List Da) (k : Nat) (t : Ty) : Prop := t ∈ tysN l.length ∧ Dk (mkF l) k t
noncomputable def opn (l : List Da) (k : Nat) : List Ty := (tysN l.length).filter (fun t => dec (¬ Dk (mkF l) k t))
/-- The types that have values. -/
def Inh (l : List Da) (t : Ty) : Prop := t ∈ tysN l.length ∧ ∃ k, Dk (mkF l) k t
theorem mem_opn {l : List Da} {k : Nat} {t : Ty} : t ∈ opn l k ↔ t ∈ tysN l.length ∧ ¬ Dk (mkF l) k t := by
  unfold opn
  rw [List.mem_filter]
  constructor
  · rintro ⟨h1, h2⟩
    refine ⟨h1, fun h => ?_⟩
    rw [dec_f (fun hn => hn h)] at h2; cases h2
  · rintro ⟨h1, h2⟩
    exact ⟨h1, dec_t h2⟩
theorem opn_zero (l : List Da) : opn l 0 = tysN l.length := by
  unfold opn
  exact List.filter_eq_self.2 (fun t _ => dec_t (fun h => h.elim))
theorem mkF_Mk {l : List Da} (hw : WorldOK l) {k : Nat} {t : Ty} (ht : t ∈ tysN l.length) : mkF l (Mk l k) t ↔ Dk (mkF l) (k + 1) t :=
  ⟨mkF_tys hw (Mk l k) (Dk (mkF l) k) (fun _ _ h => h.2) t ht, mkF_tys hw (Dk (mkF l) k) (Mk l k) (fun t h h' => ⟨h, h'⟩) t ht⟩
theorem fil_all (P : Ty → Prop) (U : List Ty) : fil P U U.length = U.filter (fun t => dec (P t)) := by unfold fil; rw [List.take_of_length_le (Nat.le_refl _)]
theorem opn_next {l : List Da} (hw : WorldOK l) (k : Nat) : fil (fun t => ¬ mkF l (Mk l k) t) (opn l k) (opn l k).length = opn l (k + 1) := by
  rw [fil_all]
  unfold opn
  rw [List.filter_filter]
  refine List.filter_congr (fun t ht => ?_)
  rw [dec_congr (not_congr (mkF_Mk hw ht))]
  by_cases h : Dk (mkF l) (k + 1) t
  · rw [dec_f (fun hn => hn h)]; rfl
  · rw [dec_t h, dec_t (fun hn => h (Dk_up _ _ hn))]; rfl
/-- What is made in round k + 1. -/
noncomputable def new (l : List Da) (k : Nat) : List Ty := fil (mkF l (Mk l k)) (opn l k) (opn l k).length
theorem mem_new {l : List Da} (hw : WorldOK l) {k : Nat} {t : Ty} : t ∈ new l k ↔ t ∈ tysN l.length ∧ Dk (mkF l) (k + 1) t ∧ ¬ Dk (mkF l) k t := by
  unfold new
  rw [fil_all, List.mem_filter, mem_opn]
  constructor
  · rintro ⟨⟨h1, h2⟩, h3⟩
    refine ⟨h1, Classical.byContradiction fun h => ?_, h2⟩
    rw [dec_f (fun hn => h ((mkF_Mk hw h1).1 hn))] at h3; cases h3
  · rintro ⟨h1, h2, h3⟩
    exact ⟨⟨h1, h3⟩, dec_t ((mkF_Mk hw h1).2 h2)⟩
theorem len_parts (P : Ty → Prop) (U : List Ty) : (U.filter (fun t => dec (P t))).length + (U.filter (fun t => dec (¬ P t))).length = U.length := by
  induction U with
  | nil => rfl
  | cons t U ih =>
    by_cases h : P t
    · rw [List.filter_cons_of_pos (by rw [dec_t h]), List.filter_cons_of_neg (by rw [dec_f (fun hn => hn h)]; simp)]
      simp only [List.length_cons]; omega
    · rw [List.filter_cons_of_neg (by rw [dec_f h]; simp), List.filter_cons_of_pos (by rw [dec_t h])]
      simp only [List.length_cons]; omega
theorem new_len {l : List Da} (hw : WorldOK l) (k : Nat) : (new l k).length + (opn l (k + 1)).length = (opn l k).length := by
  rw [← opn_next hw, new, fil_all, fil_all]
  exact len_parts _ _
theorem new_dep {l : List Da} (hw : WorldOK l) {k : Nat} {t : Ty} (h : t ∈ new l k) : (k : Int) + 1 = ldep l t := by
  obtain ⟨_, h1, h2⟩ := (mem_new hw).1 h
  refine ldep_eq (.inr ⟨by omega, by rw [show ((k : Int) + 1).toNat = k + 1 by omega]; exact h1, fun j hj hd => h2 (Dk_up_le (by omega) t hd)⟩)
theorem ldep_le {l : List Da} {t : Ty} {k : Nat} (h : Dk (mkF l) k t) : ldep l t ≤ k := by
  rcases ldep_is l t with ⟨h1, _⟩ | ⟨h1, _, h3⟩
  · omega
  · have : ¬ k < (ldep l t).toNat := fun hk => h3 k hk h
    omega
theorem mk_pos {l : List Da} {k : Nat} (hk : k ≤ 17) : ∀ t ∈ tysN 4, Mk l k t → 0 < ldep l t ∧ ldep l t ≤ 5000 := fun t _ h => ⟨ldep_pos h.2, by have := ldep_le h.2; omega⟩
/-- Once a round makes nothing, all have been made. -/
theorem mk_all {l : List Da} (hw : WorldOK l) {k : Nat} (h : new l k = []) (t : Ty) : Mk l k t ↔ Inh l t := by
  constructor
  · exact fun h => ⟨h.1, k, h.2⟩
  · rintro ⟨h1, j, h2⟩
    refine ⟨h1, ?_⟩
    have hr : ∀ t ∈ tysN l.length, Dk (mkF l) (k + 1) t → Dk (mkF l) k t := fun t ht h3 => Classical.byContradiction fun h4 => by
      have : t ∈ new l k := (mem_new hw).2 ⟨ht, h3, h4⟩
      rw [h] at this; simp at this
    by_cases hj : k ≤ j
    · exact Dk_rest (mkF_tys hw) hr j hj t h1 h2
    · exact Dk_up_le (by omega) t h2
/-- After j of a round's types. -/
def Mk' (l : List Da) (k j : Nat) (t : Ty) : Prop := Mk l k t ∨ ∃ i, ∃ h : i < (new l k).length, i < j ∧ (new l k)[i] = t
theorem mk'_zero (l : List Da) (k : Nat) (t : Ty) : Mk l k t ↔ Mk' l k 0 t := ⟨.inl, fun h => h.resolve_right (fun ⟨_, _, h, _⟩ => absurd h (by omega))⟩
theorem mk'_step {l : List Da} {k j : Nat} (hj : j < (new l k).length) (t : Ty) : (t = (new l k)[j] ∨ Mk' l k j t) ↔ Mk' l k (j + 1) t := by
  constructor
  · rintro (rfl | h | ⟨i, h, h1, h2⟩)
    · exact .inr ⟨j, hj, by omega, rfl⟩
    · exact .inl h
    · exact .inr ⟨i, h, by omega, h2⟩
  · rintro (h | ⟨i, h, h1, h2⟩)
    · exact .inr (.inl h)
    · by_cases e : i = j
      · subst e; exact .inl h2.symm
      · exact .inr (.inr ⟨i, h, by omega, h2⟩)
theorem mk'_all {l : List Da} (hw : WorldOK l) {k : Nat} (t : Ty) : Mk' l k (new l k).length t ↔ Mk l (k + 1) t := by
  constructor
  · rintro (h | ⟨i, h, _, rfl⟩)
    · exact ⟨h.1, Dk_up _ _ h.2⟩
    · obtain ⟨h1, h2, _⟩ := (mem_new hw).1 (List.getElem_mem h)
      exact ⟨h1, h2⟩
  · rintro ⟨h1, h2⟩
    by_cases h3 : Dk (mkF l) k t
    · exact .inl ⟨h1, h3⟩
    · obtain ⟨i, hi, e⟩ := List.getElem_of_mem ((mem_new hw).2 ⟨h1, h2, h3⟩)
      exact .inr ⟨i, hi, hi, e⟩

/-- Every block of w but one reads as it did. -/
def KeepBut (w w' : World) (b : Nat) : Prop := w.heap.size ≤ w'.heap.size ∧ ∀ k, k < w.heap.size → k ≠ b → w'.heap[k]? = w.heap[k]?
theorem KeepBut.refl (w : World) (b : Nat) : KeepBut w w b := ⟨Nat.le_refl _, fun _ _ _ => rfl⟩
theorem KeepBut.alloc {w w' : World} {b : Nat} (h : KeepBut w w' b) (o : Obj) : KeepBut w (w'.alloc o) b := ⟨by simp; have := h.1; omega, fun k hk hne => (Below.heap_alloc _ _ _ (Nat.lt_of_lt_of_le hk h.1)).trans (h.2 k hk hne)⟩
theorem KeepBut.grown {w w' w'' : World} {b : Nat} (h : KeepBut w w' b) (hg : w'.grownBy w'' (some b)) : KeepBut w w'' b := ⟨Nat.le_trans h.1 hg.size, fun k hk hne => (hg.block k (Nat.lt_of_lt_of_le hk h.1) (fun e => hne (by injection e))).trans (h.2 k hk hne)⟩
theorem OTys.but {w w' : World} {lo b : Nat} {u : Value} {l : List Ty} {k : Nat} (h : OTys w lo u l k) (hk : KeepBut w w' b) (hb : b < lo) : OTys w' lo u l k := by
  obtain ⟨xs, ho, hx⟩ := h
  refine ⟨xs, ⟨ho.1, ?_⟩, hx⟩
  rcases ho.2 with h0 | ⟨g, cap, cur, a1, a2, a3, a4⟩
  · exact .inl h0
  · exact .inr ⟨g, cap, cur, a1, a2, (hk.2 g (heap_lt a3) (by omega)).trans a3, a4⟩
def lenV : Value → Nat
  | .slice _ n _ => n
  | _ => 0
theorem new_le (l : List Da) (hl : l.length ≤ 4) (k : Nat) : (new l k).length ≤ 17 := by
  have h1 := fil_len (mkF l (Mk l k)) (opn l k) (opn l k).length
  have h2 : (opn l k).length ≤ (tysN l.length).length := List.length_filter_le _ _
  rw [tysN_len] at h2
  unfold new
  omega
theorem opn_le (l : List Da) (hl : l.length ≤ 4) (k : Nat) : (opn l k).length ≤ 17 := by
  have h2 : (opn l k).length ≤ (tysN l.length).length := List.length_filter_le _ _
  rw [tysN_len] at h2
  omega
theorem key_of' {t : Ty} (ht : t ∈ tysN 4) : keyOf Try.prog 34 (.agg #[.int .i64 t.data, .int .i64 t.index]) = some (keyL t) := key_of ht
theorem int_wf {k : Nat} (h : k ≤ 100) : (Lit.int .i64 ((k : Int) + 1)).wf = true := WalkArith.wf_i64 (by omega)
end Go.Proofs.Ythebdlejoficmaa
