/-
  Plain mathematics: a growing family of sets over a list comes to rest within as many steps as the list is long. No program is imported here.
-/
namespace Go.Proofs.Ythebdlejoficmaa
section
variable {α : Type} (F : (α → Prop) → α → Prop)
/-- Those that are made within k rounds. -/
def Dk : Nat → α → Prop
  | 0 => fun _ => False
  | k + 1 => F (Dk k)
/-- The members of a list for which something holds, counted. -/
noncomputable def cnt (ts : List α) (P : α → Prop) : Nat := (ts.filter fun t => @decide (P t) (Classical.propDecidable _)).length
theorem cnt_le (ts : List α) (P : α → Prop) : cnt ts P ≤ ts.length := List.length_filter_le _ _
theorem cnt_mono : ∀ (ts : List α) (P Q : α → Prop), (∀ t ∈ ts, P t → Q t) → cnt ts P ≤ cnt ts Q
  | [], _, _, _ => Nat.le_refl _
  | t :: ts, P, Q, h => by
    have ih := cnt_mono ts P Q (fun x hx => h x (List.mem_cons_of_mem _ hx))
    unfold cnt at ih ⊢
    by_cases hp : P t
    · have hq := h t (List.mem_cons_self) hp
      rw [List.filter_cons_of_pos (by simpa using hp), List.filter_cons_of_pos (by simpa using hq)]
      simp only [List.length_cons]; omega
    · rw [List.filter_cons_of_neg (by simpa using hp)]
      by_cases hq : Q t
      · rw [List.filter_cons_of_pos (by simpa using hq)]; simp only [List.length_cons]; omega
      · rw [List.filter_cons_of_neg (by simpa using hq)]; exact ih
theorem cnt_lt : ∀ (ts : List α) (P Q : α → Prop), (∀ t ∈ ts, P t → Q t) → (∃ t ∈ ts, Q t ∧ ¬ P t) → cnt ts P + 1 ≤ cnt ts Q
  | [], _, _, _, ⟨t, ht, _⟩ => by cases ht
  | t :: ts, P, Q, h, ⟨x, hx, hq, hp⟩ => by
    have hm := cnt_mono ts P Q (fun y hy => h y (List.mem_cons_of_mem _ hy))
    by_cases ht : Q t ∧ ¬ P t
    · unfold cnt at hm ⊢
      rw [List.filter_cons_of_neg (by simpa using ht.2), List.filter_cons_of_pos (by simpa using ht.1)]
      simp only [List.length_cons]; omega
    · have hxt : x ∈ ts := by
        rcases List.mem_cons.1 hx with rfl | hx'
        · exact absurd ⟨hq, hp⟩ ht
        · exact hx'
      have ih := cnt_lt ts P Q (fun y hy => h y (List.mem_cons_of_mem _ hy)) ⟨x, hxt, hq, hp⟩
      unfold cnt at ih ⊢
      by_cases hp' : P t
      · have hq' := h t (List.mem_cons_self) hp'
        rw [List.filter_cons_of_pos (by simpa using hp'), List.filter_cons_of_pos (by simpa using hq')]
        simp only [List.length_cons]; omega
      · have hq' : ¬ Q t := fun e => ht ⟨e, hp'⟩
        rw [List.filter_cons_of_neg (by simpa using hp'), List.filter_cons_of_neg (by simpa using hq')]; exact ih

variable {F} {ts : List α} (hF : ∀ P Q : α → Prop, (∀ t ∈ ts, P t → Q t) → ∀ t ∈ ts, F P t → F Q t)
include hF
theorem Dk_step : ∀ k, ∀ t ∈ ts, Dk F k t → Dk F (k + 1) t
  | 0, _, _, h => h.elim
  | k + 1, t, ht, h => hF (Dk F k) (Dk F (k + 1)) (Dk_step k) t ht h
theorem Dk_le {j k : Nat} (h : j ≤ k) : ∀ t ∈ ts, Dk F j t → Dk F k t := by
  induction h with
  | refl => exact fun _ _ h => h
  | step _ ih => exact fun t ht h => Dk_step hF _ t ht (ih t ht h)
/-- Once a round makes nothing new, none does. -/
theorem Dk_rest {k : Nat} (h : ∀ t ∈ ts, Dk F (k + 1) t → Dk F k t) : ∀ j, k ≤ j → ∀ t ∈ ts, Dk F j t → Dk F k t := by
  intro j hj
  induction hj with
  | refl => exact fun _ _ h => h
  | step _ ih => exact fun t ht hd => h t ht (hF _ _ ih t ht hd)
/-- Whatever is made at all is made within as many rounds as there are members. -/
theorem Dk_bound {t : α} (ht : t ∈ ts) {j : Nat} (h : Dk F j t) : Dk F ts.length t := by
  by_cases hs : ∃ k, k ≤ ts.length ∧ ∀ t ∈ ts, Dk F (k + 1) t → Dk F k t
  · obtain ⟨k, hk, hr⟩ := hs
    by_cases hj : k ≤ j
    · exact Dk_le hF hk t ht (Dk_rest hF hr j hj t ht h)
    · exact Dk_le hF (by omega) t ht h
  · exfalso
    have hc : ∀ k, k ≤ ts.length + 1 → k ≤ cnt ts (Dk F k) := by
      intro k
      induction k with
      | zero => intro _; omega
      | succ k ih =>
        intro hk
        have h1 := ih (by omega)
        have h2 : ∃ t ∈ ts, Dk F (k + 1) t ∧ ¬ Dk F k t := by
          apply Classical.byContradiction
          intro hn
          apply hs
          refine ⟨k, by omega, fun t ht hd => ?_⟩
          apply Classical.byContradiction
          intro hnd
          exact hn ⟨t, ht, hd, hnd⟩
        have := cnt_lt ts (Dk F k) (Dk F (k + 1)) (Dk_step hF k) h2
        omega
    have h1 := hc (ts.length + 1) (by omega)
    have h2 := cnt_le ts (Dk F (ts.length + 1))
    omega
end
end Go.Proofs.Ythebdlejoficmaa
