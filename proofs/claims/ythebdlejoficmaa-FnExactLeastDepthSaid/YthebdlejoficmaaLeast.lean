/-
  The least depth of a type; that a table of depths holds it after as many passes as there are types. No statement is proved here.
-/
import Derived.Test.YthebdlejoficmaaTable3
namespace Go.Proofs.Ythebdlejoficmaa
set_option maxRecDepth 100000
set_option linter.unusedVariables false

theorem least_of {P : Nat → Prop} {k : Nat} (h : P k) : ∃ n, n ≤ k ∧ P n ∧ ∀ j, j < n → ¬ P j := by
  induction k using Nat.strongRecOn with
  | ind k ih =>
    by_cases hs : ∃ j, j < k ∧ P j
    · obtain ⟨j, hj, hp⟩ := hs
      obtain ⟨n, h1, h2, h3⟩ := ih j hj hp
      exact ⟨n, by omega, h2, h3⟩
    · exact ⟨k, Nat.le_refl _, h, fun j hj hp => hs ⟨j, hj, hp⟩⟩

/-- n is the least depth of t, or 0 if t has no values. -/
def Ld (l : List Da) (t : Ty) (n : Int) : Prop := (n = 0 ∧ ∀ k, ¬ Dk (mkF l) k t) ∨ (0 < n ∧ Dk (mkF l) n.toNat t ∧ ∀ j, j < n.toNat → ¬ Dk (mkF l) j t)
theorem ld_exists (l : List Da) (t : Ty) : ∃ n, Ld l t n := by
  by_cases h : ∃ k, Dk (mkF l) k t
  · obtain ⟨k, hk⟩ := h
    obtain ⟨n, _, h2, h3⟩ := least_of (P := fun k => Dk (mkF l) k t) hk
    have hn : 0 < n := by
      rcases Nat.eq_zero_or_pos n with rfl | h
      · exact h2.elim
      · exact h
    exact ⟨(n : Int), .inr ⟨by omega, by rw [Int.toNat_natCast]; exact h2, fun j hj => h3 j (by omega)⟩⟩
  · exact ⟨0, .inl ⟨rfl, fun k hk => h ⟨k, hk⟩⟩⟩
theorem ld_unique {l : List Da} {t : Ty} {n m : Int} (h : Ld l t n) (h' : Ld l t m) : n = m := by
  rcases h with ⟨rfl, h1⟩ | ⟨h0, h1, h2⟩
  · rcases h' with ⟨rfl, _⟩ | ⟨_, h4, _⟩
    · rfl
    · exact absurd h4 (h1 _)
  · rcases h' with ⟨rfl, h3⟩ | ⟨h3, h4, h5⟩
    · exact absurd h1 (h3 _)
    · have a1 : ¬ n.toNat < m.toNat := fun h => h5 _ h h1
      have a2 : ¬ m.toNat < n.toNat := fun h => h2 _ h h4
      omega
noncomputable def ldep (l : List Da) (t : Ty) : Int := Classical.choose (ld_exists l t)
theorem ldep_is (l : List Da) (t : Ty) : Ld l t (ldep l t) := Classical.choose_spec (ld_exists l t)
theorem ldep_eq {l : List Da} {t : Ty} {n : Int} (h : Ld l t n) : n = ldep l t := ld_unique h (ldep_is l t)
theorem ldep_nonneg (l : List Da) (t : Ty) : 0 ≤ ldep l t := by
  rcases ldep_is l t with ⟨h, _⟩ | ⟨h, _⟩ <;> omega
theorem ldep_pos {l : List Da} {t : Ty} {k : Nat} (h : Dk (mkF l) k t) : 0 < ldep l t := by
  rcases ldep_is l t with ⟨_, h1⟩ | ⟨h1, _⟩
  · exact absurd h (h1 _)
  · exact h1
theorem ldep_int {l : List Da} {t : Ty} (h : t.data = -1) : (1 : Int) = ldep l t := by
  refine ldep_eq (.inr ⟨by omega, .inl h, fun j hj => ?_⟩)
  have : j = 0 := by omega
  subst this
  exact fun h => h

/-- The types of a world: that of numbers, and each data type with each index. -/
def tysN (n : Nat) : List Ty := ⟨-1, 0⟩ :: (List.range (n * 4)).map tyAt
theorem tysN_len (n : Nat) : (tysN n).length = n * 4 + 1 := by simp [tysN]
theorem mem_tys {n : Nat} {t : Ty} : t ∈ tysN n ↔ t = ⟨-1, 0⟩ ∨ (0 ≤ t.data ∧ t.data < n ∧ 0 ≤ t.index ∧ t.index ≤ 3) := by
  unfold tysN
  rw [List.mem_cons, List.mem_map]
  constructor
  · rintro (h | ⟨s, hs, rfl⟩)
    · exact .inl h
    · have := List.mem_range.1 hs
      right; unfold tyAt; simp only; omega
  · rintro (h | h)
    · exact .inl h
    · right
      have hin : TyIn n t := .inr h
      obtain ⟨e, hs⟩ := in_tyAt hin (by omega)
      exact ⟨slotN t, List.mem_range.2 hs, e.symm⟩
theorem tys_in {n : Nat} {t : Ty} (h : t ∈ tysN n) : TyIn n t := by
  rcases mem_tys.1 h with rfl | h
  · exact .inl rfl
  · exact .inr h
theorem tys_ix {n : Nat} {t : Ty} (h : t ∈ tysN n) : 0 ≤ t.index ∧ t.index ≤ 3 := by
  rcases mem_tys.1 h with rfl | h
  · exact ⟨Int.le_refl 0, by decide⟩
  · exact ⟨h.2.2.1, h.2.2.2⟩
theorem tys_bd {n : Nat} {t : Ty} (h : t ∈ tysN n) : -1 ≤ t.data ∧ t.data ≤ n := by
  rcases mem_tys.1 h with rfl | h
  · exact ⟨Int.le_refl _, by simp only; omega⟩
  · omega
theorem ok_tys {l : List Da} {t : Ty} (h : TyOK l t) : t ∈ tysN l.length := by
  obtain ⟨d, i⟩ := t
  have h2 := h.2
  by_cases h1 : d = -1
  · subst h1
    rw [argB_int rfl] at h2
    have : i = 0 := of_decide_eq_true h2
    subst this
    exact mem_tys.2 (.inl rfl)
  · rw [argB_data h1] at h2
    exact mem_tys.2 (.inr (of_decide_eq_true h2))
theorem tys_ok {l : List Da} {t : Ty} (hw : WorldOK l) (h : t ∈ tysN l.length) : TyOK l t := by
  refine ⟨hw, ?_⟩
  rcases mem_tys.1 h with rfl | h
  · rfl
  · rw [argB_data (by omega)]; exact decide_eq_true h
theorem args_tys {l : List Da} (h : WorldOK l) {d m : Nat} (hd : d < l.length) (hm : m < l[d].ctors.length) {ix : Int} (h0 : 0 ≤ ix) (h3 : ix ≤ 3) : ∀ a ∈ argT l[d].ctors[m] ix, a ∈ tysN l.length := by
  intro a ha
  obtain ⟨hi, hargs⟩ := ctor_parts (world_ctor h hd hm)
  have hin := args_in h hd hm h0 h3 a ha
  unfold argT at ha
  obtain ⟨b, hb, rfl⟩ := List.mem_map.1 ha
  have hB := hargs b hb
  by_cases hb1 : b.data = -1
  · rw [argB_int hb1] at hB
    have hb2 : b.index = 0 := of_decide_eq_true hB
    have e : argOf l[d].ctors[m] ix b = b := argOf_other (by omega)
    rw [e]
    refine mem_tys.2 (.inl ?_)
    obtain ⟨x, y⟩ := b
    simp only at hb1 hb2
    subst hb1 hb2
    rfl
  · refine mem_tys.2 (.inr ?_)
    refine hin.resolve_left ?_
    unfold argOf
    split <;> exact hb1
/-- What is made depends on the types of the world alone. -/
theorem mkF_tys {l : List Da} (h : WorldOK l) : ∀ P Q : Ty → Prop, (∀ t ∈ tysN l.length, P t → Q t) → ∀ t ∈ tysN l.length, mkF l P t → mkF l Q t := by
  intro P Q hPQ t ht hp
  rcases hp with h0 | ⟨d, hd, m, hm, h1, h2, h3⟩
  · exact .inl h0
  · exact .inr ⟨d, hd, m, hm, h1, h2, fun a ha => hPQ a (args_tys h hd hm (tys_ix ht).1 (tys_ix ht).2 a ha) (h3 a ha)⟩
/-- A table holds the least depths behind its last pass. -/
theorem dep_ldep {l : List Da} {T : List Int} (hw : WorldOK l) (h : St l T (l.length * 4 + 1) 0 0) {t : Ty} (ht : t ∈ tysN l.length) : dep T t = ldep l t := by
  have hin := tys_in ht
  have hb : ∀ j, Dk (mkF l) j t → Dk (mkF l) (l.length * 4 + 1) t := fun j hj => by
    have := Dk_bound (mkF_tys hw) ht hj
    rwa [tysN_len] at this
  by_cases h0 : dep T t = 0
  · rw [h0]
    refine ldep_eq (.inl ⟨rfl, fun k hk => ?_⟩)
    exact (h.full _ (Nat.le_refl _) t hin (hb k hk)).1 h0
  · obtain ⟨h1, h2⟩ := h.sound t hin h0
    refine ldep_eq (.inr ⟨h1, h2, fun j hj hd => ?_⟩)
    by_cases hj2 : j ≤ l.length * 4 + 1
    · have := (h.full j hj2 t hin hd).2
      omega
    · have := (h.full _ (Nat.le_refl _) t hin (hb j hd)).2
      omega
end Go.Proofs.Ythebdlejoficmaa
