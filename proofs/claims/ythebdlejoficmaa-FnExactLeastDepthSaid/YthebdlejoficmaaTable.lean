/-
  What a table of depths says, and what one step does to it. No statement is proved here.
-/
import Derived.Test.YthebdlejoficmaaMost
import Derived.Test.YthebdlejoficmaaDepth
namespace Go.Proofs.Ythebdlejoficmaa
set_option linter.unusedVariables false

/-- A type is made if it is the type of numbers, or one of its constructors has arguments that are made. -/
def mkF (l : List Da) (P : Ty → Prop) (t : Ty) : Prop :=
  t.data = -1 ∨ ∃ (d : Nat) (hd : d < l.length) (m : Nat) (hm : m < l[d].ctors.length), t.data = d ∧ fitsB l[d].ctors[m].index t.index = true ∧ ∀ a ∈ argT l[d].ctors[m] t.index, P a
theorem mkF_mono {l : List Da} {P Q : Ty → Prop} (h : ∀ t, P t → Q t) (t : Ty) (hp : mkF l P t) : mkF l Q t := by
  rcases hp with h0 | ⟨d, hd, m, hm, h1, h2, h3⟩
  · exact .inl h0
  · exact .inr ⟨d, hd, m, hm, h1, h2, fun a ha => h a (h3 a ha)⟩
theorem Dk_up {l : List Da} : ∀ k t, Dk (mkF l) k t → Dk (mkF l) (k + 1) t
  | 0, _, h => h.elim
  | k + 1, t, h => mkF_mono (Dk_up k) t h
theorem Dk_up_le {l : List Da} {j k : Nat} (h : j ≤ k) : ∀ t, Dk (mkF l) j t → Dk (mkF l) k t := by
  induction h with
  | refl => exact fun _ h => h
  | step _ ih => exact fun t ht => Dk_up _ t (ih t ht)
/-- Each entry that isn't 0 is a depth of its type. -/
def Sound (l : List Da) (T : List Int) : Prop := ∀ t, TyIn l.length t → ¬ dep T t = 0 → 0 < dep T t ∧ Dk (mkF l) (dep T t).toNat t
/-- Every type that is made within k rounds has an entry of at most k. -/
def Full (l : List Da) (T : List Int) (k : Nat) (t : Ty) : Prop := Dk (mkF l) k t → ¬ dep T t = 0 ∧ dep T t ≤ k
/-- T' has entries where T has, and none is greater. -/
def Less (T T' : List Int) : Prop := ∀ t, ¬ dep T t = 0 → ¬ dep T' t = 0 ∧ dep T' t ≤ dep T t
theorem Less.refl (T : List Int) : Less T T := fun t h => ⟨h, Int.le_refl _⟩
theorem Full.less {l : List Da} {T T' : List Int} {k : Nat} {t : Ty} (h : Full l T k t) (hl : Less T T') : Full l T' k t := fun hd => by
  obtain ⟨h1, h2⟩ := h hd
  obtain ⟨h3, h4⟩ := hl t h1
  exact ⟨h3, by omega⟩
theorem maxTo_ge {T : List Int} {L : List Ty} : ∀ k, k ≤ L.length → ∀ j (hj : j < L.length), j < k → dep T L[j] ≤ maxTo T L k
  | k + 1, hk, j, hj, hjk => by
    rw [maxTo_succ (by omega)]
    by_cases e : j = k
    · subst e; split <;> omega
    · have h5 : dep T L[j] ≤ maxTo T L k := maxTo_ge k (by omega) j hj (by omega)
      split <;> omega
theorem maxTo_le {T : List Int} {L : List Ty} {b : Int} (h0 : 0 ≤ b) (h : ∀ j (hj : j < L.length), dep T L[j] ≤ b) : ∀ k, k ≤ L.length → maxTo T L k ≤ b
  | 0, _ => h0
  | k + 1, hk => by
    have h1 := maxTo_le h0 h k (by omega)
    have h2 := h k (by omega)
    rw [maxTo_succ (by omega)]
    split <;> omega
/-- What a constructor gives: nothing, or a depth of its type. -/
theorem most_sound {l : List Da} {T : List Int} {d m : Nat} {ix : Int} (hd : d < l.length) (hm : m < l[d].ctors.length) (hf : fitsB l[d].ctors[m].index ix = true) (hs : Sound l T) (hin : ∀ a ∈ argT l[d].ctors[m] ix, TyIn l.length a) (hb : ∀ x ∈ T, 0 ≤ x ∧ x ≤ 5000)
    (h : ¬ mostL T (argT l[d].ctors[m] ix) = 0) : 0 < mostL T (argT l[d].ctors[m] ix) ∧ Dk (mkF l) (mostL T (argT l[d].ctors[m] ix)).toNat ⟨d, ix⟩ := by
  by_cases hz : ∃ a ∈ argT l[d].ctors[m] ix, dep T a = 0
  · exact absurd (by unfold mostL; rw [if_pos hz]) h
  · have he : mostL T (argT l[d].ctors[m] ix) = maxTo T (argT l[d].ctors[m] ix) (argT l[d].ctors[m] ix).length + 1 := by unfold mostL; rw [if_neg hz]
    have hm0 := maxTo_bd hb (argT l[d].ctors[m] ix) (argT l[d].ctors[m] ix).length
    rw [he]
    refine ⟨by omega, ?_⟩
    rw [show (maxTo T (argT l[d].ctors[m] ix) (argT l[d].ctors[m] ix).length + 1).toNat = (maxTo T (argT l[d].ctors[m] ix) (argT l[d].ctors[m] ix).length).toNat + 1 by omega]
    have key : ∀ a ∈ argT l[d].ctors[m] ix, Dk (mkF l) (maxTo T (argT l[d].ctors[m] ix) (argT l[d].ctors[m] ix).length).toNat a := fun a ha => by
      obtain ⟨j, hj, rfl⟩ := List.getElem_of_mem ha
      have hnz : ¬ dep T (argT l[d].ctors[m] ix)[j] = 0 := fun e => hz ⟨_, ha, e⟩
      obtain ⟨h1, h2⟩ := hs _ (hin _ ha) hnz
      have h3 : dep T (argT l[d].ctors[m] ix)[j] ≤ maxTo T (argT l[d].ctors[m] ix) (argT l[d].ctors[m] ix).length := maxTo_ge _ (Nat.le_refl _) j hj hj
      exact Dk_up_le (by omega) _ h2
    exact .inr ⟨d, hd, m, hm, rfl, hf, key⟩
/-- .. and no more than one more than its arguments' depths. -/
theorem most_full {l : List Da} {T : List Int} {L : List Ty} {n : Nat} (hfull : ∀ a ∈ L, Full l T n a) (h : ∀ a ∈ L, Dk (mkF l) n a) : ¬ mostL T L = 0 ∧ mostL T L ≤ n + 1 := by
  have hz : ¬ ∃ a ∈ L, dep T a = 0 := fun ⟨a, ha, e⟩ => (hfull a ha (h a ha)).1 e
  have he : mostL T L = maxTo T L L.length + 1 := by unfold mostL; rw [if_neg hz]
  have hle := maxTo_le (T := T) (L := L) (b := n) (by omega) (fun j hj => (hfull _ (List.getElem_mem hj) (h _ (List.getElem_mem hj))).2) L.length (Nat.le_refl _)
  have hge : 0 ≤ maxTo T L L.length := by
    have : ∀ k, k ≤ L.length → 0 ≤ maxTo T L k := by
      intro k
      induction k with
      | zero => intro _; exact Int.le_refl 0
      | succ k ih =>
        intro hk
        have := ih (by omega)
        rw [maxTo_succ (by omega)]
        split <;> omega
    exact this _ (Nat.le_refl _)
  rw [he]
  omega

/-! One entry that is set. -/
theorem slot_inj {n : Nat} {t u : Ty} (ht : TyIn n t) (hu : TyIn n u) (h1 : ¬ t.data = -1) (h2 : ¬ u.data = -1) (h : slotN t = slotN u) : t = u := by
  obtain ⟨a, b⟩ := t
  obtain ⟨c, e⟩ := u
  have h3 := ht.resolve_left h1
  have h4 := hu.resolve_left h2
  unfold slotN at h
  simp only at *
  have : a = c := by omega
  have : b = e := by omega
  simp_all
theorem dep_set_same {T : List Int} {t : Ty} {v : Int} (h : ¬ t.data = -1) (hs : slotN t < T.length) : dep (T.set (slotN t) v) t = v := by
  rw [dep_data h (by simpa using hs), List.getElem_set_self]
theorem dep_set_other {T : List Int} {t : Ty} {s : Nat} {v : Int} (h : t.data = -1 ∨ ¬ slotN t = s) : dep (T.set s v) t = dep T t := by
  unfold dep
  by_cases hd : t.data = -1
  · rw [if_pos hd, if_pos hd]
  · rw [if_neg hd, if_neg hd]
    have hne := h.resolve_left hd
    simp only [List.getD]
    rw [List.getElem?_set_ne (by omega)]
theorem less_set {T : List Int} {s : Nat} {v : Int} (hs : s < T.length) (h0 : ¬ v = 0) (h : T[s] = 0 ∨ v ≤ T[s]) : Less T (T.set s v) := fun t ht => by
  by_cases e : t.data = -1 ∨ ¬ slotN t = s
  · rw [dep_set_other e]; exact ⟨ht, Int.le_refl _⟩
  · have e1 : ¬ t.data = -1 := fun h => e (.inl h)
    have e2 : slotN t = s := Classical.byContradiction fun h => e (.inr h)
    subst e2
    rw [dep_set_same e1 hs]
    rw [dep_data e1 hs] at ht ⊢
    exact ⟨h0, h.resolve_left ht⟩
theorem sound_set {l : List Da} {T : List Int} {t : Ty} {v : Int} (hT : T.length = l.length * 4) (hs : Sound l T) (ht : TyIn l.length t) (hd : ¬ t.data = -1) (hv : 0 < v) (hk : Dk (mkF l) v.toNat t) : Sound l (T.set (slotN t) v) := fun u hu h0 => by
  by_cases e : u.data = -1 ∨ ¬ slotN u = slotN t
  · rw [dep_set_other e] at h0 ⊢; exact hs u hu h0
  · have e1 : ¬ u.data = -1 := fun h => e (.inl h)
    have e2 : slotN u = slotN t := Classical.byContradiction fun h => e (.inr h)
    have e3 := slot_inj hu ht e1 hd e2
    subst e3
    have hsl : slotN u < T.length := by
      have h3 := hu.resolve_left e1
      unfold slotN; omega
    rw [dep_set_same e1 hsl]
    exact ⟨hv, hk⟩
end Go.Proofs.Ythebdlejoficmaa
