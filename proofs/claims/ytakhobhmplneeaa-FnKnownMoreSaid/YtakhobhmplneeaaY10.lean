/-
  Plain mathematics: a growing family of sets over a list comes to rest within as many steps as the list is long. No program is imported here.
-/
import Derived.Test.YtakhobhmplneeaaY09
namespace Go.Proofs.Ytakhobhmplneeaa
section
variable {α : Type} (F : (α → Prop) → α → Prop)
/-- Those that are made within k rounds. -/
def Dk : Nat → α → Prop
  | 0 => fun _ => False
  | k + 1 => F (Dk k)
/-- The members of a list for which something holds, counted. -/
noncomputable def cnt (ts : List α) (P : α → Prop) : Nat := (ts.filter fun t => @decide (P t) (Classical.propDecidable _)).length
theorem cnt_le (ts : List α) (P : α → Prop) : cnt ts P ≤ ts.length := List.length_filter_le _ _
theorem cnt_mono : ∀ (ts : List α) (P Q : α → Prop), (∀ t ∈ ts, P t → Q t) → cnt ts P ≤ cnt ts Q
  | [], _, _, _ => Nat.le_refl _
  | t :: ts, P, Q, h => by
    have ih := cnt_mono ts P Q (fun x hx => h x (List.mem_cons_of_mem _ hx))
    unfold cnt at ih ⊢
    by_cases hp : P t
    · have hq := h t (List.mem_cons_self) hp
      rw [List.filter_cons_of_pos (by simpa using hp), List.filter_cons_of_pos (by simpa using hq)]
      simp only [List.length_cons]; omega
    · rw [List.filter_cons_of_neg (by simpa using hp)]
      by_cases hq : Q t
      · rw [List.filter_cons_of_pos (by simpa using hq)]; simp only [List.length_cons]; omega
      · rw [List.filter_cons_of_neg (by simpa using hq)]; exact ih
theorem cnt_lt : ∀ (ts : List α) (P Q : α → Prop), (∀ t ∈ ts, P t → Q t) → (∃ t ∈ ts, Q t ∧ ¬ P t) → cnt ts P + 1 ≤ cnt ts Q
  | [], _, _, _, ⟨t, ht, _⟩ => by cases ht
  | t :: ts, P, Q, h, ⟨x, hx, hq, hp⟩ => by
    have hm := cnt_mono ts P Q (fun y hy => h y (List.mem_cons_of_mem _ hy))
    by_cases ht : Q t ∧ ¬ P t
    · unfold cnt at hm ⊢
      rw [List.filter_cons_of_neg (by simpa using ht.2), List.filter_cons_of_pos (by simpa using ht.1)]
      simp only [List.length_cons]; omega
    · have hxt : x ∈ ts := by
        rcases List.mem_cons.1 hx with rfl | hx'
        · exact absurd ⟨hq, hp⟩ ht
        · exact hx'
      have ih := cnt_lt ts P Q (fun y hy => h y (List.mem_cons_of_mem _ hy)) ⟨x, hxt, hq, hp⟩
      unfold cnt at ih ⊢
      by_cases hp' : P t
      · have hq' := h t (List.mem_cons_self) hp'
        rw [List.filter_cons_of_pos (by simpa using hp'), List.filter_cons_of_pos (by simpa using hq')]
        simp only [List.length_cons]; omega
      · have hq' : ¬ Q t := fun e => ht ⟨e, hp'⟩
        rw [List.filter_cons_of_neg (by simpa using hp'), List.filter_cons_of_neg (by simpa using hq')]; exact ih
variable {F} {ts : List α} (hF : ∀ P Q : α → Prop, (∀ t ∈ ts, P t → Q t) → ∀ t ∈ ts, F P t → F Q t)
include hF
theorem Dk_step : ∀ k, ∀ t ∈ ts, Dk F k t → Dk F (k + 1) t
  | 0, _, _, h => h.elim
  | k + 1, t, ht, h => hF (Dk F k) (Dk F (k + 1)) (Dk_step k) t ht h
theorem Dk_le {j k : Nat} (h : j ≤ k) : ∀ t ∈ ts, Dk F j t → Dk F k t := by
  induction h with
  | refl => exact fun _ _ h => h
  | step _ ih => exact fun t ht h => Dk_step hF _ t ht (ih t ht h)
/-- Once a round makes nothing new, none does. -/
theorem Dk_rest {k : Nat} (h : ∀ t ∈ ts, Dk F (k + 1) t → Dk F k t) : ∀ j, k ≤ j → ∀ t ∈ ts, Dk F j t → Dk F k t := by
  intro j hj
  induction hj with
  | refl => exact fun _ _ h => h
  | step _ ih => exact fun t ht hd => h t ht (hF _ _ ih t ht hd)
/-- Whatever is made at all is made within as many rounds as there are members. -/
theorem Dk_bound {t : α} (ht : t ∈ ts) {j : Nat} (h : Dk F j t) : Dk F ts.length t := by
  by_cases hs : ∃ k, k ≤ ts.length ∧ ∀ t ∈ ts, Dk F (k + 1) t → Dk F k t
  · obtain ⟨k, hk, hr⟩ := hs
    by_cases hj : k ≤ j
    · exact Dk_le hF hk t ht (Dk_rest hF hr j hj t ht h)
    · exact Dk_le hF (by omega) t ht h
  · exfalso
    have hc : ∀ k, k ≤ ts.length + 1 → k ≤ cnt ts (Dk F k) := by
      intro k
      induction k with
      | zero => intro _; omega
      | succ k ih =>
        intro hk
        have h1 := ih (by omega)
        have h2 : ∃ t ∈ ts, Dk F (k + 1) t ∧ ¬ Dk F k t := by
          apply Classical.byContradiction
          intro hn
          apply hs
          refine ⟨k, by omega, fun t ht hd => ?_⟩
          apply Classical.byContradiction
          intro hnd
          exact hn ⟨t, ht, hd, hnd⟩
        have := cnt_lt ts (Dk F k) (Dk F (k + 1)) (Dk_step hF k) h2
        omega
    have h1 := hc (ts.length + 1) (by omega)
    have h2 := cnt_le ts (Dk F (ts.length + 1))
    omega
end
end Go.Proofs.Ytakhobhmplneeaa
/-
  What a table of depths says, and what one step does to it. No statement is proved here.
-/
namespace Go.Proofs.Ytakhobhmplneeaa
set_option linter.unusedVariables false
/-- A type is made if it is the type of numbers, or one of its constructors has arguments that are made. -/
def mkF (l : List Da) (P : Ty → Prop) (t : Ty) : Prop :=
  t.data = -1 ∨ ∃ (d : Nat) (hd : d < l.length) (m : Nat) (hm : m < l[d].ctors.length), t.data = d ∧ fitsB l[d].ctors[m].index t.index = true ∧ ∀ a ∈ argT l[d].ctors[m] t.index, P a
theorem mkF_mono {l : List Da} {P Q : Ty → Prop} (h : ∀ t, P t → Q t) (t : Ty) (hp : mkF l P t) : mkF l Q t := by
  rcases hp with h0 | ⟨d, hd, m, hm, h1, h2, h3⟩
  · exact .inl h0
  · exact .inr ⟨d, hd, m, hm, h1, h2, fun a ha => h a (h3 a ha)⟩
theorem Dk_up {l : List Da} : ∀ k t, Dk (mkF l) k t → Dk (mkF l) (k + 1) t
  | 0, _, h => h.elim
  | k + 1, t, h => mkF_mono (Dk_up k) t h
theorem Dk_up_le {l : List Da} {j k : Nat} (h : j ≤ k) : ∀ t, Dk (mkF l) j t → Dk (mkF l) k t := by
  induction h with
  | refl => exact fun _ h => h
  | step _ ih => exact fun t ht => Dk_up _ t (ih t ht)
/-- Each entry that isn't 0 is a depth of its type. -/
def Sound (l : List Da) (T : List Int) : Prop := ∀ t, TyIn l.length t → ¬ dep T t = 0 → 0 < dep T t ∧ Dk (mkF l) (dep T t).toNat t
/-- Every type that is made within k rounds has an entry of at most k. -/
def Full (l : List Da) (T : List Int) (k : Nat) (t : Ty) : Prop := Dk (mkF l) k t → ¬ dep T t = 0 ∧ dep T t ≤ k
/-- T' has entries where T has, and none is greater. -/
def Less (T T' : List Int) : Prop := ∀ t, ¬ dep T t = 0 → ¬ dep T' t = 0 ∧ dep T' t ≤ dep T t
theorem Less.refl (T : List Int) : Less T T := fun t h => ⟨h, Int.le_refl _⟩
theorem Full.less {l : List Da} {T T' : List Int} {k : Nat} {t : Ty} (h : Full l T k t) (hl : Less T T') : Full l T' k t := fun hd => by
  obtain ⟨h1, h2⟩ := h hd
  obtain ⟨h3, h4⟩ := hl t h1
  exact ⟨h3, by omega⟩
theorem maxTo_ge {T : List Int} {L : List Ty} : ∀ k, k ≤ L.length → ∀ j (hj : j < L.length), j < k → dep T L[j] ≤ maxTo T L k
  | k + 1, hk, j, hj, hjk => by
    rw [maxTo_succ (by omega)]
    by_cases e : j = k
    · subst e; split <;> omega
    · have h5 : dep T L[j] ≤ maxTo T L k := maxTo_ge k (by omega) j hj (by omega)
      split <;> omega
theorem maxTo_le {T : List Int} {L : List Ty} {b : Int} (h0 : 0 ≤ b) (h : ∀ j (hj : j < L.length), dep T L[j] ≤ b) : ∀ k, k ≤ L.length → maxTo T L k ≤ b
  | 0, _ => h0
  | k + 1, hk => by
    have h1 := maxTo_le h0 h k (by omega)
    have h2 := h k (by omega)
    rw [maxTo_succ (by omega)]
    split <;> omega
/-- What a constructor gives: nothing, or a depth of its type. -/
theorem most_sound {l : List Da} {T : List Int} {d m : Nat} {ix : Int} (hd : d < l.length) (hm : m < l[d].ctors.length) (hf : fitsB l[d].ctors[m].index ix = true) (hs : Sound l T) (hin : ∀ a ∈ argT l[d].ctors[m] ix, TyIn l.length a) (hb : ∀ x ∈ T, 0 ≤ x ∧ x ≤ 5000)
    (h : ¬ mostL T (argT l[d].ctors[m] ix) = 0) : 0 < mostL T (argT l[d].ctors[m] ix) ∧ Dk (mkF l) (mostL T (argT l[d].ctors[m] ix)).toNat ⟨d, ix⟩ := by
  by_cases hz : ∃ a ∈ argT l[d].ctors[m] ix, dep T a = 0
  · exact absurd (by unfold mostL; rw [if_pos hz]) h
  · have he : mostL T (argT l[d].ctors[m] ix) = maxTo T (argT l[d].ctors[m] ix) (argT l[d].ctors[m] ix).length + 1 := by unfold mostL; rw [if_neg hz]
    have hm0 := maxTo_bd hb (argT l[d].ctors[m] ix) (argT l[d].ctors[m] ix).length
    rw [he]
    refine ⟨by omega, ?_⟩
    rw [show (maxTo T (argT l[d].ctors[m] ix) (argT l[d].ctors[m] ix).length + 1).toNat = (maxTo T (argT l[d].ctors[m] ix) (argT l[d].ctors[m] ix).length).toNat + 1 by omega]
    have key : ∀ a ∈ argT l[d].ctors[m] ix, Dk (mkF l) (maxTo T (argT l[d].ctors[m] ix) (argT l[d].ctors[m] ix).length).toNat a := fun a ha => by
      obtain ⟨j, hj, rfl⟩ := List.getElem_of_mem ha
      have hnz : ¬ dep T (argT l[d].ctors[m] ix)[j] = 0 := fun e => hz ⟨_, ha, e⟩
      obtain ⟨h1, h2⟩ := hs _ (hin _ ha) hnz
      have h3 : dep T (argT l[d].ctors[m] ix)[j] ≤ maxTo T (argT l[d].ctors[m] ix) (argT l[d].ctors[m] ix).length := maxTo_ge _ (Nat.le_refl _) j hj hj
      exact Dk_up_le (by omega) _ h2
    exact .inr ⟨d, hd, m, hm, rfl, hf, key⟩
/-- .. and no more than one more than its arguments' depths. -/
theorem most_full {l : List Da} {T : List Int} {L : List Ty} {n : Nat} (hfull : ∀ a ∈ L, Full l T n a) (h : ∀ a ∈ L, Dk (mkF l) n a) : ¬ mostL T L = 0 ∧ mostL T L ≤ n + 1 := by
  have hz : ¬ ∃ a ∈ L, dep T a = 0 := fun ⟨a, ha, e⟩ => (hfull a ha (h a ha)).1 e
  have he : mostL T L = maxTo T L L.length + 1 := by unfold mostL; rw [if_neg hz]
  have hle := maxTo_le (T := T) (L := L) (b := n) (by omega) (fun j hj => (hfull _ (List.getElem_mem hj) (h _ (List.getElem_mem hj))).2) L.length (Nat.le_refl _)
  have hge : 0 ≤ maxTo T L L.length := by
    have : ∀ k, k ≤ L.length → 0 ≤ maxTo T L k := by
      intro k
      induction k with
      | zero => intro _; exact Int.le_refl 0
      | succ k ih =>
        intro hk
        have := ih (by omega)
        rw [maxTo_succ (by omega)]
        split <;> omega
    exact this _ (Nat.le_refl _)
  rw [he]
  omega

/-! One entry that is set. -/
theorem slot_inj {n : Nat} {t u : Ty} (ht : TyIn n t) (hu : TyIn n u) (h1 : ¬ t.data = -1) (h2 : ¬ u.data = -1) (h : slotN t = slotN u) : t = u := by
  obtain ⟨a, b⟩ := t
  obtain ⟨c, e⟩ := u
  have h3 := ht.resolve_left h1
  have h4 := hu.resolve_left h2
  unfold slotN at h
  simp only at *
  have : a = c := by omega
  have : b = e := by omega
  simp_all
theorem dep_set_same {T : List Int} {t : Ty} {v : Int} (h : ¬ t.data = -1) (hs : slotN t < T.length) : dep (T.set (slotN t) v) t = v := by
  rw [dep_data h (by simpa using hs), List.getElem_set_self]
theorem dep_set_other {T : List Int} {t : Ty} {s : Nat} {v : Int} (h : t.data = -1 ∨ ¬ slotN t = s) : dep (T.set s v) t = dep T t := by
  unfold dep
  by_cases hd : t.data = -1
  · rw [if_pos hd, if_pos hd]
  · rw [if_neg hd, if_neg hd]
    have hne := h.resolve_left hd
    simp only [List.getD]
    rw [List.getElem?_set_ne (by omega)]
theorem less_set {T : List Int} {s : Nat} {v : Int} (hs : s < T.length) (h0 : ¬ v = 0) (h : T[s] = 0 ∨ v ≤ T[s]) : Less T (T.set s v) := fun t ht => by
  by_cases e : t.data = -1 ∨ ¬ slotN t = s
  · rw [dep_set_other e]; exact ⟨ht, Int.le_refl _⟩
  · have e1 : ¬ t.data = -1 := fun h => e (.inl h)
    have e2 : slotN t = s := Classical.byContradiction fun h => e (.inr h)
    subst e2
    rw [dep_set_same e1 hs]
    rw [dep_data e1 hs] at ht ⊢
    exact ⟨h0, h.resolve_left ht⟩
theorem sound_set {l : List Da} {T : List Int} {t : Ty} {v : Int} (hT : T.length = l.length * 4) (hs : Sound l T) (ht : TyIn l.length t) (hd : ¬ t.data = -1) (hv : 0 < v) (hk : Dk (mkF l) v.toNat t) : Sound l (T.set (slotN t) v) := fun u hu h0 => by
  by_cases e : u.data = -1 ∨ ¬ slotN u = slotN t
  · rw [dep_set_other e] at h0 ⊢; exact hs u hu h0
  · have e1 : ¬ u.data = -1 := fun h => e (.inl h)
    have e2 : slotN u = slotN t := Classical.byContradiction fun h => e (.inr h)
    have e3 := slot_inj hu ht e1 hd e2
    subst e3
    have hsl : slotN u < T.length := by
      have h3 := hu.resolve_left e1
      unfold slotN; omega
    rw [dep_set_same e1 hsl]
    exact ⟨hv, hk⟩
end Go.Proofs.Ytakhobhmplneeaa
/-
  The depth that a table gives for a constructor of a valid type; the places of a table as types. No statement is proved here.
-/
namespace Go.Proofs.Ytakhobhmplneeaa
open Go.RowKit
set_option maxRecDepth 100000
set_option linter.unusedVariables false
theorem ctor_parts {n : Int} {c : Ct} (h : ctorB n c = true) : (0 ≤ c.index ∧ c.index ≤ 3) ∧ ∀ a ∈ c.args, argB n (-1) a = true := by
  refine ⟨?_, ?_⟩
  · by_cases h1 : 0 ≤ c.index ∧ c.index ≤ 3
    · exact h1
    · have := ctor_index (n := n) h1; rw [h] at this; cases this
  · intro a ha
    by_cases h2 : c.args.all (argB n (-1)) = true
    · exact List.all_eq_true.1 h2 a ha
    · have h3 : c.args.all (argB n (-1)) = false := by simpa using h2
      have := ctor_bad h3; rw [h] at this; cases this
theorem world_ctor {l : List Da} (h : WorldOK l) {d m : Nat} (hd : d < l.length) (hm : m < l[d].ctors.length) : ctorB l.length l[d].ctors[m] = true := by
  have h1 := h.2.1 d hd hd
  by_cases h2 : ctorB l.length l[d].ctors[m] = true
  · exact h2
  · have h3 : ctorB l.length l[d].ctors[m] = false := by simpa using h2
    have := data_bad (n := l.length) (all_bad hm h3); rw [h1] at this; cases this
theorem args_in {l : List Da} (h : WorldOK l) {d m : Nat} (hd : d < l.length) (hm : m < l[d].ctors.length) {ix : Int} (h0 : 0 ≤ ix) (h3 : ix ≤ 3) : ∀ a ∈ argT l[d].ctors[m] ix, TyIn l.length a := by
  intro a ha
  obtain ⟨hi, hargs⟩ := ctor_parts (world_ctor h hd hm)
  unfold argT at ha
  obtain ⟨b, hb, rfl⟩ := List.mem_map.1 ha
  have hB := hargs b hb
  by_cases hb1 : b.data = -1
  · left
    unfold argOf
    split <;> exact hb1
  · rw [argB_data hb1] at hB
    have hp := of_decide_eq_true hB
    right
    by_cases hs : b.index = -1
    · rw [argOf_same hs]
      unfold resI
      simp only
      split <;> omega
    · rw [argOf_other hs]
      omega
/-- The type of a place in the table. -/
def tyAt (s : Nat) : Ty := ⟨(s : Int) / 4, (s : Int) % 4⟩
theorem tyAt_slot (s : Nat) : slotN (tyAt s) = s := by unfold slotN tyAt; simp only; omega
theorem tyAt_data (s : Nat) : ¬ (tyAt s).data = -1 := by unfold tyAt; simp only; omega
theorem tyAt_in {n s : Nat} (h : s < n * 4) : TyIn n (tyAt s) := by right; unfold tyAt; simp only; omega
theorem tyAt_ok {l : List Da} (h : WorldOK l) {s : Nat} (hs : s < l.length * 4) : TyOK l (tyAt s) := by
  refine ⟨h, ?_⟩
  rw [argB_data (tyAt_data s)]
  exact decide_eq_true (by unfold tyAt; simp only; omega)
theorem in_tyAt {n : Nat} {t : Ty} (h : TyIn n t) (hd : ¬ t.data = -1) : t = tyAt (slotN t) ∧ slotN t < n * 4 := by
  obtain ⟨a, b⟩ := t
  have h1 := h.resolve_left hd
  unfold tyAt slotN
  simp only at *
  refine ⟨?_, by omega⟩
  have e1 : (((a * 4 + b).toNat : Nat) : Int) = a * 4 + b := by omega
  rw [e1]
  congr 1 <;> omega
theorem fits_of_mem {cs : List Ct} {i x : Int} : ∀ n, n ≤ cs.length → x ∈ ctL cs i n → ∃ (m : Nat) (hm : m < cs.length), x = m ∧ fitsB cs[m].index i = true
  | n + 1, hn, h => by
    have h' : x ∈ ctL cs i n ++ (if fitsB (cs.getD n default).index i then [(n : Int)] else []) := h
    have e : cs.getD n default = cs[n] := by simp [List.getD, List.getElem?_eq_getElem (show n < cs.length by omega)]
    rcases List.mem_append.1 h' with h1 | h1
    · exact fits_of_mem n (by omega) h1
    · rw [e] at h1
      split at h1
      · rename_i hf
        exact ⟨n, by omega, by simpa using h1, hf⟩
      · simp at h1
theorem mem_of_fits {cs : List Ct} {i : Int} {m : Nat} (hm : m < cs.length) (hf : fitsB cs[m].index i = true) : ∀ n, m < n → n ≤ cs.length → (m : Int) ∈ ctL cs i n
  | n + 1, h1, h2 => by
    by_cases e : m = n
    · subst e; rw [ctL_yes hm hf]; exact List.mem_append_right _ (by simp)
    · have := mem_of_fits hm hf n (by omega) (by omega)
      show (m : Int) ∈ ctL cs i n ++ _
      exact List.mem_append_left _ this
end Go.Proofs.Ytakhobhmplneeaa
/-
  What the three loops over a table keep, step by step. No statement is proved here.
-/
namespace Go.Proofs.Ytakhobhmplneeaa
set_option maxRecDepth 100000
set_option linter.unusedVariables false
/-- A constructor of a place has been looked at: if its arguments are made within n rounds, the entry is at most n + 1. -/
def Okc (l : List Da) (T : List Int) (n s : Nat) (x : Int) : Prop := ∀ (d : Nat) (hd : d < l.length) (m : Nat) (hm : m < l[d].ctors.length), (tyAt s).data = d → x = m →
  (∀ a ∈ argT l[d].ctors[m] (tyAt s).index, Dk (mkF l) n a) → ¬ dep T (tyAt s) = 0 ∧ dep T (tyAt s) ≤ n + 1
/-- After n passes, s places and i constructors. -/
structure St (l : List Da) (T : List Int) (n s i : Nat) : Prop where
  len : T.length = l.length * 4
  bd : ∀ x ∈ T, 0 ≤ x ∧ x ≤ 64 * n + 4 * s + i + 1
  sound : Sound l T
  full : ∀ k, k ≤ n → ∀ t, TyIn l.length t → Full l T k t
  row : ∀ a, a < s → Full l T (n + 1) (tyAt a)
  ctors : ∀ j, j < i → ∀ x, (ctR l (tyAt s))[j]? = some x → Okc l T n s x
theorem St.start (l : List Da) (T : List Int) (hl : T.length = l.length * 4) (h0 : ∀ x ∈ T, x = 0) : St l T 0 0 0 where
  len := hl
  bd := fun x hx => by have := h0 x hx; omega
  sound := fun t ht hd => by
    by_cases h : t.data = -1
    · rw [dep_int h]; exact ⟨by omega, .inl h⟩
    · have hs : slotN t < T.length := by rw [hl]; exact (in_tyAt ht h).2
      rw [dep_data h hs] at hd
      exact absurd (h0 _ (List.getElem_mem hs)) hd
  full := fun k hk t ht hd => by
    have : k = 0 := by omega
    subst this
    exact hd.elim
  row := fun a h => absurd h (by omega)
  ctors := fun j h => absurd h (by omega)
theorem Okc.less {l : List Da} {T T' : List Int} {n s : Nat} {x : Int} (h : Okc l T n s x) (hl : Less T T') : Okc l T' n s x := fun d hd m hm h1 h2 h3 => by
  obtain ⟨h4, h5⟩ := h d hd m hm h1 h2 h3
  obtain ⟨h6, h7⟩ := hl _ h4
  exact ⟨h6, by omega⟩
/-- One constructor more: the table as it was, or with the entry set. -/
theorem St.step {l : List Da} {T T' : List Int} {n s i : Nat} {d m : Nat} (h : St l T n s i) (hw : WorldOK l) (hs : s < l.length * 4) (hn : n ≤ 16) (hi : i ≤ 4)
    (hd : d < l.length) (hm : m < l[d].ctors.length) (hdt : (tyAt s).data = d) (hx : (ctR l (tyAt s))[i]? = some (m : Int)) (hf : fitsB l[d].ctors[m].index (tyAt s).index = true)
    (hT : (T' = T ∧ (mostL T (argT l[d].ctors[m] (tyAt s).index) = 0 ∨ (¬ dep T (tyAt s) = 0 ∧ dep T (tyAt s) ≤ mostL T (argT l[d].ctors[m] (tyAt s).index)))) ∨
      (T' = T.set s (mostL T (argT l[d].ctors[m] (tyAt s).index)) ∧ 0 < mostL T (argT l[d].ctors[m] (tyAt s).index) ∧ (dep T (tyAt s) = 0 ∨ mostL T (argT l[d].ctors[m] (tyAt s).index) < dep T (tyAt s)))) : St l T' n s (i + 1) := by
  have hl4 := hw.1
  have hsT : s < T.length := by rw [h.len]; exact hs
  have hix : 0 ≤ (tyAt s).index ∧ (tyAt s).index ≤ 3 := by unfold tyAt; simp only; omega
  have hin := args_in hw hd hm hix.1 hix.2
  have hb : ∀ x ∈ T, 0 ≤ x ∧ x ≤ 5000 := fun x hx => by have := h.bd x hx; omega
  have hds : dep T (tyAt s) = T[s] := by
    have e := dep_data (T := T) (tyAt_data s) (by rw [tyAt_slot]; exact hsT)
    rw [e]; congr 1; exact tyAt_slot s
  have hmb : mostL T (argT l[d].ctors[m] (tyAt s).index) ≤ 64 * n + 4 * s + i + 1 + 1 := by
    unfold mostL
    split
    · omega
    · have := maxTo_le (T := T) (L := argT l[d].ctors[m] (tyAt s).index) (b := 64 * n + 4 * s + i + 1) (by omega) (fun j hj => by
        unfold dep
        split
        · omega
        · by_cases hq : slotN (argT l[d].ctors[m] (tyAt s).index)[j] < T.length
          · simp only [List.getD, List.getElem?_eq_getElem hq, Option.getD_some]; exact (h.bd _ (List.getElem_mem hq)).2
          · simp only [List.getD, List.getElem?_eq_none (Nat.le_of_not_lt hq), Option.getD_none]; omega) _ (Nat.le_refl _)
      omega
  have hless : Less T T' := by
    rcases hT with ⟨rfl, _⟩ | ⟨rfl, h1, h2⟩
    · exact Less.refl _
    · refine less_set hsT (by omega) ?_
      rw [← hds]
      exact h2.imp id (fun h => by omega)
  have hnew : Okc l T' n s (m : Int) := fun d' hd' m' hm' e1 e2 hargs => by
    have : d' = d := by rw [hdt] at e1; omega
    subst this
    have : m' = m := by omega
    subst this
    obtain ⟨h1, h2⟩ := most_full (T := T) (n := n) (fun a ha => h.full n (Nat.le_refl _) a (hin a ha)) hargs
    rcases hT with ⟨rfl, h3 | ⟨h3, h4⟩⟩ | ⟨rfl, h3, h4⟩
    · exact absurd h3 h1
    · exact ⟨h3, by omega⟩
    · have e : dep (T.set s (mostL T (argT l[d'].ctors[m'] (tyAt s).index))) (tyAt s) = mostL T (argT l[d'].ctors[m'] (tyAt s).index) := by
        have := dep_set_same (T := T) (t := tyAt s) (v := mostL T (argT l[d'].ctors[m'] (tyAt s).index)) (tyAt_data s) (by rw [tyAt_slot]; exact hsT)
        rwa [tyAt_slot] at this
      rw [e]
      exact ⟨h1, h2⟩
  refine ⟨?_, ?_, ?_, ?_, ?_, ?_⟩
  · rcases hT with ⟨rfl, _⟩ | ⟨rfl, _⟩
    · exact h.len
    · simpa using h.len
  · intro x hx
    rcases hT with ⟨rfl, _⟩ | ⟨rfl, h1, _⟩
    · have := h.bd x hx; omega
    · rcases List.mem_or_eq_of_mem_set hx with h2 | rfl
      · have := h.bd x h2; omega
      · omega
  · rcases hT with ⟨rfl, _⟩ | ⟨rfl, h1, h2⟩
    · exact h.sound
    · have hk := (most_sound hd hm hf h.sound hin hb (by omega)).2
      have e : (⟨(d : Int), (tyAt s).index⟩ : Ty) = tyAt s := by rw [← hdt]
      rw [e] at hk
      have := sound_set h.len h.sound (tyAt_in hs) (tyAt_data s) h1 hk
      rwa [tyAt_slot] at this
  · exact fun k hk t ht => (h.full k hk t ht).less hless
  · exact fun a ha => (h.row a ha).less hless
  · intro j hj x hx'
    by_cases e : j = i
    · subst e
      rw [hx] at hx'
      cases hx'
      exact hnew
    · exact (h.ctors j (by omega) x hx').less hless
/-- One place more. -/
theorem St.place {l : List Da} {T : List Int} {n s i : Nat} (h : St l T n s i) (hw : WorldOK l) (hs : s < l.length * 4) (hi : (ctR l (tyAt s)).length ≤ i) (hi4 : i ≤ 4) : St l T n (s + 1) 0 where
  len := h.len
  bd := fun x hx => by have := h.bd x hx; omega
  sound := h.sound
  full := h.full
  row := fun a ha => by
    by_cases e : a = s
    · subst e
      intro hd
      rcases hd with h0 | ⟨d, hdl, m, hm, h1, h2, h3⟩
      · exact absurd h0 (tyAt_data a)
      · have hok := tyAt_ok hw hs
        have hmem : (m : Int) ∈ ctR l (tyAt a) := by
          have e2 : tyAt a = ⟨(d : Int), (tyAt a).index⟩ := by rw [← h1]
          rw [e2] at hok ⊢
          rw [ctR_data hok hdl]
          exact mem_of_fits hm h2 _ hm (Nat.le_refl _)
        obtain ⟨j, hj, e3⟩ := List.getElem_of_mem hmem
        have := h.ctors j (by omega) (m : Int) (by rw [List.getElem?_eq_getElem hj, e3]) d hdl m hm h1 rfl h3
        push_cast
        exact this
    · exact h.row a (by omega)
  ctors := fun j h => absurd h (by omega)
/-- One pass more. -/
theorem St.pass {l : List Da} {T : List Int} {n s : Nat} (h : St l T n s 0) (hl4 : l.length ≤ 4) (hs : s = l.length * 4) : St l T (n + 1) 0 0 where
  len := h.len
  bd := fun x hx => by have := h.bd x hx; push_cast; omega
  sound := h.sound
  full := fun k hk t ht => by
    by_cases e : k = n + 1
    · subst e
      by_cases hd : t.data = -1
      · intro _; rw [dep_int hd]; exact ⟨by omega, by push_cast; omega⟩
      · obtain ⟨e1, e2⟩ := in_tyAt ht hd
        rw [e1]
        exact h.row _ (by omega)
    · exact h.full k (by omega) t ht
  row := fun a h => absurd h (by omega)
  ctors := fun j h => absurd h (by omega)
end Go.Proofs.Ytakhobhmplneeaa
