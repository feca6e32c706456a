/-
  Plain mathematics: a growing family of sets over a list comes to rest within as many steps as the list is long. No program is imported here.
-/
import Derived.Test.YtbeejeialjfdnaaW02
import Derived.Test.YtbeejeialjfdnaaW01
import Derived.Test.YtbeejeialjfdnaaW00
import Derived.Deep.Fields
import Derived.Deep.Slices
import Derived.WalkLawsBesides
import Derived.Maps.OwnSet
import Derived.DeepKeys5
import Derived.Lib.QuietBelow
import Derived.Deep.QuietTactic
import Derived.Outline
import Derived.Deep.RegionHeld3
import Derived.Maps.AppendAt
namespace Go.Proofs.Ytbeejeialjfdnaa
section
variable {α : Type} (F : (α → Prop) → α → Prop)
/-- Those that are made within k rounds. -/
def Dk : Nat → α → Prop
  | 0 => fun _ => False
  | k + 1 => F (Dk k)
/-- The members of a list for which something holds, counted. -/
noncomputable def cnt (ts : List α) (P : α → Prop) : Nat := (ts.filter fun t => @decide (P t) (Classical.propDecidable _)).length
theorem cnt_le (ts : List α) (P : α → Prop) : cnt ts P ≤ ts.length := List.length_filter_le _ _
theorem cnt_mono : ∀ (ts : List α) (P Q : α → Prop), (∀ t ∈ ts, P t → Q t) → cnt ts P ≤ cnt ts Q
  | [], _, _, _ => Nat.le_refl _
  | t :: ts, P, Q, h => by
    have ih := cnt_mono ts P Q (fun x hx => h x (List.mem_cons_of_mem _ hx))
    unfold cnt at ih ⊢
    by_cases hp : P t
    · have hq := h t (List.mem_cons_self) hp
      rw [List.filter_cons_of_pos (by simpa using hp), List.filter_cons_of_pos (by simpa using hq)]
      simp only [List.length_cons]; omega
    · rw [List.filter_cons_of_neg (by simpa using hp)]
      by_cases hq : Q t
      · rw [List.filter_cons_of_pos (by simpa using hq)]; simp only [List.length_cons]; omega
      · rw [List.filter_cons_of_neg (by simpa using hq)]; exact ih
theorem cnt_lt : ∀ (ts : List α) (P Q : α → Prop), (∀ t ∈ ts, P t → Q t) → (∃ t ∈ ts, Q t ∧ ¬ P t) → cnt ts P + 1 ≤ cnt ts Q
  | [], _, _, _, ⟨t, ht, _⟩ => by cases ht
  | t :: ts, P, Q, h, ⟨x, hx, hq, hp⟩ => by
    have hm := cnt_mono ts P Q (fun y hy => h y (List.mem_cons_of_mem _ hy))
    by_cases ht : Q t ∧ ¬ P t
    · unfold cnt at hm ⊢
      rw [List.filter_cons_of_neg (by simpa using ht.2), List.filter_cons_of_pos (by simpa using ht.1)]
      simp only [List.length_cons]; omega
    · have hxt : x ∈ ts := by
        rcases List.mem_cons.1 hx with rfl | hx'
        · exact absurd ⟨hq, hp⟩ ht
        · exact hx'
      have ih := cnt_lt ts P Q (fun y hy => h y (List.mem_cons_of_mem _ hy)) ⟨x, hxt, hq, hp⟩
      unfold cnt at ih ⊢
      by_cases hp' : P t
      · have hq' := h t (List.mem_cons_self) hp'
        rw [List.filter_cons_of_pos (by simpa using hp'), List.filter_cons_of_pos (by simpa using hq')]
        simp only [List.length_cons]; omega
      · have hq' : ¬ Q t := fun e => ht ⟨e, hp'⟩
        rw [List.filter_cons_of_neg (by simpa using hp'), List.filter_cons_of_neg (by simpa using hq')]; exact ih
variable {F} {ts : List α} (hF : ∀ P Q : α → Prop, (∀ t ∈ ts, P t → Q t) → ∀ t ∈ ts, F P t → F Q t)
include hF
theorem Dk_step : ∀ k, ∀ t ∈ ts, Dk F k t → Dk F (k + 1) t
  | 0, _, _, h => h.elim
  | k + 1, t, ht, h => hF (Dk F k) (Dk F (k + 1)) (Dk_step k) t ht h
theorem Dk_le {j k : Nat} (h : j ≤ k) : ∀ t ∈ ts, Dk F j t → Dk F k t := by
  induction h with
  | refl => exact fun _ _ h => h
  | step _ ih => exact fun t ht h => Dk_step hF _ t ht (ih t ht h)
/-- Once a round makes nothing new, none does. -/
theorem Dk_rest {k : Nat} (h : ∀ t ∈ ts, Dk F (k + 1) t → Dk F k t) : ∀ j, k ≤ j → ∀ t ∈ ts, Dk F j t → Dk F k t := by
  intro j hj
  induction hj with
  | refl => exact fun _ _ h => h
  | step _ ih => exact fun t ht hd => h t ht (hF _ _ ih t ht hd)
/-- Whatever is made at all is made within as many rounds as there are members. -/
theorem Dk_bound {t : α} (ht : t ∈ ts) {j : Nat} (h : Dk F j t) : Dk F ts.length t := by
  by_cases hs : ∃ k, k ≤ ts.length ∧ ∀ t ∈ ts, Dk F (k + 1) t → Dk F k t
  · obtain ⟨k, hk, hr⟩ := hs
    by_cases hj : k ≤ j
    · exact Dk_le hF hk t ht (Dk_rest hF hr j hj t ht h)
    · exact Dk_le hF (by omega) t ht h
  · exfalso
    have hc : ∀ k, k ≤ ts.length + 1 → k ≤ cnt ts (Dk F k) := by
      intro k
      induction k with
      | zero => intro _; omega
      | succ k ih =>
        intro hk
        have h1 := ih (by omega)
        have h2 : ∃ t ∈ ts, Dk F (k + 1) t ∧ ¬ Dk F k t := by
          apply Classical.byContradiction
          intro hn
          apply hs
          refine ⟨k, by omega, fun t ht hd => ?_⟩
          apply Classical.byContradiction
          intro hnd
          exact hn ⟨t, ht, hd, hnd⟩
        have := cnt_lt ts (Dk F k) (Dk F (k + 1)) (Dk_step hF k) h2
        omega
    have h1 := hc (ts.length + 1) (by omega)
    have h2 := cnt_le ts (Dk F (ts.length + 1))
    omega
end
end Go.Proofs.Ytbeejeialjfdnaa
/-
  What a table of depths says, and what one step does to it. No statement is proved here.
-/
namespace Go.Proofs.Ytbeejeialjfdnaa
set_option linter.unusedVariables false
/-- A type is made if it is the type of numbers, or one of its constructors has arguments that are made. -/
def mkF (l : List Da) (P : Ty → Prop) (t : Ty) : Prop :=
  t.data = -1 ∨ ∃ (d : Nat) (hd : d < l.length) (m : Nat) (hm : m < l[d].ctors.length), t.data = d ∧ fitsB l[d].ctors[m].index t.index = true ∧ ∀ a ∈ argT l[d].ctors[m] t.index, P a
theorem mkF_mono {l : List Da} {P Q : Ty → Prop} (h : ∀ t, P t → Q t) (t : Ty) (hp : mkF l P t) : mkF l Q t := by
  rcases hp with h0 | ⟨d, hd, m, hm, h1, h2, h3⟩
  · exact .inl h0
  · exact .inr ⟨d, hd, m, hm, h1, h2, fun a ha => h a (h3 a ha)⟩
theorem Dk_up {l : List Da} : ∀ k t, Dk (mkF l) k t → Dk (mkF l) (k + 1) t
  | 0, _, h => h.elim
  | k + 1, t, h => mkF_mono (Dk_up k) t h
theorem Dk_up_le {l : List Da} {j k : Nat} (h : j ≤ k) : ∀ t, Dk (mkF l) j t → Dk (mkF l) k t := by
  induction h with
  | refl => exact fun _ h => h
  | step _ ih => exact fun t ht => Dk_up _ t (ih t ht)
/-- Each entry that isn't 0 is a depth of its type. -/
def Sound (l : List Da) (T : List Int) : Prop := ∀ t, TyIn l.length t → ¬ dep T t = 0 → 0 < dep T t ∧ Dk (mkF l) (dep T t).toNat t
/-- Every type that is made within k rounds has an entry of at most k. -/
def Full (l : List Da) (T : List Int) (k : Nat) (t : Ty) : Prop := Dk (mkF l) k t → ¬ dep T t = 0 ∧ dep T t ≤ k
/-- T' has entries where T has, and none is greater. -/
def Less (T T' : List Int) : Prop := ∀ t, ¬ dep T t = 0 → ¬ dep T' t = 0 ∧ dep T' t ≤ dep T t
theorem Less.refl (T : List Int) : Less T T := fun t h => ⟨h, Int.le_refl _⟩
theorem Full.less {l : List Da} {T T' : List Int} {k : Nat} {t : Ty} (h : Full l T k t) (hl : Less T T') : Full l T' k t := fun hd => by
  obtain ⟨h1, h2⟩ := h hd
  obtain ⟨h3, h4⟩ := hl t h1
  exact ⟨h3, by omega⟩
theorem maxTo_ge {T : List Int} {L : List Ty} : ∀ k, k ≤ L.length → ∀ j (hj : j < L.length), j < k → dep T L[j] ≤ maxTo T L k
  | k + 1, hk, j, hj, hjk => by
    rw [maxTo_succ (by omega)]
    by_cases e : j = k
    · subst e; split <;> omega
    · have h5 : dep T L[j] ≤ maxTo T L k := maxTo_ge k (by omega) j hj (by omega)
      split <;> omega
theorem maxTo_le {T : List Int} {L : List Ty} {b : Int} (h0 : 0 ≤ b) (h : ∀ j (hj : j < L.length), dep T L[j] ≤ b) : ∀ k, k ≤ L.length → maxTo T L k ≤ b
  | 0, _ => h0
  | k + 1, hk => by
    have h1 := maxTo_le h0 h k (by omega)
    have h2 := h k (by omega)
    rw [maxTo_succ (by omega)]
    split <;> omega
/-- What a constructor gives: nothing, or a depth of its type. -/
theorem most_sound {l : List Da} {T : List Int} {d m : Nat} {ix : Int} (hd : d < l.length) (hm : m < l[d].ctors.length) (hf : fitsB l[d].ctors[m].index ix = true) (hs : Sound l T) (hin : ∀ a ∈ argT l[d].ctors[m] ix, TyIn l.length a) (hb : ∀ x ∈ T, 0 ≤ x ∧ x ≤ 5000)
    (h : ¬ mostL T (argT l[d].ctors[m] ix) = 0) : 0 < mostL T (argT l[d].ctors[m] ix) ∧ Dk (mkF l) (mostL T (argT l[d].ctors[m] ix)).toNat ⟨d, ix⟩ := by
  by_cases hz : ∃ a ∈ argT l[d].ctors[m] ix, dep T a = 0
  · exact absurd (by unfold mostL; rw [if_pos hz]) h
  · have he : mostL T (argT l[d].ctors[m] ix) = maxTo T (argT l[d].ctors[m] ix) (argT l[d].ctors[m] ix).length + 1 := by unfold mostL; rw [if_neg hz]
    have hm0 := maxTo_bd hb (argT l[d].ctors[m] ix) (argT l[d].ctors[m] ix).length
    rw [he]
    refine ⟨by omega, ?_⟩
    rw [show (maxTo T (argT l[d].ctors[m] ix) (argT l[d].ctors[m] ix).length + 1).toNat = (maxTo T (argT l[d].ctors[m] ix) (argT l[d].ctors[m] ix).length).toNat + 1 by omega]
    have key : ∀ a ∈ argT l[d].ctors[m] ix, Dk (mkF l) (maxTo T (argT l[d].ctors[m] ix) (argT l[d].ctors[m] ix).length).toNat a := fun a ha => by
      obtain ⟨j, hj, rfl⟩ := List.getElem_of_mem ha
      have hnz : ¬ dep T (argT l[d].ctors[m] ix)[j] = 0 := fun e => hz ⟨_, ha, e⟩
      obtain ⟨h1, h2⟩ := hs _ (hin _ ha) hnz
      have h3 : dep T (argT l[d].ctors[m] ix)[j] ≤ maxTo T (argT l[d].ctors[m] ix) (argT l[d].ctors[m] ix).length := maxTo_ge _ (Nat.le_refl _) j hj hj
      exact Dk_up_le (by omega) _ h2
    exact .inr ⟨d, hd, m, hm, rfl, hf, key⟩
/-- .. and no more than one more than its arguments' depths. -/
theorem most_full {l : List Da} {T : List Int} {L : List Ty} {n : Nat} (hfull : ∀ a ∈ L, Full l T n a) (h : ∀ a ∈ L, Dk (mkF l) n a) : ¬ mostL T L = 0 ∧ mostL T L ≤ n + 1 := by
  have hz : ¬ ∃ a ∈ L, dep T a = 0 := fun ⟨a, ha, e⟩ => (hfull a ha (h a ha)).1 e
  have he : mostL T L = maxTo T L L.length + 1 := by unfold mostL; rw [if_neg hz]
  have hle := maxTo_le (T := T) (L := L) (b := n) (by omega) (fun j hj => (hfull _ (List.getElem_mem hj) (h _ (List.getElem_mem hj))).2) L.length (Nat.le_refl _)
  have hge : 0 ≤ maxTo T L L.length := by
    have : ∀ k, k ≤ L.length → 0 ≤ maxTo T L k := by
      intro k
      induction k with
      | zero => intro _; exact Int.le_refl 0
      | succ k ih =>
        intro hk
        have := ih (by omega)
        rw [maxTo_succ (by omega)]
        split <;> omega
    exact this _ (Nat.le_refl _)
  rw [he]
  omega

/-! One entry that is set. -/
theorem slot_inj {n : Nat} {t u : Ty} (ht : TyIn n t) (hu : TyIn n u) (h1 : ¬ t.data = -1) (h2 : ¬ u.data = -1) (h : slotN t = slotN u) : t = u := by
  obtain ⟨a, b⟩ := t
  obtain ⟨c, e⟩ := u
  have h3 := ht.resolve_left h1
  have h4 := hu.resolve_left h2
  unfold slotN at h
  simp only at *
  have : a = c := by omega
  have : b = e := by omega
  simp_all
theorem dep_set_same {T : List Int} {t : Ty} {v : Int} (h : ¬ t.data = -1) (hs : slotN t < T.length) : dep (T.set (slotN t) v) t = v := by
  rw [dep_data h (by simpa using hs), List.getElem_set_self]
theorem dep_set_other {T : List Int} {t : Ty} {s : Nat} {v : Int} (h : t.data = -1 ∨ ¬ slotN t = s) : dep (T.set s v) t = dep T t := by
  unfold dep
  by_cases hd : t.data = -1
  · rw [if_pos hd, if_pos hd]
  · rw [if_neg hd, if_neg hd]
    have hne := h.resolve_left hd
    simp only [List.getD]
    rw [List.getElem?_set_ne (by omega)]
theorem less_set {T : List Int} {s : Nat} {v : Int} (hs : s < T.length) (h0 : ¬ v = 0) (h : T[s] = 0 ∨ v ≤ T[s]) : Less T (T.set s v) := fun t ht => by
  by_cases e : t.data = -1 ∨ ¬ slotN t = s
  · rw [dep_set_other e]; exact ⟨ht, Int.le_refl _⟩
  · have e1 : ¬ t.data = -1 := fun h => e (.inl h)
    have e2 : slotN t = s := Classical.byContradiction fun h => e (.inr h)
    subst e2
    rw [dep_set_same e1 hs]
    rw [dep_data e1 hs] at ht ⊢
    exact ⟨h0, h.resolve_left ht⟩
theorem sound_set {l : List Da} {T : List Int} {t : Ty} {v : Int} (hT : T.length = l.length * 4) (hs : Sound l T) (ht : TyIn l.length t) (hd : ¬ t.data = -1) (hv : 0 < v) (hk : Dk (mkF l) v.toNat t) : Sound l (T.set (slotN t) v) := fun u hu h0 => by
  by_cases e : u.data = -1 ∨ ¬ slotN u = slotN t
  · rw [dep_set_other e] at h0 ⊢; exact hs u hu h0
  · have e1 : ¬ u.data = -1 := fun h => e (.inl h)
    have e2 : slotN u = slotN t := Classical.byContradiction fun h => e (.inr h)
    have e3 := slot_inj hu ht e1 hd e2
    subst e3
    have hsl : slotN u < T.length := by
      have h3 := hu.resolve_left e1
      unfold slotN; omega
    rw [dep_set_same e1 hsl]
    exact ⟨hv, hk⟩
end Go.Proofs.Ytbeejeialjfdnaa
/-
  The depth that a table gives for a constructor of a valid type; the places of a table as types. No statement is proved here.
-/
namespace Go.Proofs.Ytbeejeialjfdnaa
open Go.RowKit
set_option maxRecDepth 100000
set_option linter.unusedVariables false
theorem ctor_parts {n : Int} {c : Ct} (h : ctorB n c = true) : (0 ≤ c.index ∧ c.index ≤ 3) ∧ ∀ a ∈ c.args, argB n (-1) a = true := by
  refine ⟨?_, ?_⟩
  · by_cases h1 : 0 ≤ c.index ∧ c.index ≤ 3
    · exact h1
    · have := ctor_index (n := n) h1; rw [h] at this; cases this
  · intro a ha
    by_cases h2 : c.args.all (argB n (-1)) = true
    · exact List.all_eq_true.1 h2 a ha
    · have h3 : c.args.all (argB n (-1)) = false := by simpa using h2
      have := ctor_bad h3; rw [h] at this; cases this
theorem world_ctor {l : List Da} (h : WorldOK l) {d m : Nat} (hd : d < l.length) (hm : m < l[d].ctors.length) : ctorB l.length l[d].ctors[m] = true := by
  have h1 := h.2.1 d hd hd
  by_cases h2 : ctorB l.length l[d].ctors[m] = true
  · exact h2
  · have h3 : ctorB l.length l[d].ctors[m] = false := by simpa using h2
    have := data_bad (n := l.length) (all_bad hm h3); rw [h1] at this; cases this
theorem args_in {l : List Da} (h : WorldOK l) {d m : Nat} (hd : d < l.length) (hm : m < l[d].ctors.length) {ix : Int} (h0 : 0 ≤ ix) (h3 : ix ≤ 3) : ∀ a ∈ argT l[d].ctors[m] ix, TyIn l.length a := by
  intro a ha
  obtain ⟨hi, hargs⟩ := ctor_parts (world_ctor h hd hm)
  unfold argT at ha
  obtain ⟨b, hb, rfl⟩ := List.mem_map.1 ha
  have hB := hargs b hb
  by_cases hb1 : b.data = -1
  · left
    unfold argOf
    split <;> exact hb1
  · rw [argB_data hb1] at hB
    have hp := of_decide_eq_true hB
    right
    by_cases hs : b.index = -1
    · rw [argOf_same hs]
      unfold resI
      simp only
      split <;> omega
    · rw [argOf_other hs]
      omega
/-- The type of a place in the table. -/
def tyAt (s : Nat) : Ty := ⟨(s : Int) / 4, (s : Int) % 4⟩
theorem tyAt_slot (s : Nat) : slotN (tyAt s) = s := by unfold slotN tyAt; simp only; omega
theorem tyAt_data (s : Nat) : ¬ (tyAt s).data = -1 := by unfold tyAt; simp only; omega
theorem tyAt_in {n s : Nat} (h : s < n * 4) : TyIn n (tyAt s) := by right; unfold tyAt; simp only; omega
theorem tyAt_ok {l : List Da} (h : WorldOK l) {s : Nat} (hs : s < l.length * 4) : TyOK l (tyAt s) := by
  refine ⟨h, ?_⟩
  rw [argB_data (tyAt_data s)]
  exact decide_eq_true (by unfold tyAt; simp only; omega)
theorem in_tyAt {n : Nat} {t : Ty} (h : TyIn n t) (hd : ¬ t.data = -1) : t = tyAt (slotN t) ∧ slotN t < n * 4 := by
  obtain ⟨a, b⟩ := t
  have h1 := h.resolve_left hd
  unfold tyAt slotN
  simp only at *
  refine ⟨?_, by omega⟩
  have e1 : (((a * 4 + b).toNat : Nat) : Int) = a * 4 + b := by omega
  rw [e1]
  congr 1 <;> omega
theorem fits_of_mem {cs : List Ct} {i x : Int} : ∀ n, n ≤ cs.length → x ∈ ctL cs i n → ∃ (m : Nat) (hm : m < cs.length), x = m ∧ fitsB cs[m].index i = true
  | n + 1, hn, h => by
    have h' : x ∈ ctL cs i n ++ (if fitsB (cs.getD n default).index i then [(n : Int)] else []) := h
    have e : cs.getD n default = cs[n] := by simp [List.getD, List.getElem?_eq_getElem (show n < cs.length by omega)]
    rcases List.mem_append.1 h' with h1 | h1
    · exact fits_of_mem n (by omega) h1
    · rw [e] at h1
      split at h1
      · rename_i hf
        exact ⟨n, by omega, by simpa using h1, hf⟩
      · simp at h1
theorem mem_of_fits {cs : List Ct} {i : Int} {m : Nat} (hm : m < cs.length) (hf : fitsB cs[m].index i = true) : ∀ n, m < n → n ≤ cs.length → (m : Int) ∈ ctL cs i n
  | n + 1, h1, h2 => by
    by_cases e : m = n
    · subst e; rw [ctL_yes hm hf]; exact List.mem_append_right _ (by simp)
    · have := mem_of_fits hm hf n (by omega) (by omega)
      show (m : Int) ∈ ctL cs i n ++ _
      exact List.mem_append_left _ this
end Go.Proofs.Ytbeejeialjfdnaa
/-
  What the three loops over a table keep, step by step. No statement is proved here.
-/
namespace Go.Proofs.Ytbeejeialjfdnaa
set_option maxRecDepth 100000
set_option linter.unusedVariables false
/-- A constructor of a place has been looked at: if its arguments are made within n rounds, the entry is at most n + 1. -/
def Okc (l : List Da) (T : List Int) (n s : Nat) (x : Int) : Prop := ∀ (d : Nat) (hd : d < l.length) (m : Nat) (hm : m < l[d].ctors.length), (tyAt s).data = d → x = m →
  (∀ a ∈ argT l[d].ctors[m] (tyAt s).index, Dk (mkF l) n a) → ¬ dep T (tyAt s) = 0 ∧ dep T (tyAt s) ≤ n + 1
/-- After n passes, s places and i constructors. -/
structure St (l : List Da) (T : List Int) (n s i : Nat) : Prop where
  len : T.length = l.length * 4
  bd : ∀ x ∈ T, 0 ≤ x ∧ x ≤ 64 * n + 4 * s + i + 1
  sound : Sound l T
  full : ∀ k, k ≤ n → ∀ t, TyIn l.length t → Full l T k t
  row : ∀ a, a < s → Full l T (n + 1) (tyAt a)
  ctors : ∀ j, j < i → ∀ x, (ctR l (tyAt s))[j]? = some x → Okc l T n s x
theorem St.start (l : List Da) (T : List Int) (hl : T.length = l.length * 4) (h0 : ∀ x ∈ T, x = 0) : St l T 0 0 0 where
  len := hl
  bd := fun x hx => by have := h0 x hx; omega
  sound := fun t ht hd => by
    by_cases h : t.data = -1
    · rw [dep_int h]; exact ⟨by omega, .inl h⟩
    · have hs : slotN t < T.length := by rw [hl]; exact (in_tyAt ht h).2
      rw [dep_data h hs] at hd
      exact absurd (h0 _ (List.getElem_mem hs)) hd
  full := fun k hk t ht hd => by
    have : k = 0 := by omega
    subst this
    exact hd.elim
  row := fun a h => absurd h (by omega)
  ctors := fun j h => absurd h (by omega)
theorem Okc.less {l : List Da} {T T' : List Int} {n s : Nat} {x : Int} (h : Okc l T n s x) (hl : Less T T') : Okc l T' n s x := fun d hd m hm h1 h2 h3 => by
  obtain ⟨h4, h5⟩ := h d hd m hm h1 h2 h3
  obtain ⟨h6, h7⟩ := hl _ h4
  exact ⟨h6, by omega⟩
/-- One constructor more: the table as it was, or with the entry set. -/
theorem St.step {l : List Da} {T T' : List Int} {n s i : Nat} {d m : Nat} (h : St l T n s i) (hw : WorldOK l) (hs : s < l.length * 4) (hn : n ≤ 16) (hi : i ≤ 4)
    (hd : d < l.length) (hm : m < l[d].ctors.length) (hdt : (tyAt s).data = d) (hx : (ctR l (tyAt s))[i]? = some (m : Int)) (hf : fitsB l[d].ctors[m].index (tyAt s).index = true)
    (hT : (T' = T ∧ (mostL T (argT l[d].ctors[m] (tyAt s).index) = 0 ∨ (¬ dep T (tyAt s) = 0 ∧ dep T (tyAt s) ≤ mostL T (argT l[d].ctors[m] (tyAt s).index)))) ∨
      (T' = T.set s (mostL T (argT l[d].ctors[m] (tyAt s).index)) ∧ 0 < mostL T (argT l[d].ctors[m] (tyAt s).index) ∧ (dep T (tyAt s) = 0 ∨ mostL T (argT l[d].ctors[m] (tyAt s).index) < dep T (tyAt s)))) : St l T' n s (i + 1) := by
  have hl4 := hw.1
  have hsT : s < T.length := by rw [h.len]; exact hs
  have hix : 0 ≤ (tyAt s).index ∧ (tyAt s).index ≤ 3 := by unfold tyAt; simp only; omega
  have hin := args_in hw hd hm hix.1 hix.2
  have hb : ∀ x ∈ T, 0 ≤ x ∧ x ≤ 5000 := fun x hx => by have := h.bd x hx; omega
  have hds : dep T (tyAt s) = T[s] := by
    have e := dep_data (T := T) (tyAt_data s) (by rw [tyAt_slot]; exact hsT)
    rw [e]; congr 1; exact tyAt_slot s
  have hmb : mostL T (argT l[d].ctors[m] (tyAt s).index) ≤ 64 * n + 4 * s + i + 1 + 1 := by
    unfold mostL
    split
    · omega
    · have := maxTo_le (T := T) (L := argT l[d].ctors[m] (tyAt s).index) (b := 64 * n + 4 * s + i + 1) (by omega) (fun j hj => by
        unfold dep
        split
        · omega
        · by_cases hq : slotN (argT l[d].ctors[m] (tyAt s).index)[j] < T.length
          · simp only [List.getD, List.getElem?_eq_getElem hq, Option.getD_some]; exact (h.bd _ (List.getElem_mem hq)).2
          · simp only [List.getD, List.getElem?_eq_none (Nat.le_of_not_lt hq), Option.getD_none]; omega) _ (Nat.le_refl _)
      omega
  have hless : Less T T' := by
    rcases hT with ⟨rfl, _⟩ | ⟨rfl, h1, h2⟩
    · exact Less.refl _
    · refine less_set hsT (by omega) ?_
      rw [← hds]
      exact h2.imp id (fun h => by omega)
  have hnew : Okc l T' n s (m : Int) := fun d' hd' m' hm' e1 e2 hargs => by
    have : d' = d := by rw [hdt] at e1; omega
    subst this
    have : m' = m := by omega
    subst this
    obtain ⟨h1, h2⟩ := most_full (T := T) (n := n) (fun a ha => h.full n (Nat.le_refl _) a (hin a ha)) hargs
    rcases hT with ⟨rfl, h3 | ⟨h3, h4⟩⟩ | ⟨rfl, h3, h4⟩
    · exact absurd h3 h1
    · exact ⟨h3, by omega⟩
    · have e : dep (T.set s (mostL T (argT l[d'].ctors[m'] (tyAt s).index))) (tyAt s) = mostL T (argT l[d'].ctors[m'] (tyAt s).index) := by
        have := dep_set_same (T := T) (t := tyAt s) (v := mostL T (argT l[d'].ctors[m'] (tyAt s).index)) (tyAt_data s) (by rw [tyAt_slot]; exact hsT)
        rwa [tyAt_slot] at this
      rw [e]
      exact ⟨h1, h2⟩
  refine ⟨?_, ?_, ?_, ?_, ?_, ?_⟩
  · rcases hT with ⟨rfl, _⟩ | ⟨rfl, _⟩
    · exact h.len
    · simpa using h.len
  · intro x hx
    rcases hT with ⟨rfl, _⟩ | ⟨rfl, h1, _⟩
    · have := h.bd x hx; omega
    · rcases List.mem_or_eq_of_mem_set hx with h2 | rfl
      · have := h.bd x h2; omega
      · omega
  · rcases hT with ⟨rfl, _⟩ | ⟨rfl, h1, h2⟩
    · exact h.sound
    · have hk := (most_sound hd hm hf h.sound hin hb (by omega)).2
      have e : (⟨(d : Int), (tyAt s).index⟩ : Ty) = tyAt s := by rw [← hdt]
      rw [e] at hk
      have := sound_set h.len h.sound (tyAt_in hs) (tyAt_data s) h1 hk
      rwa [tyAt_slot] at this
  · exact fun k hk t ht => (h.full k hk t ht).less hless
  · exact fun a ha => (h.row a ha).less hless
  · intro j hj x hx'
    by_cases e : j = i
    · subst e
      rw [hx] at hx'
      cases hx'
      exact hnew
    · exact (h.ctors j (by omega) x hx').less hless
/-- One place more. -/
theorem St.place {l : List Da} {T : List Int} {n s i : Nat} (h : St l T n s i) (hw : WorldOK l) (hs : s < l.length * 4) (hi : (ctR l (tyAt s)).length ≤ i) (hi4 : i ≤ 4) : St l T n (s + 1) 0 where
  len := h.len
  bd := fun x hx => by have := h.bd x hx; omega
  sound := h.sound
  full := h.full
  row := fun a ha => by
    by_cases e : a = s
    · subst e
      intro hd
      rcases hd with h0 | ⟨d, hdl, m, hm, h1, h2, h3⟩
      · exact absurd h0 (tyAt_data a)
      · have hok := tyAt_ok hw hs
        have hmem : (m : Int) ∈ ctR l (tyAt a) := by
          have e2 : tyAt a = ⟨(d : Int), (tyAt a).index⟩ := by rw [← h1]
          rw [e2] at hok ⊢
          rw [ctR_data hok hdl]
          exact mem_of_fits hm h2 _ hm (Nat.le_refl _)
        obtain ⟨j, hj, e3⟩ := List.getElem_of_mem hmem
        have := h.ctors j (by omega) (m : Int) (by rw [List.getElem?_eq_getElem hj, e3]) d hdl m hm h1 rfl h3
        push_cast
        exact this
    · exact h.row a (by omega)
  ctors := fun j h => absurd h (by omega)
/-- One pass more. -/
theorem St.pass {l : List Da} {T : List Int} {n s : Nat} (h : St l T n s 0) (hl4 : l.length ≤ 4) (hs : s = l.length * 4) : St l T (n + 1) 0 0 where
  len := h.len
  bd := fun x hx => by have := h.bd x hx; push_cast; omega
  sound := h.sound
  full := fun k hk t ht => by
    by_cases e : k = n + 1
    · subst e
      by_cases hd : t.data = -1
      · intro _; rw [dep_int hd]; exact ⟨by omega, by push_cast; omega⟩
      · obtain ⟨e1, e2⟩ := in_tyAt ht hd
        rw [e1]
        exact h.row _ (by omega)
    · exact h.full k (by omega) t ht
  row := fun a h => absurd h (by omega)
  ctors := fun j h => absurd h (by omega)
end Go.Proofs.Ytbeejeialjfdnaa
/-
  The least depth of a type; that a table of depths holds it after as many passes as there are types. No statement is proved here.
-/
namespace Go.Proofs.Ytbeejeialjfdnaa
set_option maxRecDepth 100000
set_option linter.unusedVariables false
theorem least_of {P : Nat → Prop} {k : Nat} (h : P k) : ∃ n, n ≤ k ∧ P n ∧ ∀ j, j < n → ¬ P j := by
  induction k using Nat.strongRecOn with
  | ind k ih =>
    by_cases hs : ∃ j, j < k ∧ P j
    · obtain ⟨j, hj, hp⟩ := hs
      obtain ⟨n, h1, h2, h3⟩ := ih j hj hp
      exact ⟨n, by omega, h2, h3⟩
    · exact ⟨k, Nat.le_refl _, h, fun j hj hp => hs ⟨j, hj, hp⟩⟩
/-- n is the least depth of t, or 0 if t has no values. -/
def Ld (l : List Da) (t : Ty) (n : Int) : Prop := (n = 0 ∧ ∀ k, ¬ Dk (mkF l) k t) ∨ (0 < n ∧ Dk (mkF l) n.toNat t ∧ ∀ j, j < n.toNat → ¬ Dk (mkF l) j t)
theorem ld_exists (l : List Da) (t : Ty) : ∃ n, Ld l t n := by
  by_cases h : ∃ k, Dk (mkF l) k t
  · obtain ⟨k, hk⟩ := h
    obtain ⟨n, _, h2, h3⟩ := least_of (P := fun k => Dk (mkF l) k t) hk
    have hn : 0 < n := by
      rcases Nat.eq_zero_or_pos n with rfl | h
      · exact h2.elim
      · exact h
    exact ⟨(n : Int), .inr ⟨by omega, by rw [Int.toNat_natCast]; exact h2, fun j hj => h3 j (by omega)⟩⟩
  · exact ⟨0, .inl ⟨rfl, fun k hk => h ⟨k, hk⟩⟩⟩
theorem ld_unique {l : List Da} {t : Ty} {n m : Int} (h : Ld l t n) (h' : Ld l t m) : n = m := by
  rcases h with ⟨rfl, h1⟩ | ⟨h0, h1, h2⟩
  · rcases h' with ⟨rfl, _⟩ | ⟨_, h4, _⟩
    · rfl
    · exact absurd h4 (h1 _)
  · rcases h' with ⟨rfl, h3⟩ | ⟨h3, h4, h5⟩
    · exact absurd h1 (h3 _)
    · have a1 : ¬ n.toNat < m.toNat := fun h => h5 _ h h1
      have a2 : ¬ m.toNat < n.toNat := fun h => h2 _ h h4
      omega
noncomputable def ldep (l : List Da) (t : Ty) : Int := Classical.choose (ld_exists l t)
theorem ldep_is (l : List Da) (t : Ty) : Ld l t (ldep l t) := Classical.choose_spec (ld_exists l t)
theorem ldep_eq {l : List Da} {t : Ty} {n : Int} (h : Ld l t n) : n = ldep l t := ld_unique h (ldep_is l t)
theorem ldep_nonneg (l : List Da) (t : Ty) : 0 ≤ ldep l t := by
  rcases ldep_is l t with ⟨h, _⟩ | ⟨h, _⟩ <;> omega
theorem ldep_pos {l : List Da} {t : Ty} {k : Nat} (h : Dk (mkF l) k t) : 0 < ldep l t := by
  rcases ldep_is l t with ⟨_, h1⟩ | ⟨h1, _⟩
  · exact absurd h (h1 _)
  · exact h1
/-- The types of a world: that of numbers, and each data type with each index. -/
def tysN (n : Nat) : List Ty := ⟨-1, 0⟩ :: (List.range (n * 4)).map tyAt
theorem tysN_len (n : Nat) : (tysN n).length = n * 4 + 1 := by simp [tysN]
theorem mem_tys {n : Nat} {t : Ty} : t ∈ tysN n ↔ t = ⟨-1, 0⟩ ∨ (0 ≤ t.data ∧ t.data < n ∧ 0 ≤ t.index ∧ t.index ≤ 3) := by
  unfold tysN
  rw [List.mem_cons, List.mem_map]
  constructor
  · rintro (h | ⟨s, hs, rfl⟩)
    · exact .inl h
    · have := List.mem_range.1 hs
      right; unfold tyAt; simp only; omega
  · rintro (h | h)
    · exact .inl h
    · right
      have hin : TyIn n t := .inr h
      obtain ⟨e, hs⟩ := in_tyAt hin (by omega)
      exact ⟨slotN t, List.mem_range.2 hs, e.symm⟩
theorem tys_in {n : Nat} {t : Ty} (h : t ∈ tysN n) : TyIn n t := by
  rcases mem_tys.1 h with rfl | h
  · exact .inl rfl
  · exact .inr h
theorem tys_ix {n : Nat} {t : Ty} (h : t ∈ tysN n) : 0 ≤ t.index ∧ t.index ≤ 3 := by
  rcases mem_tys.1 h with rfl | h
  · exact ⟨Int.le_refl 0, by decide⟩
  · exact ⟨h.2.2.1, h.2.2.2⟩
theorem ok_tys {l : List Da} {t : Ty} (h : TyOK l t) : t ∈ tysN l.length := by
  obtain ⟨d, i⟩ := t
  have h2 := h.2
  by_cases h1 : d = -1
  · subst h1
    rw [argB_int rfl] at h2
    have : i = 0 := of_decide_eq_true h2
    subst this
    exact mem_tys.2 (.inl rfl)
  · rw [argB_data h1] at h2
    exact mem_tys.2 (.inr (of_decide_eq_true h2))
theorem tys_ok {l : List Da} {t : Ty} (hw : WorldOK l) (h : t ∈ tysN l.length) : TyOK l t := by
  refine ⟨hw, ?_⟩
  rcases mem_tys.1 h with rfl | h
  · rfl
  · rw [argB_data (by omega)]; exact decide_eq_true h
theorem args_tys {l : List Da} (h : WorldOK l) {d m : Nat} (hd : d < l.length) (hm : m < l[d].ctors.length) {ix : Int} (h0 : 0 ≤ ix) (h3 : ix ≤ 3) : ∀ a ∈ argT l[d].ctors[m] ix, a ∈ tysN l.length := by
  intro a ha
  obtain ⟨hi, hargs⟩ := ctor_parts (world_ctor h hd hm)
  have hin := args_in h hd hm h0 h3 a ha
  unfold argT at ha
  obtain ⟨b, hb, rfl⟩ := List.mem_map.1 ha
  have hB := hargs b hb
  by_cases hb1 : b.data = -1
  · rw [argB_int hb1] at hB
    have hb2 : b.index = 0 := of_decide_eq_true hB
    have e : argOf l[d].ctors[m] ix b = b := argOf_other (by omega)
    rw [e]
    refine mem_tys.2 (.inl ?_)
    obtain ⟨x, y⟩ := b
    simp only at hb1 hb2
    subst hb1 hb2
    rfl
  · refine mem_tys.2 (.inr ?_)
    refine hin.resolve_left ?_
    unfold argOf
    split <;> exact hb1
/-- What is made depends on the types of the world alone. -/
theorem mkF_tys {l : List Da} (h : WorldOK l) : ∀ P Q : Ty → Prop, (∀ t ∈ tysN l.length, P t → Q t) → ∀ t ∈ tysN l.length, mkF l P t → mkF l Q t := by
  intro P Q hPQ t ht hp
  rcases hp with h0 | ⟨d, hd, m, hm, h1, h2, h3⟩
  · exact .inl h0
  · exact .inr ⟨d, hd, m, hm, h1, h2, fun a ha => hPQ a (args_tys h hd hm (tys_ix ht).1 (tys_ix ht).2 a ha) (h3 a ha)⟩
/-- A table holds the least depths behind its last pass. -/
theorem dep_ldep {l : List Da} {T : List Int} (hw : WorldOK l) (h : St l T (l.length * 4 + 1) 0 0) {t : Ty} (ht : t ∈ tysN l.length) : dep T t = ldep l t := by
  have hin := tys_in ht
  have hb : ∀ j, Dk (mkF l) j t → Dk (mkF l) (l.length * 4 + 1) t := fun j hj => by
    have := Dk_bound (mkF_tys hw) ht hj
    rwa [tysN_len] at this
  by_cases h0 : dep T t = 0
  · rw [h0]
    refine ldep_eq (.inl ⟨rfl, fun k hk => ?_⟩)
    exact (h.full _ (Nat.le_refl _) t hin (hb k hk)).1 h0
  · obtain ⟨h1, h2⟩ := h.sound t hin h0
    refine ldep_eq (.inr ⟨h1, h2, fun j hj hd => ?_⟩)
    by_cases hj2 : j ≤ l.length * 4 + 1
    · have := (h.full j hj2 t hin hd).2
      omega
    · have := (h.full _ (Nat.le_refl _) t hin (hb j hd)).2
      omega
end Go.Proofs.Ytbeejeialjfdnaa
/-
  The function FnExactWorldValid returns true for every list of data types, and the list reads behind the call as it read before. No condition.
-/
namespace Go.Proofs.Ytbeejeialjfdnaa
open Go.RowKit Go.Deep
open Go.ChangeShapes Go.WideShapes Go.ChangeAt
set_option maxRecDepth 100000
set_option linter.unusedVariables false
theorem RDas.at_ {w W : World} {A : Option Addr} {l : List Da} (h : RDas w w.heap.size A l) (hb : Below w.heap.size w W) : RDas W W.heap.size A l := h.keep (fun p hp => hb.cell hp) hb.size
theorem wvOwn : ownKnob Try.prog.godebug = none := by kernel_rfl
theorem wvLaid : laidOutB Try.prog = true := by kernel_rfl
end Go.Proofs.Ytbeejeialjfdnaa
/-
  The least depth of a value with arguments of given types, read off the program's map of least depths. No statement is proved here.
-/
namespace Go.Proofs.Ytbeejeialjfdnaa
open Go.RowKit
set_option maxRecDepth 100000
set_option linter.unusedVariables false
/-- The greatest of the numbers of the first k types. -/
def mxT (F : Ty → Int) (L : List Ty) : Nat → Int
  | 0 => 0
  | k + 1 => max (mxT F L k) (F (L.getD k default))
theorem mxT_succ {F : Ty → Int} {L : List Ty} {k : Nat} (h : k < L.length) : mxT F L (k + 1) = max (mxT F L k) (F L[k]) := by
  show max _ (F (L.getD k default)) = _
  rw [List.getD_eq_getElem?_getD, List.getElem?_eq_getElem h]; rfl
/-- 0 if a type has no number, and otherwise 1 more than the greatest number. -/
noncomputable def dpR (F : Ty → Int) (S : Ty → Prop) (L : List Ty) : Int := if dec (∀ a ∈ L, S a) then mxT F L L.length + 1 else 0
theorem dpR_yes {F : Ty → Int} {S : Ty → Prop} {L : List Ty} (h : ∀ a ∈ L, S a) : dpR F S L = mxT F L L.length + 1 := by unfold dpR; rw [dec_t h]; rfl
theorem dpR_no {F : Ty → Int} {S : Ty → Prop} {L : List Ty} (h : ¬ ∀ a ∈ L, S a) : dpR F S L = 0 := by unfold dpR; rw [dec_f h]; rfl
end Go.Proofs.Ytbeejeialjfdnaa
/-
  The table of depths: the document's function. No statement is proved here.
-/
namespace Go.Proofs.Ytbeejeialjfdnaa
open Go.RowKit Go.Sort
set_option maxRecDepth 100000
set_option linter.unusedVariables false
theorem most_t (A0 A : Option Addr) (l : List Da) (T : List Int) (cap0 cap N : Nat) (t : Ty) (x : Int) (hNT : T.length = N) (hx : x ∈ ctR l t) (w : World) (hr0 : RDas w w.heap.size A0 l) (hr : RInts w A T) (hn : T.length = l.length * 4) (hT : ∀ x ∈ T, 0 ≤ x ∧ x ≤ 5000) (hix : 0 ≤ t.index ∧ t.index ≤ 3) :
    Calls Try.prog 99 #[.slice A0 l.length cap0, .slice A N cap, .agg #[.int .i64 t.data, .int .i64 t.index], .int .i64 x] w fun e w' => e = .returned (.int .i64 (mostL T (agR l t x))) ∧ Below w.heap.size w w' := by
  subst hNT
  obtain ⟨ht, d, m, hd, h1, rfl, hm⟩ := mem_ctR hx
  obtain ⟨td, ti⟩ := t
  simp only at h1 hix
  subst h1
  rw [agR_yes hx hd hm]
  exact most_any A0 A l T cap0 cap d m ti hd hm (args_three ht.1 hd hm) w hr0 hr hn ht.1.1 hT (args_in ht.1 hd hm hix.1 hix.2)
/-- A table of integers in the block B. -/
def Tab (w : World) (B N : Nat) (T : List Int) : Prop := w.ownsRow B 3 1 (.slice (some ⟨B, 0, none⟩) N N) N (T.map (Value.int .i64))
theorem Tab.cell_ {w : World} {B N : Nat} {T : List Int} (h : Tab w B N T) {s : Nat} (hs : s < N) (hl : s < T.length) : w.cell? ⟨B, s, none⟩ = some (.int .i64 T[s]) := by
  have h' : w.ownsRow B 3 1 (.slice (some ⟨B, 0, none⟩) N N) N (T.map (Value.int .i64)) := h
  rw [h'.cellAt s (by omega), List.getElem?_map, List.getElem?_eq_getElem hl]; rfl
theorem Tab.reads {w : World} {B N : Nat} {T : List Int} (h : Tab w B N T) (hl : T.length = N) (hm : N ≤ 100) : RInts w (some ⟨B, 0, none⟩) T :=
  ⟨by unfold maxLen; omega, fun k hk => ⟨B, 0, rfl, own_lt h, by rw [Nat.zero_add]; exact h.cell_ (by omega) hk⟩⟩
theorem Tab.below {w w' : World} {B N : Nat} {T : List Int} (h : Tab w B N T) (hb : Below w.heap.size w w') : Tab w' B N T := own_below h hb
theorem Tab.set {w : World} {B N s : Nat} {T : List Int} (h : Tab w B N T) (v : Int) : Tab (w.setCell ⟨B, s, none⟩ (.int .i64 v)) B N (T.set s v) := by
  have h2 := (World.ownsRow.stored h s (.int .i64 v)).1
  unfold Tab
  rw [List.map_set]
  exact h2
theorem OInts.form2 {w : World} {lo : Nat} {v : Value} {xs : List Int} (h : OInts w lo v xs) (hx : xs.length ≤ 4) : ∃ A cap, v = .slice A xs.length cap ∧ RInts w A xs ∧ ∀ b off, A = some ⟨b, off, none⟩ → lo ≤ b := by
  have hm : xs.length ≤ maxLen := by unfold maxLen; omega
  obtain ⟨A, cap, rfl, hr⟩ := h.form hm
  have h' : w.ownsRow lo 3 1 (.slice A xs.length cap) xs.length (xs.map (Value.int .i64)) := h
  refine ⟨A, cap, rfl, hr, fun b off e => ?_⟩
  rcases h'.2 with ⟨e1, _⟩ | ⟨g, cap', cur, e1, hb, _⟩
  · rw [e] at e1; simp at e1
  · rw [e] at e1; cases e1; exact hb
theorem ctor_of {l : List Da} {s : Nat} {x : Int} (h : x ∈ ctR l (tyAt s)) : ∃ (d : Nat) (hd : d < l.length) (m : Nat) (hm : m < l[d].ctors.length), (tyAt s).data = d ∧ x = m ∧ fitsB l[d].ctors[m].index (tyAt s).index = true ∧ agR l (tyAt s) x = argT l[d].ctors[m] (tyAt s).index := by
  obtain ⟨ht, d, m, hd, h1, h2, hm⟩ := mem_ctR h
  have e : tyAt s = ⟨(d : Int), (tyAt s).index⟩ := by rw [← h1]
  have h' := h
  have ht' := ht
  rw [e] at h' ht'
  rw [ctR_data ht' hd] at h'
  obtain ⟨m', hm', h3, h4⟩ := fits_of_mem _ (Nat.le_refl _) h'
  refine ⟨d, hd, m', hm', h1, h3, h4, ?_⟩
  rw [h3] at h ⊢
  rw [e] at h ⊢
  exact agR_yes h hd hm'
theorem St.step2 {l : List Da} {T T' : List Int} {n s i : Nat} {x : Int} (h : St l T n s i) (hw : WorldOK l) (hs : s < l.length * 4) (hn : n ≤ 16) (hi : i ≤ 4) (hx : (ctR l (tyAt s))[i]? = some x)
    (hT : (T' = T ∧ (mostL T (agR l (tyAt s) x) = 0 ∨ (¬ dep T (tyAt s) = 0 ∧ dep T (tyAt s) ≤ mostL T (agR l (tyAt s) x)))) ∨
      (T' = T.set s (mostL T (agR l (tyAt s) x)) ∧ 0 < mostL T (agR l (tyAt s) x) ∧ (dep T (tyAt s) = 0 ∨ mostL T (agR l (tyAt s) x) < dep T (tyAt s)))) : St l T' n s (i + 1) := by
  obtain ⟨d, hd, m, hm, h1, h2, h3, h4⟩ := ctor_of (List.mem_of_getElem? hx)
  rw [h4] at hT
  rw [h2] at hx
  exact h.step hw hs hn hi hd hm h1 hx h3 hT
theorem dep_at {T : List Int} {s : Nat} (hs : s < T.length) : dep T (tyAt s) = T[s] := by
  have e := dep_data (T := T) (tyAt_data s) (by rw [tyAt_slot]; exact hs)
  rw [e]; congr 1; exact tyAt_slot s
theorem most_nonneg {T : List Int} (hT : ∀ x ∈ T, 0 ≤ x ∧ x ≤ 5000) (L : List Ty) : 0 ≤ mostL T L := by
  have := maxTo_bd hT L L.length
  unfold mostL
  split <;> omega
theorem cell_far {w : World} {p a : Addr} {v : Value} (h : ¬ p.block = a.block) : (w.setCell p v).cell? a = w.cell? a :=
  World.cell?_setCell_other _ _ _ _ (fun e => h (by rw [e]))
theorem most_v (A0 A : Option Addr) (l : List Da) (T : List Int) (cap0 cap N : Nat) (t : Ty) (x V : Int) (hV : mostL T (agR l t x) = V) (hNT : T.length = N) (hx : x ∈ ctR l t) (w : World) (hr0 : RDas w w.heap.size A0 l) (hr : RInts w A T) (hn : T.length = l.length * 4) (hT : ∀ x ∈ T, 0 ≤ x ∧ x ≤ 5000) (hix : 0 ≤ t.index ∧ t.index ≤ 3) :
    Calls Try.prog 99 #[.slice A0 l.length cap0, .slice A N cap, .agg #[.int .i64 t.data, .int .i64 t.index], .int .i64 x] w fun e w' => e = .returned (.int .i64 V) ∧ Below w.heap.size w w' := by
  subst hV; exact most_t A0 A l T cap0 cap N t x hNT hx w hr0 hr hn hT hix
set_option maxHeartbeats 4000000 in
theorem table_any (A : Option Addr) (l : List Da) (cap : Nat) (w : World) (hr : RDas w w.heap.size A l) (hw : WorldOK l) :
    Calls Try.prog 63 #[.slice A l.length cap] w fun e w' => ∃ T, e = .returned (.slice (some ⟨w.heap.size, 0, none⟩) (l.length * 4) (l.length * 4)) ∧ Tab w' w.heap.size (l.length * 4) T ∧ St l T (l.length * 4 + 1) 0 0 ∧ Below w.heap.size w w' := by
  obtain ⟨i0, hi, hz0, hz1, hz2⟩ := info_parts info3
  have hl4 := hw.1
  have HW := Lib.hid hw
  have Hr := Lib.hid hr
  clear hr hw
  have eL : ((l.length * 4 : Nat) : Int) = (l.length : Int) * 4 := by push_cast; rfl
  go_enter Try.func63, Try.ntmps63
  go_wp2_with (at_make; refine wpList_make_full _ rfl _ _ 79 rfl w.heap.size 3 i0 _ 1 Try.underlying79 hi hz0 hz1 _ _ _ _ (l.length * 4) rfl rfl (by push_cast; rfl) (by push_cast; rfl) (by rw [hz2]; omega) (by unfold maxLen; omega) (Nat.le_refl _) ?_; intro w1 hown hgr)
  have hone : (madeCells (Value.int .i64 0).cells (l.length * 4 * 1)).toList = (List.replicate (l.length * 4) (0 : Int)).map (Value.int .i64) := by
    rw [Nat.mul_one, List.map_replicate]; exact toList_madeCells_one _ _
  have hT0 : Tab w1 w.heap.size (l.length * 4) (List.replicate (l.length * 4) 0) := by unfold Tab; rw [← hone]; exact hown
  have hb1 := below_of_grown hgr (Nat.le_refl w.heap.size)
  have hS0 : St l (List.replicate (l.length * 4) 0) 0 0 0 := St.start l _ (by simp) (fun x hx => (List.mem_replicate.1 hx).2)
  clear hown hgr hone hi hz0 hz1 hz2 eL
  go_loopw [4] (fun i wr => ∃ n : Nat, n ≤ l.length * 4 + 1 ∧ i = .int .i64 n ∧ ∃ T, Tab wr w.heap.size (l.length * 4) T ∧ St l T n 0 0 ∧ Below w.heap.size w wr) (fun i _ => l.length * 4 + 1 - (intOf i).toNat)
  case atStart => exact ⟨0, by omega, rfl, _, hT0, hS0, hb1⟩
  case round =>
    clear hT0 hS0 hb1
    obtain ⟨n, hn, rfl, T, hT, hS, hb⟩ := hrel
    by_cases hlt : n < l.length * 4 + 1
    · have hnI : (n : Int) ≤ (l.length : Int) * 4 := by omega
      go_wp2_with fail
      go_loopw [5] (fun i wr => ∃ s : Nat, s ≤ l.length * 4 ∧ i = .int .i64 s ∧ ∃ T, Tab wr w.heap.size (l.length * 4) T ∧ St l T n s 0 ∧ Below w.heap.size w wr) (fun i _ => l.length * 4 - (intOf i).toNat)
      case atStart => exact ⟨0, by omega, rfl, _, hT, hS, hb⟩
      case round =>
        clear hT hS hb
        obtain ⟨s, hs, rfl, T, hT, hS, hb⟩ := hrel
        have hlw := hb.size
        by_cases hst : s < l.length * 4
        · have hsI : (s : Int) < (l.length : Int) * 4 := by omega
          have hok := tyAt_ok HW.out hst
          have hRl := ctR_len l (tyAt s)
          have HT := Lib.hid hT
          have HS := Lib.hid hS
          clear hT hS
          go_wp2_with fail
          refine (l1Ctors_all _ l _ (tyAt s) _ (Hr.out.keep (fun p hp => (keep_one _ p (by omega)).trans (hb.cell hp)) (by simp; omega)) hok).mono ?_
          rintro e w2 ⟨v, rfl, ho, hb2⟩
          obtain ⟨A1, cap1, rfl, hr1, hA1⟩ := ho.form2 hRl
          have hb3 := hb.trans ((below_one hb2).mono hlw)
          have HT2 := Lib.hid (HT.out.below (below_one hb2))
          have HX2 := Lib.hid (⟨(hb2.cell (p := ⟨wr.heap.size, 0, none⟩) (by simp)).trans (by simp [go_sem]), (hb2.cell (p := ⟨wr.heap.size, 1, none⟩) (by simp)).trans (by simp [go_sem])⟩ : w2.cell? ⟨wr.heap.size, 0, none⟩ = some (.int .i64 ((s : Int) / 4)) ∧ w2.cell? ⟨wr.heap.size, 1, none⟩ = some (.int .i64 ((s : Int) % 4)))
          have HR2 := Lib.hid hr1
          have HA1 := Lib.hid hA1
          have hbx : w.heap.size < wr.heap.size := own_lt HT.out
          clear ho hr1 hA1 hb2 HT hb
          obtain ⟨wo, rfl⟩ : ∃ wo : World, wo = wr := ⟨_, rfl⟩
          go_wp2_with fail
          go_loopw [8] (fun i wi => ∃ j : Nat, j ≤ (ctR l (tyAt s)).length ∧ i = .int .i64 j ∧ ∃ T, Tab wi w.heap.size (l.length * 4) T ∧ St l T n s j ∧ RInts wi A1 (ctR l (tyAt s)) ∧ (wi.cell? ⟨wo.heap.size, 0, none⟩ = some (.int .i64 ((s : Int) / 4)) ∧ wi.cell? ⟨wo.heap.size, 1, none⟩ = some (.int .i64 ((s : Int) % 4))) ∧ Below w.heap.size w wi) (fun i _ => (ctR l (tyAt s)).length - (intOf i).toNat)
          case atStart => exact ⟨0, by omega, rfl, _, HT2.out, HS.out, HR2.out, HX2.out, hb3⟩
          case round =>
            clear HT2 HS HR2 HX2 hb3
            obtain ⟨j, hj, rfl, T, hT, hS, hR, ⟨q0, q1⟩, hb⟩ := hrel
            have hlw2 := hb.size
            by_cases hjt : j < (ctR l (tyAt s)).length
            · have hjI : (j : Int) < ((ctR l (tyAt s)).length : Int) := by omega
              have hx : (ctR l (tyAt s))[j]? = some (ctR l (tyAt s))[j] := List.getElem?_eq_getElem hjt
              have hxm : (ctR l (tyAt s))[j] ∈ ctR l (tyAt s) := List.getElem_mem hjt
              obtain ⟨bR, offR, hA1e, hbR, r0⟩ := hR.2 j hjt
              generalize (ctR l (tyAt s))[j] = x at hx hxm r0
              subst hA1e
              have hsT : s < T.length := by rw [hS.len]; exact hst
              have hTb : ∀ x ∈ T, 0 ≤ x ∧ x ≤ 5000 := fun x hx => by have := hS.bd x hx; omega
              have y0 := cell_regrown q0
              have y1 := cell_regrown q1
              have s0 := cell_regrown r0
              have hc := hT.cell_ hst hsT
              have hnn := most_nonneg hTb (agR l (tyAt s) x)
              have HS := Lib.hid hS
              have HL := Lib.hid hS.len
              have HTb := Lib.hid hTb
              have HT := Lib.hid hT
              have HRI := Lib.hid hR
              have HB := Lib.hid hb
              have HXM := Lib.hid hxm
              have HQ := Lib.hid (⟨q0, q1⟩ : wr.cell? ⟨wo.heap.size, 0, none⟩ = some (.int .i64 ((s : Int) / 4)) ∧ wr.cell? ⟨wo.heap.size, 1, none⟩ = some (.int .i64 ((s : Int) % 4)))
              have HK1 : Hid (∀ d os, RDas (grow (redrawn wr d) os) (grow (redrawn wr d) os).heap.size A l) := fun d os => Hr.out.keep (fun p hp => ((below_regrown wr d os).cell (by omega)).trans (hb.cell hp)) (by have := (below_regrown wr d os).size; omega)
              have HK2 : Hid (∀ d os, RInts (grow (redrawn wr d) os) (some ⟨w.heap.size, 0, none⟩) T) := fun d os => (hT.reads hS.len (by omega)).at_ (below_regrown wr d os)
              clear q0 q1 r0 hS hT hR hb hTb hxm
              generalize hV : mostL T (agR l (tyAt s) x) = V at hnn
              have HST : Hid (∀ T', (T' = T ∧ (V = 0 ∨ (¬ T[s] = 0 ∧ T[s] ≤ V))) ∨ (T' = T.set s V ∧ 0 < V ∧ (T[s] = 0 ∨ V < T[s])) → St l T' n s (j + 1)) := fun T' h => HS.out.step2 HW.out hst (by omega) (by omega) hx (by rw [dep_at hsT, hV]; exact h)
              have HV := Lib.hid hV
              clear hx hV HS
              go_wp2_with fail
              refine wp_region_quiet_below (by kernel_rfl) (by kernel_rfl) ?_
              repeat (quiet_step (exact Calls.regrown_of (most_v _ _ l T _ _ _ (tyAt s) x V HV.out HL.out HXM.out _ (HK1.out _ _) (HK2.out _ _) HL.out HTb.out (by unfold tyAt; simp only; omega))))
              refine wpQuiet_nil ?_
              intro w3 hw'
              have hb2 : Below wr.heap.size wr w3 := by obtain ⟨⟨dq, osq⟩, h⟩ := hw'; subst h; exact below_regrown wr dq osq
              clear hw' y0 y1 s0 HK1 HK2
              have HT3 := Lib.hid (HT.out.below hb2)
              have HR3 := Lib.hid (HRI.out.at_ hb2)
              have HQ3 := Lib.hid (⟨(hb2.cell (p := ⟨wo.heap.size, 0, none⟩) (block_lt_of_cell HQ.out.1)).trans HQ.out.1, (hb2.cell (p := ⟨wo.heap.size, 1, none⟩) (block_lt_of_cell HQ.out.2)).trans HQ.out.2⟩ : w3.cell? ⟨wo.heap.size, 0, none⟩ = some (.int .i64 ((s : Int) / 4)) ∧ w3.cell? ⟨wo.heap.size, 1, none⟩ = some (.int .i64 ((s : Int) % 4)))
              have HB3 := Lib.hid (HB.out.trans (hb2.mono HB.out.size))
              have hc3 : w3.cell? ⟨w.heap.size, s, none⟩ = some (.int .i64 T[s]) := HT3.out.cell_ hst hsT
              clear HT HRI HQ HB hc
              have hfz : w3.frozen? ⟨w.heap.size, s, none⟩ = false := World.ownsRow.frozenAt (show w3.ownsRow w.heap.size 3 1 (.slice (some ⟨w.heap.size, 0, none⟩) (l.length * 4) (l.length * 4)) (l.length * 4) (T.map (Value.int .i64)) from HT3.out) s
              have hbA : w.heap.size < bR := by have := HA1.out bR offR rfl; simp at this; omega
              by_cases hV0 : V = 0
              · have hV1 : ¬ 0 < V := by omega
                have HS' := Lib.hid (HST.out T (.inl ⟨rfl, .inl hV0⟩))
                clear HST
                go_wp2_with fail
                go_roundw
                case rel => exact ⟨j + 1, by omega, by go_num, T, HT3.out, HS'.out, HR3.out, HQ3.out, HB3.out⟩
                case measure => simp [intOf]; omega
              · have hV1 : 0 < V := by omega
                have HR4 : Hid (RInts (w3.setCell ⟨w.heap.size, s, none⟩ (.int .i64 V)) (some ⟨bR, offR, none⟩) (ctR l (tyAt s))) := ⟨HR3.out.1, fun k hk => by
                  obtain ⟨b', o', e, h1, h2⟩ := HR3.out.2 k hk
                  refine ⟨b', o', e, by simpa using h1, ?_⟩
                  cases e
                  exact (cell_far (by simp only; omega)).trans h2⟩
                have HQ4 : Hid ((w3.setCell ⟨w.heap.size, s, none⟩ (.int .i64 V)).cell? ⟨wo.heap.size, 0, none⟩ = some (.int .i64 ((s : Int) / 4)) ∧ (w3.setCell ⟨w.heap.size, s, none⟩ (.int .i64 V)).cell? ⟨wo.heap.size, 1, none⟩ = some (.int .i64 ((s : Int) % 4))) := ⟨(cell_far (by simp only; omega)).trans HQ3.out.1, (cell_far (by simp only; omega)).trans HQ3.out.2⟩
                have HB4 := Lib.hid (HB3.out.setCell (p := ⟨w.heap.size, s, none⟩) (Nat.le_refl _) (.int .i64 V))
                by_cases hz : T[s] = 0
                · have HS' := Lib.hid (HST.out (T.set s V) (.inr ⟨rfl, hV1, .inl hz⟩))
                  have q := ieq_t hz
                  clear HST
                  go_wp2_with fail
                  go_roundw
                  case rel => exact ⟨j + 1, by omega, by go_num, T.set s V, HT3.out.set V, HS'.out, HR4.out, HQ4.out, HB4.out⟩
                  case measure => simp [intOf]; omega
                · have q := ieq_f hz
                  by_cases hlt3 : V < T[s]
                  · have HS' := Lib.hid (HST.out (T.set s V) (.inr ⟨rfl, hV1, .inr hlt3⟩))
                    clear HST
                    go_wp2_with fail
                    go_roundw
                    case rel => exact ⟨j + 1, by omega, by go_num, T.set s V, HT3.out.set V, HS'.out, HR4.out, HQ4.out, HB4.out⟩
                    case measure => simp [intOf]; omega
                  · have HS' := Lib.hid (HST.out T (.inl ⟨rfl, .inr ⟨hz, by omega⟩⟩))
                    clear HST
                    go_wp2_with fail
                    go_roundw
                    case rel => exact ⟨j + 1, by omega, by go_num, T, HT3.out, HS'.out, HR3.out, HQ3.out, HB3.out⟩
                    case measure => simp [intOf]; omega
            · have hje : (ctR l (tyAt s)).length ≤ j := by omega
              have HS' := Lib.hid (hS.place HW.out hst hje (by omega))
              have hjI : ((ctR l (tyAt s)).length : Int) ≤ (j : Int) := by omega
              clear hS hje
              go_wp2_with fail
              go_roundw
              case rel => exact ⟨s + 1, by omega, by go_num, T, hT, HS'.out, hb⟩
              case measure => simp [intOf]; omega
        · have hse : s = l.length * 4 := by omega
          have HS' := Lib.hid (hS.pass hl4 hse)
          have hsI : (l.length : Int) * 4 ≤ (s : Int) := by omega
          clear hS hse
          go_wp2_with fail
          go_roundw
          case rel => exact ⟨n + 1, by omega, by go_num, T, hT, HS'.out, hb⟩
          case measure => simp [intOf]; omega
    · have he : n = l.length * 4 + 1 := by omega
      have HS : Hid (St l T (l.length * 4 + 1) 0 0) := by rw [← he]; exact hS
      have hnI : (l.length : Int) * 4 < (n : Int) := by omega
      clear he hS
      go_wp2_with fail
      go_ret
      exact ⟨T, rfl, hT, HS.out, hb⟩
end Go.Proofs.Ytbeejeialjfdnaa
/-
  Whether a type has a value with arguments of known types: the program's closure, the library's functions over it, the program's function. No statement is proved here.
-/
namespace Go.Proofs.Ytbeejeialjfdnaa
open Go.RowKit Go.Deep
set_option maxRecDepth 100000
set_option linter.unusedVariables false
theorem mxT_nonneg (F : Ty → Int) (L : List Ty) : ∀ k, 0 ≤ mxT F L k
  | 0 => Int.le_refl _
  | k + 1 => by
    have := mxT_nonneg F L k
    show 0 ≤ max (mxT F L k) _
    omega
end Go.Proofs.Ytbeejeialjfdnaa
/-
  Whether a type has a value with arguments of known types: the program's function. No statement is proved here.
-/
namespace Go.Proofs.Ytbeejeialjfdnaa
open Go.RowKit Go.Deep
set_option maxRecDepth 100000
set_option linter.unusedVariables false
theorem ctor_at {l : List Da} {t : Ty} {x : Int} (h : x ∈ ctR l t) : ∃ (d : Nat) (hd : d < l.length) (m : Nat) (hm : m < l[d].ctors.length), t.data = d ∧ x = m ∧ fitsB l[d].ctors[m].index t.index = true ∧ agR l t x = argT l[d].ctors[m] t.index := by
  obtain ⟨ht, d, m, hd, h1, h2, hm⟩ := mem_ctR h
  obtain ⟨td, ti⟩ := t
  simp only at h1
  subst h1
  have h' := h
  rw [ctR_data ht hd] at h'
  obtain ⟨m', hm', h3, h4⟩ := fits_of_mem _ (Nat.le_refl _) h'
  subst h3
  exact ⟨d, hd, m', hm', rfl, rfl, h4, agR_yes h hd hm'⟩
theorem mkF_iff {l : List Da} {S : Ty → Prop} {t : Ty} (hok : TyOK l t) (hd : ¬ t.data = -1) : mkF l S t ↔ ∃ x ∈ ctR l t, ∀ a ∈ agR l t x, S a := by
  constructor
  · rintro (h0 | ⟨d, hdl, m, hm, h1, h2, h3⟩)
    · exact absurd h0 hd
    · obtain ⟨td, ti⟩ := t
      simp only at h1
      subst h1
      have hx : (m : Int) ∈ ctR l ⟨d, ti⟩ := by rw [ctR_data hok hdl]; exact mem_of_fits hm h2 _ hm (Nat.le_refl _)
      exact ⟨m, hx, by rw [agR_yes hx hdl hm]; exact h3⟩
  · rintro ⟨x, hx, h⟩
    obtain ⟨d, hdl, m, hm, h1, h2, h3, h4⟩ := ctor_at hx
    rw [h4] at h
    exact .inr ⟨d, hdl, m, hm, h1, h3, h⟩
theorem below_after {w wr w' : World} {B : Nat} (h : Below B w wr) (hb : Below wr.heap.size wr w') (hB : B ≤ wr.heap.size) : Below B w w' := h.trans (hb.mono hB)
end Go.Proofs.Ytbeejeialjfdnaa
/-
  The types of a world in a row; the types that have a value with arguments of known types, and the others, in two rows. No statement is proved here.
-/
namespace Go.Proofs.Ytbeejeialjfdnaa
open Go.RowKit
set_option maxRecDepth 100000
set_option linter.unusedVariables false
theorem OTys.snoc {w w1 : World} {lo : Nat} {v v' : Value} {l : List Ty} {k : Nat} {xs : List Value} {d i : Int} (hx : TyRow l xs k) (hk : k < l.length) (hxl : xs.length = k * 2) (ho : w1.ownsRow lo 25 2 v' (k + 1) (xs ++ [.int .i64 d, .int .i64 i])) (e : l[k] = ⟨d, i⟩) : OTys w1 lo v' l (k + 1) := by
  have := hx.snoc hk hxl
  rw [e] at this
  exact ⟨_, ho, this⟩
end Go.Proofs.Ytbeejeialjfdnaa
/-
  The types that have a value with arguments of known types, and the others, in two rows. No statement is proved here.
-/
namespace Go.Proofs.Ytbeejeialjfdnaa
open Go.RowKit
set_option maxRecDepth 100000
set_option linter.unusedVariables false
/-- Two rows that share no block. -/
def Apart (v u : Value) : Prop := ∀ g, v.ownBlock = some g → u.ownBlock = some g → False
theorem Apart.symm {v u : Value} (h : Apart v u) : Apart u v := fun g a b => h g b a
theorem Apart.ne {v u : Value} (h : Apart v u) : u.ownBlock = none ∨ u.ownBlock ≠ v.ownBlock := by
  cases e : u.ownBlock with
  | none => exact .inl rfl
  | some g => exact .inr (fun e2 => h g e2.symm e)
theorem OTys.lt {w : World} {lo : Nat} {v : Value} {l : List Ty} {k : Nat} (h : OTys w lo v l k) : ∀ g, v.ownBlock = some g → lo ≤ g ∧ g < w.heap.size := by
  obtain ⟨xs, ho, _⟩ := h
  exact ho.lt
theorem OTys.kept {w w' : World} {lo : Nat} {v u : Value} {l : List Ty} {k : Nat} (h : OTys w lo u l k) (hg : w.grownBy w' v.ownBlock) (ha : Apart v u) : OTys w' lo u l k := by
  obtain ⟨xs, ho, hx⟩ := h
  exact ⟨xs, ho.kept hg ha.ne, hx⟩
theorem OTys.alloc {w : World} {lo : Nat} {u : Value} {l : List Ty} {k : Nat} (h : OTys w lo u l k) (o : Obj) : OTys (w.alloc o) lo u l k := by
  obtain ⟨xs, ho, hx⟩ := h
  exact ⟨xs, ho.alloc o, hx⟩
theorem OTys.at_ {w w' : World} {lo : Nat} {u : Value} {l : List Ty} {k : Nat} (h : OTys w lo u l k) (hb : Below w.heap.size w w') : OTys w' lo u l k := by
  obtain ⟨xs, ho, hx⟩ := h
  exact ⟨xs, own_below ho hb, hx⟩
theorem OTys.nil (w : World) (lo : Nat) : OTys w lo (.slice none 0 0) [] 0 := ⟨[], World.ownsRow_nil _ _ _ _, TyRow.zero _ _⟩
theorem TyRow.app {l : List Ty} {xs : List Value} {t : Ty} (h : TyRow l xs l.length) (hx : xs.length = l.length * 2) : TyRow (l ++ [t]) (xs ++ [.int .i64 t.data, .int .i64 t.index]) (l.length + 1) := by
  intro j hj hjk
  by_cases e : j = l.length
  · subst e
    constructor
    · rw [List.getElem?_append_right (by omega), hx]; simp
    · rw [List.getElem?_append_right (by omega), hx]; simp
  · have hjl : j < l.length := by omega
    obtain ⟨a, b⟩ := h j hjl hjl
    rw [List.getElem_append_left hjl]
    constructor
    · rw [List.getElem?_append_left (by omega)]; exact a
    · rw [List.getElem?_append_left (by omega)]; exact b
theorem OTys.app {w : World} {lo : Nat} {v : Value} {l : List Ty} {xs : List Value} {t : Ty} (h : TyRow l xs l.length) (hx : xs.length = l.length * 2) (ho : w.ownsRow lo 25 2 v (l.length + 1) (xs ++ [.int .i64 t.data, .int .i64 t.index])) : OTys w lo v (l ++ [t]) (l ++ [t]).length := by
  have e : (l ++ [t]).length = l.length + 1 := by simp
  rw [e]
  exact ⟨_, ho, h.app hx⟩
/-- Those of the first k for which P holds. -/
noncomputable def fil (P : Ty → Prop) (U : List Ty) (k : Nat) : List Ty := (U.take k).filter (fun t => dec (P t))
end Go.Proofs.Ytbeejeialjfdnaa
