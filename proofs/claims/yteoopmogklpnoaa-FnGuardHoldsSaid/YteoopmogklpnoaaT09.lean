/-
  The depth that a table gives for a constructor of a valid type; the places of a table as types. No statement is proved here.
-/
import Derived.Test.YteoopmogklpnoaaT08
import Derived.Test.YteoopmogklpnoaaT04
import Derived.Test.YteoopmogklpnoaaT05
import Derived.Test.YteoopmogklpnoaaT00
import Derived.Test.YteoopmogklpnoaaT03
import Derived.Test.YteoopmogklpnoaaT07
import Derived.Deep.Fields
import Derived.Deep.Slices
import Derived.WalkLawsBesides
import Derived.Maps.OwnSet
import Derived.DeepKeys5
namespace Go.Proofs.Yteoopmogklpnoaa
open Go.RowKit
set_option maxRecDepth 100000
set_option linter.unusedVariables false
theorem ctor_parts {n : Int} {c : Ct} (h : ctorB n c = true) : (0 ≤ c.index ∧ c.index ≤ 3) ∧ ∀ a ∈ c.args, argB n (-1) a = true := by
  refine ⟨?_, ?_⟩
  · by_cases h1 : 0 ≤ c.index ∧ c.index ≤ 3
    · exact h1
    · have := ctor_index (n := n) h1; rw [h] at this; cases this
  · intro a ha
    by_cases h2 : c.args.all (argB n (-1)) = true
    · exact List.all_eq_true.1 h2 a ha
    · have h3 : c.args.all (argB n (-1)) = false := by simpa using h2
      have := ctor_bad h3; rw [h] at this; cases this
theorem world_ctor {l : List Da} (h : WorldOK l) {d m : Nat} (hd : d < l.length) (hm : m < l[d].ctors.length) : ctorB l.length l[d].ctors[m] = true := by
  have h1 := h.2.1 d hd hd
  by_cases h2 : ctorB l.length l[d].ctors[m] = true
  · exact h2
  · have h3 : ctorB l.length l[d].ctors[m] = false := by simpa using h2
    have := data_bad (n := l.length) (all_bad hm h3); rw [h1] at this; cases this
theorem args_in {l : List Da} (h : WorldOK l) {d m : Nat} (hd : d < l.length) (hm : m < l[d].ctors.length) {ix : Int} (h0 : 0 ≤ ix) (h3 : ix ≤ 3) : ∀ a ∈ argT l[d].ctors[m] ix, TyIn l.length a := by
  intro a ha
  obtain ⟨hi, hargs⟩ := ctor_parts (world_ctor h hd hm)
  unfold argT at ha
  obtain ⟨b, hb, rfl⟩ := List.mem_map.1 ha
  have hB := hargs b hb
  by_cases hb1 : b.data = -1
  · left
    unfold argOf
    split <;> exact hb1
  · rw [argB_data hb1] at hB
    have hp := of_decide_eq_true hB
    right
    by_cases hs : b.index = -1
    · rw [argOf_same hs]
      unfold resI
      simp only
      split <;> omega
    · rw [argOf_other hs]
      omega
/-- The type of a place in the table. -/
def tyAt (s : Nat) : Ty := ⟨(s : Int) / 4, (s : Int) % 4⟩
theorem tyAt_slot (s : Nat) : slotN (tyAt s) = s := by unfold slotN tyAt; simp only; omega
theorem tyAt_data (s : Nat) : ¬ (tyAt s).data = -1 := by unfold tyAt; simp only; omega
theorem tyAt_in {n s : Nat} (h : s < n * 4) : TyIn n (tyAt s) := by right; unfold tyAt; simp only; omega
theorem tyAt_ok {l : List Da} (h : WorldOK l) {s : Nat} (hs : s < l.length * 4) : TyOK l (tyAt s) := by
  refine ⟨h, ?_⟩
  rw [argB_data (tyAt_data s)]
  exact decide_eq_true (by unfold tyAt; simp only; omega)
theorem in_tyAt {n : Nat} {t : Ty} (h : TyIn n t) (hd : ¬ t.data = -1) : t = tyAt (slotN t) ∧ slotN t < n * 4 := by
  obtain ⟨a, b⟩ := t
  have h1 := h.resolve_left hd
  unfold tyAt slotN
  simp only at *
  refine ⟨?_, by omega⟩
  have e1 : (((a * 4 + b).toNat : Nat) : Int) = a * 4 + b := by omega
  rw [e1]
  congr 1 <;> omega
theorem fits_of_mem {cs : List Ct} {i x : Int} : ∀ n, n ≤ cs.length → x ∈ ctL cs i n → ∃ (m : Nat) (hm : m < cs.length), x = m ∧ fitsB cs[m].index i = true
  | n + 1, hn, h => by
    have h' : x ∈ ctL cs i n ++ (if fitsB (cs.getD n default).index i then [(n : Int)] else []) := h
    have e : cs.getD n default = cs[n] := by simp [List.getD, List.getElem?_eq_getElem (show n < cs.length by omega)]
    rcases List.mem_append.1 h' with h1 | h1
    · exact fits_of_mem n (by omega) h1
    · rw [e] at h1
      split at h1
      · rename_i hf
        exact ⟨n, by omega, by simpa using h1, hf⟩
      · simp at h1
theorem mem_of_fits {cs : List Ct} {i : Int} {m : Nat} (hm : m < cs.length) (hf : fitsB cs[m].index i = true) : ∀ n, m < n → n ≤ cs.length → (m : Int) ∈ ctL cs i n
  | n + 1, h1, h2 => by
    by_cases e : m = n
    · subst e; rw [ctL_yes hm hf]; exact List.mem_append_right _ (by simp)
    · have := mem_of_fits hm hf n (by omega) (by omega)
      show (m : Int) ∈ ctL cs i n ++ _
      exact List.mem_append_left _ this
end Go.Proofs.Yteoopmogklpnoaa
/-
  What the three loops over a table keep, step by step. No statement is proved here.
-/
namespace Go.Proofs.Yteoopmogklpnoaa
set_option maxRecDepth 100000
set_option linter.unusedVariables false
/-- A constructor of a place has been looked at: if its arguments are made within n rounds, the entry is at most n + 1. -/
def Okc (l : List Da) (T : List Int) (n s : Nat) (x : Int) : Prop := ∀ (d : Nat) (hd : d < l.length) (m : Nat) (hm : m < l[d].ctors.length), (tyAt s).data = d → x = m →
  (∀ a ∈ argT l[d].ctors[m] (tyAt s).index, Dk (mkF l) n a) → ¬ dep T (tyAt s) = 0 ∧ dep T (tyAt s) ≤ n + 1
/-- After n passes, s places and i constructors. -/
structure St (l : List Da) (T : List Int) (n s i : Nat) : Prop where
  len : T.length = l.length * 4
  bd : ∀ x ∈ T, 0 ≤ x ∧ x ≤ 64 * n + 4 * s + i + 1
  sound : Sound l T
  full : ∀ k, k ≤ n → ∀ t, TyIn l.length t → Full l T k t
  row : ∀ a, a < s → Full l T (n + 1) (tyAt a)
  ctors : ∀ j, j < i → ∀ x, (ctR l (tyAt s))[j]? = some x → Okc l T n s x
theorem St.start (l : List Da) (T : List Int) (hl : T.length = l.length * 4) (h0 : ∀ x ∈ T, x = 0) : St l T 0 0 0 where
  len := hl
  bd := fun x hx => by have := h0 x hx; omega
  sound := fun t ht hd => by
    by_cases h : t.data = -1
    · rw [dep_int h]; exact ⟨by omega, .inl h⟩
    · have hs : slotN t < T.length := by rw [hl]; exact (in_tyAt ht h).2
      rw [dep_data h hs] at hd
      exact absurd (h0 _ (List.getElem_mem hs)) hd
  full := fun k hk t ht hd => by
    have : k = 0 := by omega
    subst this
    exact hd.elim
  row := fun a h => absurd h (by omega)
  ctors := fun j h => absurd h (by omega)
theorem Okc.less {l : List Da} {T T' : List Int} {n s : Nat} {x : Int} (h : Okc l T n s x) (hl : Less T T') : Okc l T' n s x := fun d hd m hm h1 h2 h3 => by
  obtain ⟨h4, h5⟩ := h d hd m hm h1 h2 h3
  obtain ⟨h6, h7⟩ := hl _ h4
  exact ⟨h6, by omega⟩
/-- One constructor more: the table as it was, or with the entry set. -/
theorem St.step {l : List Da} {T T' : List Int} {n s i : Nat} {d m : Nat} (h : St l T n s i) (hw : WorldOK l) (hs : s < l.length * 4) (hn : n ≤ 16) (hi : i ≤ 4)
    (hd : d < l.length) (hm : m < l[d].ctors.length) (hdt : (tyAt s).data = d) (hx : (ctR l (tyAt s))[i]? = some (m : Int)) (hf : fitsB l[d].ctors[m].index (tyAt s).index = true)
    (hT : (T' = T ∧ (mostL T (argT l[d].ctors[m] (tyAt s).index) = 0 ∨ (¬ dep T (tyAt s) = 0 ∧ dep T (tyAt s) ≤ mostL T (argT l[d].ctors[m] (tyAt s).index)))) ∨
      (T' = T.set s (mostL T (argT l[d].ctors[m] (tyAt s).index)) ∧ 0 < mostL T (argT l[d].ctors[m] (tyAt s).index) ∧ (dep T (tyAt s) = 0 ∨ mostL T (argT l[d].ctors[m] (tyAt s).index) < dep T (tyAt s)))) : St l T' n s (i + 1) := by
  have hl4 := hw.1
  have hsT : s < T.length := by rw [h.len]; exact hs
  have hix : 0 ≤ (tyAt s).index ∧ (tyAt s).index ≤ 3 := by unfold tyAt; simp only; omega
  have hin := args_in hw hd hm hix.1 hix.2
  have hb : ∀ x ∈ T, 0 ≤ x ∧ x ≤ 5000 := fun x hx => by have := h.bd x hx; omega
  have hds : dep T (tyAt s) = T[s] := by
    have e := dep_data (T := T) (tyAt_data s) (by rw [tyAt_slot]; exact hsT)
    rw [e]; congr 1; exact tyAt_slot s
  have hmb : mostL T (argT l[d].ctors[m] (tyAt s).index) ≤ 64 * n + 4 * s + i + 1 + 1 := by
    unfold mostL
    split
    · omega
    · have := maxTo_le (T := T) (L := argT l[d].ctors[m] (tyAt s).index) (b := 64 * n + 4 * s + i + 1) (by omega) (fun j hj => by
        unfold dep
        split
        · omega
        · by_cases hq : slotN (argT l[d].ctors[m] (tyAt s).index)[j] < T.length
          · simp only [List.getD, List.getElem?_eq_getElem hq, Option.getD_some]; exact (h.bd _ (List.getElem_mem hq)).2
          · simp only [List.getD, List.getElem?_eq_none (Nat.le_of_not_lt hq), Option.getD_none]; omega) _ (Nat.le_refl _)
      omega
  have hless : Less T T' := by
    rcases hT with ⟨rfl, _⟩ | ⟨rfl, h1, h2⟩
    · exact Less.refl _
    · refine less_set hsT (by omega) ?_
      rw [← hds]
      exact h2.imp id (fun h => by omega)
  have hnew : Okc l T' n s (m : Int) := fun d' hd' m' hm' e1 e2 hargs => by
    have : d' = d := by rw [hdt] at e1; omega
    subst this
    have : m' = m := by omega
    subst this
    obtain ⟨h1, h2⟩ := most_full (T := T) (n := n) (fun a ha => h.full n (Nat.le_refl _) a (hin a ha)) hargs
    rcases hT with ⟨rfl, h3 | ⟨h3, h4⟩⟩ | ⟨rfl, h3, h4⟩
    · exact absurd h3 h1
    · exact ⟨h3, by omega⟩
    · have e : dep (T.set s (mostL T (argT l[d'].ctors[m'] (tyAt s).index))) (tyAt s) = mostL T (argT l[d'].ctors[m'] (tyAt s).index) := by
        have := dep_set_same (T := T) (t := tyAt s) (v := mostL T (argT l[d'].ctors[m'] (tyAt s).index)) (tyAt_data s) (by rw [tyAt_slot]; exact hsT)
        rwa [tyAt_slot] at this
      rw [e]
      exact ⟨h1, h2⟩
  refine ⟨?_, ?_, ?_, ?_, ?_, ?_⟩
  · rcases hT with ⟨rfl, _⟩ | ⟨rfl, _⟩
    · exact h.len
    · simpa using h.len
  · intro x hx
    rcases hT with ⟨rfl, _⟩ | ⟨rfl, h1, _⟩
    · have := h.bd x hx; omega
    · rcases List.mem_or_eq_of_mem_set hx with h2 | rfl
      · have := h.bd x h2; omega
      · omega
  · rcases hT with ⟨rfl, _⟩ | ⟨rfl, h1, h2⟩
    · exact h.sound
    · have hk := (most_sound hd hm hf h.sound hin hb (by omega)).2
      have e : (⟨(d : Int), (tyAt s).index⟩ : Ty) = tyAt s := by rw [← hdt]
      rw [e] at hk
      have := sound_set h.len h.sound (tyAt_in hs) (tyAt_data s) h1 hk
      rwa [tyAt_slot] at this
  · exact fun k hk t ht => (h.full k hk t ht).less hless
  · exact fun a ha => (h.row a ha).less hless
  · intro j hj x hx'
    by_cases e : j = i
    · subst e
      rw [hx] at hx'
      cases hx'
      exact hnew
    · exact (h.ctors j (by omega) x hx').less hless
/-- One place more. -/
theorem St.place {l : List Da} {T : List Int} {n s i : Nat} (h : St l T n s i) (hw : WorldOK l) (hs : s < l.length * 4) (hi : (ctR l (tyAt s)).length ≤ i) (hi4 : i ≤ 4) : St l T n (s + 1) 0 where
  len := h.len
  bd := fun x hx => by have := h.bd x hx; omega
  sound := h.sound
  full := h.full
  row := fun a ha => by
    by_cases e : a = s
    · subst e
      intro hd
      rcases hd with h0 | ⟨d, hdl, m, hm, h1, h2, h3⟩
      · exact absurd h0 (tyAt_data a)
      · have hok := tyAt_ok hw hs
        have hmem : (m : Int) ∈ ctR l (tyAt a) := by
          have e2 : tyAt a = ⟨(d : Int), (tyAt a).index⟩ := by rw [← h1]
          rw [e2] at hok ⊢
          rw [ctR_data hok hdl]
          exact mem_of_fits hm h2 _ hm (Nat.le_refl _)
        obtain ⟨j, hj, e3⟩ := List.getElem_of_mem hmem
        have := h.ctors j (by omega) (m : Int) (by rw [List.getElem?_eq_getElem hj, e3]) d hdl m hm h1 rfl h3
        push_cast
        exact this
    · exact h.row a (by omega)
  ctors := fun j h => absurd h (by omega)
/-- One pass more. -/
theorem St.pass {l : List Da} {T : List Int} {n s : Nat} (h : St l T n s 0) (hl4 : l.length ≤ 4) (hs : s = l.length * 4) : St l T (n + 1) 0 0 where
  len := h.len
  bd := fun x hx => by have := h.bd x hx; push_cast; omega
  sound := h.sound
  full := fun k hk t ht => by
    by_cases e : k = n + 1
    · subst e
      by_cases hd : t.data = -1
      · intro _; rw [dep_int hd]; exact ⟨by omega, by push_cast; omega⟩
      · obtain ⟨e1, e2⟩ := in_tyAt ht hd
        rw [e1]
        exact h.row _ (by omega)
    · exact h.full k (by omega) t ht
  row := fun a h => absurd h (by omega)
  ctors := fun j h => absurd h (by omega)
end Go.Proofs.Yteoopmogklpnoaa
/-
  The least depth of a type; that a table of depths holds it after as many passes as there are types. No statement is proved here.
-/
namespace Go.Proofs.Yteoopmogklpnoaa
set_option maxRecDepth 100000
set_option linter.unusedVariables false
theorem least_of {P : Nat → Prop} {k : Nat} (h : P k) : ∃ n, n ≤ k ∧ P n ∧ ∀ j, j < n → ¬ P j := by
  induction k using Nat.strongRecOn with
  | ind k ih =>
    by_cases hs : ∃ j, j < k ∧ P j
    · obtain ⟨j, hj, hp⟩ := hs
      obtain ⟨n, h1, h2, h3⟩ := ih j hj hp
      exact ⟨n, by omega, h2, h3⟩
    · exact ⟨k, Nat.le_refl _, h, fun j hj hp => hs ⟨j, hj, hp⟩⟩
/-- n is the least depth of t, or 0 if t has no values. -/
def Ld (l : List Da) (t : Ty) (n : Int) : Prop := (n = 0 ∧ ∀ k, ¬ Dk (mkF l) k t) ∨ (0 < n ∧ Dk (mkF l) n.toNat t ∧ ∀ j, j < n.toNat → ¬ Dk (mkF l) j t)
theorem ld_exists (l : List Da) (t : Ty) : ∃ n, Ld l t n := by
  by_cases h : ∃ k, Dk (mkF l) k t
  · obtain ⟨k, hk⟩ := h
    obtain ⟨n, _, h2, h3⟩ := least_of (P := fun k => Dk (mkF l) k t) hk
    have hn : 0 < n := by
      rcases Nat.eq_zero_or_pos n with rfl | h
      · exact h2.elim
      · exact h
    exact ⟨(n : Int), .inr ⟨by omega, by rw [Int.toNat_natCast]; exact h2, fun j hj => h3 j (by omega)⟩⟩
  · exact ⟨0, .inl ⟨rfl, fun k hk => h ⟨k, hk⟩⟩⟩
theorem ld_unique {l : List Da} {t : Ty} {n m : Int} (h : Ld l t n) (h' : Ld l t m) : n = m := by
  rcases h with ⟨rfl, h1⟩ | ⟨h0, h1, h2⟩
  · rcases h' with ⟨rfl, _⟩ | ⟨_, h4, _⟩
    · rfl
    · exact absurd h4 (h1 _)
  · rcases h' with ⟨rfl, h3⟩ | ⟨h3, h4, h5⟩
    · exact absurd h1 (h3 _)
    · have a1 : ¬ n.toNat < m.toNat := fun h => h5 _ h h1
      have a2 : ¬ m.toNat < n.toNat := fun h => h2 _ h h4
      omega
noncomputable def ldep (l : List Da) (t : Ty) : Int := Classical.choose (ld_exists l t)
theorem ldep_is (l : List Da) (t : Ty) : Ld l t (ldep l t) := Classical.choose_spec (ld_exists l t)
theorem ldep_eq {l : List Da} {t : Ty} {n : Int} (h : Ld l t n) : n = ldep l t := ld_unique h (ldep_is l t)
theorem ldep_nonneg (l : List Da) (t : Ty) : 0 ≤ ldep l t := by
  rcases ldep_is l t with ⟨h, _⟩ | ⟨h, _⟩ <;> omega
theorem ldep_pos {l : List Da} {t : Ty} {k : Nat} (h : Dk (mkF l) k t) : 0 < ldep l t := by
  rcases ldep_is l t with ⟨_, h1⟩ | ⟨h1, _⟩
  · exact absurd h (h1 _)
  · exact h1
/-- The types of a world: that of numbers, and each data type with each index. -/
def tysN (n : Nat) : List Ty := ⟨-1, 0⟩ :: (List.range (n * 4)).map tyAt
theorem tysN_len (n : Nat) : (tysN n).length = n * 4 + 1 := by simp [tysN]
theorem mem_tys {n : Nat} {t : Ty} : t ∈ tysN n ↔ t = ⟨-1, 0⟩ ∨ (0 ≤ t.data ∧ t.data < n ∧ 0 ≤ t.index ∧ t.index ≤ 3) := by
  unfold tysN
  rw [List.mem_cons, List.mem_map]
  constructor
  · rintro (h | ⟨s, hs, rfl⟩)
    · exact .inl h
    · have := List.mem_range.1 hs
      right; unfold tyAt; simp only; omega
  · rintro (h | h)
    · exact .inl h
    · right
      have hin : TyIn n t := .inr h
      obtain ⟨e, hs⟩ := in_tyAt hin (by omega)
      exact ⟨slotN t, List.mem_range.2 hs, e.symm⟩
theorem tys_in {n : Nat} {t : Ty} (h : t ∈ tysN n) : TyIn n t := by
  rcases mem_tys.1 h with rfl | h
  · exact .inl rfl
  · exact .inr h
theorem tys_ix {n : Nat} {t : Ty} (h : t ∈ tysN n) : 0 ≤ t.index ∧ t.index ≤ 3 := by
  rcases mem_tys.1 h with rfl | h
  · exact ⟨Int.le_refl 0, by decide⟩
  · exact ⟨h.2.2.1, h.2.2.2⟩
theorem ok_tys {l : List Da} {t : Ty} (h : TyOK l t) : t ∈ tysN l.length := by
  obtain ⟨d, i⟩ := t
  have h2 := h.2
  by_cases h1 : d = -1
  · subst h1
    rw [argB_int rfl] at h2
    have : i = 0 := of_decide_eq_true h2
    subst this
    exact mem_tys.2 (.inl rfl)
  · rw [argB_data h1] at h2
    exact mem_tys.2 (.inr (of_decide_eq_true h2))
theorem tys_ok {l : List Da} {t : Ty} (hw : WorldOK l) (h : t ∈ tysN l.length) : TyOK l t := by
  refine ⟨hw, ?_⟩
  rcases mem_tys.1 h with rfl | h
  · rfl
  · rw [argB_data (by omega)]; exact decide_eq_true h
theorem args_tys {l : List Da} (h : WorldOK l) {d m : Nat} (hd : d < l.length) (hm : m < l[d].ctors.length) {ix : Int} (h0 : 0 ≤ ix) (h3 : ix ≤ 3) : ∀ a ∈ argT l[d].ctors[m] ix, a ∈ tysN l.length := by
  intro a ha
  obtain ⟨hi, hargs⟩ := ctor_parts (world_ctor h hd hm)
  have hin := args_in h hd hm h0 h3 a ha
  unfold argT at ha
  obtain ⟨b, hb, rfl⟩ := List.mem_map.1 ha
  have hB := hargs b hb
  by_cases hb1 : b.data = -1
  · rw [argB_int hb1] at hB
    have hb2 : b.index = 0 := of_decide_eq_true hB
    have e : argOf l[d].ctors[m] ix b = b := argOf_other (by omega)
    rw [e]
    refine mem_tys.2 (.inl ?_)
    obtain ⟨x, y⟩ := b
    simp only at hb1 hb2
    subst hb1 hb2
    rfl
  · refine mem_tys.2 (.inr ?_)
    refine hin.resolve_left ?_
    unfold argOf
    split <;> exact hb1
/-- What is made depends on the types of the world alone. -/
theorem mkF_tys {l : List Da} (h : WorldOK l) : ∀ P Q : Ty → Prop, (∀ t ∈ tysN l.length, P t → Q t) → ∀ t ∈ tysN l.length, mkF l P t → mkF l Q t := by
  intro P Q hPQ t ht hp
  rcases hp with h0 | ⟨d, hd, m, hm, h1, h2, h3⟩
  · exact .inl h0
  · exact .inr ⟨d, hd, m, hm, h1, h2, fun a ha => hPQ a (args_tys h hd hm (tys_ix ht).1 (tys_ix ht).2 a ha) (h3 a ha)⟩
/-- A table holds the least depths behind its last pass. -/
theorem dep_ldep {l : List Da} {T : List Int} (hw : WorldOK l) (h : St l T (l.length * 4 + 1) 0 0) {t : Ty} (ht : t ∈ tysN l.length) : dep T t = ldep l t := by
  have hin := tys_in ht
  have hb : ∀ j, Dk (mkF l) j t → Dk (mkF l) (l.length * 4 + 1) t := fun j hj => by
    have := Dk_bound (mkF_tys hw) ht hj
    rwa [tysN_len] at this
  by_cases h0 : dep T t = 0
  · rw [h0]
    refine ldep_eq (.inl ⟨rfl, fun k hk => ?_⟩)
    exact (h.full _ (Nat.le_refl _) t hin (hb k hk)).1 h0
  · obtain ⟨h1, h2⟩ := h.sound t hin h0
    refine ldep_eq (.inr ⟨h1, h2, fun j hj hd => ?_⟩)
    by_cases hj2 : j ≤ l.length * 4 + 1
    · have := (h.full j hj2 t hin hd).2
      omega
    · have := (h.full _ (Nat.le_refl _) t hin (hb j hd)).2
      omega
end Go.Proofs.Yteoopmogklpnoaa
/-
  The function FnExactWorldValid returns true for every list of data types, and the list reads behind the call as it read before. No condition.
-/
namespace Go.Proofs.Yteoopmogklpnoaa
open Go.RowKit Go.Deep
open Go.ChangeShapes Go.WideShapes Go.ChangeAt
set_option maxRecDepth 100000
set_option linter.unusedVariables false
theorem RDas.at_ {w W : World} {A : Option Addr} {l : List Da} (h : RDas w w.heap.size A l) (hb : Below w.heap.size w W) : RDas W W.heap.size A l := h.keep (fun p hp => hb.cell hp) hb.size
theorem wvOwn : ownKnob Try.prog.godebug = none := by kernel_rfl
theorem wvLaid : laidOutB Try.prog = true := by kernel_rfl
end Go.Proofs.Yteoopmogklpnoaa
/-
  The least depth of a value with arguments of given types, read off the program's map of least depths. No statement is proved here.
-/
namespace Go.Proofs.Yteoopmogklpnoaa
open Go.RowKit
set_option maxRecDepth 100000
set_option linter.unusedVariables false
/-- The greatest of the numbers of the first k types. -/
def mxT (F : Ty → Int) (L : List Ty) : Nat → Int
  | 0 => 0
  | k + 1 => max (mxT F L k) (F (L.getD k default))
theorem mxT_succ {F : Ty → Int} {L : List Ty} {k : Nat} (h : k < L.length) : mxT F L (k + 1) = max (mxT F L k) (F L[k]) := by
  show max _ (F (L.getD k default)) = _
  rw [List.getD_eq_getElem?_getD, List.getElem?_eq_getElem h]; rfl
/-- 0 if a type has no number, and otherwise 1 more than the greatest number. -/
noncomputable def dpR (F : Ty → Int) (S : Ty → Prop) (L : List Ty) : Int := if dec (∀ a ∈ L, S a) then mxT F L L.length + 1 else 0
theorem dpR_yes {F : Ty → Int} {S : Ty → Prop} {L : List Ty} (h : ∀ a ∈ L, S a) : dpR F S L = mxT F L L.length + 1 := by unfold dpR; rw [dec_t h]; rfl
theorem dpR_no {F : Ty → Int} {S : Ty → Prop} {L : List Ty} (h : ¬ ∀ a ∈ L, S a) : dpR F S L = 0 := by unfold dpR; rw [dec_f h]; rfl
end Go.Proofs.Yteoopmogklpnoaa
