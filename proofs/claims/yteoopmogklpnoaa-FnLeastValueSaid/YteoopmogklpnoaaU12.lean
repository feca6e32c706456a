/-
  The least depth of a type; that a table of depths holds it after as many passes as there are types. No statement is proved here.
-/
import Derived.Test.YteoopmogklpnoaaU11
import Derived.Test.YteoopmogklpnoaaU05
import Derived.Test.YteoopmogklpnoaaU06
import Derived.Test.YteoopmogklpnoaaU07
import Derived.Test.YteoopmogklpnoaaU00
import Derived.Test.YteoopmogklpnoaaU03
import Derived.Test.YteoopmogklpnoaaU09
import Derived.Deep.Fields
import Derived.Deep.Slices
import Derived.Maps.OwnSet
import Derived.DeepKeys5
import Derived.WalkLawsBesides
namespace Go.Proofs.Yteoopmogklpnoaa
set_option maxRecDepth 100000
set_option linter.unusedVariables false
theorem least_of {P : Nat → Prop} {k : Nat} (h : P k) : ∃ n, n ≤ k ∧ P n ∧ ∀ j, j < n → ¬ P j := by
  induction k using Nat.strongRecOn with
  | ind k ih =>
    by_cases hs : ∃ j, j < k ∧ P j
    · obtain ⟨j, hj, hp⟩ := hs
      obtain ⟨n, h1, h2, h3⟩ := ih j hj hp
      exact ⟨n, by omega, h2, h3⟩
    · exact ⟨k, Nat.le_refl _, h, fun j hj hp => hs ⟨j, hj, hp⟩⟩
/-- n is the least depth of t, or 0 if t has no values. -/
def Ld (l : List Da) (t : Ty) (n : Int) : Prop := (n = 0 ∧ ∀ k, ¬ Dk (mkF l) k t) ∨ (0 < n ∧ Dk (mkF l) n.toNat t ∧ ∀ j, j < n.toNat → ¬ Dk (mkF l) j t)
theorem ld_exists (l : List Da) (t : Ty) : ∃ n, Ld l t n := by
  by_cases h : ∃ k, Dk (mkF l) k t
  · obtain ⟨k, hk⟩ := h
    obtain ⟨n, _, h2, h3⟩ := least_of (P := fun k => Dk (mkF l) k t) hk
    have hn : 0 < n := by
      rcases Nat.eq_zero_or_pos n with rfl | h
      · exact h2.elim
      · exact h
    exact ⟨(n : Int), .inr ⟨by omega, by rw [Int.toNat_natCast]; exact h2, fun j hj => h3 j (by omega)⟩⟩
  · exact ⟨0, .inl ⟨rfl, fun k hk => h ⟨k, hk⟩⟩⟩
theorem ld_unique {l : List Da} {t : Ty} {n m : Int} (h : Ld l t n) (h' : Ld l t m) : n = m := by
  rcases h with ⟨rfl, h1⟩ | ⟨h0, h1, h2⟩
  · rcases h' with ⟨rfl, _⟩ | ⟨_, h4, _⟩
    · rfl
    · exact absurd h4 (h1 _)
  · rcases h' with ⟨rfl, h3⟩ | ⟨h3, h4, h5⟩
    · exact absurd h1 (h3 _)
    · have a1 : ¬ n.toNat < m.toNat := fun h => h5 _ h h1
      have a2 : ¬ m.toNat < n.toNat := fun h => h2 _ h h4
      omega
noncomputable def ldep (l : List Da) (t : Ty) : Int := Classical.choose (ld_exists l t)
theorem ldep_is (l : List Da) (t : Ty) : Ld l t (ldep l t) := Classical.choose_spec (ld_exists l t)
theorem ldep_eq {l : List Da} {t : Ty} {n : Int} (h : Ld l t n) : n = ldep l t := ld_unique h (ldep_is l t)
theorem ldep_nonneg (l : List Da) (t : Ty) : 0 ≤ ldep l t := by
  rcases ldep_is l t with ⟨h, _⟩ | ⟨h, _⟩ <;> omega
theorem ldep_pos {l : List Da} {t : Ty} {k : Nat} (h : Dk (mkF l) k t) : 0 < ldep l t := by
  rcases ldep_is l t with ⟨_, h1⟩ | ⟨h1, _⟩
  · exact absurd h (h1 _)
  · exact h1
theorem ldep_int {l : List Da} {t : Ty} (h : t.data = -1) : (1 : Int) = ldep l t := by
  refine ldep_eq (.inr ⟨by omega, .inl h, fun j hj => ?_⟩)
  have : j = 0 := by omega
  subst this
  exact fun h => h
/-- The types of a world: that of numbers, and each data type with each index. -/
def tysN (n : Nat) : List Ty := ⟨-1, 0⟩ :: (List.range (n * 4)).map tyAt
theorem tysN_len (n : Nat) : (tysN n).length = n * 4 + 1 := by simp [tysN]
theorem mem_tys {n : Nat} {t : Ty} : t ∈ tysN n ↔ t = ⟨-1, 0⟩ ∨ (0 ≤ t.data ∧ t.data < n ∧ 0 ≤ t.index ∧ t.index ≤ 3) := by
  unfold tysN
  rw [List.mem_cons, List.mem_map]
  constructor
  · rintro (h | ⟨s, hs, rfl⟩)
    · exact .inl h
    · have := List.mem_range.1 hs
      right; unfold tyAt; simp only; omega
  · rintro (h | h)
    · exact .inl h
    · right
      have hin : TyIn n t := .inr h
      obtain ⟨e, hs⟩ := in_tyAt hin (by omega)
      exact ⟨slotN t, List.mem_range.2 hs, e.symm⟩
theorem tys_in {n : Nat} {t : Ty} (h : t ∈ tysN n) : TyIn n t := by
  rcases mem_tys.1 h with rfl | h
  · exact .inl rfl
  · exact .inr h
theorem tys_ix {n : Nat} {t : Ty} (h : t ∈ tysN n) : 0 ≤ t.index ∧ t.index ≤ 3 := by
  rcases mem_tys.1 h with rfl | h
  · exact ⟨Int.le_refl 0, by decide⟩
  · exact ⟨h.2.2.1, h.2.2.2⟩
theorem ok_tys {l : List Da} {t : Ty} (h : TyOK l t) : t ∈ tysN l.length := by
  obtain ⟨d, i⟩ := t
  have h2 := h.2
  by_cases h1 : d = -1
  · subst h1
    rw [argB_int rfl] at h2
    have : i = 0 := of_decide_eq_true h2
    subst this
    exact mem_tys.2 (.inl rfl)
  · rw [argB_data h1] at h2
    exact mem_tys.2 (.inr (of_decide_eq_true h2))
theorem tys_ok {l : List Da} {t : Ty} (hw : WorldOK l) (h : t ∈ tysN l.length) : TyOK l t := by
  refine ⟨hw, ?_⟩
  rcases mem_tys.1 h with rfl | h
  · rfl
  · rw [argB_data (by omega)]; exact decide_eq_true h
theorem args_tys {l : List Da} (h : WorldOK l) {d m : Nat} (hd : d < l.length) (hm : m < l[d].ctors.length) {ix : Int} (h0 : 0 ≤ ix) (h3 : ix ≤ 3) : ∀ a ∈ argT l[d].ctors[m] ix, a ∈ tysN l.length := by
  intro a ha
  obtain ⟨hi, hargs⟩ := ctor_parts (world_ctor h hd hm)
  have hin := args_in h hd hm h0 h3 a ha
  unfold argT at ha
  obtain ⟨b, hb, rfl⟩ := List.mem_map.1 ha
  have hB := hargs b hb
  by_cases hb1 : b.data = -1
  · rw [argB_int hb1] at hB
    have hb2 : b.index = 0 := of_decide_eq_true hB
    have e : argOf l[d].ctors[m] ix b = b := argOf_other (by omega)
    rw [e]
    refine mem_tys.2 (.inl ?_)
    obtain ⟨x, y⟩ := b
    simp only at hb1 hb2
    subst hb1 hb2
    rfl
  · refine mem_tys.2 (.inr ?_)
    refine hin.resolve_left ?_
    unfold argOf
    split <;> exact hb1
/-- What is made depends on the types of the world alone. -/
theorem mkF_tys {l : List Da} (h : WorldOK l) : ∀ P Q : Ty → Prop, (∀ t ∈ tysN l.length, P t → Q t) → ∀ t ∈ tysN l.length, mkF l P t → mkF l Q t := by
  intro P Q hPQ t ht hp
  rcases hp with h0 | ⟨d, hd, m, hm, h1, h2, h3⟩
  · exact .inl h0
  · exact .inr ⟨d, hd, m, hm, h1, h2, fun a ha => hPQ a (args_tys h hd hm (tys_ix ht).1 (tys_ix ht).2 a ha) (h3 a ha)⟩
/-- A table holds the least depths behind its last pass. -/
theorem dep_ldep {l : List Da} {T : List Int} (hw : WorldOK l) (h : St l T (l.length * 4 + 1) 0 0) {t : Ty} (ht : t ∈ tysN l.length) : dep T t = ldep l t := by
  have hin := tys_in ht
  have hb : ∀ j, Dk (mkF l) j t → Dk (mkF l) (l.length * 4 + 1) t := fun j hj => by
    have := Dk_bound (mkF_tys hw) ht hj
    rwa [tysN_len] at this
  by_cases h0 : dep T t = 0
  · rw [h0]
    refine ldep_eq (.inl ⟨rfl, fun k hk => ?_⟩)
    exact (h.full _ (Nat.le_refl _) t hin (hb k hk)).1 h0
  · obtain ⟨h1, h2⟩ := h.sound t hin h0
    refine ldep_eq (.inr ⟨h1, h2, fun j hj hd => ?_⟩)
    by_cases hj2 : j ≤ l.length * 4 + 1
    · have := (h.full j hj2 t hin hd).2
      omega
    · have := (h.full _ (Nat.le_refl _) t hin (hb j hd)).2
      omega
end Go.Proofs.Yteoopmogklpnoaa
/-
  The function FnExactWorldValid returns true for every list of data types, and the list reads behind the call as it read before. No condition.
-/
namespace Go.Proofs.Yteoopmogklpnoaa
open Go.RowKit Go.Deep
open Go.ChangeShapes Go.WideShapes Go.ChangeAt
set_option maxRecDepth 100000
set_option linter.unusedVariables false
theorem RDas.at_ {w W : World} {A : Option Addr} {l : List Da} (h : RDas w w.heap.size A l) (hb : Below w.heap.size w W) : RDas W W.heap.size A l := h.keep (fun p hp => hb.cell hp) hb.size
theorem below_then {w w1 w2 : World} (h : Below w.heap.size w w1) (h' : Below w1.heap.size w1 w2) : Below w.heap.size w w2 := h.trans (h'.mono h.size)
theorem wvOwn : ownKnob Try.prog.godebug = none := by kernel_rfl
theorem wvLaid : laidOutB Try.prog = true := by kernel_rfl
end Go.Proofs.Yteoopmogklpnoaa
/-
  A map from types to numbers that the call itself has made, as a function. No statement is proved here.
-/
namespace Go.Proofs.Yteoopmogklpnoaa
open Go.RowKit Go.Maps
set_option maxRecDepth 100000
set_option linter.unusedVariables false
def tv (t : Ty) : Value := .agg #[.int .i64 t.data, .int .i64 t.index]
theorem tv_inj {a b : Ty} (h : tv a = tv b) : a = b := by
  obtain ⟨x, y⟩ := a
  obtain ⟨z, u⟩ := b
  unfold tv at h
  simp only [Value.agg.injEq, Array.mk.injEq, List.cons.injEq, Value.int.injEq, true_and, and_true] at h
  obtain ⟨rfl, rfl⟩ := h
  rfl
theorem keyT : Keyed Try.prog 25 := Keyed.of_law (deep_law_gate wvLaid (of_decide_eq_true (by kernel_rfl)) (of_decide_eq_true (by kernel_rfl)) (by kernel_rfl) (by kernel_rfl))
noncomputable def keyL (t : Ty) : Lit := (keyOf Try.prog 25 (tv t)).getD (.bool false)
theorem key_some {t : Ty} (ht : t ∈ tysN 4) : (keyOf Try.prog 25 (tv t)).isSome = true := by
  obtain ⟨d, i⟩ := t
  rcases mem_tys.1 ht with h | ⟨h0, h1, h2, h3⟩
  · simp only [Ty.mk.injEq] at h
    obtain ⟨rfl, rfl⟩ := h
    kernel_rfl
  · simp only at h0 h1 h2 h3
    have hd : d = 0 ∨ d = 1 ∨ d = 2 ∨ d = 3 := by omega
    have hi : i = 0 ∨ i = 1 ∨ i = 2 ∨ i = 3 := by omega
    rcases hd with rfl | rfl | rfl | rfl <;> rcases hi with rfl | rfl | rfl | rfl <;> (show (keyOf Try.prog 25 (tv _)).isSome = true; kernel_rfl)
theorem key_of {t : Ty} (ht : t ∈ tysN 4) : keyOf Try.prog 25 (tv t) = some (keyL t) := by
  have := key_some ht
  unfold keyL
  cases h : keyOf Try.prog 25 (tv t)
  · rw [h] at this; cases this
  · rfl
theorem key_ne {t u : Ty} (ht : t ∈ tysN 4) (hu : u ∈ tysN 4) (h : t ≠ u) : keyL t ≠ keyL u := fun e => by
  have h1 := key_of ht
  have h2 := key_of hu
  rw [e] at h1
  exact h (tv_inj (keyT.inj h1 h2))
theorem key_is {t : Ty} (ht : t ∈ tysN 4) : WideAt.IsKeyLit (keyL t) := keyT.key (key_of ht)
/-- A map in block b, of at most n entries, that reads as F where S holds, and has no entry elsewhere. -/
def MapTy (w : World) (b n : Nat) (F : Ty → Int) (S : Ty → Prop) : Prop :=
  ∃ D : DataW Unit, w.ownsMap Try.prog 25 (plainElem Try.prog 3) b n D ∧ IsMap D ∧ ∀ t ∈ tysN 4, D.atKey (keyL t) (.lit (.int .i64 0)) = .lit (.int .i64 (if dec (S t) then F t else 0)) ∧ has D (keyL t) = dec (S t)
theorem zero3 (w : World) : (zeroValue 3).run Try.prog w = .ok (.int .i64 0) w := by kernel_rfl
theorem MapTy.made (w : World) (F : Ty → Int) : MapTy (w.alloc (.map #[] 0)) w.heap.size 0 F (fun _ => False) :=
  ⟨.map [], World.ownsMap_made _ _ _ _, ⟨[], rfl⟩, fun t _ => by rw [dec_f (fun h => h)]; exact ⟨rfl, rfl⟩⟩
theorem MapTy.lt {w : World} {b n : Nat} {F : Ty → Int} {S : Ty → Prop} (h : MapTy w b n F S) : b < w.heap.size := by
  obtain ⟨D, ho, _⟩ := h; exact ho.lt
theorem MapTy.keep {w w' : World} {b n n' : Nat} {F : Ty → Int} {S S' : Ty → Prop} (h : MapTy w b n F S) (hb : w'.heap[b]? = w.heap[b]?) (hn : n ≤ n') (hS : ∀ t ∈ tysN 4, (S t ↔ S' t)) : MapTy w' b n' F S' := by
  obtain ⟨D, ⟨es, clock, h1, h2, h3, h4⟩, hm, hat⟩ := h
  exact ⟨D, ⟨es, clock, hb.trans h1, h2, by omega, h4⟩, hm, fun t ht => by rw [← dec_congr (hS t ht)]; exact hat t ht⟩
theorem MapTy.below {w w' : World} {b n B : Nat} {F : Ty → Int} {S : Ty → Prop} (h : MapTy w b n F S) (hb : Below B w w') (hB : b < B) : MapTy w' b n F S :=
  h.keep (hb.block b hB) (Nat.le_refl _) (fun _ _ => Iff.rfl)
theorem MapTy.at_ {w w' : World} {b n : Nat} {F : Ty → Int} {S : Ty → Prop} (h : MapTy w b n F S) (hb : Below w.heap.size w w') : MapTy w' b n F S :=
  h.below hb h.lt
theorem MapTy.look {w : World} {b n : Nat} {F : Ty → Int} {S : Ty → Prop} (h : MapTy w b n F S) {t : Ty} (ht : t ∈ tysN 4) : (Instr.lookup 96 (.map (some b)) (.agg #[.int .i64 t.data, .int .i64 t.index]) false).run Try.prog w = .ok (.int .i64 (if dec (S t) then F t else 0)) w := by
  obtain ⟨D, ho, hm, hat⟩ := h
  obtain ⟨c, hrun, hc, _⟩ := ho.lookup_int keyT Try.underlying96 Try.underlying3 (zero3 w) (key_of ht)
  rw [(hat t ht).1] at hc
  injection hc with hc
  injection hc with _ hc
  unfold tv at hrun
  rw [hrun, hc]
theorem MapTy.look_ok {w : World} {b n : Nat} {F : Ty → Int} {S : Ty → Prop} (h : MapTy w b n F S) {t : Ty} (ht : t ∈ tysN 4) : (Instr.lookup 96 (.map (some b)) (.agg #[.int .i64 t.data, .int .i64 t.index]) true).run Try.prog w = .ok (.tuple #[.int .i64 (if dec (S t) then F t else 0), .bool (dec (S t))]) w := by
  obtain ⟨D, ho, hm, hat⟩ := h
  obtain ⟨v, ps, hrun, hv⟩ := ho.look_ok keyT Try.underlying96 (zero3 w) (plainElem_int Try.underlying3 (by decide)) (key_of ht)
  obtain ⟨c, rfl, hc, _⟩ := plainElem_int_inv Try.underlying3 hv
  simp only [Prod.mk.injEq] at hc
  have hc := hc.1
  rw [(hat t ht).1] at hc
  injection hc with hc
  injection hc with _ hc
  unfold tv at hrun
  rw [hrun, hc, (hat t ht).2]
theorem MapTy.put {w : World} {b n : Nat} {D : DataW Unit} {F : Ty → Int} {S : Ty → Prop} {t : Ty} (ht : t ∈ tysN 4) (ho : w.ownsMap Try.prog 25 (plainElem Try.prog 3) b n (D.put (keyL t) (.lit (.int .i64 (F t))))) (hm : IsMap D)
    (hat : ∀ t ∈ tysN 4, D.atKey (keyL t) (.lit (.int .i64 0)) = .lit (.int .i64 (if dec (S t) then F t else 0)) ∧ has D (keyL t) = dec (S t)) : MapTy w b n F (fun u => u = t ∨ S u) := by
  refine ⟨_, ho, hm.put _ _, fun u hu => ?_⟩
  by_cases e : u = t
  · subst e
    rw [atKey_put_same hm (key_is hu), has_put_same hm (key_is hu), dec_t (Or.inl rfl)]
    exact ⟨rfl, rfl⟩
  · rw [atKey_put_other (key_ne hu ht e), has_put_other (key_ne hu ht e), (hat u hu).1, (hat u hu).2, dec_congr (show S u ↔ (u = t ∨ S u) from ⟨Or.inr, fun h => h.resolve_left e⟩)]
    exact ⟨rfl, rfl⟩
end Go.Proofs.Yteoopmogklpnoaa
/-
  The least depth of a value with arguments of given types, read off the program's map of least depths. No statement is proved here.
-/
namespace Go.Proofs.Yteoopmogklpnoaa
open Go.RowKit
set_option maxRecDepth 100000
set_option linter.unusedVariables false
def AllTo' (S : Ty → Prop) (L : List Ty) (k : Nat) : Prop := ∀ j (h : j < L.length), j < k → S L[j]
theorem AllTo'.zero (S : Ty → Prop) (L : List Ty) : AllTo' S L 0 := fun j _ h => absurd h (by omega)
theorem AllTo'.step {S : Ty → Prop} {L : List Ty} {k : Nat} (h : AllTo' S L k) (hk : k < L.length) (e : S L[k]) : AllTo' S L (k + 1) := by
  intro j hj hjk
  by_cases e' : j = k
  · subst e'; exact e
  · exact h j hj (by omega)
theorem AllTo'.all {S : Ty → Prop} {L : List Ty} {k : Nat} (h : AllTo' S L k) (hk : L.length ≤ k) : ∀ a ∈ L, S a := fun a ha => by
  obtain ⟨j, hj, rfl⟩ := List.getElem_of_mem ha
  exact h j hj (by omega)
/-- The greatest of the numbers of the first k types. -/
def mxT (F : Ty → Int) (L : List Ty) : Nat → Int
  | 0 => 0
  | k + 1 => max (mxT F L k) (F (L.getD k default))
theorem mxT_succ {F : Ty → Int} {L : List Ty} {k : Nat} (h : k < L.length) : mxT F L (k + 1) = max (mxT F L k) (F L[k]) := by
  show max _ (F (L.getD k default)) = _
  rw [List.getD_eq_getElem?_getD, List.getElem?_eq_getElem h]; rfl
/-- 0 if a type has no number, and otherwise 1 more than the greatest number. -/
noncomputable def dpR (F : Ty → Int) (S : Ty → Prop) (L : List Ty) : Int := if dec (∀ a ∈ L, S a) then mxT F L L.length + 1 else 0
theorem dpR_yes {F : Ty → Int} {S : Ty → Prop} {L : List Ty} (h : ∀ a ∈ L, S a) : dpR F S L = mxT F L L.length + 1 := by unfold dpR; rw [dec_t h]; rfl
theorem dpR_no {F : Ty → Int} {S : Ty → Prop} {L : List Ty} (h : ¬ ∀ a ∈ L, S a) : dpR F S L = 0 := by unfold dpR; rw [dec_f h]; rfl
set_option maxHeartbeats 1600000 in
theorem depA_any (A : Option Addr) (L : List Ty) (cap mb n : Nat) (F : Ty → Int) (S : Ty → Prop) (w : World) (hr : RTys w w.heap.size A L) (hL : ∀ a ∈ L, a ∈ tysN 4) (hm : MapTy w mb n F S) (hpos : ∀ t ∈ tysN 4, S t → 0 < F t ∧ F t ≤ 5000) :
    Calls Try.prog 96 #[.slice A L.length cap, .map (some mb)] w fun e w' => e = .returned (.int .i64 (dpR F S L)) ∧ Below w.heap.size w w' := by
  have hn := hr.1
  unfold maxLen at hn
  have HR := Lib.hid hr
  have HL := Lib.hid hL
  have HM := Lib.hid hm
  have HP := Lib.hid hpos
  clear hr hL hm hpos
  go_enter Try.func96, Try.ntmps96
  go_wp2_with fail
  go_loopw [5, 10] (fun g i wr => ∃ k : Nat, k ≤ L.length ∧ i = .int .i64 k ∧ ∃ q : Int, 0 ≤ q ∧ q ≤ 5000 ∧ g = .int .i64 q ∧ Hid (q = mxT F L k) ∧ Hid (AllTo' S L k) ∧ Below w.heap.size w wr) (fun _ i _ => L.length - (intOf i).toNat)
  case atStart => exact ⟨0, by omega, rfl, 0, by omega, by omega, rfl, rfl, AllTo'.zero _ _, Below.refl _ _⟩
  case round =>
    obtain ⟨k, hk, rfl, q, hq0, hq1, rfl, HQ, HA, hb⟩ := hrel
    by_cases hlt : k < L.length
    · have hi : (k : Int) < (L.length : Int) := by omega
      obtain ⟨b, off, rfl, hbB, c0, c1⟩ := (HR.out.below hb (Nat.le_refl _)).2 k hlt
      have ha4 := HL.out _ (List.getElem_mem hlt)
      have hmr := HM.out.at_ hb
      have HMX := Lib.hid (mxT_succ (F := F) hlt)
      have hb2 : ∀ o, Below w.heap.size w (wr.alloc o) := fun o => hb.alloc hb.size o
      have HB2 := Lib.hid hb2
      clear hb2
      by_cases hs : S L[k]
      · have hl : ∀ o : Obj, (Instr.lookup 96 (.map (some mb)) (.agg #[.int .i64 L[k].data, .int .i64 L[k].index]) false).run Try.prog (wr.alloc o) = .ok (.int .i64 (F L[k])) (wr.alloc o) := fun o => by
          have := (hmr.at_ ((Below.refl _ _).alloc (Nat.le_refl _) o)).look ha4
          rw [dec_t hs] at this
          exact this
        obtain ⟨hf0, hf1⟩ := HP.out _ ha4 hs
        have HA2 := Lib.hid (HA.out.step hlt hs)
        clear hs hmr ha4
        generalize hfa : F L[k] = f at hl hf0 hf1 HMX
        have q0 : (f == 0) = false := beq_eq_false_iff_ne.2 (by omega)
        clear hfa
        go_wp2_with fail
        go_roundw
        case rel => exact ⟨k + 1, by omega, by go_num, (if q < f then f else q), by split <;> omega, by split <;> omega, rfl, (by unfold Hid; rw [HMX.out, ← HQ.out]; split <;> omega), HA2.out, HB2.out _⟩
        case measure => simp [intOf]; omega
      · have hl : ∀ o : Obj, (Instr.lookup 96 (.map (some mb)) (.agg #[.int .i64 L[k].data, .int .i64 L[k].index]) false).run Try.prog (wr.alloc o) = .ok (.int .i64 0) (wr.alloc o) := fun o => by
          have := (hmr.at_ ((Below.refl _ _).alloc (Nat.le_refl _) o)).look ha4
          rw [dec_f hs] at this
          exact this
        have HN := Lib.hid (dpR_no (F := F) (S := S) (L := L) (fun h => hs (h _ (List.getElem_mem hlt))))
        clear hs hmr ha4
        go_wp2_with fail
        go_ret
        exact ⟨ret_i64 HN.out.symm, HB2.out _⟩
    · have he : k = L.length := by omega
      have HY := Lib.hid (dpR_yes (F := F) (HA.out.all (by omega)))
      have HE : Hid (q = mxT F L L.length) := by unfold Hid; rw [← he]; exact HQ.out
      clear he
      go_wp2_with fail
      go_ret
      exact ⟨ret_i64 (by rw [HY.out, HE.out]), hb⟩
end Go.Proofs.Yteoopmogklpnoaa
