/-
  The least depth of a type; that a table of depths holds it after as many passes as there are types. No statement is proved here.
-/
import Derived.Test.YtakhobhmplneeaaY10
import Derived.Test.YtakhobhmplneeaaY05
import Derived.Test.YtakhobhmplneeaaY06
import Derived.Test.YtakhobhmplneeaaY00
import Derived.Test.YtakhobhmplneeaaY03
import Derived.Test.YtakhobhmplneeaaY09
import Derived.Deep.Fields
import Derived.Deep.Slices
import Derived.WalkLawsBesides
import Derived.Maps.OwnSet
import Derived.DeepKeys5
import Derived.Lib.QuietBelow
import Derived.Deep.QuietTactic
import Derived.Outline
import Derived.Deep.RegionHeld3
namespace Go.Proofs.Ytakhobhmplneeaa
set_option maxRecDepth 100000
set_option linter.unusedVariables false
theorem least_of {P : Nat → Prop} {k : Nat} (h : P k) : ∃ n, n ≤ k ∧ P n ∧ ∀ j, j < n → ¬ P j := by
  induction k using Nat.strongRecOn with
  | ind k ih =>
    by_cases hs : ∃ j, j < k ∧ P j
    · obtain ⟨j, hj, hp⟩ := hs
      obtain ⟨n, h1, h2, h3⟩ := ih j hj hp
      exact ⟨n, by omega, h2, h3⟩
    · exact ⟨k, Nat.le_refl _, h, fun j hj hp => hs ⟨j, hj, hp⟩⟩
/-- n is the least depth of t, or 0 if t has no values. -/
def Ld (l : List Da) (t : Ty) (n : Int) : Prop := (n = 0 ∧ ∀ k, ¬ Dk (mkF l) k t) ∨ (0 < n ∧ Dk (mkF l) n.toNat t ∧ ∀ j, j < n.toNat → ¬ Dk (mkF l) j t)
theorem ld_exists (l : List Da) (t : Ty) : ∃ n, Ld l t n := by
  by_cases h : ∃ k, Dk (mkF l) k t
  · obtain ⟨k, hk⟩ := h
    obtain ⟨n, _, h2, h3⟩ := least_of (P := fun k => Dk (mkF l) k t) hk
    have hn : 0 < n := by
      rcases Nat.eq_zero_or_pos n with rfl | h
      · exact h2.elim
      · exact h
    exact ⟨(n : Int), .inr ⟨by omega, by rw [Int.toNat_natCast]; exact h2, fun j hj => h3 j (by omega)⟩⟩
  · exact ⟨0, .inl ⟨rfl, fun k hk => h ⟨k, hk⟩⟩⟩
theorem ld_unique {l : List Da} {t : Ty} {n m : Int} (h : Ld l t n) (h' : Ld l t m) : n = m := by
  rcases h with ⟨rfl, h1⟩ | ⟨h0, h1, h2⟩
  · rcases h' with ⟨rfl, _⟩ | ⟨_, h4, _⟩
    · rfl
    · exact absurd h4 (h1 _)
  · rcases h' with ⟨rfl, h3⟩ | ⟨h3, h4, h5⟩
    · exact absurd h1 (h3 _)
    · have a1 : ¬ n.toNat < m.toNat := fun h => h5 _ h h1
      have a2 : ¬ m.toNat < n.toNat := fun h => h2 _ h h4
      omega
noncomputable def ldep (l : List Da) (t : Ty) : Int := Classical.choose (ld_exists l t)
theorem ldep_is (l : List Da) (t : Ty) : Ld l t (ldep l t) := Classical.choose_spec (ld_exists l t)
theorem ldep_eq {l : List Da} {t : Ty} {n : Int} (h : Ld l t n) : n = ldep l t := ld_unique h (ldep_is l t)
theorem ldep_nonneg (l : List Da) (t : Ty) : 0 ≤ ldep l t := by
  rcases ldep_is l t with ⟨h, _⟩ | ⟨h, _⟩ <;> omega
theorem ldep_pos {l : List Da} {t : Ty} {k : Nat} (h : Dk (mkF l) k t) : 0 < ldep l t := by
  rcases ldep_is l t with ⟨_, h1⟩ | ⟨h1, _⟩
  · exact absurd h (h1 _)
  · exact h1
/-- The types of a world: that of numbers, and each data type with each index. -/
def tysN (n : Nat) : List Ty := ⟨-1, 0⟩ :: (List.range (n * 4)).map tyAt
theorem tysN_len (n : Nat) : (tysN n).length = n * 4 + 1 := by simp [tysN]
theorem mem_tys {n : Nat} {t : Ty} : t ∈ tysN n ↔ t = ⟨-1, 0⟩ ∨ (0 ≤ t.data ∧ t.data < n ∧ 0 ≤ t.index ∧ t.index ≤ 3) := by
  unfold tysN
  rw [List.mem_cons, List.mem_map]
  constructor
  · rintro (h | ⟨s, hs, rfl⟩)
    · exact .inl h
    · have := List.mem_range.1 hs
      right; unfold tyAt; simp only; omega
  · rintro (h | h)
    · exact .inl h
    · right
      have hin : TyIn n t := .inr h
      obtain ⟨e, hs⟩ := in_tyAt hin (by omega)
      exact ⟨slotN t, List.mem_range.2 hs, e.symm⟩
theorem tys_in {n : Nat} {t : Ty} (h : t ∈ tysN n) : TyIn n t := by
  rcases mem_tys.1 h with rfl | h
  · exact .inl rfl
  · exact .inr h
theorem tys_ix {n : Nat} {t : Ty} (h : t ∈ tysN n) : 0 ≤ t.index ∧ t.index ≤ 3 := by
  rcases mem_tys.1 h with rfl | h
  · exact ⟨Int.le_refl 0, by decide⟩
  · exact ⟨h.2.2.1, h.2.2.2⟩
theorem ok_tys {l : List Da} {t : Ty} (h : TyOK l t) : t ∈ tysN l.length := by
  obtain ⟨d, i⟩ := t
  have h2 := h.2
  by_cases h1 : d = -1
  · subst h1
    rw [argB_int rfl] at h2
    have : i = 0 := of_decide_eq_true h2
    subst this
    exact mem_tys.2 (.inl rfl)
  · rw [argB_data h1] at h2
    exact mem_tys.2 (.inr (of_decide_eq_true h2))
theorem tys_ok {l : List Da} {t : Ty} (hw : WorldOK l) (h : t ∈ tysN l.length) : TyOK l t := by
  refine ⟨hw, ?_⟩
  rcases mem_tys.1 h with rfl | h
  · rfl
  · rw [argB_data (by omega)]; exact decide_eq_true h
theorem args_tys {l : List Da} (h : WorldOK l) {d m : Nat} (hd : d < l.length) (hm : m < l[d].ctors.length) {ix : Int} (h0 : 0 ≤ ix) (h3 : ix ≤ 3) : ∀ a ∈ argT l[d].ctors[m] ix, a ∈ tysN l.length := by
  intro a ha
  obtain ⟨hi, hargs⟩ := ctor_parts (world_ctor h hd hm)
  have hin := args_in h hd hm h0 h3 a ha
  unfold argT at ha
  obtain ⟨b, hb, rfl⟩ := List.mem_map.1 ha
  have hB := hargs b hb
  by_cases hb1 : b.data = -1
  · rw [argB_int hb1] at hB
    have hb2 : b.index = 0 := of_decide_eq_true hB
    have e : argOf l[d].ctors[m] ix b = b := argOf_other (by omega)
    rw [e]
    refine mem_tys.2 (.inl ?_)
    obtain ⟨x, y⟩ := b
    simp only at hb1 hb2
    subst hb1 hb2
    rfl
  · refine mem_tys.2 (.inr ?_)
    refine hin.resolve_left ?_
    unfold argOf
    split <;> exact hb1
/-- What is made depends on the types of the world alone. -/
theorem mkF_tys {l : List Da} (h : WorldOK l) : ∀ P Q : Ty → Prop, (∀ t ∈ tysN l.length, P t → Q t) → ∀ t ∈ tysN l.length, mkF l P t → mkF l Q t := by
  intro P Q hPQ t ht hp
  rcases hp with h0 | ⟨d, hd, m, hm, h1, h2, h3⟩
  · exact .inl h0
  · exact .inr ⟨d, hd, m, hm, h1, h2, fun a ha => hPQ a (args_tys h hd hm (tys_ix ht).1 (tys_ix ht).2 a ha) (h3 a ha)⟩
/-- A table holds the least depths behind its last pass. -/
theorem dep_ldep {l : List Da} {T : List Int} (hw : WorldOK l) (h : St l T (l.length * 4 + 1) 0 0) {t : Ty} (ht : t ∈ tysN l.length) : dep T t = ldep l t := by
  have hin := tys_in ht
  have hb : ∀ j, Dk (mkF l) j t → Dk (mkF l) (l.length * 4 + 1) t := fun j hj => by
    have := Dk_bound (mkF_tys hw) ht hj
    rwa [tysN_len] at this
  by_cases h0 : dep T t = 0
  · rw [h0]
    refine ldep_eq (.inl ⟨rfl, fun k hk => ?_⟩)
    exact (h.full _ (Nat.le_refl _) t hin (hb k hk)).1 h0
  · obtain ⟨h1, h2⟩ := h.sound t hin h0
    refine ldep_eq (.inr ⟨h1, h2, fun j hj hd => ?_⟩)
    by_cases hj2 : j ≤ l.length * 4 + 1
    · have := (h.full j hj2 t hin hd).2
      omega
    · have := (h.full _ (Nat.le_refl _) t hin (hb j hd)).2
      omega
end Go.Proofs.Ytakhobhmplneeaa
/-
  The function FnExactWorldValid returns true for every list of data types, and the list reads behind the call as it read before. No condition.
-/
namespace Go.Proofs.Ytakhobhmplneeaa
open Go.RowKit Go.Deep
open Go.ChangeShapes Go.WideShapes Go.ChangeAt
set_option maxRecDepth 100000
set_option linter.unusedVariables false
theorem RDas.at_ {w W : World} {A : Option Addr} {l : List Da} (h : RDas w w.heap.size A l) (hb : Below w.heap.size w W) : RDas W W.heap.size A l := h.keep (fun p hp => hb.cell hp) hb.size
theorem wvOwn : ownKnob Try.prog.godebug = none := by kernel_rfl
theorem wvLaid : laidOutB Try.prog = true := by kernel_rfl
end Go.Proofs.Ytakhobhmplneeaa
/-
  The least depth of a value with arguments of given types, read off the program's map of least depths. No statement is proved here.
-/
namespace Go.Proofs.Ytakhobhmplneeaa
open Go.RowKit
set_option maxRecDepth 100000
set_option linter.unusedVariables false
/-- The greatest of the numbers of the first k types. -/
def mxT (F : Ty → Int) (L : List Ty) : Nat → Int
  | 0 => 0
  | k + 1 => max (mxT F L k) (F (L.getD k default))
theorem mxT_succ {F : Ty → Int} {L : List Ty} {k : Nat} (h : k < L.length) : mxT F L (k + 1) = max (mxT F L k) (F L[k]) := by
  show max _ (F (L.getD k default)) = _
  rw [List.getD_eq_getElem?_getD, List.getElem?_eq_getElem h]; rfl
/-- 0 if a type has no number, and otherwise 1 more than the greatest number. -/
noncomputable def dpR (F : Ty → Int) (S : Ty → Prop) (L : List Ty) : Int := if dec (∀ a ∈ L, S a) then mxT F L L.length + 1 else 0
theorem dpR_yes {F : Ty → Int} {S : Ty → Prop} {L : List Ty} (h : ∀ a ∈ L, S a) : dpR F S L = mxT F L L.length + 1 := by unfold dpR; rw [dec_t h]; rfl
theorem dpR_no {F : Ty → Int} {S : Ty → Prop} {L : List Ty} (h : ¬ ∀ a ∈ L, S a) : dpR F S L = 0 := by unfold dpR; rw [dec_f h]; rfl
end Go.Proofs.Ytakhobhmplneeaa
/-
  The table of depths: the document's function. No statement is proved here.
-/
namespace Go.Proofs.Ytakhobhmplneeaa
open Go.RowKit Go.Sort
set_option maxRecDepth 100000
set_option linter.unusedVariables false
theorem most_t (A0 A : Option Addr) (l : List Da) (T : List Int) (cap0 cap N : Nat) (t : Ty) (x : Int) (hNT : T.length = N) (hx : x ∈ ctR l t) (w : World) (hr0 : RDas w w.heap.size A0 l) (hr : RInts w A T) (hn : T.length = l.length * 4) (hT : ∀ x ∈ T, 0 ≤ x ∧ x ≤ 5000) (hix : 0 ≤ t.index ∧ t.index ≤ 3) :
    Calls Try.prog 49 #[.slice A0 l.length cap0, .slice A N cap, .agg #[.int .i64 t.data, .int .i64 t.index], .int .i64 x] w fun e w' => e = .returned (.int .i64 (mostL T (agR l t x))) ∧ Below w.heap.size w w' := by
  subst hNT
  obtain ⟨ht, d, m, hd, h1, rfl, hm⟩ := mem_ctR hx
  obtain ⟨td, ti⟩ := t
  simp only at h1 hix
  subst h1
  rw [agR_yes hx hd hm]
  exact most_any A0 A l T cap0 cap d m ti hd hm (args_three ht.1 hd hm) w hr0 hr hn ht.1.1 hT (args_in ht.1 hd hm hix.1 hix.2)
/-- A table of integers in the block B. -/
def Tab (w : World) (B N : Nat) (T : List Int) : Prop := w.ownsRow B 3 1 (.slice (some ⟨B, 0, none⟩) N N) N (T.map (Value.int .i64))
theorem Tab.cell_ {w : World} {B N : Nat} {T : List Int} (h : Tab w B N T) {s : Nat} (hs : s < N) (hl : s < T.length) : w.cell? ⟨B, s, none⟩ = some (.int .i64 T[s]) := by
  have h' : w.ownsRow B 3 1 (.slice (some ⟨B, 0, none⟩) N N) N (T.map (Value.int .i64)) := h
  rw [h'.cellAt s (by omega), List.getElem?_map, List.getElem?_eq_getElem hl]; rfl
theorem Tab.reads {w : World} {B N : Nat} {T : List Int} (h : Tab w B N T) (hl : T.length = N) (hm : N ≤ 100) : RInts w (some ⟨B, 0, none⟩) T :=
  ⟨by unfold maxLen; omega, fun k hk => ⟨B, 0, rfl, own_lt h, by rw [Nat.zero_add]; exact h.cell_ (by omega) hk⟩⟩
theorem Tab.below {w w' : World} {B N : Nat} {T : List Int} (h : Tab w B N T) (hb : Below w.heap.size w w') : Tab w' B N T := own_below h hb
theorem Tab.set {w : World} {B N s : Nat} {T : List Int} (h : Tab w B N T) (v : Int) : Tab (w.setCell ⟨B, s, none⟩ (.int .i64 v)) B N (T.set s v) := by
  have h2 := (World.ownsRow.stored h s (.int .i64 v)).1
  unfold Tab
  rw [List.map_set]
  exact h2
theorem OInts.form2 {w : World} {lo : Nat} {v : Value} {xs : List Int} (h : OInts w lo v xs) (hx : xs.length ≤ 4) : ∃ A cap, v = .slice A xs.length cap ∧ RInts w A xs ∧ ∀ b off, A = some ⟨b, off, none⟩ → lo ≤ b := by
  have hm : xs.length ≤ maxLen := by unfold maxLen; omega
  obtain ⟨A, cap, rfl, hr⟩ := h.form hm
  have h' : w.ownsRow lo 3 1 (.slice A xs.length cap) xs.length (xs.map (Value.int .i64)) := h
  refine ⟨A, cap, rfl, hr, fun b off e => ?_⟩
  rcases h'.2 with ⟨e1, _⟩ | ⟨g, cap', cur, e1, hb, _⟩
  · rw [e] at e1; simp at e1
  · rw [e] at e1; cases e1; exact hb
theorem ctor_of {l : List Da} {s : Nat} {x : Int} (h : x ∈ ctR l (tyAt s)) : ∃ (d : Nat) (hd : d < l.length) (m : Nat) (hm : m < l[d].ctors.length), (tyAt s).data = d ∧ x = m ∧ fitsB l[d].ctors[m].index (tyAt s).index = true ∧ agR l (tyAt s) x = argT l[d].ctors[m] (tyAt s).index := by
  obtain ⟨ht, d, m, hd, h1, h2, hm⟩ := mem_ctR h
  have e : tyAt s = ⟨(d : Int), (tyAt s).index⟩ := by rw [← h1]
  have h' := h
  have ht' := ht
  rw [e] at h' ht'
  rw [ctR_data ht' hd] at h'
  obtain ⟨m', hm', h3, h4⟩ := fits_of_mem _ (Nat.le_refl _) h'
  refine ⟨d, hd, m', hm', h1, h3, h4, ?_⟩
  rw [h3] at h ⊢
  rw [e] at h ⊢
  exact agR_yes h hd hm'
theorem St.step2 {l : List Da} {T T' : List Int} {n s i : Nat} {x : Int} (h : St l T n s i) (hw : WorldOK l) (hs : s < l.length * 4) (hn : n ≤ 16) (hi : i ≤ 4) (hx : (ctR l (tyAt s))[i]? = some x)
    (hT : (T' = T ∧ (mostL T (agR l (tyAt s) x) = 0 ∨ (¬ dep T (tyAt s) = 0 ∧ dep T (tyAt s) ≤ mostL T (agR l (tyAt s) x)))) ∨
      (T' = T.set s (mostL T (agR l (tyAt s) x)) ∧ 0 < mostL T (agR l (tyAt s) x) ∧ (dep T (tyAt s) = 0 ∨ mostL T (agR l (tyAt s) x) < dep T (tyAt s)))) : St l T' n s (i + 1) := by
  obtain ⟨d, hd, m, hm, h1, h2, h3, h4⟩ := ctor_of (List.mem_of_getElem? hx)
  rw [h4] at hT
  rw [h2] at hx
  exact h.step hw hs hn hi hd hm h1 hx h3 hT
theorem dep_at {T : List Int} {s : Nat} (hs : s < T.length) : dep T (tyAt s) = T[s] := by
  have e := dep_data (T := T) (tyAt_data s) (by rw [tyAt_slot]; exact hs)
  rw [e]; congr 1; exact tyAt_slot s
theorem most_nonneg {T : List Int} (hT : ∀ x ∈ T, 0 ≤ x ∧ x ≤ 5000) (L : List Ty) : 0 ≤ mostL T L := by
  have := maxTo_bd hT L L.length
  unfold mostL
  split <;> omega
theorem cell_far {w : World} {p a : Addr} {v : Value} (h : ¬ p.block = a.block) : (w.setCell p v).cell? a = w.cell? a :=
  World.cell?_setCell_other _ _ _ _ (fun e => h (by rw [e]))
theorem most_v (A0 A : Option Addr) (l : List Da) (T : List Int) (cap0 cap N : Nat) (t : Ty) (x V : Int) (hV : mostL T (agR l t x) = V) (hNT : T.length = N) (hx : x ∈ ctR l t) (w : World) (hr0 : RDas w w.heap.size A0 l) (hr : RInts w A T) (hn : T.length = l.length * 4) (hT : ∀ x ∈ T, 0 ≤ x ∧ x ≤ 5000) (hix : 0 ≤ t.index ∧ t.index ≤ 3) :
    Calls Try.prog 49 #[.slice A0 l.length cap0, .slice A N cap, .agg #[.int .i64 t.data, .int .i64 t.index], .int .i64 x] w fun e w' => e = .returned (.int .i64 V) ∧ Below w.heap.size w w' := by
  subst hV; exact most_t A0 A l T cap0 cap N t x hNT hx w hr0 hr hn hT hix
set_option maxHeartbeats 4000000 in
theorem table_any (A : Option Addr) (l : List Da) (cap : Nat) (w : World) (hr : RDas w w.heap.size A l) (hw : WorldOK l) :
    Calls Try.prog 31 #[.slice A l.length cap] w fun e w' => ∃ T, e = .returned (.slice (some ⟨w.heap.size, 0, none⟩) (l.length * 4) (l.length * 4)) ∧ Tab w' w.heap.size (l.length * 4) T ∧ St l T (l.length * 4 + 1) 0 0 ∧ Below w.heap.size w w' := by
  obtain ⟨i0, hi, hz0, hz1, hz2⟩ := info_parts info3
  have hl4 := hw.1
  have HW := Lib.hid hw
  have Hr := Lib.hid hr
  clear hr hw
  have eL : ((l.length * 4 : Nat) : Int) = (l.length : Int) * 4 := by push_cast; rfl
  go_enter Try.func31, Try.ntmps31
  go_wp2_with (at_make; refine wpList_make_full _ rfl _ _ 37 rfl w.heap.size 3 i0 _ 1 Try.underlying37 hi hz0 hz1 _ _ _ _ (l.length * 4) rfl rfl (by push_cast; rfl) (by push_cast; rfl) (by rw [hz2]; omega) (by unfold maxLen; omega) (Nat.le_refl _) ?_; intro w1 hown hgr)
  have hone : (madeCells (Value.int .i64 0).cells (l.length * 4 * 1)).toList = (List.replicate (l.length * 4) (0 : Int)).map (Value.int .i64) := by
    rw [Nat.mul_one, List.map_replicate]; exact toList_madeCells_one _ _
  have hT0 : Tab w1 w.heap.size (l.length * 4) (List.replicate (l.length * 4) 0) := by unfold Tab; rw [← hone]; exact hown
  have hb1 := below_of_grown hgr (Nat.le_refl w.heap.size)
  have hS0 : St l (List.replicate (l.length * 4) 0) 0 0 0 := St.start l _ (by simp) (fun x hx => (List.mem_replicate.1 hx).2)
  clear hown hgr hone hi hz0 hz1 hz2 eL
  go_loopw [4] (fun i wr => ∃ n : Nat, n ≤ l.length * 4 + 1 ∧ i = .int .i64 n ∧ ∃ T, Tab wr w.heap.size (l.length * 4) T ∧ St l T n 0 0 ∧ Below w.heap.size w wr) (fun i _ => l.length * 4 + 1 - (intOf i).toNat)
  case atStart => exact ⟨0, by omega, rfl, _, hT0, hS0, hb1⟩
  case round =>
    clear hT0 hS0 hb1
    obtain ⟨n, hn, rfl, T, hT, hS, hb⟩ := hrel
    by_cases hlt : n < l.length * 4 + 1
    · have hnI : (n : Int) ≤ (l.length : Int) * 4 := by omega
      go_wp2_with fail
      go_loopw [5] (fun i wr => ∃ s : Nat, s ≤ l.length * 4 ∧ i = .int .i64 s ∧ ∃ T, Tab wr w.heap.size (l.length * 4) T ∧ St l T n s 0 ∧ Below w.heap.size w wr) (fun i _ => l.length * 4 - (intOf i).toNat)
      case atStart => exact ⟨0, by omega, rfl, _, hT, hS, hb⟩
      case round =>
        clear hT hS hb
        obtain ⟨s, hs, rfl, T, hT, hS, hb⟩ := hrel
        have hlw := hb.size
        by_cases hst : s < l.length * 4
        · have hsI : (s : Int) < (l.length : Int) * 4 := by omega
          have hok := tyAt_ok HW.out hst
          have hRl := ctR_len l (tyAt s)
          have HT := Lib.hid hT
          have HS := Lib.hid hS
          clear hT hS
          go_wp2_with fail
          refine (l1Ctors_all _ l _ (tyAt s) _ (Hr.out.keep (fun p hp => (keep_one _ p (by omega)).trans (hb.cell hp)) (by simp; omega)) hok).mono ?_
          rintro e w2 ⟨v, rfl, ho, hb2⟩
          obtain ⟨A1, cap1, rfl, hr1, hA1⟩ := ho.form2 hRl
          have hb3 := hb.trans ((below_one hb2).mono hlw)
          have HT2 := Lib.hid (HT.out.below (below_one hb2))
          have HX2 := Lib.hid (⟨(hb2.cell (p := ⟨wr.heap.size, 0, none⟩) (by simp)).trans (by simp [go_sem]), (hb2.cell (p := ⟨wr.heap.size, 1, none⟩) (by simp)).trans (by simp [go_sem])⟩ : w2.cell? ⟨wr.heap.size, 0, none⟩ = some (.int .i64 ((s : Int) / 4)) ∧ w2.cell? ⟨wr.heap.size, 1, none⟩ = some (.int .i64 ((s : Int) % 4)))
          have HR2 := Lib.hid hr1
          have HA1 := Lib.hid hA1
          have hbx : w.heap.size < wr.heap.size := own_lt HT.out
          clear ho hr1 hA1 hb2 HT hb
          obtain ⟨wo, rfl⟩ : ∃ wo : World, wo = wr := ⟨_, rfl⟩
          go_wp2_with fail
          go_loopw [8] (fun i wi => ∃ j : Nat, j ≤ (ctR l (tyAt s)).length ∧ i = .int .i64 j ∧ ∃ T, Tab wi w.heap.size (l.length * 4) T ∧ St l T n s j ∧ RInts wi A1 (ctR l (tyAt s)) ∧ (wi.cell? ⟨wo.heap.size, 0, none⟩ = some (.int .i64 ((s : Int) / 4)) ∧ wi.cell? ⟨wo.heap.size, 1, none⟩ = some (.int .i64 ((s : Int) % 4))) ∧ Below w.heap.size w wi) (fun i _ => (ctR l (tyAt s)).length - (intOf i).toNat)
          case atStart => exact ⟨0, by omega, rfl, _, HT2.out, HS.out, HR2.out, HX2.out, hb3⟩
          case round =>
            clear HT2 HS HR2 HX2 hb3
            obtain ⟨j, hj, rfl, T, hT, hS, hR, ⟨q0, q1⟩, hb⟩ := hrel
            have hlw2 := hb.size
            by_cases hjt : j < (ctR l (tyAt s)).length
            · have hjI : (j : Int) < ((ctR l (tyAt s)).length : Int) := by omega
              have hx : (ctR l (tyAt s))[j]? = some (ctR l (tyAt s))[j] := List.getElem?_eq_getElem hjt
              have hxm : (ctR l (tyAt s))[j] ∈ ctR l (tyAt s) := List.getElem_mem hjt
              obtain ⟨bR, offR, hA1e, hbR, r0⟩ := hR.2 j hjt
              generalize (ctR l (tyAt s))[j] = x at hx hxm r0
              subst hA1e
              have hsT : s < T.length := by rw [hS.len]; exact hst
              have hTb : ∀ x ∈ T, 0 ≤ x ∧ x ≤ 5000 := fun x hx => by have := hS.bd x hx; omega
              have y0 := cell_regrown q0
              have y1 := cell_regrown q1
              have s0 := cell_regrown r0
              have hc := hT.cell_ hst hsT
              have hnn := most_nonneg hTb (agR l (tyAt s) x)
              have HS := Lib.hid hS
              have HL := Lib.hid hS.len
              have HTb := Lib.hid hTb
              have HT := Lib.hid hT
              have HRI := Lib.hid hR
              have HB := Lib.hid hb
              have HXM := Lib.hid hxm
              have HQ := Lib.hid (⟨q0, q1⟩ : wr.cell? ⟨wo.heap.size, 0, none⟩ = some (.int .i64 ((s : Int) / 4)) ∧ wr.cell? ⟨wo.heap.size, 1, none⟩ = some (.int .i64 ((s : Int) % 4)))
              have HK1 : Hid (∀ d os, RDas (grow (redrawn wr d) os) (grow (redrawn wr d) os).heap.size A l) := fun d os => Hr.out.keep (fun p hp => ((below_regrown wr d os).cell (by omega)).trans (hb.cell hp)) (by have := (below_regrown wr d os).size; omega)
              have HK2 : Hid (∀ d os, RInts (grow (redrawn wr d) os) (some ⟨w.heap.size, 0, none⟩) T) := fun d os => (hT.reads hS.len (by omega)).at_ (below_regrown wr d os)
              clear q0 q1 r0 hS hT hR hb hTb hxm
              generalize hV : mostL T (agR l (tyAt s) x) = V at hnn
              have HST : Hid (∀ T', (T' = T ∧ (V = 0 ∨ (¬ T[s] = 0 ∧ T[s] ≤ V))) ∨ (T' = T.set s V ∧ 0 < V ∧ (T[s] = 0 ∨ V < T[s])) → St l T' n s (j + 1)) := fun T' h => HS.out.step2 HW.out hst (by omega) (by omega) hx (by rw [dep_at hsT, hV]; exact h)
              have HV := Lib.hid hV
              clear hx hV HS
              go_wp2_with fail
              refine wp_region_quiet_below (by kernel_rfl) (by kernel_rfl) ?_
              repeat (quiet_step (exact Calls.regrown_of (most_v _ _ l T _ _ _ (tyAt s) x V HV.out HL.out HXM.out _ (HK1.out _ _) (HK2.out _ _) HL.out HTb.out (by unfold tyAt; simp only; omega))))
              refine wpQuiet_nil ?_
              intro w3 hw'
              have hb2 : Below wr.heap.size wr w3 := by obtain ⟨⟨dq, osq⟩, h⟩ := hw'; subst h; exact below_regrown wr dq osq
              clear hw' y0 y1 s0 HK1 HK2
              have HT3 := Lib.hid (HT.out.below hb2)
              have HR3 := Lib.hid (HRI.out.at_ hb2)
              have HQ3 := Lib.hid (⟨(hb2.cell (p := ⟨wo.heap.size, 0, none⟩) (block_lt_of_cell HQ.out.1)).trans HQ.out.1, (hb2.cell (p := ⟨wo.heap.size, 1, none⟩) (block_lt_of_cell HQ.out.2)).trans HQ.out.2⟩ : w3.cell? ⟨wo.heap.size, 0, none⟩ = some (.int .i64 ((s : Int) / 4)) ∧ w3.cell? ⟨wo.heap.size, 1, none⟩ = some (.int .i64 ((s : Int) % 4)))
              have HB3 := Lib.hid (HB.out.trans (hb2.mono HB.out.size))
              have hc3 : w3.cell? ⟨w.heap.size, s, none⟩ = some (.int .i64 T[s]) := HT3.out.cell_ hst hsT
              clear HT HRI HQ HB hc
              have hfz : w3.frozen? ⟨w.heap.size, s, none⟩ = false := World.ownsRow.frozenAt (show w3.ownsRow w.heap.size 3 1 (.slice (some ⟨w.heap.size, 0, none⟩) (l.length * 4) (l.length * 4)) (l.length * 4) (T.map (Value.int .i64)) from HT3.out) s
              have hbA : w.heap.size < bR := by have := HA1.out bR offR rfl; simp at this; omega
              by_cases hV0 : V = 0
              · have hV1 : ¬ 0 < V := by omega
                have HS' := Lib.hid (HST.out T (.inl ⟨rfl, .inl hV0⟩))
                clear HST
                go_wp2_with fail
                go_roundw
                case rel => exact ⟨j + 1, by omega, by go_num, T, HT3.out, HS'.out, HR3.out, HQ3.out, HB3.out⟩
                case measure => simp [intOf]; omega
              · have hV1 : 0 < V := by omega
                have HR4 : Hid (RInts (w3.setCell ⟨w.heap.size, s, none⟩ (.int .i64 V)) (some ⟨bR, offR, none⟩) (ctR l (tyAt s))) := ⟨HR3.out.1, fun k hk => by
                  obtain ⟨b', o', e, h1, h2⟩ := HR3.out.2 k hk
                  refine ⟨b', o', e, by simpa using h1, ?_⟩
                  cases e
                  exact (cell_far (by simp only; omega)).trans h2⟩
                have HQ4 : Hid ((w3.setCell ⟨w.heap.size, s, none⟩ (.int .i64 V)).cell? ⟨wo.heap.size, 0, none⟩ = some (.int .i64 ((s : Int) / 4)) ∧ (w3.setCell ⟨w.heap.size, s, none⟩ (.int .i64 V)).cell? ⟨wo.heap.size, 1, none⟩ = some (.int .i64 ((s : Int) % 4))) := ⟨(cell_far (by simp only; omega)).trans HQ3.out.1, (cell_far (by simp only; omega)).trans HQ3.out.2⟩
                have HB4 := Lib.hid (HB3.out.setCell (p := ⟨w.heap.size, s, none⟩) (Nat.le_refl _) (.int .i64 V))
                by_cases hz : T[s] = 0
                · have HS' := Lib.hid (HST.out (T.set s V) (.inr ⟨rfl, hV1, .inl hz⟩))
                  have q := ieq_t hz
                  clear HST
                  go_wp2_with fail
                  go_roundw
                  case rel => exact ⟨j + 1, by omega, by go_num, T.set s V, HT3.out.set V, HS'.out, HR4.out, HQ4.out, HB4.out⟩
                  case measure => simp [intOf]; omega
                · have q := ieq_f hz
                  by_cases hlt3 : V < T[s]
                  · have HS' := Lib.hid (HST.out (T.set s V) (.inr ⟨rfl, hV1, .inr hlt3⟩))
                    clear HST
                    go_wp2_with fail
                    go_roundw
                    case rel => exact ⟨j + 1, by omega, by go_num, T.set s V, HT3.out.set V, HS'.out, HR4.out, HQ4.out, HB4.out⟩
                    case measure => simp [intOf]; omega
                  · have HS' := Lib.hid (HST.out T (.inl ⟨rfl, .inr ⟨hz, by omega⟩⟩))
                    clear HST
                    go_wp2_with fail
                    go_roundw
                    case rel => exact ⟨j + 1, by omega, by go_num, T, HT3.out, HS'.out, HR3.out, HQ3.out, HB3.out⟩
                    case measure => simp [intOf]; omega
            · have hje : (ctR l (tyAt s)).length ≤ j := by omega
              have HS' := Lib.hid (hS.place HW.out hst hje (by omega))
              have hjI : ((ctR l (tyAt s)).length : Int) ≤ (j : Int) := by omega
              clear hS hje
              go_wp2_with fail
              go_roundw
              case rel => exact ⟨s + 1, by omega, by go_num, T, hT, HS'.out, hb⟩
              case measure => simp [intOf]; omega
        · have hse : s = l.length * 4 := by omega
          have HS' := Lib.hid (hS.pass hl4 hse)
          have hsI : (l.length : Int) * 4 ≤ (s : Int) := by omega
          clear hS hse
          go_wp2_with fail
          go_roundw
          case rel => exact ⟨n + 1, by omega, by go_num, T, hT, HS'.out, hb⟩
          case measure => simp [intOf]; omega
    · have he : n = l.length * 4 + 1 := by omega
      have HS : Hid (St l T (l.length * 4 + 1) 0 0) := by rw [← he]; exact hS
      have hnI : (l.length : Int) * 4 < (n : Int) := by omega
      clear he hS
      go_wp2_with fail
      go_ret
      exact ⟨T, rfl, hT, HS.out, hb⟩
end Go.Proofs.Ytakhobhmplneeaa
/-
  Whether a type has a value with arguments of known types: the program's closure, the library's functions over it, the program's function. No statement is proved here.
-/
namespace Go.Proofs.Ytakhobhmplneeaa
open Go.RowKit Go.Deep
set_option maxRecDepth 100000
set_option linter.unusedVariables false
theorem mxT_nonneg (F : Ty → Int) (L : List Ty) : ∀ k, 0 ≤ mxT F L k
  | 0 => Int.le_refl _
  | k + 1 => by
    have := mxT_nonneg F L k
    show 0 ≤ max (mxT F L k) _
    omega
end Go.Proofs.Ytakhobhmplneeaa
