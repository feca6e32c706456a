/-
  The depth that a table of depths gives for a type and for a constructor: the document's functions. No statement is proved here.
-/
import Derived.Test.YthebdlejoficmaaArgs4
namespace Go.Proofs.Ythebdlejoficmaa
open Go.RowKit
set_option maxRecDepth 100000
set_option linter.unusedVariables false

/-- The place of a data type with an index in a table. -/
def slotN (t : Ty) : Nat := (t.data * 4 + t.index).toNat
/-- The type of numbers, or a data type within n data types with an index for values. -/
def TyIn (n : Nat) (t : Ty) : Prop := t.data = -1 ∨ (0 ≤ t.data ∧ t.data < n ∧ 0 ≤ t.index ∧ t.index ≤ 3)
def dep (T : List Int) (t : Ty) : Int := if t.data = -1 then 1 else T.getD (slotN t) 0
theorem dep_int {T : List Int} {t : Ty} (h : t.data = -1) : dep T t = 1 := if_pos h
theorem dep_data {T : List Int} {t : Ty} (h : ¬ t.data = -1) (hs : slotN t < T.length) : dep T t = T[slotN t] := by
  unfold dep; rw [if_neg h]; simp [List.getD, List.getElem?_eq_getElem hs]

theorem slot_any (d i : Int) (w : World) (h0 : 0 ≤ d) (h1 : d ≤ 1048576) (h2 : 0 ≤ i) (h3 : i ≤ 3) :
    Calls Try.prog 78 #[.agg #[.int .i64 d, .int .i64 i]] w fun e w' => e = .returned (.int .i64 (d * 4 + i)) ∧ Below w.heap.size w w' := by
  have HB : Hid (∀ o : Obj, Below w.heap.size w (w.alloc o)) := fun o => (Below.refl _ _).alloc (Nat.le_refl _) _
  go_enter Try.func78, Try.ntmps78
  go_wp2_with fail
  go_ret
  exact ⟨rfl, HB.out _⟩

theorem depth_any (A : Option Addr) (T : List Int) (cap n : Nat) (t : Ty) (w : World) (hr : RInts w A T) (hn : T.length = n * 4) (hn4 : n ≤ 4) (ht : TyIn n t) :
    Calls Try.prog 63 #[.slice A T.length cap, .agg #[.int .i64 t.data, .int .i64 t.index]] w fun e w' => e = .returned (.int .i64 (dep T t)) ∧ Below w.heap.size w w' := by
  have Hr := Lib.hid hr
  have HN := Lib.hid hn
  clear hr hn
  have HB : Hid (∀ o : Obj, Below w.heap.size w (w.alloc o)) := fun o => (Below.refl _ _).alloc (Nat.le_refl _) _
  by_cases h : t.data = -1
  · have q := ieq_t h
    have H := Lib.hid (dep_int (T := T) h)
    clear h ht
    go_enter Try.func63, Try.ntmps63
    go_wp2_with fail
    go_ret
    exact ⟨ret_i64 H.out.symm, HB.out _⟩
  · obtain ⟨h1, h2, h3, h4⟩ := ht.resolve_left h
    have q := ieq_f h
    have hs : slotN t < T.length := by have := HN.out; unfold slotN; omega
    have H := Lib.hid (dep_data (T := T) h hs)
    have hsI : ((slotN t : Nat) : Int) = t.data * 4 + t.index := by unfold slotN; omega
    have HSI := Lib.hid hsI
    have hsl : (slotN t : Int) < (T.length : Int) := by omega
    clear h ht hsI
    go_enter Try.func63, Try.ntmps63
    go_wp2_with fail
    refine (slot_any _ _ _ h1 (by omega) h3 h4).mono ?_
    rw [← HSI.out]
    rintro e w1 ⟨rfl, hb⟩
    have hb1 := below_one hb
    obtain ⟨b, off, rfl, _, c0⟩ := (Hr.out.at_ hb1).2 (slotN t) hs
    clear hb
    go_wp2_with fail
    go_ret
    exact ⟨ret_i64 H.out.symm, hb1⟩

/-- The greatest depth of the first k arguments. -/
def maxTo (T : List Int) (l : List Ty) : Nat → Int
  | 0 => 0
  | k + 1 => if maxTo T l k < dep T (l.getD k default) then dep T (l.getD k default) else maxTo T l k
noncomputable def mostL (T : List Int) (l : List Ty) : Int := @ite _ (∃ a ∈ l, dep T a = 0) (Classical.propDecidable _) 0 (maxTo T l l.length + 1)

theorem most_no {T : List Int} {l : List Ty} {k : Nat} (hk : k < l.length) (h : dep T l[k] = 0) : 0 = mostL T l := by
  unfold mostL; rw [if_pos ⟨l[k], List.getElem_mem hk, h⟩]
theorem most_yes {T : List Int} {l : List Ty} (h : ∀ j (hj : j < l.length), ¬ dep T l[j] = 0) : maxTo T l l.length + 1 = mostL T l := by
  unfold mostL
  rw [if_neg]
  rintro ⟨a, ha, h0⟩
  obtain ⟨j, hj, rfl⟩ := List.getElem_of_mem ha
  exact h j hj h0
theorem maxTo_succ {T : List Int} {l : List Ty} {k : Nat} (hk : k < l.length) : maxTo T l (k + 1) = if maxTo T l k < dep T l[k] then dep T l[k] else maxTo T l k := by
  show (if maxTo T l k < dep T (l.getD k default) then dep T (l.getD k default) else maxTo T l k) = _
  have e : l.getD k default = l[k] := by simp [List.getD, List.getElem?_eq_getElem hk]
  rw [e]
def Known (T : List Int) (l : List Ty) (k : Nat) : Prop := ∀ j (hj : j < l.length), j < k → ¬ dep T l[j] = 0
theorem Known.zero (T : List Int) (l : List Ty) : Known T l 0 := fun j _ h => absurd h (by omega)
theorem Known.step {T : List Int} {l : List Ty} {k : Nat} (h : Known T l k) (hk : k < l.length) (e : ¬ dep T l[k] = 0) : Known T l (k + 1) := by
  intro j hj hjk
  by_cases e' : j = k
  · subst e'; exact e
  · exact h j hj (by omega)
theorem dep_bd {T : List Int} (hT : ∀ x ∈ T, 0 ≤ x ∧ x ≤ 5000) (t : Ty) : 0 ≤ dep T t ∧ dep T t ≤ 5000 := by
  unfold dep
  by_cases h : t.data = -1
  · rw [if_pos h]; omega
  · rw [if_neg h]
    by_cases hs : slotN t < T.length
    · simp only [List.getD, List.getElem?_eq_getElem hs, Option.getD_some]
      exact hT _ (List.getElem_mem hs)
    · simp [List.getD, List.getElem?_eq_none (Nat.le_of_not_lt hs)]
theorem maxTo_bd {T : List Int} (hT : ∀ x ∈ T, 0 ≤ x ∧ x ≤ 5000) (l : List Ty) : ∀ k, 0 ≤ maxTo T l k ∧ maxTo T l k ≤ 5000
  | 0 => by show 0 ≤ (0 : Int) ∧ (0 : Int) ≤ 5000; omega
  | k + 1 => by
    have h1 := maxTo_bd hT l k
    have h2 := dep_bd hT (l.getD k default)
    show 0 ≤ (if maxTo T l k < dep T (l.getD k default) then dep T (l.getD k default) else maxTo T l k) ∧ (if maxTo T l k < dep T (l.getD k default) then dep T (l.getD k default) else maxTo T l k) ≤ 5000
    split <;> omega

set_option maxHeartbeats 1200000 in
theorem most_any (A0 A : Option Addr) (l : List Da) (T : List Int) (cap0 cap d m : Nat) (ix : Int) (hd : d < l.length) (hm : m < l[d].ctors.length) (h3 : l[d].ctors[m].args.length ≤ 3) (w : World) (hr0 : RDas w w.heap.size A0 l) (hr : RInts w A T) (hn : T.length = l.length * 4) (hn4 : l.length ≤ 4)
    (hT : ∀ x ∈ T, 0 ≤ x ∧ x ≤ 5000) (hin : ∀ a ∈ argT l[d].ctors[m] ix, TyIn l.length a) :
    Calls Try.prog 79 #[.slice A0 l.length cap0, .slice A T.length cap, .agg #[.int .i64 d, .int .i64 ix], .int .i64 m] w fun e w' => e = .returned (.int .i64 (mostL T (argT l[d].ctors[m] ix))) ∧ Below w.heap.size w w' := by
  have Hr := Lib.hid hr
  have HN := Lib.hid hn
  have Hr0 := Lib.hid (hr0.keep (w' := w.alloc (.cells #[.int .i64 d, .int .i64 ix] 34)) (B' := (w.alloc (.cells #[.int .i64 d, .int .i64 ix] 34)).heap.size) (keep_one _) (by simp))
  have HI := Lib.hid hin
  have HT := Lib.hid hT
  clear hr hn hr0 hin hT
  have hLl : (argT l[d].ctors[m] ix).length ≤ 3 := by rw [argT_len]; exact h3
  have hLm : (argT l[d].ctors[m] ix).length ≤ maxLen := by unfold maxLen; omega
  go_enter Try.func79, Try.ntmps79
  go_wp2_with fail
  refine (l1Args_data _ l _ d m ix hd hm h3 _ Hr0.out).mono ?_
  rintro e w1 ⟨v, rfl, ho, hb⟩
  obtain ⟨A1, cap1, rfl, hr1⟩ := ho.form hLm
  have hb1 := below_one hb
  have H1 := Lib.hid hr1
  clear ho hb hr1 Hr0
  generalize hLL : argT l[d].ctors[m] ix = L at *
  have HLL := Lib.hid hLL
  clear hLL
  go_wp2_with fail
  go_loopw [10, 11] (fun q i wr => ∃ k : Nat, k ≤ L.length ∧ i = .int .i64 k ∧ q = .int .i64 (maxTo T L k) ∧ Known T L k ∧ Below w1.heap.size w1 wr) (fun _ i _ => L.length - (intOf i).toNat)
  case atStart => exact ⟨0, by omega, rfl, rfl, Known.zero _ _, Below.refl _ _⟩
  case round =>
    obtain ⟨k, hk, rfl, rfl, hkn, hb⟩ := hrel
    have HB : Hid (Below w.heap.size w wr) := hb1.trans (hb.mono hb1.size)
    have hmb := maxTo_bd HT.out L k
    by_cases hlt : k < L.length
    · obtain ⟨b, off, rfl, _, c0, c1⟩ := (H1.out.below hb (Nat.le_refl _)).2 k hlt
      have hdb := dep_bd HT.out L[k]
      have HTI := Lib.hid (HI.out L[k] (List.getElem_mem hlt))
      have HS := Lib.hid (maxTo_succ (T := T) hlt)
      by_cases h0 : dep T L[k] = 0
      · have q := ieq_t h0
        have HZ := Lib.hid (most_no hlt h0)
        clear h0
        go_wp2_with fail
        refine (depth_any _ _ _ l.length _ _ (Hr.out.at_ HB.out) HN.out hn4 HTI.out).mono ?_
        rintro e w2 ⟨rfl, hb2⟩
        go_wp2_with fail
        go_ret
        exact ⟨ret_i64 (by rw [HLL.out]; exact HZ.out), HB.out.trans (hb2.mono HB.out.size)⟩
      · have q := ieq_f h0
        have HK := Lib.hid (hkn.step hlt h0)
        clear h0 hkn
        by_cases hgt : maxTo T L k < dep T L[k]
        · have HM : Hid (maxTo T L (k + 1) = dep T L[k]) := by unfold Hid; rw [HS.out, if_pos hgt]
          go_wp2_with fail
          refine (depth_any _ _ _ l.length _ _ (Hr.out.at_ HB.out) HN.out hn4 HTI.out).mono ?_
          rintro e w2 ⟨rfl, hb2⟩
          go_wp2_with fail
          go_roundw
          case rel => exact ⟨k + 1, by omega, by go_num, by rw [HM.out], HK.out, hb.trans (hb2.mono hb.size)⟩
          case measure => simp [intOf]; omega
        · have HM : Hid (maxTo T L (k + 1) = maxTo T L k) := by unfold Hid; rw [HS.out, if_neg hgt]
          go_wp2_with fail
          refine (depth_any _ _ _ l.length _ _ (Hr.out.at_ HB.out) HN.out hn4 HTI.out).mono ?_
          rintro e w2 ⟨rfl, hb2⟩
          go_wp2_with fail
          go_roundw
          case rel => exact ⟨k + 1, by omega, by go_num, by rw [HM.out], HK.out, hb.trans (hb2.mono hb.size)⟩
          case measure => simp [intOf]; omega
    · have he : k = L.length := by omega
      have HY : Hid (maxTo T L L.length + 1 = mostL T L) := most_yes (fun j hj => hkn j hj (by omega))
      have HE := Lib.hid he
      clear he hkn
      go_wp2_with fail
      go_ret
      exact ⟨ret_i64 (by rw [HLL.out, ← HY.out, HE.out]), HB.out⟩
end Go.Proofs.Ythebdlejoficmaa
