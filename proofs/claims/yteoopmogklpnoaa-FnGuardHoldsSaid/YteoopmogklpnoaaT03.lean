/-
  When types, constructors and data types are valid: the leaves, the program's and the document's. No statement is proved here.
-/
import Derived.Test.YteoopmogklpnoaaT02
import Derived.Test.YteoopmogklpnoaaT00
import Derived.Maps.Own
import Derived.Maps.OwnOps
import Derived.Maps.Views
namespace Go.Proofs.Yteoopmogklpnoaa
open Go.RowKit
set_option maxRecDepth 100000
set_option linter.unusedVariables false
def argB (n : Int) (least : Int) (t : Ty) : Bool := if t.data = -1 then decide (t.index = 0) else decide (0 ≤ t.data ∧ t.data < n ∧ least ≤ t.index ∧ t.index ≤ 3)
def ctorB (n : Int) (c : Ct) : Bool := nameB c.name && (decide (c.args.length ≤ 3) && (decide (0 ≤ c.index ∧ c.index ≤ 3) && c.args.all (argB n (-1))))
def dnameB (s : ByteArray) : Bool := decide (s.size = 1) && (upB ((s.data.toList.headD 0).toNat) && decide (¬ s.toList = [73]))
def dataB (n : Int) (d : Da) : Bool := dnameB d.name && (decide (1 ≤ d.ctors.length ∧ d.ctors.length ≤ 4) && d.ctors.all (ctorB n))
theorem argB_int {n least : Int} {t : Ty} (h : t.data = -1) : argB n least t = decide (t.index = 0) := if_pos h
theorem argB_data {n least : Int} {t : Ty} (h : ¬ t.data = -1) : argB n least t = decide (0 ≤ t.data ∧ t.data < n ∧ least ≤ t.index ∧ t.index ≤ 3) := if_neg h
theorem arg_any (d i n : Int) (w : World) :
    Calls Try.prog 119 #[.int .i64 n, .agg #[.int .i64 d, .int .i64 i]] w fun e w' => e = .returned (.bool (argB n (-1) ⟨d, i⟩)) ∧ Below w.heap.size w w' := by
  have hB : ∀ o : Obj, Below w.heap.size w (w.alloc o) := fun o => (Below.refl _ _).alloc (Nat.le_refl _) _
  have HB := Lib.hid hB
  clear hB
  by_cases h0 : d = -1
  · subst h0
    have H := Lib.hid (argB_int (n := n) (least := -1) (t := ⟨-1, i⟩) rfl)
    by_cases h1 : i = 0
    · subst h1
      go_enter Try.func119, Try.ntmps119
      go_wp2_with fail
      go_ret
      exact ⟨ret_bool (by rw [H.out]; rfl), HB.out _⟩
    · have h1' : (i == 0) = false := beq_eq_false_iff_ne.2 h1
      go_enter Try.func119, Try.ntmps119
      go_wp2_with fail
      go_ret
      exact ⟨ret_bool (by rw [H.out]; simp [h1]), HB.out _⟩
  · have h0' : (d == -1) = false := beq_eq_false_iff_ne.2 h0
    have H := Lib.hid (argB_data (n := n) (least := -1) (t := ⟨d, i⟩) h0)
    by_cases h1 : 0 ≤ d
    · by_cases h2 : d < n
      · by_cases h3 : -1 ≤ i
        · by_cases h4 : i ≤ 3
          · go_enter Try.func119, Try.ntmps119
            go_wp2_with fail
            go_ret
            exact ⟨ret_bool (by rw [H.out]; exact (decide_eq_true (by omega)).symm), HB.out _⟩
          · go_enter Try.func119, Try.ntmps119
            go_wp2_with fail
            go_ret
            exact ⟨ret_bool (by rw [H.out]; exact (decide_eq_false (by omega)).symm), HB.out _⟩
        · go_enter Try.func119, Try.ntmps119
          go_wp2_with fail
          go_ret
          exact ⟨ret_bool (by rw [H.out]; exact (decide_eq_false (by omega)).symm), HB.out _⟩
      · go_enter Try.func119, Try.ntmps119
        go_wp2_with fail
        go_ret
        exact ⟨ret_bool (by rw [H.out]; exact (decide_eq_false (by omega)).symm), HB.out _⟩
    · go_enter Try.func119, Try.ntmps119
      go_wp2_with fail
      go_ret
      exact ⟨ret_bool (by rw [H.out]; exact (decide_eq_false (by omega)).symm), HB.out _⟩
end Go.Proofs.Yteoopmogklpnoaa
/-
  When constructors and data types are valid: the program's functions and the document's. No statement is proved here.
-/
namespace Go.Proofs.Yteoopmogklpnoaa
open Go.RowKit
set_option maxRecDepth 100000
set_option linter.unusedVariables false
def AllTo {α : Type} (f : α → Bool) (l : List α) (k : Nat) : Prop := ∀ j (h : j < l.length), j < k → f l[j] = true
theorem AllTo.zero {α : Type} (f : α → Bool) (l : List α) : AllTo f l 0 := fun j _ h => absurd h (by omega)
theorem AllTo.step {α : Type} {f : α → Bool} {l : List α} {k : Nat} (h : AllTo f l k) (hk : k < l.length) (e : f l[k] = true) : AllTo f l (k + 1) := by
  intro j hj hjk
  by_cases e' : j = k
  · subst e'; exact e
  · exact h j hj (by omega)
theorem AllTo.all {α : Type} {f : α → Bool} {l : List α} {k : Nat} (h : AllTo f l k) (hk : l.length ≤ k) : l.all f = true := by
  rw [List.all_eq_true]
  intro x hx
  obtain ⟨j, hj, rfl⟩ := List.getElem_of_mem hx
  exact h j hj (by omega)
theorem all_bad {α : Type} {f : α → Bool} {l : List α} {k : Nat} (hk : k < l.length) (e : f l[k] = false) : l.all f = false := by
  rw [List.all_eq_false]
  exact ⟨l[k], List.getElem_mem hk, by rw [e]; decide⟩
theorem dname_size {s : ByteArray} (h : ¬ s.size = 1) : dnameB s = false := by unfold dnameB; rw [decide_eq_false h]; rfl
theorem dname_one {s : ByteArray} (h : s.size = 1) (h0 : 0 < s.size) : dnameB s = (upB (s[0]'h0).toNat && decide (¬ s.toList = [73])) := by
  unfold dnameB; rw [decide_eq_true h, head_eq h0]; rfl
theorem l1Data_any (s : ByteArray) (w : World) (hs : s.size ≤ maxLen) :
    Calls Try.prog 116 #[.string s] w fun e w' => e = .returned (.bool (dnameB s)) ∧ w = w' := by
  unfold maxLen at hs
  by_cases h1 : s.size = 1
  · have h0 : 0 < s.size := by omega
    have H := Lib.hid (dname_one h1 h0)
    have q : ((s.size : Int) == 1) = true := beq_iff_eq.2 (by omega)
    clear h1
    by_cases hu : upB (s[0]'h0).toNat = true
    · by_cases hi : s.toList = [73]
      · have q2 : (s.toList != [73]) = false := by rw [hi]; rfl
        have HI := Lib.hid hi
        clear hi
        go_enter Try.func116, Try.ntmps116
        go_wp2_with (go_at_call 139; refine (big_any _ _).mono ?_; rintro e w' ⟨rfl, rfl⟩)
        go_ret
        exact ⟨ret_bool (by rw [H.out, hu]; simp [HI.out]), rfl⟩
      · have q2 : (s.toList != [73]) = true := by rw [bne, beq_eq_false_iff_ne.2 hi]; rfl
        have HI := Lib.hid hi
        clear hi
        go_enter Try.func116, Try.ntmps116
        go_wp2_with (go_at_call 139; refine (big_any _ _).mono ?_; rintro e w' ⟨rfl, rfl⟩)
        go_ret
        exact ⟨ret_bool (by rw [H.out, hu]; simp [HI.out]), rfl⟩
    · have hu' : upB (s[0]'h0).toNat = false := by simpa using hu
      clear hu
      go_enter Try.func116, Try.ntmps116
      go_wp2_with (go_at_call 139; refine (big_any _ _).mono ?_; rintro e w' ⟨rfl, rfl⟩)
      go_ret
      exact ⟨ret_bool (by rw [H.out, hu']; rfl), rfl⟩
  · have q : ((s.size : Int) == 1) = false := beq_eq_false_iff_ne.2 (by omega)
    have H := Lib.hid (dname_size h1)
    clear h1
    go_enter Try.func116, Try.ntmps116
    go_wp2_with fail
    go_ret
    exact ⟨ret_bool H.out.symm, rfl⟩
theorem ctor_name {n : Int} {c : Ct} (h : nameB c.name = false) : false = ctorB n c := by unfold ctorB; rw [h]; rfl
theorem ctor_args {n : Int} {c : Ct} (h : ¬ c.args.length ≤ 3) : false = ctorB n c := by unfold ctorB; rw [decide_eq_false h]; simp
theorem ctor_index {n : Int} {c : Ct} (h : ¬ (0 ≤ c.index ∧ c.index ≤ 3)) : false = ctorB n c := by unfold ctorB; rw [decide_eq_false h]; simp
theorem ctor_bad {n : Int} {c : Ct} (h : c.args.all (argB n (-1)) = false) : false = ctorB n c := by unfold ctorB; rw [h]; simp
theorem ctor_good {n : Int} {c : Ct} (h1 : nameB c.name = true) (h2 : c.args.length ≤ 3) (h3 : 0 ≤ c.index ∧ c.index ≤ 3) (h : c.args.all (argB n (-1)) = true) : true = ctorB n c := by
  unfold ctorB; rw [h, h1, decide_eq_true h2, decide_eq_true h3]; rfl
theorem below_one {w w' : World} {o : Obj} (h : Below (w.alloc o).heap.size (w.alloc o) w') : Below w.heap.size w w' :=
  ((Below.refl _ _).alloc (Nat.le_refl _) _).trans (h.mono (by simp))
theorem keep_one {w : World} (o : Obj) : ∀ p : Addr, p.block < w.heap.size → (w.alloc o).cell? p = w.cell? p := fun p hp => World.cell?_alloc_lt _ _ _ hp
set_option maxHeartbeats 800000 in
theorem l1Ctor_any (c : Ct) (A : Option Addr) (cap : Nat) (n : Int) (w : World) (hs : c.name.size ≤ maxLen) (hr : RTys w w.heap.size A c.args) :
    Calls Try.prog 117 #[.int .i64 n, .agg #[.string c.name, .slice A c.args.length cap, .int .i64 c.index]] w fun e w' => e = .returned (.bool (ctorB n c)) ∧ Below w.heap.size w w' := by
  have hn := hr.1
  unfold maxLen at hn
  have Hr := Lib.hid hr
  clear hr
  have HB : Hid (∀ o : Obj, Below w.heap.size w (w.alloc o)) := fun o => (Below.refl _ _).alloc (Nat.le_refl _) _
  by_cases h1 : nameB c.name = true
  · by_cases h2 : c.args.length ≤ 3
    · by_cases h3 : 0 ≤ c.index
      · by_cases h4 : c.index ≤ 3
        · go_enter Try.func117, Try.ntmps117
          go_wp2_with (go_at_call 140; refine (nameV_spec _ _ hs).mono ?_; rintro e w' ⟨rfl, rfl⟩)
          go_loopw [5] (fun i wr => ∃ k : Nat, k ≤ c.args.length ∧ i = .int .i64 k ∧ AllTo (argB n (-1)) c.args k ∧ wr.cell? ⟨w.heap.size, 1, none⟩ = some (.slice A c.args.length cap) ∧ w.heap.size < wr.heap.size ∧ Below w.heap.size w wr) (fun i _ => c.args.length - (intOf i).toNat)
          case atStart => exact ⟨0, by omega, rfl, AllTo.zero _ _, by simp [go_sem], by simp, HB.out _⟩
          case round =>
            obtain ⟨k, hk, rfl, hu, b1, hlw, hb⟩ := hrel
            by_cases hlt : k < c.args.length
            · obtain ⟨b, off, rfl, hbB, c0, c1⟩ := (Hr.out.below hb (Nat.le_refl _)).2 k hlt
              by_cases he : argB n (-1) c.args[k] = true
              · go_wp2_with (go_at_call 119; refine (arg_any _ _ _ _).mono ?_; rintro e w1 ⟨rfl, hb1⟩; have hb2 := hb.trans (hb1.mono hb.size); have b2 := (hb1.cell (p := ⟨w.heap.size, 1, none⟩) hlw).trans b1; have hlw2 := Nat.lt_of_lt_of_le hlw hb1.size)
                go_roundw
                case rel => exact ⟨k + 1, by omega, by go_num, hu.step hlt he, b2, hlw2, hb2⟩
                case measure => simp [intOf]; omega
              · have he' : argB n (-1) c.args[k] = false := by simpa using he
                have HE := Lib.hid (ctor_bad (n := n) (all_bad hlt he'))
                clear he
                go_wp2_with (go_at_call 119; refine (arg_any _ _ _ _).mono ?_; rintro e w1 ⟨rfl, hb1⟩; have hb2 := hb.trans (hb1.mono hb.size))
                go_ret
                exact ⟨ret_bool HE.out, hb2⟩
            · go_wp2_with fail
              go_ret
              exact ⟨ret_bool (ctor_good h1 h2 ⟨h3, h4⟩ (hu.all (by omega))), hb⟩
        · have H := Lib.hid (ctor_index (n := n) (c := c) (by omega))
          go_enter Try.func117, Try.ntmps117
          go_wp2_with (go_at_call 140; refine (nameV_spec _ _ hs).mono ?_; rintro e w' ⟨rfl, rfl⟩)
          go_ret
          exact ⟨ret_bool H.out, HB.out _⟩
      · have H := Lib.hid (ctor_index (n := n) (c := c) (by omega))
        go_enter Try.func117, Try.ntmps117
        go_wp2_with (go_at_call 140; refine (nameV_spec _ _ hs).mono ?_; rintro e w' ⟨rfl, rfl⟩)
        go_ret
        exact ⟨ret_bool H.out, HB.out _⟩
    · have H := Lib.hid (ctor_args (n := n) h2)
      have h2' : (3 : Int) < c.args.length := by omega
      go_enter Try.func117, Try.ntmps117
      go_wp2_with (go_at_call 140; refine (nameV_spec _ _ hs).mono ?_; rintro e w' ⟨rfl, rfl⟩)
      go_ret
      exact ⟨ret_bool H.out, HB.out _⟩
  · have h1' : nameB c.name = false := by simpa using h1
    clear h1
    go_enter Try.func117, Try.ntmps117
    go_wp2_with (go_at_call 140; refine (nameV_spec _ _ hs).mono ?_; rintro e w' ⟨rfl, rfl⟩)
    go_ret
    exact ⟨ret_bool (ctor_name h1'), HB.out _⟩
theorem data_name {n : Int} {d : Da} (h : dnameB d.name = false) : false = dataB n d := by unfold dataB; rw [h]; rfl
theorem data_len {n : Int} {d : Da} (h : ¬ (1 ≤ d.ctors.length ∧ d.ctors.length ≤ 4)) : false = dataB n d := by unfold dataB; rw [decide_eq_false h]; simp
theorem data_bad {n : Int} {d : Da} (h : d.ctors.all (ctorB n) = false) : false = dataB n d := by unfold dataB; rw [h]; simp
theorem data_good {n : Int} {d : Da} (h1 : dnameB d.name = true) (h2 : 1 ≤ d.ctors.length ∧ d.ctors.length ≤ 4) (h : d.ctors.all (ctorB n) = true) : true = dataB n d := by
  unfold dataB; rw [h, h1, decide_eq_true h2]; rfl
end Go.Proofs.Yteoopmogklpnoaa
/-
  A map from strings to bools that the call itself has made, as a set of strings. No statement is proved here.
-/
namespace Go.Proofs.Yteoopmogklpnoaa
open Go.RowKit Go.Maps
set_option maxRecDepth 100000
set_option linter.unusedVariables false
/-- Does it hold? -/
noncomputable def dec (p : Prop) : Bool := @decide p (Classical.propDecidable _)
theorem dec_t {p : Prop} (h : p) : dec p = true := by unfold dec; simp [h]
theorem dec_f {p : Prop} (h : ¬ p) : dec p = false := by unfold dec; simp [h]
theorem dec_congr {p q : Prop} (h : p ↔ q) : dec p = dec q := by
  by_cases hp : p
  · rw [dec_t hp, dec_t (h.1 hp)]
  · rw [dec_f hp, dec_f (fun hq => hp (h.2 hq))]
end Go.Proofs.Yteoopmogklpnoaa
/-
  When the names of data types and constructors differ: the program's function. No statement is proved here.
-/
namespace Go.Proofs.Yteoopmogklpnoaa
open Go.RowKit
set_option maxRecDepth 100000
set_option linter.unusedVariables false
abbrev bs (s : ByteArray) : List UInt8 := s.data.toList
/-- The names of the data types before place k; the names of the constructors before place j of data type k. -/
def SD (l : List Da) (k : Nat) (t : List UInt8) : Prop := ∃ i, ∃ h : i < l.length, i < k ∧ bs l[i].name = t
def SC (l : List Da) (k j : Nat) (t : List UInt8) : Prop := ∃ i, ∃ h : i < l.length, ∃ m, ∃ hm : m < l[i].ctors.length, (i < k ∨ (i = k ∧ m < j)) ∧ bs l[i].ctors[m].name = t
theorem SD.zero (l : List Da) (t : List UInt8) : False ↔ SD l 0 t := ⟨False.elim, fun ⟨i, _, h, _⟩ => absurd h (by omega)⟩
theorem SC.zero (l : List Da) (t : List UInt8) : False ↔ SC l 0 0 t := ⟨False.elim, fun ⟨i, _, m, _, h, _⟩ => by omega⟩
theorem SD.succ (l : List Da) (k : Nat) (hk : k < l.length) (t : List UInt8) : (t = bs l[k].name ∨ SD l k t) ↔ SD l (k + 1) t := by
  constructor
  · rintro (rfl | ⟨i, h, h1, h2⟩)
    · exact ⟨k, hk, by omega, rfl⟩
    · exact ⟨i, h, by omega, h2⟩
  · rintro ⟨i, h, h1, h2⟩
    by_cases e : i = k
    · subst e; exact .inl h2.symm
    · exact .inr ⟨i, h, by omega, h2⟩
theorem SC.succ (l : List Da) (k j : Nat) (hk : k < l.length) (hj : j < l[k].ctors.length) (t : List UInt8) : (t = bs l[k].ctors[j].name ∨ SC l k j t) ↔ SC l k (j + 1) t := by
  constructor
  · rintro (rfl | ⟨i, h, m, hm, h1, h2⟩)
    · exact ⟨k, hk, j, hj, .inr ⟨rfl, by omega⟩, rfl⟩
    · exact ⟨i, h, m, hm, by omega, h2⟩
  · rintro ⟨i, h, m, hm, h1, h2⟩
    by_cases e : i = k ∧ m = j
    · obtain ⟨rfl, rfl⟩ := e; exact .inl h2.symm
    · exact .inr ⟨i, h, m, hm, by omega, h2⟩
/-- The names from data type d on that are new. -/
def NewC (l : List Da) (d : Nat) (hd : d < l.length) (k : Nat) : Prop := ∀ j (h : j < l[d].ctors.length), j < k → ¬ SC l d j (bs l[d].ctors[j].name)
def NewD (l : List Da) (k : Nat) : Prop := ∀ d (h : d < l.length), d < k → ¬ SD l d (bs l[d].name) ∧ NewC l d h l[d].ctors.length
def Differ (l : List Da) : Prop := NewD l l.length
theorem NewC.zero (l : List Da) (d : Nat) (hd : d < l.length) : NewC l d hd 0 := fun j _ h => absurd h (by omega)
theorem NewC.step {l : List Da} {d : Nat} {hd : d < l.length} {k : Nat} (h : NewC l d hd k) (hk : k < l[d].ctors.length) (e : ¬ SC l d k (bs l[d].ctors[k].name)) : NewC l d hd (k + 1) := by
  intro j hj hjk
  by_cases e' : j = k
  · subst e'; exact e
  · exact h j hj (by omega)
theorem NewD.zero (l : List Da) : NewD l 0 := fun j _ h => absurd h (by omega)
theorem NewD.step {l : List Da} {k : Nat} (h : NewD l k) (hk : k < l.length) (e : ¬ SD l k (bs l[k].name)) (e2 : NewC l k hk l[k].ctors.length) : NewD l (k + 1) := by
  intro d hd hdk
  by_cases e' : d = k
  · subst e'; exact ⟨e, e2⟩
  · exact h d hd (by omega)
end Go.Proofs.Yteoopmogklpnoaa
