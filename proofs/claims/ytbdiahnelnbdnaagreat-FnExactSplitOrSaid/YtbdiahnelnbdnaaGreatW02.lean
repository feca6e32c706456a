/-
  When types, constructors and data types are valid: the leaves, the program's and the document's. No statement is proved here.
-/
import Derived.Test.YtbdiahnelnbdnaaGreatW01
import Derived.Test.YtbdiahnelnbdnaaGreatW00
import Derived.Maps.Own
import Derived.Maps.OwnOps
import Derived.Maps.Views
import Derived.BigQuiet
import Derived.Deep.QuietTactic
namespace Go.Proofs.YtbdiahnelnbdnaaGreat
open Go.RowKit
set_option maxRecDepth 100000
set_option linter.unusedVariables false
def argB (n : Int) (least : Int) (t : Ty) : Bool := if t.data = -1 then decide (t.index = 0) else decide (0 ≤ t.data ∧ t.data < n ∧ least ≤ t.index ∧ t.index ≤ 3)
def ctorB (n : Int) (c : Ct) : Bool := nameB c.name && (decide (c.args.length ≤ 3) && (decide (0 ≤ c.index ∧ c.index ≤ 3) && c.args.all (argB n (-1))))
def dnameB (s : ByteArray) : Bool := decide (s.size = 1) && (upB ((s.data.toList.headD 0).toNat) && decide (¬ s.toList = [73]))
def dataB (n : Int) (d : Da) : Bool := dnameB d.name && (decide (1 ≤ d.ctors.length ∧ d.ctors.length ≤ 4) && d.ctors.all (ctorB n))
def btw (j i : Int) : Bool := decide (j ≤ i ∧ i ≤ 3)
theorem between_any (i j : Int) (w : World) :
    Calls Tryz.prog 83 #[.int .i64 i, .int .i64 j] w fun e w' => e = .returned (.bool (btw j i)) ∧ w = w' := by
  by_cases h1 : j ≤ i
  · by_cases h2 : i ≤ 3
    · go_enter Tryz.func83, Tryz.ntmps83
      go_wp2_with fail
      go_ret
      exact ⟨ret_bool (decide_eq_true (by omega)).symm, rfl⟩
    · go_enter Tryz.func83, Tryz.ntmps83
      go_wp2_with fail
      go_ret
      exact ⟨ret_bool (decide_eq_false (by omega)).symm, rfl⟩
  · go_enter Tryz.func83, Tryz.ntmps83
    go_wp2_with fail
    go_ret
    exact ⟨ret_bool (decide_eq_false (by omega)).symm, rfl⟩
theorem argB_int {n least : Int} {t : Ty} (h : t.data = -1) : argB n least t = decide (t.index = 0) := if_pos h
theorem argB_data {n least : Int} {t : Ty} (h : ¬ t.data = -1) : argB n least t = decide (0 ≤ t.data ∧ t.data < n ∧ least ≤ t.index ∧ t.index ≤ 3) := if_neg h
theorem within_any (d i n least : Int) (w : World) :
    Calls Tryz.prog 67 #[.agg #[.int .i64 d, .int .i64 i], .int .i64 n, .int .i64 least] w fun e w' => e = .returned (.bool (argB n least ⟨d, i⟩)) ∧ Below w.heap.size w w' := by
  have hB : ∀ o : Obj, Below w.heap.size w (w.alloc o) := fun o => (Below.refl _ _).alloc (Nat.le_refl _) _
  have HB := Lib.hid hB
  clear hB
  by_cases h0 : d = -1
  · subst h0
    have H := Lib.hid (argB_int (n := n) (least := least) (t := ⟨-1, i⟩) rfl)
    by_cases h1 : i = 0
    · subst h1
      go_enter Tryz.func67, Tryz.ntmps67
      go_wp2_with fail
      go_ret
      exact ⟨ret_bool (by rw [H.out]; rfl), HB.out _⟩
    · have h1' : (i == 0) = false := beq_eq_false_iff_ne.2 h1
      go_enter Tryz.func67, Tryz.ntmps67
      go_wp2_with fail
      go_ret
      exact ⟨ret_bool (by rw [H.out]; simp [h1]), HB.out _⟩
  · have h0' : (d == -1) = false := beq_eq_false_iff_ne.2 h0
    have H := Lib.hid (argB_data (n := n) (least := least) (t := ⟨d, i⟩) h0)
    by_cases h1 : 0 ≤ d
    · by_cases h2 : d < n
      · go_enter Tryz.func67, Tryz.ntmps67
        go_wp2_with (go_at_call 83; refine (between_any _ _ _).mono ?_; rintro e w1 ⟨rfl, rfl⟩)
        go_ret
        exact ⟨ret_bool (by rw [H.out]; unfold btw; simp only [h1, h2, true_and]), HB.out _⟩
      · go_enter Tryz.func67, Tryz.ntmps67
        go_wp2_with fail
        go_ret
        exact ⟨ret_bool (by rw [H.out]; exact (decide_eq_false (by omega)).symm), HB.out _⟩
    · go_enter Tryz.func67, Tryz.ntmps67
      go_wp2_with fail
      go_ret
      exact ⟨ret_bool (by rw [H.out]; exact (decide_eq_false (by omega)).symm), HB.out _⟩
theorem arg_any (d i n : Int) (w : World) :
    Calls Tryz.prog 59 #[.int .i64 n, .agg #[.int .i64 d, .int .i64 i]] w fun e w' => e = .returned (.bool (argB n (-1) ⟨d, i⟩)) ∧ Below w.heap.size w w' := by
  have hB : ∀ o : Obj, Below w.heap.size w (w.alloc o) := fun o => (Below.refl _ _).alloc (Nat.le_refl _) _
  have HB := Lib.hid hB
  clear hB
  by_cases h0 : d = -1
  · subst h0
    have H := Lib.hid (argB_int (n := n) (least := -1) (t := ⟨-1, i⟩) rfl)
    by_cases h1 : i = 0
    · subst h1
      go_enter Tryz.func59, Tryz.ntmps59
      go_wp2_with fail
      go_ret
      exact ⟨ret_bool (by rw [H.out]; rfl), HB.out _⟩
    · have h1' : (i == 0) = false := beq_eq_false_iff_ne.2 h1
      go_enter Tryz.func59, Tryz.ntmps59
      go_wp2_with fail
      go_ret
      exact ⟨ret_bool (by rw [H.out]; simp [h1]), HB.out _⟩
  · have h0' : (d == -1) = false := beq_eq_false_iff_ne.2 h0
    have H := Lib.hid (argB_data (n := n) (least := -1) (t := ⟨d, i⟩) h0)
    by_cases h1 : 0 ≤ d
    · by_cases h2 : d < n
      · by_cases h3 : -1 ≤ i
        · by_cases h4 : i ≤ 3
          · go_enter Tryz.func59, Tryz.ntmps59
            go_wp2_with fail
            go_ret
            exact ⟨ret_bool (by rw [H.out]; exact (decide_eq_true (by omega)).symm), HB.out _⟩
          · go_enter Tryz.func59, Tryz.ntmps59
            go_wp2_with fail
            go_ret
            exact ⟨ret_bool (by rw [H.out]; exact (decide_eq_false (by omega)).symm), HB.out _⟩
        · go_enter Tryz.func59, Tryz.ntmps59
          go_wp2_with fail
          go_ret
          exact ⟨ret_bool (by rw [H.out]; exact (decide_eq_false (by omega)).symm), HB.out _⟩
      · go_enter Tryz.func59, Tryz.ntmps59
        go_wp2_with fail
        go_ret
        exact ⟨ret_bool (by rw [H.out]; exact (decide_eq_false (by omega)).symm), HB.out _⟩
    · go_enter Tryz.func59, Tryz.ntmps59
      go_wp2_with fail
      go_ret
      exact ⟨ret_bool (by rw [H.out]; exact (decide_eq_false (by omega)).symm), HB.out _⟩
end Go.Proofs.YtbdiahnelnbdnaaGreat
/-
  When constructors and data types are valid: the program's functions and the document's. No statement is proved here.
-/
namespace Go.Proofs.YtbdiahnelnbdnaaGreat
open Go.RowKit
set_option maxRecDepth 100000
set_option linter.unusedVariables false
def AllTo {α : Type} (f : α → Bool) (l : List α) (k : Nat) : Prop := ∀ j (h : j < l.length), j < k → f l[j] = true
theorem AllTo.zero {α : Type} (f : α → Bool) (l : List α) : AllTo f l 0 := fun j _ h => absurd h (by omega)
theorem AllTo.step {α : Type} {f : α → Bool} {l : List α} {k : Nat} (h : AllTo f l k) (hk : k < l.length) (e : f l[k] = true) : AllTo f l (k + 1) := by
  intro j hj hjk
  by_cases e' : j = k
  · subst e'; exact e
  · exact h j hj (by omega)
theorem AllTo.all {α : Type} {f : α → Bool} {l : List α} {k : Nat} (h : AllTo f l k) (hk : l.length ≤ k) : l.all f = true := by
  rw [List.all_eq_true]
  intro x hx
  obtain ⟨j, hj, rfl⟩ := List.getElem_of_mem hx
  exact h j hj (by omega)
theorem all_bad {α : Type} {f : α → Bool} {l : List α} {k : Nat} (hk : k < l.length) (e : f l[k] = false) : l.all f = false := by
  rw [List.all_eq_false]
  exact ⟨l[k], List.getElem_mem hk, by rw [e]; decide⟩
theorem dname_size {s : ByteArray} (h : ¬ s.size = 1) : dnameB s = false := by unfold dnameB; rw [decide_eq_false h]; rfl
theorem dname_one {s : ByteArray} (h : s.size = 1) (h0 : 0 < s.size) : dnameB s = (upB (s[0]'h0).toNat && decide (¬ s.toList = [73])) := by
  unfold dnameB; rw [decide_eq_true h, head_eq h0]; rfl
theorem l1Data_any (s : ByteArray) (w : World) (hs : s.size ≤ maxLen) :
    Calls Tryz.prog 56 #[.string s] w fun e w' => e = .returned (.bool (dnameB s)) ∧ w = w' := by
  unfold maxLen at hs
  by_cases h1 : s.size = 1
  · have h0 : 0 < s.size := by omega
    have H := Lib.hid (dname_one h1 h0)
    have q : ((s.size : Int) == 1) = true := beq_iff_eq.2 (by omega)
    clear h1
    by_cases hu : upB (s[0]'h0).toNat = true
    · by_cases hi : s.toList = [73]
      · have q2 : (s.toList != [73]) = false := by rw [hi]; rfl
        have HI := Lib.hid hi
        clear hi
        go_enter Tryz.func56, Tryz.ntmps56
        go_wp2_with (go_at_call 75; refine (big_any _ _).mono ?_; rintro e w' ⟨rfl, rfl⟩)
        go_ret
        exact ⟨ret_bool (by rw [H.out, hu]; simp [HI.out]), rfl⟩
      · have q2 : (s.toList != [73]) = true := by rw [bne, beq_eq_false_iff_ne.2 hi]; rfl
        have HI := Lib.hid hi
        clear hi
        go_enter Tryz.func56, Tryz.ntmps56
        go_wp2_with (go_at_call 75; refine (big_any _ _).mono ?_; rintro e w' ⟨rfl, rfl⟩)
        go_ret
        exact ⟨ret_bool (by rw [H.out, hu]; simp [HI.out]), rfl⟩
    · have hu' : upB (s[0]'h0).toNat = false := by simpa using hu
      clear hu
      go_enter Tryz.func56, Tryz.ntmps56
      go_wp2_with (go_at_call 75; refine (big_any _ _).mono ?_; rintro e w' ⟨rfl, rfl⟩)
      go_ret
      exact ⟨ret_bool (by rw [H.out, hu']; rfl), rfl⟩
  · have q : ((s.size : Int) == 1) = false := beq_eq_false_iff_ne.2 (by omega)
    have H := Lib.hid (dname_size h1)
    clear h1
    go_enter Tryz.func56, Tryz.ntmps56
    go_wp2_with fail
    go_ret
    exact ⟨ret_bool H.out.symm, rfl⟩
theorem ctor_name {n : Int} {c : Ct} (h : nameB c.name = false) : false = ctorB n c := by unfold ctorB; rw [h]; rfl
theorem ctor_args {n : Int} {c : Ct} (h : ¬ c.args.length ≤ 3) : false = ctorB n c := by unfold ctorB; rw [decide_eq_false h]; simp
theorem ctor_index {n : Int} {c : Ct} (h : ¬ (0 ≤ c.index ∧ c.index ≤ 3)) : false = ctorB n c := by unfold ctorB; rw [decide_eq_false h]; simp
theorem ctor_bad {n : Int} {c : Ct} (h : c.args.all (argB n (-1)) = false) : false = ctorB n c := by unfold ctorB; rw [h]; simp
theorem ctor_good {n : Int} {c : Ct} (h1 : nameB c.name = true) (h2 : c.args.length ≤ 3) (h3 : 0 ≤ c.index ∧ c.index ≤ 3) (h : c.args.all (argB n (-1)) = true) : true = ctorB n c := by
  unfold ctorB; rw [h, h1, decide_eq_true h2, decide_eq_true h3]; rfl
theorem below_one {w w' : World} {o : Obj} (h : Below (w.alloc o).heap.size (w.alloc o) w') : Below w.heap.size w w' :=
  ((Below.refl _ _).alloc (Nat.le_refl _) _).trans (h.mono (by simp))
theorem keep_one {w : World} (o : Obj) : ∀ p : Addr, p.block < w.heap.size → (w.alloc o).cell? p = w.cell? p := fun p hp => World.cell?_alloc_lt _ _ _ hp
set_option maxHeartbeats 800000 in
theorem l1Ctor_any (c : Ct) (A : Option Addr) (cap : Nat) (n : Int) (w : World) (hs : c.name.size ≤ maxLen) (hr : RTys w w.heap.size A c.args) :
    Calls Tryz.prog 57 #[.int .i64 n, .agg #[.string c.name, .slice A c.args.length cap, .int .i64 c.index]] w fun e w' => e = .returned (.bool (ctorB n c)) ∧ Below w.heap.size w w' := by
  have hn := hr.1
  unfold maxLen at hn
  have Hr := Lib.hid hr
  clear hr
  have HB : Hid (∀ o : Obj, Below w.heap.size w (w.alloc o)) := fun o => (Below.refl _ _).alloc (Nat.le_refl _) _
  by_cases h1 : nameB c.name = true
  · by_cases h2 : c.args.length ≤ 3
    · by_cases h3 : 0 ≤ c.index
      · by_cases h4 : c.index ≤ 3
        · go_enter Tryz.func57, Tryz.ntmps57
          go_wp2_with (go_at_call 76; refine (nameV_spec _ _ hs).mono ?_; rintro e w' ⟨rfl, rfl⟩)
          go_loopw [5] (fun i wr => ∃ k : Nat, k ≤ c.args.length ∧ i = .int .i64 k ∧ AllTo (argB n (-1)) c.args k ∧ wr.cell? ⟨w.heap.size, 1, none⟩ = some (.slice A c.args.length cap) ∧ w.heap.size < wr.heap.size ∧ Below w.heap.size w wr) (fun i _ => c.args.length - (intOf i).toNat)
          case atStart => exact ⟨0, by omega, rfl, AllTo.zero _ _, by simp [go_sem], by simp, HB.out _⟩
          case round =>
            obtain ⟨k, hk, rfl, hu, b1, hlw, hb⟩ := hrel
            by_cases hlt : k < c.args.length
            · obtain ⟨b, off, rfl, hbB, c0, c1⟩ := (Hr.out.below hb (Nat.le_refl _)).2 k hlt
              by_cases he : argB n (-1) c.args[k] = true
              · go_wp2_with (go_at_call 59; refine (arg_any _ _ _ _).mono ?_; rintro e w1 ⟨rfl, hb1⟩; have hb2 := hb.trans (hb1.mono hb.size); have b2 := (hb1.cell (p := ⟨w.heap.size, 1, none⟩) hlw).trans b1; have hlw2 := Nat.lt_of_lt_of_le hlw hb1.size)
                go_roundw
                case rel => exact ⟨k + 1, by omega, by go_num, hu.step hlt he, b2, hlw2, hb2⟩
                case measure => simp [intOf]; omega
              · have he' : argB n (-1) c.args[k] = false := by simpa using he
                have HE := Lib.hid (ctor_bad (n := n) (all_bad hlt he'))
                clear he
                go_wp2_with (go_at_call 59; refine (arg_any _ _ _ _).mono ?_; rintro e w1 ⟨rfl, hb1⟩; have hb2 := hb.trans (hb1.mono hb.size))
                go_ret
                exact ⟨ret_bool HE.out, hb2⟩
            · go_wp2_with fail
              go_ret
              exact ⟨ret_bool (ctor_good h1 h2 ⟨h3, h4⟩ (hu.all (by omega))), hb⟩
        · have H := Lib.hid (ctor_index (n := n) (c := c) (by omega))
          go_enter Tryz.func57, Tryz.ntmps57
          go_wp2_with (go_at_call 76; refine (nameV_spec _ _ hs).mono ?_; rintro e w' ⟨rfl, rfl⟩)
          go_ret
          exact ⟨ret_bool H.out, HB.out _⟩
      · have H := Lib.hid (ctor_index (n := n) (c := c) (by omega))
        go_enter Tryz.func57, Tryz.ntmps57
        go_wp2_with (go_at_call 76; refine (nameV_spec _ _ hs).mono ?_; rintro e w' ⟨rfl, rfl⟩)
        go_ret
        exact ⟨ret_bool H.out, HB.out _⟩
    · have H := Lib.hid (ctor_args (n := n) h2)
      have h2' : (3 : Int) < c.args.length := by omega
      go_enter Tryz.func57, Tryz.ntmps57
      go_wp2_with (go_at_call 76; refine (nameV_spec _ _ hs).mono ?_; rintro e w' ⟨rfl, rfl⟩)
      go_ret
      exact ⟨ret_bool H.out, HB.out _⟩
  · have h1' : nameB c.name = false := by simpa using h1
    clear h1
    go_enter Tryz.func57, Tryz.ntmps57
    go_wp2_with (go_at_call 76; refine (nameV_spec _ _ hs).mono ?_; rintro e w' ⟨rfl, rfl⟩)
    go_ret
    exact ⟨ret_bool (ctor_name h1'), HB.out _⟩
theorem btw_t {i : Int} (h1 : 0 ≤ i) (h2 : i ≤ 3) : btw 0 i = true := decide_eq_true ⟨h1, h2⟩
theorem btw_f {i : Int} (h : ¬ (0 ≤ i ∧ i ≤ 3)) : btw 0 i = false := decide_eq_false h
set_option maxHeartbeats 800000 in
theorem ctorValid_any (c : Ct) (A : Option Addr) (cap : Nat) (n : Int) (w : World) (hs : c.name.size ≤ maxLen) (hr : RTys w w.heap.size A c.args) :
    Calls Tryz.prog 99 #[.agg #[.string c.name, .slice A c.args.length cap, .int .i64 c.index], .int .i64 n] w fun e w' => e = .returned (.bool (ctorB n c)) ∧ Below w.heap.size w w' := by
  have hn := hr.1
  unfold maxLen at hn
  have Hr := Lib.hid hr
  clear hr
  have HB : Hid (∀ o : Obj, Below w.heap.size w (w.alloc o)) := fun o => (Below.refl _ _).alloc (Nat.le_refl _) _
  by_cases h1 : nameB c.name = true
  · by_cases h2 : c.args.length ≤ 3
    · by_cases h3 : 0 ≤ c.index ∧ c.index ≤ 3
      · have hb0 := btw_t h3.1 h3.2
        have H3 := Lib.hid h3
        clear h3
        go_enter Tryz.func99, Tryz.ntmps99
        go_wp2_with (first | (go_at_call 105; refine (nameV_impl _ _ hs).mono ?_; rintro e w' ⟨rfl, rfl⟩) | (go_at_call 83; refine (between_any _ _ _).mono ?_; rintro e w' ⟨rfl, rfl⟩))
        go_loopw [26] (fun i wr => ∃ k : Nat, k ≤ c.args.length ∧ i = .int .i64 k ∧ AllTo (argB n (-1)) c.args k ∧ Below w.heap.size w wr) (fun i _ => c.args.length - (intOf i).toNat)
        case atStart => exact ⟨0, by omega, rfl, AllTo.zero _ _, HB.out _⟩
        case round =>
          obtain ⟨k, hk, rfl, hu, hb⟩ := hrel
          by_cases hlt : k < c.args.length
          · obtain ⟨b, off, rfl, hbB, c0, c1⟩ := (Hr.out.below hb (Nat.le_refl _)).2 k hlt
            by_cases he : argB n (-1) c.args[k] = true
            · go_wp2_with (go_at_call 67; refine (within_any _ _ _ _ _).mono ?_; rintro e w1 ⟨rfl, hb1⟩; have hb2 := hb.trans ((below_one hb1).mono hb.size))
              go_roundw
              case rel => exact ⟨k + 1, by omega, by go_num, hu.step hlt he, hb2⟩
              case measure => simp [intOf]; omega
            · have he' : argB n (-1) c.args[k] = false := by simpa using he
              have HE := Lib.hid (ctor_bad (n := n) (all_bad hlt he'))
              clear he
              go_wp2_with (go_at_call 67; refine (within_any _ _ _ _ _).mono ?_; rintro e w1 ⟨rfl, hb1⟩; have hb2 := hb.trans ((below_one hb1).mono hb.size))
              go_ret
              exact ⟨ret_bool HE.out, hb2⟩
          · go_wp2_with fail
            go_ret
            exact ⟨ret_bool (ctor_good h1 h2 H3.out (hu.all (by omega))), hb⟩
      · have H := Lib.hid (ctor_index (n := n) h3)
        have hb0 := btw_f h3
        clear h3
        go_enter Tryz.func99, Tryz.ntmps99
        go_wp2_with (first | (go_at_call 105; refine (nameV_impl _ _ hs).mono ?_; rintro e w' ⟨rfl, rfl⟩) | (go_at_call 83; refine (between_any _ _ _).mono ?_; rintro e w' ⟨rfl, rfl⟩))
        go_ret
        exact ⟨ret_bool H.out, HB.out _⟩
    · have H := Lib.hid (ctor_args (n := n) h2)
      have h2' : (3 : Int) < c.args.length := by omega
      go_enter Tryz.func99, Tryz.ntmps99
      go_wp2_with (go_at_call 105; refine (nameV_impl _ _ hs).mono ?_; rintro e w' ⟨rfl, rfl⟩)
      go_ret
      exact ⟨ret_bool H.out, HB.out _⟩
  · have h1' : nameB c.name = false := by simpa using h1
    clear h1
    go_enter Tryz.func99, Tryz.ntmps99
    go_wp2_with (go_at_call 105; refine (nameV_impl _ _ hs).mono ?_; rintro e w' ⟨rfl, rfl⟩)
    go_ret
    exact ⟨ret_bool (ctor_name h1'), HB.out _⟩
theorem data_name {n : Int} {d : Da} (h : dnameB d.name = false) : false = dataB n d := by unfold dataB; rw [h]; rfl
theorem data_len {n : Int} {d : Da} (h : ¬ (1 ≤ d.ctors.length ∧ d.ctors.length ≤ 4)) : false = dataB n d := by unfold dataB; rw [decide_eq_false h]; simp
theorem data_bad {n : Int} {d : Da} (h : d.ctors.all (ctorB n) = false) : false = dataB n d := by unfold dataB; rw [h]; simp
theorem data_good {n : Int} {d : Da} (h1 : dnameB d.name = true) (h2 : 1 ≤ d.ctors.length ∧ d.ctors.length ≤ 4) (h : d.ctors.all (ctorB n) = true) : true = dataB n d := by
  unfold dataB; rw [h, h1, decide_eq_true h2]; rfl
theorem dname_f_i {s : ByteArray} (h : s.toList = [73]) : dnameB s = false := by unfold dnameB; rw [show decide (¬ s.toList = [73]) = false from decide_eq_false (fun hne => hne h)]; simp
theorem dname_f_u {s : ByteArray} (h1 : s.size = 1) (h0 : 0 < s.size) (h : upB (s[0]'h0).toNat = false) : dnameB s = false := by rw [dname_one h1 h0, h]; rfl
theorem dname_t {s : ByteArray} (h1 : s.size = 1) (h0 : 0 < s.size) (h : upB (s[0]'h0).toNat = true) (h2 : ¬ s.toList = [73]) : dnameB s = true := by rw [dname_one h1 h0, h, decide_eq_true h2]; rfl
set_option maxHeartbeats 1200000 in
theorem dataValid_any (d : Da) (A : Option Addr) (cap : Nat) (n : Int) (w : World) (hs : d.name.size ≤ maxLen) (hr : RCts w w.heap.size A d.ctors) :
    Calls Tryz.prog 81 #[.agg #[.string d.name, .slice A d.ctors.length cap], .int .i64 n] w fun e w' => e = .returned (.bool (dataB n d)) ∧ Below w.heap.size w w' := by
  have hn := hr.1
  unfold maxLen at hn
  have hs' := hs
  unfold maxLen at hs'
  have Hr := Lib.hid hr
  clear hr
  have HB : Hid (∀ o : Obj, Below w.heap.size w (w.alloc o)) := fun o => (Below.refl _ _).alloc (Nat.le_refl _) _
  by_cases h1 : d.name.size = 1
  · have h0 : 0 < d.name.size := by omega
    have q : ((d.name.size : Int) != 1) = false := by rw [bne, beq_iff_eq.2 (by omega)]; rfl
    have H1 := Lib.hid h1
    clear h1
    by_cases hu : upB (d.name[0]'h0).toNat = true
    · by_cases hi : d.name.toList = [73]
      · have q2 : (d.name.toList == [73]) = true := by rw [hi]; rfl
        have HI := Lib.hid (data_name (n := n) (dname_f_i hi))
        clear hi
        go_enter Tryz.func81, Tryz.ntmps81
        go_wp2_with (go_at_call 98; refine (isUpper_any _ _).mono ?_; rintro e w' ⟨rfl, rfl⟩)
        go_ret
        exact ⟨ret_bool HI.out, HB.out _⟩
      · have q2 : (d.name.toList == [73]) = false := beq_eq_false_iff_ne.2 hi
        have HD := Lib.hid (dname_t H1.out h0 hu hi)
        clear hi
        by_cases h2 : 1 ≤ d.ctors.length
        · by_cases h3 : d.ctors.length ≤ 4
          · go_enter Tryz.func81, Tryz.ntmps81
            go_wp2_with (go_at_call 98; refine (isUpper_any _ _).mono ?_; rintro e w' ⟨rfl, rfl⟩)
            go_loopw [36] (fun i wr => ∃ k : Nat, k ≤ d.ctors.length ∧ i = .int .i64 k ∧ AllTo (ctorB n) d.ctors k ∧ Below w.heap.size w wr) (fun i _ => d.ctors.length - (intOf i).toNat)
            case atStart => exact ⟨0, by omega, rfl, AllTo.zero _ _, HB.out _⟩
            case round =>
              obtain ⟨k, hk, rfl, hv, hb⟩ := hrel
              by_cases hlt : k < d.ctors.length
              · obtain ⟨b, off, rfl, hbB, A', cp, c0, c1, c2, hsz, hm⟩ := (Hr.out.below hb (Nat.le_refl _)).2 k hlt
                have Hm := Lib.hid hm
                clear hm
                have hbs := hb.size
                by_cases he : ctorB n d.ctors[k] = true
                · go_wp2_with (go_at_call 99; refine (ctorValid_any d.ctors[k] _ _ _ _ hsz (by exact Hm.out.keep (fun p hp => keep_one _ p (by omega)) (by simp; omega))).mono ?_; rintro e w1 ⟨rfl, hb1⟩; have hb2 := hb.trans ((below_one hb1).mono hb.size))
                  go_roundw
                  case rel => exact ⟨k + 1, by omega, by go_num, hv.step hlt he, hb2⟩
                  case measure => simp [intOf]; omega
                · have he' : ctorB n d.ctors[k] = false := by simpa using he
                  have HE := Lib.hid (data_bad (n := n) (all_bad hlt he'))
                  clear he
                  go_wp2_with (go_at_call 99; refine (ctorValid_any d.ctors[k] _ _ _ _ hsz (by exact Hm.out.keep (fun p hp => keep_one _ p (by omega)) (by simp; omega))).mono ?_; rintro e w1 ⟨rfl, hb1⟩; have hb2 := hb.trans ((below_one hb1).mono hb.size))
                  go_ret
                  exact ⟨ret_bool HE.out, hb2⟩
              · go_wp2_with fail
                go_ret
                exact ⟨ret_bool (data_good HD.out ⟨h2, h3⟩ (hv.all (by omega))), hb⟩
          · have H := Lib.hid (data_len (n := n) (d := d) (by omega))
            have h3' : (4 : Int) < d.ctors.length := by omega
            go_enter Tryz.func81, Tryz.ntmps81
            go_wp2_with (go_at_call 98; refine (isUpper_any _ _).mono ?_; rintro e w' ⟨rfl, rfl⟩)
            go_ret
            exact ⟨ret_bool H.out, HB.out _⟩
        · have H := Lib.hid (data_len (n := n) (d := d) (by omega))
          have h2' : (d.ctors.length : Int) < 1 := by omega
          go_enter Tryz.func81, Tryz.ntmps81
          go_wp2_with (go_at_call 98; refine (isUpper_any _ _).mono ?_; rintro e w' ⟨rfl, rfl⟩)
          go_ret
          exact ⟨ret_bool H.out, HB.out _⟩
    · have hu' : upB (d.name[0]'h0).toNat = false := by simpa using hu
      have H := Lib.hid (data_name (n := n) (dname_f_u H1.out h0 hu'))
      clear hu
      go_enter Tryz.func81, Tryz.ntmps81
      go_wp2_with (go_at_call 98; refine (isUpper_any _ _).mono ?_; rintro e w' ⟨rfl, rfl⟩)
      go_ret
      exact ⟨ret_bool H.out, HB.out _⟩
  · have q : ((d.name.size : Int) != 1) = true := by rw [bne, beq_eq_false_iff_ne.2 (by omega)]; rfl
    have H := Lib.hid (data_name (n := n) (dname_size h1))
    clear h1
    go_enter Tryz.func81, Tryz.ntmps81
    go_wp2_with fail
    go_ret
    exact ⟨ret_bool H.out, HB.out _⟩
end Go.Proofs.YtbdiahnelnbdnaaGreat
/-
  A map from strings to bools that the call itself has made, as a set of strings. No statement is proved here.
-/
namespace Go.Proofs.YtbdiahnelnbdnaaGreat
open Go.RowKit Go.Maps
set_option maxRecDepth 100000
set_option linter.unusedVariables false
/-- Does it hold? -/
noncomputable def dec (p : Prop) : Bool := @decide p (Classical.propDecidable _)
theorem dec_t {p : Prop} (h : p) : dec p = true := by unfold dec; simp [h]
theorem dec_f {p : Prop} (h : ¬ p) : dec p = false := by unfold dec; simp [h]
theorem dec_congr {p q : Prop} (h : p ↔ q) : dec p = dec q := by
  by_cases hp : p
  · rw [dec_t hp, dec_t (h.1 hp)]
  · rw [dec_f hp, dec_f (fun hq => hp (h.2 hq))]
def MapSet (w : World) (b n : Nat) (S : List UInt8 → Prop) : Prop :=
  ∃ D : DataW Unit, w.ownsMap Tryz.prog 9 (plainElem Tryz.prog 4) b n D ∧ IsMap D ∧ ∀ s : List UInt8, D.atKey (.string s) (.lit (.bool false)) = .lit (.bool (dec (S s)))
theorem zero4 (w : World) : (zeroValue 4).run Tryz.prog w = .ok (.bool false) w := by kernel_rfl
theorem keyStr {s : ByteArray} (h : s.size ≤ maxLen) : keyOf Tryz.prog 9 (.string s) = some (.string s.data.toList) := Go.WideMaps.keyOf_string_mk Tryz.underlying9 h
theorem MapSet.made (w : World) : MapSet (w.alloc (.map #[] 0)) w.heap.size 0 (fun _ => False) :=
  ⟨.map [], World.ownsMap_made _ _ _ _, ⟨[], rfl⟩, fun s => by rw [dec_f (fun h => h)]; rfl⟩
theorem MapSet.lt {w : World} {b n : Nat} {S : List UInt8 → Prop} (h : MapSet w b n S) : b < w.heap.size := by
  obtain ⟨D, ho, _⟩ := h; exact ho.lt
theorem MapSet.keep {w w' : World} {b n n' : Nat} {S S' : List UInt8 → Prop} (h : MapSet w b n S) (hb : w'.heap[b]? = w.heap[b]?) (hn : n ≤ n') (hS : ∀ s, S s ↔ S' s) : MapSet w' b n' S' := by
  obtain ⟨D, ⟨es, clock, h1, h2, h3, h4⟩, hm, hat⟩ := h
  exact ⟨D, ⟨es, clock, hb.trans h1, h2, by omega, h4⟩, hm, fun s => by rw [hat s, dec_congr (hS s)]⟩
theorem MapSet.look {w : World} {b n : Nat} {S : List UInt8 → Prop} (h : MapSet w b n S) {s : ByteArray} (hs : s.size ≤ maxLen) : (Instr.lookup 136 (.map (some b)) (.string s) false).run Tryz.prog w = .ok (.bool (dec (S s.data.toList))) w := by
  obtain ⟨D, ho, hm, hat⟩ := h
  obtain ⟨v, ps, hrun, hv⟩ := ho.lookup (string_keyed Tryz.underlying9) Tryz.underlying136 (zero4 w) (zd := .lit (.bool false)) (zp := []) (plainElem_bool Tryz.underlying4 false) (keyStr hs)
  rw [hat] at hv
  have : v = .bool (dec (S s.data.toList)) := by
    unfold plainElem at hv
    rw [Tryz.underlying4] at hv
    cases v <;> simp at hv
    rw [hv.1]
  rw [hrun, this]
theorem MapSet.put {w : World} {b n : Nat} {D : DataW Unit} {S : List UInt8 → Prop} {s : List UInt8} (ho : w.ownsMap Tryz.prog 9 (plainElem Tryz.prog 4) b n (D.put (.string s) (.lit (.bool true)))) (hm : IsMap D) (hat : ∀ s : List UInt8, D.atKey (.string s) (.lit (.bool false)) = .lit (.bool (dec (S s)))) :
    MapSet w b n (fun t => t = s ∨ S t) := by
  refine ⟨_, ho, ?_, fun t => ?_⟩
  · obtain ⟨es, rfl⟩ := hm
    exact ⟨_, rfl⟩
  · by_cases e : t = s
    · subst e
      rw [atKey_put_same (k := .string t) hm True.intro, dec_t (Or.inl rfl)]
    · rw [atKey_put_other (by intro e'; injection e' with e''; exact e e''), hat, dec_congr (show S t ↔ (t = s ∨ S t) from ⟨Or.inr, fun h => h.resolve_left e⟩)]
end Go.Proofs.YtbdiahnelnbdnaaGreat
/-
  When the names of data types and constructors differ: the program's function. No statement is proved here.
-/
namespace Go.Proofs.YtbdiahnelnbdnaaGreat
open Go.RowKit
set_option maxRecDepth 100000
set_option linter.unusedVariables false
abbrev bs (s : ByteArray) : List UInt8 := s.data.toList
/-- The names of the data types before place k; the names of the constructors before place j of data type k. -/
def SD (l : List Da) (k : Nat) (t : List UInt8) : Prop := ∃ i, ∃ h : i < l.length, i < k ∧ bs l[i].name = t
def SC (l : List Da) (k j : Nat) (t : List UInt8) : Prop := ∃ i, ∃ h : i < l.length, ∃ m, ∃ hm : m < l[i].ctors.length, (i < k ∨ (i = k ∧ m < j)) ∧ bs l[i].ctors[m].name = t
theorem SD.zero (l : List Da) (t : List UInt8) : False ↔ SD l 0 t := ⟨False.elim, fun ⟨i, _, h, _⟩ => absurd h (by omega)⟩
theorem SC.zero (l : List Da) (t : List UInt8) : False ↔ SC l 0 0 t := ⟨False.elim, fun ⟨i, _, m, _, h, _⟩ => by omega⟩
theorem SD.succ (l : List Da) (k : Nat) (hk : k < l.length) (t : List UInt8) : (t = bs l[k].name ∨ SD l k t) ↔ SD l (k + 1) t := by
  constructor
  · rintro (rfl | ⟨i, h, h1, h2⟩)
    · exact ⟨k, hk, by omega, rfl⟩
    · exact ⟨i, h, by omega, h2⟩
  · rintro ⟨i, h, h1, h2⟩
    by_cases e : i = k
    · subst e; exact .inl h2.symm
    · exact .inr ⟨i, h, by omega, h2⟩
theorem SC.succ (l : List Da) (k j : Nat) (hk : k < l.length) (hj : j < l[k].ctors.length) (t : List UInt8) : (t = bs l[k].ctors[j].name ∨ SC l k j t) ↔ SC l k (j + 1) t := by
  constructor
  · rintro (rfl | ⟨i, h, m, hm, h1, h2⟩)
    · exact ⟨k, hk, j, hj, .inr ⟨rfl, by omega⟩, rfl⟩
    · exact ⟨i, h, m, hm, by omega, h2⟩
  · rintro ⟨i, h, m, hm, h1, h2⟩
    by_cases e : i = k ∧ m = j
    · obtain ⟨rfl, rfl⟩ := e; exact .inl h2.symm
    · exact .inr ⟨i, h, m, hm, by omega, h2⟩
theorem SC.next (l : List Da) (k : Nat) (hk : k < l.length) (t : List UInt8) : SC l k l[k].ctors.length t ↔ SC l (k + 1) 0 t := by
  constructor
  · rintro ⟨i, h, m, hm, h1, h2⟩
    exact ⟨i, h, m, hm, by omega, h2⟩
  · rintro ⟨i, h, m, hm, h1, h2⟩
    refine ⟨i, h, m, hm, ?_, h2⟩
    by_cases e : i = k
    · subst e; exact .inr ⟨rfl, hm⟩
    · omega
/-- The names from data type d on that are new. -/
def NewC (l : List Da) (d : Nat) (hd : d < l.length) (k : Nat) : Prop := ∀ j (h : j < l[d].ctors.length), j < k → ¬ SC l d j (bs l[d].ctors[j].name)
def NewD (l : List Da) (k : Nat) : Prop := ∀ d (h : d < l.length), d < k → ¬ SD l d (bs l[d].name) ∧ NewC l d h l[d].ctors.length
def Differ (l : List Da) : Prop := NewD l l.length
theorem NewC.zero (l : List Da) (d : Nat) (hd : d < l.length) : NewC l d hd 0 := fun j _ h => absurd h (by omega)
theorem NewC.step {l : List Da} {d : Nat} {hd : d < l.length} {k : Nat} (h : NewC l d hd k) (hk : k < l[d].ctors.length) (e : ¬ SC l d k (bs l[d].ctors[k].name)) : NewC l d hd (k + 1) := by
  intro j hj hjk
  by_cases e' : j = k
  · subst e'; exact e
  · exact h j hj (by omega)
theorem NewD.zero (l : List Da) : NewD l 0 := fun j _ h => absurd h (by omega)
theorem NewD.step {l : List Da} {k : Nat} (h : NewD l k) (hk : k < l.length) (e : ¬ SD l k (bs l[k].name)) (e2 : NewC l k hk l[k].ctors.length) : NewD l (k + 1) := by
  intro d hd hdk
  by_cases e' : d = k
  · subst e'; exact ⟨e, e2⟩
  · exact h d hd (by omega)
theorem not_differ_d {l : List Da} {k : Nat} (hk : k < l.length) (e : SD l k (bs l[k].name)) : ¬ Differ l := fun h => (h k hk hk).1 e
theorem not_differ_c {l : List Da} {k j : Nat} (hk : k < l.length) (hj : j < l[k].ctors.length) (e : SC l k j (bs l[k].ctors[j].name)) : ¬ Differ l := fun h => (h k hk hk).2 j hj hj e
theorem MapSet.at_ {w w' : World} {b n : Nat} {S : List UInt8 → Prop} (h : MapSet w b n S) (hb : Below w.heap.size w w') : MapSet w' b n S := h.keep (hb.block b h.lt) (Nat.le_refl _) (fun _ => Iff.rfl)
set_option maxHeartbeats 1600000 in
theorem namesDiffer_any (A : Option Addr) (l : List Da) (cap : Nat) (w : World) (hr : RDas w w.heap.size A l) (h4 : l.length ≤ 4) (h44 : ∀ d (h : d < l.length), l[d].ctors.length ≤ 4) :
    Calls Tryz.prog 82 #[.slice A l.length cap] w fun e w' => e = .returned (.bool (dec (Differ l))) ∧ Below w.heap.size w w' := by
  have Hr := Lib.hid hr
  have H44 := Lib.hid h44
  clear hr h44
  have hmm := @run_makeMap Tryz.prog
  go_enter Tryz.func82, Tryz.ntmps82
  go_wp2_with fail
  go_loopw [13] (fun i wr => ∃ k : Nat, k ≤ l.length ∧ i = .int .i64 k ∧ NewD l k ∧ MapSet wr w.heap.size k (SD l k) ∧ MapSet wr (w.heap.size + 1) (4 * k) (SC l k 0) ∧ Below w.heap.size w wr) (fun i _ => l.length - (intOf i).toNat)
  case atStart =>
    have m1 : MapSet ((w.alloc (.map #[] 0)).alloc (.map #[] 0)) w.heap.size 0 (SD l 0) := (MapSet.made w).keep (Below.heap_alloc _ _ _ (by simp)) (Nat.le_refl _) (SD.zero l)
    have m2 : MapSet ((w.alloc (.map #[] 0)).alloc (.map #[] 0)) (w.heap.size + 1) 0 (SC l 0 0) := by
      have := (MapSet.made (w.alloc (.map #[] 0))).keep (w' := (w.alloc (.map #[] 0)).alloc (.map #[] 0)) (S' := SC l 0 0) rfl (Nat.le_refl _) (SC.zero l)
      rwa [World.size_alloc] at this
    exact ⟨0, by omega, rfl, NewD.zero l, m1, m2, ((Below.refl _ _).alloc (Nat.le_refl _) _).alloc (by simp) _⟩
  case round =>
    obtain ⟨k, hk, rfl, hnew, hs1, hs2, hb⟩ := hrel
    clear hmm
    by_cases hlt : k < l.length
    · obtain ⟨b, off, rfl, hbB, A', cp, c0, c1, hsz, hm⟩ := (Hr.out.below hb (Nat.le_refl _)).2 k hlt
      have hk4 := H44.out k hlt
      have Hm := Lib.hid (hm.keep (w' := w) (fun p hp => (hb.cell hp).symm) (Nat.le_refl _))
      clear hm
      have hbs := hb.size
      have hl0 := hs1.lt
      have hl1 := hs2.lt
      have HS1 := Lib.hid hs1
      have HS2 := Lib.hid hs2
      clear hs1 hs2
      have hlook : ∀ o : Obj, (Instr.lookup 136 (.map (some w.heap.size)) (.string l[k].name) false).run Tryz.prog (wr.alloc o) = .ok (.bool (dec (SD l k (bs l[k].name)))) (wr.alloc o) := fun o => (HS1.out.keep (w' := wr.alloc o) (Below.heap_alloc wr o _ HS1.out.lt) (Nat.le_refl _) (fun _ => Iff.rfl)).look hsz
      by_cases hin : SD l k (bs l[k].name)
      · have hd := dec_t hin
        have HI := Lib.hid hin
        clear hin
        go_wp2_with fail
        go_ret
        exact ⟨ret_bool (dec_f (not_differ_d hlt HI.out)).symm, hb.alloc (by omega) _⟩
      · have hd := dec_f hin
        have HI := Lib.hid hin
        clear hin
        obtain ⟨D, ho, hmD, hat⟩ := HS1.out
        have HA := Lib.hid hat
        have HO := Lib.hid ho
        have HM := Lib.hid hmD
        clear hat ho hmD
        have hkm : k < maxLen := by unfold maxLen; omega
        go_wp2_with (at_mapUpdate; refine wpList_mapUpdate_own _ rfl _ _ _ 136 rfl 9 4 (Go.Maps.string_keyed Tryz.underlying9) Tryz.underlying136 (plainElem Tryz.prog 4) w.heap.size k D rfl (HO.out.alloc _) hkm _ _ (.string (bs l[k].name)) rfl rfl (keyStr hsz) (.lit (.bool true)) [] (plainElem_bool Tryz.underlying4 true) ?_; intro w1 ho1 hg1; have e1 : w1.cell? ⟨wr.heap.size, 1, none⟩ = some (.slice A' l[k].ctors.length cp) := (World.cell?_of_block (a := ⟨wr.heap.size, 1, none⟩) (hg1.block wr.heap.size (by simp) (fun e => by injection e with e; omega))).trans (by simp [go_sem]))
        have hb1 : Below w.heap.size w w1 := (hb.alloc (by omega) _).grown hg1 (by simp; omega) (fun g e => by injection e with e; omega)
        have s1 := (MapSet.put ho1 HM.out HA.out).keep (w' := w1) rfl (Nat.le_refl _) (SD.succ l k hlt)
        have s2 : MapSet w1 (w.heap.size + 1) (4 * k) (SC l k 0) := HS2.out.keep (by have hl2 := HS2.out.lt; exact (hg1.block (w.heap.size + 1) (by simp; omega) (fun e => by injection e with e; omega)).trans (Below.heap_alloc _ _ _ hl2)) (Nat.le_refl _) (fun _ => Iff.rfl)
        have HS1' := Lib.hid s1
        have HS2' := Lib.hid s2
        have HN := Lib.hid hnew
        clear s1 s2 ho1 hlook hd hnew HS1 HS2 HA HO HM hg1 c0 c1
        go_loopw [27] (fun i wi => ∃ j : Nat, j ≤ l[k].ctors.length ∧ i = .int .i64 j ∧ NewC l k hlt j ∧ MapSet wi w.heap.size (k + 1) (SD l (k + 1)) ∧ MapSet wi (w.heap.size + 1) (4 * k + j) (SC l k j) ∧ Below w.heap.size w wi) (fun i _ => l[k].ctors.length - (intOf i).toNat)
        case atStart => exact ⟨0, by omega, rfl, NewC.zero l k hlt, HS1'.out, HS2'.out, hb1⟩
        case round =>
          obtain ⟨j, hj, rfl, hnc, hs1, hs2, hbi⟩ := hrel
          clear hb hb1 hbs HS1' HS2'
          by_cases hjt : j < l[k].ctors.length
          · obtain ⟨g, o, rfl, hgB, D1, ep, f0, f1, f2, hsz2, _⟩ := (Hm.out.below hbi (Nat.le_refl _)).2 j hjt
            have hbs := hbi.size
            have HS1 := Lib.hid hs1
            have HS2 := Lib.hid hs2
            clear hs1 hs2
            have hlook : ∀ o : Obj, (Instr.lookup 136 (.map (some (w.heap.size + 1))) (.string l[k].ctors[j].name) false).run Tryz.prog (wr.alloc o) = .ok (.bool (dec (SC l k j (bs l[k].ctors[j].name)))) (wr.alloc o) := fun o => (HS2.out.keep (w' := wr.alloc o) (Below.heap_alloc wr o _ HS2.out.lt) (Nat.le_refl _) (fun _ => Iff.rfl)).look hsz2
            by_cases hin : SC l k j (bs l[k].ctors[j].name)
            · have hd := dec_t hin
              have HI2 := Lib.hid hin
              clear hin
              go_wp2_with fail
              go_ret
              exact ⟨ret_bool (dec_f (not_differ_c hlt hjt HI2.out)).symm, hbi.alloc (by omega) _⟩
            · have hd := dec_f hin
              have HI2 := Lib.hid hin
              clear hin
              obtain ⟨D, ho, hmD, hat⟩ := HS2.out
              have HA := Lib.hid hat
              have HO := Lib.hid ho
              have HM := Lib.hid hmD
              clear hat ho hmD
              have hkm : 4 * k + j < maxLen := by unfold maxLen; omega
              go_wp2_with (at_mapUpdate; refine wpList_mapUpdate_own _ rfl _ _ _ 136 rfl 9 4 (Go.Maps.string_keyed Tryz.underlying9) Tryz.underlying136 (plainElem Tryz.prog 4) (w.heap.size + 1) (4 * k + j) D rfl (HO.out.alloc _) hkm _ _ (.string (bs l[k].ctors[j].name)) rfl rfl (keyStr hsz2) (.lit (.bool true)) [] (plainElem_bool Tryz.underlying4 true) ?_; intro w1 ho1 hg1)
              have hb1 : Below w.heap.size w w1 := (hbi.alloc (by omega) _).grown hg1 (by simp; omega) (fun g e => by injection e with e; omega)
              have s2 := (MapSet.put ho1 HM.out HA.out).keep (w' := w1) (n' := 4 * k + (j + 1)) rfl (by omega) (SC.succ l k j hlt hjt)
              have s1 : MapSet w1 w.heap.size (k + 1) (SD l (k + 1)) := HS1.out.keep (by have hl2 := HS1.out.lt; exact (hg1.block w.heap.size (by simp; omega) (fun e => by injection e with e; omega)).trans (Below.heap_alloc _ _ _ hl2)) (Nat.le_refl _) (fun _ => Iff.rfl)
              clear ho1 hlook hd HS1 HS2 HA HO HM hg1
              go_roundw
              case rel => exact ⟨j + 1, by omega, by go_num, hnc.step hjt HI2.out, s1, s2, hb1⟩
              case measure => simp [intOf]; omega
          · have hje : j = l[k].ctors.length := by omega
            have s2 : MapSet wr (w.heap.size + 1) (4 * (k + 1)) (SC l (k + 1) 0) := hs2.keep rfl (by omega) (fun t => by rw [hje]; exact SC.next l k hlt t)
            have HJ : Hid (NewC l k hlt l[k].ctors.length) := by unfold Hid; rw [← hje]; exact hnc
            clear hje hs2
            go_wp2_with fail
            go_roundw
            case rel => exact ⟨k + 1, by omega, by go_num, HN.out.step hlt HI.out HJ.out, hs1, s2, hbi⟩
            case measure => simp [intOf]; omega
    · go_wp2_with fail
      go_ret
      exact ⟨ret_bool (dec_t (fun d h _ => hnew d h (by omega))).symm, hb⟩
end Go.Proofs.YtbdiahnelnbdnaaGreat
/-
  When a name stands twice: the document's function. No statement is proved here.
-/
namespace Go.Proofs.YtbdiahnelnbdnaaGreat
open Go.RowKit
set_option maxRecDepth 100000
set_option linter.unusedVariables false
theorem toList_inj {a b : ByteArray} (h : a.toList = b.toList) : a = b := Go.WideShapes.bytes_inj (by rw [← ByteArray.toList_eq, ← ByteArray.toList_eq]; exact h)
theorem str_eq_f {a b : ByteArray} (h : ¬ a = b) : (a.toList == b.toList) = false := beq_eq_false_iff_ne.2 (fun e => h (toList_inj e))
theorem below_drawn {B : Nat} {w wr : World} (h : Below B w wr) (n : Nat) : Below B w (wr.drewN n) := ⟨h.os, h.tape, h.output, h.size, h.block⟩
def Tw (l : List Da) (d k : Nat) : Prop := ∃ h : d < l.length, SD l d (bs l[d].name) ∨ ∃ hk : k < l[d].ctors.length, SC l d k (bs l[d].ctors[k].name)
/-- Nothing before data type i is a twin; nothing of it before place j. -/
def NoT (l : List Da) (d : Nat) (hd : d < l.length) (k : Nat) (hk : k < l[d].ctors.length) (i : Nat) : Prop :=
  ∀ a (h : a < l.length), a < i → (a < d → ¬ l[a].name = l[d].name) ∧ ∀ m (hm : m < l[a].ctors.length), (a < d ∨ (a = d ∧ m < k)) → ¬ l[a].ctors[m].name = l[d].ctors[k].name
def NoTI (l : List Da) (d : Nat) (hd : d < l.length) (k : Nat) (hk : k < l[d].ctors.length) (i : Nat) (hi : i < l.length) (j : Nat) : Prop :=
  ∀ m (hm : m < l[i].ctors.length), m < j → (i < d ∨ (i = d ∧ m < k)) → ¬ l[i].ctors[m].name = l[d].ctors[k].name
section
variable {l : List Da} {d : Nat} {hd : d < l.length} {k : Nat} {hk : k < l[d].ctors.length} {i : Nat} {hi : i < l.length} {j : Nat}
theorem NoT.zero : NoT l d hd k hk 0 := fun a _ h => absurd h (by omega)
theorem NoTI.zero : NoTI l d hd k hk i hi 0 := fun a _ h => absurd h (by omega)
theorem NoT.step (h : NoT l d hd k hk i) (h1 : i < d → ¬ l[i].name = l[d].name) (h2 : ∀ m (hm : m < l[i].ctors.length), (i < d ∨ (i = d ∧ m < k)) → ¬ l[i].ctors[m].name = l[d].ctors[k].name) : NoT l d hd k hk (i + 1) := by
  intro a ha hai
  by_cases e : a = i
  · subst e; exact ⟨h1, h2⟩
  · exact h a ha (by omega)
theorem NoTI.step (h : NoTI l d hd k hk i hi j) (hj : j < l[i].ctors.length) (e : ¬ l[i].ctors[j].name = l[d].ctors[k].name) : NoTI l d hd k hk i hi (j + 1) := by
  intro m hm hmj hc
  by_cases e' : m = j
  · subst e'; exact e
  · exact h m hm (by omega) hc
theorem NoT.done (h : NoT l d hd k hk (d + 1)) : ¬ Tw l d k := by
  rintro ⟨_, ⟨a, ha, had, e⟩ | ⟨_, a, ha, m, hm, hc, e⟩⟩
  · exact (h a ha (by omega)).1 had (Go.WideShapes.bytes_inj e)
  · exact (h a ha (by omega)).2 m hm hc (Go.WideShapes.bytes_inj e)
theorem tw_d (hid : i < d) (hi : i < l.length) (hd : d < l.length) (e : l[i].name = l[d].name) : Tw l d k := ⟨hd, .inl ⟨i, hi, hid, by rw [e]⟩⟩
theorem tw_c (hi : i < l.length) (hd : d < l.length) (hk : k < l[d].ctors.length) (hj : j < l[i].ctors.length) (hc : i < d ∨ (i = d ∧ j < k)) (e : l[i].ctors[j].name = l[d].ctors[k].name) : Tw l d k :=
  ⟨hd, .inr ⟨hk, i, hi, j, hj, hc, by rw [e]⟩⟩
end
set_option maxHeartbeats 2000000 in
theorem twice_any (A : Option Addr) (l : List Da) (cap : Nat) (d k : Nat) (hd : d < l.length) (hk : k < l[d].ctors.length) (w : World) (hr : RDas w w.heap.size A l) :
    Calls Tryz.prog 58 #[.slice A l.length cap, .int .i64 d, .int .i64 k] w fun e w' => e = .returned (.bool (dec (Tw l d k))) ∧ Below w.heap.size w w' := by
  have hn := hr.1
  unfold maxLen at hn
  obtain ⟨b, off, rfl, hbB, A', cp, c0, c1, hszd, hmd⟩ := hr.2 d hd
  have hnd := hmd.1
  unfold maxLen at hnd
  obtain ⟨g, o, rfl, hgB, D1, ep, f0, f1, f2, hszk, _⟩ := hmd.2 k hk
  have Hr := Lib.hid hr
  have HMD := Lib.hid hmd
  clear hr hmd
  have HC0 := Lib.hid c0
  have HC1 := Lib.hid c1
  have HF0 := Lib.hid f0
  clear c0 c1 f0 f1 f2
  have hdI : (d : Int) < (l.length : Int) := by omega
  have hkI : (k : Int) < (l[d].ctors.length : Int) := by omega
  go_enter Tryz.func58, Tryz.ntmps58
  go_wp2_with fail
  go_loopw [7] (fun x wr => ∃ i : Nat, i ≤ d + 1 ∧ x = .int .i64 i ∧ NoT l d hd k hk i ∧ Below w.heap.size w wr) (fun x _ => d + 1 - (intOf x).toNat)
  case atStart => exact ⟨0, by omega, rfl, NoT.zero, Below.refl _ _⟩
  case round =>
    obtain ⟨i, hi, rfl, hno, hb⟩ := hrel
    have c0 := (hb.cell (p := ⟨b, off + d * 2, none⟩) hbB).trans HC0.out
    have c1 := (hb.cell (p := ⟨b, off + d * 2 + 1, none⟩) hbB).trans HC1.out
    have f0 := (hb.cell (p := ⟨g, o + k * 3, none⟩) hgB).trans HF0.out
    have HB2 : Hid (∀ n, Below w.heap.size w (wr.drewN n)) := fun n => below_drawn hb n
    by_cases hid : i < d
    · have hil : i < l.length := by omega
      have hiI : (i : Int) < (l.length : Int) := by omega
      obtain ⟨b', off', e', hbB', Ai, cpi, p0, p1, hszi, hmi⟩ := (Hr.out.below hb (Nat.le_refl _)).2 i hil
      cases e'
      have hni := hmi.1
      unfold maxLen at hni
      have Hmi := Lib.hid (hmi.keep (w' := w) (fun p hp => (hb.cell hp).symm) (Nat.le_refl _))
      have HP1 := Lib.hid ((hb.cell (p := ⟨b, off + i * 2 + 1, none⟩) hbB).symm.trans p1)
      clear hmi
      by_cases hne : l[i].name = l[d].name
      · have HT := Lib.hid (tw_d (k := k) hid hil hd hne)
        rw [hne] at p0
        clear hne
        go_wp2_with fail
        go_quiet (fail)
        go_wp2_with fail
        go_ret
        exact ⟨ret_bool (dec_t HT.out).symm, HB2.out _⟩
      · have s1 := str_eq_f hne
        have s1' : ¬ l[i].name.toList = l[d].name.toList := fun e => hne (toList_inj e)
        have HN := Lib.hid hne
        clear hne
        go_wp2_with fail
        go_quiet (fail)
        go_wp2_with fail
        go_loopw [8] (fun x wi => ∃ j : Nat, j ≤ l[i].ctors.length ∧ x = .int .i64 j ∧ NoTI l d hd k hk i hil j ∧ Below w.heap.size w wi) (fun x _ => l[i].ctors.length - (intOf x).toNat)
        case atStart => exact ⟨0, by omega, rfl, NoTI.zero, HB2.out _⟩
        case round =>
          obtain ⟨j, hj, rfl, hni2, hbi⟩ := hrel
          clear c0 c1 f0 p0 p1 HB2 hb s1 s1'
          have c1 := (hbi.cell (p := ⟨b, off + d * 2 + 1, none⟩) hbB).trans HC1.out
          have p1 := (hbi.cell (p := ⟨b, off + i * 2 + 1, none⟩) hbB).trans HP1.out
          have f0 := (hbi.cell (p := ⟨g, o + k * 3, none⟩) hgB).trans HF0.out
          have HB3 : Hid (∀ n, Below w.heap.size w (wr.drewN n)) := fun n => below_drawn hbi n
          by_cases hjt : j < l[i].ctors.length
          · have hjI : (j : Int) < (l[i].ctors.length : Int) := by omega
            obtain ⟨g', o', rfl, hgB', D2, ep2, e0, e1, e2, _, _⟩ := (Hmi.out.below hbi (Nat.le_refl _)).2 j hjt
            clear e1 e2
            by_cases hne : l[i].ctors[j].name = l[d].ctors[k].name
            · have HT := Lib.hid (tw_c hil hd hk hjt (.inl hid) hne)
              rw [hne] at e0
              clear hne
              go_wp2_with fail
              go_quiet (fail)
              go_wp2_with fail
              go_ret
              exact ⟨ret_bool (dec_t HT.out).symm, HB3.out _⟩
            · have s1 := str_eq_f hne
              have s1' : ¬ l[i].ctors[j].name.toList = l[d].ctors[k].name.toList := fun e => hne (toList_inj e)
              have HN2 := Lib.hid hne
              clear hne
              go_wp2_with fail
              go_quiet (fail)
              go_wp2_with fail
              go_roundw
              case rel => exact ⟨j + 1, by omega, by go_num, hni2.step hjt HN2.out, HB3.out _⟩
              case measure => simp [intOf]; omega
          · go_wp2_with fail
            go_roundw
            case rel => exact ⟨i + 1, by omega, by go_num, hno.step (fun _ => HN.out) (fun m hm hc => hni2 m hm (by omega) hc), hbi⟩
            case measure => simp [intOf]; omega
    · by_cases hie : i = d
      · obtain rfl : d = i := hie.symm
        clear hie
        have hdd : decide ((d : Int) < (d : Int)) = false := by simp
        clear c0 f0
        go_wp2_with fail
        go_quiet (fail)
        go_wp2_with fail
        go_loopw [8] (fun x wi => ∃ j : Nat, j ≤ k ∧ x = .int .i64 j ∧ NoTI l d hd k hk d hd j ∧ Below w.heap.size w wi) (fun x _ => k - (intOf x).toNat)
        case atStart => exact ⟨0, by omega, rfl, NoTI.zero, HB2.out _⟩
        case round =>
          obtain ⟨j, hj, rfl, hni2, hbi⟩ := hrel
          clear HB2 hb c1
          have f0 := (hbi.cell (p := ⟨g, o + k * 3, none⟩) hgB).trans HF0.out
          have c1 := (hbi.cell (p := ⟨b, off + d * 2 + 1, none⟩) hbB).trans HC1.out
          have HB3 : Hid (∀ n, Below w.heap.size w (wr.drewN n)) := fun n => below_drawn hbi n
          by_cases hjt : j < k
          · have hjl : j < l[d].ctors.length := by omega
            have hjI : (j : Int) < (l[d].ctors.length : Int) := by omega
            have hjK : (j : Int) < (k : Int) := by omega
            obtain ⟨g', o', e', hgB', D2, ep2, e0, e1, e2, _, _⟩ := (HMD.out.below hbi (Nat.le_refl _)).2 j hjl
            cases e'
            clear e1 e2
            by_cases hne : l[d].ctors[j].name = l[d].ctors[k].name
            · have HT := Lib.hid (tw_c (i := d) hd hd hk hjl (.inr ⟨rfl, hjt⟩) hne)
              rw [hne] at e0
              clear hne
              go_wp2_with fail
              go_quiet (fail)
              go_wp2_with fail
              go_ret
              exact ⟨ret_bool (dec_t HT.out).symm, HB3.out _⟩
            · have s1 := str_eq_f hne
              have s1' : ¬ l[d].ctors[j].name.toList = l[d].ctors[k].name.toList := fun e => hne (toList_inj e)
              have HN2 := Lib.hid hne
              clear hne
              go_wp2_with fail
              go_quiet (fail)
              go_wp2_with fail
              go_roundw
              case rel => exact ⟨j + 1, by omega, by go_num, hni2.step hjl HN2.out, HB3.out _⟩
              case measure => simp [intOf]; omega
          · have hjI : (j : Int) < (l[d].ctors.length : Int) := by omega
            have hjK : decide ((j : Int) < (k : Int)) = false := by simp; omega
            go_wp2_with fail
            go_roundw
            case rel => exact ⟨d + 1, by omega, by go_num, hno.step (fun h => absurd h (by omega)) (fun m hm hc => hni2 m hm (by omega) hc), hbi⟩
            case measure => simp [intOf]
      · have hi1 : i = d + 1 := by omega
        have HD : Hid (NoT l d hd k hk (d + 1)) := by rw [← hi1]; exact hno
        have hgt : (d : Int) < (i : Int) := by omega
        clear hi1 c0 c1 f0
        go_wp2_with fail
        go_ret
        exact ⟨ret_bool (dec_f HD.out.done).symm, hb⟩
end Go.Proofs.YtbdiahnelnbdnaaGreat
/-
  When a list of data types is a world: the program's function and the document's. No statement is proved here.
-/
namespace Go.Proofs.YtbdiahnelnbdnaaGreat
open Go.RowKit
set_option maxRecDepth 100000
set_option linter.unusedVariables false
def WorldOK (l : List Da) : Prop := l.length ≤ 4 ∧ AllTo (dataB l.length) l l.length ∧ Differ l
theorem not_world_len {l : List Da} (h : ¬ l.length ≤ 4) : ¬ WorldOK l := fun e => h e.1
theorem not_world_data {l : List Da} {k : Nat} (hk : k < l.length) (h : dataB l.length l[k] = false) : ¬ WorldOK l := fun e => by
  have := e.2.1 k hk hk
  rw [h] at this
  cases this
theorem data_len4 {n : Int} {d : Da} (h : dataB n d = true) : 1 ≤ d.ctors.length ∧ d.ctors.length ≤ 4 := by
  by_cases h' : 1 ≤ d.ctors.length ∧ d.ctors.length ≤ 4
  · exact h'
  · have := data_len (n := n) h'; rw [h] at this; cases this
set_option maxHeartbeats 800000 in
theorem worldValid_impl (A : Option Addr) (l : List Da) (cap : Nat) (w : World) (hr : RDas w w.heap.size A l) :
    Calls Tryz.prog 66 #[.slice A l.length cap] w fun e w' => e = .returned (.bool (dec (WorldOK l))) ∧ Below w.heap.size w w' := by
  have hn := hr.1
  unfold maxLen at hn
  have Hr := Lib.hid hr
  clear hr
  by_cases h4 : l.length ≤ 4
  · go_enter Tryz.func66, Tryz.ntmps66
    go_wp2_with fail
    go_loopw [10] (fun i wr => ∃ k : Nat, k ≤ l.length ∧ i = .int .i64 k ∧ AllTo (dataB l.length) l k ∧ Below w.heap.size w wr) (fun i _ => l.length - (intOf i).toNat)
    case atStart => exact ⟨0, by omega, rfl, AllTo.zero _ _, Below.refl _ _⟩
    case round =>
      obtain ⟨k, hk, rfl, hv, hb⟩ := hrel
      by_cases hlt : k < l.length
      · obtain ⟨b, off, rfl, hbB, A', cp, c0, c1, hsz, hm⟩ := (Hr.out.below hb (Nat.le_refl _)).2 k hlt
        have Hm := Lib.hid hm
        clear hm
        have hbs := hb.size
        by_cases he : dataB l.length l[k] = true
        · go_wp2_with (go_at_call 81; refine (dataValid_any l[k] _ _ _ _ hsz (by exact Hm.out.keep (fun p hp => keep_one _ p (by omega)) (by simp; omega))).mono ?_; rintro e w1 ⟨rfl, hb1⟩; have hb2 := hb.trans ((below_one hb1).mono hb.size))
          go_roundw
          case rel => exact ⟨k + 1, by omega, by go_num, hv.step hlt he, hb2⟩
          case measure => simp [intOf]; omega
        · have he' : dataB l.length l[k] = false := by simpa using he
          have HE := Lib.hid (not_world_data hlt he')
          clear he
          go_wp2_with (go_at_call 81; refine (dataValid_any l[k] _ _ _ _ hsz (by exact Hm.out.keep (fun p hp => keep_one _ p (by omega)) (by simp; omega))).mono ?_; rintro e w1 ⟨rfl, hb1⟩; have hb2 := hb.trans ((below_one hb1).mono hb.size))
          go_ret
          exact ⟨ret_bool (dec_f HE.out).symm, hb2⟩
      · have HV : Hid (AllTo (dataB l.length) l l.length) := fun j h h' => hv j h (by omega)
        clear hv
        go_wp2_with (go_at_call 82; refine (namesDiffer_any _ _ _ _ (by exact Hr.out.keep (fun p hp => hb.cell hp) hb.size) h4 (fun d hd => (data_len4 (HV.out d hd hd)).2)).mono ?_; rintro e w1 ⟨rfl, hb1⟩; have hb2 := hb.trans (hb1.mono hb.size))
        go_ret
        refine ⟨ret_bool (dec_congr ⟨fun h => ⟨h4, HV.out, h⟩, fun h => h.2.2⟩), hb2⟩
  · have HE := Lib.hid (not_world_len h4)
    go_enter Tryz.func66, Tryz.ntmps66
    go_wp2_with fail
    go_ret
    exact ⟨ret_bool (dec_f HE.out).symm, Below.refl _ _⟩
/-- What the document's function has seen before data type d, and before its constructor k. -/
def Seen (l : List Da) (d : Nat) : Prop := ∀ a (h : a < l.length), a < d → dataB l.length l[a] = true ∧ ∀ m (hm : m < l[a].ctors.length), ¬ Tw l a m
def SeenC (l : List Da) (d : Nat) (hd : d < l.length) (k : Nat) : Prop := ∀ m (hm : m < l[d].ctors.length), m < k → ctorB l.length l[d].ctors[m] = true ∧ ¬ Tw l d m
theorem Seen.zero (l : List Da) : Seen l 0 := fun a _ h => absurd h (by omega)
theorem SeenC.zero (l : List Da) (d : Nat) (hd : d < l.length) : SeenC l d hd 0 := fun a _ h => absurd h (by omega)
theorem SeenC.step {l : List Da} {d : Nat} {hd : d < l.length} {k : Nat} (h : SeenC l d hd k) (hk : k < l[d].ctors.length) (h1 : ctorB l.length l[d].ctors[k] = true) (h2 : ¬ Tw l d k) : SeenC l d hd (k + 1) := by
  intro m hm hmk
  by_cases e : m = k
  · subst e; exact ⟨h1, h2⟩
  · exact h m hm (by omega)
theorem Seen.step {l : List Da} {d : Nat} (h : Seen l d) (hd : d < l.length) (h1 : dnameB l[d].name = true) (h2 : 1 ≤ l[d].ctors.length ∧ l[d].ctors.length ≤ 4) (h3 : SeenC l d hd l[d].ctors.length) : Seen l (d + 1) := by
  intro a ha had
  by_cases e : a = d
  · subst e
    exact ⟨(data_good h1 h2 (AllTo.all (k := l[a].ctors.length) (fun j hj _ => (h3 j hj hj).1) (Nat.le_refl _))).symm, fun m hm => (h3 m hm hm).2⟩
  · exact h a ha (by omega)
theorem Seen.done {l : List Da} (h4 : l.length ≤ 4) (h : Seen l l.length) : WorldOK l := by
  refine ⟨h4, fun j hj _ => (h j hj hj).1, fun d hd _ => ?_⟩
  have hl := (data_len4 (h d hd hd).1).1
  exact ⟨fun e => (h d hd hd).2 0 hl ⟨hd, .inl e⟩, fun j hj _ e => (h d hd hd).2 j hj ⟨hd, .inr ⟨hj, e⟩⟩⟩
theorem not_world_tw {l : List Da} {d k : Nat} (hd : d < l.length) (hk : k < l[d].ctors.length) (e : Tw l d k) : ¬ WorldOK l := by
  rintro ⟨_, _, h⟩
  obtain ⟨_, e | ⟨_, e⟩⟩ := e
  · exact (h d hd hd).1 e
  · exact (h d hd hd).2 k hk hk e
theorem not_world_ctor {l : List Da} {d k : Nat} (hd : d < l.length) (hk : k < l[d].ctors.length) (e : ctorB l.length l[d].ctors[k] = false) : ¬ WorldOK l :=
  not_world_data hd (data_bad (all_bad hk e)).symm
end Go.Proofs.YtbdiahnelnbdnaaGreat
