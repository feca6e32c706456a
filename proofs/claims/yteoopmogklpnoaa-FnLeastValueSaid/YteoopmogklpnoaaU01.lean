/-
  When types, constructors and data types are valid: the leaves, the program's and the document's. No statement is proved here.
-/
import Derived.Test.YteoopmogklpnoaaU00
namespace Go.Proofs.Yteoopmogklpnoaa
open Go.RowKit
set_option maxRecDepth 100000
set_option linter.unusedVariables false
def argB (n : Int) (least : Int) (t : Ty) : Bool := if t.data = -1 then decide (t.index = 0) else decide (0 ≤ t.data ∧ t.data < n ∧ least ≤ t.index ∧ t.index ≤ 3)
def ctorB (n : Int) (c : Ct) : Bool := nameB c.name && (decide (c.args.length ≤ 3) && (decide (0 ≤ c.index ∧ c.index ≤ 3) && c.args.all (argB n (-1))))
def dnameB (s : ByteArray) : Bool := decide (s.size = 1) && (upB ((s.data.toList.headD 0).toNat) && decide (¬ s.toList = [73]))
def dataB (n : Int) (d : Da) : Bool := dnameB d.name && (decide (1 ≤ d.ctors.length ∧ d.ctors.length ≤ 4) && d.ctors.all (ctorB n))
def btw (j i : Int) : Bool := decide (j ≤ i ∧ i ≤ 3)
theorem between_any (i j : Int) (w : World) :
    Calls Try.prog 105 #[.int .i64 i, .int .i64 j] w fun e w' => e = .returned (.bool (btw j i)) ∧ w = w' := by
  by_cases h1 : j ≤ i
  · by_cases h2 : i ≤ 3
    · go_enter Try.func105, Try.ntmps105
      go_wp2_with fail
      go_ret
      exact ⟨ret_bool (decide_eq_true (by omega)).symm, rfl⟩
    · go_enter Try.func105, Try.ntmps105
      go_wp2_with fail
      go_ret
      exact ⟨ret_bool (decide_eq_false (by omega)).symm, rfl⟩
  · go_enter Try.func105, Try.ntmps105
    go_wp2_with fail
    go_ret
    exact ⟨ret_bool (decide_eq_false (by omega)).symm, rfl⟩
theorem argB_int {n least : Int} {t : Ty} (h : t.data = -1) : argB n least t = decide (t.index = 0) := if_pos h
theorem argB_data {n least : Int} {t : Ty} (h : ¬ t.data = -1) : argB n least t = decide (0 ≤ t.data ∧ t.data < n ∧ least ≤ t.index ∧ t.index ≤ 3) := if_neg h
theorem within_any (d i n least : Int) (w : World) :
    Calls Try.prog 67 #[.agg #[.int .i64 d, .int .i64 i], .int .i64 n, .int .i64 least] w fun e w' => e = .returned (.bool (argB n least ⟨d, i⟩)) ∧ Below w.heap.size w w' := by
  have hB : ∀ o : Obj, Below w.heap.size w (w.alloc o) := fun o => (Below.refl _ _).alloc (Nat.le_refl _) _
  have HB := Lib.hid hB
  clear hB
  by_cases h0 : d = -1
  · subst h0
    have H := Lib.hid (argB_int (n := n) (least := least) (t := ⟨-1, i⟩) rfl)
    by_cases h1 : i = 0
    · subst h1
      go_enter Try.func67, Try.ntmps67
      go_wp2_with fail
      go_ret
      exact ⟨ret_bool (by rw [H.out]; rfl), HB.out _⟩
    · have h1' : (i == 0) = false := beq_eq_false_iff_ne.2 h1
      go_enter Try.func67, Try.ntmps67
      go_wp2_with fail
      go_ret
      exact ⟨ret_bool (by rw [H.out]; simp [h1]), HB.out _⟩
  · have h0' : (d == -1) = false := beq_eq_false_iff_ne.2 h0
    have H := Lib.hid (argB_data (n := n) (least := least) (t := ⟨d, i⟩) h0)
    by_cases h1 : 0 ≤ d
    · by_cases h2 : d < n
      · go_enter Try.func67, Try.ntmps67
        go_wp2_with (go_at_call 105; refine (between_any _ _ _).mono ?_; rintro e w1 ⟨rfl, rfl⟩)
        go_ret
        exact ⟨ret_bool (by rw [H.out]; unfold btw; simp only [h1, h2, true_and]), HB.out _⟩
      · go_enter Try.func67, Try.ntmps67
        go_wp2_with fail
        go_ret
        exact ⟨ret_bool (by rw [H.out]; exact (decide_eq_false (by omega)).symm), HB.out _⟩
    · go_enter Try.func67, Try.ntmps67
      go_wp2_with fail
      go_ret
      exact ⟨ret_bool (by rw [H.out]; exact (decide_eq_false (by omega)).symm), HB.out _⟩
theorem arg_any (d i n : Int) (w : World) :
    Calls Try.prog 119 #[.int .i64 n, .agg #[.int .i64 d, .int .i64 i]] w fun e w' => e = .returned (.bool (argB n (-1) ⟨d, i⟩)) ∧ Below w.heap.size w w' := by
  have hB : ∀ o : Obj, Below w.heap.size w (w.alloc o) := fun o => (Below.refl _ _).alloc (Nat.le_refl _) _
  have HB := Lib.hid hB
  clear hB
  by_cases h0 : d = -1
  · subst h0
    have H := Lib.hid (argB_int (n := n) (least := -1) (t := ⟨-1, i⟩) rfl)
    by_cases h1 : i = 0
    · subst h1
      go_enter Try.func119, Try.ntmps119
      go_wp2_with fail
      go_ret
      exact ⟨ret_bool (by rw [H.out]; rfl), HB.out _⟩
    · have h1' : (i == 0) = false := beq_eq_false_iff_ne.2 h1
      go_enter Try.func119, Try.ntmps119
      go_wp2_with fail
      go_ret
      exact ⟨ret_bool (by rw [H.out]; simp [h1]), HB.out _⟩
  · have h0' : (d == -1) = false := beq_eq_false_iff_ne.2 h0
    have H := Lib.hid (argB_data (n := n) (least := -1) (t := ⟨d, i⟩) h0)
    by_cases h1 : 0 ≤ d
    · by_cases h2 : d < n
      · by_cases h3 : -1 ≤ i
        · by_cases h4 : i ≤ 3
          · go_enter Try.func119, Try.ntmps119
            go_wp2_with fail
            go_ret
            exact ⟨ret_bool (by rw [H.out]; exact (decide_eq_true (by omega)).symm), HB.out _⟩
          · go_enter Try.func119, Try.ntmps119
            go_wp2_with fail
            go_ret
            exact ⟨ret_bool (by rw [H.out]; exact (decide_eq_false (by omega)).symm), HB.out _⟩
        · go_enter Try.func119, Try.ntmps119
          go_wp2_with fail
          go_ret
          exact ⟨ret_bool (by rw [H.out]; exact (decide_eq_false (by omega)).symm), HB.out _⟩
      · go_enter Try.func119, Try.ntmps119
        go_wp2_with fail
        go_ret
        exact ⟨ret_bool (by rw [H.out]; exact (decide_eq_false (by omega)).symm), HB.out _⟩
    · go_enter Try.func119, Try.ntmps119
      go_wp2_with fail
      go_ret
      exact ⟨ret_bool (by rw [H.out]; exact (decide_eq_false (by omega)).symm), HB.out _⟩
end Go.Proofs.Yteoopmogklpnoaa
