/-
  The function FnExactNameValid returns true for every string, and the string reads behind the call as it read before. No condition.
-/
import Derived.Test.YtakhobhmplneeaaY00
import Derived.Test.YtakhobhmplneeaaRows
import Derived.WalkKit
import Derived.WalkSpells
import Derived.ProofKit
import Derived.Lib.Hide
import Derived.BigQuiet
import Derived.Deep.QuietTactic
namespace Go.Proofs.Ytakhobhmplneeaa
open Go.RowKit
open Go.ChangeShapes Go.WideShapes Go.ChangeAt
open Go.ChangeMaps (open_string shut_string)
set_option maxRecDepth 100000
set_option linter.unusedVariables false
theorem ret_bool {a b : Bool} (h : a = b) : Ending.returned (.bool a) = .returned (.bool b) := by rw [h]
def upB (c : Int) : Bool := decide (65 ≤ c) && decide (c ≤ 90)
def lowB (c : UInt8) : Bool := decide (97 ≤ (c.toNat : Int)) && decide ((c.toNat : Int) ≤ 122)
theorem up_ge {c : Int} (h : ¬ c < 65) : decide (c ≤ 90) = upB c := by
  unfold upB; rw [show decide (65 ≤ c) = true by simp; omega]; rfl
theorem up_lt {c : Int} (h : c < 65) : false = upB c := by
  unfold upB; rw [show decide (65 ≤ c) = false by simp; omega]; rfl
theorem isUpper_any (c : Int) (w : World) :
    Calls Try.prog 88 #[.int .u8 c] w fun e w' => e = .returned (.bool (upB c)) ∧ w = w' := by
  by_cases h : c < 65
  · go_enter Try.func88, Try.ntmps88
    go_wp2
    all_goals go_ret
    exact ⟨ret_bool (up_lt h), rfl⟩
  · go_enter Try.func88, Try.ntmps88
    go_wp2
    all_goals go_ret
    exact ⟨ret_bool (up_ge (by omega)), rfl⟩
theorem big_any (c : Int) (w : World) :
    Calls Try.prog 86 #[.int .u8 c] w fun e w' => e = .returned (.bool (upB c)) ∧ w = w' := by
  by_cases h : c < 65
  · go_enter Try.func86, Try.ntmps86
    go_wp2
    all_goals go_ret
    exact ⟨ret_bool (up_lt h), rfl⟩
  · go_enter Try.func86, Try.ntmps86
    go_wp2
    all_goals go_ret
    exact ⟨ret_bool (up_ge (by omega)), rfl⟩
/-- The name of a constructor: a length from 1 to 5, an uppercase letter, lowercase letters. -/
def lowsUpto (s : ByteArray) (k : Nat) : Bool := ((s.data.toList.take k).drop 1).all lowB
def nameB (s : ByteArray) : Bool :=
  decide (0 < s.size) && (decide (s.size ≤ 5) && (upB ((s.data.toList.headD 0).toNat) && lowsUpto s s.size))
theorem name_empty {s : ByteArray} (h : s.size = 0) : false = nameB s := by unfold nameB; simp [h]
theorem name_long {s : ByteArray} (h : 5 < s.size) : false = nameB s := by
  unfold nameB; rw [show decide (s.size ≤ 5) = false by simp; omega]; simp
theorem head_eq {s : ByteArray} (h0 : 0 < s.size) : s.data.toList.headD 0 = s[0]'h0 := by
  have : s.data.toList = s.data.toList[0]'(by simpa using h0) :: s.data.toList.drop 1 := by
    rw [← List.drop_eq_getElem_cons]; rfl
  rw [this]; rfl
theorem name_small {s : ByteArray} (h0 : 0 < s.size) (h : upB (s[0]'h0).toNat = false) : false = nameB s := by
  unfold nameB; rw [head_eq h0, h]; simp
theorem name_go {s : ByteArray} (h0 : 0 < s.size) (h5 : s.size ≤ 5) (h : upB (s[0]'h0).toNat = true) : nameB s = lowsUpto s s.size := by
  unfold nameB; rw [head_eq h0, h]; simp [h0, h5]
theorem lows_one (s : ByteArray) : lowsUpto s 1 = true := by
  unfold lowsUpto; cases s.data.toList <;> simp
theorem lows_snoc {s : ByteArray} {k : Nat} (h1 : 1 ≤ k) (hk : k < s.size) : lowsUpto s (k + 1) = (lowsUpto s k && lowB s[k]) := by
  unfold lowsUpto
  rw [List.take_succ_eq_append_getElem (by simpa using hk), List.drop_append_of_le_length (by simp; omega), List.all_append]
  simp; rfl
theorem lows_more {s : ByteArray} {k : Nat} (d : Nat) (h : lowsUpto s k = false) : lowsUpto s (k + d) = false := by
  unfold lowsUpto at h ⊢
  rw [List.all_eq_false] at h ⊢
  obtain ⟨x, hx, hn⟩ := h
  refine ⟨x, ?_, hn⟩
  have : s.data.toList.take (k + d) = s.data.toList.take k ++ (s.data.toList.drop k).take d := by rw [List.take_add]
  rw [this]
  by_cases hl : 1 ≤ (s.data.toList.take k).length
  · rw [List.drop_append_of_le_length hl]; exact List.mem_append_left _ hx
  · have : s.data.toList.take k = [] := by
      apply List.eq_nil_of_length_eq_zero; omega
    rw [this] at hx; simp at hx
theorem lows_bad {s : ByteArray} {k : Nat} (h1 : 1 ≤ k) (hk : k < s.size) (h : lowB s[k] = false) : false = lowsUpto s s.size := by
  have := lows_more (s := s) (k := k + 1) (s.size - (k + 1)) (by rw [lows_snoc h1 hk, h]; simp)
  rw [← this]; congr 1; omega
theorem lowB_f {c : UInt8} (h : (c.toNat : Int) < 97 ∨ 122 < (c.toNat : Int)) : lowB c = false := by
  unfold lowB
  rcases h with h | h
  · rw [show decide (97 ≤ (c.toNat : Int)) = false by simp; omega]; rfl
  · rw [show decide ((c.toNat : Int) ≤ 122) = false by simp; omega]; simp
theorem lowB_t {c : UInt8} (h : 97 ≤ (c.toNat : Int)) (h' : (c.toNat : Int) ≤ 122) : lowB c = true := by
  unfold lowB; simp only [decide_eq_true h, decide_eq_true h', Bool.and_self]
theorem isEmpty_of {s : ByteArray} (h : s.size = 0) : s.toList = [] := by
  rw [ByteArray.toList_eq]; exact List.eq_nil_of_length_eq_zero (by simpa using h)
theorem notEmpty_of {s : ByteArray} (h : ¬ s.size = 0) : ¬ s.toList = [] := by
  rw [ByteArray.toList_eq]; intro e; exact h (by simpa using congrArg List.length e)
theorem notEmpty_of' {s : ByteArray} (h : ¬ s.size = 0) : s.toList.isEmpty = false := by
  simpa using notEmpty_of h
theorem isLower_t (c : UInt8) (w : World) (h : lowB c = true) :
    Calls Try.prog 95 #[.int .u8 c.toNat] w fun e w' => e = .returned (.bool true) ∧ w = w' := by
  have h1 : 97 ≤ (c.toNat : Int) ∧ (c.toNat : Int) ≤ 122 := by unfold lowB at h; simpa using h
  obtain ⟨h1, h2⟩ := h1
  clear h
  go_enter Try.func95, Try.ntmps95
  go_wp2
  all_goals go_ret
  exact ⟨ret_bool (by simp), rfl⟩
theorem isLower_f (c : UInt8) (w : World) (h : lowB c = false) :
    Calls Try.prog 95 #[.int .u8 c.toNat] w fun e w' => e = .returned (.bool false) ∧ w = w' := by
  by_cases h1 : (c.toNat : Int) < 97
  · clear h
    go_enter Try.func95, Try.ntmps95
    go_wp2
    all_goals go_ret
    exact ⟨rfl, rfl⟩
  · have h2 : ¬ (c.toNat : Int) ≤ 122 := by unfold lowB at h; simp at h; omega
    clear h
    go_enter Try.func95, Try.ntmps95
    go_wp2
    all_goals go_ret
    exact ⟨ret_bool (by simp), rfl⟩
set_option maxHeartbeats 400000 in
theorem nameV_impl (s : ByteArray) (w : World) (hs : s.size ≤ maxLen) :
    Calls Try.prog 93 #[.string s] w fun e w' => e = .returned (.bool (nameB s)) ∧ w = w' := by
  unfold maxLen at hs
  by_cases h0 : s.size = 0
  · have h0' : s.toList = [] := isEmpty_of h0
    go_enter Try.func93, Try.ntmps93
    go_wp2_with fail
    go_ret
    exact ⟨ret_bool (name_empty h0), rfl⟩
  · have h0' := notEmpty_of h0
    have h0'' := notEmpty_of' h0
    by_cases h5 : 5 < s.size
    · go_enter Try.func93, Try.ntmps93
      go_wp2_with fail
      go_ret
      exact ⟨ret_bool (name_long h5), rfl⟩
    · have hp : 0 < s.size := by omega
      have h5' : s.size ≤ 5 := by omega
      have h5b : decide (5 < (s.size : Int)) = false := by simp; omega
      by_cases hu : upB (s[0]'hp).toNat = true
      · have H := Lib.hid (name_go hp h5' hu)
        go_enter Try.func93, Try.ntmps93
        go_wp2_with (go_at_call 88; refine (isUpper_any _ _).mono ?_; rintro e w' ⟨rfl, rfl⟩)
        go_loop [3] (fun i => ∃ k : Nat, 1 ≤ k ∧ k ≤ s.size ∧ lowsUpto s k = true ∧ i = .int .i64 k) (fun i => s.size - (intOf i).toNat)
        case atStart => exact ⟨1, by omega, by omega, lows_one s, rfl⟩
        case round =>
          obtain ⟨k, hk1, hk, hl, rfl⟩ := hrel
          have HL := Lib.hid hl
          clear hl
          by_cases hlt : k < s.size
          · have HS := Lib.hid (lows_snoc hk1 hlt)
            by_cases hb : lowB s[k] = true
            · have HB := Lib.hid hb
              clear hb
              go_wp2_with (go_at_call 95; refine (isLower_t _ _ HB.out).mono ?_; rintro e w' ⟨rfl, rfl⟩)
              go_round
              case rel => exact ⟨k + 1, by omega, by omega, by rw [HS.out, HL.out, HB.out]; rfl, by go_num⟩
              case measure => simp [intOf]; omega
            · have hb' : lowB s[k] = false := by simpa using hb
              have HB := Lib.hid hb'
              have HC := Lib.hid (lows_bad hk1 hlt hb')
              clear hb hb'
              go_wp2_with (go_at_call 95; refine (isLower_f _ _ HB.out).mono ?_; rintro e w' ⟨rfl, rfl⟩)
              go_ret
              exact ⟨ret_bool (by rw [H.out]; exact HC.out), rfl⟩
          · go_wp2
            go_ret
            exact ⟨ret_bool (by rw [H.out, ← HL.out]; congr 1; omega), rfl⟩
      · have hu' : upB (s[0]'hp).toNat = false := by simpa using hu
        clear hu
        go_enter Try.func93, Try.ntmps93
        go_wp2_with (go_at_call 88; refine (isUpper_any _ _).mono ?_; rintro e w' ⟨rfl, rfl⟩)
        go_ret
        exact ⟨ret_bool (name_small hp hu'), rfl⟩
theorem nameV_spec (s : ByteArray) (w : World) (hs : s.size ≤ maxLen) :
    Calls Try.prog 87 #[.string s] w fun e w' => e = .returned (.bool (nameB s)) ∧ w = w' := by
  unfold maxLen at hs
  by_cases h0 : s.size = 0
  · have h0' : ((s.size : Int) == 0) = true := by simpa using h0
    go_enter Try.func87, Try.ntmps87
    go_wp2_with fail
    go_ret
    exact ⟨ret_bool (name_empty h0), rfl⟩
  · have h0' : ((s.size : Int) == 0) = false := by simpa using h0
    by_cases h5 : 5 < s.size
    · go_enter Try.func87, Try.ntmps87
      go_wp2_with fail
      go_ret
      exact ⟨ret_bool (name_long h5), rfl⟩
    · have hp : 0 < s.size := by omega
      have h5' : s.size ≤ 5 := by omega
      have h5b : decide (5 < (s.size : Int)) = false := by simp; omega
      by_cases hu : upB (s[0]'hp).toNat = true
      · have H := Lib.hid (name_go hp h5' hu)
        go_enter Try.func87, Try.ntmps87
        go_wp2_with (go_at_call 86; refine (big_any _ _).mono ?_; rintro e w' ⟨rfl, rfl⟩)
        go_loop [3] (fun i => ∃ k : Nat, 1 ≤ k ∧ k ≤ s.size ∧ lowsUpto s k = true ∧ i = .int .i64 k) (fun i => s.size - (intOf i).toNat)
        case atStart => exact ⟨1, by omega, by omega, lows_one s, rfl⟩
        case round =>
          obtain ⟨k, hk1, hk, hl, rfl⟩ := hrel
          have HL := Lib.hid hl
          clear hl
          by_cases hlt : k < s.size
          · have HS := Lib.hid (lows_snoc hk1 hlt)
            by_cases hb : (s[k].toNat : Int) < 97
            · have HB := Lib.hid (lows_bad hk1 hlt (lowB_f (.inl hb)))
              go_wp2
              go_ret
              exact ⟨ret_bool (by rw [H.out]; exact HB.out), rfl⟩
            · by_cases hc : 122 < (s[k].toNat : Int)
              · have HB := Lib.hid (lows_bad hk1 hlt (lowB_f (.inr hc)))
                go_wp2
                go_ret
                exact ⟨ret_bool (by rw [H.out]; exact HB.out), rfl⟩
              · have hg : decide ((s[k].toNat : Int) < 97) = false := by simpa using hb
                have hg' : decide (122 < (s[k].toNat : Int)) = false := by simpa using hc
                have HB := Lib.hid (lowB_t (c := s[k]) (by omega) (by omega))
                go_wp2
                go_round
                case rel => exact ⟨k + 1, by omega, by omega, by rw [HS.out, HL.out, HB.out]; rfl, by go_num⟩
                case measure => simp [intOf]; omega
          · go_wp2
            go_ret
            exact ⟨ret_bool (by rw [H.out, ← HL.out]; congr 1; omega), rfl⟩
      · have hu' : upB (s[0]'hp).toNat = false := by simpa using hu
        clear hu
        go_enter Try.func87, Try.ntmps87
        go_wp2_with (go_at_call 86; refine (big_any _ _).mono ?_; rintro e w' ⟨rfl, rfl⟩)
        go_ret
        exact ⟨ret_bool (name_small hp hu'), rfl⟩
end Go.Proofs.Ytakhobhmplneeaa
/-
  When types, constructors and data types are valid: the leaves, the program's and the document's. No statement is proved here.
-/
namespace Go.Proofs.Ytakhobhmplneeaa
open Go.RowKit
set_option maxRecDepth 100000
set_option linter.unusedVariables false
def argB (n : Int) (least : Int) (t : Ty) : Bool := if t.data = -1 then decide (t.index = 0) else decide (0 ≤ t.data ∧ t.data < n ∧ least ≤ t.index ∧ t.index ≤ 3)
def ctorB (n : Int) (c : Ct) : Bool := nameB c.name && (decide (c.args.length ≤ 3) && (decide (0 ≤ c.index ∧ c.index ≤ 3) && c.args.all (argB n (-1))))
def dnameB (s : ByteArray) : Bool := decide (s.size = 1) && (upB ((s.data.toList.headD 0).toNat) && decide (¬ s.toList = [73]))
def dataB (n : Int) (d : Da) : Bool := dnameB d.name && (decide (1 ≤ d.ctors.length ∧ d.ctors.length ≤ 4) && d.ctors.all (ctorB n))
def btw (j i : Int) : Bool := decide (j ≤ i ∧ i ≤ 3)
theorem between_any (i j : Int) (w : World) :
    Calls Try.prog 80 #[.int .i64 i, .int .i64 j] w fun e w' => e = .returned (.bool (btw j i)) ∧ w = w' := by
  by_cases h1 : j ≤ i
  · by_cases h2 : i ≤ 3
    · go_enter Try.func80, Try.ntmps80
      go_wp2_with fail
      go_ret
      exact ⟨ret_bool (decide_eq_true (by omega)).symm, rfl⟩
    · go_enter Try.func80, Try.ntmps80
      go_wp2_with fail
      go_ret
      exact ⟨ret_bool (decide_eq_false (by omega)).symm, rfl⟩
  · go_enter Try.func80, Try.ntmps80
    go_wp2_with fail
    go_ret
    exact ⟨ret_bool (decide_eq_false (by omega)).symm, rfl⟩
theorem argB_int {n least : Int} {t : Ty} (h : t.data = -1) : argB n least t = decide (t.index = 0) := if_pos h
theorem argB_data {n least : Int} {t : Ty} (h : ¬ t.data = -1) : argB n least t = decide (0 ≤ t.data ∧ t.data < n ∧ least ≤ t.index ∧ t.index ≤ 3) := if_neg h
theorem within_any (d i n least : Int) (w : World) :
    Calls Try.prog 57 #[.agg #[.int .i64 d, .int .i64 i], .int .i64 n, .int .i64 least] w fun e w' => e = .returned (.bool (argB n least ⟨d, i⟩)) ∧ Below w.heap.size w w' := by
  have hB : ∀ o : Obj, Below w.heap.size w (w.alloc o) := fun o => (Below.refl _ _).alloc (Nat.le_refl _) _
  have HB := Lib.hid hB
  clear hB
  by_cases h0 : d = -1
  · subst h0
    have H := Lib.hid (argB_int (n := n) (least := least) (t := ⟨-1, i⟩) rfl)
    by_cases h1 : i = 0
    · subst h1
      go_enter Try.func57, Try.ntmps57
      go_wp2_with fail
      go_ret
      exact ⟨ret_bool (by rw [H.out]; rfl), HB.out _⟩
    · have h1' : (i == 0) = false := beq_eq_false_iff_ne.2 h1
      go_enter Try.func57, Try.ntmps57
      go_wp2_with fail
      go_ret
      exact ⟨ret_bool (by rw [H.out]; simp [h1]), HB.out _⟩
  · have h0' : (d == -1) = false := beq_eq_false_iff_ne.2 h0
    have H := Lib.hid (argB_data (n := n) (least := least) (t := ⟨d, i⟩) h0)
    by_cases h1 : 0 ≤ d
    · by_cases h2 : d < n
      · go_enter Try.func57, Try.ntmps57
        go_wp2_with (go_at_call 80; refine (between_any _ _ _).mono ?_; rintro e w1 ⟨rfl, rfl⟩)
        go_ret
        exact ⟨ret_bool (by rw [H.out]; unfold btw; simp only [h1, h2, true_and]), HB.out _⟩
      · go_enter Try.func57, Try.ntmps57
        go_wp2_with fail
        go_ret
        exact ⟨ret_bool (by rw [H.out]; exact (decide_eq_false (by omega)).symm), HB.out _⟩
    · go_enter Try.func57, Try.ntmps57
      go_wp2_with fail
      go_ret
      exact ⟨ret_bool (by rw [H.out]; exact (decide_eq_false (by omega)).symm), HB.out _⟩
theorem arg_any (d i n : Int) (w : World) :
    Calls Try.prog 74 #[.int .i64 n, .agg #[.int .i64 d, .int .i64 i]] w fun e w' => e = .returned (.bool (argB n (-1) ⟨d, i⟩)) ∧ Below w.heap.size w w' := by
  have hB : ∀ o : Obj, Below w.heap.size w (w.alloc o) := fun o => (Below.refl _ _).alloc (Nat.le_refl _) _
  have HB := Lib.hid hB
  clear hB
  by_cases h0 : d = -1
  · subst h0
    have H := Lib.hid (argB_int (n := n) (least := -1) (t := ⟨-1, i⟩) rfl)
    by_cases h1 : i = 0
    · subst h1
      go_enter Try.func74, Try.ntmps74
      go_wp2_with fail
      go_ret
      exact ⟨ret_bool (by rw [H.out]; rfl), HB.out _⟩
    · have h1' : (i == 0) = false := beq_eq_false_iff_ne.2 h1
      go_enter Try.func74, Try.ntmps74
      go_wp2_with fail
      go_ret
      exact ⟨ret_bool (by rw [H.out]; simp [h1]), HB.out _⟩
  · have h0' : (d == -1) = false := beq_eq_false_iff_ne.2 h0
    have H := Lib.hid (argB_data (n := n) (least := -1) (t := ⟨d, i⟩) h0)
    by_cases h1 : 0 ≤ d
    · by_cases h2 : d < n
      · by_cases h3 : -1 ≤ i
        · by_cases h4 : i ≤ 3
          · go_enter Try.func74, Try.ntmps74
            go_wp2_with fail
            go_ret
            exact ⟨ret_bool (by rw [H.out]; exact (decide_eq_true (by omega)).symm), HB.out _⟩
          · go_enter Try.func74, Try.ntmps74
            go_wp2_with fail
            go_ret
            exact ⟨ret_bool (by rw [H.out]; exact (decide_eq_false (by omega)).symm), HB.out _⟩
        · go_enter Try.func74, Try.ntmps74
          go_wp2_with fail
          go_ret
          exact ⟨ret_bool (by rw [H.out]; exact (decide_eq_false (by omega)).symm), HB.out _⟩
      · go_enter Try.func74, Try.ntmps74
        go_wp2_with fail
        go_ret
        exact ⟨ret_bool (by rw [H.out]; exact (decide_eq_false (by omega)).symm), HB.out _⟩
    · go_enter Try.func74, Try.ntmps74
      go_wp2_with fail
      go_ret
      exact ⟨ret_bool (by rw [H.out]; exact (decide_eq_false (by omega)).symm), HB.out _⟩
end Go.Proofs.Ytakhobhmplneeaa
