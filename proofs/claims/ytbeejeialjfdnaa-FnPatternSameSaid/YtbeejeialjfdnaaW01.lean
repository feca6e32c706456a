/-
  The function FnExactNameValid returns true for every string, and the string reads behind the call as it read before. No condition.
-/
import Derived.Test.YtbeejeialjfdnaaW00
import Derived.Test.YtbeejeialjfdnaaRows
import Derived.WalkKit
import Derived.WalkSpells
import Derived.ProofKit
import Derived.Lib.Hide
import Derived.BigQuiet
import Derived.Deep.QuietTactic
import Derived.Maps.Own
import Derived.Maps.OwnOps
import Derived.Maps.Views
import Derived.Laws.AppendOwn
import Derived.Laws.OwnMore
import Derived.Lib.QuietBelow
namespace Go.Proofs.Ytbeejeialjfdnaa
open Go.RowKit
open Go.ChangeShapes Go.WideShapes Go.ChangeAt
open Go.ChangeMaps (open_string shut_string)
set_option maxRecDepth 100000
set_option linter.unusedVariables false
theorem ret_bool {a b : Bool} (h : a = b) : Ending.returned (.bool a) = .returned (.bool b) := by rw [h]
def upB (c : Int) : Bool := decide (65 ≤ c) && decide (c ≤ 90)
def lowB (c : UInt8) : Bool := decide (97 ≤ (c.toNat : Int)) && decide ((c.toNat : Int) ≤ 122)
theorem up_ge {c : Int} (h : ¬ c < 65) : decide (c ≤ 90) = upB c := by
  unfold upB; rw [show decide (65 ≤ c) = true by simp; omega]; rfl
theorem up_lt {c : Int} (h : c < 65) : false = upB c := by
  unfold upB; rw [show decide (65 ≤ c) = false by simp; omega]; rfl
theorem big_any (c : Int) (w : World) :
    Calls Try.prog 139 #[.int .u8 c] w fun e w' => e = .returned (.bool (upB c)) ∧ w = w' := by
  by_cases h : c < 65
  · go_enter Try.func139, Try.ntmps139
    go_wp2
    all_goals go_ret
    exact ⟨ret_bool (up_lt h), rfl⟩
  · go_enter Try.func139, Try.ntmps139
    go_wp2
    all_goals go_ret
    exact ⟨ret_bool (up_ge (by omega)), rfl⟩
/-- The name of a constructor: a length from 1 to 5, an uppercase letter, lowercase letters. -/
def lowsUpto (s : ByteArray) (k : Nat) : Bool := ((s.data.toList.take k).drop 1).all lowB
def nameB (s : ByteArray) : Bool :=
  decide (0 < s.size) && (decide (s.size ≤ 5) && (upB ((s.data.toList.headD 0).toNat) && lowsUpto s s.size))
theorem name_empty {s : ByteArray} (h : s.size = 0) : false = nameB s := by unfold nameB; simp [h]
theorem name_long {s : ByteArray} (h : 5 < s.size) : false = nameB s := by
  unfold nameB; rw [show decide (s.size ≤ 5) = false by simp; omega]; simp
theorem head_eq {s : ByteArray} (h0 : 0 < s.size) : s.data.toList.headD 0 = s[0]'h0 := by
  have : s.data.toList = s.data.toList[0]'(by simpa using h0) :: s.data.toList.drop 1 := by
    rw [← List.drop_eq_getElem_cons]; rfl
  rw [this]; rfl
theorem name_small {s : ByteArray} (h0 : 0 < s.size) (h : upB (s[0]'h0).toNat = false) : false = nameB s := by
  unfold nameB; rw [head_eq h0, h]; simp
theorem name_go {s : ByteArray} (h0 : 0 < s.size) (h5 : s.size ≤ 5) (h : upB (s[0]'h0).toNat = true) : nameB s = lowsUpto s s.size := by
  unfold nameB; rw [head_eq h0, h]; simp [h0, h5]
theorem lows_one (s : ByteArray) : lowsUpto s 1 = true := by
  unfold lowsUpto; cases s.data.toList <;> simp
theorem lows_snoc {s : ByteArray} {k : Nat} (h1 : 1 ≤ k) (hk : k < s.size) : lowsUpto s (k + 1) = (lowsUpto s k && lowB s[k]) := by
  unfold lowsUpto
  rw [List.take_succ_eq_append_getElem (by simpa using hk), List.drop_append_of_le_length (by simp; omega), List.all_append]
  simp; rfl
theorem lows_more {s : ByteArray} {k : Nat} (d : Nat) (h : lowsUpto s k = false) : lowsUpto s (k + d) = false := by
  unfold lowsUpto at h ⊢
  rw [List.all_eq_false] at h ⊢
  obtain ⟨x, hx, hn⟩ := h
  refine ⟨x, ?_, hn⟩
  have : s.data.toList.take (k + d) = s.data.toList.take k ++ (s.data.toList.drop k).take d := by rw [List.take_add]
  rw [this]
  by_cases hl : 1 ≤ (s.data.toList.take k).length
  · rw [List.drop_append_of_le_length hl]; exact List.mem_append_left _ hx
  · have : s.data.toList.take k = [] := by
      apply List.eq_nil_of_length_eq_zero; omega
    rw [this] at hx; simp at hx
theorem lows_bad {s : ByteArray} {k : Nat} (h1 : 1 ≤ k) (hk : k < s.size) (h : lowB s[k] = false) : false = lowsUpto s s.size := by
  have := lows_more (s := s) (k := k + 1) (s.size - (k + 1)) (by rw [lows_snoc h1 hk, h]; simp)
  rw [← this]; congr 1; omega
theorem lowB_f {c : UInt8} (h : (c.toNat : Int) < 97 ∨ 122 < (c.toNat : Int)) : lowB c = false := by
  unfold lowB
  rcases h with h | h
  · rw [show decide (97 ≤ (c.toNat : Int)) = false by simp; omega]; rfl
  · rw [show decide ((c.toNat : Int) ≤ 122) = false by simp; omega]; simp
theorem lowB_t {c : UInt8} (h : 97 ≤ (c.toNat : Int)) (h' : (c.toNat : Int) ≤ 122) : lowB c = true := by
  unfold lowB; simp only [decide_eq_true h, decide_eq_true h', Bool.and_self]
theorem isEmpty_of {s : ByteArray} (h : s.size = 0) : s.toList = [] := by
  rw [ByteArray.toList_eq]; exact List.eq_nil_of_length_eq_zero (by simpa using h)
theorem notEmpty_of {s : ByteArray} (h : ¬ s.size = 0) : ¬ s.toList = [] := by
  rw [ByteArray.toList_eq]; intro e; exact h (by simpa using congrArg List.length e)
theorem notEmpty_of' {s : ByteArray} (h : ¬ s.size = 0) : s.toList.isEmpty = false := by
  simpa using notEmpty_of h
theorem nameV_spec (s : ByteArray) (w : World) (hs : s.size ≤ maxLen) :
    Calls Try.prog 140 #[.string s] w fun e w' => e = .returned (.bool (nameB s)) ∧ w = w' := by
  unfold maxLen at hs
  by_cases h0 : s.size = 0
  · have h0' : ((s.size : Int) == 0) = true := by simpa using h0
    go_enter Try.func140, Try.ntmps140
    go_wp2_with fail
    go_ret
    exact ⟨ret_bool (name_empty h0), rfl⟩
  · have h0' : ((s.size : Int) == 0) = false := by simpa using h0
    by_cases h5 : 5 < s.size
    · go_enter Try.func140, Try.ntmps140
      go_wp2_with fail
      go_ret
      exact ⟨ret_bool (name_long h5), rfl⟩
    · have hp : 0 < s.size := by omega
      have h5' : s.size ≤ 5 := by omega
      have h5b : decide (5 < (s.size : Int)) = false := by simp; omega
      by_cases hu : upB (s[0]'hp).toNat = true
      · have H := Lib.hid (name_go hp h5' hu)
        go_enter Try.func140, Try.ntmps140
        go_wp2_with (go_at_call 139; refine (big_any _ _).mono ?_; rintro e w' ⟨rfl, rfl⟩)
        go_loop [3] (fun i => ∃ k : Nat, 1 ≤ k ∧ k ≤ s.size ∧ lowsUpto s k = true ∧ i = .int .i64 k) (fun i => s.size - (intOf i).toNat)
        case atStart => exact ⟨1, by omega, by omega, lows_one s, rfl⟩
        case round =>
          obtain ⟨k, hk1, hk, hl, rfl⟩ := hrel
          have HL := Lib.hid hl
          clear hl
          by_cases hlt : k < s.size
          · have HS := Lib.hid (lows_snoc hk1 hlt)
            by_cases hb : (s[k].toNat : Int) < 97
            · have HB := Lib.hid (lows_bad hk1 hlt (lowB_f (.inl hb)))
              go_wp2
              go_ret
              exact ⟨ret_bool (by rw [H.out]; exact HB.out), rfl⟩
            · by_cases hc : 122 < (s[k].toNat : Int)
              · have HB := Lib.hid (lows_bad hk1 hlt (lowB_f (.inr hc)))
                go_wp2
                go_ret
                exact ⟨ret_bool (by rw [H.out]; exact HB.out), rfl⟩
              · have hg : decide ((s[k].toNat : Int) < 97) = false := by simpa using hb
                have hg' : decide (122 < (s[k].toNat : Int)) = false := by simpa using hc
                have HB := Lib.hid (lowB_t (c := s[k]) (by omega) (by omega))
                go_wp2
                go_round
                case rel => exact ⟨k + 1, by omega, by omega, by rw [HS.out, HL.out, HB.out]; rfl, by go_num⟩
                case measure => simp [intOf]; omega
          · go_wp2
            go_ret
            exact ⟨ret_bool (by rw [H.out, ← HL.out]; congr 1; omega), rfl⟩
      · have hu' : upB (s[0]'hp).toNat = false := by simpa using hu
        clear hu
        go_enter Try.func140, Try.ntmps140
        go_wp2_with (go_at_call 139; refine (big_any _ _).mono ?_; rintro e w' ⟨rfl, rfl⟩)
        go_ret
        exact ⟨ret_bool (name_small hp hu'), rfl⟩
end Go.Proofs.Ytbeejeialjfdnaa
/-
  When types, constructors and data types are valid: the leaves, the program's and the document's. No statement is proved here.
-/
namespace Go.Proofs.Ytbeejeialjfdnaa
open Go.RowKit
set_option maxRecDepth 100000
set_option linter.unusedVariables false
def argB (n : Int) (least : Int) (t : Ty) : Bool := if t.data = -1 then decide (t.index = 0) else decide (0 ≤ t.data ∧ t.data < n ∧ least ≤ t.index ∧ t.index ≤ 3)
def ctorB (n : Int) (c : Ct) : Bool := nameB c.name && (decide (c.args.length ≤ 3) && (decide (0 ≤ c.index ∧ c.index ≤ 3) && c.args.all (argB n (-1))))
def dnameB (s : ByteArray) : Bool := decide (s.size = 1) && (upB ((s.data.toList.headD 0).toNat) && decide (¬ s.toList = [73]))
def dataB (n : Int) (d : Da) : Bool := dnameB d.name && (decide (1 ≤ d.ctors.length ∧ d.ctors.length ≤ 4) && d.ctors.all (ctorB n))
theorem argB_int {n least : Int} {t : Ty} (h : t.data = -1) : argB n least t = decide (t.index = 0) := if_pos h
theorem argB_data {n least : Int} {t : Ty} (h : ¬ t.data = -1) : argB n least t = decide (0 ≤ t.data ∧ t.data < n ∧ least ≤ t.index ∧ t.index ≤ 3) := if_neg h
theorem arg_any (d i n : Int) (w : World) :
    Calls Try.prog 119 #[.int .i64 n, .agg #[.int .i64 d, .int .i64 i]] w fun e w' => e = .returned (.bool (argB n (-1) ⟨d, i⟩)) ∧ Below w.heap.size w w' := by
  have hB : ∀ o : Obj, Below w.heap.size w (w.alloc o) := fun o => (Below.refl _ _).alloc (Nat.le_refl _) _
  have HB := Lib.hid hB
  clear hB
  by_cases h0 : d = -1
  · subst h0
    have H := Lib.hid (argB_int (n := n) (least := -1) (t := ⟨-1, i⟩) rfl)
    by_cases h1 : i = 0
    · subst h1
      go_enter Try.func119, Try.ntmps119
      go_wp2_with fail
      go_ret
      exact ⟨ret_bool (by rw [H.out]; rfl), HB.out _⟩
    · have h1' : (i == 0) = false := beq_eq_false_iff_ne.2 h1
      go_enter Try.func119, Try.ntmps119
      go_wp2_with fail
      go_ret
      exact ⟨ret_bool (by rw [H.out]; simp [h1]), HB.out _⟩
  · have h0' : (d == -1) = false := beq_eq_false_iff_ne.2 h0
    have H := Lib.hid (argB_data (n := n) (least := -1) (t := ⟨d, i⟩) h0)
    by_cases h1 : 0 ≤ d
    · by_cases h2 : d < n
      · by_cases h3 : -1 ≤ i
        · by_cases h4 : i ≤ 3
          · go_enter Try.func119, Try.ntmps119
            go_wp2_with fail
            go_ret
            exact ⟨ret_bool (by rw [H.out]; exact (decide_eq_true (by omega)).symm), HB.out _⟩
          · go_enter Try.func119, Try.ntmps119
            go_wp2_with fail
            go_ret
            exact ⟨ret_bool (by rw [H.out]; exact (decide_eq_false (by omega)).symm), HB.out _⟩
        · go_enter Try.func119, Try.ntmps119
          go_wp2_with fail
          go_ret
          exact ⟨ret_bool (by rw [H.out]; exact (decide_eq_false (by omega)).symm), HB.out _⟩
      · go_enter Try.func119, Try.ntmps119
        go_wp2_with fail
        go_ret
        exact ⟨ret_bool (by rw [H.out]; exact (decide_eq_false (by omega)).symm), HB.out _⟩
    · go_enter Try.func119, Try.ntmps119
      go_wp2_with fail
      go_ret
      exact ⟨ret_bool (by rw [H.out]; exact (decide_eq_false (by omega)).symm), HB.out _⟩
end Go.Proofs.Ytbeejeialjfdnaa
/-
  When constructors and data types are valid: the program's functions and the document's. No statement is proved here.
-/
namespace Go.Proofs.Ytbeejeialjfdnaa
open Go.RowKit
set_option maxRecDepth 100000
set_option linter.unusedVariables false
def AllTo {α : Type} (f : α → Bool) (l : List α) (k : Nat) : Prop := ∀ j (h : j < l.length), j < k → f l[j] = true
theorem AllTo.zero {α : Type} (f : α → Bool) (l : List α) : AllTo f l 0 := fun j _ h => absurd h (by omega)
theorem AllTo.step {α : Type} {f : α → Bool} {l : List α} {k : Nat} (h : AllTo f l k) (hk : k < l.length) (e : f l[k] = true) : AllTo f l (k + 1) := by
  intro j hj hjk
  by_cases e' : j = k
  · subst e'; exact e
  · exact h j hj (by omega)
theorem AllTo.all {α : Type} {f : α → Bool} {l : List α} {k : Nat} (h : AllTo f l k) (hk : l.length ≤ k) : l.all f = true := by
  rw [List.all_eq_true]
  intro x hx
  obtain ⟨j, hj, rfl⟩ := List.getElem_of_mem hx
  exact h j hj (by omega)
theorem all_bad {α : Type} {f : α → Bool} {l : List α} {k : Nat} (hk : k < l.length) (e : f l[k] = false) : l.all f = false := by
  rw [List.all_eq_false]
  exact ⟨l[k], List.getElem_mem hk, by rw [e]; decide⟩
theorem dname_size {s : ByteArray} (h : ¬ s.size = 1) : dnameB s = false := by unfold dnameB; rw [decide_eq_false h]; rfl
theorem dname_one {s : ByteArray} (h : s.size = 1) (h0 : 0 < s.size) : dnameB s = (upB (s[0]'h0).toNat && decide (¬ s.toList = [73])) := by
  unfold dnameB; rw [decide_eq_true h, head_eq h0]; rfl
theorem l1Data_any (s : ByteArray) (w : World) (hs : s.size ≤ maxLen) :
    Calls Try.prog 116 #[.string s] w fun e w' => e = .returned (.bool (dnameB s)) ∧ w = w' := by
  unfold maxLen at hs
  by_cases h1 : s.size = 1
  · have h0 : 0 < s.size := by omega
    have H := Lib.hid (dname_one h1 h0)
    have q : ((s.size : Int) == 1) = true := beq_iff_eq.2 (by omega)
    clear h1
    by_cases hu : upB (s[0]'h0).toNat = true
    · by_cases hi : s.toList = [73]
      · have q2 : (s.toList != [73]) = false := by rw [hi]; rfl
        have HI := Lib.hid hi
        clear hi
        go_enter Try.func116, Try.ntmps116
        go_wp2_with (go_at_call 139; refine (big_any _ _).mono ?_; rintro e w' ⟨rfl, rfl⟩)
        go_ret
        exact ⟨ret_bool (by rw [H.out, hu]; simp [HI.out]), rfl⟩
      · have q2 : (s.toList != [73]) = true := by rw [bne, beq_eq_false_iff_ne.2 hi]; rfl
        have HI := Lib.hid hi
        clear hi
        go_enter Try.func116, Try.ntmps116
        go_wp2_with (go_at_call 139; refine (big_any _ _).mono ?_; rintro e w' ⟨rfl, rfl⟩)
        go_ret
        exact ⟨ret_bool (by rw [H.out, hu]; simp [HI.out]), rfl⟩
    · have hu' : upB (s[0]'h0).toNat = false := by simpa using hu
      clear hu
      go_enter Try.func116, Try.ntmps116
      go_wp2_with (go_at_call 139; refine (big_any _ _).mono ?_; rintro e w' ⟨rfl, rfl⟩)
      go_ret
      exact ⟨ret_bool (by rw [H.out, hu']; rfl), rfl⟩
  · have q : ((s.size : Int) == 1) = false := beq_eq_false_iff_ne.2 (by omega)
    have H := Lib.hid (dname_size h1)
    clear h1
    go_enter Try.func116, Try.ntmps116
    go_wp2_with fail
    go_ret
    exact ⟨ret_bool H.out.symm, rfl⟩
theorem ctor_name {n : Int} {c : Ct} (h : nameB c.name = false) : false = ctorB n c := by unfold ctorB; rw [h]; rfl
theorem ctor_args {n : Int} {c : Ct} (h : ¬ c.args.length ≤ 3) : false = ctorB n c := by unfold ctorB; rw [decide_eq_false h]; simp
theorem ctor_index {n : Int} {c : Ct} (h : ¬ (0 ≤ c.index ∧ c.index ≤ 3)) : false = ctorB n c := by unfold ctorB; rw [decide_eq_false h]; simp
theorem ctor_bad {n : Int} {c : Ct} (h : c.args.all (argB n (-1)) = false) : false = ctorB n c := by unfold ctorB; rw [h]; simp
theorem ctor_good {n : Int} {c : Ct} (h1 : nameB c.name = true) (h2 : c.args.length ≤ 3) (h3 : 0 ≤ c.index ∧ c.index ≤ 3) (h : c.args.all (argB n (-1)) = true) : true = ctorB n c := by
  unfold ctorB; rw [h, h1, decide_eq_true h2, decide_eq_true h3]; rfl
theorem below_one {w w' : World} {o : Obj} (h : Below (w.alloc o).heap.size (w.alloc o) w') : Below w.heap.size w w' :=
  ((Below.refl _ _).alloc (Nat.le_refl _) _).trans (h.mono (by simp))
theorem keep_one {w : World} (o : Obj) : ∀ p : Addr, p.block < w.heap.size → (w.alloc o).cell? p = w.cell? p := fun p hp => World.cell?_alloc_lt _ _ _ hp
set_option maxHeartbeats 800000 in
theorem l1Ctor_any (c : Ct) (A : Option Addr) (cap : Nat) (n : Int) (w : World) (hs : c.name.size ≤ maxLen) (hr : RTys w w.heap.size A c.args) :
    Calls Try.prog 117 #[.int .i64 n, .agg #[.string c.name, .slice A c.args.length cap, .int .i64 c.index]] w fun e w' => e = .returned (.bool (ctorB n c)) ∧ Below w.heap.size w w' := by
  have hn := hr.1
  unfold maxLen at hn
  have Hr := Lib.hid hr
  clear hr
  have HB : Hid (∀ o : Obj, Below w.heap.size w (w.alloc o)) := fun o => (Below.refl _ _).alloc (Nat.le_refl _) _
  by_cases h1 : nameB c.name = true
  · by_cases h2 : c.args.length ≤ 3
    · by_cases h3 : 0 ≤ c.index
      · by_cases h4 : c.index ≤ 3
        · go_enter Try.func117, Try.ntmps117
          go_wp2_with (go_at_call 140; refine (nameV_spec _ _ hs).mono ?_; rintro e w' ⟨rfl, rfl⟩)
          go_loopw [5] (fun i wr => ∃ k : Nat, k ≤ c.args.length ∧ i = .int .i64 k ∧ AllTo (argB n (-1)) c.args k ∧ wr.cell? ⟨w.heap.size, 1, none⟩ = some (.slice A c.args.length cap) ∧ w.heap.size < wr.heap.size ∧ Below w.heap.size w wr) (fun i _ => c.args.length - (intOf i).toNat)
          case atStart => exact ⟨0, by omega, rfl, AllTo.zero _ _, by simp [go_sem], by simp, HB.out _⟩
          case round =>
            obtain ⟨k, hk, rfl, hu, b1, hlw, hb⟩ := hrel
            by_cases hlt : k < c.args.length
            · obtain ⟨b, off, rfl, hbB, c0, c1⟩ := (Hr.out.below hb (Nat.le_refl _)).2 k hlt
              by_cases he : argB n (-1) c.args[k] = true
              · go_wp2_with (go_at_call 119; refine (arg_any _ _ _ _).mono ?_; rintro e w1 ⟨rfl, hb1⟩; have hb2 := hb.trans (hb1.mono hb.size); have b2 := (hb1.cell (p := ⟨w.heap.size, 1, none⟩) hlw).trans b1; have hlw2 := Nat.lt_of_lt_of_le hlw hb1.size)
                go_roundw
                case rel => exact ⟨k + 1, by omega, by go_num, hu.step hlt he, b2, hlw2, hb2⟩
                case measure => simp [intOf]; omega
              · have he' : argB n (-1) c.args[k] = false := by simpa using he
                have HE := Lib.hid (ctor_bad (n := n) (all_bad hlt he'))
                clear he
                go_wp2_with (go_at_call 119; refine (arg_any _ _ _ _).mono ?_; rintro e w1 ⟨rfl, hb1⟩; have hb2 := hb.trans (hb1.mono hb.size))
                go_ret
                exact ⟨ret_bool HE.out, hb2⟩
            · go_wp2_with fail
              go_ret
              exact ⟨ret_bool (ctor_good h1 h2 ⟨h3, h4⟩ (hu.all (by omega))), hb⟩
        · have H := Lib.hid (ctor_index (n := n) (c := c) (by omega))
          go_enter Try.func117, Try.ntmps117
          go_wp2_with (go_at_call 140; refine (nameV_spec _ _ hs).mono ?_; rintro e w' ⟨rfl, rfl⟩)
          go_ret
          exact ⟨ret_bool H.out, HB.out _⟩
      · have H := Lib.hid (ctor_index (n := n) (c := c) (by omega))
        go_enter Try.func117, Try.ntmps117
        go_wp2_with (go_at_call 140; refine (nameV_spec _ _ hs).mono ?_; rintro e w' ⟨rfl, rfl⟩)
        go_ret
        exact ⟨ret_bool H.out, HB.out _⟩
    · have H := Lib.hid (ctor_args (n := n) h2)
      have h2' : (3 : Int) < c.args.length := by omega
      go_enter Try.func117, Try.ntmps117
      go_wp2_with (go_at_call 140; refine (nameV_spec _ _ hs).mono ?_; rintro e w' ⟨rfl, rfl⟩)
      go_ret
      exact ⟨ret_bool H.out, HB.out _⟩
  · have h1' : nameB c.name = false := by simpa using h1
    clear h1
    go_enter Try.func117, Try.ntmps117
    go_wp2_with (go_at_call 140; refine (nameV_spec _ _ hs).mono ?_; rintro e w' ⟨rfl, rfl⟩)
    go_ret
    exact ⟨ret_bool (ctor_name h1'), HB.out _⟩
theorem data_name {n : Int} {d : Da} (h : dnameB d.name = false) : false = dataB n d := by unfold dataB; rw [h]; rfl
theorem data_len {n : Int} {d : Da} (h : ¬ (1 ≤ d.ctors.length ∧ d.ctors.length ≤ 4)) : false = dataB n d := by unfold dataB; rw [decide_eq_false h]; simp
theorem data_bad {n : Int} {d : Da} (h : d.ctors.all (ctorB n) = false) : false = dataB n d := by unfold dataB; rw [h]; simp
theorem data_good {n : Int} {d : Da} (h1 : dnameB d.name = true) (h2 : 1 ≤ d.ctors.length ∧ d.ctors.length ≤ 4) (h : d.ctors.all (ctorB n) = true) : true = dataB n d := by
  unfold dataB; rw [h, h1, decide_eq_true h2]; rfl
end Go.Proofs.Ytbeejeialjfdnaa
/-
  A map from strings to bools that the call itself has made, as a set of strings. No statement is proved here.
-/
namespace Go.Proofs.Ytbeejeialjfdnaa
open Go.RowKit Go.Maps
set_option maxRecDepth 100000
set_option linter.unusedVariables false
/-- Does it hold? -/
noncomputable def dec (p : Prop) : Bool := @decide p (Classical.propDecidable _)
theorem dec_t {p : Prop} (h : p) : dec p = true := by unfold dec; simp [h]
theorem dec_f {p : Prop} (h : ¬ p) : dec p = false := by unfold dec; simp [h]
theorem dec_congr {p q : Prop} (h : p ↔ q) : dec p = dec q := by
  by_cases hp : p
  · rw [dec_t hp, dec_t (h.1 hp)]
  · rw [dec_f hp, dec_f (fun hq => hp (h.2 hq))]
end Go.Proofs.Ytbeejeialjfdnaa
/-
  When the names of data types and constructors differ: the program's function. No statement is proved here.
-/
namespace Go.Proofs.Ytbeejeialjfdnaa
open Go.RowKit
set_option maxRecDepth 100000
set_option linter.unusedVariables false
abbrev bs (s : ByteArray) : List UInt8 := s.data.toList
/-- The names of the data types before place k; the names of the constructors before place j of data type k. -/
def SD (l : List Da) (k : Nat) (t : List UInt8) : Prop := ∃ i, ∃ h : i < l.length, i < k ∧ bs l[i].name = t
def SC (l : List Da) (k j : Nat) (t : List UInt8) : Prop := ∃ i, ∃ h : i < l.length, ∃ m, ∃ hm : m < l[i].ctors.length, (i < k ∨ (i = k ∧ m < j)) ∧ bs l[i].ctors[m].name = t
theorem SD.zero (l : List Da) (t : List UInt8) : False ↔ SD l 0 t := ⟨False.elim, fun ⟨i, _, h, _⟩ => absurd h (by omega)⟩
theorem SC.zero (l : List Da) (t : List UInt8) : False ↔ SC l 0 0 t := ⟨False.elim, fun ⟨i, _, m, _, h, _⟩ => by omega⟩
theorem SD.succ (l : List Da) (k : Nat) (hk : k < l.length) (t : List UInt8) : (t = bs l[k].name ∨ SD l k t) ↔ SD l (k + 1) t := by
  constructor
  · rintro (rfl | ⟨i, h, h1, h2⟩)
    · exact ⟨k, hk, by omega, rfl⟩
    · exact ⟨i, h, by omega, h2⟩
  · rintro ⟨i, h, h1, h2⟩
    by_cases e : i = k
    · subst e; exact .inl h2.symm
    · exact .inr ⟨i, h, by omega, h2⟩
theorem SC.succ (l : List Da) (k j : Nat) (hk : k < l.length) (hj : j < l[k].ctors.length) (t : List UInt8) : (t = bs l[k].ctors[j].name ∨ SC l k j t) ↔ SC l k (j + 1) t := by
  constructor
  · rintro (rfl | ⟨i, h, m, hm, h1, h2⟩)
    · exact ⟨k, hk, j, hj, .inr ⟨rfl, by omega⟩, rfl⟩
    · exact ⟨i, h, m, hm, by omega, h2⟩
  · rintro ⟨i, h, m, hm, h1, h2⟩
    by_cases e : i = k ∧ m = j
    · obtain ⟨rfl, rfl⟩ := e; exact .inl h2.symm
    · exact .inr ⟨i, h, m, hm, by omega, h2⟩
theorem SC.next (l : List Da) (k : Nat) (hk : k < l.length) (t : List UInt8) : SC l k l[k].ctors.length t ↔ SC l (k + 1) 0 t := by
  constructor
  · rintro ⟨i, h, m, hm, h1, h2⟩
    exact ⟨i, h, m, hm, by omega, h2⟩
  · rintro ⟨i, h, m, hm, h1, h2⟩
    refine ⟨i, h, m, hm, ?_, h2⟩
    by_cases e : i = k
    · subst e; exact .inr ⟨rfl, hm⟩
    · omega
/-- The names from data type d on that are new. -/
def NewC (l : List Da) (d : Nat) (hd : d < l.length) (k : Nat) : Prop := ∀ j (h : j < l[d].ctors.length), j < k → ¬ SC l d j (bs l[d].ctors[j].name)
def NewD (l : List Da) (k : Nat) : Prop := ∀ d (h : d < l.length), d < k → ¬ SD l d (bs l[d].name) ∧ NewC l d h l[d].ctors.length
def Differ (l : List Da) : Prop := NewD l l.length
theorem NewC.zero (l : List Da) (d : Nat) (hd : d < l.length) : NewC l d hd 0 := fun j _ h => absurd h (by omega)
theorem NewC.step {l : List Da} {d : Nat} {hd : d < l.length} {k : Nat} (h : NewC l d hd k) (hk : k < l[d].ctors.length) (e : ¬ SC l d k (bs l[d].ctors[k].name)) : NewC l d hd (k + 1) := by
  intro j hj hjk
  by_cases e' : j = k
  · subst e'; exact e
  · exact h j hj (by omega)
theorem NewD.zero (l : List Da) : NewD l 0 := fun j _ h => absurd h (by omega)
theorem NewD.step {l : List Da} {k : Nat} (h : NewD l k) (hk : k < l.length) (e : ¬ SD l k (bs l[k].name)) (e2 : NewC l k hk l[k].ctors.length) : NewD l (k + 1) := by
  intro d hd hdk
  by_cases e' : d = k
  · subst e'; exact ⟨e, e2⟩
  · exact h d hd (by omega)
end Go.Proofs.Ytbeejeialjfdnaa
/-
  When a name stands twice: the document's function. No statement is proved here.
-/
namespace Go.Proofs.Ytbeejeialjfdnaa
open Go.RowKit
set_option maxRecDepth 100000
set_option linter.unusedVariables false
theorem toList_inj {a b : ByteArray} (h : a.toList = b.toList) : a = b := Go.WideShapes.bytes_inj (by rw [← ByteArray.toList_eq, ← ByteArray.toList_eq]; exact h)
theorem str_eq_f {a b : ByteArray} (h : ¬ a = b) : (a.toList == b.toList) = false := beq_eq_false_iff_ne.2 (fun e => h (toList_inj e))
theorem below_drawn {B : Nat} {w wr : World} (h : Below B w wr) (n : Nat) : Below B w (wr.drewN n) := ⟨h.os, h.tape, h.output, h.size, h.block⟩
def Tw (l : List Da) (d k : Nat) : Prop := ∃ h : d < l.length, SD l d (bs l[d].name) ∨ ∃ hk : k < l[d].ctors.length, SC l d k (bs l[d].ctors[k].name)
/-- Nothing before data type i is a twin; nothing of it before place j. -/
def NoT (l : List Da) (d : Nat) (hd : d < l.length) (k : Nat) (hk : k < l[d].ctors.length) (i : Nat) : Prop :=
  ∀ a (h : a < l.length), a < i → (a < d → ¬ l[a].name = l[d].name) ∧ ∀ m (hm : m < l[a].ctors.length), (a < d ∨ (a = d ∧ m < k)) → ¬ l[a].ctors[m].name = l[d].ctors[k].name
def NoTI (l : List Da) (d : Nat) (hd : d < l.length) (k : Nat) (hk : k < l[d].ctors.length) (i : Nat) (hi : i < l.length) (j : Nat) : Prop :=
  ∀ m (hm : m < l[i].ctors.length), m < j → (i < d ∨ (i = d ∧ m < k)) → ¬ l[i].ctors[m].name = l[d].ctors[k].name
section
variable {l : List Da} {d : Nat} {hd : d < l.length} {k : Nat} {hk : k < l[d].ctors.length} {i : Nat} {hi : i < l.length} {j : Nat}
theorem NoT.zero : NoT l d hd k hk 0 := fun a _ h => absurd h (by omega)
theorem NoTI.zero : NoTI l d hd k hk i hi 0 := fun a _ h => absurd h (by omega)
theorem NoT.step (h : NoT l d hd k hk i) (h1 : i < d → ¬ l[i].name = l[d].name) (h2 : ∀ m (hm : m < l[i].ctors.length), (i < d ∨ (i = d ∧ m < k)) → ¬ l[i].ctors[m].name = l[d].ctors[k].name) : NoT l d hd k hk (i + 1) := by
  intro a ha hai
  by_cases e : a = i
  · subst e; exact ⟨h1, h2⟩
  · exact h a ha (by omega)
theorem NoTI.step (h : NoTI l d hd k hk i hi j) (hj : j < l[i].ctors.length) (e : ¬ l[i].ctors[j].name = l[d].ctors[k].name) : NoTI l d hd k hk i hi (j + 1) := by
  intro m hm hmj hc
  by_cases e' : m = j
  · subst e'; exact e
  · exact h m hm (by omega) hc
theorem NoT.done (h : NoT l d hd k hk (d + 1)) : ¬ Tw l d k := by
  rintro ⟨_, ⟨a, ha, had, e⟩ | ⟨_, a, ha, m, hm, hc, e⟩⟩
  · exact (h a ha (by omega)).1 had (Go.WideShapes.bytes_inj e)
  · exact (h a ha (by omega)).2 m hm hc (Go.WideShapes.bytes_inj e)
theorem tw_d (hid : i < d) (hi : i < l.length) (hd : d < l.length) (e : l[i].name = l[d].name) : Tw l d k := ⟨hd, .inl ⟨i, hi, hid, by rw [e]⟩⟩
theorem tw_c (hi : i < l.length) (hd : d < l.length) (hk : k < l[d].ctors.length) (hj : j < l[i].ctors.length) (hc : i < d ∨ (i = d ∧ j < k)) (e : l[i].ctors[j].name = l[d].ctors[k].name) : Tw l d k :=
  ⟨hd, .inr ⟨hk, i, hi, j, hj, hc, by rw [e]⟩⟩
end
set_option maxHeartbeats 2000000 in
theorem twice_any (A : Option Addr) (l : List Da) (cap : Nat) (d k : Nat) (hd : d < l.length) (hk : k < l[d].ctors.length) (w : World) (hr : RDas w w.heap.size A l) :
    Calls Try.prog 118 #[.slice A l.length cap, .int .i64 d, .int .i64 k] w fun e w' => e = .returned (.bool (dec (Tw l d k))) ∧ Below w.heap.size w w' := by
  have hn := hr.1
  unfold maxLen at hn
  obtain ⟨b, off, rfl, hbB, A', cp, c0, c1, hszd, hmd⟩ := hr.2 d hd
  have hnd := hmd.1
  unfold maxLen at hnd
  obtain ⟨g, o, rfl, hgB, D1, ep, f0, f1, f2, hszk, _⟩ := hmd.2 k hk
  have Hr := Lib.hid hr
  have HMD := Lib.hid hmd
  clear hr hmd
  have HC0 := Lib.hid c0
  have HC1 := Lib.hid c1
  have HF0 := Lib.hid f0
  clear c0 c1 f0 f1 f2
  have hdI : (d : Int) < (l.length : Int) := by omega
  have hkI : (k : Int) < (l[d].ctors.length : Int) := by omega
  go_enter Try.func118, Try.ntmps118
  go_wp2_with fail
  go_loopw [7] (fun x wr => ∃ i : Nat, i ≤ d + 1 ∧ x = .int .i64 i ∧ NoT l d hd k hk i ∧ Below w.heap.size w wr) (fun x _ => d + 1 - (intOf x).toNat)
  case atStart => exact ⟨0, by omega, rfl, NoT.zero, Below.refl _ _⟩
  case round =>
    obtain ⟨i, hi, rfl, hno, hb⟩ := hrel
    have c0 := (hb.cell (p := ⟨b, off + d * 2, none⟩) hbB).trans HC0.out
    have c1 := (hb.cell (p := ⟨b, off + d * 2 + 1, none⟩) hbB).trans HC1.out
    have f0 := (hb.cell (p := ⟨g, o + k * 3, none⟩) hgB).trans HF0.out
    have HB2 : Hid (∀ n, Below w.heap.size w (wr.drewN n)) := fun n => below_drawn hb n
    by_cases hid : i < d
    · have hil : i < l.length := by omega
      have hiI : (i : Int) < (l.length : Int) := by omega
      obtain ⟨b', off', e', hbB', Ai, cpi, p0, p1, hszi, hmi⟩ := (Hr.out.below hb (Nat.le_refl _)).2 i hil
      cases e'
      have hni := hmi.1
      unfold maxLen at hni
      have Hmi := Lib.hid (hmi.keep (w' := w) (fun p hp => (hb.cell hp).symm) (Nat.le_refl _))
      have HP1 := Lib.hid ((hb.cell (p := ⟨b, off + i * 2 + 1, none⟩) hbB).symm.trans p1)
      clear hmi
      by_cases hne : l[i].name = l[d].name
      · have HT := Lib.hid (tw_d (k := k) hid hil hd hne)
        rw [hne] at p0
        clear hne
        go_wp2_with fail
        go_quiet (fail)
        go_wp2_with fail
        go_ret
        exact ⟨ret_bool (dec_t HT.out).symm, HB2.out _⟩
      · have s1 := str_eq_f hne
        have s1' : ¬ l[i].name.toList = l[d].name.toList := fun e => hne (toList_inj e)
        have HN := Lib.hid hne
        clear hne
        go_wp2_with fail
        go_quiet (fail)
        go_wp2_with fail
        go_loopw [8] (fun x wi => ∃ j : Nat, j ≤ l[i].ctors.length ∧ x = .int .i64 j ∧ NoTI l d hd k hk i hil j ∧ Below w.heap.size w wi) (fun x _ => l[i].ctors.length - (intOf x).toNat)
        case atStart => exact ⟨0, by omega, rfl, NoTI.zero, HB2.out _⟩
        case round =>
          obtain ⟨j, hj, rfl, hni2, hbi⟩ := hrel
          clear c0 c1 f0 p0 p1 HB2 hb s1 s1'
          have c1 := (hbi.cell (p := ⟨b, off + d * 2 + 1, none⟩) hbB).trans HC1.out
          have p1 := (hbi.cell (p := ⟨b, off + i * 2 + 1, none⟩) hbB).trans HP1.out
          have f0 := (hbi.cell (p := ⟨g, o + k * 3, none⟩) hgB).trans HF0.out
          have HB3 : Hid (∀ n, Below w.heap.size w (wr.drewN n)) := fun n => below_drawn hbi n
          by_cases hjt : j < l[i].ctors.length
          · have hjI : (j : Int) < (l[i].ctors.length : Int) := by omega
            obtain ⟨g', o', rfl, hgB', D2, ep2, e0, e1, e2, _, _⟩ := (Hmi.out.below hbi (Nat.le_refl _)).2 j hjt
            clear e1 e2
            by_cases hne : l[i].ctors[j].name = l[d].ctors[k].name
            · have HT := Lib.hid (tw_c hil hd hk hjt (.inl hid) hne)
              rw [hne] at e0
              clear hne
              go_wp2_with fail
              go_quiet (fail)
              go_wp2_with fail
              go_ret
              exact ⟨ret_bool (dec_t HT.out).symm, HB3.out _⟩
            · have s1 := str_eq_f hne
              have s1' : ¬ l[i].ctors[j].name.toList = l[d].ctors[k].name.toList := fun e => hne (toList_inj e)
              have HN2 := Lib.hid hne
              clear hne
              go_wp2_with fail
              go_quiet (fail)
              go_wp2_with fail
              go_roundw
              case rel => exact ⟨j + 1, by omega, by go_num, hni2.step hjt HN2.out, HB3.out _⟩
              case measure => simp [intOf]; omega
          · go_wp2_with fail
            go_roundw
            case rel => exact ⟨i + 1, by omega, by go_num, hno.step (fun _ => HN.out) (fun m hm hc => hni2 m hm (by omega) hc), hbi⟩
            case measure => simp [intOf]; omega
    · by_cases hie : i = d
      · obtain rfl : d = i := hie.symm
        clear hie
        have hdd : decide ((d : Int) < (d : Int)) = false := by simp
        clear c0 f0
        go_wp2_with fail
        go_quiet (fail)
        go_wp2_with fail
        go_loopw [8] (fun x wi => ∃ j : Nat, j ≤ k ∧ x = .int .i64 j ∧ NoTI l d hd k hk d hd j ∧ Below w.heap.size w wi) (fun x _ => k - (intOf x).toNat)
        case atStart => exact ⟨0, by omega, rfl, NoTI.zero, HB2.out _⟩
        case round =>
          obtain ⟨j, hj, rfl, hni2, hbi⟩ := hrel
          clear HB2 hb c1
          have f0 := (hbi.cell (p := ⟨g, o + k * 3, none⟩) hgB).trans HF0.out
          have c1 := (hbi.cell (p := ⟨b, off + d * 2 + 1, none⟩) hbB).trans HC1.out
          have HB3 : Hid (∀ n, Below w.heap.size w (wr.drewN n)) := fun n => below_drawn hbi n
          by_cases hjt : j < k
          · have hjl : j < l[d].ctors.length := by omega
            have hjI : (j : Int) < (l[d].ctors.length : Int) := by omega
            have hjK : (j : Int) < (k : Int) := by omega
            obtain ⟨g', o', e', hgB', D2, ep2, e0, e1, e2, _, _⟩ := (HMD.out.below hbi (Nat.le_refl _)).2 j hjl
            cases e'
            clear e1 e2
            by_cases hne : l[d].ctors[j].name = l[d].ctors[k].name
            · have HT := Lib.hid (tw_c (i := d) hd hd hk hjl (.inr ⟨rfl, hjt⟩) hne)
              rw [hne] at e0
              clear hne
              go_wp2_with fail
              go_quiet (fail)
              go_wp2_with fail
              go_ret
              exact ⟨ret_bool (dec_t HT.out).symm, HB3.out _⟩
            · have s1 := str_eq_f hne
              have s1' : ¬ l[d].ctors[j].name.toList = l[d].ctors[k].name.toList := fun e => hne (toList_inj e)
              have HN2 := Lib.hid hne
              clear hne
              go_wp2_with fail
              go_quiet (fail)
              go_wp2_with fail
              go_roundw
              case rel => exact ⟨j + 1, by omega, by go_num, hni2.step hjl HN2.out, HB3.out _⟩
              case measure => simp [intOf]; omega
          · have hjI : (j : Int) < (l[d].ctors.length : Int) := by omega
            have hjK : decide ((j : Int) < (k : Int)) = false := by simp; omega
            go_wp2_with fail
            go_roundw
            case rel => exact ⟨d + 1, by omega, by go_num, hno.step (fun h => absurd h (by omega)) (fun m hm hc => hni2 m hm (by omega) hc), hbi⟩
            case measure => simp [intOf]
      · have hi1 : i = d + 1 := by omega
        have HD : Hid (NoT l d hd k hk (d + 1)) := by rw [← hi1]; exact hno
        have hgt : (d : Int) < (i : Int) := by omega
        clear hi1 c0 c1 f0
        go_wp2_with fail
        go_ret
        exact ⟨ret_bool (dec_f HD.out.done).symm, hb⟩
end Go.Proofs.Ytbeejeialjfdnaa
/-
  When a list of data types is a world: the program's function and the document's. No statement is proved here.
-/
namespace Go.Proofs.Ytbeejeialjfdnaa
open Go.RowKit
set_option maxRecDepth 100000
set_option linter.unusedVariables false
def WorldOK (l : List Da) : Prop := l.length ≤ 4 ∧ AllTo (dataB l.length) l l.length ∧ Differ l
theorem not_world_len {l : List Da} (h : ¬ l.length ≤ 4) : ¬ WorldOK l := fun e => h e.1
theorem not_world_data {l : List Da} {k : Nat} (hk : k < l.length) (h : dataB l.length l[k] = false) : ¬ WorldOK l := fun e => by
  have := e.2.1 k hk hk
  rw [h] at this
  cases this
theorem data_len4 {n : Int} {d : Da} (h : dataB n d = true) : 1 ≤ d.ctors.length ∧ d.ctors.length ≤ 4 := by
  by_cases h' : 1 ≤ d.ctors.length ∧ d.ctors.length ≤ 4
  · exact h'
  · have := data_len (n := n) h'; rw [h] at this; cases this
/-- What the document's function has seen before data type d, and before its constructor k. -/
def Seen (l : List Da) (d : Nat) : Prop := ∀ a (h : a < l.length), a < d → dataB l.length l[a] = true ∧ ∀ m (hm : m < l[a].ctors.length), ¬ Tw l a m
def SeenC (l : List Da) (d : Nat) (hd : d < l.length) (k : Nat) : Prop := ∀ m (hm : m < l[d].ctors.length), m < k → ctorB l.length l[d].ctors[m] = true ∧ ¬ Tw l d m
theorem Seen.zero (l : List Da) : Seen l 0 := fun a _ h => absurd h (by omega)
theorem SeenC.zero (l : List Da) (d : Nat) (hd : d < l.length) : SeenC l d hd 0 := fun a _ h => absurd h (by omega)
theorem SeenC.step {l : List Da} {d : Nat} {hd : d < l.length} {k : Nat} (h : SeenC l d hd k) (hk : k < l[d].ctors.length) (h1 : ctorB l.length l[d].ctors[k] = true) (h2 : ¬ Tw l d k) : SeenC l d hd (k + 1) := by
  intro m hm hmk
  by_cases e : m = k
  · subst e; exact ⟨h1, h2⟩
  · exact h m hm (by omega)
theorem Seen.step {l : List Da} {d : Nat} (h : Seen l d) (hd : d < l.length) (h1 : dnameB l[d].name = true) (h2 : 1 ≤ l[d].ctors.length ∧ l[d].ctors.length ≤ 4) (h3 : SeenC l d hd l[d].ctors.length) : Seen l (d + 1) := by
  intro a ha had
  by_cases e : a = d
  · subst e
    exact ⟨(data_good h1 h2 (AllTo.all (k := l[a].ctors.length) (fun j hj _ => (h3 j hj hj).1) (Nat.le_refl _))).symm, fun m hm => (h3 m hm hm).2⟩
  · exact h a ha (by omega)
theorem Seen.done {l : List Da} (h4 : l.length ≤ 4) (h : Seen l l.length) : WorldOK l := by
  refine ⟨h4, fun j hj _ => (h j hj hj).1, fun d hd _ => ?_⟩
  have hl := (data_len4 (h d hd hd).1).1
  exact ⟨fun e => (h d hd hd).2 0 hl ⟨hd, .inl e⟩, fun j hj _ e => (h d hd hd).2 j hj ⟨hd, .inr ⟨hj, e⟩⟩⟩
theorem not_world_tw {l : List Da} {d k : Nat} (hd : d < l.length) (hk : k < l[d].ctors.length) (e : Tw l d k) : ¬ WorldOK l := by
  rintro ⟨_, _, h⟩
  obtain ⟨_, e | ⟨_, e⟩⟩ := e
  · exact (h d hd hd).1 e
  · exact (h d hd hd).2 k hk hk e
theorem not_world_ctor {l : List Da} {d k : Nat} (hd : d < l.length) (hk : k < l[d].ctors.length) (e : ctorB l.length l[d].ctors[k] = false) : ¬ WorldOK l :=
  not_world_data hd (data_bad (all_bad hk e)).symm
end Go.Proofs.Ytbeejeialjfdnaa
/-
  When a list of data types is a world: the document's function. No statement is proved here.
-/
namespace Go.Proofs.Ytbeejeialjfdnaa
open Go.RowKit
set_option maxRecDepth 100000
set_option linter.unusedVariables false
set_option maxHeartbeats 1600000 in
theorem worldValid_spec (A : Option Addr) (l : List Da) (cap : Nat) (w : World) (hr : RDas w w.heap.size A l) :
    Calls Try.prog 87 #[.slice A l.length cap] w fun e w' => e = .returned (.bool (dec (WorldOK l))) ∧ Below w.heap.size w w' := by
  have hn := hr.1
  unfold maxLen at hn
  have Hr := Lib.hid hr
  clear hr
  by_cases h4 : l.length ≤ 4
  · go_enter Try.func87, Try.ntmps87
    go_wp2_with fail
    go_loopw [3] (fun i wr => ∃ d : Nat, d ≤ l.length ∧ i = .int .i64 d ∧ Seen l d ∧ Below w.heap.size w wr) (fun i _ => l.length - (intOf i).toNat)
    case atStart => exact ⟨0, by omega, rfl, Seen.zero l, Below.refl _ _⟩
    case round =>
      obtain ⟨d, hd, rfl, hv, hb⟩ := hrel
      by_cases hlt : d < l.length
      · have hdI : (d : Int) < (l.length : Int) := by omega
        obtain ⟨b, off, rfl, hbB, A', cp, c0, c1, hsz, hm⟩ := (Hr.out.below hb (Nat.le_refl _)).2 d hlt
        have hnl := hm.1
        unfold maxLen at hnl
        have Hm := Lib.hid (hm.keep (w' := w) (fun p hp => (hb.cell hp).symm) (Nat.le_refl _))
        have HC1 := Lib.hid ((hb.cell (p := ⟨b, off + d * 2 + 1, none⟩) hbB).symm.trans c1)
        clear hm
        by_cases h1 : dnameB l[d].name = true
        · by_cases h2 : 1 ≤ l[d].ctors.length
          · have q0 : ((l[d].ctors.length : Int) == 0) = false := beq_eq_false_iff_ne.2 (by omega)
            by_cases h3 : l[d].ctors.length ≤ 4
            · have q4 : decide ((4 : Int) < l[d].ctors.length) = false := by simp; omega
              go_wp2_with (go_at_call 116; refine (l1Data_any _ _ hsz).mono ?_; rintro e w' ⟨rfl, rfl⟩)
              go_loopw [4] (fun i wi => ∃ k : Nat, k ≤ l[d].ctors.length ∧ i = .int .i64 k ∧ SeenC l d hlt k ∧ Below w.heap.size w wi) (fun i _ => l[d].ctors.length - (intOf i).toNat)
              case atStart => exact ⟨0, by omega, rfl, SeenC.zero l d hlt, hb⟩
              case round =>
                obtain ⟨k, hk, rfl, hvc, hbi⟩ := hrel
                clear hb c0 c1
                have c1 := (hbi.cell (p := ⟨b, off + d * 2 + 1, none⟩) hbB).trans HC1.out
                by_cases hkt : k < l[d].ctors.length
                · have hkI : (k : Int) < (l[d].ctors.length : Int) := by omega
                  obtain ⟨g, o, rfl, hgB, D1, ep, e0, e1, e2, hszk, hmk⟩ := (Hm.out.below hbi (Nat.le_refl _)).2 k hkt
                  have Hmk := Lib.hid (hmk.keep (fun _ _ => rfl) hbi.size)
                  clear hmk
                  by_cases he : ctorB l.length l[d].ctors[k] = true
                  · by_cases ht : Tw l d k
                    · have HT := Lib.hid (not_world_tw hlt hkt ht)
                      have hq := dec_t ht
                      clear ht
                      go_wp2_with (first | (go_at_call 117; refine (l1Ctor_any l[d].ctors[k] _ _ _ _ hszk Hmk.out).mono ?_; rintro e w1 ⟨rfl, hb1⟩; have hb2 := hbi.trans (hb1.mono hbi.size)) | (go_at_call 118; refine (twice_any _ l _ d k hlt hkt _ (Hr.out.keep (fun p hp => hb2.cell hp) hb2.size)).mono ?_; rintro e w2 ⟨rfl, hb1'⟩; have hb3 := hb2.trans (hb1'.mono hb2.size)))
                      go_ret
                      exact ⟨ret_bool (dec_f HT.out).symm, hb3⟩
                    · have HT := Lib.hid ht
                      have hq := dec_f ht
                      clear ht
                      go_wp2_with (first | (go_at_call 117; refine (l1Ctor_any l[d].ctors[k] _ _ _ _ hszk Hmk.out).mono ?_; rintro e w1 ⟨rfl, hb1⟩; have hb2 := hbi.trans (hb1.mono hbi.size)) | (go_at_call 118; refine (twice_any _ l _ d k hlt hkt _ (Hr.out.keep (fun p hp => hb2.cell hp) hb2.size)).mono ?_; rintro e w2 ⟨rfl, hb1'⟩; have hb3 := hb2.trans (hb1'.mono hb2.size)))
                      go_roundw
                      case rel => exact ⟨k + 1, by omega, by go_num, hvc.step hkt he HT.out, hb3⟩
                      case measure => simp [intOf]; omega
                  · have he' : ctorB l.length l[d].ctors[k] = false := by simpa using he
                    have HT := Lib.hid (not_world_ctor hlt hkt he')
                    clear he
                    go_wp2_with (go_at_call 117; refine (l1Ctor_any l[d].ctors[k] _ _ _ _ hszk Hmk.out).mono ?_; rintro e w1 ⟨rfl, hb1⟩; have hb2 := hbi.trans (hb1.mono hbi.size))
                    go_ret
                    exact ⟨ret_bool (dec_f HT.out).symm, hb2⟩
                · have HV : Hid (SeenC l d hlt l[d].ctors.length) := fun m hm _ => hvc m hm (by omega)
                  go_wp2_with fail
                  go_roundw
                  case rel => exact ⟨d + 1, by omega, by go_num, hv.step hlt h1 ⟨h2, h3⟩ HV.out, hbi⟩
                  case measure => simp [intOf]; omega
            · have q4 : (4 : Int) < l[d].ctors.length := by omega
              have HT := Lib.hid (not_world_data hlt (data_len (n := l.length) (d := l[d]) (by omega)).symm)
              go_wp2_with (go_at_call 116; refine (l1Data_any _ _ hsz).mono ?_; rintro e w' ⟨rfl, rfl⟩)
              go_ret
              exact ⟨ret_bool (dec_f HT.out).symm, hb⟩
          · have q0 : ((l[d].ctors.length : Int) == 0) = true := beq_iff_eq.2 (by omega)
            have HT := Lib.hid (not_world_data hlt (data_len (n := l.length) (d := l[d]) (by omega)).symm)
            go_wp2_with (go_at_call 116; refine (l1Data_any _ _ hsz).mono ?_; rintro e w' ⟨rfl, rfl⟩)
            go_ret
            exact ⟨ret_bool (dec_f HT.out).symm, hb⟩
        · have h1' : dnameB l[d].name = false := by simpa using h1
          have HT := Lib.hid (not_world_data hlt (data_name (n := l.length) h1').symm)
          clear h1
          go_wp2_with (go_at_call 116; refine (l1Data_any _ _ hsz).mono ?_; rintro e w' ⟨rfl, rfl⟩)
          go_ret
          exact ⟨ret_bool (dec_f HT.out).symm, hb⟩
      · have HV : Hid (Seen l l.length) := fun a ha _ => hv a ha (by omega)
        go_wp2_with fail
        go_ret
        exact ⟨ret_bool (dec_t (HV.out.done h4)).symm, hb⟩
  · have HE := Lib.hid (not_world_len h4)
    go_enter Try.func87, Try.ntmps87
    go_wp2_with fail
    go_ret
    exact ⟨ret_bool (dec_f HE.out).symm, Below.refl _ _⟩
end Go.Proofs.Ytbeejeialjfdnaa
/-
  When a type is one of a world: the program's function and the document's. No statement is proved here.
-/
namespace Go.Proofs.Ytbeejeialjfdnaa
open Go.RowKit
set_option maxRecDepth 100000
set_option linter.unusedVariables false
def TyOK (l : List Da) (t : Ty) : Prop := WorldOK l ∧ argB l.length 0 t = true
end Go.Proofs.Ytbeejeialjfdnaa
/-
  The constructors that can make values of a type: the program's function and the document's. No statement is proved here.
-/
namespace Go.Proofs.Ytbeejeialjfdnaa
open Go.RowKit
set_option maxRecDepth 100000
set_option linter.unusedVariables false
def fitsB (a i : Int) : Bool := decide (a = 0 ∨ i = 0 ∨ a = i)
theorem fits_t {a i : Int} (h : a = 0 ∨ i = 0 ∨ a = i) : true = fitsB a i := (decide_eq_true h).symm
theorem fits_f {a i : Int} (h : ¬ (a = 0 ∨ i = 0 ∨ a = i)) : false = fitsB a i := (decide_eq_false h).symm
theorem ieq_t {a b : Int} (h : a = b) : (a == b) = true := beq_iff_eq.2 h
theorem ieq_f {a b : Int} (h : ¬ a = b) : (a == b) = false := beq_eq_false_iff_ne.2 h
theorem fits_any (nm : ByteArray) (A : Option Addr) (n cap : Nat) (a i : Int) (w : World) :
    Calls Try.prog 122 #[.agg #[.string nm, .slice A n cap, .int .i64 a], .int .i64 i] w fun e w' => e = .returned (.bool (fitsB a i)) ∧ Below w.heap.size w w' := by
  have HB : Hid (∀ o : Obj, Below w.heap.size w (w.alloc o)) := fun o => (Below.refl _ _).alloc (Nat.le_refl _) _
  by_cases h1 : a = 0
  · have H := Lib.hid (fits_t (a := a) (i := i) (.inl h1))
    have q1 := ieq_t h1
    clear h1
    go_enter Try.func122, Try.ntmps122
    go_wp2_with fail
    go_ret
    exact ⟨ret_bool H.out, HB.out _⟩
  · have q1 := ieq_f h1
    by_cases h2 : i = 0
    · have H := Lib.hid (fits_t (a := a) (i := i) (.inr (.inl h2)))
      have q2 := ieq_t h2
      clear h1 h2
      go_enter Try.func122, Try.ntmps122
      go_wp2_with fail
      go_ret
      exact ⟨ret_bool H.out, HB.out _⟩
    · have q2 := ieq_f h2
      by_cases h3 : a = i
      · have H := Lib.hid (fits_t (a := a) (i := i) (.inr (.inr h3)))
        have q3 := ieq_t h3
        clear h1 h2 h3
        go_enter Try.func122, Try.ntmps122
        go_wp2_with fail
        go_ret
        exact ⟨ret_bool H.out, HB.out _⟩
      · have H := Lib.hid (fits_f (a := a) (i := i) (by simp [h1, h2, h3]))
        have q3 := ieq_f h3
        clear h1 h2 h3
        go_enter Try.func122, Try.ntmps122
        go_wp2_with fail
        go_ret
        exact ⟨ret_bool H.out, HB.out _⟩
/-- The places before k of the constructors that fit an index. -/
def ctL (cs : List Ct) (i : Int) : Nat → List Int
  | 0 => []
  | k + 1 => ctL cs i k ++ (if fitsB (cs.getD k default).index i then [(k : Int)] else [])
theorem ctL_yes {cs : List Ct} {i : Int} {k : Nat} (hk : k < cs.length) (h : fitsB cs[k].index i = true) : ctL cs i (k + 1) = ctL cs i k ++ [(k : Int)] := by
  show ctL cs i k ++ _ = _
  have e : cs.getD k default = cs[k] := by simp [List.getD, List.getElem?_eq_getElem hk]
  rw [e, h]; rfl
theorem ctL_no {cs : List Ct} {i : Int} {k : Nat} (hk : k < cs.length) (h : fitsB cs[k].index i = false) : ctL cs i (k + 1) = ctL cs i k := by
  show ctL cs i k ++ _ = _
  have e : cs.getD k default = cs[k] := by simp [List.getD, List.getElem?_eq_getElem hk]
  rw [e, h]; simp
theorem ctL_length (cs : List Ct) (i : Int) : ∀ k, (ctL cs i k).length ≤ k
  | 0 => Nat.le_refl _
  | k + 1 => by
    have := ctL_length cs i k
    show (ctL cs i k ++ _).length ≤ k + 1
    rw [List.length_append]
    split <;> simp <;> omega
/-- Integers in a row of the call's own. -/
def OInts (w : World) (lo : Nat) (v : Value) (xs : List Int) : Prop := w.ownsRow lo 3 1 v xs.length (xs.map (Value.int .i64))
theorem info3 : (Try.prog.info? 3).map (fun i => (i.zero, i.size, i.bytes)) = some (some (.int .i64 0), 1, 8) := by kernel_rfl
end Go.Proofs.Ytbeejeialjfdnaa
/-
  The functions that compare types, constructors and data types, where both sides read as the same. No statement is proved here.
-/
namespace Go.Proofs.Ytbeejeialjfdnaa
open Go.RowKit Go.Sort
set_option maxRecDepth 100000
set_option linter.unusedVariables false
theorem keep_two {w : World} (o o' : Obj) : ∀ p : Addr, p.block < w.heap.size → ((w.alloc o).alloc o').cell? p = w.cell? p := fun p hp => by
  rw [World.cell?_alloc_lt _ _ _ (by simp; omega), World.cell?_alloc_lt _ _ _ hp]
end Go.Proofs.Ytbeejeialjfdnaa
/-
  The constructors that can make values of a type: the document's function. No statement is proved here.
-/
namespace Go.Proofs.Ytbeejeialjfdnaa
open Go.RowKit Go.Sort
set_option maxRecDepth 100000
set_option linter.unusedVariables false
theorem cell_one_one (w : World) (x : Value) (t : TypeId) : ∀ j u, [x][j]? = some u → (w.alloc (.cells #[x] t)).cell? ((⟨w.heap.size, 0, none⟩ : Addr).add j) = some u := by
  intro j u hj
  match j, hj with
  | 0, hj => simp at hj; subst hj; simp [Addr.add, go_sem]
theorem fits_yes (nm : ByteArray) (A : Option Addr) (n cap : Nat) (a i : Int) (h : fitsB a i = true) (w : World) :
    Calls Try.prog 122 #[.agg #[.string nm, .slice A n cap, .int .i64 a], .int .i64 i] w fun e w' => e = .returned (.bool true) ∧ Below w.heap.size w w' := by rw [← h]; exact fits_any nm A n cap a i w
theorem fits_no (nm : ByteArray) (A : Option Addr) (n cap : Nat) (a i : Int) (h : fitsB a i = false) (w : World) :
    Calls Try.prog 122 #[.agg #[.string nm, .slice A n cap, .int .i64 a], .int .i64 i] w fun e w' => e = .returned (.bool false) ∧ Below w.heap.size w w' := by rw [← h]; exact fits_any nm A n cap a i w
set_option maxHeartbeats 1200000 in
theorem l1Ctors_data (A : Option Addr) (l : List Da) (cap d : Nat) (ix : Int) (hd : d < l.length) (h4 : l[d].ctors.length ≤ 4) (w : World) (hr : RDas w w.heap.size A l) :
    Calls Try.prog 98 #[.slice A l.length cap, .agg #[.int .i64 d, .int .i64 ix]] w fun e w' => ∃ v, e = .returned v ∧ OInts w' (w.heap.size + 1) v (ctL l[d].ctors ix l[d].ctors.length) ∧ Below w.heap.size w w' := by
  obtain ⟨i0, hi, hz0, hz1, hz2⟩ := info_parts info3
  have hn := hr.1
  unfold maxLen at hn
  obtain ⟨b, off, rfl, hbB, A', cp, c0, c1, hszd, hmd⟩ := hr.2 d hd
  have HMD := Lib.hid hmd
  have HC1 := Lib.hid c1
  clear hr hmd c0 c1
  have q0 : ((d : Int) == -1) = false := ieq_f (by omega)
  have hdI : (d : Int) < (l.length : Int) := by omega
  go_enter Try.func98, Try.ntmps98
  go_wp2_with fail
  generalize hw0 : (w.alloc (.cells #[.int .i64 d, .int .i64 ix] 25)).alloc (.cells #[] 3) = w0
  have HX0 : Hid (w0.cell? ⟨w.heap.size, 0, none⟩ = some (.int .i64 d)) := by unfold Hid; rw [← hw0]; simp [go_sem]
  have HX1 : Hid (w0.cell? ⟨w.heap.size, 1, none⟩ = some (.int .i64 ix)) := by unfold Hid; rw [← hw0]; simp [go_sem]
  have HS0 : Hid (w0.heap.size = w.heap.size + 2) := by unfold Hid; rw [← hw0]; simp
  have HK : Hid (∀ p : Addr, p.block < w.heap.size → w0.cell? p = w.cell? p) := fun p hp => by rw [← hw0]; exact keep_two _ _ p hp
  have HW : Hid (Below w.heap.size w w0) := by rw [← hw0]; exact ((Below.refl _ _).alloc (Nat.le_refl _) _).alloc (by simp) _
  have HO0 : Hid (OInts w0 (w.heap.size + 1) (.slice (some ⟨w.heap.size + 1, 0, none⟩) 0 0) []) := by
    unfold Hid OInts
    rw [← hw0]
    have := World.ownsRow_lit (base := w.heap.size + 1) (e := 3) (size := 1) (w.alloc (.cells #[.int .i64 d, .int .i64 ix] 25)) #[] 0 (by simp) (by simp) rfl
    simpa using this
  clear hw0
  go_loopw [5, 6] (fun v i wr => ∃ k : Nat, k ≤ l[d].ctors.length ∧ i = .int .i64 k ∧ OInts wr (w.heap.size + 1) v (ctL l[d].ctors ix k) ∧ Below (w.heap.size + 1) w0 wr) (fun _ i _ => l[d].ctors.length - (intOf i).toNat)
  case atStart => exact ⟨0, by omega, rfl, HO0.out, Below.refl _ _⟩
  case round =>
    obtain ⟨k, hk, rfl, hown, hb⟩ := hrel
    have HO := Lib.hid hown
    clear hown HO0
    have hlw : w.heap.size + 2 ≤ wr.heap.size := by have := hb.size; have := HS0.out; omega
    have x0 : wr.cell? ⟨w.heap.size, 0, none⟩ = some (.int .i64 d) := (hb.cell (p := ⟨w.heap.size, 0, none⟩) (by simp)).trans HX0.out
    have x1 : wr.cell? ⟨w.heap.size, 1, none⟩ = some (.int .i64 ix) := (hb.cell (p := ⟨w.heap.size, 1, none⟩) (by simp)).trans HX1.out
    have c1 : wr.cell? ⟨b, off + d * 2 + 1, none⟩ = some (.slice A' l[d].ctors.length cp) := ((hb.cell (p := ⟨b, off + d * 2 + 1, none⟩) (Nat.lt_succ_of_lt hbB)).trans (HK.out _ hbB)).trans HC1.out
    by_cases hkt : k < l[d].ctors.length
    · have hkI : (k : Int) < (l[d].ctors.length : Int) := by omega
      have HMr := HMD.out.keep (w' := wr) (fun p hp => (hb.cell (Nat.lt_succ_of_lt hp)).trans (HK.out p hp)) (Nat.le_refl _)
      obtain ⟨g, o, rfl, hgB, D1, ep, e0, e1, e2, hszk, hmk⟩ := HMr.2 k hkt
      clear hmk HMr
      have y0 := cell_regrown x0
      have y1 := cell_regrown x1
      have d1 := cell_regrown c1
      have f0 := cell_regrown e0
      have f1 := cell_regrown e1
      have f2 := cell_regrown e2
      by_cases hf : fitsB l[d].ctors[k].index ix = true
      · have HC := Lib.hid (ctL_yes hkt hf)
        have hL := ctL_length l[d].ctors ix k
        go_wp2_with fail
        clear x0 x1 c1 e0 e1 e2
        refine wp_region_quiet_below (by kernel_rfl) (by kernel_rfl) ?_
        repeat (quiet_step (exact Calls.regrown_of (fits_yes _ _ _ _ _ _ hf _)))
        refine wpQuiet_nil ?_
        intro w2 hw'
        have hb2 : Below wr.heap.size wr w2 := by obtain ⟨⟨dq, osq⟩, h⟩ := hw'; subst h; exact below_regrown wr dq osq
        clear hw' y0 y1 d1 f0 f1 f2
        have hlw2 : w.heap.size + 2 ≤ w2.heap.size := Nat.le_trans hlw hb2.size
        have ho : w2.ownsRow (w.heap.size + 1) 3 1 u5 (ctL l[d].ctors ix k).length ((ctL l[d].ctors ix k).map (Value.int .i64)) := own_below HO.out hb2
        go_wp2_with (at_builtin; refine wpList_append_own _ rfl _ _ 79 rfl (w.heap.size + 1) 3 i0 (.int .i64 0) 1 8 Try.underlying79 hi hz0 hz1 hz2 rfl (by decide) _ _ _ rfl (ho.alloc _) ⟨w2.heap.size, 0, none⟩ 1 1 [.int .i64 k] rfl rfl ?c1 ?c2 ?c3 ?c4 ?c5 ?_)
        case c1 => exact cell_one_one _ _ _
        case c2 => intro u hu; simp at hu; subst hu; rfl
        case c3 => unfold maxLen; omega
        case c4 => omega
        case c5 => simp; omega
        intro v' w1 hown' hgrow hnn
        have hb3 : Below (w.heap.size + 1) w0 w1 := ((hb.trans (hb2.mono (by omega))).alloc (by omega) _).grown hgrow (by simp; omega) (fun g' e => (ho.lt g' e).1)
        have ho2 : OInts w1 (w.heap.size + 1) v' (ctL l[d].ctors ix (k + 1)) := by unfold OInts; rw [HC.out]; simpa using hown'
        clear hown' hgrow hnn ho hL
        go_wp2_with fail
        go_roundw
        case rel => exact ⟨k + 1, by omega, by go_num, ho2, hb3⟩
        case measure => simp [intOf]; omega
      · have hf' : fitsB l[d].ctors[k].index ix = false := by simpa using hf
        have HC := Lib.hid (ctL_no hkt hf')
        clear hf
        go_wp2_with fail
        clear x0 x1 c1 e0 e1 e2
        refine wp_region_quiet_below (by kernel_rfl) (by kernel_rfl) ?_
        repeat (quiet_step (exact Calls.regrown_of (fits_no _ _ _ _ _ _ hf' _)))
        refine wpQuiet_nil ?_
        intro w2 hw'
        have hb2 : Below wr.heap.size wr w2 := by obtain ⟨⟨dq, osq⟩, h⟩ := hw'; subst h; exact below_regrown wr dq osq
        clear hw' y0 y1 d1 f0 f1 f2
        go_wp2_with fail
        go_roundw
        case rel => exact ⟨k + 1, by omega, by go_num, by rw [HC.out]; exact own_below HO.out hb2, hb.trans (hb2.mono (by omega))⟩
        case measure => simp [intOf]; omega
    · have hke : k = l[d].ctors.length := by omega
      have HO2 : Hid (OInts wr (w.heap.size + 1) u5 (ctL l[d].ctors ix l[d].ctors.length)) := by rw [← hke]; exact HO.out
      clear hke
      go_wp2_with fail
      go_ret
      exact ⟨_, rfl, HO2.out, HW.out.trans (hb.mono (by omega))⟩
end Go.Proofs.Ytbeejeialjfdnaa
