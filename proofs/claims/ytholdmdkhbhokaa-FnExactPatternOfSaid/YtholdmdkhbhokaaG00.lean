/-
  The function FnExactNameValid returns true for every string, and the string reads behind the call as it read before. No condition.
-/
import Derived.Test.YtholdmdkhbhokaaRows
import Derived.WalkKit
import Derived.WalkSpells
import Derived.ProofKit
import Derived.Lib.Hide
import Derived.BigQuiet
import Derived.Deep.QuietTactic
import Derived.Maps.Own
import Derived.Maps.OwnOps
import Derived.Maps.Views
import Derived.Lib.QuietBelow
import Derived.Laws.BytesString
import Derived.Deep.Fields
import Derived.Deep.Slices
import Derived.Maps.AppendAt
import Derived.OrdersHeld
import Derived.Deep.RegionHeld3
namespace Go.Proofs.Ytholdmdkhbhokaa
open Go.RowKit
open Go.ChangeShapes Go.WideShapes Go.ChangeAt
open Go.ChangeMaps (open_string shut_string)
set_option maxRecDepth 100000
set_option linter.unusedVariables false

theorem ret_bool {a b : Bool} (h : a = b) : Ending.returned (.bool a) = .returned (.bool b) := by rw [h]

def upB (c : Int) : Bool := decide (65 ≤ c) && decide (c ≤ 90)
def lowB (c : UInt8) : Bool := decide (97 ≤ (c.toNat : Int)) && decide ((c.toNat : Int) ≤ 122)
theorem upB_t {c : Int} (h1 : 65 ≤ c) (h2 : c ≤ 90) : upB c = true := by unfold upB; simp [h1, h2]
theorem upB_f {c : Int} (h : ¬ (65 ≤ c ∧ c ≤ 90)) : upB c = false := by
  unfold upB; by_cases h1 : 65 ≤ c <;> by_cases h2 : c ≤ 90 <;> simp [h1, h2] <;> omega

theorem up_ge {c : Int} (h : ¬ c < 65) : decide (c ≤ 90) = upB c := by
  unfold upB; rw [show decide (65 ≤ c) = true by simp; omega]; rfl
theorem up_lt {c : Int} (h : c < 65) : false = upB c := by
  unfold upB; rw [show decide (65 ≤ c) = false by simp; omega]; rfl
theorem isUpper_any (c : Int) (w : World) :
    Calls Try.prog 157 #[.int .u8 c] w fun e w' => e = .returned (.bool (upB c)) ∧ w = w' := by
  by_cases h : c < 65
  · go_enter Try.func157, Try.ntmps157
    go_wp2
    all_goals go_ret
    exact ⟨ret_bool (up_lt h), rfl⟩
  · go_enter Try.func157, Try.ntmps157
    go_wp2
    all_goals go_ret
    exact ⟨ret_bool (up_ge (by omega)), rfl⟩

theorem big_any (c : Int) (w : World) :
    Calls Try.prog 145 #[.int .u8 c] w fun e w' => e = .returned (.bool (upB c)) ∧ w = w' := by
  by_cases h : c < 65
  · go_enter Try.func145, Try.ntmps145
    go_wp2
    all_goals go_ret
    exact ⟨ret_bool (up_lt h), rfl⟩
  · go_enter Try.func145, Try.ntmps145
    go_wp2
    all_goals go_ret
    exact ⟨ret_bool (up_ge (by omega)), rfl⟩

/-- The name of a constructor: a length from 1 to 5, an uppercase letter, lowercase letters. -/
def lowsUpto (s : ByteArray) (k : Nat) : Bool := ((s.data.toList.take k).drop 1).all lowB
def nameB (s : ByteArray) : Bool :=
  decide (0 < s.size) && (decide (s.size ≤ 5) && (upB ((s.data.toList.headD 0).toNat) && lowsUpto s s.size))

theorem name_empty {s : ByteArray} (h : s.size = 0) : false = nameB s := by unfold nameB; simp [h]
theorem name_long {s : ByteArray} (h : 5 < s.size) : false = nameB s := by
  unfold nameB; rw [show decide (s.size ≤ 5) = false by simp; omega]; simp
theorem head_eq {s : ByteArray} (h0 : 0 < s.size) : s.data.toList.headD 0 = s[0]'h0 := by
  have : s.data.toList = s.data.toList[0]'(by simpa using h0) :: s.data.toList.drop 1 := by
    rw [← List.drop_eq_getElem_cons]; rfl
  rw [this]; rfl
theorem name_small {s : ByteArray} (h0 : 0 < s.size) (h : upB (s[0]'h0).toNat = false) : false = nameB s := by
  unfold nameB; rw [head_eq h0, h]; simp
theorem name_go {s : ByteArray} (h0 : 0 < s.size) (h5 : s.size ≤ 5) (h : upB (s[0]'h0).toNat = true) : nameB s = lowsUpto s s.size := by
  unfold nameB; rw [head_eq h0, h]; simp [h0, h5]
theorem lows_one (s : ByteArray) : lowsUpto s 1 = true := by
  unfold lowsUpto; cases s.data.toList <;> simp
theorem lows_snoc {s : ByteArray} {k : Nat} (h1 : 1 ≤ k) (hk : k < s.size) : lowsUpto s (k + 1) = (lowsUpto s k && lowB s[k]) := by
  unfold lowsUpto
  rw [List.take_succ_eq_append_getElem (by simpa using hk), List.drop_append_of_le_length (by simp; omega), List.all_append]
  simp; rfl
theorem lows_more {s : ByteArray} {k : Nat} (d : Nat) (h : lowsUpto s k = false) : lowsUpto s (k + d) = false := by
  unfold lowsUpto at h ⊢
  rw [List.all_eq_false] at h ⊢
  obtain ⟨x, hx, hn⟩ := h
  refine ⟨x, ?_, hn⟩
  have : s.data.toList.take (k + d) = s.data.toList.take k ++ (s.data.toList.drop k).take d := by rw [List.take_add]
  rw [this]
  by_cases hl : 1 ≤ (s.data.toList.take k).length
  · rw [List.drop_append_of_le_length hl]; exact List.mem_append_left _ hx
  · have : s.data.toList.take k = [] := by
      apply List.eq_nil_of_length_eq_zero; omega
    rw [this] at hx; simp at hx
theorem lows_bad {s : ByteArray} {k : Nat} (h1 : 1 ≤ k) (hk : k < s.size) (h : lowB s[k] = false) : false = lowsUpto s s.size := by
  have := lows_more (s := s) (k := k + 1) (s.size - (k + 1)) (by rw [lows_snoc h1 hk, h]; simp)
  rw [← this]; congr 1; omega
theorem lowB_f {c : UInt8} (h : (c.toNat : Int) < 97 ∨ 122 < (c.toNat : Int)) : lowB c = false := by
  unfold lowB
  rcases h with h | h
  · rw [show decide (97 ≤ (c.toNat : Int)) = false by simp; omega]; rfl
  · rw [show decide ((c.toNat : Int) ≤ 122) = false by simp; omega]; simp
theorem lowB_t {c : UInt8} (h : 97 ≤ (c.toNat : Int)) (h' : (c.toNat : Int) ≤ 122) : lowB c = true := by
  unfold lowB; simp only [decide_eq_true h, decide_eq_true h', Bool.and_self]

theorem isEmpty_of {s : ByteArray} (h : s.size = 0) : s.toList = [] := by
  rw [ByteArray.toList_eq]; exact List.eq_nil_of_length_eq_zero (by simpa using h)
theorem notEmpty_of {s : ByteArray} (h : ¬ s.size = 0) : ¬ s.toList = [] := by
  rw [ByteArray.toList_eq]; intro e; exact h (by simpa using congrArg List.length e)
theorem notEmpty_of' {s : ByteArray} (h : ¬ s.size = 0) : s.toList.isEmpty = false := by
  simpa using notEmpty_of h

theorem lowB_eq {c : UInt8} {n : Int} (h : n = (c.toNat : Int)) : lowB c = (decide (97 ≤ n) && decide (n ≤ 122)) := by subst h; rfl
theorem isLower_t (c : UInt8) (w : World) (h : lowB c = true) :
    Calls Try.prog 170 #[.int .u8 c.toNat] w fun e w' => e = .returned (.bool true) ∧ w = w' := by
  have h1 : 97 ≤ (c.toNat : Int) ∧ (c.toNat : Int) ≤ 122 := by unfold lowB at h; simpa using h
  obtain ⟨h1, h2⟩ := h1
  clear h
  go_enter Try.func170, Try.ntmps170
  go_wp2
  all_goals go_ret
  exact ⟨ret_bool (by simp), rfl⟩
theorem isLower_f (c : UInt8) (w : World) (h : lowB c = false) :
    Calls Try.prog 170 #[.int .u8 c.toNat] w fun e w' => e = .returned (.bool false) ∧ w = w' := by
  by_cases h1 : (c.toNat : Int) < 97
  · clear h
    go_enter Try.func170, Try.ntmps170
    go_wp2
    all_goals go_ret
    exact ⟨rfl, rfl⟩
  · have h2 : ¬ (c.toNat : Int) ≤ 122 := by unfold lowB at h; simp at h; omega
    clear h
    go_enter Try.func170, Try.ntmps170
    go_wp2
    all_goals go_ret
    exact ⟨ret_bool (by simp), rfl⟩

set_option maxHeartbeats 400000 in
theorem nameV_impl (s : ByteArray) (w : World) (hs : s.size ≤ maxLen) :
    Calls Try.prog 167 #[.string s] w fun e w' => e = .returned (.bool (nameB s)) ∧ w = w' := by
  unfold maxLen at hs
  by_cases h0 : s.size = 0
  · have h0' : s.toList = [] := isEmpty_of h0
    go_enter Try.func167, Try.ntmps167
    go_wp2_with fail
    go_ret
    exact ⟨ret_bool (name_empty h0), rfl⟩
  · have h0' := notEmpty_of h0
    have h0'' := notEmpty_of' h0
    by_cases h5 : 5 < s.size
    · go_enter Try.func167, Try.ntmps167
      go_wp2_with fail
      go_ret
      exact ⟨ret_bool (name_long h5), rfl⟩
    · have hp : 0 < s.size := by omega
      have h5' : s.size ≤ 5 := by omega
      have h5b : decide (5 < (s.size : Int)) = false := by simp; omega
      by_cases hu : upB (s[0]'hp).toNat = true
      · have H := Lib.hid (name_go hp h5' hu)
        go_enter Try.func167, Try.ntmps167
        go_wp2_with (go_at_call 157; refine (isUpper_any _ _).mono ?_; rintro e w' ⟨rfl, rfl⟩)
        go_loop [3] (fun i => ∃ k : Nat, 1 ≤ k ∧ k ≤ s.size ∧ lowsUpto s k = true ∧ i = .int .i64 k) (fun i => s.size - (intOf i).toNat)
        case atStart => exact ⟨1, by omega, by omega, lows_one s, rfl⟩
        case round =>
          obtain ⟨k, hk1, hk, hl, rfl⟩ := hrel
          have HL := Lib.hid hl
          clear hl
          by_cases hlt : k < s.size
          · have HS := Lib.hid (lows_snoc hk1 hlt)
            by_cases hb : lowB s[k] = true
            · have HB := Lib.hid hb
              clear hb
              go_wp2_with (go_at_call 170; refine (isLower_t _ _ HB.out).mono ?_; rintro e w' ⟨rfl, rfl⟩)
              go_round
              case rel => exact ⟨k + 1, by omega, by omega, by rw [HS.out, HL.out, HB.out]; rfl, by go_num⟩
              case measure => simp [intOf]; omega
            · have hb' : lowB s[k] = false := by simpa using hb
              have HB := Lib.hid hb'
              have HC := Lib.hid (lows_bad hk1 hlt hb')
              clear hb hb'
              go_wp2_with (go_at_call 170; refine (isLower_f _ _ HB.out).mono ?_; rintro e w' ⟨rfl, rfl⟩)
              go_ret
              exact ⟨ret_bool (by rw [H.out]; exact HC.out), rfl⟩
          · go_wp2
            go_ret
            exact ⟨ret_bool (by rw [H.out, ← HL.out]; congr 1; omega), rfl⟩
      · have hu' : upB (s[0]'hp).toNat = false := by simpa using hu
        clear hu
        go_enter Try.func167, Try.ntmps167
        go_wp2_with (go_at_call 157; refine (isUpper_any _ _).mono ?_; rintro e w' ⟨rfl, rfl⟩)
        go_ret
        exact ⟨ret_bool (name_small hp hu'), rfl⟩

theorem nameV_spec (s : ByteArray) (w : World) (hs : s.size ≤ maxLen) :
    Calls Try.prog 146 #[.string s] w fun e w' => e = .returned (.bool (nameB s)) ∧ w = w' := by
  unfold maxLen at hs
  by_cases h0 : s.size = 0
  · have h0' : ((s.size : Int) == 0) = true := by simpa using h0
    go_enter Try.func146, Try.ntmps146
    go_wp2_with fail
    go_ret
    exact ⟨ret_bool (name_empty h0), rfl⟩
  · have h0' : ((s.size : Int) == 0) = false := by simpa using h0
    by_cases h5 : 5 < s.size
    · go_enter Try.func146, Try.ntmps146
      go_wp2_with fail
      go_ret
      exact ⟨ret_bool (name_long h5), rfl⟩
    · have hp : 0 < s.size := by omega
      have h5' : s.size ≤ 5 := by omega
      have h5b : decide (5 < (s.size : Int)) = false := by simp; omega
      by_cases hu : upB (s[0]'hp).toNat = true
      · have H := Lib.hid (name_go hp h5' hu)
        go_enter Try.func146, Try.ntmps146
        go_wp2_with (go_at_call 145; refine (big_any _ _).mono ?_; rintro e w' ⟨rfl, rfl⟩)
        go_loop [3] (fun i => ∃ k : Nat, 1 ≤ k ∧ k ≤ s.size ∧ lowsUpto s k = true ∧ i = .int .i64 k) (fun i => s.size - (intOf i).toNat)
        case atStart => exact ⟨1, by omega, by omega, lows_one s, rfl⟩
        case round =>
          obtain ⟨k, hk1, hk, hl, rfl⟩ := hrel
          have HL := Lib.hid hl
          clear hl
          by_cases hlt : k < s.size
          · have HS := Lib.hid (lows_snoc hk1 hlt)
            by_cases hb : (s[k].toNat : Int) < 97
            · have HB := Lib.hid (lows_bad hk1 hlt (lowB_f (.inl hb)))
              go_wp2
              go_ret
              exact ⟨ret_bool (by rw [H.out]; exact HB.out), rfl⟩
            · by_cases hc : 122 < (s[k].toNat : Int)
              · have HB := Lib.hid (lows_bad hk1 hlt (lowB_f (.inr hc)))
                go_wp2
                go_ret
                exact ⟨ret_bool (by rw [H.out]; exact HB.out), rfl⟩
              · have hg : decide ((s[k].toNat : Int) < 97) = false := by simpa using hb
                have hg' : decide (122 < (s[k].toNat : Int)) = false := by simpa using hc
                have HB := Lib.hid (lowB_t (c := s[k]) (by omega) (by omega))
                go_wp2
                go_round
                case rel => exact ⟨k + 1, by omega, by omega, by rw [HS.out, HL.out, HB.out]; rfl, by go_num⟩
                case measure => simp [intOf]; omega
          · go_wp2
            go_ret
            exact ⟨ret_bool (by rw [H.out, ← HL.out]; congr 1; omega), rfl⟩
      · have hu' : upB (s[0]'hp).toNat = false := by simpa using hu
        clear hu
        go_enter Try.func146, Try.ntmps146
        go_wp2_with (go_at_call 145; refine (big_any _ _).mono ?_; rintro e w' ⟨rfl, rfl⟩)
        go_ret
        exact ⟨ret_bool (name_small hp hu'), rfl⟩

theorem nvOwn : ownKnob Try.prog.godebug = none := by kernel_rfl

end Go.Proofs.Ytholdmdkhbhokaa
/-
  Types, constructors and data types as they lie in memory: slices of structs that hold strings, integers and slices; and how much they hold. No statement is proved here.
-/
namespace Go.Proofs.Ytholdmdkhbhokaa
open Go.RowKit
set_option linter.unusedVariables false

structure Ty where
  data : Int
  index : Int
deriving DecidableEq, Inhabited
structure Ct where
  name : ByteArray
  args : List Ty
  index : Int
deriving Inhabited
structure Da where
  name : ByteArray
  ctors : List Ct
deriving Inhabited

def RTy (w : World) (b o : Nat) (t : Ty) : Prop := w.cell? ⟨b, o, none⟩ = some (.int .i64 t.data) ∧ w.cell? ⟨b, o + 1, none⟩ = some (.int .i64 t.index)
def RTys (w : World) (B : Nat) (A : Option Addr) (l : List Ty) : Prop := l.length ≤ maxLen ∧ ∀ k (h : k < l.length), ∃ b off, A = some ⟨b, off, none⟩ ∧ b < B ∧ RTy w b (off + k * 2) l[k]
def RCt (w : World) (B : Nat) (b o : Nat) (c : Ct) : Prop :=
  ∃ A cap, w.cell? ⟨b, o, none⟩ = some (.string c.name) ∧ w.cell? ⟨b, o + 1, none⟩ = some (.slice A c.args.length cap) ∧ w.cell? ⟨b, o + 2, none⟩ = some (.int .i64 c.index) ∧ c.name.size ≤ maxLen ∧ RTys w B A c.args
def RCts (w : World) (B : Nat) (A : Option Addr) (l : List Ct) : Prop := l.length ≤ maxLen ∧ ∀ k (h : k < l.length), ∃ b off, A = some ⟨b, off, none⟩ ∧ b < B ∧ RCt w B b (off + k * 3) l[k]
def RDa (w : World) (B : Nat) (b o : Nat) (d : Da) : Prop :=
  ∃ A cap, w.cell? ⟨b, o, none⟩ = some (.string d.name) ∧ w.cell? ⟨b, o + 1, none⟩ = some (.slice A d.ctors.length cap) ∧ d.name.size ≤ maxLen ∧ RCts w B A d.ctors
def RDas (w : World) (B : Nat) (A : Option Addr) (l : List Da) : Prop := l.length ≤ maxLen ∧ ∀ k (h : k < l.length), ∃ b off, A = some ⟨b, off, none⟩ ∧ b < B ∧ RDa w B b (off + k * 2) l[k]

section
variable {w w' : World} {B B' : Nat} {A : Option Addr}
theorem RTys.keep {l : List Ty} (h : RTys w B A l) (hk : ∀ p : Addr, p.block < B → w'.cell? p = w.cell? p) (hB : B ≤ B') : RTys w' B' A l :=
  ⟨h.1, fun k hk' => by
    obtain ⟨b, off, e, hb, h1, h2⟩ := h.2 k hk'
    exact ⟨b, off, e, by omega, (hk _ hb).trans h1, (hk _ hb).trans h2⟩⟩
theorem RCts.keep {l : List Ct} (h : RCts w B A l) (hk : ∀ p : Addr, p.block < B → w'.cell? p = w.cell? p) (hB : B ≤ B') : RCts w' B' A l :=
  ⟨h.1, fun k hk' => by
    obtain ⟨b, off, e, hb, A', cap, h1, h2, h3, h4, h5⟩ := h.2 k hk'
    exact ⟨b, off, e, by omega, A', cap, (hk _ hb).trans h1, (hk _ hb).trans h2, (hk _ hb).trans h3, h4, h5.keep hk hB⟩⟩
theorem RDas.keep {l : List Da} (h : RDas w B A l) (hk : ∀ p : Addr, p.block < B → w'.cell? p = w.cell? p) (hB : B ≤ B') : RDas w' B' A l :=
  ⟨h.1, fun k hk' => by
    obtain ⟨b, off, e, hb, A', cap, h1, h2, h3, h4⟩ := h.2 k hk'
    exact ⟨b, off, e, by omega, A', cap, (hk _ hb).trans h1, (hk _ hb).trans h2, h3, h4.keep hk hB⟩⟩
theorem RTys.below {B0 : Nat} {l : List Ty} (h : RTys w B A l) (hb : Below B0 w w') (hB : B ≤ B0) : RTys w' B A l := h.keep (fun _ hp => hb.cell (Nat.lt_of_lt_of_le hp hB)) (Nat.le_refl _)
theorem RCts.below {B0 : Nat} {l : List Ct} (h : RCts w B A l) (hb : Below B0 w w') (hB : B ≤ B0) : RCts w' B A l := h.keep (fun _ hp => hb.cell (Nat.lt_of_lt_of_le hp hB)) (Nat.le_refl _)
theorem RDas.below {B0 : Nat} {l : List Da} (h : RDas w B A l) (hb : Below B0 w w') (hB : B ≤ B0) : RDas w' B A l := h.keep (fun _ hp => hb.cell (Nat.lt_of_lt_of_le hp hB)) (Nat.le_refl _)
end

/-! How much a value holds. -/
def wCt (c : Ct) : Nat := c.name.size + c.args.length
def wCts (l : List Ct) : Nat := l.length + (l.map wCt).sum
def wDa (d : Da) : Nat := d.name.size + wCts d.ctors
def wDas (l : List Da) : Nat := l.length + (l.map wDa).sum
/-- What is left of a number, or -1. -/
def left (l : Int) (n : Nat) : Int := if (n : Int) ≤ l then l - n else -1
theorem left_ok {l : Int} {n : Nat} (h : (n : Int) ≤ l) : left l n = l - n := if_pos h
theorem left_no {l : Int} {n : Nat} (h : ¬ (n : Int) ≤ l) : left l n = -1 := if_neg h
theorem sum_take_succ {α : Type} (f : α → Nat) (l : List α) (k : Nat) (h : k < l.length) : ((l.take (k + 1)).map f).sum = ((l.take k).map f).sum + f l[k] := by
  rw [List.take_succ_eq_append_getElem h]; simp only [List.map_append, List.sum_append, List.map_cons, List.map_nil, List.sum_cons, List.sum_nil]; omega
theorem sum_take_le {α : Type} (f : α → Nat) (l : List α) (k : Nat) : ((l.take k).map f).sum ≤ (l.map f).sum := by
  conv => rhs; rw [← List.take_append_drop k l]
  simp only [List.map_append, List.sum_append]; omega
end Go.Proofs.Ytholdmdkhbhokaa
/-
  The functions that copy types, constructors and data types into memory of their own. No statement is proved here.
-/
namespace Go.Proofs.Ytholdmdkhbhokaa
open Go.RowKit
set_option maxRecDepth 100000
set_option linter.unusedVariables false

theorem info34 : (Try.prog.info? 33).map (fun i => (i.zero, i.size, i.bytes)) = some (some (.agg #[.int .i64 0, .int .i64 0]), 2, 16) := by kernel_rfl
theorem info59 : (Try.prog.info? 134).map (fun i => (i.zero, i.size, i.bytes)) = some (some (.agg #[.string ByteArray.empty, .slice none 0 0, .int .i64 0]), 3, 48) := by kernel_rfl
theorem info56 : (Try.prog.info? 79).map (fun i => (i.zero, i.size, i.bytes)) = some (some (.agg #[.string ByteArray.empty, .slice none 0 0]), 2, 40) := by kernel_rfl

theorem bcell {W w1 : World} (hb : Below W.heap.size W w1) : (∀ b o, b < W.heap.size → w1.cell? ⟨b, o, none⟩ = W.cell? ⟨b, o, none⟩) ∧ (∀ b o, b < W.heap.size → w1.frozen? ⟨b, o, none⟩ = W.frozen? ⟨b, o, none⟩) :=
  ⟨fun b o h => hb.cell (p := ⟨b, o, none⟩) h, fun b o h => hb.frozen (p := ⟨b, o, none⟩) h⟩

/-- Types in a block of their own. -/
def FTys (w : World) (lo g : Nat) (l : List Ty) : Prop :=
  lo ≤ g ∧ l.length ≤ maxLen ∧ ∃ cs, w.heap[g]? = some (.cells cs 33 (0, 0)) ∧ cs.size = l.length * 2 ∧ ∀ k (h : k < l.length), cs[k * 2]? = some (.int .i64 l[k].data) ∧ cs[k * 2 + 1]? = some (.int .i64 l[k].index)

theorem toType_any (d i : Int) (w : World) :
    Calls Try.prog 14 #[.agg #[.int .i64 d, .int .i64 i]] w fun e w' => e = .returned (.agg #[.int .i64 d, .int .i64 i]) ∧ Below w.heap.size w w' := by
  go_enter Try.func14, Try.ntmps14
  go_wp2
  refine bodyPost_ret (v := .agg #[.int .i64 d, .int .i64 i]) (by simp [results, Try.results14, go_sem]) rfl ⟨rfl, ?_⟩
  exact (((Below.refl _ _).alloc (Nat.le_refl _) _).alloc (by simp) _).alloc (by simp; omega) _

theorem below_of_grown {B : Nat} {w w' : World} (h : w.grownBy w' none) (hB : B ≤ w.heap.size) : Below B w w' :=
  (Below.refl B w).grown h hB (fun k e => by cases e)

theorem own_below {w w' : World} {base : Nat} {e : TypeId} {size : Nat} {v : Value} {n : Nat} {xs : List Value} (h : w.ownsRow base e size v n xs) (hb : Below w.heap.size w w') : w'.ownsRow base e size v n xs :=
  h.kept (row := none) ⟨hb.os, hb.tape, hb.output, hb.size, fun k hk _ => hb.block k hk⟩ (by
    rcases h.2 with ⟨rfl, _⟩ | ⟨g, cap, cur, rfl, _⟩
    · exact .inl rfl
    · exact .inr (by simp [Value.ownBlock]))
theorem own_cell {w : World} {base : Nat} {e : TypeId} {size g n cap : Nat} {xs : List Value} (h : w.ownsRow base e size (.slice (some ⟨g, 0, none⟩) n cap) n xs) (j : Nat) (hj : j < n * size) : ∃ v, w.cell? ⟨g, j, none⟩ = some v := by
  have hl : j < xs.length := by have := h.1; omega
  exact ⟨xs[j], by rw [h.cellAt j hj]; exact List.getElem?_eq_getElem hl⟩
theorem own_lt {w : World} {base : Nat} {e : TypeId} {size g n cap : Nat} {xs : List Value} (h : w.ownsRow base e size (.slice (some ⟨g, 0, none⟩) n cap) n xs) : g < w.heap.size := (h.lt g rfl).2
/-- What the first k rounds of a copy of types have left in the row. -/
def TyRow (l : List Ty) (xs : List Value) (k : Nat) : Prop := ∀ j (h : j < l.length), j < k → xs[j * 2]? = some (.int .i64 l[j].data) ∧ xs[j * 2 + 1]? = some (.int .i64 l[j].index)
theorem TyRow.zero (l : List Ty) (xs : List Value) : TyRow l xs 0 := fun j _ h => absurd h (by omega)
theorem TyRow.step {l : List Ty} {xs : List Value} {k : Nat} (h : TyRow l xs k) (hk : k < l.length) (hx : xs.length = l.length * 2) :
    TyRow l ((xs.set (k * 2) (.int .i64 l[k].data)).set (k * 2 + 1) (.int .i64 l[k].index)) (k + 1) := by
  intro j hj hjk
  by_cases e : j = k
  · subst e
    constructor
    · rw [List.getElem?_set_ne (by omega), List.getElem?_set_self (by omega)]
    · rw [List.getElem?_set_self (by simp; omega)]
  · obtain ⟨a, b⟩ := h j hj (by omega)
    constructor
    · rw [List.getElem?_set_ne (by omega), List.getElem?_set_ne (by omega), a]
    · rw [List.getElem?_set_ne (by omega), List.getElem?_set_ne (by omega), b]
theorem FTys.of_row {w : World} {lo g : Nat} {l : List Ty} {xs : List Value} (h : w.ownsRow lo 33 2 (.slice (some ⟨g, 0, none⟩) l.length l.length) l.length xs) (hx : TyRow l xs l.length) (hn : l.length ≤ 1048576) : FTys w lo g l := by
  rcases h.2 with ⟨h', _⟩ | ⟨g', cap', cur, h', hb, hg, hnc, hcm, hcs, htake⟩
  · simp at h'
  · simp only [Value.slice.injEq, Option.some.injEq, Addr.mk.injEq, and_true, true_and] at h'
    obtain ⟨rfl, rfl⟩ := h'
    refine ⟨hb, by unfold maxLen; omega, cur, hg, hcs, fun k hk => ?_⟩
    rw [List.take_of_length_le (by rw [Array.length_toList]; omega)] at htake
    rw [← Array.getElem?_toList, ← Array.getElem?_toList, htake]
    exact hx k hk hk

set_option maxHeartbeats 800000 in
theorem toTypeS_any (A : Option Addr) (l : List Ty) (cap : Nat) (w : World) (hr : RTys w w.heap.size A l) (hn : l.length ≤ 1048576) :
    Calls Try.prog 147 #[.slice A l.length cap] w fun e w' => ∃ g, e = .returned (.slice (some ⟨g, 0, none⟩) l.length l.length) ∧ FTys w' w.heap.size g l ∧ Below w.heap.size w w' := by
  obtain ⟨i0, hi, hz0, hz1, hz2⟩ := info_parts info34
  have Hr := Lib.hid hr
  clear hr
  go_enter Try.func147, Try.ntmps147
  go_wp2_with (at_make; refine wpList_make_full _ rfl _ _ 129 rfl w.heap.size 33 i0 _ 2 Try.underlying129 hi hz0 hz1 _ _ _ _ l.length rfl rfl rfl rfl (by rw [hz2]; omega) (by unfold maxLen; omega) (Nat.le_refl _) ?_; intro w1 hown hgr)
  go_loopw [4] (fun i wr => ∃ k : Nat, k ≤ l.length ∧ i = .int .i64 k ∧ ∃ xs, wr.ownsRow w.heap.size 33 2 (.slice (some ⟨w.heap.size, 0, none⟩) l.length l.length) l.length xs ∧ TyRow l xs k ∧ Below w.heap.size w wr) (fun i _ => l.length - (intOf i).toNat)
  case atStart => exact ⟨0, by omega, rfl, _, hown, TyRow.zero _ _, below_of_grown hgr (Nat.le_refl _)⟩
  case round =>
    obtain ⟨k, hk, rfl, xs, hown, hrow, hb⟩ := hrel
    clear hgr hi hz0 hz1 hz2
    by_cases hlt : k < l.length
    · obtain ⟨b, off, rfl, hbB, c0, c1⟩ := (Hr.out.below hb (Nat.le_refl _)).2 k hlt
      go_wp2_with (go_at_call 14; refine (toType_any _ _ _).mono ?_; rintro e w2 ⟨rfl, hb2⟩; have hown2 := own_below hown hb2; obtain ⟨v0, f0⟩ := own_cell hown2 (k * 2) (by omega); obtain ⟨v1, f1⟩ := own_cell hown2 (k * 2 + 1) (by omega); have g0 := hown2.frozenAt (k * 2); have g1 := hown2.frozenAt (k * 2 + 1))
      have hx := hown2.1
      have s1 := (hown2.stored (k * 2) (.int .i64 l[k].data)).1
      have s2 := (s1.stored (k * 2 + 1) (.int .i64 l[k].index)).1
      go_roundw
      case rel => exact ⟨k + 1, by omega, by go_num, _, s2, hrow.step hlt hx, ((hb.trans (hb2.mono hb.size)).setCell (Nat.le_refl _) _).setCell (Nat.le_refl _) _⟩
      case measure => simp [intOf]; omega
    · go_wp2_with fail
      go_ret
      exact ⟨_, rfl, FTys.of_row hown (fun j hj _ => hrow j hj (by omega)) hn, hb⟩

/-- Constructors in blocks of their own. -/
def FCt (w : World) (lo : Nat) (c : Ct) (x0 x1 x2 : Option Value) : Prop :=
  ∃ g, x0 = some (.string c.name) ∧ x1 = some (.slice (some ⟨g, 0, none⟩) c.args.length c.args.length) ∧ x2 = some (.int .i64 c.index) ∧ c.name.size ≤ maxLen ∧ FTys w lo g c.args
def FCts (w : World) (lo g : Nat) (l : List Ct) : Prop :=
  lo ≤ g ∧ l.length ≤ maxLen ∧ ∃ cs, w.heap[g]? = some (.cells cs 134 (0, 0)) ∧ cs.size = l.length * 3 ∧ ∀ k (h : k < l.length), FCt w lo l[k] cs[k * 3]? cs[k * 3 + 1]? cs[k * 3 + 2]?
def FDa (w : World) (lo : Nat) (d : Da) (x0 x1 : Option Value) : Prop :=
  ∃ g, x0 = some (.string d.name) ∧ x1 = some (.slice (some ⟨g, 0, none⟩) d.ctors.length d.ctors.length) ∧ d.name.size ≤ maxLen ∧ FCts w lo g d.ctors
def FDas (w : World) (lo g : Nat) (l : List Da) : Prop :=
  lo ≤ g ∧ l.length ≤ maxLen ∧ ∃ cs, w.heap[g]? = some (.cells cs 79 (0, 0)) ∧ cs.size = l.length * 2 ∧ ∀ k (h : k < l.length), FDa w lo l[k] cs[k * 2]? cs[k * 2 + 1]?
theorem heap_lt {w : World} {g : Nat} {o : Obj} (h : w.heap[g]? = some o) : g < w.heap.size := by
  rcases Nat.lt_or_ge g w.heap.size with hlt | hge
  · exact hlt
  · rw [Array.getElem?_eq_none hge] at h; cases h
/-- Blocks of types stay, whatever else is written. -/
theorem FTys.keep {w w' : World} {lo lo' g : Nat} {l : List Ty} (h : FTys w lo g l) (hl : lo' ≤ lo) (hk : ∀ b cs, lo ≤ b → w.heap[b]? = some (.cells cs 33 (0, 0)) → w'.heap[b]? = w.heap[b]?) : FTys w' lo' g l := by
  obtain ⟨h1, h2, cs, h3, h4, h5⟩ := h
  exact ⟨by omega, h2, cs, (hk g cs h1 h3).trans h3, h4, h5⟩
theorem FCts.keep {w w' : World} {lo lo' g : Nat} {l : List Ct} (h : FCts w lo g l) (hl : lo' ≤ lo) (hk : ∀ b cs t, t = 33 ∨ t = 134 → lo ≤ b → w.heap[b]? = some (.cells cs t (0, 0)) → w'.heap[b]? = w.heap[b]?) : FCts w' lo' g l := by
  obtain ⟨h1, h2, cs, h3, h4, h5⟩ := h
  refine ⟨by omega, h2, cs, (hk g cs 134 (.inr rfl) h1 h3).trans h3, h4, fun k hk' => ?_⟩
  obtain ⟨g', e0, e1, e2, e3, e4⟩ := h5 k hk'
  exact ⟨g', e0, e1, e2, e3, e4.keep hl (fun b cs => hk b cs 33 (.inl rfl))⟩
theorem FDas.keep {w w' : World} {lo lo' g : Nat} {l : List Da} (h : FDas w lo g l) (hl : lo' ≤ lo) (hk : ∀ b o, lo ≤ b → w.heap[b]? = some o → w'.heap[b]? = w.heap[b]?) : FDas w' lo' g l := by
  obtain ⟨h1, h2, cs, h3, h4, h5⟩ := h
  refine ⟨by omega, h2, cs, (hk g _ h1 h3).trans h3, h4, fun k hk' => ?_⟩
  obtain ⟨g', e0, e1, e2, e3⟩ := h5 k hk'
  exact ⟨g', e0, e1, e2, e3.keep hl (fun b cs t _ hb he => hk b _ hb he)⟩
theorem cell_of_blk {w : World} {g : Nat} {cs : Array Value} {t : TypeId} (h : w.heap[g]? = some (.cells cs t (0, 0))) (i : Nat) : w.cell? ⟨g, i, none⟩ = cs[i]? := cell_of_row w g i cs t (0, 0) h
theorem FTys.reads {w : World} {lo g : Nat} {l : List Ty} (h : FTys w lo g l) : RTys w w.heap.size (some ⟨g, 0, none⟩) l := by
  obtain ⟨h1, h2, cs, h3, h4, h5⟩ := h
  refine ⟨h2, fun k hk => ⟨g, 0, rfl, heap_lt h3, ?_, ?_⟩⟩
  · rw [cell_of_blk h3, Nat.zero_add]; exact (h5 k hk).1
  · rw [cell_of_blk h3, Nat.zero_add]; exact (h5 k hk).2
theorem FCts.reads {w : World} {lo g : Nat} {l : List Ct} (h : FCts w lo g l) : RCts w w.heap.size (some ⟨g, 0, none⟩) l := by
  obtain ⟨h1, h2, cs, h3, h4, h5⟩ := h
  refine ⟨h2, fun k hk => ⟨g, 0, rfl, heap_lt h3, ?_⟩⟩
  obtain ⟨g', e0, e1, e2, e3, e4⟩ := h5 k hk
  exact ⟨_, _, by rw [cell_of_blk h3, Nat.zero_add]; exact e0, by rw [cell_of_blk h3, Nat.zero_add]; exact e1, by rw [cell_of_blk h3, Nat.zero_add]; exact e2, e3, e4.reads⟩
theorem FDas.reads {w : World} {lo g : Nat} {l : List Da} (h : FDas w lo g l) : RDas w w.heap.size (some ⟨g, 0, none⟩) l := by
  obtain ⟨h1, h2, cs, h3, h4, h5⟩ := h
  refine ⟨h2, fun k hk => ⟨g, 0, rfl, heap_lt h3, ?_⟩⟩
  obtain ⟨g', e0, e1, e3, e4⟩ := h5 k hk
  exact ⟨_, _, by rw [cell_of_blk h3, Nat.zero_add]; exact e0, by rw [cell_of_blk h3, Nat.zero_add]; exact e1, e3, e4.reads⟩

theorem toCtor_any (nm : ByteArray) (A : Option Addr) (l : List Ty) (cap : Nat) (ix : Int) (w : World) (hr : RTys w w.heap.size A l) (hn : l.length ≤ 1048576) :
    Calls Try.prog 123 #[.agg #[.string nm, .slice A l.length cap, .int .i64 ix]] w fun e w' => ∃ g, e = .returned (.agg #[.string nm, .slice (some ⟨g, 0, none⟩) l.length l.length, .int .i64 ix]) ∧ FTys w' w.heap.size g l ∧ Below w.heap.size w w' := by
  have Hr := Lib.hid hr
  clear hr
  go_enter Try.func123, Try.ntmps123
  go_wp2_with (go_at_call 147; refine (toTypeS_any _ _ _ _ (by exact Hr.out.keep (fun p hp => by rw [World.cell?_alloc_lt _ _ _ (by simp; omega), World.cell?_alloc_lt _ _ _ (by simp; omega), World.cell?_alloc_lt _ _ _ hp]) (by simp; omega)) hn).mono ?_; rintro e w1 ⟨g, rfl, hf, hb⟩; obtain ⟨hc, hfz⟩ := bcell hb; have hz : w.heap.size + 2 < w1.heap.size := by have := hb.size; simp at this; omega)
  refine bodyPost_ret (v := .agg #[.string nm, .slice (some ⟨g, 0, none⟩) l.length l.length, .int .i64 ix]) (by simp [results, Try.results123, go_sem, hc]) rfl ⟨g, rfl, ?_, ?_⟩
  · refine hf.keep (by simp; omega) (fun b cs hb' _ => ?_)
    simp only [World.size_alloc] at hb'
    rw [Below.heap_setCell _ _ _ _ (by simp; omega), Below.heap_setCell _ _ _ _ (by simp; omega), Below.heap_setCell _ _ _ _ (by simp; omega), Below.heap_setCell _ _ _ _ (by simp; omega), Below.heap_setCell _ _ _ _ (by simp; omega)]
  · have h3 := ((((Below.refl w.heap.size w).alloc (Nat.le_refl _) (Obj.cells #[Value.string nm, Value.slice A l.length cap, Value.int IntKind.i64 ix] 168)).alloc (by simp) (Obj.cells #[Value.string { data := #[] }, Value.slice none 0 0, Value.int IntKind.i64 0] 134)).alloc (by simp; omega) (Obj.cells #[Value.string nm, Value.slice none 0 0, Value.int IntKind.i64 0] 134)).trans (hb.mono (by simp; omega))
    exact ((((h3.setCell (by simp; omega) _).setCell (by simp; omega) _).setCell (by simp) _).setCell (by simp) _).setCell (by simp) _

/-- What the first k rounds of a copy of constructors have left in the row. -/
def CtRow (w : World) (lo : Nat) (l : List Ct) (xs : List Value) (k : Nat) : Prop := ∀ j (h : j < l.length), j < k → FCt w lo l[j] xs[j * 3]? xs[j * 3 + 1]? xs[j * 3 + 2]?
theorem CtRow.zero (w : World) (lo : Nat) (l : List Ct) (xs : List Value) : CtRow w lo l xs 0 := fun j _ h => absurd h (by omega)
theorem CtRow.keep {w w' : World} {lo : Nat} {l : List Ct} {xs : List Value} {k : Nat} (h : CtRow w lo l xs k) (hk : ∀ b cs, lo ≤ b → w.heap[b]? = some (.cells cs 33 (0, 0)) → w'.heap[b]? = w.heap[b]?) : CtRow w' lo l xs k := by
  intro j hj hjk
  obtain ⟨g, e0, e1, e2, e3, e4⟩ := h j hj hjk
  exact ⟨g, e0, e1, e2, e3, e4.keep (Nat.le_refl _) hk⟩
theorem CtRow.step {w : World} {lo : Nat} {l : List Ct} {xs : List Value} {k g : Nat} (h : CtRow w lo l xs k) (hk : k < l.length) (hx : xs.length = l.length * 3) (hs : l[k].name.size ≤ maxLen) (hf : FTys w lo g l[k].args) :
    CtRow w lo l (((xs.set (k * 3) (.string l[k].name)).set (k * 3 + 1) (.slice (some ⟨g, 0, none⟩) l[k].args.length l[k].args.length)).set (k * 3 + 2) (.int .i64 l[k].index)) (k + 1) := by
  intro j hj hjk
  by_cases e : j = k
  · subst e
    refine ⟨g, ?_, ?_, ?_, hs, hf⟩
    · rw [List.getElem?_set_ne (by omega), List.getElem?_set_ne (by omega), List.getElem?_set_self (by omega)]
    · rw [List.getElem?_set_ne (by omega), List.getElem?_set_self (by simp; omega)]
    · rw [List.getElem?_set_self (by simp; omega)]
  · have := h j hj (by omega)
    rw [List.getElem?_set_ne (by omega), List.getElem?_set_ne (by omega), List.getElem?_set_ne (by omega), List.getElem?_set_ne (by omega), List.getElem?_set_ne (by omega), List.getElem?_set_ne (by omega), List.getElem?_set_ne (by omega), List.getElem?_set_ne (by omega), List.getElem?_set_ne (by omega)]
    exact this
theorem own_heap {w : World} {base : Nat} {e : TypeId} {size g n cap : Nat} {xs : List Value} (h : w.ownsRow base e size (.slice (some ⟨g, 0, none⟩) n cap) n xs) : ∃ cs, w.heap[g]? = some (.cells cs e (0, 0)) := by
  rcases h.2 with ⟨h', _⟩ | ⟨g', cap', cur, h', hb, hg, hnc, hcm, hcs, htake⟩
  · simp at h'
  · simp only [Value.slice.injEq, Option.some.injEq, Addr.mk.injEq, and_true, true_and] at h'
    obtain ⟨rfl, rfl⟩ := h'
    exact ⟨cur, hg⟩
/-- A block of another element type is another block. -/
theorem other_blk {w : World} {g b : Nat} {cs ds : Array Value} {s t : TypeId} (h : w.heap[g]? = some (.cells cs s (0, 0))) (h' : w.heap[b]? = some (.cells ds t (0, 0))) (hne : s ≠ t) : b ≠ g := by
  rintro rfl; rw [h] at h'; injection h' with h'; injection h' with _ ht; exact hne ht
theorem FCts.of_row {w : World} {lo g : Nat} {l : List Ct} {xs : List Value} (h : w.ownsRow lo 134 3 (.slice (some ⟨g, 0, none⟩) l.length l.length) l.length xs) (hx : CtRow w lo l xs l.length) (hn : l.length ≤ 1048576) : FCts w lo g l := by
  rcases h.2 with ⟨h', _⟩ | ⟨g', cap', cur, h', hb, hg, hnc, hcm, hcs, htake⟩
  · simp at h'
  · simp only [Value.slice.injEq, Option.some.injEq, Addr.mk.injEq, and_true, true_and] at h'
    obtain ⟨rfl, rfl⟩ := h'
    refine ⟨hb, by unfold maxLen; omega, cur, hg, hcs, fun k hk => ?_⟩
    rw [List.take_of_length_le (by rw [Array.length_toList]; omega)] at htake
    rw [← Array.getElem?_toList, ← Array.getElem?_toList, ← Array.getElem?_toList, htake]
    exact hx k hk hk

set_option maxHeartbeats 800000 in
theorem toCtorS_any (A : Option Addr) (l : List Ct) (cap : Nat) (w : World) (hr : RCts w w.heap.size A l) (hn : wCts l ≤ 1048576) :
    Calls Try.prog 87 #[.slice A l.length cap] w fun e w' => ∃ g, e = .returned (.slice (some ⟨g, 0, none⟩) l.length l.length) ∧ FCts w' w.heap.size g l ∧ Below w.heap.size w w' := by
  obtain ⟨i0, hi, hz0, hz1, hz2⟩ := info_parts info59
  have Hr := Lib.hid hr
  clear hr
  have hl : l.length ≤ 1048576 := by unfold wCts at hn; omega
  go_enter Try.func87, Try.ntmps87
  go_wp2_with (at_make; refine wpList_make_full _ rfl _ _ 77 rfl w.heap.size 134 i0 _ 3 Try.underlying77 hi hz0 hz1 _ _ _ _ l.length rfl rfl rfl rfl (by rw [hz2]; omega) (by unfold maxLen; omega) (Nat.le_refl _) ?_; intro w1 hown hgr)
  go_loopw [4] (fun i wr => ∃ k : Nat, k ≤ l.length ∧ i = .int .i64 k ∧ ∃ xs, wr.ownsRow w.heap.size 134 3 (.slice (some ⟨w.heap.size, 0, none⟩) l.length l.length) l.length xs ∧ CtRow wr w.heap.size l xs k ∧ Below w.heap.size w wr) (fun i _ => l.length - (intOf i).toNat)
  case atStart => exact ⟨0, by omega, rfl, _, hown, CtRow.zero _ _ _ _, below_of_grown hgr (Nat.le_refl _)⟩
  case round =>
    obtain ⟨k, hk, rfl, xs, hown, hrow, hb⟩ := hrel
    clear hgr hi hz0 hz1 hz2
    by_cases hlt : k < l.length
    · obtain ⟨b, off, rfl, hbB, A', cp, c0, c1, c2, hs, hm⟩ := (Hr.out.below hb (Nat.le_refl _)).2 k hlt
      have ha : l[k].args.length ≤ 1048576 := by
        have h1 := sum_take_succ wCt l k hlt
        have h2 := sum_take_le wCt l (k + 1)
        have h3 : wCt l[k] = l[k].name.size + l[k].args.length := rfl
        unfold wCts at hn; omega
      have Hm := Lib.hid (hm.keep (fun _ _ => rfl) hb.size)
      clear hm
      go_wp2_with (go_at_call 123; refine (toCtor_any _ _ _ _ _ _ Hm.out ha).mono ?_; rintro e w2 ⟨g, rfl, hf, hb2⟩; have hown2 := own_below hown hb2; obtain ⟨v0, f0⟩ := own_cell hown2 (k * 3) (by omega); obtain ⟨v1, f1⟩ := own_cell hown2 (k * 3 + 1) (by omega); obtain ⟨v2, f2⟩ := own_cell hown2 (k * 3 + 2) (by omega); have g0 := hown2.frozenAt (k * 3); have g1 := hown2.frozenAt (k * 3 + 1); have g2 := hown2.frozenAt (k * 3 + 2))
      have hx := hown2.1
      have s1 := (hown2.stored (k * 3) (.string l[k].name)).1
      have s2 := (s1.stored (k * 3 + 1) (.slice (some ⟨g, 0, none⟩) l[k].args.length l[k].args.length)).1
      have s3 := (s2.stored (k * 3 + 2) (.int .i64 l[k].index)).1
      obtain ⟨cs0, hcs0⟩ := own_heap hown2
      have hrow2 : CtRow w2 w.heap.size l xs k := hrow.keep (fun b cs _ hh => hb2.block b (heap_lt hh))
      have hf2 : FTys w2 w.heap.size g l[k].args := hf.keep hb.size (fun _ _ _ _ => rfl)
      have hkeep : ∀ b cs, w.heap.size ≤ b → w2.heap[b]? = some (.cells cs 33 (0, 0)) → (((w2.setCell ⟨w.heap.size, k * 3, none⟩ (.string l[k].name)).setCell ⟨w.heap.size, k * 3 + 1, none⟩ (.slice (some ⟨g, 0, none⟩) l[k].args.length l[k].args.length)).setCell ⟨w.heap.size, k * 3 + 2, none⟩ (.int .i64 l[k].index)).heap[b]? = w2.heap[b]? := fun b cs _ hh => by
        have hne : b ≠ w.heap.size := other_blk hcs0 hh (by decide)
        rw [Below.heap_setCell _ _ _ _ hne, Below.heap_setCell _ _ _ _ hne, Below.heap_setCell _ _ _ _ hne]
      have hrow3 := (hrow2.step hlt hx hs hf2).keep hkeep
      go_roundw
      case rel => exact ⟨k + 1, by omega, by go_num, _, s3, hrow3, (((hb.trans (hb2.mono hb.size)).setCell (Nat.le_refl _) _).setCell (Nat.le_refl _) _).setCell (Nat.le_refl _) _⟩
      case measure => simp [intOf]; omega
    · go_wp2_with fail
      go_ret
      exact ⟨_, rfl, FCts.of_row hown (fun j hj _ => hrow j hj (by omega)) hl, hb⟩

theorem toData_any (nm : ByteArray) (A : Option Addr) (l : List Ct) (cap : Nat) (w : World) (hr : RCts w w.heap.size A l) (hn : wCts l ≤ 1048576) :
    Calls Try.prog 49 #[.agg #[.string nm, .slice A l.length cap]] w fun e w' => ∃ g, e = .returned (.agg #[.string nm, .slice (some ⟨g, 0, none⟩) l.length l.length]) ∧ FCts w' w.heap.size g l ∧ Below w.heap.size w w' := by
  have Hr := Lib.hid hr
  clear hr
  go_enter Try.func49, Try.ntmps49
  go_wp2_with (go_at_call 87; refine (toCtorS_any _ _ _ _ (by exact Hr.out.keep (fun p hp => by rw [World.cell?_alloc_lt _ _ _ (by simp; omega), World.cell?_alloc_lt _ _ _ (by simp; omega), World.cell?_alloc_lt _ _ _ hp]) (by simp; omega)) hn).mono ?_; rintro e w1 ⟨g, rfl, hf, hb⟩; obtain ⟨hc, hfz⟩ := bcell hb; have hz : w.heap.size + 2 < w1.heap.size := by have := hb.size; simp at this; omega)
  refine bodyPost_ret (v := .agg #[.string nm, .slice (some ⟨g, 0, none⟩) l.length l.length]) (by simp [results, Try.results49, go_sem, hc]) rfl ⟨g, rfl, ?_, ?_⟩
  · refine hf.keep (by simp; omega) (fun b cs t _ hb' _ => ?_)
    simp only [World.size_alloc] at hb'
    rw [Below.heap_setCell _ _ _ _ (by simp; omega), Below.heap_setCell _ _ _ _ (by simp; omega), Below.heap_setCell _ _ _ _ (by simp; omega)]
  · have h3 := ((((Below.refl w.heap.size w).alloc (Nat.le_refl _) (Obj.cells #[Value.string nm, Value.slice A l.length cap] 74)).alloc (by simp) (Obj.cells #[Value.string { data := #[] }, Value.slice none 0 0] 79)).alloc (by simp; omega) (Obj.cells #[Value.string nm, Value.slice none 0 0] 79)).trans (hb.mono (by simp; omega))
    exact ((h3.setCell (by simp; omega) _).setCell (by simp) _).setCell (by simp) _

/-- What the first k rounds of a copy of data types have left in the row. -/
def DaRow (w : World) (lo : Nat) (l : List Da) (xs : List Value) (k : Nat) : Prop := ∀ j (h : j < l.length), j < k → FDa w lo l[j] xs[j * 2]? xs[j * 2 + 1]?
theorem DaRow.zero (w : World) (lo : Nat) (l : List Da) (xs : List Value) : DaRow w lo l xs 0 := fun j _ h => absurd h (by omega)
theorem DaRow.keep {w w' : World} {lo : Nat} {l : List Da} {xs : List Value} {k : Nat} (h : DaRow w lo l xs k) (hk : ∀ b cs t, t = 33 ∨ t = 134 → lo ≤ b → w.heap[b]? = some (.cells cs t (0, 0)) → w'.heap[b]? = w.heap[b]?) : DaRow w' lo l xs k := by
  intro j hj hjk
  obtain ⟨g, e0, e1, e2, e3⟩ := h j hj hjk
  exact ⟨g, e0, e1, e2, e3.keep (Nat.le_refl _) hk⟩
theorem DaRow.step {w : World} {lo : Nat} {l : List Da} {xs : List Value} {k g : Nat} (h : DaRow w lo l xs k) (hk : k < l.length) (hx : xs.length = l.length * 2) (hs : l[k].name.size ≤ maxLen) (hf : FCts w lo g l[k].ctors) :
    DaRow w lo l ((xs.set (k * 2) (.string l[k].name)).set (k * 2 + 1) (.slice (some ⟨g, 0, none⟩) l[k].ctors.length l[k].ctors.length)) (k + 1) := by
  intro j hj hjk
  by_cases e : j = k
  · subst e
    refine ⟨g, ?_, ?_, hs, hf⟩
    · rw [List.getElem?_set_ne (by omega), List.getElem?_set_self (by omega)]
    · rw [List.getElem?_set_self (by simp; omega)]
  · have := h j hj (by omega)
    rw [List.getElem?_set_ne (by omega), List.getElem?_set_ne (by omega), List.getElem?_set_ne (by omega), List.getElem?_set_ne (by omega)]
    exact this
theorem FDas.of_row {w : World} {lo g : Nat} {l : List Da} {xs : List Value} (h : w.ownsRow lo 79 2 (.slice (some ⟨g, 0, none⟩) l.length l.length) l.length xs) (hx : DaRow w lo l xs l.length) (hn : l.length ≤ 1048576) : FDas w lo g l := by
  rcases h.2 with ⟨h', _⟩ | ⟨g', cap', cur, h', hb, hg, hnc, hcm, hcs, htake⟩
  · simp at h'
  · simp only [Value.slice.injEq, Option.some.injEq, Addr.mk.injEq, and_true, true_and] at h'
    obtain ⟨rfl, rfl⟩ := h'
    refine ⟨hb, by unfold maxLen; omega, cur, hg, hcs, fun k hk => ?_⟩
    rw [List.take_of_length_le (by rw [Array.length_toList]; omega)] at htake
    rw [← Array.getElem?_toList, ← Array.getElem?_toList, htake]
    exact hx k hk hk

set_option maxHeartbeats 800000 in
theorem toDataS_any (A : Option Addr) (l : List Da) (cap : Nat) (w : World) (hr : RDas w w.heap.size A l) (hn : wDas l ≤ 1048576) :
    Calls Try.prog 13 #[.slice A l.length cap] w fun e w' => ∃ g, e = .returned (.slice (some ⟨g, 0, none⟩) l.length l.length) ∧ FDas w' w.heap.size g l ∧ Below w.heap.size w w' := by
  obtain ⟨i0, hi, hz0, hz1, hz2⟩ := info_parts info56
  have Hr := Lib.hid hr
  clear hr
  have hl : l.length ≤ 1048576 := by unfold wDas at hn; omega
  go_enter Try.func13, Try.ntmps13
  go_wp2_with (at_make; refine wpList_make_full _ rfl _ _ 31 rfl w.heap.size 79 i0 _ 2 Try.underlying31 hi hz0 hz1 _ _ _ _ l.length rfl rfl rfl rfl (by rw [hz2]; omega) (by unfold maxLen; omega) (Nat.le_refl _) ?_; intro w1 hown hgr)
  go_loopw [4] (fun i wr => ∃ k : Nat, k ≤ l.length ∧ i = .int .i64 k ∧ ∃ xs, wr.ownsRow w.heap.size 79 2 (.slice (some ⟨w.heap.size, 0, none⟩) l.length l.length) l.length xs ∧ DaRow wr w.heap.size l xs k ∧ Below w.heap.size w wr) (fun i _ => l.length - (intOf i).toNat)
  case atStart => exact ⟨0, by omega, rfl, _, hown, DaRow.zero _ _ _ _, below_of_grown hgr (Nat.le_refl _)⟩
  case round =>
    obtain ⟨k, hk, rfl, xs, hown, hrow, hb⟩ := hrel
    clear hgr hi hz0 hz1 hz2
    by_cases hlt : k < l.length
    · obtain ⟨b, off, rfl, hbB, A', cp, c0, c1, hs, hm⟩ := (Hr.out.below hb (Nat.le_refl _)).2 k hlt
      have ha : wCts l[k].ctors ≤ 1048576 := by
        have h1 := sum_take_succ wDa l k hlt
        have h2 := sum_take_le wDa l (k + 1)
        have h3 : wDa l[k] = l[k].name.size + wCts l[k].ctors := rfl
        unfold wDas at hn; omega
      have Hm := Lib.hid (hm.keep (fun _ _ => rfl) hb.size)
      clear hm
      go_wp2_with (go_at_call 49; refine (toData_any _ _ _ _ _ Hm.out ha).mono ?_; rintro e w2 ⟨g, rfl, hf, hb2⟩; have hown2 := own_below hown hb2; obtain ⟨v0, f0⟩ := own_cell hown2 (k * 2) (by omega); obtain ⟨v1, f1⟩ := own_cell hown2 (k * 2 + 1) (by omega); have g0 := hown2.frozenAt (k * 2); have g1 := hown2.frozenAt (k * 2 + 1))
      have hx := hown2.1
      have s1 := (hown2.stored (k * 2) (.string l[k].name)).1
      have s2 := (s1.stored (k * 2 + 1) (.slice (some ⟨g, 0, none⟩) l[k].ctors.length l[k].ctors.length)).1
      obtain ⟨cs0, hcs0⟩ := own_heap hown2
      have hrow2 : DaRow w2 w.heap.size l xs k := hrow.keep (fun b cs _ _ _ hh => hb2.block b (heap_lt hh))
      have hf2 : FCts w2 w.heap.size g l[k].ctors := hf.keep hb.size (fun _ _ _ _ _ _ => rfl)
      have hkeep : ∀ b cs t, t = 33 ∨ t = 134 → w.heap.size ≤ b → w2.heap[b]? = some (.cells cs t (0, 0)) → ((w2.setCell ⟨w.heap.size, k * 2, none⟩ (.string l[k].name)).setCell ⟨w.heap.size, k * 2 + 1, none⟩ (.slice (some ⟨g, 0, none⟩) l[k].ctors.length l[k].ctors.length)).heap[b]? = w2.heap[b]? := fun b cs t ht _ hh => by
        have hne : b ≠ w.heap.size := other_blk hcs0 hh (by rcases ht with rfl | rfl <;> decide)
        rw [Below.heap_setCell _ _ _ _ hne, Below.heap_setCell _ _ _ _ hne]
      have hrow3 := (hrow2.step hlt hx hs hf2).keep hkeep
      go_roundw
      case rel => exact ⟨k + 1, by omega, by go_num, _, s2, hrow3, ((hb.trans (hb2.mono hb.size)).setCell (Nat.le_refl _) _).setCell (Nat.le_refl _) _⟩
      case measure => simp [intOf]; omega
    · go_wp2_with fail
      go_ret
      exact ⟨_, rfl, FDas.of_row hown (fun j hj _ => hrow j hj (by omega)) hl, hb⟩
end Go.Proofs.Ytholdmdkhbhokaa
/-
  When types, constructors and data types are valid: the leaves, the program's and the document's. No statement is proved here.
-/
namespace Go.Proofs.Ytholdmdkhbhokaa
open Go.RowKit
set_option maxRecDepth 100000
set_option linter.unusedVariables false

def argB (n : Int) (least : Int) (t : Ty) : Bool := if t.data = -1 then decide (t.index = 0) else decide (0 ≤ t.data ∧ t.data < n ∧ least ≤ t.index ∧ t.index ≤ 3)
def ctorB (n : Int) (c : Ct) : Bool := nameB c.name && (decide (c.args.length ≤ 3) && (decide (0 ≤ c.index ∧ c.index ≤ 3) && c.args.all (argB n (-1))))
def dnameB (s : ByteArray) : Bool := decide (s.size = 1) && (upB ((s.data.toList.headD 0).toNat) && decide (¬ s.toList = [73]))
def dataB (n : Int) (d : Da) : Bool := dnameB d.name && (decide (1 ≤ d.ctors.length ∧ d.ctors.length ≤ 4) && d.ctors.all (ctorB n))

def btw (j i : Int) : Bool := decide (j ≤ i ∧ i ≤ 3)
theorem between_any (i j : Int) (w : World) :
    Calls Try.prog 138 #[.int .i64 i, .int .i64 j] w fun e w' => e = .returned (.bool (btw j i)) ∧ w = w' := by
  by_cases h1 : j ≤ i
  · by_cases h2 : i ≤ 3
    · go_enter Try.func138, Try.ntmps138
      go_wp2_with fail
      go_ret
      exact ⟨ret_bool (decide_eq_true (by omega)).symm, rfl⟩
    · go_enter Try.func138, Try.ntmps138
      go_wp2_with fail
      go_ret
      exact ⟨ret_bool (decide_eq_false (by omega)).symm, rfl⟩
  · go_enter Try.func138, Try.ntmps138
    go_wp2_with fail
    go_ret
    exact ⟨ret_bool (decide_eq_false (by omega)).symm, rfl⟩

theorem argB_int {n least : Int} {t : Ty} (h : t.data = -1) : argB n least t = decide (t.index = 0) := if_pos h
theorem argB_data {n least : Int} {t : Ty} (h : ¬ t.data = -1) : argB n least t = decide (0 ≤ t.data ∧ t.data < n ∧ least ≤ t.index ∧ t.index ≤ 3) := if_neg h

theorem within_any (d i n least : Int) (w : World) :
    Calls Try.prog 101 #[.agg #[.int .i64 d, .int .i64 i], .int .i64 n, .int .i64 least] w fun e w' => e = .returned (.bool (argB n least ⟨d, i⟩)) ∧ Below w.heap.size w w' := by
  have hB : ∀ o : Obj, Below w.heap.size w (w.alloc o) := fun o => (Below.refl _ _).alloc (Nat.le_refl _) _
  have HB := Lib.hid hB
  clear hB
  by_cases h0 : d = -1
  · subst h0
    have H := Lib.hid (argB_int (n := n) (least := least) (t := ⟨-1, i⟩) rfl)
    by_cases h1 : i = 0
    · subst h1
      go_enter Try.func101, Try.ntmps101
      go_wp2_with fail
      go_ret
      exact ⟨ret_bool (by rw [H.out]; rfl), HB.out _⟩
    · have h1' : (i == 0) = false := beq_eq_false_iff_ne.2 h1
      go_enter Try.func101, Try.ntmps101
      go_wp2_with fail
      go_ret
      exact ⟨ret_bool (by rw [H.out]; simp [h1]), HB.out _⟩
  · have h0' : (d == -1) = false := beq_eq_false_iff_ne.2 h0
    have H := Lib.hid (argB_data (n := n) (least := least) (t := ⟨d, i⟩) h0)
    by_cases h1 : 0 ≤ d
    · by_cases h2 : d < n
      · go_enter Try.func101, Try.ntmps101
        go_wp2_with (go_at_call 138; refine (between_any _ _ _).mono ?_; rintro e w1 ⟨rfl, rfl⟩)
        go_ret
        exact ⟨ret_bool (by rw [H.out]; unfold btw; simp only [h1, h2, true_and]), HB.out _⟩
      · go_enter Try.func101, Try.ntmps101
        go_wp2_with fail
        go_ret
        exact ⟨ret_bool (by rw [H.out]; exact (decide_eq_false (by omega)).symm), HB.out _⟩
    · go_enter Try.func101, Try.ntmps101
      go_wp2_with fail
      go_ret
      exact ⟨ret_bool (by rw [H.out]; exact (decide_eq_false (by omega)).symm), HB.out _⟩

theorem arg_any (d i n : Int) (w : World) :
    Calls Try.prog 119 #[.int .i64 n, .agg #[.int .i64 d, .int .i64 i]] w fun e w' => e = .returned (.bool (argB n (-1) ⟨d, i⟩)) ∧ Below w.heap.size w w' := by
  have hB : ∀ o : Obj, Below w.heap.size w (w.alloc o) := fun o => (Below.refl _ _).alloc (Nat.le_refl _) _
  have HB := Lib.hid hB
  clear hB
  by_cases h0 : d = -1
  · subst h0
    have H := Lib.hid (argB_int (n := n) (least := -1) (t := ⟨-1, i⟩) rfl)
    by_cases h1 : i = 0
    · subst h1
      go_enter Try.func119, Try.ntmps119
      go_wp2_with fail
      go_ret
      exact ⟨ret_bool (by rw [H.out]; rfl), HB.out _⟩
    · have h1' : (i == 0) = false := beq_eq_false_iff_ne.2 h1
      go_enter Try.func119, Try.ntmps119
      go_wp2_with fail
      go_ret
      exact ⟨ret_bool (by rw [H.out]; simp [h1]), HB.out _⟩
  · have h0' : (d == -1) = false := beq_eq_false_iff_ne.2 h0
    have H := Lib.hid (argB_data (n := n) (least := -1) (t := ⟨d, i⟩) h0)
    by_cases h1 : 0 ≤ d
    · by_cases h2 : d < n
      · by_cases h3 : -1 ≤ i
        · by_cases h4 : i ≤ 3
          · go_enter Try.func119, Try.ntmps119
            go_wp2_with fail
            go_ret
            exact ⟨ret_bool (by rw [H.out]; exact (decide_eq_true (by omega)).symm), HB.out _⟩
          · go_enter Try.func119, Try.ntmps119
            go_wp2_with fail
            go_ret
            exact ⟨ret_bool (by rw [H.out]; exact (decide_eq_false (by omega)).symm), HB.out _⟩
        · go_enter Try.func119, Try.ntmps119
          go_wp2_with fail
          go_ret
          exact ⟨ret_bool (by rw [H.out]; exact (decide_eq_false (by omega)).symm), HB.out _⟩
      · go_enter Try.func119, Try.ntmps119
        go_wp2_with fail
        go_ret
        exact ⟨ret_bool (by rw [H.out]; exact (decide_eq_false (by omega)).symm), HB.out _⟩
    · go_enter Try.func119, Try.ntmps119
      go_wp2_with fail
      go_ret
      exact ⟨ret_bool (by rw [H.out]; exact (decide_eq_false (by omega)).symm), HB.out _⟩
end Go.Proofs.Ytholdmdkhbhokaa
/-
  A map from strings to bools that the call itself has made, as a set of strings. No statement is proved here.
-/
namespace Go.Proofs.Ytholdmdkhbhokaa
open Go.RowKit Go.Maps
set_option maxRecDepth 100000
set_option linter.unusedVariables false

/-- Does it hold? -/
noncomputable def dec (p : Prop) : Bool := @decide p (Classical.propDecidable _)
theorem dec_t {p : Prop} (h : p) : dec p = true := by unfold dec; simp [h]
theorem dec_f {p : Prop} (h : ¬ p) : dec p = false := by unfold dec; simp [h]
theorem dec_congr {p q : Prop} (h : p ↔ q) : dec p = dec q := by
  by_cases hp : p
  · rw [dec_t hp, dec_t (h.1 hp)]
  · rw [dec_f hp, dec_f (fun hq => hp (h.2 hq))]

def MapSet (w : World) (b n : Nat) (S : List UInt8 → Prop) : Prop :=
  ∃ D : DataW Unit, w.ownsMap Try.prog 9 (plainElem Try.prog 4) b n D ∧ IsMap D ∧ ∀ s : List UInt8, D.atKey (.string s) (.lit (.bool false)) = .lit (.bool (dec (S s)))

theorem zero4 (w : World) : (zeroValue 4).run Try.prog w = .ok (.bool false) w := by kernel_rfl
theorem keyStr {s : ByteArray} (h : s.size ≤ maxLen) : keyOf Try.prog 9 (.string s) = some (.string s.data.toList) := Go.WideMaps.keyOf_string_mk Try.underlying9 h

theorem MapSet.made (w : World) : MapSet (w.alloc (.map #[] 0)) w.heap.size 0 (fun _ => False) :=
  ⟨.map [], World.ownsMap_made _ _ _ _, ⟨[], rfl⟩, fun s => by rw [dec_f (fun h => h)]; rfl⟩
theorem MapSet.lt {w : World} {b n : Nat} {S : List UInt8 → Prop} (h : MapSet w b n S) : b < w.heap.size := by
  obtain ⟨D, ho, _⟩ := h; exact ho.lt
theorem MapSet.keep {w w' : World} {b n n' : Nat} {S S' : List UInt8 → Prop} (h : MapSet w b n S) (hb : w'.heap[b]? = w.heap[b]?) (hn : n ≤ n') (hS : ∀ s, S s ↔ S' s) : MapSet w' b n' S' := by
  obtain ⟨D, ⟨es, clock, h1, h2, h3, h4⟩, hm, hat⟩ := h
  exact ⟨D, ⟨es, clock, hb.trans h1, h2, by omega, h4⟩, hm, fun s => by rw [hat s, dec_congr (hS s)]⟩
theorem MapSet.look {w : World} {b n : Nat} {S : List UInt8 → Prop} (h : MapSet w b n S) {s : ByteArray} (hs : s.size ≤ maxLen) : (Instr.lookup 206 (.map (some b)) (.string s) false).run Try.prog w = .ok (.bool (dec (S s.data.toList))) w := by
  obtain ⟨D, ho, hm, hat⟩ := h
  obtain ⟨v, ps, hrun, hv⟩ := ho.lookup (string_keyed Try.underlying9) Try.underlying206 (zero4 w) (zd := .lit (.bool false)) (zp := []) (plainElem_bool Try.underlying4 false) (keyStr hs)
  rw [hat] at hv
  have : v = .bool (dec (S s.data.toList)) := by
    unfold plainElem at hv
    rw [Try.underlying4] at hv
    cases v <;> simp at hv
    rw [hv.1]
  rw [hrun, this]
theorem MapSet.put {w : World} {b n : Nat} {D : DataW Unit} {S : List UInt8 → Prop} {s : List UInt8} (ho : w.ownsMap Try.prog 9 (plainElem Try.prog 4) b n (D.put (.string s) (.lit (.bool true)))) (hm : IsMap D) (hat : ∀ s : List UInt8, D.atKey (.string s) (.lit (.bool false)) = .lit (.bool (dec (S s)))) :
    MapSet w b n (fun t => t = s ∨ S t) := by
  refine ⟨_, ho, ?_, fun t => ?_⟩
  · obtain ⟨es, rfl⟩ := hm
    exact ⟨_, rfl⟩
  · by_cases e : t = s
    · subst e
      rw [atKey_put_same (k := .string t) hm True.intro, dec_t (Or.inl rfl)]
    · rw [atKey_put_other (by intro e'; injection e' with e''; exact e e''), hat, dec_congr (show S t ↔ (t = s ∨ S t) from ⟨Or.inr, fun h => h.resolve_left e⟩)]
end Go.Proofs.Ytholdmdkhbhokaa
/-
  The functions that compare types, constructors and data types, where both sides read as the same. No statement is proved here.
-/
namespace Go.Proofs.Ytholdmdkhbhokaa
open Go.RowKit Go.Sort
set_option maxRecDepth 100000
set_option linter.unusedVariables false

theorem eqType_same (d i : Int) (w : World) :
    Calls Try.prog 91 #[.agg #[.int .i64 d, .int .i64 i], .agg #[.int .i64 d, .int .i64 i]] w fun e w' => e = .returned (.bool true) ∧ Below w.heap.size w w' := by
  go_enter Try.func91, Try.ntmps91
  go_wp2_with fail
  go_ret
  exact ⟨rfl, ((Below.refl _ _).alloc (Nat.le_refl _) _).alloc (by simp) _⟩

set_option maxHeartbeats 800000 in
theorem eqTypeS_same (A A' : Option Addr) (l : List Ty) (cap cap' : Nat) (w : World) (hr : RTys w w.heap.size A l) (hr' : RTys w w.heap.size A' l) :
    Calls Try.prog 155 #[.slice A l.length cap, .slice A' l.length cap'] w fun e w' => e = .returned (.bool true) ∧ Below w.heap.size w w' := by
  have hn := hr.1
  unfold maxLen at hn
  have Hr := Lib.hid hr
  have Hr' := Lib.hid hr'
  clear hr hr'
  go_enter Try.func155, Try.ntmps155
  go_wp2_with fail
  go_loopw [5] (fun i wr => ∃ k : Nat, k ≤ l.length ∧ i = .int .i64 k ∧ Below w.heap.size w wr) (fun i _ => l.length - (intOf i).toNat)
  case atStart => exact ⟨0, by omega, rfl, Below.refl _ _⟩
  case round =>
    obtain ⟨k, hk, rfl, hb⟩ := hrel
    by_cases hlt : k < l.length
    · obtain ⟨b, off, rfl, hbB, c0, c1⟩ := (Hr.out.below hb (Nat.le_refl _)).2 k hlt
      obtain ⟨b', off', rfl, hbB', c0', c1'⟩ := (Hr'.out.below hb (Nat.le_refl _)).2 k hlt
      have d0 := cell_regrown c0
      have d1 := cell_regrown c1
      have d0' := cell_regrown c0'
      have d1' := cell_regrown c1'
      clear c0 c1 c0' c1'
      have hi : (k : Int) < (l.length : Int) := by omega
      go_wp2_with fail
      refine wp_region_quiet_below (by kernel_rfl) (by kernel_rfl) ?_
      repeat (quiet_step (exact Calls.regrown_of (eqType_same _ _ _)))
      refine wpQuiet_nil ?_
      intro _ hw'
      obtain ⟨⟨dq, osq⟩, hw''⟩ := hw'
      subst hw''
      have hb2 := hb.trans ((below_regrown wr dq osq).mono hb.size)
      clear d0 d1 d0' d1'
      go_wp2_with fail
      go_roundw
      case rel => exact ⟨k + 1, by omega, by go_num, hb2⟩
      case measure => simp [intOf]; omega
    · go_wp2_with fail
      go_ret
      exact ⟨rfl, hb⟩

theorem below_two {w w' : World} {o o' : Obj} (h : Below ((w.alloc o).alloc o').heap.size ((w.alloc o).alloc o') w') : Below w.heap.size w w' :=
  (((Below.refl _ _).alloc (Nat.le_refl _) _).alloc (by simp) _).trans (h.mono (by simp; omega))
theorem keep_two {w : World} (o o' : Obj) : ∀ p : Addr, p.block < w.heap.size → ((w.alloc o).alloc o').cell? p = w.cell? p := fun p hp => by
  rw [World.cell?_alloc_lt _ _ _ (by simp; omega), World.cell?_alloc_lt _ _ _ hp]

theorem eqCtor_same (nm : ByteArray) (A A' : Option Addr) (l : List Ty) (cap cap' : Nat) (ix : Int) (w : World) (hr : RTys w w.heap.size A l) (hr' : RTys w w.heap.size A' l) :
    Calls Try.prog 129 #[.agg #[.string nm, .slice A l.length cap, .int .i64 ix], .agg #[.string nm, .slice A' l.length cap', .int .i64 ix]] w fun e w' => e = .returned (.bool true) ∧ Below w.heap.size w w' := by
  have Hr := Lib.hid hr
  have Hr' := Lib.hid hr'
  clear hr hr'
  go_enter Try.func129, Try.ntmps129
  go_wp2_with (go_at_call 155; refine (eqTypeS_same _ _ _ _ _ _ (by exact Hr.out.keep (keep_two _ _) (by simp; omega)) (by exact Hr'.out.keep (keep_two _ _) (by simp; omega))).mono ?_; rintro e w1 ⟨rfl, hb⟩; obtain ⟨hc, hfz⟩ := bcell hb)
  go_ret
  exact ⟨rfl, below_two hb⟩

set_option maxHeartbeats 800000 in
theorem eqCtorS_same (A A' : Option Addr) (l : List Ct) (cap cap' : Nat) (w : World) (hr : RCts w w.heap.size A l) (hr' : RCts w w.heap.size A' l) :
    Calls Try.prog 89 #[.slice A l.length cap, .slice A' l.length cap'] w fun e w' => e = .returned (.bool true) ∧ Below w.heap.size w w' := by
  have hn := hr.1
  unfold maxLen at hn
  have Hr := Lib.hid hr
  have Hr' := Lib.hid hr'
  clear hr hr'
  go_enter Try.func89, Try.ntmps89
  go_wp2_with fail
  go_loopw [5] (fun i wr => ∃ k : Nat, k ≤ l.length ∧ i = .int .i64 k ∧ Below w.heap.size w wr) (fun i _ => l.length - (intOf i).toNat)
  case atStart => exact ⟨0, by omega, rfl, Below.refl _ _⟩
  case round =>
    obtain ⟨k, hk, rfl, hb⟩ := hrel
    by_cases hlt : k < l.length
    · obtain ⟨b, off, rfl, hbB, B1, cp, c0, c1, c2, _, hm⟩ := (Hr.out.below hb (Nat.le_refl _)).2 k hlt
      obtain ⟨b', off', rfl, hbB', B2, cp', c0', c1', c2', _, hm'⟩ := (Hr'.out.below hb (Nat.le_refl _)).2 k hlt
      have d0 := cell_regrown c0
      have d1 := cell_regrown c1
      have d2 := cell_regrown c2
      have d0' := cell_regrown c0'
      have d1' := cell_regrown c1'
      have d2' := cell_regrown c2'
      have Hm := Lib.hid hm
      have Hm' := Lib.hid hm'
      clear c0 c1 c2 c0' c1' c2' hm hm'
      have hi : (k : Int) < (l.length : Int) := by omega
      go_wp2_with fail
      refine wp_region_quiet_below (by kernel_rfl) (by kernel_rfl) ?_
      repeat (quiet_step (exact Calls.regrown_of (eqCtor_same _ _ _ _ _ _ _ _ (Hm.out.keep (fun p hp => (below_regrown wr _ _).cell (Nat.lt_of_lt_of_le hp hb.size)) (Nat.le_trans hb.size (below_regrown wr _ _).size)) (Hm'.out.keep (fun p hp => (below_regrown wr _ _).cell (Nat.lt_of_lt_of_le hp hb.size)) (Nat.le_trans hb.size (below_regrown wr _ _).size)))))
      refine wpQuiet_nil ?_
      intro _ hw'
      obtain ⟨⟨dq, osq⟩, hw''⟩ := hw'
      subst hw''
      have hb2 := hb.trans ((below_regrown wr dq osq).mono hb.size)
      clear d0 d1 d2 d0' d1' d2'
      go_wp2_with fail
      go_roundw
      case rel => exact ⟨k + 1, by omega, by go_num, hb2⟩
      case measure => simp [intOf]; omega
    · go_wp2_with fail
      go_ret
      exact ⟨rfl, hb⟩

theorem eqData_same (nm : ByteArray) (A A' : Option Addr) (l : List Ct) (cap cap' : Nat) (w : World) (hr : RCts w w.heap.size A l) (hr' : RCts w w.heap.size A' l) :
    Calls Try.prog 52 #[.agg #[.string nm, .slice A l.length cap], .agg #[.string nm, .slice A' l.length cap']] w fun e w' => e = .returned (.bool true) ∧ Below w.heap.size w w' := by
  have Hr := Lib.hid hr
  have Hr' := Lib.hid hr'
  clear hr hr'
  go_enter Try.func52, Try.ntmps52
  go_wp2_with (go_at_call 89; refine (eqCtorS_same _ _ _ _ _ _ (by exact Hr.out.keep (keep_two _ _) (by simp; omega)) (by exact Hr'.out.keep (keep_two _ _) (by simp; omega))).mono ?_; rintro e w1 ⟨rfl, hb⟩; obtain ⟨hc, hfz⟩ := bcell hb)
  go_ret
  exact ⟨rfl, below_two hb⟩

set_option maxHeartbeats 800000 in
theorem eqDataS_same (A A' : Option Addr) (l : List Da) (cap cap' : Nat) (w : World) (hr : RDas w w.heap.size A l) (hr' : RDas w w.heap.size A' l) :
    Calls Try.prog 17 #[.slice A l.length cap, .slice A' l.length cap'] w fun e w' => e = .returned (.bool true) ∧ Below w.heap.size w w' := by
  have hn := hr.1
  unfold maxLen at hn
  have Hr := Lib.hid hr
  have Hr' := Lib.hid hr'
  clear hr hr'
  go_enter Try.func17, Try.ntmps17
  go_wp2_with fail
  go_loopw [5] (fun i wr => ∃ k : Nat, k ≤ l.length ∧ i = .int .i64 k ∧ Below w.heap.size w wr) (fun i _ => l.length - (intOf i).toNat)
  case atStart => exact ⟨0, by omega, rfl, Below.refl _ _⟩
  case round =>
    obtain ⟨k, hk, rfl, hb⟩ := hrel
    by_cases hlt : k < l.length
    · obtain ⟨b, off, rfl, hbB, B1, cp, c0, c1, _, hm⟩ := (Hr.out.below hb (Nat.le_refl _)).2 k hlt
      obtain ⟨b', off', rfl, hbB', B2, cp', c0', c1', _, hm'⟩ := (Hr'.out.below hb (Nat.le_refl _)).2 k hlt
      have d0 := cell_regrown c0
      have d1 := cell_regrown c1
      have d0' := cell_regrown c0'
      have d1' := cell_regrown c1'
      have Hm := Lib.hid hm
      have Hm' := Lib.hid hm'
      clear c0 c1 c0' c1' hm hm'
      have hi : (k : Int) < (l.length : Int) := by omega
      go_wp2_with fail
      refine wp_region_quiet_below (by kernel_rfl) (by kernel_rfl) ?_
      repeat (quiet_step (exact Calls.regrown_of (eqData_same _ _ _ _ _ _ _ (Hm.out.keep (fun p hp => (below_regrown wr _ _).cell (Nat.lt_of_lt_of_le hp hb.size)) (Nat.le_trans hb.size (below_regrown wr _ _).size)) (Hm'.out.keep (fun p hp => (below_regrown wr _ _).cell (Nat.lt_of_lt_of_le hp hb.size)) (Nat.le_trans hb.size (below_regrown wr _ _).size)))))
      refine wpQuiet_nil ?_
      intro _ hw'
      obtain ⟨⟨dq, osq⟩, hw''⟩ := hw'
      subst hw''
      have hb2 := hb.trans ((below_regrown wr dq osq).mono hb.size)
      clear d0 d1 d0' d1'
      go_wp2_with fail
      go_roundw
      case rel => exact ⟨k + 1, by omega, by go_num, hb2⟩
      case measure => simp [intOf]; omega
    · go_wp2_with fail
      go_ret
      exact ⟨rfl, hb⟩
end Go.Proofs.Ytholdmdkhbhokaa
/-
  The text of a mark. No statement is proved here.
-/
namespace Go.Proofs.Ytholdmdkhbhokaa
open Go.RowKit
set_option maxRecDepth 100000
set_option linter.unusedVariables false

/-- A string of one byte. -/
def one (x : Int) : ByteArray := ByteArray.empty.push (UInt8.ofNat x.toNat)
theorem one_size (x : Int) : (one x).size = 1 := rfl
theorem conv_one (w : World) (x : Int) : (Go.convert 132 9 (.slice (some ⟨w.heap.size, 0, none⟩) 1 1)).run Try.prog (w.alloc (.cells #[.int .u8 x] 5)) = .ok (.string (one x)) (w.alloc (.cells #[.int .u8 x] 5)) := by
  rw [run_convert_bytes_string _ 132 9 5 _ 1 1 Try.underlying132 Try.underlying5 Try.underlying9]
  exact run_bytesToString _ ⟨w.heap.size, 0, none⟩ 1 1 [x] (by simp [loadCells, go_sem])
theorem quo_le {m : Int} (h : 0 < m) : 0 ≤ m / 10 ∧ m / 10 + 1 ≤ m := by omega

set_option maxHeartbeats 800000 in
theorem markText_any (k : Int) (w : World) (h0 : 0 < k) (h1 : k ≤ 8388608) :
    Calls Try.prog 56 #[.int .i64 k] w fun e w' => ∃ s : ByteArray, e = .returned (.string s) ∧ s.size ≤ 8388609 ∧ Below w.heap.size w w' := by
  go_enter Try.func56, Try.ntmps56
  go_wp2_with fail
  go_loopw [0, 3] (fun q t wr => ∃ m : Int, 0 ≤ m ∧ m ≤ k ∧ q = .int .i64 m ∧ ∃ s : ByteArray, t = .string s ∧ (s.size : Int) + m ≤ k ∧ Below w.heap.size w wr) (fun q _ _ => (intOf q).toNat)
  case atStart => exact ⟨k, by omega, by omega, rfl, ByteArray.empty, rfl, by simp, Below.refl _ _⟩
  case round =>
    obtain ⟨m, hm0, hm1, rfl, s, rfl, hs, hb⟩ := hrel
    have hlw := hb.size
    by_cases hlt : 0 < m
    · have hq := quo_le hlt
      have hq0 := hq.1
      have hq1 := hq.2
      clear hq
      have hcv := conv_one wr
      have hos := one_size
      go_wp2_with fail
      go_roundw
      case rel => exact ⟨m / 10, by omega, by omega, rfl, _, rfl, by rw [ByteArray.size_append, one_size]; push_cast; omega, hb.alloc hlw _⟩
      case measure => simp [intOf]; omega
    · go_wp2_with fail
      go_ret
      exact ⟨_, rfl, by rw [ByteArray.size_append]; have : (ByteArray.mk #[109]).size = 1 := rfl; omega, hb⟩
end Go.Proofs.Ytholdmdkhbhokaa
/-
  The functions that count how much types, constructors and data types hold. No statement is proved here.
-/
namespace Go.Proofs.Ytholdmdkhbhokaa
open Go.RowKit
set_option maxRecDepth 100000
set_option linter.unusedVariables false

theorem ret_i64 {a b : Int} (h : a = b) : Ending.returned (.int .i64 a) = .returned (.int .i64 b) := by rw [h]

theorem szTypeS_any (A : Option Addr) (n cap : Nat) (l : Int) (w : World) (hn : n ≤ maxLen) (h0 : 0 ≤ l) (h1 : l ≤ 1048576) :
    Calls Try.prog 144 #[.slice A n cap, .int .i64 l] w fun e w' => e = .returned (.int .i64 (left l n)) ∧ w = w' := by
  unfold maxLen at hn
  by_cases hc : (n : Int) ≤ l
  · have H := Lib.hid (left_ok hc)
    go_enter Try.func144, Try.ntmps144
    go_wp2_with fail
    go_ret
    exact ⟨ret_i64 H.out.symm, rfl⟩
  · have H := Lib.hid (left_no hc)
    go_enter Try.func144, Try.ntmps144
    go_wp2_with fail
    go_ret
    exact ⟨ret_i64 H.out.symm, rfl⟩

theorem szCtor_any (nm : ByteArray) (A : Option Addr) (m cap : Nat) (ix l : Int) (w : World) (hs : nm.size ≤ maxLen) (hm : m ≤ maxLen) (h0 : 0 ≤ l) (h1 : l ≤ 1048576) :
    Calls Try.prog 115 #[.agg #[.string nm, .slice A m cap, .int .i64 ix], .int .i64 l] w fun e w' => e = .returned (.int .i64 (left l (nm.size + m))) ∧ Below w.heap.size w w' := by
  have hm' := hm
  unfold maxLen at hs hm
  by_cases hc : (nm.size : Int) ≤ l
  · by_cases hc2 : (m : Int) ≤ l - nm.size
    · have H := Lib.hid (left_ok (l := l) (n := nm.size + m) (by omega))
      have H2 := Lib.hid (left_ok hc2)
      go_enter Try.func115, Try.ntmps115
      go_wp2_with (go_at_call 144; refine (szTypeS_any _ _ _ _ _ hm' (by omega) (by omega)).mono ?_; rw [H2.out]; rintro e w' ⟨rfl, rfl⟩)
      go_ret
      exact ⟨ret_i64 (by rw [H.out]; omega), (Below.refl _ _).alloc (Nat.le_refl _) _⟩
    · have H := Lib.hid (left_no (l := l) (n := nm.size + m) (by omega))
      have H2 := Lib.hid (left_no hc2)
      go_enter Try.func115, Try.ntmps115
      go_wp2_with (go_at_call 144; refine (szTypeS_any _ _ _ _ _ hm' (by omega) (by omega)).mono ?_; rw [H2.out]; rintro e w' ⟨rfl, rfl⟩)
      go_ret
      exact ⟨ret_i64 (by rw [H.out]), (Below.refl _ _).alloc (Nat.le_refl _) _⟩
  · have H := Lib.hid (left_no (l := l) (n := nm.size + m) (by omega))
    go_enter Try.func115, Try.ntmps115
    go_wp2_with fail
    go_ret
    exact ⟨ret_i64 (by rw [H.out]), (Below.refl _ _).alloc (Nat.le_refl _) _⟩

set_option maxHeartbeats 400000 in
theorem szCtorS_any (A : Option Addr) (cs : List Ct) (cap : Nat) (l : Int) (w : World) (hr : RCts w w.heap.size A cs) (h0 : 0 ≤ l) (h1 : l ≤ 1048576) :
    Calls Try.prog 81 #[.slice A cs.length cap, .int .i64 l] w fun e w' => e = .returned (.int .i64 (left l (wCts cs))) ∧ Below w.heap.size w w' := by
  have hn := hr.1
  unfold maxLen at hn
  have Hr := Lib.hid hr
  clear hr
  by_cases hc : (cs.length : Int) ≤ l
  · go_enter Try.func81, Try.ntmps81
    go_wp2_with fail
    go_loopw [1, 5] (fun t i wr => ∃ k : Nat, k ≤ cs.length ∧ i = .int .i64 k ∧ ∃ q : Int, 0 ≤ q ∧ q ≤ 1048576 ∧ t = .int .i64 q ∧ Hid (q = l - (cs.length + ((cs.take k).map wCt).sum : Nat)) ∧ Below w.heap.size w wr) (fun _ i _ => cs.length - (intOf i).toNat)
    case atStart => exact ⟨0, by omega, rfl, _, by omega, by omega, rfl, by unfold Hid; simp, Below.refl _ _⟩
    case round =>
      obtain ⟨k, hk, rfl, q, hq0, hq1, rfl, HQ, hb⟩ := hrel
      by_cases hlt : k < cs.length
      · obtain ⟨b, off, rfl, hbB, A', cp, c0, c1, c2, hs, hm⟩ := (Hr.out.below hb (Nat.le_refl _)).2 k hlt
        have hm1 := hm.1
        have HS := Lib.hid (sum_take_succ wCt cs k hlt)
        have HL := Lib.hid (sum_take_le wCt cs (k + 1))
        have HW : Hid (wCt cs[k] = cs[k].name.size + cs[k].args.length) := rfl
        have Hm := Lib.hid hm
        clear hm
        by_cases hc2 : ((cs[k].name.size + cs[k].args.length : Nat) : Int) ≤ q
        · have H2 := Lib.hid (left_ok hc2)
          go_wp2_with (go_at_call 115; refine (szCtor_any _ _ _ _ _ _ _ hs hm1 (by omega) (by omega)).mono ?_; rw [H2.out]; rintro e w' ⟨rfl, hb'⟩)
          have hb2 := hb.trans (hb'.mono hb.size)
          go_roundw
          case rel => exact ⟨k + 1, by omega, by go_num, _, by omega, by omega, rfl, by unfold Hid; rw [HS.out, HW.out, HQ.out]; omega, hb2⟩
          case measure => simp [intOf]; omega
        · have H2 := Lib.hid (left_no hc2)
          have H := Lib.hid (left_no (l := l) (n := wCts cs) (by unfold wCts; rw [HQ.out] at hc2; rw [HS.out, HW.out] at HL; have := HL.out; omega))
          go_wp2_with (go_at_call 115; refine (szCtor_any _ _ _ _ _ _ _ hs hm1 (by omega) (by omega)).mono ?_; rw [H2.out]; rintro e w' ⟨rfl, hb'⟩)
          have hb2 := hb.trans (hb'.mono hb.size)
          go_ret
          exact ⟨ret_i64 (by rw [H.out]), hb2⟩
      · go_wp2_with fail
        go_ret
        exact ⟨ret_i64 (by rw [HQ.out, List.take_of_length_le (by omega)]; rw [left_ok]; rfl; rw [List.take_of_length_le (by omega)] at HQ; unfold wCts; have := HQ.out; omega), hb⟩
  · have H := Lib.hid (left_no (l := l) (n := wCts cs) (by unfold wCts; omega))
    go_enter Try.func81, Try.ntmps81
    go_wp2_with fail
    go_ret
    exact ⟨ret_i64 (by rw [H.out]), Below.refl _ _⟩

theorem szData_any (nm : ByteArray) (A : Option Addr) (cs : List Ct) (cap : Nat) (l : Int) (w : World) (hs : nm.size ≤ maxLen) (hr : RCts w w.heap.size A cs) (h0 : 0 ≤ l) (h1 : l ≤ 1048576) :
    Calls Try.prog 45 #[.agg #[.string nm, .slice A cs.length cap], .int .i64 l] w fun e w' => e = .returned (.int .i64 (left l (nm.size + wCts cs))) ∧ Below w.heap.size w w' := by
  unfold maxLen at hs
  have Hr := Lib.hid hr
  clear hr
  by_cases hc : (nm.size : Int) ≤ l
  · by_cases hc2 : (wCts cs : Int) ≤ l - nm.size
    · have H := Lib.hid (left_ok (l := l) (n := nm.size + wCts cs) (by omega))
      have H2 := Lib.hid (left_ok hc2)
      go_enter Try.func45, Try.ntmps45
      go_wp2_with (go_at_call 81; refine (szCtorS_any _ _ _ _ _ (by exact Hr.out.keep (fun p hp => World.cell?_alloc_lt _ _ _ hp) (by simp)) (by omega) (by omega)).mono ?_; rw [H2.out]; rintro e w' ⟨rfl, hb⟩)
      go_ret
      exact ⟨ret_i64 (by rw [H.out]; omega), ((Below.refl _ _).alloc (Nat.le_refl _) _).trans (hb.mono (by simp))⟩
    · have H := Lib.hid (left_no (l := l) (n := nm.size + wCts cs) (by omega))
      have H2 := Lib.hid (left_no hc2)
      go_enter Try.func45, Try.ntmps45
      go_wp2_with (go_at_call 81; refine (szCtorS_any _ _ _ _ _ (by exact Hr.out.keep (fun p hp => World.cell?_alloc_lt _ _ _ hp) (by simp)) (by omega) (by omega)).mono ?_; rw [H2.out]; rintro e w' ⟨rfl, hb⟩)
      go_ret
      exact ⟨ret_i64 (by rw [H.out]), ((Below.refl _ _).alloc (Nat.le_refl _) _).trans (hb.mono (by simp))⟩
  · have H := Lib.hid (left_no (l := l) (n := nm.size + wCts cs) (by omega))
    go_enter Try.func45, Try.ntmps45
    go_wp2_with fail
    go_ret
    exact ⟨ret_i64 (by rw [H.out]), (Below.refl _ _).alloc (Nat.le_refl _) _⟩

set_option maxHeartbeats 400000 in
theorem szDataS_any (A : Option Addr) (ds : List Da) (cap : Nat) (l : Int) (w : World) (hr : RDas w w.heap.size A ds) (h0 : 0 ≤ l) (h1 : l ≤ 1048576) :
    Calls Try.prog 10 #[.slice A ds.length cap, .int .i64 l] w fun e w' => e = .returned (.int .i64 (left l (wDas ds))) ∧ Below w.heap.size w w' := by
  have hn := hr.1
  unfold maxLen at hn
  have Hr := Lib.hid hr
  clear hr
  by_cases hc : (ds.length : Int) ≤ l
  · go_enter Try.func10, Try.ntmps10
    go_wp2_with fail
    go_loopw [1, 5] (fun t i wr => ∃ k : Nat, k ≤ ds.length ∧ i = .int .i64 k ∧ ∃ q : Int, 0 ≤ q ∧ q ≤ 1048576 ∧ t = .int .i64 q ∧ Hid (q = l - (ds.length + ((ds.take k).map wDa).sum : Nat)) ∧ Below w.heap.size w wr) (fun _ i _ => ds.length - (intOf i).toNat)
    case atStart => exact ⟨0, by omega, rfl, _, by omega, by omega, rfl, by unfold Hid; simp, Below.refl _ _⟩
    case round =>
      obtain ⟨k, hk, rfl, q, hq0, hq1, rfl, HQ, hb⟩ := hrel
      by_cases hlt : k < ds.length
      · obtain ⟨b, off, rfl, hbB, A', cp, c0, c1, hs, hm⟩ := (Hr.out.below hb (Nat.le_refl _)).2 k hlt
        have HS := Lib.hid (sum_take_succ wDa ds k hlt)
        have HL := Lib.hid (sum_take_le wDa ds (k + 1))
        have HW : Hid (wDa ds[k] = ds[k].name.size + wCts ds[k].ctors) := rfl
        have Hm := Lib.hid (hm.keep (fun _ _ => rfl) hb.size)
        clear hm
        by_cases hc2 : ((ds[k].name.size + wCts ds[k].ctors : Nat) : Int) ≤ q
        · have H2 := Lib.hid (left_ok hc2)
          go_wp2_with (go_at_call 45; refine (szData_any _ _ _ _ _ _ hs Hm.out (by omega) (by omega)).mono ?_; rw [H2.out]; rintro e w' ⟨rfl, hb'⟩)
          have hb2 := hb.trans (hb'.mono hb.size)
          go_roundw
          case rel => exact ⟨k + 1, by omega, by go_num, _, by omega, by omega, rfl, by unfold Hid; rw [HS.out, HW.out, HQ.out]; omega, hb2⟩
          case measure => simp [intOf]; omega
        · have H2 := Lib.hid (left_no hc2)
          have H := Lib.hid (left_no (l := l) (n := wDas ds) (by unfold wDas; rw [HQ.out] at hc2; rw [HS.out, HW.out] at HL; have := HL.out; omega))
          go_wp2_with (go_at_call 45; refine (szData_any _ _ _ _ _ _ hs Hm.out (by omega) (by omega)).mono ?_; rw [H2.out]; rintro e w' ⟨rfl, hb'⟩)
          have hb2 := hb.trans (hb'.mono hb.size)
          go_ret
          exact ⟨ret_i64 (by rw [H.out]), hb2⟩
      · go_wp2_with fail
        go_ret
        exact ⟨ret_i64 (by rw [HQ.out, List.take_of_length_le (by omega)]; rw [left_ok]; rfl; rw [List.take_of_length_le (by omega)] at HQ; unfold wDas; have := HQ.out; omega), hb⟩
  · have H := Lib.hid (left_no (l := l) (n := wDas ds) (by unfold wDas; omega))
    go_enter Try.func10, Try.ntmps10
    go_wp2_with fail
    go_ret
    exact ⟨ret_i64 (by rw [H.out]), Below.refl _ _⟩
end Go.Proofs.Ytholdmdkhbhokaa
/-
  Types, constructors and data types that are marked where they lie. No statement is proved here.
-/
namespace Go.Proofs.Ytholdmdkhbhokaa
open Go.RowKit
set_option maxRecDepth 100000
set_option linter.unusedVariables false

/-- Two values of one kind: two integers, two strings, or one value. -/
def Alike (v v' : Value) : Prop := v = v' ∨ (∃ x y, v = .int .i64 x ∧ v' = .int .i64 y) ∨ (∃ s s', v = .string s ∧ v' = .string s')
theorem Alike.trans {a b c : Value} (h : Alike a b) (h' : Alike b c) : Alike a c := by
  rcases h with rfl | ⟨x, y, rfl, rfl⟩ | ⟨s, t, rfl, rfl⟩
  · exact h'
  · rcases h' with rfl | ⟨x', y', e, rfl⟩ | ⟨s, t, e, _⟩
    · exact .inr (.inl ⟨_, _, rfl, rfl⟩)
    · exact .inr (.inl ⟨_, _, rfl, rfl⟩)
    · cases e
  · rcases h' with rfl | ⟨x', y', e, _⟩ | ⟨s', t', e, rfl⟩
    · exact .inr (.inr ⟨_, _, rfl, rfl⟩)
    · cases e
    · exact .inr (.inr ⟨_, _, rfl, rfl⟩)
/-- Nothing below lo and nothing from hi on has turned; the cells of other blocks are of the kinds that they were. -/
def Kept (lo hi : Nat) (w w' : World) : Prop := Below lo w w' ∧ (∀ b, hi ≤ b → b < w.heap.size → w'.heap[b]? = w.heap[b]?) ∧ ∀ (g : Nat) (cs : Array Value) (t : TypeId), w.heap[g]? = some (.cells cs t (0, 0)) → ∃ cs' : Array Value, w'.heap[g]? = some (.cells cs' t (0, 0)) ∧ cs'.size = cs.size ∧ ∀ (i : Nat) (v : Value), cs[i]? = some v → ∃ v', cs'[i]? = some v' ∧ Alike v v'
theorem Kept.refl (lo hi : Nat) (w : World) : Kept lo hi w w := ⟨Below.refl _ _, fun _ _ _ => rfl, fun g cs t h => ⟨cs, h, rfl, fun i v hv => ⟨v, hv, .inl rfl⟩⟩⟩
theorem Kept.trans {lo hi : Nat} {a b c : World} (h : Kept lo hi a b) (h' : Kept lo hi b c) : Kept lo hi a c :=
  ⟨h.1.trans h'.1, fun x hx hl => (h'.2.1 x hx (Nat.lt_of_lt_of_le hl h.1.size)).trans (h.2.1 x hx hl), fun g cs t hg => by
    obtain ⟨cs1, e1, s1, q1⟩ := h.2.2 g cs t hg
    obtain ⟨cs2, e2, s2, q2⟩ := h'.2.2 g cs1 t e1
    refine ⟨cs2, e2, by omega, fun i v hv => ?_⟩
    obtain ⟨v1, f1, a1⟩ := q1 i v hv
    obtain ⟨v2, f2, a2⟩ := q2 i v1 f1
    exact ⟨v2, f2, a1.trans a2⟩⟩
theorem Kept.below {lo hi : Nat} {w w' : World} (h : Below w.heap.size w w') (hlo : lo ≤ w.heap.size) : Kept lo hi w w' :=
  ⟨h.mono hlo, fun x _ hl => h.block x hl, fun g cs t hg => ⟨cs, (h.block g (heap_lt hg)).trans hg, rfl, fun i v hv => ⟨v, hv, .inl rfl⟩⟩⟩
theorem Kept.set {lo hi g i : Nat} {w : World} {cs : Array Value} {t : TypeId} {v u : Value} (hg : w.heap[g]? = some (.cells cs t (0, 0))) (hlo : lo ≤ g ∧ g < hi) (hv : cs[i]? = some v) (ha : Alike v u) : Kept lo hi w (w.setCell ⟨g, i, none⟩ u) := by
  refine ⟨(Below.refl _ _).setCell hlo.1 _, fun x hx _ => Below.heap_setCell w ⟨g, i, none⟩ u x (by have := hlo.2; simp; omega), fun b ds s hb => ?_⟩
  by_cases e : b = g
  · subst e
    rw [hg] at hb
    injection hb with hb
    injection hb with e1 e2
    subst e1 e2
    refine ⟨cs.setIfInBounds i u, heap_setCell_same w b i cs t u hg, by simp, fun j x hx => ?_⟩
    have hjl : j < cs.size := (Array.getElem?_eq_some_iff.1 hx).1
    by_cases e : j = i
    · subst e
      rw [hv] at hx
      cases hx
      exact ⟨u, by simp [hjl], ha⟩
    · exact ⟨x, by rw [Array.getElem?_setIfInBounds_ne (by omega)]; exact hx, .inl rfl⟩
  · exact ⟨ds, (Below.heap_setCell w ⟨g, i, none⟩ u b e).trans hb, rfl, fun j x hx => ⟨x, hx, .inl rfl⟩⟩

/-- Shapes: blocks of the call's own that hold types, constructors, data types, whatever these are. -/
def STys (w : World) (lo hi : Nat) (A : Option Addr) (n : Nat) : Prop := 0 < n → ∃ g cs, A = some ⟨g, 0, none⟩ ∧ (lo ≤ g ∧ g < hi) ∧ w.heap[g]? = some (.cells cs 33 (0, 0)) ∧ ∀ i, i < n * 2 → ∃ x, cs[i]? = some (.int .i64 x)
def SCts (w : World) (lo hi : Nat) (A : Option Addr) (l : List Ct) : Prop := 0 < l.length → ∃ g cs, A = some ⟨g, 0, none⟩ ∧ (lo ≤ g ∧ g < hi) ∧ w.heap[g]? = some (.cells cs 134 (0, 0)) ∧
  ∀ k (h : k < l.length), ∃ s A' cap x, cs[k * 3]? = some (.string s) ∧ cs[k * 3 + 1]? = some (.slice A' l[k].args.length cap) ∧ cs[k * 3 + 2]? = some (.int .i64 x) ∧ STys w lo hi A' l[k].args.length
def SDas (w : World) (lo hi : Nat) (A : Option Addr) (l : List Da) : Prop := 0 < l.length → ∃ g cs, A = some ⟨g, 0, none⟩ ∧ (lo ≤ g ∧ g < hi) ∧ w.heap[g]? = some (.cells cs 79 (0, 0)) ∧
  ∀ k (h : k < l.length), ∃ s A' cap, cs[k * 2]? = some (.string s) ∧ cs[k * 2 + 1]? = some (.slice A' l[k].ctors.length cap) ∧ SCts w lo hi A' l[k].ctors
theorem alike_int {x : Int} {v : Value} (h : Alike (.int .i64 x) v) : ∃ y, v = .int .i64 y := by
  rcases h with rfl | ⟨a, b, _, rfl⟩ | ⟨s, t, e, _⟩
  · exact ⟨_, rfl⟩
  · exact ⟨_, rfl⟩
  · cases e
theorem alike_str {s : ByteArray} {v : Value} (h : Alike (.string s) v) : ∃ y, v = .string y := by
  rcases h with rfl | ⟨a, b, e, _⟩ | ⟨s, t, _, rfl⟩
  · exact ⟨_, rfl⟩
  · cases e
  · exact ⟨_, rfl⟩
theorem alike_slice {A : Option Addr} {n c : Nat} {v : Value} (h : Alike (.slice A n c) v) : v = .slice A n c := by
  rcases h with rfl | ⟨a, b, e, _⟩ | ⟨s, t, e, _⟩
  · rfl
  · cases e
  · cases e
theorem STys.kept {w w' : World} {lo hi : Nat} {A : Option Addr} {n : Nat} (h : STys w lo hi A n) (hk : Kept lo hi w w') : STys w' lo hi A n := fun hn => by
  obtain ⟨g, cs, e, hl, hg, hc⟩ := h hn
  obtain ⟨cs', hg', hs, hq⟩ := hk.2.2 g cs 33 hg
  refine ⟨g, cs', e, hl, hg', fun i hi => ?_⟩
  obtain ⟨x, hx⟩ := hc i hi
  obtain ⟨v', hv', ha⟩ := hq i _ hx
  obtain ⟨y, rfl⟩ := alike_int ha
  exact ⟨y, hv'⟩
theorem SCts.kept {w w' : World} {lo hi : Nat} {A : Option Addr} {l : List Ct} (h : SCts w lo hi A l) (hk : Kept lo hi w w') : SCts w' lo hi A l := fun hn => by
  obtain ⟨g, cs, e, hl, hg, hc⟩ := h hn
  obtain ⟨cs', hg', hs, hq⟩ := hk.2.2 g cs 134 hg
  refine ⟨g, cs', e, hl, hg', fun k hkl => ?_⟩
  obtain ⟨s, A', cap, x, e0, e1, e2, e3⟩ := hc k hkl
  obtain ⟨v0, f0, a0⟩ := hq _ _ e0
  obtain ⟨v1, f1, a1⟩ := hq _ _ e1
  obtain ⟨v2, f2, a2⟩ := hq _ _ e2
  obtain ⟨s', rfl⟩ := alike_str a0
  obtain ⟨y, rfl⟩ := alike_int a2
  rw [alike_slice a1] at f1
  exact ⟨s', A', cap, y, f0, f1, f2, e3.kept hk⟩
theorem SDas.kept {w w' : World} {lo hi : Nat} {A : Option Addr} {l : List Da} (h : SDas w lo hi A l) (hk : Kept lo hi w w') : SDas w' lo hi A l := fun hn => by
  obtain ⟨g, cs, e, hl, hg, hc⟩ := h hn
  obtain ⟨cs', hg', hs, hq⟩ := hk.2.2 g cs 79 hg
  refine ⟨g, cs', e, hl, hg', fun k hkl => ?_⟩
  obtain ⟨s, A', cap, e0, e1, e3⟩ := hc k hkl
  obtain ⟨v0, f0, a0⟩ := hq _ _ e0
  obtain ⟨v1, f1, a1⟩ := hq _ _ e1
  obtain ⟨s', rfl⟩ := alike_str a0
  rw [alike_slice a1] at f1
  exact ⟨s', A', cap, f0, f1, e3.kept hk⟩
theorem FTys.shape {w : World} {lo g : Nat} {l : List Ty} (h : FTys w lo g l) : STys w lo w.heap.size (some ⟨g, 0, none⟩) l.length := fun _ => by
  obtain ⟨h1, h2, cs, h3, h4, h5⟩ := h
  refine ⟨g, cs, rfl, ⟨h1, heap_lt h3⟩, h3, fun i hi => ?_⟩
  obtain ⟨a, b⟩ := h5 (i / 2) (by omega)
  rcases (show i = i / 2 * 2 ∨ i = i / 2 * 2 + 1 by omega) with e | e
  · rw [e]; exact ⟨_, a⟩
  · rw [e]; exact ⟨_, b⟩
theorem FCts.shape {w : World} {lo g : Nat} {l : List Ct} (h : FCts w lo g l) : SCts w lo w.heap.size (some ⟨g, 0, none⟩) l := fun _ => by
  obtain ⟨h1, h2, cs, h3, h4, h5⟩ := h
  refine ⟨g, cs, rfl, ⟨h1, heap_lt h3⟩, h3, fun k hk => ?_⟩
  obtain ⟨g', e0, e1, e2, e3, e4⟩ := h5 k hk
  exact ⟨_, _, _, _, e0, e1, e2, e4.shape⟩
theorem FDas.shape {w : World} {lo g : Nat} {l : List Da} (h : FDas w lo g l) : SDas w lo w.heap.size (some ⟨g, 0, none⟩) l := fun _ => by
  obtain ⟨h1, h2, cs, h3, h4, h5⟩ := h
  refine ⟨g, cs, rfl, ⟨h1, heap_lt h3⟩, h3, fun k hk => ?_⟩
  obtain ⟨g', e0, e1, e3, e4⟩ := h5 k hk
  exact ⟨_, _, _, e0, e1, e4.shape⟩

set_option maxHeartbeats 800000 in
theorem markTypeS_any (A : Option Addr) (n cap lo hi : Nat) (k : Int) (w : World) (hn : n ≤ 1048576) (h0 : 0 ≤ k) (h1 : k ≤ 4194304) (hr : STys w lo hi A n) :
    Calls Try.prog 92 #[.slice A n cap, .int .i64 k] w fun e w' => e = .returned (.int .i64 (k + 2 * n)) ∧ Kept lo hi w w' := by
  have Hr := Lib.hid hr
  clear hr
  go_enter Try.func92, Try.ntmps92
  go_wp2_with fail
  go_loopw [1, 5] (fun q i wr => ∃ j : Nat, j ≤ n ∧ i = .int .i64 j ∧ q = .int .i64 (k + 2 * j) ∧ Kept lo hi w wr) (fun _ i _ => n - (intOf i).toNat)
  case atStart => exact ⟨0, by omega, rfl, by simp, Kept.refl _ _ _⟩
  case round =>
    obtain ⟨j, hj, rfl, rfl, hk⟩ := hrel
    have HK := Lib.hid hk
    clear hk
    by_cases hlt : j < n
    · obtain ⟨g, cs, rfl, hlo, hg, hc⟩ := (Hr.out.kept HK.out) (by omega)
      obtain ⟨x0, e0⟩ := hc (j * 2) (by omega)
      obtain ⟨x1, e1⟩ := hc (j * 2 + 1) (by omega)
      have c0 : wr.cell? ⟨g, j * 2, none⟩ = some (.int .i64 x0) := (cell_of_blk hg _).trans e0
      have c1 : wr.cell? ⟨g, j * 2 + 1, none⟩ = some (.int .i64 x1) := (cell_of_blk hg _).trans e1
      have z0 := frozen_of_row wr g (j * 2) cs 33 hg
      have z1 := frozen_of_row wr g (j * 2 + 1) cs 33 hg
      have K1 : Hid (Kept lo hi wr (wr.setCell ⟨g, j * 2, none⟩ (.int .i64 (k + 2 * j)))) := Kept.set hg hlo e0 (.inr (.inl ⟨_, _, rfl, rfl⟩))
      obtain ⟨cs', hg', hs', hq⟩ := K1.out.2.2 g cs 33 hg
      obtain ⟨v1, f1, a1⟩ := hq _ _ e1
      obtain ⟨y1, rfl⟩ := alike_int a1
      have K2 : Hid (Kept lo hi wr ((wr.setCell ⟨g, j * 2, none⟩ (.int .i64 (k + 2 * j))).setCell ⟨g, j * 2 + 1, none⟩ (.int .i64 (k + 2 * j + 1)))) := K1.out.trans (Kept.set hg' hlo f1 (.inr (.inl ⟨_, _, rfl, rfl⟩)))
      clear hg hc e0 e1 hg' hs' hq f1 a1
      go_wp2_with fail
      go_roundw
      case rel => exact ⟨j + 1, by omega, by go_num, by congr 1; push_cast; omega, HK.out.trans K2.out⟩
      case measure => simp [intOf]; omega
    · have he : j = n := by omega
      have HE := Lib.hid he
      clear he
      go_wp2_with fail
      go_ret
      exact ⟨ret_i64 (by rw [HE.out]), HK.out⟩

def mC (c : Ct) : Nat := 2 + 2 * c.args.length
def mD (d : Da) : Nat := 1 + (d.ctors.map mC).sum

set_option maxHeartbeats 1600000 in
theorem markCtorS_any (A : Option Addr) (l : List Ct) (cap lo hi : Nat) (k : Int) (w : World) (hlo : lo ≤ w.heap.size) (hn : l.length ≤ 1048576) (ha : ∀ i (h : i < l.length), l[i].args.length ≤ 1048576) (h0 : 1 ≤ k) (h1 : k + ((l.map mC).sum : Nat) ≤ 4194304) (hr : SCts w lo hi A l) :
    Calls Try.prog 57 #[.slice A l.length cap, .int .i64 k] w fun e w' => e = .returned (.int .i64 (k + ((l.map mC).sum : Nat))) ∧ Kept lo hi w w' := by
  have Hr := Lib.hid hr
  have HA := Lib.hid ha
  clear hr ha
  go_enter Try.func57, Try.ntmps57
  go_wp2_with fail
  go_loopw [1, 5] (fun q i wr => ∃ j : Nat, j ≤ l.length ∧ i = .int .i64 j ∧ ∃ S : Nat, q = .int .i64 (k + S) ∧ Hid (S = ((l.take j).map mC).sum) ∧ Kept lo hi w wr) (fun _ i _ => l.length - (intOf i).toNat)
  case atStart => exact ⟨0, by omega, rfl, 0, by simp, by unfold Hid; simp, Kept.refl _ _ _⟩
  case round =>
    obtain ⟨j, hj, rfl, S, rfl, HS, hk⟩ := hrel
    have HK := Lib.hid hk
    have hlw : lo ≤ wr.heap.size := Nat.le_trans hlo hk.1.size
    clear hk
    by_cases hlt : j < l.length
    · have HT := Lib.hid (sum_take_succ mC l j hlt)
      have HL := Lib.hid (sum_take_le mC l (j + 1))
      have HM : Hid (mC l[j] = 2 + 2 * l[j].args.length) := rfl
      have hma := HA.out j hlt
      have hSb : k + (S : Int) + (2 + 2 * l[j].args.length) ≤ 4194304 := by
        have a1 := HT.out; have a2 := HL.out; have a3 := HM.out; have a4 := HS.out; omega
      obtain ⟨g, cs, rfl, hgl, hg, hc⟩ := (Hr.out.kept HK.out) (by omega)
      have hgw := heap_lt hg
      clear hg hc
      have hSh : ∀ W, Kept lo hi w W → ∃ (cs : Array Value) (s : ByteArray) (A' : Option Addr) (cp : Nat) (x : Int), W.heap[g]? = some (.cells cs 134 (0, 0)) ∧ cs[j * 3]? = some (.string s) ∧ cs[j * 3 + 1]? = some (.slice A' l[j].args.length cp) ∧ cs[j * 3 + 2]? = some (.int .i64 x) ∧ STys W lo hi A' l[j].args.length := fun W hW => by
        obtain ⟨g', cs', e, _, hg', hc'⟩ := (Hr.out.kept hW) (by omega)
        cases e
        obtain ⟨s, A', cp, x, e0, e1, e2, e3⟩ := hc' j hlt
        exact ⟨cs', s, A', cp, x, hg', e0, e1, e2, e3⟩
      have HSh := Lib.hid hSh
      clear hSh
      go_wp2_with fail
      refine (markText_any _ _ (by omega) (by omega)).mono ?_
      rintro e w1 ⟨s1, rfl, _, hb1⟩
      have K1 := Lib.hid (HK.out.trans (Kept.below hb1 hlw))
      obtain ⟨cs1, s0, A1, cp1, x1, hg1, e0, e1, e2, hty⟩ := HSh.out w1 K1.out
      have c0 := (cell_of_blk hg1 (j * 3)).trans e0
      have c1 := (cell_of_blk hg1 (j * 3 + 1)).trans e1
      have z0 := frozen_of_row w1 g (j * 3) cs1 134 hg1
      have K2 : Hid (Kept lo hi w1 (w1.setCell ⟨g, j * 3, none⟩ (.string s1))) := Kept.set hg1 hgl e0 (.inr (.inr ⟨_, _, rfl, rfl⟩))
      have HTy := Lib.hid (hty.kept K2.out)
      clear hg1 e0 e1 e2 hty hb1
      go_wp2_with fail
      refine (markTypeS_any _ _ _ lo hi _ _ hma (by omega) (by omega) HTy.out).mono ?_
      rintro e w2 ⟨rfl, hk3⟩
      have K3 := Lib.hid ((K1.out.trans K2.out).trans hk3)
      clear hk3 c0 c1 z0
      obtain ⟨cs2, s2, A2, cp2, x2, hg2, e0, e1, e2, hty⟩ := HSh.out w2 K3.out
      have c2 := (cell_of_blk hg2 (j * 3 + 2)).trans e2
      have z2 := frozen_of_row w2 g (j * 3 + 2) cs2 134 hg2
      have K4 : Hid (∀ y, Kept lo hi w (w2.setCell ⟨g, j * 3 + 2, none⟩ (.int .i64 y))) := fun y => K3.out.trans (Kept.set hg2 hgl e2 (.inr (.inl ⟨_, _, rfl, rfl⟩)))
      clear hg2 e0 e1 e2 hty
      go_wp2_with fail
      go_roundw
      case rel => exact ⟨j + 1, by omega, by go_num, S + (2 + 2 * l[j].args.length), by congr 1; push_cast; omega, by unfold Hid; rw [HT.out, HM.out, HS.out], K4.out _⟩
      case measure => simp [intOf]; omega
    · go_wp2_with fail
      go_ret
      exact ⟨ret_i64 (by rw [HS.out, List.take_of_length_le (by omega)]), HK.out⟩
end Go.Proofs.Ytholdmdkhbhokaa
/-
  Plain mathematics: a growing family of sets over a list comes to rest within as many steps as the list is long. No program is imported here.
-/
namespace Go.Proofs.Ytholdmdkhbhokaa
section
variable {α : Type} (F : (α → Prop) → α → Prop)
/-- Those that are made within k rounds. -/
def Dk : Nat → α → Prop
  | 0 => fun _ => False
  | k + 1 => F (Dk k)
/-- The members of a list for which something holds, counted. -/
noncomputable def cnt (ts : List α) (P : α → Prop) : Nat := (ts.filter fun t => @decide (P t) (Classical.propDecidable _)).length
theorem cnt_le (ts : List α) (P : α → Prop) : cnt ts P ≤ ts.length := List.length_filter_le _ _
theorem cnt_mono : ∀ (ts : List α) (P Q : α → Prop), (∀ t ∈ ts, P t → Q t) → cnt ts P ≤ cnt ts Q
  | [], _, _, _ => Nat.le_refl _
  | t :: ts, P, Q, h => by
    have ih := cnt_mono ts P Q (fun x hx => h x (List.mem_cons_of_mem _ hx))
    unfold cnt at ih ⊢
    by_cases hp : P t
    · have hq := h t (List.mem_cons_self) hp
      rw [List.filter_cons_of_pos (by simpa using hp), List.filter_cons_of_pos (by simpa using hq)]
      simp only [List.length_cons]; omega
    · rw [List.filter_cons_of_neg (by simpa using hp)]
      by_cases hq : Q t
      · rw [List.filter_cons_of_pos (by simpa using hq)]; simp only [List.length_cons]; omega
      · rw [List.filter_cons_of_neg (by simpa using hq)]; exact ih
theorem cnt_lt : ∀ (ts : List α) (P Q : α → Prop), (∀ t ∈ ts, P t → Q t) → (∃ t ∈ ts, Q t ∧ ¬ P t) → cnt ts P + 1 ≤ cnt ts Q
  | [], _, _, _, ⟨t, ht, _⟩ => by cases ht
  | t :: ts, P, Q, h, ⟨x, hx, hq, hp⟩ => by
    have hm := cnt_mono ts P Q (fun y hy => h y (List.mem_cons_of_mem _ hy))
    by_cases ht : Q t ∧ ¬ P t
    · unfold cnt at hm ⊢
      rw [List.filter_cons_of_neg (by simpa using ht.2), List.filter_cons_of_pos (by simpa using ht.1)]
      simp only [List.length_cons]; omega
    · have hxt : x ∈ ts := by
        rcases List.mem_cons.1 hx with rfl | hx'
        · exact absurd ⟨hq, hp⟩ ht
        · exact hx'
      have ih := cnt_lt ts P Q (fun y hy => h y (List.mem_cons_of_mem _ hy)) ⟨x, hxt, hq, hp⟩
      unfold cnt at ih ⊢
      by_cases hp' : P t
      · have hq' := h t (List.mem_cons_self) hp'
        rw [List.filter_cons_of_pos (by simpa using hp'), List.filter_cons_of_pos (by simpa using hq')]
        simp only [List.length_cons]; omega
      · have hq' : ¬ Q t := fun e => ht ⟨e, hp'⟩
        rw [List.filter_cons_of_neg (by simpa using hp'), List.filter_cons_of_neg (by simpa using hq')]; exact ih

variable {F} {ts : List α} (hF : ∀ P Q : α → Prop, (∀ t ∈ ts, P t → Q t) → ∀ t ∈ ts, F P t → F Q t)
include hF
theorem Dk_step : ∀ k, ∀ t ∈ ts, Dk F k t → Dk F (k + 1) t
  | 0, _, _, h => h.elim
  | k + 1, t, ht, h => hF (Dk F k) (Dk F (k + 1)) (Dk_step k) t ht h
theorem Dk_le {j k : Nat} (h : j ≤ k) : ∀ t ∈ ts, Dk F j t → Dk F k t := by
  induction h with
  | refl => exact fun _ _ h => h
  | step _ ih => exact fun t ht h => Dk_step hF _ t ht (ih t ht h)
/-- Once a round makes nothing new, none does. -/
theorem Dk_rest {k : Nat} (h : ∀ t ∈ ts, Dk F (k + 1) t → Dk F k t) : ∀ j, k ≤ j → ∀ t ∈ ts, Dk F j t → Dk F k t := by
  intro j hj
  induction hj with
  | refl => exact fun _ _ h => h
  | step _ ih => exact fun t ht hd => h t ht (hF _ _ ih t ht hd)
/-- Whatever is made at all is made within as many rounds as there are members. -/
theorem Dk_bound {t : α} (ht : t ∈ ts) {j : Nat} (h : Dk F j t) : Dk F ts.length t := by
  by_cases hs : ∃ k, k ≤ ts.length ∧ ∀ t ∈ ts, Dk F (k + 1) t → Dk F k t
  · obtain ⟨k, hk, hr⟩ := hs
    by_cases hj : k ≤ j
    · exact Dk_le hF hk t ht (Dk_rest hF hr j hj t ht h)
    · exact Dk_le hF (by omega) t ht h
  · exfalso
    have hc : ∀ k, k ≤ ts.length + 1 → k ≤ cnt ts (Dk F k) := by
      intro k
      induction k with
      | zero => intro _; omega
      | succ k ih =>
        intro hk
        have h1 := ih (by omega)
        have h2 : ∃ t ∈ ts, Dk F (k + 1) t ∧ ¬ Dk F k t := by
          apply Classical.byContradiction
          intro hn
          apply hs
          refine ⟨k, by omega, fun t ht hd => ?_⟩
          apply Classical.byContradiction
          intro hnd
          exact hn ⟨t, ht, hd, hnd⟩
        have := cnt_lt ts (Dk F k) (Dk F (k + 1)) (Dk_step hF k) h2
        omega
    have h1 := hc (ts.length + 1) (by omega)
    have h2 := cnt_le ts (Dk F (ts.length + 1))
    omega
end
end Go.Proofs.Ytholdmdkhbhokaa
/-
  What an argument of the laws reads as: lists of types, of constructors, of data types. No statement is proved here.
-/
namespace Go.Proofs.Ytholdmdkhbhokaa
open Go.RowKit Go.Deep
open Go.ChangeShapes Go.WideShapes
set_option linter.unusedVariables false
set_option maxRecDepth 100000

section
variable {H : Type} {enc : TypeId × Value → H} {w : World} {spare : Nat → Bool} {held : Bool}

theorem field_at {e : TypeId} {fs : Array Field} {fuel : Nat} {cs : List Value} {x : DataW H × List MemPlace} (he : Try.prog.underlying e = some (.struct fs)) (hone : oneCellFields Try.prog fs = true) (hlen : cs.length = fs.size)
    (h : DataW.trod enc Try.prog w 0 spare held fuel e cs = some x) :
    ∃ m, ∀ (j : Nat) (f : Field), fs[j]? = some f → ∃ v y, cs[j]? = some v ∧ DataW.trod enc Try.prog w 0 spare held m f.type [v] = some y := by
  obtain ⟨ys, m, _, _, _, hyl, hf⟩ := DataW.trod_struct he h
  refine ⟨m, fun j f hj => ?_⟩
  obtain ⟨ho, hk⟩ := hone_of hone j f hj
  have hjl : j < fs.size := (Array.getElem?_eq_some_iff.1 hj).1
  have h1 := hf j f hj
  rw [ho, hk] at h1
  have hd : (cs.drop j).take 1 = [cs[j]'(by omega)] := by
    rw [List.drop_eq_getElem_cons (by omega)]; rfl
  rw [hd, List.getElem?_eq_getElem (by omega)] at h1
  exact ⟨_, _, List.getElem?_eq_getElem (by omega), h1⟩

theorem ty_at {fuel : Nat} {p : Addr} {cs : List Value} {x : DataW H × List MemPlace} (hc : w.cells? 0 p (Try.prog.cellsOf 24) = some cs) (h : DataW.trod enc Try.prog w 0 spare held fuel 24 cs = some x) :
    ∃ t : Ty, w.cell? (p.add 0) = some (.int .i64 t.data) ∧ w.cell? (p.add 1) = some (.int .i64 t.index) := by
  obtain ⟨_, hl, hat⟩ := World.cells?_some hc
  have h2 : Try.prog.cellsOf 24 = 2 := by kernel_rfl
  rw [h2] at hl hat
  obtain ⟨m, hf⟩ := field_at Try.underlying24 (by kernel_rfl) hl h
  obtain ⟨v0, y0, e0, t0⟩ := hf 0 _ rfl
  obtain ⟨v1, y1, e1, t1⟩ := hf 1 _ rfl
  obtain ⟨a, q0, _, _⟩ := DataW.trod_int Try.underlying3 t0
  obtain ⟨b, q1, _, _⟩ := DataW.trod_int Try.underlying3 t1
  simp only [List.cons.injEq, and_true] at q0 q1
  subst q0 q1
  exact ⟨⟨a, b⟩, (hat 0 (by omega)).trans e0, (hat 1 (by omega)).trans e1⟩

theorem spot_of {w : World} {a : Addr} {v : Value} (h : w.cell? a = some v) : a.spot = none := by
  unfold World.cell? at h
  split at h
  · split at h
    · cases h
    · simpa using ‹¬ a.spot.isSome = true›
  · cases h

theorem rTys_of {fuel : Nat} {v : Value} {x : DataW H × List MemPlace} (h : DataW.trod enc Try.prog w 0 spare held fuel 166 [v] = some x) : ∃ A l cap, v = .slice A (List.length l) cap ∧ RTys w w.heap.size A l := by
  rcases open_slice Try.underlying166 h with ⟨hcs, _⟩ | ⟨a, len, cap, m, n', D, Pl, hcs, hb, hl, hm, hmm, hx, hi⟩
  · obtain rfl : v = .slice none 0 0 := by simpa using hcs
    exact ⟨none, [], 0, rfl, by simp, fun k hk => absurd hk (by simp)⟩
  · obtain rfl : v = .slice (some a) len cap := by simpa using hcs
    have hlm : len ≤ m := by rw [hmm]; split <;> omega
    have h2 : Try.prog.cellsOf 24 = 2 := by kernel_rfl
    obtain ⟨f, hf⟩ := choose_lt (α := Ty) (n := len) (p := fun i t => w.cell? ((a.add (i * 2)).add 0) = some (.int .i64 t.data) ∧ w.cell? ((a.add (i * 2)).add 1) = some (.int .i64 t.index)) (fun i him => by
      obtain ⟨cs', q1, q2⟩ := hi i (by omega)
      have := ty_at q1 q2
      rw [h2] at this
      exact this)
    refine ⟨some a, (List.range len).map f, cap, by simp, by simp; omega, fun k hk => ?_⟩
    have hk' : k < len := by simpa using hk
    have hsp : a.spot = none := spot_of (w := w) (a := a) (by simpa [Addr.add] using (hf 0 (by omega)).1)
    obtain ⟨b, off, sp⟩ := a
    simp only at hsp
    subst hsp
    obtain ⟨c0, c1⟩ := hf k hk'
    simp only [Addr.add_lit, Nat.add_zero] at c0 c1
    refine ⟨b, off, rfl, block_lt_of_cell c0, ?_, ?_⟩
    · simpa using c0
    · simpa using c1

theorem ct_at {fuel : Nat} {p : Addr} {cs : List Value} {x : DataW H × List MemPlace} (hc : w.cells? 0 p (Try.prog.cellsOf 168) = some cs) (h : DataW.trod enc Try.prog w 0 spare held fuel 168 cs = some x) :
    ∃ c : Ct, ∃ A cap, w.cell? (p.add 0) = some (.string c.name) ∧ w.cell? (p.add 1) = some (.slice A c.args.length cap) ∧ w.cell? (p.add 2) = some (.int .i64 c.index) ∧ c.name.size ≤ maxLen ∧ RTys w w.heap.size A c.args := by
  obtain ⟨_, hl, hat⟩ := World.cells?_some hc
  have h2 : Try.prog.cellsOf 168 = 3 := by kernel_rfl
  rw [h2] at hl hat
  obtain ⟨m, hf⟩ := field_at Try.underlying168 (by kernel_rfl) hl h
  obtain ⟨v0, y0, e0, t0⟩ := hf 0 _ rfl
  obtain ⟨v1, y1, e1, t1⟩ := hf 1 _ rfl
  obtain ⟨v2, y2, e2, t2⟩ := hf 2 _ rfl
  obtain ⟨s, q0, _, hs⟩ := DataW.trod_string Try.underlying9 t0
  obtain ⟨b, q2, _, _⟩ := DataW.trod_int Try.underlying3 t2
  obtain ⟨A, l, cap, rfl, hr⟩ := rTys_of t1
  simp only [List.cons.injEq, and_true] at q0 q2
  subst q0 q2
  exact ⟨⟨s, l, b⟩, A, cap, (hat 0 (by omega)).trans e0, (hat 1 (by omega)).trans e1, (hat 2 (by omega)).trans e2, hs, hr⟩

theorem rCts_of {fuel : Nat} {v : Value} {x : DataW H × List MemPlace} (h : DataW.trod enc Try.prog w 0 spare held fuel 72 [v] = some x) : ∃ A l cap, v = .slice A (List.length l) cap ∧ RCts w w.heap.size A l := by
  rcases open_slice Try.underlying72 h with ⟨hcs, _⟩ | ⟨a, len, cap, m, n', D, Pl, hcs, hb, hl, hm, hmm, hx, hi⟩
  · obtain rfl : v = .slice none 0 0 := by simpa using hcs
    exact ⟨none, [], 0, rfl, by simp, fun k hk => absurd hk (by simp)⟩
  · obtain rfl : v = .slice (some a) len cap := by simpa using hcs
    have hlm : len ≤ m := by rw [hmm]; split <;> omega
    have h2 : Try.prog.cellsOf 168 = 3 := by kernel_rfl
    obtain ⟨f, hf⟩ := choose_lt (α := Ct) (n := len) (p := fun i c => ∃ A cap, w.cell? ((a.add (i * 3)).add 0) = some (.string c.name) ∧ w.cell? ((a.add (i * 3)).add 1) = some (.slice A c.args.length cap) ∧ w.cell? ((a.add (i * 3)).add 2) = some (.int .i64 c.index) ∧ c.name.size ≤ maxLen ∧ RTys w w.heap.size A c.args) (fun i him => by
      obtain ⟨cs', q1, q2⟩ := hi i (by omega)
      have := ct_at q1 q2
      rw [h2] at this
      exact this)
    refine ⟨some a, (List.range len).map f, cap, by simp, by simp; omega, fun k hk => ?_⟩
    have hk' : k < len := by simpa using hk
    have hsp : a.spot = none := by
      obtain ⟨A, cap', c0, _⟩ := hf 0 (by omega)
      exact spot_of (w := w) (a := a) (by simpa [Addr.add] using c0)
    obtain ⟨b, off, sp⟩ := a
    simp only at hsp
    subst hsp
    obtain ⟨A, cap', c0, c1, c2, hs, hr⟩ := hf k hk'
    simp only [Addr.add_lit, Nat.add_zero] at c0 c1 c2
    refine ⟨b, off, rfl, block_lt_of_cell c0, A, cap', ?_, ?_, ?_, ?_, ?_⟩
    · simpa using c0
    · simpa using c1
    · simpa using c2
    · simpa using hs
    · simpa using hr

theorem da_at {fuel : Nat} {p : Addr} {cs : List Value} {x : DataW H × List MemPlace} (hc : w.cells? 0 p (Try.prog.cellsOf 74) = some cs) (h : DataW.trod enc Try.prog w 0 spare held fuel 74 cs = some x) :
    ∃ d : Da, ∃ A cap, w.cell? (p.add 0) = some (.string d.name) ∧ w.cell? (p.add 1) = some (.slice A d.ctors.length cap) ∧ d.name.size ≤ maxLen ∧ RCts w w.heap.size A d.ctors := by
  obtain ⟨_, hl, hat⟩ := World.cells?_some hc
  have h2 : Try.prog.cellsOf 74 = 2 := by kernel_rfl
  rw [h2] at hl hat
  obtain ⟨m, hf⟩ := field_at Try.underlying74 (by kernel_rfl) hl h
  obtain ⟨v0, y0, e0, t0⟩ := hf 0 _ rfl
  obtain ⟨v1, y1, e1, t1⟩ := hf 1 _ rfl
  obtain ⟨s, q0, _, hs⟩ := DataW.trod_string Try.underlying9 t0
  obtain ⟨A, l, cap, rfl, hr⟩ := rCts_of t1
  simp only [List.cons.injEq, and_true] at q0
  subst q0
  exact ⟨⟨s, l⟩, A, cap, (hat 0 (by omega)).trans e0, (hat 1 (by omega)).trans e1, hs, hr⟩

theorem rDas_of {fuel : Nat} {v : Value} {x : DataW H × List MemPlace} (h : DataW.trod enc Try.prog w 0 spare held fuel 22 [v] = some x) : ∃ A l cap, v = .slice A (List.length l) cap ∧ RDas w w.heap.size A l := by
  rcases open_slice Try.underlying22 h with ⟨hcs, _⟩ | ⟨a, len, cap, m, n', D, Pl, hcs, hb, hl, hm, hmm, hx, hi⟩
  · obtain rfl : v = .slice none 0 0 := by simpa using hcs
    exact ⟨none, [], 0, rfl, by simp, fun k hk => absurd hk (by simp)⟩
  · obtain rfl : v = .slice (some a) len cap := by simpa using hcs
    have hlm : len ≤ m := by rw [hmm]; split <;> omega
    have h2 : Try.prog.cellsOf 74 = 2 := by kernel_rfl
    obtain ⟨f, hf⟩ := choose_lt (α := Da) (n := len) (p := fun i d => ∃ A cap, w.cell? ((a.add (i * 2)).add 0) = some (.string d.name) ∧ w.cell? ((a.add (i * 2)).add 1) = some (.slice A d.ctors.length cap) ∧ d.name.size ≤ maxLen ∧ RCts w w.heap.size A d.ctors) (fun i him => by
      obtain ⟨cs', q1, q2⟩ := hi i (by omega)
      have := da_at q1 q2
      rw [h2] at this
      exact this)
    refine ⟨some a, (List.range len).map f, cap, by simp, by simp; omega, fun k hk => ?_⟩
    have hk' : k < len := by simpa using hk
    have hsp : a.spot = none := by
      obtain ⟨A, cap', c0, _⟩ := hf 0 (by omega)
      exact spot_of (w := w) (a := a) (by simpa [Addr.add] using c0)
    obtain ⟨b, off, sp⟩ := a
    simp only at hsp
    subst hsp
    obtain ⟨A, cap', c0, c1, hs, hr⟩ := hf k hk'
    simp only [Addr.add_lit, Nat.add_zero] at c0 c1
    refine ⟨b, off, rfl, block_lt_of_cell c0, A, cap', ?_, ?_, ?_, ?_⟩
    · simpa using c0
    · simpa using c1
    · simpa using hs
    · simpa using hr

/-- An argument that is a list of data types. -/
theorem open_das {v : Value} {d : DataW H} {ps : List MemPlace} {b0 : Nat} {r : Reach} (hv : Value.okWide Try.prog w r b0 22 v) (h : DataW.Trod enc Try.prog w 0 spare held 22 v d ps) : ∃ A l cap, v = .slice A (List.length l) cap ∧ RDas w w.heap.size A l := by
  obtain ⟨a0, len, cap, rfl⟩ := okWide_slice Try.underlying22 hv
  obtain ⟨fuel, hf⟩ := h
  exact rDas_of hf
end
end Go.Proofs.Ytholdmdkhbhokaa
/-
  Values as plain trees, and as they lie in memory. No statement is proved here.
-/
namespace Go.Proofs.Ytholdmdkhbhokaa
open Go.RowKit
set_option linter.unusedVariables false

inductive Vl where
  | mk (ctor n : Int) (kids : List Vl)
instance : Inhabited Vl := ⟨.mk 0 0 []⟩
def Vl.ctor : Vl → Int | .mk c _ _ => c
def Vl.n : Vl → Int | .mk _ n _ => n
def Vl.kids : Vl → List Vl | .mk _ _ ks => ks

mutual
/-- How many nodes lie below a node. -/
def wV : Vl → Nat | .mk _ _ ks => wVs ks
def wVs : List Vl → Nat | [] => 0 | v :: vs => 1 + wV v + wVs vs
end
theorem wV_kids (v : Vl) : wV v = wVs v.kids := by cases v; rw [wV]; rfl
theorem wVs_sum : ∀ l : List Vl, wVs l = l.length + (l.map wV).sum
  | [] => by rw [wVs]; rfl
  | v :: vs => by rw [wVs, wVs_sum vs]; simp only [List.length_cons, List.map_cons, List.sum_cons]; omega

/-- A value in three cells, its parts in blocks below B; at most d levels. -/
def RVl : Nat → World → Nat → Nat → Nat → Vl → Prop
  | 0, _, _, _, _, _ => False
  | d + 1, w, B, b, o, v => ∃ A cap, w.cell? ⟨b, o, none⟩ = some (.int .i64 v.ctor) ∧ w.cell? ⟨b, o + 1, none⟩ = some (.int .i64 v.n) ∧ w.cell? ⟨b, o + 2, none⟩ = some (.slice A v.kids.length cap) ∧ v.kids.length ≤ maxLen ∧ ∀ k (h : k < v.kids.length), ∃ b' off, A = some ⟨b', off, none⟩ ∧ b' < B ∧ RVl d w B b' (off + k * 3) v.kids[k]
def RVs (d : Nat) (w : World) (B : Nat) (A : Option Addr) (l : List Vl) : Prop := l.length ≤ maxLen ∧ ∀ k (h : k < l.length), ∃ b off, A = some ⟨b, off, none⟩ ∧ b < B ∧ RVl d w B b (off + k * 3) l[k]

section
variable {w w' : World} {B B' : Nat} {A : Option Addr}
theorem RVl.parts {d b o : Nat} {v : Vl} (h : RVl d w B b o v) : ∃ d', d = d' + 1 ∧ ∃ A cap, w.cell? ⟨b, o, none⟩ = some (.int .i64 v.ctor) ∧ w.cell? ⟨b, o + 1, none⟩ = some (.int .i64 v.n) ∧ w.cell? ⟨b, o + 2, none⟩ = some (.slice A v.kids.length cap) ∧ RVs d' w B A v.kids := by
  cases d with
  | zero => exact h.elim
  | succ d =>
    obtain ⟨A, cap, h1, h2, h3, h4, h5⟩ := h
    exact ⟨d, rfl, A, cap, h1, h2, h3, h4, h5⟩
theorem RVl.keep : ∀ (d : Nat) {b o : Nat} {v : Vl}, RVl d w B b o v → b < B → (∀ p : Addr, p.block < B → w'.cell? p = w.cell? p) → B ≤ B' → RVl d w' B' b o v
  | 0, _, _, _, h, _, _, _ => h.elim
  | d + 1, _, _, _, ⟨A, cap, h1, h2, h3, h4, h5⟩, hb, hk, hB => ⟨A, cap, (hk _ hb).trans h1, (hk _ hb).trans h2, (hk _ hb).trans h3, h4, fun k hk' => by
    obtain ⟨b', off, e, hb', hv⟩ := h5 k hk'
    exact ⟨b', off, e, by omega, RVl.keep d hv hb' hk hB⟩⟩
theorem RVs.keep {d : Nat} {l : List Vl} (h : RVs d w B A l) (hk : ∀ p : Addr, p.block < B → w'.cell? p = w.cell? p) (hB : B ≤ B') : RVs d w' B' A l :=
  ⟨h.1, fun k hk' => by
    obtain ⟨b, off, e, hb, hv⟩ := h.2 k hk'
    exact ⟨b, off, e, by omega, hv.keep d hb hk hB⟩⟩
theorem RVs.below {d B0 : Nat} {l : List Vl} (h : RVs d w B A l) (hb : Below B0 w w') (hB : B ≤ B0) : RVs d w' B A l := h.keep (fun _ hp => hb.cell (Nat.lt_of_lt_of_le hp hB)) (Nat.le_refl _)
theorem RVs.at_ {d : Nat} {l : List Vl} (h : RVs d w w.heap.size A l) (hb : Below w.heap.size w w') : RVs d w' w'.heap.size A l := h.keep (fun _ hp => hb.cell hp) hb.size
theorem RVs.nil {d : Nat} : RVs d w B A [] := ⟨Nat.zero_le _, fun k h => absurd h (Nat.not_lt_zero _)⟩
theorem RVl.up : ∀ (d : Nat) {b o : Nat} {v : Vl}, RVl d w B b o v → RVl (d + 1) w B b o v
  | 0, _, _, _, h => h.elim
  | d + 1, _, _, _, ⟨A, cap, h1, h2, h3, h4, h5⟩ => ⟨A, cap, h1, h2, h3, h4, fun k hk' => by
    obtain ⟨b', off, e, hb', hv⟩ := h5 k hk'
    exact ⟨b', off, e, hb', RVl.up d hv⟩⟩
theorem RVl.more {d d' b o : Nat} {v : Vl} (h : RVl d w B b o v) (hd : d ≤ d') : RVl d' w B b o v := by
  obtain ⟨e, rfl⟩ := Nat.exists_eq_add_of_le hd
  clear hd
  induction e with
  | zero => exact h
  | succ e ih => exact RVl.up _ ih
theorem RVs.more {d d' : Nat} {l : List Vl} (h : RVs d w B A l) (hd : d ≤ d') : RVs d' w B A l :=
  ⟨h.1, fun k hk => by obtain ⟨b, off, e, hb, hv⟩ := h.2 k hk; exact ⟨b, off, e, hb, hv.more hd⟩⟩
end

/-- Values in blocks of their own, each list behind the list that it is a part of. -/
def FVs : Nat → World → Nat → Nat → List Vl → Prop
  | 0, _, _, _, _ => False
  | d + 1, w, lo, g, l => lo ≤ g ∧ l.length ≤ maxLen ∧ ∃ cs, w.heap[g]? = some (.cells cs 56 (0, 0)) ∧ cs.size = l.length * 3 ∧ ∀ k (h : k < l.length), ∃ g', cs[k * 3]? = some (.int .i64 l[k].ctor) ∧ cs[k * 3 + 1]? = some (.int .i64 l[k].n) ∧ cs[k * 3 + 2]? = some (.slice (some ⟨g', 0, none⟩) l[k].kids.length l[k].kids.length) ∧ FVs d w (g + 1) g' l[k].kids
theorem FVs.keep : ∀ (d : Nat) {w w' : World} {lo lo' g : Nat} {l : List Vl}, FVs d w lo g l → lo' ≤ lo → (∀ b o, lo ≤ b → w.heap[b]? = some o → w'.heap[b]? = w.heap[b]?) → FVs d w' lo' g l
  | 0, _, _, _, _, _, _, h, _, _ => h.elim
  | d + 1, _, _, _, _, g, _, ⟨h1, h2, cs, h3, h4, h5⟩, hl, hk => ⟨by omega, h2, cs, (hk _ _ h1 h3).trans h3, h4, fun k hk' => by
    obtain ⟨g', e0, e1, e2, e3⟩ := h5 k hk'
    exact ⟨g', e0, e1, e2, FVs.keep d e3 (Nat.le_refl _) (fun b o hb => hk b o (by omega))⟩⟩
end Go.Proofs.Ytholdmdkhbhokaa
/-
  Worlds that differ only in some blocks. No statement is proved here.
-/
namespace Go.Proofs.Ytholdmdkhbhokaa
open Go.RowKit
set_option maxRecDepth 100000
set_option linter.unusedVariables false

/-- Only blocks of P have turned, and blocks that are new. -/
def Fr (P : Nat → Prop) (w w' : World) : Prop := w'.os = w.os ∧ w'.tape = w.tape ∧ w'.output = w.output ∧ w.heap.size ≤ w'.heap.size ∧ ∀ b, b < w.heap.size → ¬ P b → w'.heap[b]? = w.heap[b]?
theorem Fr.refl (P : Nat → Prop) (w : World) : Fr P w w := ⟨rfl, rfl, rfl, Nat.le_refl _, fun _ _ _ => rfl⟩
theorem Fr.size {P : Nat → Prop} {w w' : World} (h : Fr P w w') : w.heap.size ≤ w'.heap.size := h.2.2.2.1
theorem Fr.trans {P : Nat → Prop} {a b c : World} (h : Fr P a b) (h' : Fr P b c) : Fr P a c :=
  ⟨h'.1.trans h.1, h'.2.1.trans h.2.1, h'.2.2.1.trans h.2.2.1, Nat.le_trans h.size h'.size, fun x hx hp => (h'.2.2.2.2 x (Nat.lt_of_lt_of_le hx h.size) hp).trans (h.2.2.2.2 x hx hp)⟩
theorem Fr.wide {P P' : Nat → Prop} {w w' : World} (h : Fr P w w') (hp : ∀ b, P b → P' b) : Fr P' w w' :=
  ⟨h.1, h.2.1, h.2.2.1, h.size, fun x hx hq => h.2.2.2.2 x hx (fun h' => hq (hp x h'))⟩
theorem Fr.block {P : Nat → Prop} {w w' : World} (h : Fr P w w') {b : Nat} {o : Obj} (hb : w.heap[b]? = some o) (hp : ¬ P b) : w'.heap[b]? = some o := (h.2.2.2.2 b (heap_lt hb) hp).trans hb
theorem Fr.below {P : Nat → Prop} {w w' : World} (h : Below w.heap.size w w') : Fr P w w' := ⟨h.os, h.tape, h.output, h.size, fun b hb _ => h.block b hb⟩
theorem Fr.to {P : Nat → Prop} {w w' : World} {B : Nat} (h : Fr P w w') (hB : B ≤ w.heap.size) (hp : ∀ b, b < B → ¬ P b) : Below B w w' :=
  ⟨h.1, h.2.1, h.2.2.1, h.size, fun b hb => h.2.2.2.2 b (Nat.lt_of_lt_of_le hb hB) (hp b hb)⟩
theorem Fr.set {P : Nat → Prop} (w : World) (g i : Nat) (u : Value) (hp : P g) : Fr P w (w.setCell ⟨g, i, none⟩ u) := by
  have h := (Below.refl 0 w).setCell (p := ⟨g, i, none⟩) (Nat.zero_le _) u
  exact ⟨h.os, h.tape, h.output, h.size, fun b _ hb => Below.heap_setCell w ⟨g, i, none⟩ u b (fun e => hb (e ▸ hp))⟩
theorem Fr.grown {P : Nat → Prop} {w w' : World} {row : Option Nat} (h : w.grownBy w' row) (hp : ∀ b, some b = row → P b) : Fr P w w' :=
  ⟨h.os, h.tape, h.output, h.size, fun b hb hq => h.block b hb (fun e => hq (hp b e))⟩
theorem Fr.kept {lo hi : Nat} {w w' : World} (h : Kept lo hi w w') : Fr (fun b => lo ≤ b ∧ b < hi) w w' := by
  refine ⟨h.1.os, h.1.tape, h.1.output, h.1.size, fun b hb hq => ?_⟩
  by_cases e : b < lo
  · exact h.1.block b e
  · exact h.2.1 b (by have : ¬ b < hi := fun h' => hq ⟨by omega, h'⟩; omega) hb
/-- The blocks that are new between two worlds. -/
def Nw (w w' : World) : Nat → Prop := fun b => w.heap.size ≤ b ∧ b < w'.heap.size
end Go.Proofs.Ytholdmdkhbhokaa
/-
  Vl trees in blocks of their own: no part has a block of another part. No statement is proved here.
-/
namespace Go.Proofs.Ytholdmdkhbhokaa
open Go.RowKit
set_option maxRecDepth 100000
set_option linter.unusedVariables false

/-- Trees in blocks of P; no part has a block of another part. -/
def OVs : Nat → World → (Nat → Prop) → Option Addr → List Vl → Prop
  | 0, _, _, _, _ => False
  | d + 1, w, P, A, l => l.length ≤ maxLen ∧ (0 < l.length → ∃ (g : Nat) (cs : Array Value) (Q : Nat → Nat → Prop), A = some ⟨g, 0, none⟩ ∧ P g ∧ w.heap[g]? = some (.cells cs 56 (0, 0)) ∧ (∀ k b, k < l.length → Q k b → P b ∧ b ≠ g ∧ ∀ j, j < l.length → j ≠ k → ¬ Q j b) ∧ ∀ k (h : k < l.length), ∃ A' cap, cs[k * 3]? = some (.int .i64 l[k].ctor) ∧ cs[k * 3 + 1]? = some (.int .i64 l[k].n) ∧ cs[k * 3 + 2]? = some (.slice A' l[k].kids.length cap) ∧ OVs d w (Q k) A' l[k].kids)
def OVp (d : Nat) (w : World) (P : Nat → Prop) (g : Nat) (cs : Array Value) (Q : Nat → Nat → Prop) (l : List Vl) : Prop := P g ∧ w.heap[g]? = some (.cells cs 56 (0, 0)) ∧ (∀ k b, k < l.length → Q k b → P b ∧ b ≠ g ∧ ∀ j, j < l.length → j ≠ k → ¬ Q j b) ∧ ∀ k (h : k < l.length), ∃ A' cap, cs[k * 3]? = some (.int .i64 l[k].ctor) ∧ cs[k * 3 + 1]? = some (.int .i64 l[k].n) ∧ cs[k * 3 + 2]? = some (.slice A' l[k].kids.length cap) ∧ OVs d w (Q k) A' l[k].kids
theorem OVs.parts {d : Nat} {w : World} {P : Nat → Prop} {A : Option Addr} {l : List Vl} (h : OVs d w P A l) : ∃ d', d = d' + 1 ∧ l.length ≤ maxLen ∧ (0 < l.length → ∃ g cs Q, A = some ⟨g, 0, none⟩ ∧ OVp d' w P g cs Q l) := by
  cases d with
  | zero => exact h.elim
  | succ d => exact ⟨d, rfl, h⟩
theorem OVs.mk {d : Nat} {w : World} {P : Nat → Prop} {A : Option Addr} {l : List Vl} (hl : l.length ≤ maxLen) (h : 0 < l.length → ∃ g cs Q, A = some ⟨g, 0, none⟩ ∧ OVp d w P g cs Q l) : OVs (d + 1) w P A l := ⟨hl, h⟩
theorem OVs.nil (d : Nat) (w : World) (P : Nat → Prop) (A : Option Addr) : OVs (d + 1) w P A [] := ⟨Nat.zero_le _, fun h => absurd h (Nat.not_lt_zero _)⟩
theorem OVs.wide : ∀ (d : Nat) {w : World} {P P' : Nat → Prop} {A : Option Addr} {l : List Vl}, OVs d w P A l → (∀ b, P b → P' b) → OVs d w P' A l
  | 0, _, _, _, _, _, h, _ => h.elim
  | d + 1, _, _, _, _, _, ⟨h1, h2⟩, hp => ⟨h1, fun hl => by
    obtain ⟨g, cs, Q, e, hg, hh, hq, hc⟩ := h2 hl
    exact ⟨g, cs, Q, e, hp g hg, hh, fun k b hk hb => ⟨hp b (hq k b hk hb).1, (hq k b hk hb).2⟩, hc⟩⟩
theorem OVs.fr : ∀ (d : Nat) {w w' : World} {P P' : Nat → Prop} {A : Option Addr} {l : List Vl}, OVs d w P A l → Fr P' w w' → (∀ b, P b → ¬ P' b) → OVs d w' P A l
  | 0, _, _, _, _, _, _, h, _, _ => h.elim
  | d + 1, _, _, _, _, _, _, ⟨h1, h2⟩, hf, hp => ⟨h1, fun hl => by
    obtain ⟨g, cs, Q, e, hg, hh, hq, hc⟩ := h2 hl
    refine ⟨g, cs, Q, e, hg, hf.block hh (hp g hg), hq, fun k hk => ?_⟩
    obtain ⟨A', cap, e0, e1, e8, e9⟩ := hc k hk
    exact ⟨A', cap, e0, e1, e8, OVs.fr d e9 hf (fun b hb => hp b (hq k b hk hb).1)⟩⟩
theorem OVs.up : ∀ (d : Nat) {w : World} {P : Nat → Prop} {A : Option Addr} {l : List Vl}, OVs d w P A l → OVs (d + 1) w P A l
  | 0, _, _, _, _, h => h.elim
  | d + 1, _, _, _, _, ⟨h1, h2⟩ => ⟨h1, fun hl => by
    obtain ⟨g, cs, Q, e, hg, hh, hq, hc⟩ := h2 hl
    refine ⟨g, cs, Q, e, hg, hh, hq, fun k hk => ?_⟩
    obtain ⟨A', cap, e0, e1, e8, e9⟩ := hc k hk
    exact ⟨A', cap, e0, e1, e8, OVs.up d e9⟩⟩
theorem OVs.more {d d' : Nat} {w : World} {P : Nat → Prop} {A : Option Addr} {l : List Vl} (h : OVs d w P A l) (hd : d ≤ d') : OVs d' w P A l := by
  obtain ⟨e, rfl⟩ := Nat.exists_eq_add_of_le hd
  clear hd
  induction e with
  | zero => exact h
  | succ e ih => exact OVs.up _ ih
theorem OVs.reads : ∀ (d : Nat) {w : World} {P : Nat → Prop} {A : Option Addr} {l : List Vl}, OVs (d + 1) w P A l → RVs d w w.heap.size A l
  | d, w, P, A, l, ⟨h1, h2⟩ => ⟨h1, fun k hk => by
    obtain ⟨g, cs, Q, e, hg, hh, hq, hc⟩ := h2 (by omega)
    obtain ⟨A', cap, e0, e1, e8, e9⟩ := hc k hk
    refine ⟨g, 0, e, heap_lt hh, ?_⟩
    cases d with
    | zero => exact e9.elim
    | succ d =>
      obtain ⟨q1, q2⟩ := OVs.reads d e9
      exact ⟨A', cap, by rw [cell_of_blk hh, Nat.zero_add]; exact e0, by rw [cell_of_blk hh, Nat.zero_add]; exact e1, by rw [cell_of_blk hh, Nat.zero_add]; exact e8, q1, q2⟩⟩

/-- The row of a list while it is made: k parts are there, each with blocks of its own, from lo on. -/
def RowV (d : Nat) (w : World) (lo : Nat) (og : Option Nat) (Q : Nat → Nat → Prop) (l : List Vl) (xs : List Value) (k : Nat) : Prop := ∀ j (h : j < l.length), j < k → (∀ b, Q j b → lo ≤ b ∧ b < w.heap.size ∧ some b ≠ og ∧ ∀ i, i < k → i ≠ j → ¬ Q i b) ∧ ∃ A' cap, xs[j * 3]? = some (.int .i64 l[j].ctor) ∧ xs[j * 3 + 1]? = some (.int .i64 l[j].n) ∧ xs[j * 3 + 2]? = some (.slice A' l[j].kids.length cap) ∧ OVs d w (Q j) A' l[j].kids
theorem RowV.zero (d : Nat) (w : World) (lo : Nat) (og : Option Nat) (Q : Nat → Nat → Prop) (l : List Vl) (xs : List Value) : RowV d w lo og Q l xs 0 := fun j _ h => absurd h (by omega)
theorem RowV.fr {d : Nat} {w w' : World} {lo : Nat} {og : Option Nat} {Q : Nat → Nat → Prop} {l : List Vl} {xs : List Value} {k : Nat} {P' : Nat → Prop} (h : RowV d w lo og Q l xs k) (hf : Fr P' w w') (hp : ∀ b, lo ≤ b → some b ≠ og → b < w.heap.size → ¬ P' b) : RowV d w' lo og Q l xs k := fun j hj hjk => by
  obtain ⟨h1, A', cap, e0, e1, e8, e9⟩ := h j hj hjk
  refine ⟨fun b hb => ?_, A', cap, e0, e1, e8, e9.fr d hf (fun b hb => ?_)⟩
  · obtain ⟨a1, a2, a3, a4⟩ := h1 b hb
    exact ⟨a1, Nat.lt_of_lt_of_le a2 hf.size, a3, a4⟩
  · obtain ⟨a1, a2, a3, a4⟩ := h1 b hb
    exact hp b a1 a3 a2
theorem RowV.og {d : Nat} {w : World} {lo : Nat} {og og' : Option Nat} {Q : Nat → Nat → Prop} {l : List Vl} {xs : List Value} {k : Nat} (h : RowV d w lo og Q l xs k) (hp : ∀ b, lo ≤ b → some b ≠ og → b < w.heap.size → some b ≠ og') : RowV d w lo og' Q l xs k := fun j hj hjk => by
  obtain ⟨h1, h2⟩ := h j hj hjk
  exact ⟨fun b hb => by obtain ⟨a1, a2, a3, a4⟩ := h1 b hb; exact ⟨a1, a2, hp b a1 a3 a2, a4⟩, h2⟩
/-- One part more: its blocks are new. -/
theorem RowV.more {d : Nat} {w w' : World} {lo : Nat} {og : Option Nat} {Q : Nat → Nat → Prop} {l : List Vl} {xs xs' : List Value} {k cap : Nat} {A' : Option Addr} (h : RowV d w lo og Q l xs k) (hb : Below w.heap.size w w') (hk : k < l.length) (hlo : lo ≤ w.heap.size) (hog : ∀ g, og = some g → g < w.heap.size)
    (ho : OVs d w' (Nw w w') A' l[k].kids) (hx : ∀ j c, j < k → c < 3 → xs'[j * 3 + c]? = xs[j * 3 + c]?) (e0 : xs'[k * 3]? = some (.int .i64 l[k].ctor)) (e1 : xs'[k * 3 + 1]? = some (.int .i64 l[k].n)) (e8 : xs'[k * 3 + 2]? = some (.slice A' l[k].kids.length cap)) :
    RowV d w' lo og (fun i => if i = k then Nw w w' else Q i) l xs' (k + 1) := by
  have h' := h.fr (P' := fun _ => False) (Fr.below hb) (fun _ _ _ _ h => h)
  intro j hj hjk
  by_cases e : j = k
  · subst e
    refine ⟨fun b hq => ?_, A', cap, e0, e1, e8, ?_⟩
    · replace hq : (if j = j then Nw w w' else Q j) b := hq
      rw [if_pos rfl] at hq
      refine ⟨Nat.le_trans hlo hq.1, hq.2, fun e => ?_, fun i hi hij hqi => ?_⟩
      · have := hog b e.symm; have := hq.1; omega
      · replace hqi : (if i = j then Nw w w' else Q i) b := hqi
        rw [if_neg hij] at hqi
        have := ((h i (by omega) (by omega)).1 b hqi).2.1
        have := hq.1
        omega
    · show OVs d w' (if j = j then Nw w w' else Q j) A' l[j].kids
      rw [if_pos rfl]; exact ho
  · obtain ⟨h1, A2, c2, f0, f1, f8, f9⟩ := h' j hj (by omega)
    refine ⟨fun b hq => ?_, A2, c2, (hx j 0 (by omega) (by omega)).trans f0, (hx j 1 (by omega) (by omega)).trans f1, (hx j 2 (by omega) (by omega)).trans f8, ?_⟩
    · replace hq : (if j = k then Nw w w' else Q j) b := hq
      rw [if_neg e] at hq
      obtain ⟨a1, a2, a3, a4⟩ := h1 b hq
      refine ⟨a1, a2, a3, fun i hi hij hqi => ?_⟩
      replace hqi : (if i = k then Nw w w' else Q i) b := hqi
      by_cases e2 : i = k
      · rw [if_pos e2] at hqi
        have := ((h j hj (by omega)).1 b hq).2.1
        have := hqi.1
        omega
      · rw [if_neg e2] at hqi
        exact a4 i (by omega) hij hqi
    · show OVs d w' (if j = k then Nw w w' else Q j) A2 l[j].kids
      rw [if_neg e]; exact f9
theorem OVs.of_row {d : Nat} {w : World} {lo : Nat} {v : Value} {l : List Vl} {xs : List Value} {Q : Nat → Nat → Prop} (h : w.ownsRow lo 56 3 v l.length xs) (hx : RowV d w lo v.ownBlock Q l xs l.length) (hn : l.length ≤ 1048576) : ∃ A cap, v = .slice A l.length cap ∧ OVs (d + 1) w (fun b => lo ≤ b ∧ b < w.heap.size) A l := by
  rcases h.2 with ⟨h', h0⟩ | ⟨g, cap, cur, h', hb, hg, hnc, hcm, hcs, htake⟩
  · refine ⟨none, 0, by rw [h0]; exact h', by unfold maxLen; omega, fun hl => absurd hl (by omega)⟩
  · subst h'
    refine ⟨_, cap, rfl, by unfold maxLen; omega, fun _ => ⟨g, cur, Q, rfl, ⟨hb, heap_lt hg⟩, hg, fun k b hk hq => ?_, fun k hk => ?_⟩⟩
    · obtain ⟨a1, a2, a3, a4⟩ := (hx k hk hk).1 b hq
      exact ⟨⟨a1, a2⟩, fun e => a3 (by rw [e]; rfl), a4⟩
    · obtain ⟨_, A', c', e0, e1, e8, e9⟩ := hx k hk hk
      have hat : ∀ i, i < l.length * 3 → cur[i]? = xs[i]? := fun i hi => by
        rw [← htake, List.getElem?_take_of_lt hi, Array.getElem?_toList]
      exact ⟨A', c', (hat _ (by omega)).trans e0, (hat _ (by omega)).trans e1, (hat _ (by omega)).trans e8, e9⟩
end Go.Proofs.Ytholdmdkhbhokaa
/-
  An append to a row of the call's own, as one operation of a region. No statement is proved here.
-/
namespace Go.Proofs.Ytholdmdkhbhokaa
open Go.RowKit
set_option maxRecDepth 100000
set_option linter.unusedVariables false

theorem wp_append_own {P : Program} {o : Oper} {a : Act} {w : World} {K : Act → World → Prop} {Q : Exit → Act → World → Prop} (s x : Operand) (t : TypeId)
    (ho : o.op = .call { callee := .builtin .append, args := #[s, x], argTypes := #[t, t] })
    (base : Nat) (e : TypeId) (i : TypeInfo) (z : Value) (size bytes : Nat) (ht : P.underlying t = some (.slice e)) (hi : P.info? e = some i) (hz : i.zero = some z)
    (hsize : i.size = size) (hby : i.bytes = bytes) (hzs : z.cells.size = size) (hsz : 0 < size)
    (v : Value) (n : Nat) (xs : List Value) (hs : a.eval s = v) (hown : w.ownsRow base e size v n xs)
    (ad : Addr) (m c : Nat) (news : List Value) (hx : a.eval x = .slice (some ad) m c) (hl : news.length = m * size) (hnews : ∀ j u, news[j]? = some u → w.cell? (ad.add j) = some u) (h1 : ∀ u ∈ news, u.oneCell' = true)
    (h63 : n + m ≤ maxLen) (hbytes : (n + m) * bytes ≤ 140737488355328) (hbase : base ≤ w.heap.size)
    (h : ∀ v' w', w'.ownsRow base e size v' (n + m) (xs ++ news) → w.grownBy w' v.ownBlock → (v'.ownBlock = v.ownBlock ∨ v'.ownBlock = some w.heap.size) → K (a.put o.dst v') w') : o.wp P a w K Q := by
  obtain ⟨v', w', hr, h2, h3, _, h5⟩ := run_append_own_at (P := P) w base t o.type e i z size bytes ht hi hz hsize hby hzs hsz v n xs hown ad m c news hl hnews h1 h63 hbytes hbase
  unfold Oper.wp execOp
  simp only [ho, resolve, invoke, builtin, Sem.run_bind, Sem.run_pure, Result.andThen_ok, List.map_toArray, List.map_cons, List.map_nil, hs, hx, hr]
  exact h v' w' h2 h3 h5
theorem own_at {w w' : World} {base : Nat} {e : TypeId} {size n : Nat} {v : Value} {xs : List Value} (h : w.ownsRow base e size v n xs) (hk : ∀ b, v.ownBlock = some b → w'.heap[b]? = w.heap[b]?) : w'.ownsRow base e size v n xs := by
  refine ⟨h.1, ?_⟩
  rcases h.2 with h0 | ⟨g, cap, cur, a1, a2, a3, a4⟩
  · exact .inl h0
  · exact .inr ⟨g, cap, cur, a1, a2, (hk g (by rw [a1]; rfl)).trans a3, a4⟩
theorem own_form {w : World} {base : Nat} {e : TypeId} {size n : Nat} {v : Value} {xs : List Value} (h : w.ownsRow base e size v n xs) : ∃ A c, v = .slice A n c ∧ ∀ b, v.ownBlock = some b → base ≤ b ∧ b < w.heap.size := by
  rcases h.2 with ⟨rfl, rfl⟩ | ⟨g, cap, cur, rfl, a2, a3, a4⟩
  · exact ⟨none, 0, rfl, fun b e => by cases e⟩
  · exact ⟨_, _, rfl, fun b e => by injection e with e; subst e; exact ⟨a2, heap_lt a3⟩⟩
end Go.Proofs.Ytholdmdkhbhokaa
/-
  A region whose last operation waits for all others: a condition on the world that holds until that one comes up. No statement is proved here.
-/
namespace Go.Proofs.Ytholdmdkhbhokaa
open Go
set_option linter.unusedVariables false

section
variable {P : Program} {ops : Array Oper} {Q : Exit → Act → World → Prop} {md : Region.Mode} {S : World → Prop} {z : Nat}
/-- Whatever comes up next, the condition holds behind it, unless it is number z; and so on. -/
def Till (P : Program) (md : Region.Mode) (ops : Array Oper) (Q : Exit → Act → World → Prop) (S : World → Prop) (z : Nat) : Nat → Array Bool → Act → World → Prop
  | 0, ls, a, w => Region.ready md ops ls = [] ∧ Q .normal a w
  | n + 1, ls, a, w => (Region.ready md ops ls = [] → Q .normal a w) ∧ ∀ i ∈ Region.ready md ops ls, wpOp P ops Q i (fun b v => (i ≠ z → S v) ∧ Till P md ops Q S z n (ls.setIfInBounds i true) b v) a w
theorem Till.any : ∀ (n : Nat) (ls : Array Bool) (a : Act) (w : World), Till P md ops Q S z n ls a w → wpAny P md ops Q n ls a w
  | 0, _, _, _, h => h
  | n + 1, ls, a, w, h => ⟨h.1, fun i hi => wpOp_mono (fun b v hv => Till.any n _ b v hv.2) (h.2 i hi)⟩
/-- Does number z wait for number i? -/
def waitB (md : Region.Mode) (ops : Array Oper) (z i : Nat) : Bool := match ops[z]? with
  | some o => o.after.any fun e => Region.binds md e && e.on == i
  | none => true
theorem wait_not {i : Nat} {ls : Array Bool} (h : waitB md ops z i = true) (hi : i ∈ Region.ready md ops ls) : ¬ z ∈ Region.ready md ops ls := fun hz => by
  obtain ⟨_, o, ho, hall⟩ := mem_ready.1 hz
  obtain ⟨hun, oi, hoi, _⟩ := mem_ready.1 hi
  unfold waitB at h
  rw [ho] at h
  simp only at h
  obtain ⟨e, he, hb⟩ := Array.any_eq_true'.1 h
  simp only [Bool.and_eq_true, beq_iff_eq] at hb
  have h1 := hall e he hb.1
  rw [hb.2] at h1
  rcases Nat.lt_or_ge i ls.size with hlt | hge
  · simp [hlt] at hun h1; rw [hun] at h1; cases h1
  · simp [Array.getElem?_eq_none hge] at h1
theorem Till.first {i : Nat} {oi : Oper} {v : Value} (hi : ops[i]? = some oi) (hs : Region.noSelect ops = true) (hQ : ∀ c a w, Q (.panic c) (a.put oi.dst v) w → Q (.panic c) a w) (hw : waitB md ops z i = true) :
    ∀ (n : Nat) (ls : Array Bool) (a : Act) (w : World), (∀ j oj, ops[j]? = some oj → j ≠ i → ls.getD j true = false → (∀ e ∈ oj.after, Region.binds md e = true → e.on ≠ i) → oi.apart ops oj = true) →
      i ∈ Region.ready md ops ls → i ≠ z → YieldsIf P ops S oi v a → S w → Till P md ops Q S z n (ls.setIfInBounds i true) (a.put oi.dst v) w → Till P md ops Q S z (n + 1) ls a w := by
  intro n
  have hsel := Region.noSelect_spec hs
  induction n with
  | zero =>
    intro ls a w _ hr hz hy hS H
    refine ⟨fun h => (by rw [h] at hr; cases hr), fun j hj => ?_⟩
    by_cases e : j = i
    · subst e; exact hy.wpOp hi hS ⟨fun _ => hS, H⟩
    · have := ready_mono hj e
      rw [H.1] at this
      cases this
  | succ n ih =>
    intro ls a w hfree hr hz hy hS H
    refine ⟨fun h => (by rw [h] at hr; cases hr), fun j hj => ?_⟩
    by_cases e : j = i
    · subst e; exact hy.wpOp hi hS ⟨fun _ => hS, H⟩
    · have hjz : j ≠ z := fun ez => wait_not hw hr (ez ▸ hj)
      have h1 := H.2 j (ready_mono hj e)
      obtain ⟨hun, oj, hoj, hall⟩ := mem_ready.1 hj
      have hno : ∀ d ∈ oj.after, Region.binds md d = true → d.on ≠ i := fun d hd hb heq => by
        have h2 := hall d hd hb
        have h3 := (mem_ready.1 hr).1
        rw [heq] at h2
        rcases Nat.lt_or_ge i ls.size with hlt | hge
        · simp [hlt] at h3 h2; rw [h3] at h2; cases h2
        · simp [Array.getElem?_eq_none hge] at h2
      have h2 := wpOp_putIf hoj (hfree j oj hoj e hun hno) (fun cs b => hsel i oi cs b hi) (fun cs b => hsel j oj cs b hoj) hQ hy h1
      refine wpOp_mono (fun b v h3 => ⟨fun _ => h3.2.1 hjz, ih (ls.setIfInBounds j true) b v ?_ (ready_mono hr (Ne.symm e)) hz h3.1 (h3.2.1 hjz) ?_⟩) h2
      · intro k ok hk hki huk hnk
        refine hfree k ok hk hki ?_ hnk
        by_cases ek : j = k
        · subst ek; exact hun
        · rw [getD_set_ne true ek] at huk; exact huk
      · rw [Array.setIfInBounds_comm _ _ e]
        exact h3.2.2
theorem Till.take {i : Nat} {oi : Oper} {v : Value} {n : Nat} {ls : Array Bool} {a : Act} {w : World} (hi : ops[i]? = some oi) (hs : Region.noSelect ops = true) (hf : Region.free md ops ls i = true)
    (hr : (Region.ready md ops ls).contains i = true) (hw : (waitB md ops z i && i != z) = true) (hQ : ∀ c a w, Q (.panic c) (a.put oi.dst v) w → Q (.panic c) a w) (hS : S w) (hy : YieldsIf P ops S oi v a)
    (h : Till P md ops Q S z n (ls.setIfInBounds i true) (a.put oi.dst v) w) : Till P md ops Q S z (n + 1) ls a w := by
  rw [Bool.and_eq_true, bne_iff_ne] at hw
  exact Till.first hi hs hQ hw.1 n ls a w (Region.free_spec hi hf) (by simpa using hr) hw.2 hy hS h
theorem Till.take_ {i : Nat} {oi : Oper} {d : Option Tmp} {v : Value} {n : Nat} {ls ls' : Array Bool} {a : Act} {w : World} (hi : ops[i]? = some oi) (hd : ops[i]?.map (fun o => o.dst) = some d) (hs : Region.noSelect ops = true) (hf : Region.free md ops ls i = true)
    (hr : (Region.ready md ops ls).contains i = true) (hw : (waitB md ops z i && i != z) = true) (hQ : ∀ c a w, Q (.panic c) (a.put d v) w → Q (.panic c) a w) (hS : S w) (hy : YieldsIf P ops S oi v a) (hl : ls.setIfInBounds i true = ls')
    (h : Till P md ops Q S z n ls' (a.put d v) w) : Till P md ops Q S z (n + 1) ls a w := by
  have e : oi.dst = d := by rw [hi] at hd; injection hd
  subst e hl
  exact Till.take hi hs hf hr hw hQ hS hy h
/-- One operation comes up. -/
theorem Till.step {i : Nat} {o : Oper} {n : Nat} {ls : Array Bool} {a : Act} {w : World} (ho : ops[i]? = some o) (hw : Region.wanted o (yielded ops a.tmps) = true)
    (h : ∀ K : Act → World → Prop, (∀ b v, (i ≠ z → S v) → Till P md ops Q S z n (ls.setIfInBounds i true) b v → K b v) → o.wp P a w K Q) :
    wpOp P ops Q i (fun b v => (i ≠ z → S v) ∧ Till P md ops Q S z n (ls.setIfInBounds i true) b v) a w := by
  unfold wpOp
  simp only [ho, hw, if_true]
  exact .inl (h _ fun b v h1 h2 => ⟨h1, h2⟩)
theorem Till.all {rs : List Nat} {n : Nat} {ls : Array Bool} {a : Act} {w : World} (hr : Region.ready md ops ls = rs) (hne : rs ≠ [])
    (h : ∀ i ∈ rs, wpOp P ops Q i (fun b v => (i ≠ z → S v) ∧ Till P md ops Q S z n (ls.setIfInBounds i true) b v) a w) : Till P md ops Q S z (n + 1) ls a w :=
  ⟨fun h0 => absurd (hr ▸ h0) hne, hr ▸ h⟩
theorem Till.done {ls : Array Bool} {a : Act} {w : World} (hr : Region.ready md ops ls = []) (h : Q .normal a w) : ∀ n, Till P md ops Q S z n ls a w
  | 0 => ⟨hr, h⟩
  | _ + 1 => ⟨fun _ => h, by rw [hr]; simp⟩
theorem Till.start {id : Nat} {a : Act} {w : World} (hm : P.follows .mixedOrders = true) (h : Till P .any ops Q S z ops.size (Array.replicate ops.size false) a w.drew) : (Code.region id ops true).wp P Q a w :=
  wp_region_any hm (Till.any _ _ _ _ h)
end
end Go.Proofs.Ytholdmdkhbhokaa
