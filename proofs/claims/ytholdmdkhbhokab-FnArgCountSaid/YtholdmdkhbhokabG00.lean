/-
  The function FnExactNameValid returns true for every string, and the string reads behind the call as it read before. No condition.
-/
import Derived.Test.YtholdmdkhbhokabRows
import Derived.WalkKit
import Derived.WalkSpells
import Derived.ProofKit
import Derived.Lib.Hide
import Derived.BigQuiet
import Derived.Deep.QuietTactic
import Derived.Maps.Own
import Derived.Maps.OwnOps
import Derived.Maps.Views
import Derived.Laws.AppendOwn
import Derived.Laws.OwnMore
import Derived.Lib.QuietBelow
import Derived.Outline
import Derived.Laws.BytesString
namespace Go.Proofs.Ytholdmdkhbhokab
open Go.RowKit
open Go.ChangeShapes Go.WideShapes Go.ChangeAt
open Go.ChangeMaps (open_string shut_string)
set_option maxRecDepth 100000
set_option linter.unusedVariables false

theorem ret_bool {a b : Bool} (h : a = b) : Ending.returned (.bool a) = .returned (.bool b) := by rw [h]

def upB (c : Int) : Bool := decide (65 ≤ c) && decide (c ≤ 90)
def lowB (c : UInt8) : Bool := decide (97 ≤ (c.toNat : Int)) && decide ((c.toNat : Int) ≤ 122)
theorem upB_t {c : Int} (h1 : 65 ≤ c) (h2 : c ≤ 90) : upB c = true := by unfold upB; simp [h1, h2]
theorem upB_f {c : Int} (h : ¬ (65 ≤ c ∧ c ≤ 90)) : upB c = false := by
  unfold upB; by_cases h1 : 65 ≤ c <;> by_cases h2 : c ≤ 90 <;> simp [h1, h2] <;> omega

theorem up_ge {c : Int} (h : ¬ c < 65) : decide (c ≤ 90) = upB c := by
  unfold upB; rw [show decide (65 ≤ c) = true by simp; omega]; rfl
theorem up_lt {c : Int} (h : c < 65) : false = upB c := by
  unfold upB; rw [show decide (65 ≤ c) = false by simp; omega]; rfl
theorem isUpper_any (c : Int) (w : World) :
    Calls Try.prog 69 #[.int .u8 c] w fun e w' => e = .returned (.bool (upB c)) ∧ w = w' := by
  by_cases h : c < 65
  · go_enter Try.func69, Try.ntmps69
    go_wp2
    all_goals go_ret
    exact ⟨ret_bool (up_lt h), rfl⟩
  · go_enter Try.func69, Try.ntmps69
    go_wp2
    all_goals go_ret
    exact ⟨ret_bool (up_ge (by omega)), rfl⟩

theorem big_any (c : Int) (w : World) :
    Calls Try.prog 71 #[.int .u8 c] w fun e w' => e = .returned (.bool (upB c)) ∧ w = w' := by
  by_cases h : c < 65
  · go_enter Try.func71, Try.ntmps71
    go_wp2
    all_goals go_ret
    exact ⟨ret_bool (up_lt h), rfl⟩
  · go_enter Try.func71, Try.ntmps71
    go_wp2
    all_goals go_ret
    exact ⟨ret_bool (up_ge (by omega)), rfl⟩

/-- The name of a constructor: a length from 1 to 5, an uppercase letter, lowercase letters. -/
def lowsUpto (s : ByteArray) (k : Nat) : Bool := ((s.data.toList.take k).drop 1).all lowB
def nameB (s : ByteArray) : Bool :=
  decide (0 < s.size) && (decide (s.size ≤ 5) && (upB ((s.data.toList.headD 0).toNat) && lowsUpto s s.size))

theorem name_empty {s : ByteArray} (h : s.size = 0) : false = nameB s := by unfold nameB; simp [h]
theorem name_long {s : ByteArray} (h : 5 < s.size) : false = nameB s := by
  unfold nameB; rw [show decide (s.size ≤ 5) = false by simp; omega]; simp
theorem head_eq {s : ByteArray} (h0 : 0 < s.size) : s.data.toList.headD 0 = s[0]'h0 := by
  have : s.data.toList = s.data.toList[0]'(by simpa using h0) :: s.data.toList.drop 1 := by
    rw [← List.drop_eq_getElem_cons]; rfl
  rw [this]; rfl
theorem name_small {s : ByteArray} (h0 : 0 < s.size) (h : upB (s[0]'h0).toNat = false) : false = nameB s := by
  unfold nameB; rw [head_eq h0, h]; simp
theorem name_go {s : ByteArray} (h0 : 0 < s.size) (h5 : s.size ≤ 5) (h : upB (s[0]'h0).toNat = true) : nameB s = lowsUpto s s.size := by
  unfold nameB; rw [head_eq h0, h]; simp [h0, h5]
theorem lows_one (s : ByteArray) : lowsUpto s 1 = true := by
  unfold lowsUpto; cases s.data.toList <;> simp
theorem lows_snoc {s : ByteArray} {k : Nat} (h1 : 1 ≤ k) (hk : k < s.size) : lowsUpto s (k + 1) = (lowsUpto s k && lowB s[k]) := by
  unfold lowsUpto
  rw [List.take_succ_eq_append_getElem (by simpa using hk), List.drop_append_of_le_length (by simp; omega), List.all_append]
  simp; rfl
theorem lows_more {s : ByteArray} {k : Nat} (d : Nat) (h : lowsUpto s k = false) : lowsUpto s (k + d) = false := by
  unfold lowsUpto at h ⊢
  rw [List.all_eq_false] at h ⊢
  obtain ⟨x, hx, hn⟩ := h
  refine ⟨x, ?_, hn⟩
  have : s.data.toList.take (k + d) = s.data.toList.take k ++ (s.data.toList.drop k).take d := by rw [List.take_add]
  rw [this]
  by_cases hl : 1 ≤ (s.data.toList.take k).length
  · rw [List.drop_append_of_le_length hl]; exact List.mem_append_left _ hx
  · have : s.data.toList.take k = [] := by
      apply List.eq_nil_of_length_eq_zero; omega
    rw [this] at hx; simp at hx
theorem lows_bad {s : ByteArray} {k : Nat} (h1 : 1 ≤ k) (hk : k < s.size) (h : lowB s[k] = false) : false = lowsUpto s s.size := by
  have := lows_more (s := s) (k := k + 1) (s.size - (k + 1)) (by rw [lows_snoc h1 hk, h]; simp)
  rw [← this]; congr 1; omega
theorem lowB_f {c : UInt8} (h : (c.toNat : Int) < 97 ∨ 122 < (c.toNat : Int)) : lowB c = false := by
  unfold lowB
  rcases h with h | h
  · rw [show decide (97 ≤ (c.toNat : Int)) = false by simp; omega]; rfl
  · rw [show decide ((c.toNat : Int) ≤ 122) = false by simp; omega]; simp
theorem lowB_t {c : UInt8} (h : 97 ≤ (c.toNat : Int)) (h' : (c.toNat : Int) ≤ 122) : lowB c = true := by
  unfold lowB; simp only [decide_eq_true h, decide_eq_true h', Bool.and_self]

theorem isEmpty_of {s : ByteArray} (h : s.size = 0) : s.toList = [] := by
  rw [ByteArray.toList_eq]; exact List.eq_nil_of_length_eq_zero (by simpa using h)
theorem notEmpty_of {s : ByteArray} (h : ¬ s.size = 0) : ¬ s.toList = [] := by
  rw [ByteArray.toList_eq]; intro e; exact h (by simpa using congrArg List.length e)
theorem notEmpty_of' {s : ByteArray} (h : ¬ s.size = 0) : s.toList.isEmpty = false := by
  simpa using notEmpty_of h

theorem lowB_eq {c : UInt8} {n : Int} (h : n = (c.toNat : Int)) : lowB c = (decide (97 ≤ n) && decide (n ≤ 122)) := by subst h; rfl
theorem isLower_t (c : UInt8) (w : World) (h : lowB c = true) :
    Calls Try.prog 109 #[.int .u8 c.toNat] w fun e w' => e = .returned (.bool true) ∧ w = w' := by
  have h1 : 97 ≤ (c.toNat : Int) ∧ (c.toNat : Int) ≤ 122 := by unfold lowB at h; simpa using h
  obtain ⟨h1, h2⟩ := h1
  clear h
  go_enter Try.func109, Try.ntmps109
  go_wp2
  all_goals go_ret
  exact ⟨ret_bool (by simp), rfl⟩
theorem isLower_f (c : UInt8) (w : World) (h : lowB c = false) :
    Calls Try.prog 109 #[.int .u8 c.toNat] w fun e w' => e = .returned (.bool false) ∧ w = w' := by
  by_cases h1 : (c.toNat : Int) < 97
  · clear h
    go_enter Try.func109, Try.ntmps109
    go_wp2
    all_goals go_ret
    exact ⟨rfl, rfl⟩
  · have h2 : ¬ (c.toNat : Int) ≤ 122 := by unfold lowB at h; simp at h; omega
    clear h
    go_enter Try.func109, Try.ntmps109
    go_wp2
    all_goals go_ret
    exact ⟨ret_bool (by simp), rfl⟩

set_option maxHeartbeats 400000 in
theorem nameV_impl (s : ByteArray) (w : World) (hs : s.size ≤ maxLen) :
    Calls Try.prog 95 #[.string s] w fun e w' => e = .returned (.bool (nameB s)) ∧ w = w' := by
  unfold maxLen at hs
  by_cases h0 : s.size = 0
  · have h0' : s.toList = [] := isEmpty_of h0
    go_enter Try.func95, Try.ntmps95
    go_wp2_with fail
    go_ret
    exact ⟨ret_bool (name_empty h0), rfl⟩
  · have h0' := notEmpty_of h0
    have h0'' := notEmpty_of' h0
    by_cases h5 : 5 < s.size
    · go_enter Try.func95, Try.ntmps95
      go_wp2_with fail
      go_ret
      exact ⟨ret_bool (name_long h5), rfl⟩
    · have hp : 0 < s.size := by omega
      have h5' : s.size ≤ 5 := by omega
      have h5b : decide (5 < (s.size : Int)) = false := by simp; omega
      by_cases hu : upB (s[0]'hp).toNat = true
      · have H := Lib.hid (name_go hp h5' hu)
        go_enter Try.func95, Try.ntmps95
        go_wp2_with (go_at_call 69; refine (isUpper_any _ _).mono ?_; rintro e w' ⟨rfl, rfl⟩)
        go_loop [3] (fun i => ∃ k : Nat, 1 ≤ k ∧ k ≤ s.size ∧ lowsUpto s k = true ∧ i = .int .i64 k) (fun i => s.size - (intOf i).toNat)
        case atStart => exact ⟨1, by omega, by omega, lows_one s, rfl⟩
        case round =>
          obtain ⟨k, hk1, hk, hl, rfl⟩ := hrel
          have HL := Lib.hid hl
          clear hl
          by_cases hlt : k < s.size
          · have HS := Lib.hid (lows_snoc hk1 hlt)
            by_cases hb : lowB s[k] = true
            · have HB := Lib.hid hb
              clear hb
              go_wp2_with (go_at_call 109; refine (isLower_t _ _ HB.out).mono ?_; rintro e w' ⟨rfl, rfl⟩)
              go_round
              case rel => exact ⟨k + 1, by omega, by omega, by rw [HS.out, HL.out, HB.out]; rfl, by go_num⟩
              case measure => simp [intOf]; omega
            · have hb' : lowB s[k] = false := by simpa using hb
              have HB := Lib.hid hb'
              have HC := Lib.hid (lows_bad hk1 hlt hb')
              clear hb hb'
              go_wp2_with (go_at_call 109; refine (isLower_f _ _ HB.out).mono ?_; rintro e w' ⟨rfl, rfl⟩)
              go_ret
              exact ⟨ret_bool (by rw [H.out]; exact HC.out), rfl⟩
          · go_wp2
            go_ret
            exact ⟨ret_bool (by rw [H.out, ← HL.out]; congr 1; omega), rfl⟩
      · have hu' : upB (s[0]'hp).toNat = false := by simpa using hu
        clear hu
        go_enter Try.func95, Try.ntmps95
        go_wp2_with (go_at_call 69; refine (isUpper_any _ _).mono ?_; rintro e w' ⟨rfl, rfl⟩)
        go_ret
        exact ⟨ret_bool (name_small hp hu'), rfl⟩

theorem nameV_spec (s : ByteArray) (w : World) (hs : s.size ≤ maxLen) :
    Calls Try.prog 72 #[.string s] w fun e w' => e = .returned (.bool (nameB s)) ∧ w = w' := by
  unfold maxLen at hs
  by_cases h0 : s.size = 0
  · have h0' : ((s.size : Int) == 0) = true := by simpa using h0
    go_enter Try.func72, Try.ntmps72
    go_wp2_with fail
    go_ret
    exact ⟨ret_bool (name_empty h0), rfl⟩
  · have h0' : ((s.size : Int) == 0) = false := by simpa using h0
    by_cases h5 : 5 < s.size
    · go_enter Try.func72, Try.ntmps72
      go_wp2_with fail
      go_ret
      exact ⟨ret_bool (name_long h5), rfl⟩
    · have hp : 0 < s.size := by omega
      have h5' : s.size ≤ 5 := by omega
      have h5b : decide (5 < (s.size : Int)) = false := by simp; omega
      by_cases hu : upB (s[0]'hp).toNat = true
      · have H := Lib.hid (name_go hp h5' hu)
        go_enter Try.func72, Try.ntmps72
        go_wp2_with (go_at_call 71; refine (big_any _ _).mono ?_; rintro e w' ⟨rfl, rfl⟩)
        go_loop [3] (fun i => ∃ k : Nat, 1 ≤ k ∧ k ≤ s.size ∧ lowsUpto s k = true ∧ i = .int .i64 k) (fun i => s.size - (intOf i).toNat)
        case atStart => exact ⟨1, by omega, by omega, lows_one s, rfl⟩
        case round =>
          obtain ⟨k, hk1, hk, hl, rfl⟩ := hrel
          have HL := Lib.hid hl
          clear hl
          by_cases hlt : k < s.size
          · have HS := Lib.hid (lows_snoc hk1 hlt)
            by_cases hb : (s[k].toNat : Int) < 97
            · have HB := Lib.hid (lows_bad hk1 hlt (lowB_f (.inl hb)))
              go_wp2
              go_ret
              exact ⟨ret_bool (by rw [H.out]; exact HB.out), rfl⟩
            · by_cases hc : 122 < (s[k].toNat : Int)
              · have HB := Lib.hid (lows_bad hk1 hlt (lowB_f (.inr hc)))
                go_wp2
                go_ret
                exact ⟨ret_bool (by rw [H.out]; exact HB.out), rfl⟩
              · have hg : decide ((s[k].toNat : Int) < 97) = false := by simpa using hb
                have hg' : decide (122 < (s[k].toNat : Int)) = false := by simpa using hc
                have HB := Lib.hid (lowB_t (c := s[k]) (by omega) (by omega))
                go_wp2
                go_round
                case rel => exact ⟨k + 1, by omega, by omega, by rw [HS.out, HL.out, HB.out]; rfl, by go_num⟩
                case measure => simp [intOf]; omega
          · go_wp2
            go_ret
            exact ⟨ret_bool (by rw [H.out, ← HL.out]; congr 1; omega), rfl⟩
      · have hu' : upB (s[0]'hp).toNat = false := by simpa using hu
        clear hu
        go_enter Try.func72, Try.ntmps72
        go_wp2_with (go_at_call 71; refine (big_any _ _).mono ?_; rintro e w' ⟨rfl, rfl⟩)
        go_ret
        exact ⟨ret_bool (name_small hp hu'), rfl⟩

theorem nvOwn : ownKnob Try.prog.godebug = none := by kernel_rfl

end Go.Proofs.Ytholdmdkhbhokab
/-
  Types, constructors and data types as they lie in memory: slices of structs that hold strings, integers and slices; and how much they hold. No statement is proved here.
-/
namespace Go.Proofs.Ytholdmdkhbhokab
open Go.RowKit
set_option linter.unusedVariables false

structure Ty where
  data : Int
  index : Int
deriving DecidableEq, Inhabited
structure Ct where
  name : ByteArray
  args : List Ty
  index : Int
deriving Inhabited
structure Da where
  name : ByteArray
  ctors : List Ct
deriving Inhabited

def RTy (w : World) (b o : Nat) (t : Ty) : Prop := w.cell? ⟨b, o, none⟩ = some (.int .i64 t.data) ∧ w.cell? ⟨b, o + 1, none⟩ = some (.int .i64 t.index)
def RTys (w : World) (B : Nat) (A : Option Addr) (l : List Ty) : Prop := l.length ≤ maxLen ∧ ∀ k (h : k < l.length), ∃ b off, A = some ⟨b, off, none⟩ ∧ b < B ∧ RTy w b (off + k * 2) l[k]
def RCt (w : World) (B : Nat) (b o : Nat) (c : Ct) : Prop :=
  ∃ A cap, w.cell? ⟨b, o, none⟩ = some (.string c.name) ∧ w.cell? ⟨b, o + 1, none⟩ = some (.slice A c.args.length cap) ∧ w.cell? ⟨b, o + 2, none⟩ = some (.int .i64 c.index) ∧ c.name.size ≤ maxLen ∧ RTys w B A c.args
def RCts (w : World) (B : Nat) (A : Option Addr) (l : List Ct) : Prop := l.length ≤ maxLen ∧ ∀ k (h : k < l.length), ∃ b off, A = some ⟨b, off, none⟩ ∧ b < B ∧ RCt w B b (off + k * 3) l[k]
def RDa (w : World) (B : Nat) (b o : Nat) (d : Da) : Prop :=
  ∃ A cap, w.cell? ⟨b, o, none⟩ = some (.string d.name) ∧ w.cell? ⟨b, o + 1, none⟩ = some (.slice A d.ctors.length cap) ∧ d.name.size ≤ maxLen ∧ RCts w B A d.ctors
def RDas (w : World) (B : Nat) (A : Option Addr) (l : List Da) : Prop := l.length ≤ maxLen ∧ ∀ k (h : k < l.length), ∃ b off, A = some ⟨b, off, none⟩ ∧ b < B ∧ RDa w B b (off + k * 2) l[k]

section
variable {w w' : World} {B B' : Nat} {A : Option Addr}
theorem RTys.keep {l : List Ty} (h : RTys w B A l) (hk : ∀ p : Addr, p.block < B → w'.cell? p = w.cell? p) (hB : B ≤ B') : RTys w' B' A l :=
  ⟨h.1, fun k hk' => by
    obtain ⟨b, off, e, hb, h1, h2⟩ := h.2 k hk'
    exact ⟨b, off, e, by omega, (hk _ hb).trans h1, (hk _ hb).trans h2⟩⟩
theorem RCts.keep {l : List Ct} (h : RCts w B A l) (hk : ∀ p : Addr, p.block < B → w'.cell? p = w.cell? p) (hB : B ≤ B') : RCts w' B' A l :=
  ⟨h.1, fun k hk' => by
    obtain ⟨b, off, e, hb, A', cap, h1, h2, h3, h4, h5⟩ := h.2 k hk'
    exact ⟨b, off, e, by omega, A', cap, (hk _ hb).trans h1, (hk _ hb).trans h2, (hk _ hb).trans h3, h4, h5.keep hk hB⟩⟩
theorem RDas.keep {l : List Da} (h : RDas w B A l) (hk : ∀ p : Addr, p.block < B → w'.cell? p = w.cell? p) (hB : B ≤ B') : RDas w' B' A l :=
  ⟨h.1, fun k hk' => by
    obtain ⟨b, off, e, hb, A', cap, h1, h2, h3, h4⟩ := h.2 k hk'
    exact ⟨b, off, e, by omega, A', cap, (hk _ hb).trans h1, (hk _ hb).trans h2, h3, h4.keep hk hB⟩⟩
theorem RTys.below {B0 : Nat} {l : List Ty} (h : RTys w B A l) (hb : Below B0 w w') (hB : B ≤ B0) : RTys w' B A l := h.keep (fun _ hp => hb.cell (Nat.lt_of_lt_of_le hp hB)) (Nat.le_refl _)
theorem RCts.below {B0 : Nat} {l : List Ct} (h : RCts w B A l) (hb : Below B0 w w') (hB : B ≤ B0) : RCts w' B A l := h.keep (fun _ hp => hb.cell (Nat.lt_of_lt_of_le hp hB)) (Nat.le_refl _)
theorem RDas.below {B0 : Nat} {l : List Da} (h : RDas w B A l) (hb : Below B0 w w') (hB : B ≤ B0) : RDas w' B A l := h.keep (fun _ hp => hb.cell (Nat.lt_of_lt_of_le hp hB)) (Nat.le_refl _)
end

/-! How much a value holds. -/
def wCt (c : Ct) : Nat := c.name.size + c.args.length
def wCts (l : List Ct) : Nat := l.length + (l.map wCt).sum
def wDa (d : Da) : Nat := d.name.size + wCts d.ctors
def wDas (l : List Da) : Nat := l.length + (l.map wDa).sum
/-- What is left of a number, or -1. -/
def left (l : Int) (n : Nat) : Int := if (n : Int) ≤ l then l - n else -1
theorem left_ok {l : Int} {n : Nat} (h : (n : Int) ≤ l) : left l n = l - n := if_pos h
theorem left_no {l : Int} {n : Nat} (h : ¬ (n : Int) ≤ l) : left l n = -1 := if_neg h
theorem sum_take_succ {α : Type} (f : α → Nat) (l : List α) (k : Nat) (h : k < l.length) : ((l.take (k + 1)).map f).sum = ((l.take k).map f).sum + f l[k] := by
  rw [List.take_succ_eq_append_getElem h]; simp only [List.map_append, List.sum_append, List.map_cons, List.map_nil, List.sum_cons, List.sum_nil]; omega
theorem sum_take_le {α : Type} (f : α → Nat) (l : List α) (k : Nat) : ((l.take k).map f).sum ≤ (l.map f).sum := by
  conv => rhs; rw [← List.take_append_drop k l]
  simp only [List.map_append, List.sum_append]; omega
end Go.Proofs.Ytholdmdkhbhokab
/-
  The functions that copy types, constructors and data types into memory of their own. No statement is proved here.
-/
namespace Go.Proofs.Ytholdmdkhbhokab
open Go.RowKit
set_option maxRecDepth 100000
set_option linter.unusedVariables false

theorem info34 : (Try.prog.info? 33).map (fun i => (i.zero, i.size, i.bytes)) = some (some (.agg #[.int .i64 0, .int .i64 0]), 2, 16) := by kernel_rfl
theorem info59 : (Try.prog.info? 31).map (fun i => (i.zero, i.size, i.bytes)) = some (some (.agg #[.string ByteArray.empty, .slice none 0 0, .int .i64 0]), 3, 48) := by kernel_rfl
theorem info56 : (Try.prog.info? 28).map (fun i => (i.zero, i.size, i.bytes)) = some (some (.agg #[.string ByteArray.empty, .slice none 0 0]), 2, 40) := by kernel_rfl

theorem bcell {W w1 : World} (hb : Below W.heap.size W w1) : (∀ b o, b < W.heap.size → w1.cell? ⟨b, o, none⟩ = W.cell? ⟨b, o, none⟩) ∧ (∀ b o, b < W.heap.size → w1.frozen? ⟨b, o, none⟩ = W.frozen? ⟨b, o, none⟩) :=
  ⟨fun b o h => hb.cell (p := ⟨b, o, none⟩) h, fun b o h => hb.frozen (p := ⟨b, o, none⟩) h⟩

/-- Types in a block of their own. -/
def FTys (w : World) (lo g : Nat) (l : List Ty) : Prop :=
  lo ≤ g ∧ l.length ≤ maxLen ∧ ∃ cs, w.heap[g]? = some (.cells cs 33 (0, 0)) ∧ cs.size = l.length * 2 ∧ ∀ k (h : k < l.length), cs[k * 2]? = some (.int .i64 l[k].data) ∧ cs[k * 2 + 1]? = some (.int .i64 l[k].index)

theorem below_of_grown {B : Nat} {w w' : World} (h : w.grownBy w' none) (hB : B ≤ w.heap.size) : Below B w w' :=
  (Below.refl B w).grown h hB (fun k e => by cases e)

theorem own_below {w w' : World} {base : Nat} {e : TypeId} {size : Nat} {v : Value} {n : Nat} {xs : List Value} (h : w.ownsRow base e size v n xs) (hb : Below w.heap.size w w') : w'.ownsRow base e size v n xs :=
  h.kept (row := none) ⟨hb.os, hb.tape, hb.output, hb.size, fun k hk _ => hb.block k hk⟩ (by
    rcases h.2 with ⟨rfl, _⟩ | ⟨g, cap, cur, rfl, _⟩
    · exact .inl rfl
    · exact .inr (by simp [Value.ownBlock]))
theorem own_cell {w : World} {base : Nat} {e : TypeId} {size g n cap : Nat} {xs : List Value} (h : w.ownsRow base e size (.slice (some ⟨g, 0, none⟩) n cap) n xs) (j : Nat) (hj : j < n * size) : ∃ v, w.cell? ⟨g, j, none⟩ = some v := by
  have hl : j < xs.length := by have := h.1; omega
  exact ⟨xs[j], by rw [h.cellAt j hj]; exact List.getElem?_eq_getElem hl⟩
theorem own_lt {w : World} {base : Nat} {e : TypeId} {size g n cap : Nat} {xs : List Value} (h : w.ownsRow base e size (.slice (some ⟨g, 0, none⟩) n cap) n xs) : g < w.heap.size := (h.lt g rfl).2
/-- What the first k rounds of a copy of types have left in the row. -/
def TyRow (l : List Ty) (xs : List Value) (k : Nat) : Prop := ∀ j (h : j < l.length), j < k → xs[j * 2]? = some (.int .i64 l[j].data) ∧ xs[j * 2 + 1]? = some (.int .i64 l[j].index)
theorem TyRow.zero (l : List Ty) (xs : List Value) : TyRow l xs 0 := fun j _ h => absurd h (by omega)
theorem TyRow.step {l : List Ty} {xs : List Value} {k : Nat} (h : TyRow l xs k) (hk : k < l.length) (hx : xs.length = l.length * 2) :
    TyRow l ((xs.set (k * 2) (.int .i64 l[k].data)).set (k * 2 + 1) (.int .i64 l[k].index)) (k + 1) := by
  intro j hj hjk
  by_cases e : j = k
  · subst e
    constructor
    · rw [List.getElem?_set_ne (by omega), List.getElem?_set_self (by omega)]
    · rw [List.getElem?_set_self (by simp; omega)]
  · obtain ⟨a, b⟩ := h j hj (by omega)
    constructor
    · rw [List.getElem?_set_ne (by omega), List.getElem?_set_ne (by omega), a]
    · rw [List.getElem?_set_ne (by omega), List.getElem?_set_ne (by omega), b]
theorem FTys.of_row {w : World} {lo g : Nat} {l : List Ty} {xs : List Value} (h : w.ownsRow lo 33 2 (.slice (some ⟨g, 0, none⟩) l.length l.length) l.length xs) (hx : TyRow l xs l.length) (hn : l.length ≤ 1048576) : FTys w lo g l := by
  rcases h.2 with ⟨h', _⟩ | ⟨g', cap', cur, h', hb, hg, hnc, hcm, hcs, htake⟩
  · simp at h'
  · simp only [Value.slice.injEq, Option.some.injEq, Addr.mk.injEq, and_true, true_and] at h'
    obtain ⟨rfl, rfl⟩ := h'
    refine ⟨hb, by unfold maxLen; omega, cur, hg, hcs, fun k hk => ?_⟩
    rw [List.take_of_length_le (by rw [Array.length_toList]; omega)] at htake
    rw [← Array.getElem?_toList, ← Array.getElem?_toList, htake]
    exact hx k hk hk

/-- Constructors in blocks of their own. -/
def FCt (w : World) (lo : Nat) (c : Ct) (x0 x1 x2 : Option Value) : Prop :=
  ∃ g, x0 = some (.string c.name) ∧ x1 = some (.slice (some ⟨g, 0, none⟩) c.args.length c.args.length) ∧ x2 = some (.int .i64 c.index) ∧ c.name.size ≤ maxLen ∧ FTys w lo g c.args
def FCts (w : World) (lo g : Nat) (l : List Ct) : Prop :=
  lo ≤ g ∧ l.length ≤ maxLen ∧ ∃ cs, w.heap[g]? = some (.cells cs 31 (0, 0)) ∧ cs.size = l.length * 3 ∧ ∀ k (h : k < l.length), FCt w lo l[k] cs[k * 3]? cs[k * 3 + 1]? cs[k * 3 + 2]?
def FDa (w : World) (lo : Nat) (d : Da) (x0 x1 : Option Value) : Prop :=
  ∃ g, x0 = some (.string d.name) ∧ x1 = some (.slice (some ⟨g, 0, none⟩) d.ctors.length d.ctors.length) ∧ d.name.size ≤ maxLen ∧ FCts w lo g d.ctors
def FDas (w : World) (lo g : Nat) (l : List Da) : Prop :=
  lo ≤ g ∧ l.length ≤ maxLen ∧ ∃ cs, w.heap[g]? = some (.cells cs 28 (0, 0)) ∧ cs.size = l.length * 2 ∧ ∀ k (h : k < l.length), FDa w lo l[k] cs[k * 2]? cs[k * 2 + 1]?
theorem heap_lt {w : World} {g : Nat} {o : Obj} (h : w.heap[g]? = some o) : g < w.heap.size := by
  rcases Nat.lt_or_ge g w.heap.size with hlt | hge
  · exact hlt
  · rw [Array.getElem?_eq_none hge] at h; cases h
/-- Blocks of types stay, whatever else is written. -/
theorem FTys.keep {w w' : World} {lo lo' g : Nat} {l : List Ty} (h : FTys w lo g l) (hl : lo' ≤ lo) (hk : ∀ b cs, lo ≤ b → w.heap[b]? = some (.cells cs 33 (0, 0)) → w'.heap[b]? = w.heap[b]?) : FTys w' lo' g l := by
  obtain ⟨h1, h2, cs, h3, h4, h5⟩ := h
  exact ⟨by omega, h2, cs, (hk g cs h1 h3).trans h3, h4, h5⟩
theorem FCts.keep {w w' : World} {lo lo' g : Nat} {l : List Ct} (h : FCts w lo g l) (hl : lo' ≤ lo) (hk : ∀ b cs t, t = 33 ∨ t = 31 → lo ≤ b → w.heap[b]? = some (.cells cs t (0, 0)) → w'.heap[b]? = w.heap[b]?) : FCts w' lo' g l := by
  obtain ⟨h1, h2, cs, h3, h4, h5⟩ := h
  refine ⟨by omega, h2, cs, (hk g cs 31 (.inr rfl) h1 h3).trans h3, h4, fun k hk' => ?_⟩
  obtain ⟨g', e0, e1, e2, e3, e4⟩ := h5 k hk'
  exact ⟨g', e0, e1, e2, e3, e4.keep hl (fun b cs => hk b cs 33 (.inl rfl))⟩
theorem FDas.keep {w w' : World} {lo lo' g : Nat} {l : List Da} (h : FDas w lo g l) (hl : lo' ≤ lo) (hk : ∀ b o, lo ≤ b → w.heap[b]? = some o → w'.heap[b]? = w.heap[b]?) : FDas w' lo' g l := by
  obtain ⟨h1, h2, cs, h3, h4, h5⟩ := h
  refine ⟨by omega, h2, cs, (hk g _ h1 h3).trans h3, h4, fun k hk' => ?_⟩
  obtain ⟨g', e0, e1, e2, e3⟩ := h5 k hk'
  exact ⟨g', e0, e1, e2, e3.keep hl (fun b cs t _ hb he => hk b _ hb he)⟩
theorem cell_of_blk {w : World} {g : Nat} {cs : Array Value} {t : TypeId} (h : w.heap[g]? = some (.cells cs t (0, 0))) (i : Nat) : w.cell? ⟨g, i, none⟩ = cs[i]? := cell_of_row w g i cs t (0, 0) h
theorem FTys.reads {w : World} {lo g : Nat} {l : List Ty} (h : FTys w lo g l) : RTys w w.heap.size (some ⟨g, 0, none⟩) l := by
  obtain ⟨h1, h2, cs, h3, h4, h5⟩ := h
  refine ⟨h2, fun k hk => ⟨g, 0, rfl, heap_lt h3, ?_, ?_⟩⟩
  · rw [cell_of_blk h3, Nat.zero_add]; exact (h5 k hk).1
  · rw [cell_of_blk h3, Nat.zero_add]; exact (h5 k hk).2
theorem FCts.reads {w : World} {lo g : Nat} {l : List Ct} (h : FCts w lo g l) : RCts w w.heap.size (some ⟨g, 0, none⟩) l := by
  obtain ⟨h1, h2, cs, h3, h4, h5⟩ := h
  refine ⟨h2, fun k hk => ⟨g, 0, rfl, heap_lt h3, ?_⟩⟩
  obtain ⟨g', e0, e1, e2, e3, e4⟩ := h5 k hk
  exact ⟨_, _, by rw [cell_of_blk h3, Nat.zero_add]; exact e0, by rw [cell_of_blk h3, Nat.zero_add]; exact e1, by rw [cell_of_blk h3, Nat.zero_add]; exact e2, e3, e4.reads⟩
theorem FDas.reads {w : World} {lo g : Nat} {l : List Da} (h : FDas w lo g l) : RDas w w.heap.size (some ⟨g, 0, none⟩) l := by
  obtain ⟨h1, h2, cs, h3, h4, h5⟩ := h
  refine ⟨h2, fun k hk => ⟨g, 0, rfl, heap_lt h3, ?_⟩⟩
  obtain ⟨g', e0, e1, e3, e4⟩ := h5 k hk
  exact ⟨_, _, by rw [cell_of_blk h3, Nat.zero_add]; exact e0, by rw [cell_of_blk h3, Nat.zero_add]; exact e1, e3, e4.reads⟩

/-- What the first k rounds of a copy of constructors have left in the row. -/
def CtRow (w : World) (lo : Nat) (l : List Ct) (xs : List Value) (k : Nat) : Prop := ∀ j (h : j < l.length), j < k → FCt w lo l[j] xs[j * 3]? xs[j * 3 + 1]? xs[j * 3 + 2]?
theorem CtRow.zero (w : World) (lo : Nat) (l : List Ct) (xs : List Value) : CtRow w lo l xs 0 := fun j _ h => absurd h (by omega)
theorem CtRow.keep {w w' : World} {lo : Nat} {l : List Ct} {xs : List Value} {k : Nat} (h : CtRow w lo l xs k) (hk : ∀ b cs, lo ≤ b → w.heap[b]? = some (.cells cs 33 (0, 0)) → w'.heap[b]? = w.heap[b]?) : CtRow w' lo l xs k := by
  intro j hj hjk
  obtain ⟨g, e0, e1, e2, e3, e4⟩ := h j hj hjk
  exact ⟨g, e0, e1, e2, e3, e4.keep (Nat.le_refl _) hk⟩
theorem CtRow.step {w : World} {lo : Nat} {l : List Ct} {xs : List Value} {k g : Nat} (h : CtRow w lo l xs k) (hk : k < l.length) (hx : xs.length = l.length * 3) (hs : l[k].name.size ≤ maxLen) (hf : FTys w lo g l[k].args) :
    CtRow w lo l (((xs.set (k * 3) (.string l[k].name)).set (k * 3 + 1) (.slice (some ⟨g, 0, none⟩) l[k].args.length l[k].args.length)).set (k * 3 + 2) (.int .i64 l[k].index)) (k + 1) := by
  intro j hj hjk
  by_cases e : j = k
  · subst e
    refine ⟨g, ?_, ?_, ?_, hs, hf⟩
    · rw [List.getElem?_set_ne (by omega), List.getElem?_set_ne (by omega), List.getElem?_set_self (by omega)]
    · rw [List.getElem?_set_ne (by omega), List.getElem?_set_self (by simp; omega)]
    · rw [List.getElem?_set_self (by simp; omega)]
  · have := h j hj (by omega)
    rw [List.getElem?_set_ne (by omega), List.getElem?_set_ne (by omega), List.getElem?_set_ne (by omega), List.getElem?_set_ne (by omega), List.getElem?_set_ne (by omega), List.getElem?_set_ne (by omega), List.getElem?_set_ne (by omega), List.getElem?_set_ne (by omega), List.getElem?_set_ne (by omega)]
    exact this
theorem own_heap {w : World} {base : Nat} {e : TypeId} {size g n cap : Nat} {xs : List Value} (h : w.ownsRow base e size (.slice (some ⟨g, 0, none⟩) n cap) n xs) : ∃ cs, w.heap[g]? = some (.cells cs e (0, 0)) := by
  rcases h.2 with ⟨h', _⟩ | ⟨g', cap', cur, h', hb, hg, hnc, hcm, hcs, htake⟩
  · simp at h'
  · simp only [Value.slice.injEq, Option.some.injEq, Addr.mk.injEq, and_true, true_and] at h'
    obtain ⟨rfl, rfl⟩ := h'
    exact ⟨cur, hg⟩
/-- A block of another element type is another block. -/
theorem other_blk {w : World} {g b : Nat} {cs ds : Array Value} {s t : TypeId} (h : w.heap[g]? = some (.cells cs s (0, 0))) (h' : w.heap[b]? = some (.cells ds t (0, 0))) (hne : s ≠ t) : b ≠ g := by
  rintro rfl; rw [h] at h'; injection h' with h'; injection h' with _ ht; exact hne ht
theorem FCts.of_row {w : World} {lo g : Nat} {l : List Ct} {xs : List Value} (h : w.ownsRow lo 31 3 (.slice (some ⟨g, 0, none⟩) l.length l.length) l.length xs) (hx : CtRow w lo l xs l.length) (hn : l.length ≤ 1048576) : FCts w lo g l := by
  rcases h.2 with ⟨h', _⟩ | ⟨g', cap', cur, h', hb, hg, hnc, hcm, hcs, htake⟩
  · simp at h'
  · simp only [Value.slice.injEq, Option.some.injEq, Addr.mk.injEq, and_true, true_and] at h'
    obtain ⟨rfl, rfl⟩ := h'
    refine ⟨hb, by unfold maxLen; omega, cur, hg, hcs, fun k hk => ?_⟩
    rw [List.take_of_length_le (by rw [Array.length_toList]; omega)] at htake
    rw [← Array.getElem?_toList, ← Array.getElem?_toList, ← Array.getElem?_toList, htake]
    exact hx k hk hk

/-- What the first k rounds of a copy of data types have left in the row. -/
def DaRow (w : World) (lo : Nat) (l : List Da) (xs : List Value) (k : Nat) : Prop := ∀ j (h : j < l.length), j < k → FDa w lo l[j] xs[j * 2]? xs[j * 2 + 1]?
theorem DaRow.zero (w : World) (lo : Nat) (l : List Da) (xs : List Value) : DaRow w lo l xs 0 := fun j _ h => absurd h (by omega)
theorem DaRow.keep {w w' : World} {lo : Nat} {l : List Da} {xs : List Value} {k : Nat} (h : DaRow w lo l xs k) (hk : ∀ b cs t, t = 33 ∨ t = 31 → lo ≤ b → w.heap[b]? = some (.cells cs t (0, 0)) → w'.heap[b]? = w.heap[b]?) : DaRow w' lo l xs k := by
  intro j hj hjk
  obtain ⟨g, e0, e1, e2, e3⟩ := h j hj hjk
  exact ⟨g, e0, e1, e2, e3.keep (Nat.le_refl _) hk⟩
theorem DaRow.step {w : World} {lo : Nat} {l : List Da} {xs : List Value} {k g : Nat} (h : DaRow w lo l xs k) (hk : k < l.length) (hx : xs.length = l.length * 2) (hs : l[k].name.size ≤ maxLen) (hf : FCts w lo g l[k].ctors) :
    DaRow w lo l ((xs.set (k * 2) (.string l[k].name)).set (k * 2 + 1) (.slice (some ⟨g, 0, none⟩) l[k].ctors.length l[k].ctors.length)) (k + 1) := by
  intro j hj hjk
  by_cases e : j = k
  · subst e
    refine ⟨g, ?_, ?_, hs, hf⟩
    · rw [List.getElem?_set_ne (by omega), List.getElem?_set_self (by omega)]
    · rw [List.getElem?_set_self (by simp; omega)]
  · have := h j hj (by omega)
    rw [List.getElem?_set_ne (by omega), List.getElem?_set_ne (by omega), List.getElem?_set_ne (by omega), List.getElem?_set_ne (by omega)]
    exact this
theorem FDas.of_row {w : World} {lo g : Nat} {l : List Da} {xs : List Value} (h : w.ownsRow lo 28 2 (.slice (some ⟨g, 0, none⟩) l.length l.length) l.length xs) (hx : DaRow w lo l xs l.length) (hn : l.length ≤ 1048576) : FDas w lo g l := by
  rcases h.2 with ⟨h', _⟩ | ⟨g', cap', cur, h', hb, hg, hnc, hcm, hcs, htake⟩
  · simp at h'
  · simp only [Value.slice.injEq, Option.some.injEq, Addr.mk.injEq, and_true, true_and] at h'
    obtain ⟨rfl, rfl⟩ := h'
    refine ⟨hb, by unfold maxLen; omega, cur, hg, hcs, fun k hk => ?_⟩
    rw [List.take_of_length_le (by rw [Array.length_toList]; omega)] at htake
    rw [← Array.getElem?_toList, ← Array.getElem?_toList, htake]
    exact hx k hk hk

end Go.Proofs.Ytholdmdkhbhokab
/-
  When types, constructors and data types are valid: the leaves, the program's and the document's. No statement is proved here.
-/
namespace Go.Proofs.Ytholdmdkhbhokab
open Go.RowKit
set_option maxRecDepth 100000
set_option linter.unusedVariables false

def argB (n : Int) (least : Int) (t : Ty) : Bool := if t.data = -1 then decide (t.index = 0) else decide (0 ≤ t.data ∧ t.data < n ∧ least ≤ t.index ∧ t.index ≤ 3)
def ctorB (n : Int) (c : Ct) : Bool := nameB c.name && (decide (c.args.length ≤ 3) && (decide (0 ≤ c.index ∧ c.index ≤ 3) && c.args.all (argB n (-1))))
def dnameB (s : ByteArray) : Bool := decide (s.size = 1) && (upB ((s.data.toList.headD 0).toNat) && decide (¬ s.toList = [73]))
def dataB (n : Int) (d : Da) : Bool := dnameB d.name && (decide (1 ≤ d.ctors.length ∧ d.ctors.length ≤ 4) && d.ctors.all (ctorB n))

def btw (j i : Int) : Bool := decide (j ≤ i ∧ i ≤ 3)
theorem between_any (i j : Int) (w : World) :
    Calls Try.prog 77 #[.int .i64 i, .int .i64 j] w fun e w' => e = .returned (.bool (btw j i)) ∧ w = w' := by
  by_cases h1 : j ≤ i
  · by_cases h2 : i ≤ 3
    · go_enter Try.func77, Try.ntmps77
      go_wp2_with fail
      go_ret
      exact ⟨ret_bool (decide_eq_true (by omega)).symm, rfl⟩
    · go_enter Try.func77, Try.ntmps77
      go_wp2_with fail
      go_ret
      exact ⟨ret_bool (decide_eq_false (by omega)).symm, rfl⟩
  · go_enter Try.func77, Try.ntmps77
    go_wp2_with fail
    go_ret
    exact ⟨ret_bool (decide_eq_false (by omega)).symm, rfl⟩

theorem argB_int {n least : Int} {t : Ty} (h : t.data = -1) : argB n least t = decide (t.index = 0) := if_pos h
theorem argB_data {n least : Int} {t : Ty} (h : ¬ t.data = -1) : argB n least t = decide (0 ≤ t.data ∧ t.data < n ∧ least ≤ t.index ∧ t.index ≤ 3) := if_neg h

theorem within_any (d i n least : Int) (w : World) :
    Calls Try.prog 46 #[.agg #[.int .i64 d, .int .i64 i], .int .i64 n, .int .i64 least] w fun e w' => e = .returned (.bool (argB n least ⟨d, i⟩)) ∧ Below w.heap.size w w' := by
  have hB : ∀ o : Obj, Below w.heap.size w (w.alloc o) := fun o => (Below.refl _ _).alloc (Nat.le_refl _) _
  have HB := Lib.hid hB
  clear hB
  by_cases h0 : d = -1
  · subst h0
    have H := Lib.hid (argB_int (n := n) (least := least) (t := ⟨-1, i⟩) rfl)
    by_cases h1 : i = 0
    · subst h1
      go_enter Try.func46, Try.ntmps46
      go_wp2_with fail
      go_ret
      exact ⟨ret_bool (by rw [H.out]; rfl), HB.out _⟩
    · have h1' : (i == 0) = false := beq_eq_false_iff_ne.2 h1
      go_enter Try.func46, Try.ntmps46
      go_wp2_with fail
      go_ret
      exact ⟨ret_bool (by rw [H.out]; simp [h1]), HB.out _⟩
  · have h0' : (d == -1) = false := beq_eq_false_iff_ne.2 h0
    have H := Lib.hid (argB_data (n := n) (least := least) (t := ⟨d, i⟩) h0)
    by_cases h1 : 0 ≤ d
    · by_cases h2 : d < n
      · go_enter Try.func46, Try.ntmps46
        go_wp2_with (go_at_call 77; refine (between_any _ _ _).mono ?_; rintro e w1 ⟨rfl, rfl⟩)
        go_ret
        exact ⟨ret_bool (by rw [H.out]; unfold btw; simp only [h1, h2, true_and]), HB.out _⟩
      · go_enter Try.func46, Try.ntmps46
        go_wp2_with fail
        go_ret
        exact ⟨ret_bool (by rw [H.out]; exact (decide_eq_false (by omega)).symm), HB.out _⟩
    · go_enter Try.func46, Try.ntmps46
      go_wp2_with fail
      go_ret
      exact ⟨ret_bool (by rw [H.out]; exact (decide_eq_false (by omega)).symm), HB.out _⟩

theorem arg_any (d i n : Int) (w : World) :
    Calls Try.prog 73 #[.int .i64 n, .agg #[.int .i64 d, .int .i64 i]] w fun e w' => e = .returned (.bool (argB n (-1) ⟨d, i⟩)) ∧ Below w.heap.size w w' := by
  have hB : ∀ o : Obj, Below w.heap.size w (w.alloc o) := fun o => (Below.refl _ _).alloc (Nat.le_refl _) _
  have HB := Lib.hid hB
  clear hB
  by_cases h0 : d = -1
  · subst h0
    have H := Lib.hid (argB_int (n := n) (least := -1) (t := ⟨-1, i⟩) rfl)
    by_cases h1 : i = 0
    · subst h1
      go_enter Try.func73, Try.ntmps73
      go_wp2_with fail
      go_ret
      exact ⟨ret_bool (by rw [H.out]; rfl), HB.out _⟩
    · have h1' : (i == 0) = false := beq_eq_false_iff_ne.2 h1
      go_enter Try.func73, Try.ntmps73
      go_wp2_with fail
      go_ret
      exact ⟨ret_bool (by rw [H.out]; simp [h1]), HB.out _⟩
  · have h0' : (d == -1) = false := beq_eq_false_iff_ne.2 h0
    have H := Lib.hid (argB_data (n := n) (least := -1) (t := ⟨d, i⟩) h0)
    by_cases h1 : 0 ≤ d
    · by_cases h2 : d < n
      · by_cases h3 : -1 ≤ i
        · by_cases h4 : i ≤ 3
          · go_enter Try.func73, Try.ntmps73
            go_wp2_with fail
            go_ret
            exact ⟨ret_bool (by rw [H.out]; exact (decide_eq_true (by omega)).symm), HB.out _⟩
          · go_enter Try.func73, Try.ntmps73
            go_wp2_with fail
            go_ret
            exact ⟨ret_bool (by rw [H.out]; exact (decide_eq_false (by omega)).symm), HB.out _⟩
        · go_enter Try.func73, Try.ntmps73
          go_wp2_with fail
          go_ret
          exact ⟨ret_bool (by rw [H.out]; exact (decide_eq_false (by omega)).symm), HB.out _⟩
      · go_enter Try.func73, Try.ntmps73
        go_wp2_with fail
        go_ret
        exact ⟨ret_bool (by rw [H.out]; exact (decide_eq_false (by omega)).symm), HB.out _⟩
    · go_enter Try.func73, Try.ntmps73
      go_wp2_with fail
      go_ret
      exact ⟨ret_bool (by rw [H.out]; exact (decide_eq_false (by omega)).symm), HB.out _⟩
end Go.Proofs.Ytholdmdkhbhokab
/-
  When constructors and data types are valid: the program's functions and the document's. No statement is proved here.
-/
namespace Go.Proofs.Ytholdmdkhbhokab
open Go.RowKit
set_option maxRecDepth 100000
set_option linter.unusedVariables false

def AllTo {α : Type} (f : α → Bool) (l : List α) (k : Nat) : Prop := ∀ j (h : j < l.length), j < k → f l[j] = true
theorem AllTo.zero {α : Type} (f : α → Bool) (l : List α) : AllTo f l 0 := fun j _ h => absurd h (by omega)
theorem AllTo.step {α : Type} {f : α → Bool} {l : List α} {k : Nat} (h : AllTo f l k) (hk : k < l.length) (e : f l[k] = true) : AllTo f l (k + 1) := by
  intro j hj hjk
  by_cases e' : j = k
  · subst e'; exact e
  · exact h j hj (by omega)
theorem AllTo.all {α : Type} {f : α → Bool} {l : List α} {k : Nat} (h : AllTo f l k) (hk : l.length ≤ k) : l.all f = true := by
  rw [List.all_eq_true]
  intro x hx
  obtain ⟨j, hj, rfl⟩ := List.getElem_of_mem hx
  exact h j hj (by omega)
theorem all_bad {α : Type} {f : α → Bool} {l : List α} {k : Nat} (hk : k < l.length) (e : f l[k] = false) : l.all f = false := by
  rw [List.all_eq_false]
  exact ⟨l[k], List.getElem_mem hk, by rw [e]; decide⟩

theorem dname_size {s : ByteArray} (h : ¬ s.size = 1) : dnameB s = false := by unfold dnameB; rw [decide_eq_false h]; rfl
theorem dname_one {s : ByteArray} (h : s.size = 1) (h0 : 0 < s.size) : dnameB s = (upB (s[0]'h0).toNat && decide (¬ s.toList = [73])) := by
  unfold dnameB; rw [decide_eq_true h, head_eq h0]; rfl

theorem l1Data_any (s : ByteArray) (w : World) (hs : s.size ≤ maxLen) :
    Calls Try.prog 39 #[.string s] w fun e w' => e = .returned (.bool (dnameB s)) ∧ w = w' := by
  unfold maxLen at hs
  by_cases h1 : s.size = 1
  · have h0 : 0 < s.size := by omega
    have H := Lib.hid (dname_one h1 h0)
    have q : ((s.size : Int) == 1) = true := beq_iff_eq.2 (by omega)
    clear h1
    by_cases hu : upB (s[0]'h0).toNat = true
    · by_cases hi : s.toList = [73]
      · have q2 : (s.toList != [73]) = false := by rw [hi]; rfl
        have HI := Lib.hid hi
        clear hi
        go_enter Try.func39, Try.ntmps39
        go_wp2_with (go_at_call 71; refine (big_any _ _).mono ?_; rintro e w' ⟨rfl, rfl⟩)
        go_ret
        exact ⟨ret_bool (by rw [H.out, hu]; simp [HI.out]), rfl⟩
      · have q2 : (s.toList != [73]) = true := by rw [bne, beq_eq_false_iff_ne.2 hi]; rfl
        have HI := Lib.hid hi
        clear hi
        go_enter Try.func39, Try.ntmps39
        go_wp2_with (go_at_call 71; refine (big_any _ _).mono ?_; rintro e w' ⟨rfl, rfl⟩)
        go_ret
        exact ⟨ret_bool (by rw [H.out, hu]; simp [HI.out]), rfl⟩
    · have hu' : upB (s[0]'h0).toNat = false := by simpa using hu
      clear hu
      go_enter Try.func39, Try.ntmps39
      go_wp2_with (go_at_call 71; refine (big_any _ _).mono ?_; rintro e w' ⟨rfl, rfl⟩)
      go_ret
      exact ⟨ret_bool (by rw [H.out, hu']; rfl), rfl⟩
  · have q : ((s.size : Int) == 1) = false := beq_eq_false_iff_ne.2 (by omega)
    have H := Lib.hid (dname_size h1)
    clear h1
    go_enter Try.func39, Try.ntmps39
    go_wp2_with fail
    go_ret
    exact ⟨ret_bool H.out.symm, rfl⟩

theorem ctor_name {n : Int} {c : Ct} (h : nameB c.name = false) : false = ctorB n c := by unfold ctorB; rw [h]; rfl
theorem ctor_args {n : Int} {c : Ct} (h : ¬ c.args.length ≤ 3) : false = ctorB n c := by unfold ctorB; rw [decide_eq_false h]; simp
theorem ctor_index {n : Int} {c : Ct} (h : ¬ (0 ≤ c.index ∧ c.index ≤ 3)) : false = ctorB n c := by unfold ctorB; rw [decide_eq_false h]; simp
theorem ctor_bad {n : Int} {c : Ct} (h : c.args.all (argB n (-1)) = false) : false = ctorB n c := by unfold ctorB; rw [h]; simp
theorem ctor_good {n : Int} {c : Ct} (h1 : nameB c.name = true) (h2 : c.args.length ≤ 3) (h3 : 0 ≤ c.index ∧ c.index ≤ 3) (h : c.args.all (argB n (-1)) = true) : true = ctorB n c := by
  unfold ctorB; rw [h, h1, decide_eq_true h2, decide_eq_true h3]; rfl

theorem below_one {w w' : World} {o : Obj} (h : Below (w.alloc o).heap.size (w.alloc o) w') : Below w.heap.size w w' :=
  ((Below.refl _ _).alloc (Nat.le_refl _) _).trans (h.mono (by simp))
theorem keep_one {w : World} (o : Obj) : ∀ p : Addr, p.block < w.heap.size → (w.alloc o).cell? p = w.cell? p := fun p hp => World.cell?_alloc_lt _ _ _ hp

set_option maxHeartbeats 800000 in
theorem l1Ctor_any (c : Ct) (A : Option Addr) (cap : Nat) (n : Int) (w : World) (hs : c.name.size ≤ maxLen) (hr : RTys w w.heap.size A c.args) :
    Calls Try.prog 40 #[.int .i64 n, .agg #[.string c.name, .slice A c.args.length cap, .int .i64 c.index]] w fun e w' => e = .returned (.bool (ctorB n c)) ∧ Below w.heap.size w w' := by
  have hn := hr.1
  unfold maxLen at hn
  have Hr := Lib.hid hr
  clear hr
  have HB : Hid (∀ o : Obj, Below w.heap.size w (w.alloc o)) := fun o => (Below.refl _ _).alloc (Nat.le_refl _) _
  by_cases h1 : nameB c.name = true
  · by_cases h2 : c.args.length ≤ 3
    · by_cases h3 : 0 ≤ c.index
      · by_cases h4 : c.index ≤ 3
        · go_enter Try.func40, Try.ntmps40
          go_wp2_with (go_at_call 72; refine (nameV_spec _ _ hs).mono ?_; rintro e w' ⟨rfl, rfl⟩)
          go_loopw [5] (fun i wr => ∃ k : Nat, k ≤ c.args.length ∧ i = .int .i64 k ∧ AllTo (argB n (-1)) c.args k ∧ wr.cell? ⟨w.heap.size, 1, none⟩ = some (.slice A c.args.length cap) ∧ w.heap.size < wr.heap.size ∧ Below w.heap.size w wr) (fun i _ => c.args.length - (intOf i).toNat)
          case atStart => exact ⟨0, by omega, rfl, AllTo.zero _ _, by simp [go_sem], by simp, HB.out _⟩
          case round =>
            obtain ⟨k, hk, rfl, hu, b1, hlw, hb⟩ := hrel
            by_cases hlt : k < c.args.length
            · obtain ⟨b, off, rfl, hbB, c0, c1⟩ := (Hr.out.below hb (Nat.le_refl _)).2 k hlt
              by_cases he : argB n (-1) c.args[k] = true
              · go_wp2_with (go_at_call 73; refine (arg_any _ _ _ _).mono ?_; rintro e w1 ⟨rfl, hb1⟩; have hb2 := hb.trans (hb1.mono hb.size); have b2 := (hb1.cell (p := ⟨w.heap.size, 1, none⟩) hlw).trans b1; have hlw2 := Nat.lt_of_lt_of_le hlw hb1.size)
                go_roundw
                case rel => exact ⟨k + 1, by omega, by go_num, hu.step hlt he, b2, hlw2, hb2⟩
                case measure => simp [intOf]; omega
              · have he' : argB n (-1) c.args[k] = false := by simpa using he
                have HE := Lib.hid (ctor_bad (n := n) (all_bad hlt he'))
                clear he
                go_wp2_with (go_at_call 73; refine (arg_any _ _ _ _).mono ?_; rintro e w1 ⟨rfl, hb1⟩; have hb2 := hb.trans (hb1.mono hb.size))
                go_ret
                exact ⟨ret_bool HE.out, hb2⟩
            · go_wp2_with fail
              go_ret
              exact ⟨ret_bool (ctor_good h1 h2 ⟨h3, h4⟩ (hu.all (by omega))), hb⟩
        · have H := Lib.hid (ctor_index (n := n) (c := c) (by omega))
          go_enter Try.func40, Try.ntmps40
          go_wp2_with (go_at_call 72; refine (nameV_spec _ _ hs).mono ?_; rintro e w' ⟨rfl, rfl⟩)
          go_ret
          exact ⟨ret_bool H.out, HB.out _⟩
      · have H := Lib.hid (ctor_index (n := n) (c := c) (by omega))
        go_enter Try.func40, Try.ntmps40
        go_wp2_with (go_at_call 72; refine (nameV_spec _ _ hs).mono ?_; rintro e w' ⟨rfl, rfl⟩)
        go_ret
        exact ⟨ret_bool H.out, HB.out _⟩
    · have H := Lib.hid (ctor_args (n := n) h2)
      have h2' : (3 : Int) < c.args.length := by omega
      go_enter Try.func40, Try.ntmps40
      go_wp2_with (go_at_call 72; refine (nameV_spec _ _ hs).mono ?_; rintro e w' ⟨rfl, rfl⟩)
      go_ret
      exact ⟨ret_bool H.out, HB.out _⟩
  · have h1' : nameB c.name = false := by simpa using h1
    clear h1
    go_enter Try.func40, Try.ntmps40
    go_wp2_with (go_at_call 72; refine (nameV_spec _ _ hs).mono ?_; rintro e w' ⟨rfl, rfl⟩)
    go_ret
    exact ⟨ret_bool (ctor_name h1'), HB.out _⟩

theorem btw_t {i : Int} (h1 : 0 ≤ i) (h2 : i ≤ 3) : btw 0 i = true := decide_eq_true ⟨h1, h2⟩
theorem btw_f {i : Int} (h : ¬ (0 ≤ i ∧ i ≤ 3)) : btw 0 i = false := decide_eq_false h

set_option maxHeartbeats 800000 in
theorem ctorValid_any (c : Ct) (A : Option Addr) (cap : Nat) (n : Int) (w : World) (hs : c.name.size ≤ maxLen) (hr : RTys w w.heap.size A c.args) :
    Calls Try.prog 70 #[.agg #[.string c.name, .slice A c.args.length cap, .int .i64 c.index], .int .i64 n] w fun e w' => e = .returned (.bool (ctorB n c)) ∧ Below w.heap.size w w' := by
  have hn := hr.1
  unfold maxLen at hn
  have Hr := Lib.hid hr
  clear hr
  have HB : Hid (∀ o : Obj, Below w.heap.size w (w.alloc o)) := fun o => (Below.refl _ _).alloc (Nat.le_refl _) _
  by_cases h1 : nameB c.name = true
  · by_cases h2 : c.args.length ≤ 3
    · by_cases h3 : 0 ≤ c.index ∧ c.index ≤ 3
      · have hb0 := btw_t h3.1 h3.2
        have H3 := Lib.hid h3
        clear h3
        go_enter Try.func70, Try.ntmps70
        go_wp2_with (first | (go_at_call 95; refine (nameV_impl _ _ hs).mono ?_; rintro e w' ⟨rfl, rfl⟩) | (go_at_call 77; refine (between_any _ _ _).mono ?_; rintro e w' ⟨rfl, rfl⟩))
        go_loopw [26] (fun i wr => ∃ k : Nat, k ≤ c.args.length ∧ i = .int .i64 k ∧ AllTo (argB n (-1)) c.args k ∧ Below w.heap.size w wr) (fun i _ => c.args.length - (intOf i).toNat)
        case atStart => exact ⟨0, by omega, rfl, AllTo.zero _ _, HB.out _⟩
        case round =>
          obtain ⟨k, hk, rfl, hu, hb⟩ := hrel
          by_cases hlt : k < c.args.length
          · obtain ⟨b, off, rfl, hbB, c0, c1⟩ := (Hr.out.below hb (Nat.le_refl _)).2 k hlt
            by_cases he : argB n (-1) c.args[k] = true
            · go_wp2_with (go_at_call 46; refine (within_any _ _ _ _ _).mono ?_; rintro e w1 ⟨rfl, hb1⟩; have hb2 := hb.trans ((below_one hb1).mono hb.size))
              go_roundw
              case rel => exact ⟨k + 1, by omega, by go_num, hu.step hlt he, hb2⟩
              case measure => simp [intOf]; omega
            · have he' : argB n (-1) c.args[k] = false := by simpa using he
              have HE := Lib.hid (ctor_bad (n := n) (all_bad hlt he'))
              clear he
              go_wp2_with (go_at_call 46; refine (within_any _ _ _ _ _).mono ?_; rintro e w1 ⟨rfl, hb1⟩; have hb2 := hb.trans ((below_one hb1).mono hb.size))
              go_ret
              exact ⟨ret_bool HE.out, hb2⟩
          · go_wp2_with fail
            go_ret
            exact ⟨ret_bool (ctor_good h1 h2 H3.out (hu.all (by omega))), hb⟩
      · have H := Lib.hid (ctor_index (n := n) h3)
        have hb0 := btw_f h3
        clear h3
        go_enter Try.func70, Try.ntmps70
        go_wp2_with (first | (go_at_call 95; refine (nameV_impl _ _ hs).mono ?_; rintro e w' ⟨rfl, rfl⟩) | (go_at_call 77; refine (between_any _ _ _).mono ?_; rintro e w' ⟨rfl, rfl⟩))
        go_ret
        exact ⟨ret_bool H.out, HB.out _⟩
    · have H := Lib.hid (ctor_args (n := n) h2)
      have h2' : (3 : Int) < c.args.length := by omega
      go_enter Try.func70, Try.ntmps70
      go_wp2_with (go_at_call 95; refine (nameV_impl _ _ hs).mono ?_; rintro e w' ⟨rfl, rfl⟩)
      go_ret
      exact ⟨ret_bool H.out, HB.out _⟩
  · have h1' : nameB c.name = false := by simpa using h1
    clear h1
    go_enter Try.func70, Try.ntmps70
    go_wp2_with (go_at_call 95; refine (nameV_impl _ _ hs).mono ?_; rintro e w' ⟨rfl, rfl⟩)
    go_ret
    exact ⟨ret_bool (ctor_name h1'), HB.out _⟩

theorem data_name {n : Int} {d : Da} (h : dnameB d.name = false) : false = dataB n d := by unfold dataB; rw [h]; rfl
theorem data_len {n : Int} {d : Da} (h : ¬ (1 ≤ d.ctors.length ∧ d.ctors.length ≤ 4)) : false = dataB n d := by unfold dataB; rw [decide_eq_false h]; simp
theorem data_bad {n : Int} {d : Da} (h : d.ctors.all (ctorB n) = false) : false = dataB n d := by unfold dataB; rw [h]; simp
theorem data_good {n : Int} {d : Da} (h1 : dnameB d.name = true) (h2 : 1 ≤ d.ctors.length ∧ d.ctors.length ≤ 4) (h : d.ctors.all (ctorB n) = true) : true = dataB n d := by
  unfold dataB; rw [h, h1, decide_eq_true h2]; rfl
theorem dname_f_i {s : ByteArray} (h : s.toList = [73]) : dnameB s = false := by unfold dnameB; rw [show decide (¬ s.toList = [73]) = false from decide_eq_false (fun hne => hne h)]; simp
theorem dname_f_u {s : ByteArray} (h1 : s.size = 1) (h0 : 0 < s.size) (h : upB (s[0]'h0).toNat = false) : dnameB s = false := by rw [dname_one h1 h0, h]; rfl
theorem dname_t {s : ByteArray} (h1 : s.size = 1) (h0 : 0 < s.size) (h : upB (s[0]'h0).toNat = true) (h2 : ¬ s.toList = [73]) : dnameB s = true := by rw [dname_one h1 h0, h, decide_eq_true h2]; rfl

set_option maxHeartbeats 1200000 in
theorem dataValid_any (d : Da) (A : Option Addr) (cap : Nat) (n : Int) (w : World) (hs : d.name.size ≤ maxLen) (hr : RCts w w.heap.size A d.ctors) :
    Calls Try.prog 37 #[.agg #[.string d.name, .slice A d.ctors.length cap], .int .i64 n] w fun e w' => e = .returned (.bool (dataB n d)) ∧ Below w.heap.size w w' := by
  have hn := hr.1
  unfold maxLen at hn
  have hs' := hs
  unfold maxLen at hs'
  have Hr := Lib.hid hr
  clear hr
  have HB : Hid (∀ o : Obj, Below w.heap.size w (w.alloc o)) := fun o => (Below.refl _ _).alloc (Nat.le_refl _) _
  by_cases h1 : d.name.size = 1
  · have h0 : 0 < d.name.size := by omega
    have q : ((d.name.size : Int) != 1) = false := by rw [bne, beq_iff_eq.2 (by omega)]; rfl
    have H1 := Lib.hid h1
    clear h1
    by_cases hu : upB (d.name[0]'h0).toNat = true
    · by_cases hi : d.name.toList = [73]
      · have q2 : (d.name.toList == [73]) = true := by rw [hi]; rfl
        have HI := Lib.hid (data_name (n := n) (dname_f_i hi))
        clear hi
        go_enter Try.func37, Try.ntmps37
        go_wp2_with (go_at_call 69; refine (isUpper_any _ _).mono ?_; rintro e w' ⟨rfl, rfl⟩)
        go_ret
        exact ⟨ret_bool HI.out, HB.out _⟩
      · have q2 : (d.name.toList == [73]) = false := beq_eq_false_iff_ne.2 hi
        have HD := Lib.hid (dname_t H1.out h0 hu hi)
        clear hi
        by_cases h2 : 1 ≤ d.ctors.length
        · by_cases h3 : d.ctors.length ≤ 4
          · go_enter Try.func37, Try.ntmps37
            go_wp2_with (go_at_call 69; refine (isUpper_any _ _).mono ?_; rintro e w' ⟨rfl, rfl⟩)
            go_loopw [36] (fun i wr => ∃ k : Nat, k ≤ d.ctors.length ∧ i = .int .i64 k ∧ AllTo (ctorB n) d.ctors k ∧ Below w.heap.size w wr) (fun i _ => d.ctors.length - (intOf i).toNat)
            case atStart => exact ⟨0, by omega, rfl, AllTo.zero _ _, HB.out _⟩
            case round =>
              obtain ⟨k, hk, rfl, hv, hb⟩ := hrel
              by_cases hlt : k < d.ctors.length
              · obtain ⟨b, off, rfl, hbB, A', cp, c0, c1, c2, hsz, hm⟩ := (Hr.out.below hb (Nat.le_refl _)).2 k hlt
                have Hm := Lib.hid hm
                clear hm
                have hbs := hb.size
                by_cases he : ctorB n d.ctors[k] = true
                · go_wp2_with (go_at_call 70; refine (ctorValid_any d.ctors[k] _ _ _ _ hsz (by exact Hm.out.keep (fun p hp => keep_one _ p (by omega)) (by simp; omega))).mono ?_; rintro e w1 ⟨rfl, hb1⟩; have hb2 := hb.trans ((below_one hb1).mono hb.size))
                  go_roundw
                  case rel => exact ⟨k + 1, by omega, by go_num, hv.step hlt he, hb2⟩
                  case measure => simp [intOf]; omega
                · have he' : ctorB n d.ctors[k] = false := by simpa using he
                  have HE := Lib.hid (data_bad (n := n) (all_bad hlt he'))
                  clear he
                  go_wp2_with (go_at_call 70; refine (ctorValid_any d.ctors[k] _ _ _ _ hsz (by exact Hm.out.keep (fun p hp => keep_one _ p (by omega)) (by simp; omega))).mono ?_; rintro e w1 ⟨rfl, hb1⟩; have hb2 := hb.trans ((below_one hb1).mono hb.size))
                  go_ret
                  exact ⟨ret_bool HE.out, hb2⟩
              · go_wp2_with fail
                go_ret
                exact ⟨ret_bool (data_good HD.out ⟨h2, h3⟩ (hv.all (by omega))), hb⟩
          · have H := Lib.hid (data_len (n := n) (d := d) (by omega))
            have h3' : (4 : Int) < d.ctors.length := by omega
            go_enter Try.func37, Try.ntmps37
            go_wp2_with (go_at_call 69; refine (isUpper_any _ _).mono ?_; rintro e w' ⟨rfl, rfl⟩)
            go_ret
            exact ⟨ret_bool H.out, HB.out _⟩
        · have H := Lib.hid (data_len (n := n) (d := d) (by omega))
          have h2' : (d.ctors.length : Int) < 1 := by omega
          go_enter Try.func37, Try.ntmps37
          go_wp2_with (go_at_call 69; refine (isUpper_any _ _).mono ?_; rintro e w' ⟨rfl, rfl⟩)
          go_ret
          exact ⟨ret_bool H.out, HB.out _⟩
    · have hu' : upB (d.name[0]'h0).toNat = false := by simpa using hu
      have H := Lib.hid (data_name (n := n) (dname_f_u H1.out h0 hu'))
      clear hu
      go_enter Try.func37, Try.ntmps37
      go_wp2_with (go_at_call 69; refine (isUpper_any _ _).mono ?_; rintro e w' ⟨rfl, rfl⟩)
      go_ret
      exact ⟨ret_bool H.out, HB.out _⟩
  · have q : ((d.name.size : Int) != 1) = true := by rw [bne, beq_eq_false_iff_ne.2 (by omega)]; rfl
    have H := Lib.hid (data_name (n := n) (dname_size h1))
    clear h1
    go_enter Try.func37, Try.ntmps37
    go_wp2_with fail
    go_ret
    exact ⟨ret_bool H.out, HB.out _⟩
end Go.Proofs.Ytholdmdkhbhokab
/-
  A map from strings to bools that the call itself has made, as a set of strings. No statement is proved here.
-/
namespace Go.Proofs.Ytholdmdkhbhokab
open Go.RowKit Go.Maps
set_option maxRecDepth 100000
set_option linter.unusedVariables false

/-- Does it hold? -/
noncomputable def dec (p : Prop) : Bool := @decide p (Classical.propDecidable _)
theorem dec_t {p : Prop} (h : p) : dec p = true := by unfold dec; simp [h]
theorem dec_f {p : Prop} (h : ¬ p) : dec p = false := by unfold dec; simp [h]
theorem dec_congr {p q : Prop} (h : p ↔ q) : dec p = dec q := by
  by_cases hp : p
  · rw [dec_t hp, dec_t (h.1 hp)]
  · rw [dec_f hp, dec_f (fun hq => hp (h.2 hq))]

def MapSet (w : World) (b n : Nat) (S : List UInt8 → Prop) : Prop :=
  ∃ D : DataW Unit, w.ownsMap Try.prog 9 (plainElem Try.prog 4) b n D ∧ IsMap D ∧ ∀ s : List UInt8, D.atKey (.string s) (.lit (.bool false)) = .lit (.bool (dec (S s)))

theorem zero4 (w : World) : (zeroValue 4).run Try.prog w = .ok (.bool false) w := by kernel_rfl
theorem keyStr {s : ByteArray} (h : s.size ≤ maxLen) : keyOf Try.prog 9 (.string s) = some (.string s.data.toList) := Go.WideMaps.keyOf_string_mk Try.underlying9 h

theorem MapSet.made (w : World) : MapSet (w.alloc (.map #[] 0)) w.heap.size 0 (fun _ => False) :=
  ⟨.map [], World.ownsMap_made _ _ _ _, ⟨[], rfl⟩, fun s => by rw [dec_f (fun h => h)]; rfl⟩
theorem MapSet.lt {w : World} {b n : Nat} {S : List UInt8 → Prop} (h : MapSet w b n S) : b < w.heap.size := by
  obtain ⟨D, ho, _⟩ := h; exact ho.lt
theorem MapSet.keep {w w' : World} {b n n' : Nat} {S S' : List UInt8 → Prop} (h : MapSet w b n S) (hb : w'.heap[b]? = w.heap[b]?) (hn : n ≤ n') (hS : ∀ s, S s ↔ S' s) : MapSet w' b n' S' := by
  obtain ⟨D, ⟨es, clock, h1, h2, h3, h4⟩, hm, hat⟩ := h
  exact ⟨D, ⟨es, clock, hb.trans h1, h2, by omega, h4⟩, hm, fun s => by rw [hat s, dec_congr (hS s)]⟩
theorem MapSet.look {w : World} {b n : Nat} {S : List UInt8 → Prop} (h : MapSet w b n S) {s : ByteArray} (hs : s.size ≤ maxLen) : (Instr.lookup 96 (.map (some b)) (.string s) false).run Try.prog w = .ok (.bool (dec (S s.data.toList))) w := by
  obtain ⟨D, ho, hm, hat⟩ := h
  obtain ⟨v, ps, hrun, hv⟩ := ho.lookup (string_keyed Try.underlying9) Try.underlying96 (zero4 w) (zd := .lit (.bool false)) (zp := []) (plainElem_bool Try.underlying4 false) (keyStr hs)
  rw [hat] at hv
  have : v = .bool (dec (S s.data.toList)) := by
    unfold plainElem at hv
    rw [Try.underlying4] at hv
    cases v <;> simp at hv
    rw [hv.1]
  rw [hrun, this]
theorem MapSet.put {w : World} {b n : Nat} {D : DataW Unit} {S : List UInt8 → Prop} {s : List UInt8} (ho : w.ownsMap Try.prog 9 (plainElem Try.prog 4) b n (D.put (.string s) (.lit (.bool true)))) (hm : IsMap D) (hat : ∀ s : List UInt8, D.atKey (.string s) (.lit (.bool false)) = .lit (.bool (dec (S s)))) :
    MapSet w b n (fun t => t = s ∨ S t) := by
  refine ⟨_, ho, ?_, fun t => ?_⟩
  · obtain ⟨es, rfl⟩ := hm
    exact ⟨_, rfl⟩
  · by_cases e : t = s
    · subst e
      rw [atKey_put_same (k := .string t) hm True.intro, dec_t (Or.inl rfl)]
    · rw [atKey_put_other (by intro e'; injection e' with e''; exact e e''), hat, dec_congr (show S t ↔ (t = s ∨ S t) from ⟨Or.inr, fun h => h.resolve_left e⟩)]
end Go.Proofs.Ytholdmdkhbhokab
/-
  When the names of data types and constructors differ: the program's function. No statement is proved here.
-/
namespace Go.Proofs.Ytholdmdkhbhokab
open Go.RowKit
set_option maxRecDepth 100000
set_option linter.unusedVariables false

abbrev bs (s : ByteArray) : List UInt8 := s.data.toList
/-- The names of the data types before place k; the names of the constructors before place j of data type k. -/
def SD (l : List Da) (k : Nat) (t : List UInt8) : Prop := ∃ i, ∃ h : i < l.length, i < k ∧ bs l[i].name = t
def SC (l : List Da) (k j : Nat) (t : List UInt8) : Prop := ∃ i, ∃ h : i < l.length, ∃ m, ∃ hm : m < l[i].ctors.length, (i < k ∨ (i = k ∧ m < j)) ∧ bs l[i].ctors[m].name = t
theorem SD.zero (l : List Da) (t : List UInt8) : False ↔ SD l 0 t := ⟨False.elim, fun ⟨i, _, h, _⟩ => absurd h (by omega)⟩
theorem SC.zero (l : List Da) (t : List UInt8) : False ↔ SC l 0 0 t := ⟨False.elim, fun ⟨i, _, m, _, h, _⟩ => by omega⟩
theorem SD.succ (l : List Da) (k : Nat) (hk : k < l.length) (t : List UInt8) : (t = bs l[k].name ∨ SD l k t) ↔ SD l (k + 1) t := by
  constructor
  · rintro (rfl | ⟨i, h, h1, h2⟩)
    · exact ⟨k, hk, by omega, rfl⟩
    · exact ⟨i, h, by omega, h2⟩
  · rintro ⟨i, h, h1, h2⟩
    by_cases e : i = k
    · subst e; exact .inl h2.symm
    · exact .inr ⟨i, h, by omega, h2⟩
theorem SC.succ (l : List Da) (k j : Nat) (hk : k < l.length) (hj : j < l[k].ctors.length) (t : List UInt8) : (t = bs l[k].ctors[j].name ∨ SC l k j t) ↔ SC l k (j + 1) t := by
  constructor
  · rintro (rfl | ⟨i, h, m, hm, h1, h2⟩)
    · exact ⟨k, hk, j, hj, .inr ⟨rfl, by omega⟩, rfl⟩
    · exact ⟨i, h, m, hm, by omega, h2⟩
  · rintro ⟨i, h, m, hm, h1, h2⟩
    by_cases e : i = k ∧ m = j
    · obtain ⟨rfl, rfl⟩ := e; exact .inl h2.symm
    · exact .inr ⟨i, h, m, hm, by omega, h2⟩
theorem SC.next (l : List Da) (k : Nat) (hk : k < l.length) (t : List UInt8) : SC l k l[k].ctors.length t ↔ SC l (k + 1) 0 t := by
  constructor
  · rintro ⟨i, h, m, hm, h1, h2⟩
    exact ⟨i, h, m, hm, by omega, h2⟩
  · rintro ⟨i, h, m, hm, h1, h2⟩
    refine ⟨i, h, m, hm, ?_, h2⟩
    by_cases e : i = k
    · subst e; exact .inr ⟨rfl, hm⟩
    · omega
/-- The names from data type d on that are new. -/
def NewC (l : List Da) (d : Nat) (hd : d < l.length) (k : Nat) : Prop := ∀ j (h : j < l[d].ctors.length), j < k → ¬ SC l d j (bs l[d].ctors[j].name)
def NewD (l : List Da) (k : Nat) : Prop := ∀ d (h : d < l.length), d < k → ¬ SD l d (bs l[d].name) ∧ NewC l d h l[d].ctors.length
def Differ (l : List Da) : Prop := NewD l l.length
theorem NewC.zero (l : List Da) (d : Nat) (hd : d < l.length) : NewC l d hd 0 := fun j _ h => absurd h (by omega)
theorem NewC.step {l : List Da} {d : Nat} {hd : d < l.length} {k : Nat} (h : NewC l d hd k) (hk : k < l[d].ctors.length) (e : ¬ SC l d k (bs l[d].ctors[k].name)) : NewC l d hd (k + 1) := by
  intro j hj hjk
  by_cases e' : j = k
  · subst e'; exact e
  · exact h j hj (by omega)
theorem NewD.zero (l : List Da) : NewD l 0 := fun j _ h => absurd h (by omega)
theorem NewD.step {l : List Da} {k : Nat} (h : NewD l k) (hk : k < l.length) (e : ¬ SD l k (bs l[k].name)) (e2 : NewC l k hk l[k].ctors.length) : NewD l (k + 1) := by
  intro d hd hdk
  by_cases e' : d = k
  · subst e'; exact ⟨e, e2⟩
  · exact h d hd (by omega)
theorem not_differ_d {l : List Da} {k : Nat} (hk : k < l.length) (e : SD l k (bs l[k].name)) : ¬ Differ l := fun h => (h k hk hk).1 e
theorem not_differ_c {l : List Da} {k j : Nat} (hk : k < l.length) (hj : j < l[k].ctors.length) (e : SC l k j (bs l[k].ctors[j].name)) : ¬ Differ l := fun h => (h k hk hk).2 j hj hj e

theorem MapSet.at_ {w w' : World} {b n : Nat} {S : List UInt8 → Prop} (h : MapSet w b n S) (hb : Below w.heap.size w w') : MapSet w' b n S := h.keep (hb.block b h.lt) (Nat.le_refl _) (fun _ => Iff.rfl)

set_option maxHeartbeats 1600000 in
theorem namesDiffer_any (A : Option Addr) (l : List Da) (cap : Nat) (w : World) (hr : RDas w w.heap.size A l) (h4 : l.length ≤ 4) (h44 : ∀ d (h : d < l.length), l[d].ctors.length ≤ 4) :
    Calls Try.prog 38 #[.slice A l.length cap] w fun e w' => e = .returned (.bool (dec (Differ l))) ∧ Below w.heap.size w w' := by
  have Hr := Lib.hid hr
  have H44 := Lib.hid h44
  clear hr h44
  have hmm := @run_makeMap Try.prog
  go_enter Try.func38, Try.ntmps38
  go_wp2_with fail
  go_loopw [13] (fun i wr => ∃ k : Nat, k ≤ l.length ∧ i = .int .i64 k ∧ NewD l k ∧ MapSet wr w.heap.size k (SD l k) ∧ MapSet wr (w.heap.size + 1) (4 * k) (SC l k 0) ∧ Below w.heap.size w wr) (fun i _ => l.length - (intOf i).toNat)
  case atStart =>
    have m1 : MapSet ((w.alloc (.map #[] 0)).alloc (.map #[] 0)) w.heap.size 0 (SD l 0) := (MapSet.made w).keep (Below.heap_alloc _ _ _ (by simp)) (Nat.le_refl _) (SD.zero l)
    have m2 : MapSet ((w.alloc (.map #[] 0)).alloc (.map #[] 0)) (w.heap.size + 1) 0 (SC l 0 0) := by
      have := (MapSet.made (w.alloc (.map #[] 0))).keep (w' := (w.alloc (.map #[] 0)).alloc (.map #[] 0)) (S' := SC l 0 0) rfl (Nat.le_refl _) (SC.zero l)
      rwa [World.size_alloc] at this
    exact ⟨0, by omega, rfl, NewD.zero l, m1, m2, ((Below.refl _ _).alloc (Nat.le_refl _) _).alloc (by simp) _⟩
  case round =>
    obtain ⟨k, hk, rfl, hnew, hs1, hs2, hb⟩ := hrel
    clear hmm
    by_cases hlt : k < l.length
    · obtain ⟨b, off, rfl, hbB, A', cp, c0, c1, hsz, hm⟩ := (Hr.out.below hb (Nat.le_refl _)).2 k hlt
      have hk4 := H44.out k hlt
      have Hm := Lib.hid (hm.keep (w' := w) (fun p hp => (hb.cell hp).symm) (Nat.le_refl _))
      clear hm
      have hbs := hb.size
      have hl0 := hs1.lt
      have hl1 := hs2.lt
      have HS1 := Lib.hid hs1
      have HS2 := Lib.hid hs2
      clear hs1 hs2
      have hlook : ∀ o : Obj, (Instr.lookup 96 (.map (some w.heap.size)) (.string l[k].name) false).run Try.prog (wr.alloc o) = .ok (.bool (dec (SD l k (bs l[k].name)))) (wr.alloc o) := fun o => (HS1.out.keep (w' := wr.alloc o) (Below.heap_alloc wr o _ HS1.out.lt) (Nat.le_refl _) (fun _ => Iff.rfl)).look hsz
      by_cases hin : SD l k (bs l[k].name)
      · have hd := dec_t hin
        have HI := Lib.hid hin
        clear hin
        go_wp2_with fail
        go_ret
        exact ⟨ret_bool (dec_f (not_differ_d hlt HI.out)).symm, hb.alloc (by omega) _⟩
      · have hd := dec_f hin
        have HI := Lib.hid hin
        clear hin
        obtain ⟨D, ho, hmD, hat⟩ := HS1.out
        have HA := Lib.hid hat
        have HO := Lib.hid ho
        have HM := Lib.hid hmD
        clear hat ho hmD
        have hkm : k < maxLen := by unfold maxLen; omega
        go_wp2_with (at_mapUpdate; refine wpList_mapUpdate_own _ rfl _ _ _ 96 rfl 9 4 (Go.Maps.string_keyed Try.underlying9) Try.underlying96 (plainElem Try.prog 4) w.heap.size k D rfl (HO.out.alloc _) hkm _ _ (.string (bs l[k].name)) rfl rfl (keyStr hsz) (.lit (.bool true)) [] (plainElem_bool Try.underlying4 true) ?_; intro w1 ho1 hg1; have e1 : w1.cell? ⟨wr.heap.size, 1, none⟩ = some (.slice A' l[k].ctors.length cp) := (World.cell?_of_block (a := ⟨wr.heap.size, 1, none⟩) (hg1.block wr.heap.size (by simp) (fun e => by injection e with e; omega))).trans (by simp [go_sem]))
        have hb1 : Below w.heap.size w w1 := (hb.alloc (by omega) _).grown hg1 (by simp; omega) (fun g e => by injection e with e; omega)
        have s1 := (MapSet.put ho1 HM.out HA.out).keep (w' := w1) rfl (Nat.le_refl _) (SD.succ l k hlt)
        have s2 : MapSet w1 (w.heap.size + 1) (4 * k) (SC l k 0) := HS2.out.keep (by have hl2 := HS2.out.lt; exact (hg1.block (w.heap.size + 1) (by simp; omega) (fun e => by injection e with e; omega)).trans (Below.heap_alloc _ _ _ hl2)) (Nat.le_refl _) (fun _ => Iff.rfl)
        have HS1' := Lib.hid s1
        have HS2' := Lib.hid s2
        have HN := Lib.hid hnew
        clear s1 s2 ho1 hlook hd hnew HS1 HS2 HA HO HM hg1 c0 c1
        go_loopw [27] (fun i wi => ∃ j : Nat, j ≤ l[k].ctors.length ∧ i = .int .i64 j ∧ NewC l k hlt j ∧ MapSet wi w.heap.size (k + 1) (SD l (k + 1)) ∧ MapSet wi (w.heap.size + 1) (4 * k + j) (SC l k j) ∧ Below w.heap.size w wi) (fun i _ => l[k].ctors.length - (intOf i).toNat)
        case atStart => exact ⟨0, by omega, rfl, NewC.zero l k hlt, HS1'.out, HS2'.out, hb1⟩
        case round =>
          obtain ⟨j, hj, rfl, hnc, hs1, hs2, hbi⟩ := hrel
          clear hb hb1 hbs HS1' HS2'
          by_cases hjt : j < l[k].ctors.length
          · obtain ⟨g, o, rfl, hgB, D1, ep, f0, f1, f2, hsz2, _⟩ := (Hm.out.below hbi (Nat.le_refl _)).2 j hjt
            have hbs := hbi.size
            have HS1 := Lib.hid hs1
            have HS2 := Lib.hid hs2
            clear hs1 hs2
            have hlook : ∀ o : Obj, (Instr.lookup 96 (.map (some (w.heap.size + 1))) (.string l[k].ctors[j].name) false).run Try.prog (wr.alloc o) = .ok (.bool (dec (SC l k j (bs l[k].ctors[j].name)))) (wr.alloc o) := fun o => (HS2.out.keep (w' := wr.alloc o) (Below.heap_alloc wr o _ HS2.out.lt) (Nat.le_refl _) (fun _ => Iff.rfl)).look hsz2
            by_cases hin : SC l k j (bs l[k].ctors[j].name)
            · have hd := dec_t hin
              have HI2 := Lib.hid hin
              clear hin
              go_wp2_with fail
              go_ret
              exact ⟨ret_bool (dec_f (not_differ_c hlt hjt HI2.out)).symm, hbi.alloc (by omega) _⟩
            · have hd := dec_f hin
              have HI2 := Lib.hid hin
              clear hin
              obtain ⟨D, ho, hmD, hat⟩ := HS2.out
              have HA := Lib.hid hat
              have HO := Lib.hid ho
              have HM := Lib.hid hmD
              clear hat ho hmD
              have hkm : 4 * k + j < maxLen := by unfold maxLen; omega
              go_wp2_with (at_mapUpdate; refine wpList_mapUpdate_own _ rfl _ _ _ 96 rfl 9 4 (Go.Maps.string_keyed Try.underlying9) Try.underlying96 (plainElem Try.prog 4) (w.heap.size + 1) (4 * k + j) D rfl (HO.out.alloc _) hkm _ _ (.string (bs l[k].ctors[j].name)) rfl rfl (keyStr hsz2) (.lit (.bool true)) [] (plainElem_bool Try.underlying4 true) ?_; intro w1 ho1 hg1)
              have hb1 : Below w.heap.size w w1 := (hbi.alloc (by omega) _).grown hg1 (by simp; omega) (fun g e => by injection e with e; omega)
              have s2 := (MapSet.put ho1 HM.out HA.out).keep (w' := w1) (n' := 4 * k + (j + 1)) rfl (by omega) (SC.succ l k j hlt hjt)
              have s1 : MapSet w1 w.heap.size (k + 1) (SD l (k + 1)) := HS1.out.keep (by have hl2 := HS1.out.lt; exact (hg1.block w.heap.size (by simp; omega) (fun e => by injection e with e; omega)).trans (Below.heap_alloc _ _ _ hl2)) (Nat.le_refl _) (fun _ => Iff.rfl)
              clear ho1 hlook hd HS1 HS2 HA HO HM hg1
              go_roundw
              case rel => exact ⟨j + 1, by omega, by go_num, hnc.step hjt HI2.out, s1, s2, hb1⟩
              case measure => simp [intOf]; omega
          · have hje : j = l[k].ctors.length := by omega
            have s2 : MapSet wr (w.heap.size + 1) (4 * (k + 1)) (SC l (k + 1) 0) := hs2.keep rfl (by omega) (fun t => by rw [hje]; exact SC.next l k hlt t)
            have HJ : Hid (NewC l k hlt l[k].ctors.length) := by unfold Hid; rw [← hje]; exact hnc
            clear hje hs2
            go_wp2_with fail
            go_roundw
            case rel => exact ⟨k + 1, by omega, by go_num, HN.out.step hlt HI.out HJ.out, hs1, s2, hbi⟩
            case measure => simp [intOf]; omega
    · go_wp2_with fail
      go_ret
      exact ⟨ret_bool (dec_t (fun d h _ => hnew d h (by omega))).symm, hb⟩
end Go.Proofs.Ytholdmdkhbhokab
/-
  When a name stands twice: the document's function. No statement is proved here.
-/
namespace Go.Proofs.Ytholdmdkhbhokab
open Go.RowKit
set_option maxRecDepth 100000
set_option linter.unusedVariables false

theorem str_eq_t {a b : ByteArray} (h : a = b) : (a.toList == b.toList) = true := by rw [h]; simp
theorem toList_inj {a b : ByteArray} (h : a.toList = b.toList) : a = b := Go.WideShapes.bytes_inj (by rw [← ByteArray.toList_eq, ← ByteArray.toList_eq]; exact h)
theorem str_eq_f {a b : ByteArray} (h : ¬ a = b) : (a.toList == b.toList) = false := beq_eq_false_iff_ne.2 (fun e => h (toList_inj e))
theorem below_drawn {B : Nat} {w wr : World} (h : Below B w wr) (n : Nat) : Below B w (wr.drewN n) := ⟨h.os, h.tape, h.output, h.size, h.block⟩

def Tw (l : List Da) (d k : Nat) : Prop := ∃ h : d < l.length, SD l d (bs l[d].name) ∨ ∃ hk : k < l[d].ctors.length, SC l d k (bs l[d].ctors[k].name)
/-- Nothing before data type i is a twin; nothing of it before place j. -/
def NoT (l : List Da) (d : Nat) (hd : d < l.length) (k : Nat) (hk : k < l[d].ctors.length) (i : Nat) : Prop :=
  ∀ a (h : a < l.length), a < i → (a < d → ¬ l[a].name = l[d].name) ∧ ∀ m (hm : m < l[a].ctors.length), (a < d ∨ (a = d ∧ m < k)) → ¬ l[a].ctors[m].name = l[d].ctors[k].name
def NoTI (l : List Da) (d : Nat) (hd : d < l.length) (k : Nat) (hk : k < l[d].ctors.length) (i : Nat) (hi : i < l.length) (j : Nat) : Prop :=
  ∀ m (hm : m < l[i].ctors.length), m < j → (i < d ∨ (i = d ∧ m < k)) → ¬ l[i].ctors[m].name = l[d].ctors[k].name
section
variable {l : List Da} {d : Nat} {hd : d < l.length} {k : Nat} {hk : k < l[d].ctors.length} {i : Nat} {hi : i < l.length} {j : Nat}
theorem NoT.zero : NoT l d hd k hk 0 := fun a _ h => absurd h (by omega)
theorem NoTI.zero : NoTI l d hd k hk i hi 0 := fun a _ h => absurd h (by omega)
theorem NoT.step (h : NoT l d hd k hk i) (h1 : i < d → ¬ l[i].name = l[d].name) (h2 : ∀ m (hm : m < l[i].ctors.length), (i < d ∨ (i = d ∧ m < k)) → ¬ l[i].ctors[m].name = l[d].ctors[k].name) : NoT l d hd k hk (i + 1) := by
  intro a ha hai
  by_cases e : a = i
  · subst e; exact ⟨h1, h2⟩
  · exact h a ha (by omega)
theorem NoTI.step (h : NoTI l d hd k hk i hi j) (hj : j < l[i].ctors.length) (e : ¬ l[i].ctors[j].name = l[d].ctors[k].name) : NoTI l d hd k hk i hi (j + 1) := by
  intro m hm hmj hc
  by_cases e' : m = j
  · subst e'; exact e
  · exact h m hm (by omega) hc
theorem NoT.done (h : NoT l d hd k hk (d + 1)) : ¬ Tw l d k := by
  rintro ⟨_, ⟨a, ha, had, e⟩ | ⟨_, a, ha, m, hm, hc, e⟩⟩
  · exact (h a ha (by omega)).1 had (Go.WideShapes.bytes_inj e)
  · exact (h a ha (by omega)).2 m hm hc (Go.WideShapes.bytes_inj e)
theorem tw_d (hid : i < d) (hi : i < l.length) (hd : d < l.length) (e : l[i].name = l[d].name) : Tw l d k := ⟨hd, .inl ⟨i, hi, hid, by rw [e]⟩⟩
theorem tw_c (hi : i < l.length) (hd : d < l.length) (hk : k < l[d].ctors.length) (hj : j < l[i].ctors.length) (hc : i < d ∨ (i = d ∧ j < k)) (e : l[i].ctors[j].name = l[d].ctors[k].name) : Tw l d k :=
  ⟨hd, .inr ⟨hk, i, hi, j, hj, hc, by rw [e]⟩⟩
end

set_option maxHeartbeats 2000000 in
theorem twice_any (A : Option Addr) (l : List Da) (cap : Nat) (d k : Nat) (hd : d < l.length) (hk : k < l[d].ctors.length) (w : World) (hr : RDas w w.heap.size A l) :
    Calls Try.prog 41 #[.slice A l.length cap, .int .i64 d, .int .i64 k] w fun e w' => e = .returned (.bool (dec (Tw l d k))) ∧ Below w.heap.size w w' := by
  have hn := hr.1
  unfold maxLen at hn
  obtain ⟨b, off, rfl, hbB, A', cp, c0, c1, hszd, hmd⟩ := hr.2 d hd
  have hnd := hmd.1
  unfold maxLen at hnd
  obtain ⟨g, o, rfl, hgB, D1, ep, f0, f1, f2, hszk, _⟩ := hmd.2 k hk
  have Hr := Lib.hid hr
  have HMD := Lib.hid hmd
  clear hr hmd
  have HC0 := Lib.hid c0
  have HC1 := Lib.hid c1
  have HF0 := Lib.hid f0
  clear c0 c1 f0 f1 f2
  have hdI : (d : Int) < (l.length : Int) := by omega
  have hkI : (k : Int) < (l[d].ctors.length : Int) := by omega
  go_enter Try.func41, Try.ntmps41
  go_wp2_with fail
  go_loopw [7] (fun x wr => ∃ i : Nat, i ≤ d + 1 ∧ x = .int .i64 i ∧ NoT l d hd k hk i ∧ Below w.heap.size w wr) (fun x _ => d + 1 - (intOf x).toNat)
  case atStart => exact ⟨0, by omega, rfl, NoT.zero, Below.refl _ _⟩
  case round =>
    obtain ⟨i, hi, rfl, hno, hb⟩ := hrel
    have c0 := (hb.cell (p := ⟨b, off + d * 2, none⟩) hbB).trans HC0.out
    have c1 := (hb.cell (p := ⟨b, off + d * 2 + 1, none⟩) hbB).trans HC1.out
    have f0 := (hb.cell (p := ⟨g, o + k * 3, none⟩) hgB).trans HF0.out
    have HB2 : Hid (∀ n, Below w.heap.size w (wr.drewN n)) := fun n => below_drawn hb n
    by_cases hid : i < d
    · have hil : i < l.length := by omega
      have hiI : (i : Int) < (l.length : Int) := by omega
      obtain ⟨b', off', e', hbB', Ai, cpi, p0, p1, hszi, hmi⟩ := (Hr.out.below hb (Nat.le_refl _)).2 i hil
      cases e'
      have hni := hmi.1
      unfold maxLen at hni
      have Hmi := Lib.hid (hmi.keep (w' := w) (fun p hp => (hb.cell hp).symm) (Nat.le_refl _))
      have HP1 := Lib.hid ((hb.cell (p := ⟨b, off + i * 2 + 1, none⟩) hbB).symm.trans p1)
      clear hmi
      by_cases hne : l[i].name = l[d].name
      · have HT := Lib.hid (tw_d (k := k) hid hil hd hne)
        rw [hne] at p0
        clear hne
        go_wp2_with fail
        go_quiet (fail)
        go_wp2_with fail
        go_ret
        exact ⟨ret_bool (dec_t HT.out).symm, HB2.out _⟩
      · have s1 := str_eq_f hne
        have s1' : ¬ l[i].name.toList = l[d].name.toList := fun e => hne (toList_inj e)
        have HN := Lib.hid hne
        clear hne
        go_wp2_with fail
        go_quiet (fail)
        go_wp2_with fail
        go_loopw [8] (fun x wi => ∃ j : Nat, j ≤ l[i].ctors.length ∧ x = .int .i64 j ∧ NoTI l d hd k hk i hil j ∧ Below w.heap.size w wi) (fun x _ => l[i].ctors.length - (intOf x).toNat)
        case atStart => exact ⟨0, by omega, rfl, NoTI.zero, HB2.out _⟩
        case round =>
          obtain ⟨j, hj, rfl, hni2, hbi⟩ := hrel
          clear c0 c1 f0 p0 p1 HB2 hb s1 s1'
          have c1 := (hbi.cell (p := ⟨b, off + d * 2 + 1, none⟩) hbB).trans HC1.out
          have p1 := (hbi.cell (p := ⟨b, off + i * 2 + 1, none⟩) hbB).trans HP1.out
          have f0 := (hbi.cell (p := ⟨g, o + k * 3, none⟩) hgB).trans HF0.out
          have HB3 : Hid (∀ n, Below w.heap.size w (wr.drewN n)) := fun n => below_drawn hbi n
          by_cases hjt : j < l[i].ctors.length
          · have hjI : (j : Int) < (l[i].ctors.length : Int) := by omega
            obtain ⟨g', o', rfl, hgB', D2, ep2, e0, e1, e2, _, _⟩ := (Hmi.out.below hbi (Nat.le_refl _)).2 j hjt
            clear e1 e2
            by_cases hne : l[i].ctors[j].name = l[d].ctors[k].name
            · have HT := Lib.hid (tw_c hil hd hk hjt (.inl hid) hne)
              rw [hne] at e0
              clear hne
              go_wp2_with fail
              go_quiet (fail)
              go_wp2_with fail
              go_ret
              exact ⟨ret_bool (dec_t HT.out).symm, HB3.out _⟩
            · have s1 := str_eq_f hne
              have s1' : ¬ l[i].ctors[j].name.toList = l[d].ctors[k].name.toList := fun e => hne (toList_inj e)
              have HN2 := Lib.hid hne
              clear hne
              go_wp2_with fail
              go_quiet (fail)
              go_wp2_with fail
              go_roundw
              case rel => exact ⟨j + 1, by omega, by go_num, hni2.step hjt HN2.out, HB3.out _⟩
              case measure => simp [intOf]; omega
          · go_wp2_with fail
            go_roundw
            case rel => exact ⟨i + 1, by omega, by go_num, hno.step (fun _ => HN.out) (fun m hm hc => hni2 m hm (by omega) hc), hbi⟩
            case measure => simp [intOf]; omega
    · by_cases hie : i = d
      · obtain rfl : d = i := hie.symm
        clear hie
        have hdd : decide ((d : Int) < (d : Int)) = false := by simp
        clear c0 f0
        go_wp2_with fail
        go_quiet (fail)
        go_wp2_with fail
        go_loopw [8] (fun x wi => ∃ j : Nat, j ≤ k ∧ x = .int .i64 j ∧ NoTI l d hd k hk d hd j ∧ Below w.heap.size w wi) (fun x _ => k - (intOf x).toNat)
        case atStart => exact ⟨0, by omega, rfl, NoTI.zero, HB2.out _⟩
        case round =>
          obtain ⟨j, hj, rfl, hni2, hbi⟩ := hrel
          clear HB2 hb c1
          have f0 := (hbi.cell (p := ⟨g, o + k * 3, none⟩) hgB).trans HF0.out
          have c1 := (hbi.cell (p := ⟨b, off + d * 2 + 1, none⟩) hbB).trans HC1.out
          have HB3 : Hid (∀ n, Below w.heap.size w (wr.drewN n)) := fun n => below_drawn hbi n
          by_cases hjt : j < k
          · have hjl : j < l[d].ctors.length := by omega
            have hjI : (j : Int) < (l[d].ctors.length : Int) := by omega
            have hjK : (j : Int) < (k : Int) := by omega
            obtain ⟨g', o', e', hgB', D2, ep2, e0, e1, e2, _, _⟩ := (HMD.out.below hbi (Nat.le_refl _)).2 j hjl
            cases e'
            clear e1 e2
            by_cases hne : l[d].ctors[j].name = l[d].ctors[k].name
            · have HT := Lib.hid (tw_c (i := d) hd hd hk hjl (.inr ⟨rfl, hjt⟩) hne)
              rw [hne] at e0
              clear hne
              go_wp2_with fail
              go_quiet (fail)
              go_wp2_with fail
              go_ret
              exact ⟨ret_bool (dec_t HT.out).symm, HB3.out _⟩
            · have s1 := str_eq_f hne
              have s1' : ¬ l[d].ctors[j].name.toList = l[d].ctors[k].name.toList := fun e => hne (toList_inj e)
              have HN2 := Lib.hid hne
              clear hne
              go_wp2_with fail
              go_quiet (fail)
              go_wp2_with fail
              go_roundw
              case rel => exact ⟨j + 1, by omega, by go_num, hni2.step hjl HN2.out, HB3.out _⟩
              case measure => simp [intOf]; omega
          · have hjI : (j : Int) < (l[d].ctors.length : Int) := by omega
            have hjK : decide ((j : Int) < (k : Int)) = false := by simp; omega
            go_wp2_with fail
            go_roundw
            case rel => exact ⟨d + 1, by omega, by go_num, hno.step (fun h => absurd h (by omega)) (fun m hm hc => hni2 m hm (by omega) hc), hbi⟩
            case measure => simp [intOf]
      · have hi1 : i = d + 1 := by omega
        have HD : Hid (NoT l d hd k hk (d + 1)) := by rw [← hi1]; exact hno
        have hgt : (d : Int) < (i : Int) := by omega
        clear hi1 c0 c1 f0
        go_wp2_with fail
        go_ret
        exact ⟨ret_bool (dec_f HD.out.done).symm, hb⟩
end Go.Proofs.Ytholdmdkhbhokab
/-
  When a list of data types is a world: the program's function and the document's. No statement is proved here.
-/
namespace Go.Proofs.Ytholdmdkhbhokab
open Go.RowKit
set_option maxRecDepth 100000
set_option linter.unusedVariables false

def WorldOK (l : List Da) : Prop := l.length ≤ 4 ∧ AllTo (dataB l.length) l l.length ∧ Differ l
theorem not_world_len {l : List Da} (h : ¬ l.length ≤ 4) : ¬ WorldOK l := fun e => h e.1
theorem not_world_data {l : List Da} {k : Nat} (hk : k < l.length) (h : dataB l.length l[k] = false) : ¬ WorldOK l := fun e => by
  have := e.2.1 k hk hk
  rw [h] at this
  cases this
theorem data_len4 {n : Int} {d : Da} (h : dataB n d = true) : 1 ≤ d.ctors.length ∧ d.ctors.length ≤ 4 := by
  by_cases h' : 1 ≤ d.ctors.length ∧ d.ctors.length ≤ 4
  · exact h'
  · have := data_len (n := n) h'; rw [h] at this; cases this

set_option maxHeartbeats 800000 in
theorem worldValid_impl (A : Option Addr) (l : List Da) (cap : Nat) (w : World) (hr : RDas w w.heap.size A l) :
    Calls Try.prog 13 #[.slice A l.length cap] w fun e w' => e = .returned (.bool (dec (WorldOK l))) ∧ Below w.heap.size w w' := by
  have hn := hr.1
  unfold maxLen at hn
  have Hr := Lib.hid hr
  clear hr
  by_cases h4 : l.length ≤ 4
  · go_enter Try.func13, Try.ntmps13
    go_wp2_with fail
    go_loopw [10] (fun i wr => ∃ k : Nat, k ≤ l.length ∧ i = .int .i64 k ∧ AllTo (dataB l.length) l k ∧ Below w.heap.size w wr) (fun i _ => l.length - (intOf i).toNat)
    case atStart => exact ⟨0, by omega, rfl, AllTo.zero _ _, Below.refl _ _⟩
    case round =>
      obtain ⟨k, hk, rfl, hv, hb⟩ := hrel
      by_cases hlt : k < l.length
      · obtain ⟨b, off, rfl, hbB, A', cp, c0, c1, hsz, hm⟩ := (Hr.out.below hb (Nat.le_refl _)).2 k hlt
        have Hm := Lib.hid hm
        clear hm
        have hbs := hb.size
        by_cases he : dataB l.length l[k] = true
        · go_wp2_with (go_at_call 37; refine (dataValid_any l[k] _ _ _ _ hsz (by exact Hm.out.keep (fun p hp => keep_one _ p (by omega)) (by simp; omega))).mono ?_; rintro e w1 ⟨rfl, hb1⟩; have hb2 := hb.trans ((below_one hb1).mono hb.size))
          go_roundw
          case rel => exact ⟨k + 1, by omega, by go_num, hv.step hlt he, hb2⟩
          case measure => simp [intOf]; omega
        · have he' : dataB l.length l[k] = false := by simpa using he
          have HE := Lib.hid (not_world_data hlt he')
          clear he
          go_wp2_with (go_at_call 37; refine (dataValid_any l[k] _ _ _ _ hsz (by exact Hm.out.keep (fun p hp => keep_one _ p (by omega)) (by simp; omega))).mono ?_; rintro e w1 ⟨rfl, hb1⟩; have hb2 := hb.trans ((below_one hb1).mono hb.size))
          go_ret
          exact ⟨ret_bool (dec_f HE.out).symm, hb2⟩
      · have HV : Hid (AllTo (dataB l.length) l l.length) := fun j h h' => hv j h (by omega)
        clear hv
        go_wp2_with (go_at_call 38; refine (namesDiffer_any _ _ _ _ (by exact Hr.out.keep (fun p hp => hb.cell hp) hb.size) h4 (fun d hd => (data_len4 (HV.out d hd hd)).2)).mono ?_; rintro e w1 ⟨rfl, hb1⟩; have hb2 := hb.trans (hb1.mono hb.size))
        go_ret
        refine ⟨ret_bool (dec_congr ⟨fun h => ⟨h4, HV.out, h⟩, fun h => h.2.2⟩), hb2⟩
  · have HE := Lib.hid (not_world_len h4)
    go_enter Try.func13, Try.ntmps13
    go_wp2_with fail
    go_ret
    exact ⟨ret_bool (dec_f HE.out).symm, Below.refl _ _⟩

/-- What the document's function has seen before data type d, and before its constructor k. -/
def Seen (l : List Da) (d : Nat) : Prop := ∀ a (h : a < l.length), a < d → dataB l.length l[a] = true ∧ ∀ m (hm : m < l[a].ctors.length), ¬ Tw l a m
def SeenC (l : List Da) (d : Nat) (hd : d < l.length) (k : Nat) : Prop := ∀ m (hm : m < l[d].ctors.length), m < k → ctorB l.length l[d].ctors[m] = true ∧ ¬ Tw l d m
theorem Seen.zero (l : List Da) : Seen l 0 := fun a _ h => absurd h (by omega)
theorem SeenC.zero (l : List Da) (d : Nat) (hd : d < l.length) : SeenC l d hd 0 := fun a _ h => absurd h (by omega)
theorem SeenC.step {l : List Da} {d : Nat} {hd : d < l.length} {k : Nat} (h : SeenC l d hd k) (hk : k < l[d].ctors.length) (h1 : ctorB l.length l[d].ctors[k] = true) (h2 : ¬ Tw l d k) : SeenC l d hd (k + 1) := by
  intro m hm hmk
  by_cases e : m = k
  · subst e; exact ⟨h1, h2⟩
  · exact h m hm (by omega)
theorem Seen.step {l : List Da} {d : Nat} (h : Seen l d) (hd : d < l.length) (h1 : dnameB l[d].name = true) (h2 : 1 ≤ l[d].ctors.length ∧ l[d].ctors.length ≤ 4) (h3 : SeenC l d hd l[d].ctors.length) : Seen l (d + 1) := by
  intro a ha had
  by_cases e : a = d
  · subst e
    exact ⟨(data_good h1 h2 (AllTo.all (k := l[a].ctors.length) (fun j hj _ => (h3 j hj hj).1) (Nat.le_refl _))).symm, fun m hm => (h3 m hm hm).2⟩
  · exact h a ha (by omega)
theorem Seen.done {l : List Da} (h4 : l.length ≤ 4) (h : Seen l l.length) : WorldOK l := by
  refine ⟨h4, fun j hj _ => (h j hj hj).1, fun d hd _ => ?_⟩
  have hl := (data_len4 (h d hd hd).1).1
  exact ⟨fun e => (h d hd hd).2 0 hl ⟨hd, .inl e⟩, fun j hj _ e => (h d hd hd).2 j hj ⟨hd, .inr ⟨hj, e⟩⟩⟩
theorem not_world_tw {l : List Da} {d k : Nat} (hd : d < l.length) (hk : k < l[d].ctors.length) (e : Tw l d k) : ¬ WorldOK l := by
  rintro ⟨_, _, h⟩
  obtain ⟨_, e | ⟨_, e⟩⟩ := e
  · exact (h d hd hd).1 e
  · exact (h d hd hd).2 k hk hk e
theorem not_world_ctor {l : List Da} {d k : Nat} (hd : d < l.length) (hk : k < l[d].ctors.length) (e : ctorB l.length l[d].ctors[k] = false) : ¬ WorldOK l :=
  not_world_data hd (data_bad (all_bad hk e)).symm
end Go.Proofs.Ytholdmdkhbhokab
/-
  When a list of data types is a world: the document's function. No statement is proved here.
-/
namespace Go.Proofs.Ytholdmdkhbhokab
open Go.RowKit
set_option maxRecDepth 100000
set_option linter.unusedVariables false

set_option maxHeartbeats 1600000 in
theorem worldValid_spec (A : Option Addr) (l : List Da) (cap : Nat) (w : World) (hr : RDas w w.heap.size A l) :
    Calls Try.prog 14 #[.slice A l.length cap] w fun e w' => e = .returned (.bool (dec (WorldOK l))) ∧ Below w.heap.size w w' := by
  have hn := hr.1
  unfold maxLen at hn
  have Hr := Lib.hid hr
  clear hr
  by_cases h4 : l.length ≤ 4
  · go_enter Try.func14, Try.ntmps14
    go_wp2_with fail
    go_loopw [3] (fun i wr => ∃ d : Nat, d ≤ l.length ∧ i = .int .i64 d ∧ Seen l d ∧ Below w.heap.size w wr) (fun i _ => l.length - (intOf i).toNat)
    case atStart => exact ⟨0, by omega, rfl, Seen.zero l, Below.refl _ _⟩
    case round =>
      obtain ⟨d, hd, rfl, hv, hb⟩ := hrel
      by_cases hlt : d < l.length
      · have hdI : (d : Int) < (l.length : Int) := by omega
        obtain ⟨b, off, rfl, hbB, A', cp, c0, c1, hsz, hm⟩ := (Hr.out.below hb (Nat.le_refl _)).2 d hlt
        have hnl := hm.1
        unfold maxLen at hnl
        have Hm := Lib.hid (hm.keep (w' := w) (fun p hp => (hb.cell hp).symm) (Nat.le_refl _))
        have HC1 := Lib.hid ((hb.cell (p := ⟨b, off + d * 2 + 1, none⟩) hbB).symm.trans c1)
        clear hm
        by_cases h1 : dnameB l[d].name = true
        · by_cases h2 : 1 ≤ l[d].ctors.length
          · have q0 : ((l[d].ctors.length : Int) == 0) = false := beq_eq_false_iff_ne.2 (by omega)
            by_cases h3 : l[d].ctors.length ≤ 4
            · have q4 : decide ((4 : Int) < l[d].ctors.length) = false := by simp; omega
              go_wp2_with (go_at_call 39; refine (l1Data_any _ _ hsz).mono ?_; rintro e w' ⟨rfl, rfl⟩)
              go_loopw [4] (fun i wi => ∃ k : Nat, k ≤ l[d].ctors.length ∧ i = .int .i64 k ∧ SeenC l d hlt k ∧ Below w.heap.size w wi) (fun i _ => l[d].ctors.length - (intOf i).toNat)
              case atStart => exact ⟨0, by omega, rfl, SeenC.zero l d hlt, hb⟩
              case round =>
                obtain ⟨k, hk, rfl, hvc, hbi⟩ := hrel
                clear hb c0 c1
                have c1 := (hbi.cell (p := ⟨b, off + d * 2 + 1, none⟩) hbB).trans HC1.out
                by_cases hkt : k < l[d].ctors.length
                · have hkI : (k : Int) < (l[d].ctors.length : Int) := by omega
                  obtain ⟨g, o, rfl, hgB, D1, ep, e0, e1, e2, hszk, hmk⟩ := (Hm.out.below hbi (Nat.le_refl _)).2 k hkt
                  have Hmk := Lib.hid (hmk.keep (fun _ _ => rfl) hbi.size)
                  clear hmk
                  by_cases he : ctorB l.length l[d].ctors[k] = true
                  · by_cases ht : Tw l d k
                    · have HT := Lib.hid (not_world_tw hlt hkt ht)
                      have hq := dec_t ht
                      clear ht
                      go_wp2_with (first | (go_at_call 40; refine (l1Ctor_any l[d].ctors[k] _ _ _ _ hszk Hmk.out).mono ?_; rintro e w1 ⟨rfl, hb1⟩; have hb2 := hbi.trans (hb1.mono hbi.size)) | (go_at_call 41; refine (twice_any _ l _ d k hlt hkt _ (Hr.out.keep (fun p hp => hb2.cell hp) hb2.size)).mono ?_; rintro e w2 ⟨rfl, hb1'⟩; have hb3 := hb2.trans (hb1'.mono hb2.size)))
                      go_ret
                      exact ⟨ret_bool (dec_f HT.out).symm, hb3⟩
                    · have HT := Lib.hid ht
                      have hq := dec_f ht
                      clear ht
                      go_wp2_with (first | (go_at_call 40; refine (l1Ctor_any l[d].ctors[k] _ _ _ _ hszk Hmk.out).mono ?_; rintro e w1 ⟨rfl, hb1⟩; have hb2 := hbi.trans (hb1.mono hbi.size)) | (go_at_call 41; refine (twice_any _ l _ d k hlt hkt _ (Hr.out.keep (fun p hp => hb2.cell hp) hb2.size)).mono ?_; rintro e w2 ⟨rfl, hb1'⟩; have hb3 := hb2.trans (hb1'.mono hb2.size)))
                      go_roundw
                      case rel => exact ⟨k + 1, by omega, by go_num, hvc.step hkt he HT.out, hb3⟩
                      case measure => simp [intOf]; omega
                  · have he' : ctorB l.length l[d].ctors[k] = false := by simpa using he
                    have HT := Lib.hid (not_world_ctor hlt hkt he')
                    clear he
                    go_wp2_with (go_at_call 40; refine (l1Ctor_any l[d].ctors[k] _ _ _ _ hszk Hmk.out).mono ?_; rintro e w1 ⟨rfl, hb1⟩; have hb2 := hbi.trans (hb1.mono hbi.size))
                    go_ret
                    exact ⟨ret_bool (dec_f HT.out).symm, hb2⟩
                · have HV : Hid (SeenC l d hlt l[d].ctors.length) := fun m hm _ => hvc m hm (by omega)
                  go_wp2_with fail
                  go_roundw
                  case rel => exact ⟨d + 1, by omega, by go_num, hv.step hlt h1 ⟨h2, h3⟩ HV.out, hbi⟩
                  case measure => simp [intOf]; omega
            · have q4 : (4 : Int) < l[d].ctors.length := by omega
              have HT := Lib.hid (not_world_data hlt (data_len (n := l.length) (d := l[d]) (by omega)).symm)
              go_wp2_with (go_at_call 39; refine (l1Data_any _ _ hsz).mono ?_; rintro e w' ⟨rfl, rfl⟩)
              go_ret
              exact ⟨ret_bool (dec_f HT.out).symm, hb⟩
          · have q0 : ((l[d].ctors.length : Int) == 0) = true := beq_iff_eq.2 (by omega)
            have HT := Lib.hid (not_world_data hlt (data_len (n := l.length) (d := l[d]) (by omega)).symm)
            go_wp2_with (go_at_call 39; refine (l1Data_any _ _ hsz).mono ?_; rintro e w' ⟨rfl, rfl⟩)
            go_ret
            exact ⟨ret_bool (dec_f HT.out).symm, hb⟩
        · have h1' : dnameB l[d].name = false := by simpa using h1
          have HT := Lib.hid (not_world_data hlt (data_name (n := l.length) h1').symm)
          clear h1
          go_wp2_with (go_at_call 39; refine (l1Data_any _ _ hsz).mono ?_; rintro e w' ⟨rfl, rfl⟩)
          go_ret
          exact ⟨ret_bool (dec_f HT.out).symm, hb⟩
      · have HV : Hid (Seen l l.length) := fun a ha _ => hv a ha (by omega)
        go_wp2_with fail
        go_ret
        exact ⟨ret_bool (dec_t (HV.out.done h4)).symm, hb⟩
  · have HE := Lib.hid (not_world_len h4)
    go_enter Try.func14, Try.ntmps14
    go_wp2_with fail
    go_ret
    exact ⟨ret_bool (dec_f HE.out).symm, Below.refl _ _⟩
end Go.Proofs.Ytholdmdkhbhokab
/-
  When a type is one of a world: the program's function and the document's. No statement is proved here.
-/
namespace Go.Proofs.Ytholdmdkhbhokab
open Go.RowKit
set_option maxRecDepth 100000
set_option linter.unusedVariables false

theorem arg_zero (n : Int) (t : Ty) : (argB n (-1) t && decide (0 ≤ t.index)) = argB n 0 t := by
  obtain ⟨d, i⟩ := t
  unfold argB
  by_cases h0 : d = -1
  · simp only [h0, if_true]
    by_cases h1 : i = 0
    · subst h1; rfl
    · rw [decide_eq_false h1]; rfl
  · simp only [if_neg h0]
    by_cases h1 : 0 ≤ d ∧ d < n ∧ 0 ≤ i ∧ i ≤ 3
    · rw [decide_eq_true h1, decide_eq_true (show 0 ≤ d ∧ d < n ∧ -1 ≤ i ∧ i ≤ 3 by omega), decide_eq_true (show 0 ≤ i by omega)]; rfl
    · rw [decide_eq_false h1]
      by_cases h2 : 0 ≤ i
      · rw [decide_eq_false (show ¬ (0 ≤ d ∧ d < n ∧ -1 ≤ i ∧ i ≤ 3) by omega)]; rfl
      · rw [decide_eq_false h2]; simp

def TyOK (l : List Da) (t : Ty) : Prop := WorldOK l ∧ argB l.length 0 t = true

theorem l1Is_any (A : Option Addr) (n cap : Nat) (t : Ty) (w : World) (hn : n ≤ maxLen) :
    Calls Try.prog 75 #[.slice A n cap, .agg #[.int .i64 t.data, .int .i64 t.index]] w fun e w' => e = .returned (.bool (argB n 0 t)) ∧ Below w.heap.size w w' := by
  unfold maxLen at hn
  have H := Lib.hid (arg_zero n t)
  by_cases h1 : argB n (-1) t = true
  · by_cases h2 : 0 ≤ t.index
    · have HT : Hid (argB n 0 t = true) := by unfold Hid; rw [← H.out, h1, decide_eq_true h2]; rfl
      go_enter Try.func75, Try.ntmps75
      go_wp2_with (go_at_call 73; refine (arg_any _ _ _ _).mono ?_; rintro e w1 ⟨rfl, hb⟩; obtain ⟨hc, hfz⟩ := bcell hb)
      go_ret
      exact ⟨ret_bool HT.out.symm, below_one hb⟩
    · have HT : Hid (argB n 0 t = false) := by unfold Hid; rw [← H.out, decide_eq_false h2]; simp
      go_enter Try.func75, Try.ntmps75
      go_wp2_with (go_at_call 73; refine (arg_any _ _ _ _).mono ?_; rintro e w1 ⟨rfl, hb⟩; obtain ⟨hc, hfz⟩ := bcell hb)
      go_ret
      exact ⟨ret_bool (by rw [HT.out]; exact decide_eq_false (by omega)), below_one hb⟩
  · have h1' : argB n (-1) t = false := by simpa using h1
    have HT : Hid (argB n 0 t = false) := by unfold Hid; rw [← H.out, h1']; rfl
    clear h1
    go_enter Try.func75, Try.ntmps75
    go_wp2_with (go_at_call 73; refine (arg_any _ _ _ _).mono ?_; rintro e w1 ⟨rfl, hb⟩; obtain ⟨hc, hfz⟩ := bcell hb)
    go_ret
    exact ⟨ret_bool HT.out.symm, below_one hb⟩

theorem typeValid_spec (A : Option Addr) (l : List Da) (cap : Nat) (t : Ty) (w : World) (hr : RDas w w.heap.size A l) :
    Calls Try.prog 44 #[.slice A l.length cap, .agg #[.int .i64 t.data, .int .i64 t.index]] w fun e w' => e = .returned (.bool (dec (TyOK l t))) ∧ Below w.heap.size w w' := by
  have hn := hr.1
  have Hr := Lib.hid hr
  clear hr
  by_cases hw : WorldOK l
  · have hq := dec_t hw
    have HW := Lib.hid hw
    clear hw
    go_enter Try.func44, Try.ntmps44
    go_wp2_with (first | (go_at_call 14; refine (worldValid_spec _ _ _ _ (by exact Hr.out.keep (keep_one _) (by simp))).mono ?_; rintro e w1 ⟨rfl, hb⟩; obtain ⟨hc, hfz⟩ := bcell hb; have hb1 := below_one hb) | (go_at_call 75; refine (l1Is_any _ _ _ t _ hn).mono ?_; rintro e w2 ⟨rfl, hb2'⟩; have hb2 := hb1.trans (hb2'.mono hb1.size)))
    go_ret
    refine ⟨ret_bool ?_, hb2⟩
    by_cases h2 : argB l.length 0 t = true
    · rw [h2, dec_t (show TyOK l t from ⟨HW.out, h2⟩)]
    · rw [dec_f (show ¬ TyOK l t from fun h => h2 h.2)]; simpa using h2
  · have hq := dec_f hw
    have HW := Lib.hid hw
    clear hw
    go_enter Try.func44, Try.ntmps44
    go_wp2_with (go_at_call 14; refine (worldValid_spec _ _ _ _ (by exact Hr.out.keep (keep_one _) (by simp))).mono ?_; rintro e w1 ⟨rfl, hb⟩; obtain ⟨hc, hfz⟩ := bcell hb; have hb1 := below_one hb)
    go_ret
    exact ⟨ret_bool (dec_f (show ¬ TyOK l t from fun h => HW.out h.1)).symm, hb1⟩

theorem typeValid_impl (A : Option Addr) (l : List Da) (cap : Nat) (t : Ty) (w : World) (hr : RDas w w.heap.size A l) :
    Calls Try.prog 19 #[.slice A l.length cap, .agg #[.int .i64 t.data, .int .i64 t.index]] w fun e w' => e = .returned (.bool (dec (TyOK l t))) ∧ Below w.heap.size w w' := by
  have hn := hr.1
  have Hr := Lib.hid hr
  clear hr
  by_cases hw : WorldOK l
  · have hq := dec_t hw
    have HW := Lib.hid hw
    clear hw
    go_enter Try.func19, Try.ntmps19
    go_wp2_with (first | (go_at_call 13; refine (worldValid_impl _ _ _ _ (by exact Hr.out.keep (keep_one _) (by simp))).mono ?_; rintro e w1 ⟨rfl, hb⟩; obtain ⟨hc, hfz⟩ := bcell hb; have hb1 := below_one hb) | (go_at_call 46; refine (within_any _ _ _ _ _).mono ?_; rintro e w2 ⟨rfl, hb2'⟩; have hb2 := hb1.trans (hb2'.mono hb1.size)))
    go_ret
    refine ⟨ret_bool ?_, hb2⟩
    by_cases h2 : argB l.length 0 t = true
    · exact (show argB l.length 0 t = dec (TyOK l t) by rw [h2, dec_t (show TyOK l t from ⟨HW.out, h2⟩)])
    · exact (show argB l.length 0 t = dec (TyOK l t) by rw [dec_f (show ¬ TyOK l t from fun h => h2 h.2)]; simpa using h2)
  · have hq := dec_f hw
    have HW := Lib.hid hw
    clear hw
    go_enter Try.func19, Try.ntmps19
    go_wp2_with (go_at_call 13; refine (worldValid_impl _ _ _ _ (by exact Hr.out.keep (keep_one _) (by simp))).mono ?_; rintro e w1 ⟨rfl, hb⟩; obtain ⟨hc, hfz⟩ := bcell hb; have hb1 := below_one hb)
    go_ret
    exact ⟨ret_bool (dec_f (show ¬ TyOK l t from fun h => HW.out h.1)).symm, hb1⟩
end Go.Proofs.Ytholdmdkhbhokab
/-
  The constructors that can make values of a type: the program's function and the document's. No statement is proved here.
-/
namespace Go.Proofs.Ytholdmdkhbhokab
open Go.RowKit
set_option maxRecDepth 100000
set_option linter.unusedVariables false

def fitsB (a i : Int) : Bool := decide (a = 0 ∨ i = 0 ∨ a = i)
theorem fits_t {a i : Int} (h : a = 0 ∨ i = 0 ∨ a = i) : true = fitsB a i := (decide_eq_true h).symm
theorem fits_f {a i : Int} (h : ¬ (a = 0 ∨ i = 0 ∨ a = i)) : false = fitsB a i := (decide_eq_false h).symm
theorem ieq_t {a b : Int} (h : a = b) : (a == b) = true := beq_iff_eq.2 h
theorem ieq_f {a b : Int} (h : ¬ a = b) : (a == b) = false := beq_eq_false_iff_ne.2 h

theorem meets_any (a i : Int) (w : World) :
    Calls Try.prog 74 #[.int .i64 a, .int .i64 i] w fun e w' => e = .returned (.bool (fitsB a i)) ∧ w = w' := by
  by_cases h1 : a = 0
  · have H := Lib.hid (fits_t (a := a) (i := i) (.inl h1))
    have q1 := ieq_t h1
    clear h1
    go_enter Try.func74, Try.ntmps74
    go_wp2_with fail
    go_ret
    exact ⟨ret_bool H.out, rfl⟩
  · have q1 := ieq_f h1
    by_cases h2 : i = 0
    · have H := Lib.hid (fits_t (a := a) (i := i) (.inr (.inl h2)))
      have q2 := ieq_t h2
      clear h1 h2
      go_enter Try.func74, Try.ntmps74
      go_wp2_with fail
      go_ret
      exact ⟨ret_bool H.out, rfl⟩
    · have q2 := ieq_f h2
      by_cases h3 : a = i
      · have H := Lib.hid (fits_t (a := a) (i := i) (.inr (.inr h3)))
        have q3 := ieq_t h3
        clear h1 h2 h3
        go_enter Try.func74, Try.ntmps74
        go_wp2_with fail
        go_ret
        exact ⟨ret_bool H.out, rfl⟩
      · have H := Lib.hid (fits_f (a := a) (i := i) (by simp [h1, h2, h3]))
        have q3 := ieq_f h3
        clear h1 h2 h3
        go_enter Try.func74, Try.ntmps74
        go_wp2_with fail
        go_ret
        exact ⟨ret_bool H.out, rfl⟩

theorem fits_any (nm : ByteArray) (A : Option Addr) (n cap : Nat) (a i : Int) (w : World) :
    Calls Try.prog 76 #[.agg #[.string nm, .slice A n cap, .int .i64 a], .int .i64 i] w fun e w' => e = .returned (.bool (fitsB a i)) ∧ Below w.heap.size w w' := by
  have HB : Hid (∀ o : Obj, Below w.heap.size w (w.alloc o)) := fun o => (Below.refl _ _).alloc (Nat.le_refl _) _
  by_cases h1 : a = 0
  · have H := Lib.hid (fits_t (a := a) (i := i) (.inl h1))
    have q1 := ieq_t h1
    clear h1
    go_enter Try.func76, Try.ntmps76
    go_wp2_with fail
    go_ret
    exact ⟨ret_bool H.out, HB.out _⟩
  · have q1 := ieq_f h1
    by_cases h2 : i = 0
    · have H := Lib.hid (fits_t (a := a) (i := i) (.inr (.inl h2)))
      have q2 := ieq_t h2
      clear h1 h2
      go_enter Try.func76, Try.ntmps76
      go_wp2_with fail
      go_ret
      exact ⟨ret_bool H.out, HB.out _⟩
    · have q2 := ieq_f h2
      by_cases h3 : a = i
      · have H := Lib.hid (fits_t (a := a) (i := i) (.inr (.inr h3)))
        have q3 := ieq_t h3
        clear h1 h2 h3
        go_enter Try.func76, Try.ntmps76
        go_wp2_with fail
        go_ret
        exact ⟨ret_bool H.out, HB.out _⟩
      · have H := Lib.hid (fits_f (a := a) (i := i) (by simp [h1, h2, h3]))
        have q3 := ieq_f h3
        clear h1 h2 h3
        go_enter Try.func76, Try.ntmps76
        go_wp2_with fail
        go_ret
        exact ⟨ret_bool H.out, HB.out _⟩

/-- The places before k of the constructors that fit an index. -/
def ctL (cs : List Ct) (i : Int) : Nat → List Int
  | 0 => []
  | k + 1 => ctL cs i k ++ (if fitsB (cs.getD k default).index i then [(k : Int)] else [])
theorem ctL_yes {cs : List Ct} {i : Int} {k : Nat} (hk : k < cs.length) (h : fitsB cs[k].index i = true) : ctL cs i (k + 1) = ctL cs i k ++ [(k : Int)] := by
  show ctL cs i k ++ _ = _
  have e : cs.getD k default = cs[k] := by simp [List.getD, List.getElem?_eq_getElem hk]
  rw [e, h]; rfl
theorem ctL_no {cs : List Ct} {i : Int} {k : Nat} (hk : k < cs.length) (h : fitsB cs[k].index i = false) : ctL cs i (k + 1) = ctL cs i k := by
  show ctL cs i k ++ _ = _
  have e : cs.getD k default = cs[k] := by simp [List.getD, List.getElem?_eq_getElem hk]
  rw [e, h]; simp
theorem ctL_length (cs : List Ct) (i : Int) : ∀ k, (ctL cs i k).length ≤ k
  | 0 => Nat.le_refl _
  | k + 1 => by
    have := ctL_length cs i k
    show (ctL cs i k ++ _).length ≤ k + 1
    rw [List.length_append]
    split <;> simp <;> omega

theorem cell_two_one (w : World) (o : Obj) (x : Value) (t : TypeId) : ∀ j u, [x][j]? = some u → ((w.alloc o).alloc (.cells #[x] t)).cell? ((⟨w.heap.size + 1, 0, none⟩ : Addr).add j) = some u := by
  intro j u hj
  match j, hj with
  | 0, hj => simp at hj; subst hj; simp [Addr.add, go_sem]
/-- Integers in a row of the call's own. -/
def OInts (w : World) (lo : Nat) (v : Value) (xs : List Int) : Prop := w.ownsRow lo 3 1 v xs.length (xs.map (Value.int .i64))
theorem info3 : (Try.prog.info? 3).map (fun i => (i.zero, i.size, i.bytes)) = some (some (.int .i64 0), 1, 8) := by kernel_rfl

set_option maxHeartbeats 1200000 in
theorem ctorsOf_data (A : Option Addr) (l : List Da) (cap d : Nat) (ix : Int) (hd : d < l.length) (h4 : l[d].ctors.length ≤ 4) (w : World) (hr : RDas w w.heap.size A l) :
    Calls Try.prog 43 #[.slice A l.length cap, .agg #[.int .i64 d, .int .i64 ix]] w fun e w' => ∃ v, e = .returned v ∧ OInts w' (w.heap.size + 1) v (ctL l[d].ctors ix l[d].ctors.length) ∧ Below w.heap.size w w' := by
  obtain ⟨i0, hi, hz0, hz1, hz2⟩ := info_parts info3
  have hn := hr.1
  unfold maxLen at hn
  obtain ⟨b, off, rfl, hbB, A', cp, c0, c1, hszd, hmd⟩ := hr.2 d hd
  have HMD := Lib.hid hmd
  clear hr hmd
  have q0 : ((d : Int) == -1) = false := ieq_f (by omega)
  have hdI : (d : Int) < (l.length : Int) := by omega
  have c1' : ∀ o, (w.alloc o).cell? ⟨b, off + d * 2 + 1, none⟩ = some (.slice A' l[d].ctors.length cp) := fun o => (World.cell?_alloc_lt _ _ _ hbB).trans c1
  have HB1 : Hid (∀ o : Obj, Below (w.heap.size + 1) (w.alloc o) (w.alloc o)) := fun o => Below.refl _ _
  go_enter Try.func43, Try.ntmps43
  go_wp2_with fail
  generalize hw0 : w.alloc (.cells #[.int .i64 d, .int .i64 ix] 33) = w0
  have x1 : w0.cell? ⟨w.heap.size, 1, none⟩ = some (.int .i64 ix) := by rw [← hw0]; simp [go_sem]
  have hsz0 : w0.heap.size = w.heap.size + 1 := by rw [← hw0]; simp
  have HW0 := Lib.hid hw0
  have HX1 := Lib.hid x1
  have HS0 := Lib.hid hsz0
  have HM0 : Hid (RCts w0 (w.heap.size + 1) A' l[d].ctors) := HMD.out.keep (fun p hp => by rw [← hw0]; exact World.cell?_alloc_lt _ _ _ hp) (by omega)
  clear hw0 x1 hsz0 c0 c1 c1' HB1
  go_loopw [5, 18] (fun v i wr => ∃ k : Nat, k ≤ l[d].ctors.length ∧ i = .int .i64 k ∧ OInts wr (w.heap.size + 1) v (ctL l[d].ctors ix k) ∧ Below (w.heap.size + 1) w0 wr) (fun _ i _ => l[d].ctors.length - (intOf i).toNat)
  case atStart => exact ⟨0, by omega, rfl, World.ownsRow_nil _ _ _ _, Below.refl _ _⟩
  case round =>
    obtain ⟨k, hk, rfl, hown, hb⟩ := hrel
    by_cases hkt : k < l[d].ctors.length
    · obtain ⟨g, o, rfl, hgB, D1, ep, e0, e1, e2, hszk, hmk⟩ := (HM0.out.below hb (Nat.le_refl _)).2 k hkt
      clear hmk
      have x1 : ∀ o, (wr.alloc o).cell? ⟨w.heap.size, 1, none⟩ = some (.int .i64 ix) := fun o => by
        have h1 := hb.cell (p := ⟨w.heap.size, 1, none⟩) (by simp)
        rw [World.cell?_alloc_lt _ _ _ (by have := hb.size; have := HS0.out; simp; omega), h1]; exact HX1.out
      have hlw : w.heap.size + 1 ≤ wr.heap.size := by have := hb.size; have := HS0.out; omega
      by_cases hf : fitsB l[d].ctors[k].index ix = true
      · have HC := Lib.hid (ctL_yes hkt hf)
        have hL := ctL_length l[d].ctors ix k
        have ho : wr.ownsRow (w.heap.size + 1) 3 1 u5 (ctL l[d].ctors ix k).length ((ctL l[d].ctors ix k).map (Value.int .i64)) := hown
        clear hown
        go_wp2_with (first | (go_at_call 74; refine (meets_any _ _ _).mono ?_; rintro e w1 ⟨rfl, rfl⟩) | (at_builtin; refine wpList_append_own _ rfl _ _ 37 rfl (w.heap.size + 1) 3 i0 (.int .i64 0) 1 8 Try.underlying37 hi hz0 hz1 hz2 rfl (by decide) _ _ _ rfl ((ho.alloc _).alloc _) ⟨wr.heap.size + 1, 0, none⟩ 1 1 [.int .i64 k] rfl rfl ?c1 ?c2 ?c3 ?c4 ?c5 ?_))
        case c1 => exact cell_two_one _ _ _ _
        case c2 => intro u hu; simp at hu; subst hu; rfl
        case c3 => unfold maxLen; omega
        case c4 => omega
        case c5 => simp; omega
        intro v' w1 hown' hgrow hnn
        have hb2 : Below (w.heap.size + 1) w0 w1 := ((hb.alloc hlw _).alloc (by simp; omega) _).grown hgrow (by simp; omega) (fun g' e => (ho.lt g' e).1)
        have ho2 : OInts w1 (w.heap.size + 1) v' (ctL l[d].ctors ix (k + 1)) := by unfold OInts; rw [HC.out]; simpa using hown'
        clear hown' hgrow hnn ho hL x1 e0 e1 e2
        go_wp2_with fail
        go_roundw
        case rel => exact ⟨k + 1, by omega, by go_num, ho2, hb2⟩
        case measure => simp [intOf]; omega
      · have hf' : fitsB l[d].ctors[k].index ix = false := by simpa using hf
        have HC := Lib.hid (ctL_no hkt hf')
        clear hf
        have HO := Lib.hid hown
        clear hown
        go_wp2_with (go_at_call 74; refine (meets_any _ _ _).mono ?_; rintro e w1 ⟨rfl, rfl⟩)
        go_roundw
        case rel => exact ⟨k + 1, by omega, by go_num, by rw [HC.out]; exact World.ownsRow.alloc HO.out _, hb.alloc hlw _⟩
        case measure => simp [intOf]; omega
    · have hke : k = l[d].ctors.length := by omega
      have HO : Hid (OInts wr (w.heap.size + 1) u5 (ctL l[d].ctors ix l[d].ctors.length)) := by rw [← hke]; exact hown
      clear hke hown
      go_wp2_with fail
      go_ret
      refine ⟨_, rfl, HO.out, ?_⟩
      have h0 : Below w.heap.size w w0 := by rw [← HW0.out]; exact (Below.refl _ _).alloc (Nat.le_refl _) _
      exact h0.trans (hb.mono (by omega))
end Go.Proofs.Ytholdmdkhbhokab
/-
  The functions that compare types, constructors and data types, where both sides read as the same. No statement is proved here.
-/
namespace Go.Proofs.Ytholdmdkhbhokab
open Go.RowKit Go.Sort
set_option maxRecDepth 100000
set_option linter.unusedVariables false

theorem below_two {w w' : World} {o o' : Obj} (h : Below ((w.alloc o).alloc o').heap.size ((w.alloc o).alloc o') w') : Below w.heap.size w w' :=
  (((Below.refl _ _).alloc (Nat.le_refl _) _).alloc (by simp) _).trans (h.mono (by simp; omega))
theorem keep_two {w : World} (o o' : Obj) : ∀ p : Addr, p.block < w.heap.size → ((w.alloc o).alloc o').cell? p = w.cell? p := fun p hp => by
  rw [World.cell?_alloc_lt _ _ _ (by simp; omega), World.cell?_alloc_lt _ _ _ hp]

end Go.Proofs.Ytholdmdkhbhokab
/-
  The constructors that can make values of a type: the document's function. No statement is proved here.
-/
namespace Go.Proofs.Ytholdmdkhbhokab
open Go.RowKit Go.Sort
set_option maxRecDepth 100000
set_option linter.unusedVariables false

theorem cell_one_one (w : World) (x : Value) (t : TypeId) : ∀ j u, [x][j]? = some u → (w.alloc (.cells #[x] t)).cell? ((⟨w.heap.size, 0, none⟩ : Addr).add j) = some u := by
  intro j u hj
  match j, hj with
  | 0, hj => simp at hj; subst hj; simp [Addr.add, go_sem]

theorem fits_yes (nm : ByteArray) (A : Option Addr) (n cap : Nat) (a i : Int) (h : fitsB a i = true) (w : World) :
    Calls Try.prog 76 #[.agg #[.string nm, .slice A n cap, .int .i64 a], .int .i64 i] w fun e w' => e = .returned (.bool true) ∧ Below w.heap.size w w' := by rw [← h]; exact fits_any nm A n cap a i w
theorem fits_no (nm : ByteArray) (A : Option Addr) (n cap : Nat) (a i : Int) (h : fitsB a i = false) (w : World) :
    Calls Try.prog 76 #[.agg #[.string nm, .slice A n cap, .int .i64 a], .int .i64 i] w fun e w' => e = .returned (.bool false) ∧ Below w.heap.size w w' := by rw [← h]; exact fits_any nm A n cap a i w

set_option maxHeartbeats 1200000 in
theorem l1Ctors_data (A : Option Addr) (l : List Da) (cap d : Nat) (ix : Int) (hd : d < l.length) (h4 : l[d].ctors.length ≤ 4) (w : World) (hr : RDas w w.heap.size A l) :
    Calls Try.prog 45 #[.slice A l.length cap, .agg #[.int .i64 d, .int .i64 ix]] w fun e w' => ∃ v, e = .returned v ∧ OInts w' (w.heap.size + 1) v (ctL l[d].ctors ix l[d].ctors.length) ∧ Below w.heap.size w w' := by
  obtain ⟨i0, hi, hz0, hz1, hz2⟩ := info_parts info3
  have hn := hr.1
  unfold maxLen at hn
  obtain ⟨b, off, rfl, hbB, A', cp, c0, c1, hszd, hmd⟩ := hr.2 d hd
  have HMD := Lib.hid hmd
  have HC1 := Lib.hid c1
  clear hr hmd c0 c1
  have q0 : ((d : Int) == -1) = false := ieq_f (by omega)
  have hdI : (d : Int) < (l.length : Int) := by omega
  go_enter Try.func45, Try.ntmps45
  go_wp2_with fail
  generalize hw0 : (w.alloc (.cells #[.int .i64 d, .int .i64 ix] 33)).alloc (.cells #[] 3) = w0
  have HX0 : Hid (w0.cell? ⟨w.heap.size, 0, none⟩ = some (.int .i64 d)) := by unfold Hid; rw [← hw0]; simp [go_sem]
  have HX1 : Hid (w0.cell? ⟨w.heap.size, 1, none⟩ = some (.int .i64 ix)) := by unfold Hid; rw [← hw0]; simp [go_sem]
  have HS0 : Hid (w0.heap.size = w.heap.size + 2) := by unfold Hid; rw [← hw0]; simp
  have HK : Hid (∀ p : Addr, p.block < w.heap.size → w0.cell? p = w.cell? p) := fun p hp => by rw [← hw0]; exact keep_two _ _ p hp
  have HW : Hid (Below w.heap.size w w0) := by rw [← hw0]; exact ((Below.refl _ _).alloc (Nat.le_refl _) _).alloc (by simp) _
  have HO0 : Hid (OInts w0 (w.heap.size + 1) (.slice (some ⟨w.heap.size + 1, 0, none⟩) 0 0) []) := by
    unfold Hid OInts
    rw [← hw0]
    have := World.ownsRow_lit (base := w.heap.size + 1) (e := 3) (size := 1) (w.alloc (.cells #[.int .i64 d, .int .i64 ix] 33)) #[] 0 (by simp) (by simp) rfl
    simpa using this
  clear hw0
  go_loopw [5, 6] (fun v i wr => ∃ k : Nat, k ≤ l[d].ctors.length ∧ i = .int .i64 k ∧ OInts wr (w.heap.size + 1) v (ctL l[d].ctors ix k) ∧ Below (w.heap.size + 1) w0 wr) (fun _ i _ => l[d].ctors.length - (intOf i).toNat)
  case atStart => exact ⟨0, by omega, rfl, HO0.out, Below.refl _ _⟩
  case round =>
    obtain ⟨k, hk, rfl, hown, hb⟩ := hrel
    have HO := Lib.hid hown
    clear hown HO0
    have hlw : w.heap.size + 2 ≤ wr.heap.size := by have := hb.size; have := HS0.out; omega
    have x0 : wr.cell? ⟨w.heap.size, 0, none⟩ = some (.int .i64 d) := (hb.cell (p := ⟨w.heap.size, 0, none⟩) (by simp)).trans HX0.out
    have x1 : wr.cell? ⟨w.heap.size, 1, none⟩ = some (.int .i64 ix) := (hb.cell (p := ⟨w.heap.size, 1, none⟩) (by simp)).trans HX1.out
    have c1 : wr.cell? ⟨b, off + d * 2 + 1, none⟩ = some (.slice A' l[d].ctors.length cp) := ((hb.cell (p := ⟨b, off + d * 2 + 1, none⟩) (Nat.lt_succ_of_lt hbB)).trans (HK.out _ hbB)).trans HC1.out
    by_cases hkt : k < l[d].ctors.length
    · have hkI : (k : Int) < (l[d].ctors.length : Int) := by omega
      have HMr := HMD.out.keep (w' := wr) (fun p hp => (hb.cell (Nat.lt_succ_of_lt hp)).trans (HK.out p hp)) (Nat.le_refl _)
      obtain ⟨g, o, rfl, hgB, D1, ep, e0, e1, e2, hszk, hmk⟩ := HMr.2 k hkt
      clear hmk HMr
      have y0 := cell_regrown x0
      have y1 := cell_regrown x1
      have d1 := cell_regrown c1
      have f0 := cell_regrown e0
      have f1 := cell_regrown e1
      have f2 := cell_regrown e2
      by_cases hf : fitsB l[d].ctors[k].index ix = true
      · have HC := Lib.hid (ctL_yes hkt hf)
        have hL := ctL_length l[d].ctors ix k
        go_wp2_with fail
        clear x0 x1 c1 e0 e1 e2
        refine wp_region_quiet_below (by kernel_rfl) (by kernel_rfl) ?_
        repeat (quiet_step (exact Calls.regrown_of (fits_yes _ _ _ _ _ _ hf _)))
        refine wpQuiet_nil ?_
        intro w2 hw'
        have hb2 : Below wr.heap.size wr w2 := by obtain ⟨⟨dq, osq⟩, h⟩ := hw'; subst h; exact below_regrown wr dq osq
        clear hw' y0 y1 d1 f0 f1 f2
        have hlw2 : w.heap.size + 2 ≤ w2.heap.size := Nat.le_trans hlw hb2.size
        have ho : w2.ownsRow (w.heap.size + 1) 3 1 u5 (ctL l[d].ctors ix k).length ((ctL l[d].ctors ix k).map (Value.int .i64)) := own_below HO.out hb2
        go_wp2_with (at_builtin; refine wpList_append_own _ rfl _ _ 37 rfl (w.heap.size + 1) 3 i0 (.int .i64 0) 1 8 Try.underlying37 hi hz0 hz1 hz2 rfl (by decide) _ _ _ rfl (ho.alloc _) ⟨w2.heap.size, 0, none⟩ 1 1 [.int .i64 k] rfl rfl ?c1 ?c2 ?c3 ?c4 ?c5 ?_)
        case c1 => exact cell_one_one _ _ _
        case c2 => intro u hu; simp at hu; subst hu; rfl
        case c3 => unfold maxLen; omega
        case c4 => omega
        case c5 => simp; omega
        intro v' w1 hown' hgrow hnn
        have hb3 : Below (w.heap.size + 1) w0 w1 := ((hb.trans (hb2.mono (by omega))).alloc (by omega) _).grown hgrow (by simp; omega) (fun g' e => (ho.lt g' e).1)
        have ho2 : OInts w1 (w.heap.size + 1) v' (ctL l[d].ctors ix (k + 1)) := by unfold OInts; rw [HC.out]; simpa using hown'
        clear hown' hgrow hnn ho hL
        go_wp2_with fail
        go_roundw
        case rel => exact ⟨k + 1, by omega, by go_num, ho2, hb3⟩
        case measure => simp [intOf]; omega
      · have hf' : fitsB l[d].ctors[k].index ix = false := by simpa using hf
        have HC := Lib.hid (ctL_no hkt hf')
        clear hf
        go_wp2_with fail
        clear x0 x1 c1 e0 e1 e2
        refine wp_region_quiet_below (by kernel_rfl) (by kernel_rfl) ?_
        repeat (quiet_step (exact Calls.regrown_of (fits_no _ _ _ _ _ _ hf' _)))
        refine wpQuiet_nil ?_
        intro w2 hw'
        have hb2 : Below wr.heap.size wr w2 := by obtain ⟨⟨dq, osq⟩, h⟩ := hw'; subst h; exact below_regrown wr dq osq
        clear hw' y0 y1 d1 f0 f1 f2
        go_wp2_with fail
        go_roundw
        case rel => exact ⟨k + 1, by omega, by go_num, by rw [HC.out]; exact own_below HO.out hb2, hb.trans (hb2.mono (by omega))⟩
        case measure => simp [intOf]; omega
    · have hke : k = l[d].ctors.length := by omega
      have HO2 : Hid (OInts wr (w.heap.size + 1) u5 (ctL l[d].ctors ix l[d].ctors.length)) := by rw [← hke]; exact HO.out
      clear hke
      go_wp2_with fail
      go_ret
      exact ⟨_, rfl, HO2.out, HW.out.trans (hb.mono (by omega))⟩
end Go.Proofs.Ytholdmdkhbhokab
/-
  The constructors that can make values of a type: both functions, whole. No statement is proved here.
-/
namespace Go.Proofs.Ytholdmdkhbhokab
open Go.RowKit
set_option maxRecDepth 100000
set_option linter.unusedVariables false

/-- The places of the constructors of a type. -/
noncomputable def ctR (l : List Da) (t : Ty) : List Int := if dec (TyOK l t) then (if t.data = -1 then [] else ctL (l.getD t.data.toNat default).ctors t.index (l.getD t.data.toNat default).ctors.length) else []
theorem ctR_no {l : List Da} {t : Ty} (h : ¬ TyOK l t) : ctR l t = [] := by unfold ctR; rw [dec_f h]; rfl
theorem ctR_int {l : List Da} {t : Ty} (h : t.data = -1) : ctR l t = [] := by unfold ctR; rw [if_pos h]; split <;> rfl
theorem ctR_data {l : List Da} {d : Nat} {i : Int} (h : TyOK l ⟨d, i⟩) (hd : d < l.length) : ctR l ⟨d, i⟩ = ctL l[d].ctors i l[d].ctors.length := by
  have hn : ¬ (d : Int) = -1 := by omega
  have e : l.getD d default = l[d] := by simp [List.getD, List.getElem?_eq_getElem hd]
  unfold ctR
  rw [dec_t h]
  simp only [if_true, if_neg hn, Int.toNat_natCast, e]
theorem ty_cases {l : List Da} {t : Ty} (h : TyOK l t) : t.data = -1 ∨ ∃ d : Nat, t.data = d ∧ d < l.length := by
  by_cases h1 : t.data = -1
  · exact .inl h1
  · have h2 := h.2
    rw [argB_data h1] at h2
    have h3 := of_decide_eq_true h2
    exact .inr ⟨t.data.toNat, by omega, by omega⟩
theorem ty_four {l : List Da} {t : Ty} (h : TyOK l t) {d : Nat} (hd : d < l.length) : l[d].ctors.length ≤ 4 := (data_len4 (h.1.2.1 d hd hd)).2
theorem OInts.lower {w : World} {lo lo' : Nat} {v : Value} {xs : List Int} (h : OInts w lo v xs) (hl : lo' ≤ lo) : OInts w lo' v xs := by
  have h' : w.ownsRow lo 3 1 v xs.length (xs.map (Value.int .i64)) := h
  refine ⟨h'.1, ?_⟩
  rcases h'.2 with h0 | ⟨g, cap, cur, a1, a2, a3⟩
  · exact .inl h0
  · exact .inr ⟨g, cap, cur, a1, by omega, a3⟩
theorem ctR_len (l : List Da) (t : Ty) : (ctR l t).length ≤ 4 := by
  by_cases h : TyOK l t
  · rcases ty_cases h with h1 | ⟨d, h1, hd⟩
    · rw [ctR_int h1]; simp
    · obtain ⟨td, ti⟩ := t
      simp only at h1
      subst h1
      rw [ctR_data h hd]
      have := ctL_length l[d].ctors ti l[d].ctors.length
      have := ty_four h hd
      omega
  · rw [ctR_no h]; simp

theorem l1Ctors_int (A : Option Addr) (n cap : Nat) (ix : Int) (w : World) :
    Calls Try.prog 45 #[.slice A n cap, .agg #[.int .i64 (-1), .int .i64 ix]] w fun e w' => ∃ v, e = .returned v ∧ OInts w' w.heap.size v [] ∧ Below w.heap.size w w' := by
  have HO : Hid (∀ o : Obj, OInts ((w.alloc o).alloc (.cells #[] 3)) w.heap.size (.slice (some ⟨w.heap.size + 1, 0, none⟩) 0 0) []) := fun o => by
    have := World.ownsRow_lit (base := w.heap.size) (e := 3) (size := 1) (w.alloc o) #[] 0 (by simp) (by simp) rfl
    unfold OInts
    simpa using this
  have HB : Hid (∀ o o' : Obj, Below w.heap.size w ((w.alloc o).alloc o')) := fun o o' => ((Below.refl _ _).alloc (Nat.le_refl _) _).alloc (by simp) _
  go_enter Try.func45, Try.ntmps45
  go_wp2_with fail
  go_ret
  exact ⟨_, rfl, HO.out _, HB.out _ _⟩
theorem ctorsOf_int (A : Option Addr) (n cap : Nat) (ix : Int) (w : World) :
    Calls Try.prog 43 #[.slice A n cap, .agg #[.int .i64 (-1), .int .i64 ix]] w fun e w' => ∃ v, e = .returned v ∧ OInts w' w.heap.size v [] ∧ Below w.heap.size w w' := by
  have HB : Hid (∀ o : Obj, Below w.heap.size w (w.alloc o)) := fun o => (Below.refl _ _).alloc (Nat.le_refl _) _
  go_enter Try.func43, Try.ntmps43
  go_wp2_with fail
  go_ret
  exact ⟨_, rfl, World.ownsRow_nil _ _ _ _, HB.out _⟩

theorem typeV_yes {A : Option Addr} {l : List Da} {cap : Nat} {t : Ty} {w : World} (hr : RDas w w.heap.size A l) (h : TyOK l t) :
    Calls Try.prog 44 #[.slice A l.length cap, .agg #[.int .i64 t.data, .int .i64 t.index]] w fun e w' => e = .returned (.bool true) ∧ Below w.heap.size w w' := by rw [← dec_t h]; exact typeValid_spec A l cap t w hr
theorem typeV_no {A : Option Addr} {l : List Da} {cap : Nat} {t : Ty} {w : World} (hr : RDas w w.heap.size A l) (h : ¬ TyOK l t) :
    Calls Try.prog 44 #[.slice A l.length cap, .agg #[.int .i64 t.data, .int .i64 t.index]] w fun e w' => e = .returned (.bool false) ∧ Below w.heap.size w w' := by rw [← dec_f h]; exact typeValid_spec A l cap t w hr
theorem typeI_yes {A : Option Addr} {l : List Da} {cap : Nat} {t : Ty} {w : World} (hr : RDas w w.heap.size A l) (h : TyOK l t) :
    Calls Try.prog 19 #[.slice A l.length cap, .agg #[.int .i64 t.data, .int .i64 t.index]] w fun e w' => e = .returned (.bool true) ∧ Below w.heap.size w w' := by rw [← dec_t h]; exact typeValid_impl A l cap t w hr
theorem typeI_no {A : Option Addr} {l : List Da} {cap : Nat} {t : Ty} {w : World} (hr : RDas w w.heap.size A l) (h : ¬ TyOK l t) :
    Calls Try.prog 19 #[.slice A l.length cap, .agg #[.int .i64 t.data, .int .i64 t.index]] w fun e w' => e = .returned (.bool false) ∧ Below w.heap.size w w' := by rw [← dec_f h]; exact typeValid_impl A l cap t w hr

/-- What the two functions give for a valid type. -/
theorem l1Ctors_all (A : Option Addr) (l : List Da) (cap : Nat) (t : Ty) (w : World) (hr : RDas w w.heap.size A l) (h : TyOK l t) :
    Calls Try.prog 45 #[.slice A l.length cap, .agg #[.int .i64 t.data, .int .i64 t.index]] w fun e w' => ∃ v, e = .returned v ∧ OInts w' w.heap.size v (ctR l t) ∧ Below w.heap.size w w' := by
  rcases ty_cases h with h1 | ⟨d, h1, hd⟩
  · rw [ctR_int h1, h1]; exact l1Ctors_int A l.length cap t.index w
  · obtain ⟨td, ti⟩ := t
    simp only at h1
    subst h1
    rw [ctR_data h hd]
    exact (l1Ctors_data A l cap d ti hd (ty_four h hd) w hr).mono fun e w' ⟨v, he, ho, hb⟩ => ⟨v, he, ho.lower (by omega), hb⟩
theorem ctorsOf_all (A : Option Addr) (l : List Da) (cap : Nat) (t : Ty) (w : World) (hr : RDas w w.heap.size A l) (h : TyOK l t) :
    Calls Try.prog 43 #[.slice A l.length cap, .agg #[.int .i64 t.data, .int .i64 t.index]] w fun e w' => ∃ v, e = .returned v ∧ OInts w' w.heap.size v (ctR l t) ∧ Below w.heap.size w w' := by
  rcases ty_cases h with h1 | ⟨d, h1, hd⟩
  · rw [ctR_int h1, h1]; exact ctorsOf_int A l.length cap t.index w
  · obtain ⟨td, ti⟩ := t
    simp only at h1
    subst h1
    rw [ctR_data h hd]
    exact (ctorsOf_data A l cap d ti hd (ty_four h hd) w hr).mono fun e w' ⟨v, he, ho, hb⟩ => ⟨v, he, ho.lower (by omega), hb⟩

theorem ctors_spec (A : Option Addr) (l : List Da) (cap : Nat) (t : Ty) (w : World) (hr : RDas w w.heap.size A l) :
    Calls Try.prog 18 #[.slice A l.length cap, .agg #[.int .i64 t.data, .int .i64 t.index]] w fun e w' => ∃ v, e = .returned v ∧ OInts w' w.heap.size v (ctR l t) ∧ Below w.heap.size w w' := by
  have Hr := Lib.hid hr
  clear hr
  by_cases h : TyOK l t
  · go_enter Try.func18, Try.ntmps18
    go_wp2_with (first | (go_at_call 44; refine (typeV_yes (t := t) (by exact Hr.out.keep (keep_one _) (by simp)) h).mono ?_; rintro e w1 ⟨rfl, hb⟩; obtain ⟨hc, hfz⟩ := bcell hb; have hb1 := below_one hb) | (go_at_call 45; refine (l1Ctors_all _ l _ t _ (by exact Hr.out.keep (fun p hp => hb1.cell hp) hb1.size) h).mono ?_; rintro e w2 ⟨v, rfl, ho, hb2'⟩; have hb2 := hb1.trans (hb2'.mono hb1.size); have HO := Lib.hid (ho.lower hb1.size); clear ho))
    go_ret
    exact ⟨_, rfl, HO.out, hb2⟩
  · have HC := Lib.hid (ctR_no h)
    have HE : Hid (∀ w1 : World, w.heap.size ≤ w1.heap.size → OInts (w1.alloc (.cells #[] 3)) w.heap.size (.slice (some ⟨w1.heap.size, 0, none⟩) 0 0) []) := fun w1 hl => by
      have := World.ownsRow_lit (base := w.heap.size) (e := 3) (size := 1) w1 #[] 0 hl (by simp) rfl
      unfold OInts
      simpa using this
    go_enter Try.func18, Try.ntmps18
    go_wp2_with (go_at_call 44; refine (typeV_no (t := t) (by exact Hr.out.keep (keep_one _) (by simp)) h).mono ?_; rintro e w1 ⟨rfl, hb⟩; have hb1 := below_one hb; clear hb)
    go_ret
    exact ⟨_, rfl, by rw [HC.out]; exact HE.out _ hb1.size, hb1.alloc hb1.size _⟩
theorem ctors_impl (A : Option Addr) (l : List Da) (cap : Nat) (t : Ty) (w : World) (hr : RDas w w.heap.size A l) :
    Calls Try.prog 16 #[.slice A l.length cap, .agg #[.int .i64 t.data, .int .i64 t.index]] w fun e w' => ∃ v, e = .returned v ∧ OInts w' w.heap.size v (ctR l t) ∧ Below w.heap.size w w' := by
  have Hr := Lib.hid hr
  clear hr
  by_cases h : TyOK l t
  · go_enter Try.func16, Try.ntmps16
    go_wp2_with (first | (go_at_call 19; refine (typeI_yes (t := t) (by exact Hr.out.keep (keep_one _) (by simp)) h).mono ?_; rintro e w1 ⟨rfl, hb⟩; obtain ⟨hc, hfz⟩ := bcell hb; have hb1 := below_one hb) | (go_at_call 43; refine (ctorsOf_all _ l _ t _ (by exact Hr.out.keep (fun p hp => hb1.cell hp) hb1.size) h).mono ?_; rintro e w2 ⟨v, rfl, ho, hb2'⟩; have hb2 := hb1.trans (hb2'.mono hb1.size); have HO := Lib.hid (ho.lower hb1.size); clear ho))
    go_ret
    exact ⟨_, rfl, HO.out, hb2⟩
  · have HC := Lib.hid (ctR_no h)
    go_enter Try.func16, Try.ntmps16
    go_wp2_with (go_at_call 19; refine (typeI_no (t := t) (by exact Hr.out.keep (keep_one _) (by simp)) h).mono ?_; rintro e w1 ⟨rfl, hb⟩; have hb1 := below_one hb; clear hb)
    go_ret
    exact ⟨_, rfl, by rw [HC.out]; exact World.ownsRow_nil _ _ _ _, hb1⟩
end Go.Proofs.Ytholdmdkhbhokab
/-
  Lists of strings as they lie in memory; a string cut at a byte: the document's function. No statement is proved here.
-/
namespace Go.Proofs.Ytholdmdkhbhokab
open Go.RowKit
set_option maxRecDepth 100000
set_option linter.unusedVariables false

theorem info9 : (Try.prog.info? 9).map (fun i => (i.zero, i.size, i.bytes)) = some (some (.string ByteArray.empty), 1, 16) := by kernel_rfl
/-- Strings that read as a list. -/
def RStrs (w : World) (A : Option Addr) (l : List ByteArray) : Prop := l.length ≤ maxLen ∧ ∀ k (h : k < l.length), ∃ b off, A = some ⟨b, off, none⟩ ∧ b < w.heap.size ∧ w.cell? ⟨b, off + k, none⟩ = some (.string l[k])
/-- Strings in a row of the call's own. -/
def OStrs (w : World) (lo : Nat) (v : Value) (l : List ByteArray) : Prop := w.ownsRow lo 9 1 v l.length (l.map Value.string)
theorem RStrs.at_ {w w' : World} {A : Option Addr} {l : List ByteArray} (h : RStrs w A l) (hb : Below w.heap.size w w') : RStrs w' A l :=
  ⟨h.1, fun k hk => by
    obtain ⟨b, off, e, hlt, h1⟩ := h.2 k hk
    exact ⟨b, off, e, Nat.lt_of_lt_of_le hlt hb.size, (hb.cell (p := ⟨b, off + k, none⟩) hlt).trans h1⟩⟩
theorem OStrs.form {w : World} {lo : Nat} {v : Value} {l : List ByteArray} (h : OStrs w lo v l) (hl : l.length ≤ maxLen) : ∃ A cap, v = .slice A l.length cap ∧ RStrs w A l := by
  have h' : w.ownsRow lo 9 1 v l.length (l.map Value.string) := h
  rcases h'.2 with ⟨rfl, h0⟩ | ⟨g, cap, cur, rfl, hb, hg, hnc, hcm, hcs, htake⟩
  · exact ⟨none, 0, by rw [h0], hl, fun k hk => absurd hk (by omega)⟩
  · refine ⟨_, cap, rfl, hl, fun k hk => ⟨g, 0, rfl, own_lt h', ?_⟩⟩
    rw [Nat.zero_add, h'.cellAt k (by omega), List.getElem?_map, List.getElem?_eq_getElem hk]; rfl
theorem OStrs.at_ {w w' : World} {lo : Nat} {v : Value} {l : List ByteArray} (h : OStrs w lo v l) (hb : Below w.heap.size w w') : OStrs w' lo v l := own_below h hb
theorem OStrs.lower {w : World} {lo lo' : Nat} {v : Value} {l : List ByteArray} (h : OStrs w lo v l) (hl : lo' ≤ lo) : OStrs w lo' v l := by
  have h' : w.ownsRow lo 9 1 v l.length (l.map Value.string) := h
  refine ⟨h'.1, ?_⟩
  rcases h'.2 with h0 | ⟨g, cap, cur, a1, a2, a3⟩
  · exact .inl h0
  · exact .inr ⟨g, cap, cur, a1, by omega, a3⟩
theorem OStrs.app {w : World} {lo : Nat} {v : Value} {l : List ByteArray} {s : ByteArray} (h : w.ownsRow lo 9 1 v (l.length + 1) (l.map Value.string ++ [.string s])) : OStrs w lo v (l ++ [s]) := by
  unfold OStrs
  rw [List.length_append, List.map_append]
  exact h

/-- Is there the byte c in place k, or the end? -/
def cutAt (s : ByteArray) (c : Int) (k : Nat) : Bool := decide (k = s.size) || decide (((s.data.toList.getD k 0).toNat : Int) = c)
/-- The pieces before place k, and where the next one begins. -/
def cutGo (s : ByteArray) (c : Int) : Nat → List ByteArray × Nat
  | 0 => ([], 0)
  | k + 1 => if cutAt s c k then ((cutGo s c k).1 ++ [s.extract (cutGo s c k).2 k], k + 1) else cutGo s c k
def cutB (s : ByteArray) (c : Int) : List ByteArray := (cutGo s c (s.size + 1)).1
theorem cutGo_yes {s : ByteArray} {c : Int} {k : Nat} (h : cutAt s c k = true) : cutGo s c (k + 1) = ((cutGo s c k).1 ++ [s.extract (cutGo s c k).2 k], k + 1) := if_pos h
theorem cutGo_no {s : ByteArray} {c : Int} {k : Nat} (h : cutAt s c k = false) : cutGo s c (k + 1) = cutGo s c k := if_neg (by rw [h]; simp)
theorem cutGo_le (s : ByteArray) (c : Int) : ∀ k, (cutGo s c k).2 ≤ k ∧ (cutGo s c k).1.length ≤ k
  | 0 => ⟨Nat.le_refl _, Nat.le_refl _⟩
  | k + 1 => by
    obtain ⟨h1, h2⟩ := cutGo_le s c k
    by_cases h : cutAt s c k = true
    · rw [cutGo_yes h]; simp; omega
    · rw [cutGo_no (by simpa using h)]; omega
theorem cutB_len (s : ByteArray) (c : Int) : (cutB s c).length ≤ s.size + 1 := (cutGo_le s c _).2
theorem cutAt_end {s : ByteArray} {c : Int} {k : Nat} (h : k = s.size) : cutAt s c k = true := by unfold cutAt; simp [h]
theorem getD_byte {s : ByteArray} {k : Nat} (h : k < s.size) : s.data.toList.getD k 0 = s[k] := by
  rw [List.getD_eq_getElem?_getD, List.getElem?_eq_getElem (by simpa using h)]; rfl
theorem cutAt_in {s : ByteArray} {c : Int} {k : Nat} (h : k < s.size) : cutAt s c k = decide ((s[k].toNat : Int) = c) := by
  unfold cutAt
  rw [getD_byte h, decide_eq_false (show ¬ k = s.size by omega)]
  rfl

set_option maxHeartbeats 800000 in
theorem cut_any (s : ByteArray) (c : Int) (w : World) (hs : s.size ≤ 1048576) :
    Calls Try.prog 92 #[.string s, .int .u8 c] w fun e w' => ∃ v, e = .returned v ∧ OStrs w' w.heap.size v (cutB s c) ∧ Below w.heap.size w w' := by
  obtain ⟨i0, hi, hz0, hz1, hz2⟩ := info_parts info9
  have HO0 : Hid (OStrs (w.alloc (.cells #[] 9)) w.heap.size (.slice (some ⟨w.heap.size, 0, none⟩) 0 0) []) := by
    have := World.ownsRow_lit (base := w.heap.size) (e := 9) (size := 1) w #[] 0 (Nat.le_refl _) (by simp) rfl
    unfold Hid OStrs
    simpa using this
  have HB0 : Hid (∀ o : Obj, Below w.heap.size w (w.alloc o)) := fun o => (Below.refl _ _).alloc (Nat.le_refl _) _
  go_enter Try.func92, Try.ntmps92
  go_wp2_with fail
  go_loopw [5, 6, 7] (fun v f i wr => ∃ k : Nat, k ≤ s.size + 1 ∧ i = .int .i64 k ∧ f = .int .i64 (cutGo s c k).2 ∧ OStrs wr w.heap.size v (cutGo s c k).1 ∧ Below w.heap.size w wr) (fun _ _ i _ => s.size + 1 - (intOf i).toNat)
  case atStart => exact ⟨0, by omega, rfl, rfl, HO0.out, HB0.out _⟩
  case round =>
    clear HO0 HB0
    obtain ⟨k, hk, rfl, rfl, ho, hb⟩ := hrel
    have hsz := hb.size
    obtain ⟨hf1, hf2⟩ := cutGo_le s c k
    have HO := Lib.hid ho
    clear ho
    by_cases hlt : k < s.size + 1
    · have hkI : (k : Int) ≤ (s.size : Int) := by omega
      by_cases he : k = s.size
      · have HY := Lib.hid (cutGo_yes (c := c) (cutAt_end he))
        have q : ((k : Int) == (s.size : Int)) = true := beq_iff_eq.2 (by omega)
        generalize hg : (cutGo s c k).2 = f at hf1 HY
        generalize hg2 : (cutGo s c k).1 = L at hf2 HY HO
        clear hg hg2 he
        go_wp2_with (at_builtin; refine wpList_append_own _ rfl _ _ 90 rfl w.heap.size 9 i0 (.string ByteArray.empty) 1 16 Try.underlying90 hi hz0 hz1 hz2 rfl (by decide) _ _ _ rfl (HO.out.alloc _) ⟨wr.heap.size, 0, none⟩ 1 1 [.string (s.extract f k)] rfl rfl ?c1 ?c2 ?c3 ?c4 ?c5 ?_)
        case c1 => exact cell_one_one _ _ _
        case c2 => intro u hu; simp at hu; subst hu; rfl
        case c3 => unfold maxLen; omega
        case c4 => omega
        case c5 => simp; omega
        intro v' w1 hown' hgrow hnn
        have hb3 : Below w.heap.size w w1 := (hb.alloc (by omega) _).grown hgrow (by simp; omega) (fun g' e => (HO.out.lt g' e).1)
        have HO3 : Hid (OStrs w1 w.heap.size v' (cutGo s c (k + 1)).1) := by unfold Hid; rw [HY.out]; exact OStrs.app hown'
        have HF3 : Hid ((cutGo s c (k + 1)).2 = k + 1) := by unfold Hid; rw [HY.out]
        clear hown' hgrow hnn HO HY
        go_wp2_with fail
        go_roundw
        case rel => exact ⟨k + 1, by omega, by go_num, by rw [HF3.out]; go_num, HO3.out, hb3⟩
        case measure => simp [intOf]; omega
      · have hks : k < s.size := by omega
        have hksI : (k : Int) < (s.size : Int) := by omega
        have q : ((k : Int) == (s.size : Int)) = false := beq_eq_false_iff_ne.2 (by omega)
        by_cases hc : (s[k].toNat : Int) = c
        · have HY := Lib.hid (cutGo_yes (c := c) (by rw [cutAt_in hks]; exact decide_eq_true hc))
          have q2 := ieq_t hc
          generalize hg : (cutGo s c k).2 = f at hf1 HY
          generalize hg2 : (cutGo s c k).1 = L at hf2 HY HO
          clear hg hg2 he hc
          go_wp2_with (at_builtin; refine wpList_append_own _ rfl _ _ 90 rfl w.heap.size 9 i0 (.string ByteArray.empty) 1 16 Try.underlying90 hi hz0 hz1 hz2 rfl (by decide) _ _ _ rfl (HO.out.alloc _) ⟨wr.heap.size, 0, none⟩ 1 1 [.string (s.extract f k)] rfl rfl ?d1 ?d2 ?d3 ?d4 ?d5 ?_)
          case d1 => exact cell_one_one _ _ _
          case d2 => intro u hu; simp at hu; subst hu; rfl
          case d3 => unfold maxLen; omega
          case d4 => omega
          case d5 => simp; omega
          intro v' w1 hown' hgrow hnn
          have hb3 : Below w.heap.size w w1 := (hb.alloc (by omega) _).grown hgrow (by simp; omega) (fun g' e => (HO.out.lt g' e).1)
          have HO3 : Hid (OStrs w1 w.heap.size v' (cutGo s c (k + 1)).1) := by unfold Hid; rw [HY.out]; exact OStrs.app hown'
          have HF3 : Hid ((cutGo s c (k + 1)).2 = k + 1) := by unfold Hid; rw [HY.out]
          clear hown' hgrow hnn HO HY
          go_wp2_with fail
          go_roundw
          case rel => exact ⟨k + 1, by omega, by go_num, by rw [HF3.out]; go_num, HO3.out, hb3⟩
          case measure => simp [intOf]; omega
        · have HY := Lib.hid (cutGo_no (c := c) (by rw [cutAt_in hks]; exact decide_eq_false hc))
          have q2 := ieq_f hc
          clear he hc
          go_wp2_with fail
          go_roundw
          case rel => exact ⟨k + 1, by omega, by go_num, by rw [HY.out], by rw [HY.out]; exact HO.out, hb⟩
          case measure => simp [intOf]; omega
    · have he : k = s.size + 1 := by omega
      have hkI : (s.size : Int) < (k : Int) := by omega
      have HO3 : Hid (OStrs wr w.heap.size u5 (cutB s c)) := by unfold Hid cutB; rw [← he]; exact HO.out
      clear he HO
      go_wp2_with fail
      go_ret
      exact ⟨_, rfl, HO3.out, hb⟩
end Go.Proofs.Ytholdmdkhbhokab
/-
  The text of a mark. No statement is proved here.
-/
namespace Go.Proofs.Ytholdmdkhbhokab
open Go.RowKit
set_option maxRecDepth 100000
set_option linter.unusedVariables false

/-- A string of one byte. -/
def one (x : Int) : ByteArray := ByteArray.empty.push (UInt8.ofNat x.toNat)
theorem one_size (x : Int) : (one x).size = 1 := rfl
theorem conv_one (w : World) (x : Int) : (Go.convert 22 9 (.slice (some ⟨w.heap.size, 0, none⟩) 1 1)).run Try.prog (w.alloc (.cells #[.int .u8 x] 5)) = .ok (.string (one x)) (w.alloc (.cells #[.int .u8 x] 5)) := by
  rw [run_convert_bytes_string _ 22 9 5 _ 1 1 Try.underlying22 Try.underlying5 Try.underlying9]
  exact run_bytesToString _ ⟨w.heap.size, 0, none⟩ 1 1 [x] (by simp [loadCells, go_sem])
theorem quo_le {m : Int} (h : 0 < m) : 0 ≤ m / 10 ∧ m / 10 + 1 ≤ m := by omega

end Go.Proofs.Ytholdmdkhbhokab
/-
  The functions that count how much types, constructors and data types hold. No statement is proved here.
-/
namespace Go.Proofs.Ytholdmdkhbhokab
open Go.RowKit
set_option maxRecDepth 100000
set_option linter.unusedVariables false

theorem ret_i64 {a b : Int} (h : a = b) : Ending.returned (.int .i64 a) = .returned (.int .i64 b) := by rw [h]

end Go.Proofs.Ytholdmdkhbhokab
