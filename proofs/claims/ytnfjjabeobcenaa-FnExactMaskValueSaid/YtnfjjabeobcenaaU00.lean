/-
  Types, constructors and data types as they lie in memory: slices of structs that hold strings, integers and slices; and how much they hold. No statement is proved here.
-/
import Derived.Test.YtnfjjabeobcenaaRows
import Derived.WalkKit
import Derived.WalkSpells
import Derived.ProofKit
import Derived.Lib.Hide
import Derived.BigQuiet
import Derived.Deep.QuietTactic
namespace Go.Proofs.Ytnfjjabeobcenaa
open Go.RowKit
set_option linter.unusedVariables false
structure Ty where
  data : Int
  index : Int
deriving DecidableEq, Inhabited
structure Ct where
  name : ByteArray
  args : List Ty
  index : Int
deriving Inhabited
structure Da where
  name : ByteArray
  ctors : List Ct
deriving Inhabited
def RTy (w : World) (b o : Nat) (t : Ty) : Prop := w.cell? ⟨b, o, none⟩ = some (.int .i64 t.data) ∧ w.cell? ⟨b, o + 1, none⟩ = some (.int .i64 t.index)
def RTys (w : World) (B : Nat) (A : Option Addr) (l : List Ty) : Prop := l.length ≤ maxLen ∧ ∀ k (h : k < l.length), ∃ b off, A = some ⟨b, off, none⟩ ∧ b < B ∧ RTy w b (off + k * 2) l[k]
def RCt (w : World) (B : Nat) (b o : Nat) (c : Ct) : Prop :=
  ∃ A cap, w.cell? ⟨b, o, none⟩ = some (.string c.name) ∧ w.cell? ⟨b, o + 1, none⟩ = some (.slice A c.args.length cap) ∧ w.cell? ⟨b, o + 2, none⟩ = some (.int .i64 c.index) ∧ c.name.size ≤ maxLen ∧ RTys w B A c.args
def RCts (w : World) (B : Nat) (A : Option Addr) (l : List Ct) : Prop := l.length ≤ maxLen ∧ ∀ k (h : k < l.length), ∃ b off, A = some ⟨b, off, none⟩ ∧ b < B ∧ RCt w B b (off + k * 3) l[k]
def RDa (w : World) (B : Nat) (b o : Nat) (d : Da) : Prop :=
  ∃ A cap, w.cell? ⟨b, o, none⟩ = some (.string d.name) ∧ w.cell? ⟨b, o + 1, none⟩ = some (.slice A d.ctors.length cap) ∧ d.name.size ≤ maxLen ∧ RCts w B A d.ctors
def RDas (w : World) (B : Nat) (A : Option Addr) (l : List Da) : Prop := l.length ≤ maxLen ∧ ∀ k (h : k < l.length), ∃ b off, A = some ⟨b, off, none⟩ ∧ b < B ∧ RDa w B b (off + k * 2) l[k]
section
variable {w w' : World} {B B' : Nat} {A : Option Addr}
theorem RTys.keep {l : List Ty} (h : RTys w B A l) (hk : ∀ p : Addr, p.block < B → w'.cell? p = w.cell? p) (hB : B ≤ B') : RTys w' B' A l :=
  ⟨h.1, fun k hk' => by
    obtain ⟨b, off, e, hb, h1, h2⟩ := h.2 k hk'
    exact ⟨b, off, e, by omega, (hk _ hb).trans h1, (hk _ hb).trans h2⟩⟩
theorem RCts.keep {l : List Ct} (h : RCts w B A l) (hk : ∀ p : Addr, p.block < B → w'.cell? p = w.cell? p) (hB : B ≤ B') : RCts w' B' A l :=
  ⟨h.1, fun k hk' => by
    obtain ⟨b, off, e, hb, A', cap, h1, h2, h3, h4, h5⟩ := h.2 k hk'
    exact ⟨b, off, e, by omega, A', cap, (hk _ hb).trans h1, (hk _ hb).trans h2, (hk _ hb).trans h3, h4, h5.keep hk hB⟩⟩
theorem RDas.keep {l : List Da} (h : RDas w B A l) (hk : ∀ p : Addr, p.block < B → w'.cell? p = w.cell? p) (hB : B ≤ B') : RDas w' B' A l :=
  ⟨h.1, fun k hk' => by
    obtain ⟨b, off, e, hb, A', cap, h1, h2, h3, h4⟩ := h.2 k hk'
    exact ⟨b, off, e, by omega, A', cap, (hk _ hb).trans h1, (hk _ hb).trans h2, h3, h4.keep hk hB⟩⟩
theorem RTys.below {B0 : Nat} {l : List Ty} (h : RTys w B A l) (hb : Below B0 w w') (hB : B ≤ B0) : RTys w' B A l := h.keep (fun _ hp => hb.cell (Nat.lt_of_lt_of_le hp hB)) (Nat.le_refl _)
theorem RCts.below {B0 : Nat} {l : List Ct} (h : RCts w B A l) (hb : Below B0 w w') (hB : B ≤ B0) : RCts w' B A l := h.keep (fun _ hp => hb.cell (Nat.lt_of_lt_of_le hp hB)) (Nat.le_refl _)
theorem RDas.below {B0 : Nat} {l : List Da} (h : RDas w B A l) (hb : Below B0 w w') (hB : B ≤ B0) : RDas w' B A l := h.keep (fun _ hp => hb.cell (Nat.lt_of_lt_of_le hp hB)) (Nat.le_refl _)
end

/-! How much a value holds. -/
def wCt (c : Ct) : Nat := c.name.size + c.args.length
def wCts (l : List Ct) : Nat := l.length + (l.map wCt).sum
def wDa (d : Da) : Nat := d.name.size + wCts d.ctors
def wDas (l : List Da) : Nat := l.length + (l.map wDa).sum
/-- What is left of a number, or -1. -/
def left (l : Int) (n : Nat) : Int := if (n : Int) ≤ l then l - n else -1
theorem left_ok {l : Int} {n : Nat} (h : (n : Int) ≤ l) : left l n = l - n := if_pos h
theorem left_no {l : Int} {n : Nat} (h : ¬ (n : Int) ≤ l) : left l n = -1 := if_neg h
theorem sum_take_succ {α : Type} (f : α → Nat) (l : List α) (k : Nat) (h : k < l.length) : ((l.take (k + 1)).map f).sum = ((l.take k).map f).sum + f l[k] := by
  rw [List.take_succ_eq_append_getElem h]; simp only [List.map_append, List.sum_append, List.map_cons, List.map_nil, List.sum_cons, List.sum_nil]; omega
theorem sum_take_le {α : Type} (f : α → Nat) (l : List α) (k : Nat) : ((l.take k).map f).sum ≤ (l.map f).sum := by
  conv => rhs; rw [← List.take_append_drop k l]
  simp only [List.map_append, List.sum_append]; omega
end Go.Proofs.Ytnfjjabeobcenaa
/-
  Values as plain trees, and as they lie in memory. No statement is proved here.
-/
namespace Go.Proofs.Ytnfjjabeobcenaa
open Go.RowKit
set_option linter.unusedVariables false
inductive Vl where
  | mk (ctor n : Int) (kids : List Vl)
instance : Inhabited Vl := ⟨.mk 0 0 []⟩
def Vl.ctor : Vl → Int | .mk c _ _ => c
def Vl.n : Vl → Int | .mk _ n _ => n
def Vl.kids : Vl → List Vl | .mk _ _ ks => ks
mutual
/-- How many nodes lie below a node. -/
def wV : Vl → Nat | .mk _ _ ks => wVs ks
def wVs : List Vl → Nat | [] => 0 | v :: vs => 1 + wV v + wVs vs
end
theorem wV_kids (v : Vl) : wV v = wVs v.kids := by cases v; rw [wV]; rfl
theorem wVs_sum : ∀ l : List Vl, wVs l = l.length + (l.map wV).sum
  | [] => by rw [wVs]; rfl
  | v :: vs => by rw [wVs, wVs_sum vs]; simp only [List.length_cons, List.map_cons, List.sum_cons]; omega
/-- A value in three cells, its parts in blocks below B; at most d levels. -/
def RVl : Nat → World → Nat → Nat → Nat → Vl → Prop
  | 0, _, _, _, _, _ => False
  | d + 1, w, B, b, o, v => ∃ A cap, w.cell? ⟨b, o, none⟩ = some (.int .i64 v.ctor) ∧ w.cell? ⟨b, o + 1, none⟩ = some (.int .i64 v.n) ∧ w.cell? ⟨b, o + 2, none⟩ = some (.slice A v.kids.length cap) ∧ v.kids.length ≤ maxLen ∧ ∀ k (h : k < v.kids.length), ∃ b' off, A = some ⟨b', off, none⟩ ∧ b' < B ∧ RVl d w B b' (off + k * 3) v.kids[k]
def RVs (d : Nat) (w : World) (B : Nat) (A : Option Addr) (l : List Vl) : Prop := l.length ≤ maxLen ∧ ∀ k (h : k < l.length), ∃ b off, A = some ⟨b, off, none⟩ ∧ b < B ∧ RVl d w B b (off + k * 3) l[k]
section
variable {w w' : World} {B B' : Nat} {A : Option Addr}
theorem RVl.parts {d b o : Nat} {v : Vl} (h : RVl d w B b o v) : ∃ d', d = d' + 1 ∧ ∃ A cap, w.cell? ⟨b, o, none⟩ = some (.int .i64 v.ctor) ∧ w.cell? ⟨b, o + 1, none⟩ = some (.int .i64 v.n) ∧ w.cell? ⟨b, o + 2, none⟩ = some (.slice A v.kids.length cap) ∧ RVs d' w B A v.kids := by
  cases d with
  | zero => exact h.elim
  | succ d =>
    obtain ⟨A, cap, h1, h2, h3, h4, h5⟩ := h
    exact ⟨d, rfl, A, cap, h1, h2, h3, h4, h5⟩
theorem RVl.keep : ∀ (d : Nat) {b o : Nat} {v : Vl}, RVl d w B b o v → b < B → (∀ p : Addr, p.block < B → w'.cell? p = w.cell? p) → B ≤ B' → RVl d w' B' b o v
  | 0, _, _, _, h, _, _, _ => h.elim
  | d + 1, _, _, _, ⟨A, cap, h1, h2, h3, h4, h5⟩, hb, hk, hB => ⟨A, cap, (hk _ hb).trans h1, (hk _ hb).trans h2, (hk _ hb).trans h3, h4, fun k hk' => by
    obtain ⟨b', off, e, hb', hv⟩ := h5 k hk'
    exact ⟨b', off, e, by omega, RVl.keep d hv hb' hk hB⟩⟩
theorem RVs.keep {d : Nat} {l : List Vl} (h : RVs d w B A l) (hk : ∀ p : Addr, p.block < B → w'.cell? p = w.cell? p) (hB : B ≤ B') : RVs d w' B' A l :=
  ⟨h.1, fun k hk' => by
    obtain ⟨b, off, e, hb, hv⟩ := h.2 k hk'
    exact ⟨b, off, e, by omega, hv.keep d hb hk hB⟩⟩
theorem RVs.below {d B0 : Nat} {l : List Vl} (h : RVs d w B A l) (hb : Below B0 w w') (hB : B ≤ B0) : RVs d w' B A l := h.keep (fun _ hp => hb.cell (Nat.lt_of_lt_of_le hp hB)) (Nat.le_refl _)
theorem RVs.at_ {d : Nat} {l : List Vl} (h : RVs d w w.heap.size A l) (hb : Below w.heap.size w w') : RVs d w' w'.heap.size A l := h.keep (fun _ hp => hb.cell hp) hb.size
theorem RVs.nil {d : Nat} : RVs d w B A [] := ⟨Nat.zero_le _, fun k h => absurd h (Nat.not_lt_zero _)⟩
theorem RVl.up : ∀ (d : Nat) {b o : Nat} {v : Vl}, RVl d w B b o v → RVl (d + 1) w B b o v
  | 0, _, _, _, h => h.elim
  | d + 1, _, _, _, ⟨A, cap, h1, h2, h3, h4, h5⟩ => ⟨A, cap, h1, h2, h3, h4, fun k hk' => by
    obtain ⟨b', off, e, hb', hv⟩ := h5 k hk'
    exact ⟨b', off, e, hb', RVl.up d hv⟩⟩
theorem RVl.more {d d' b o : Nat} {v : Vl} (h : RVl d w B b o v) (hd : d ≤ d') : RVl d' w B b o v := by
  obtain ⟨e, rfl⟩ := Nat.exists_eq_add_of_le hd
  clear hd
  induction e with
  | zero => exact h
  | succ e ih => exact RVl.up _ ih
theorem RVs.more {d d' : Nat} {l : List Vl} (h : RVs d w B A l) (hd : d ≤ d') : RVs d' w B A l :=
  ⟨h.1, fun k hk => by obtain ⟨b, off, e, hb, hv⟩ := h.2 k hk; exact ⟨b, off, e, hb, hv.more hd⟩⟩
end
end Go.Proofs.Ytnfjjabeobcenaa
/-
  The function FnExactNameValid returns true for every string, and the string reads behind the call as it read before. No condition.
-/
namespace Go.Proofs.Ytnfjjabeobcenaa
open Go.RowKit
open Go.ChangeShapes Go.WideShapes Go.ChangeAt
open Go.ChangeMaps (open_string shut_string)
set_option maxRecDepth 100000
set_option linter.unusedVariables false
theorem ret_bool {a b : Bool} (h : a = b) : Ending.returned (.bool a) = .returned (.bool b) := by rw [h]
def upB (c : Int) : Bool := decide (65 ≤ c) && decide (c ≤ 90)
def lowB (c : UInt8) : Bool := decide (97 ≤ (c.toNat : Int)) && decide ((c.toNat : Int) ≤ 122)
theorem up_ge {c : Int} (h : ¬ c < 65) : decide (c ≤ 90) = upB c := by
  unfold upB; rw [show decide (65 ≤ c) = true by simp; omega]; rfl
theorem up_lt {c : Int} (h : c < 65) : false = upB c := by
  unfold upB; rw [show decide (65 ≤ c) = false by simp; omega]; rfl
theorem isUpper_any (c : Int) (w : World) :
    Calls Try.prog 102 #[.int .u8 c] w fun e w' => e = .returned (.bool (upB c)) ∧ w = w' := by
  by_cases h : c < 65
  · go_enter Try.func102, Try.ntmps102
    go_wp2
    all_goals go_ret
    exact ⟨ret_bool (up_lt h), rfl⟩
  · go_enter Try.func102, Try.ntmps102
    go_wp2
    all_goals go_ret
    exact ⟨ret_bool (up_ge (by omega)), rfl⟩
theorem big_any (c : Int) (w : World) :
    Calls Try.prog 90 #[.int .u8 c] w fun e w' => e = .returned (.bool (upB c)) ∧ w = w' := by
  by_cases h : c < 65
  · go_enter Try.func90, Try.ntmps90
    go_wp2
    all_goals go_ret
    exact ⟨ret_bool (up_lt h), rfl⟩
  · go_enter Try.func90, Try.ntmps90
    go_wp2
    all_goals go_ret
    exact ⟨ret_bool (up_ge (by omega)), rfl⟩
/-- The name of a constructor: a length from 1 to 5, an uppercase letter, lowercase letters. -/
def lowsUpto (s : ByteArray) (k : Nat) : Bool := ((s.data.toList.take k).drop 1).all lowB
def nameB (s : ByteArray) : Bool :=
  decide (0 < s.size) && (decide (s.size ≤ 5) && (upB ((s.data.toList.headD 0).toNat) && lowsUpto s s.size))
theorem name_empty {s : ByteArray} (h : s.size = 0) : false = nameB s := by unfold nameB; simp [h]
theorem name_long {s : ByteArray} (h : 5 < s.size) : false = nameB s := by
  unfold nameB; rw [show decide (s.size ≤ 5) = false by simp; omega]; simp
theorem head_eq {s : ByteArray} (h0 : 0 < s.size) : s.data.toList.headD 0 = s[0]'h0 := by
  have : s.data.toList = s.data.toList[0]'(by simpa using h0) :: s.data.toList.drop 1 := by
    rw [← List.drop_eq_getElem_cons]; rfl
  rw [this]; rfl
theorem name_small {s : ByteArray} (h0 : 0 < s.size) (h : upB (s[0]'h0).toNat = false) : false = nameB s := by
  unfold nameB; rw [head_eq h0, h]; simp
theorem name_go {s : ByteArray} (h0 : 0 < s.size) (h5 : s.size ≤ 5) (h : upB (s[0]'h0).toNat = true) : nameB s = lowsUpto s s.size := by
  unfold nameB; rw [head_eq h0, h]; simp [h0, h5]
theorem lows_one (s : ByteArray) : lowsUpto s 1 = true := by
  unfold lowsUpto; cases s.data.toList <;> simp
theorem lows_snoc {s : ByteArray} {k : Nat} (h1 : 1 ≤ k) (hk : k < s.size) : lowsUpto s (k + 1) = (lowsUpto s k && lowB s[k]) := by
  unfold lowsUpto
  rw [List.take_succ_eq_append_getElem (by simpa using hk), List.drop_append_of_le_length (by simp; omega), List.all_append]
  simp; rfl
theorem lows_more {s : ByteArray} {k : Nat} (d : Nat) (h : lowsUpto s k = false) : lowsUpto s (k + d) = false := by
  unfold lowsUpto at h ⊢
  rw [List.all_eq_false] at h ⊢
  obtain ⟨x, hx, hn⟩ := h
  refine ⟨x, ?_, hn⟩
  have : s.data.toList.take (k + d) = s.data.toList.take k ++ (s.data.toList.drop k).take d := by rw [List.take_add]
  rw [this]
  by_cases hl : 1 ≤ (s.data.toList.take k).length
  · rw [List.drop_append_of_le_length hl]; exact List.mem_append_left _ hx
  · have : s.data.toList.take k = [] := by
      apply List.eq_nil_of_length_eq_zero; omega
    rw [this] at hx; simp at hx
theorem lows_bad {s : ByteArray} {k : Nat} (h1 : 1 ≤ k) (hk : k < s.size) (h : lowB s[k] = false) : false = lowsUpto s s.size := by
  have := lows_more (s := s) (k := k + 1) (s.size - (k + 1)) (by rw [lows_snoc h1 hk, h]; simp)
  rw [← this]; congr 1; omega
theorem lowB_f {c : UInt8} (h : (c.toNat : Int) < 97 ∨ 122 < (c.toNat : Int)) : lowB c = false := by
  unfold lowB
  rcases h with h | h
  · rw [show decide (97 ≤ (c.toNat : Int)) = false by simp; omega]; rfl
  · rw [show decide ((c.toNat : Int) ≤ 122) = false by simp; omega]; simp
theorem lowB_t {c : UInt8} (h : 97 ≤ (c.toNat : Int)) (h' : (c.toNat : Int) ≤ 122) : lowB c = true := by
  unfold lowB; simp only [decide_eq_true h, decide_eq_true h', Bool.and_self]
theorem isEmpty_of {s : ByteArray} (h : s.size = 0) : s.toList = [] := by
  rw [ByteArray.toList_eq]; exact List.eq_nil_of_length_eq_zero (by simpa using h)
theorem notEmpty_of {s : ByteArray} (h : ¬ s.size = 0) : ¬ s.toList = [] := by
  rw [ByteArray.toList_eq]; intro e; exact h (by simpa using congrArg List.length e)
theorem notEmpty_of' {s : ByteArray} (h : ¬ s.size = 0) : s.toList.isEmpty = false := by
  simpa using notEmpty_of h
theorem isLower_t (c : UInt8) (w : World) (h : lowB c = true) :
    Calls Try.prog 106 #[.int .u8 c.toNat] w fun e w' => e = .returned (.bool true) ∧ w = w' := by
  have h1 : 97 ≤ (c.toNat : Int) ∧ (c.toNat : Int) ≤ 122 := by unfold lowB at h; simpa using h
  obtain ⟨h1, h2⟩ := h1
  clear h
  go_enter Try.func106, Try.ntmps106
  go_wp2
  all_goals go_ret
  exact ⟨ret_bool (by simp), rfl⟩
theorem isLower_f (c : UInt8) (w : World) (h : lowB c = false) :
    Calls Try.prog 106 #[.int .u8 c.toNat] w fun e w' => e = .returned (.bool false) ∧ w = w' := by
  by_cases h1 : (c.toNat : Int) < 97
  · clear h
    go_enter Try.func106, Try.ntmps106
    go_wp2
    all_goals go_ret
    exact ⟨rfl, rfl⟩
  · have h2 : ¬ (c.toNat : Int) ≤ 122 := by unfold lowB at h; simp at h; omega
    clear h
    go_enter Try.func106, Try.ntmps106
    go_wp2
    all_goals go_ret
    exact ⟨ret_bool (by simp), rfl⟩
set_option maxHeartbeats 400000 in
theorem nameV_impl (s : ByteArray) (w : World) (hs : s.size ≤ maxLen) :
    Calls Try.prog 105 #[.string s] w fun e w' => e = .returned (.bool (nameB s)) ∧ w = w' := by
  unfold maxLen at hs
  by_cases h0 : s.size = 0
  · have h0' : s.toList = [] := isEmpty_of h0
    go_enter Try.func105, Try.ntmps105
    go_wp2_with fail
    go_ret
    exact ⟨ret_bool (name_empty h0), rfl⟩
  · have h0' := notEmpty_of h0
    have h0'' := notEmpty_of' h0
    by_cases h5 : 5 < s.size
    · go_enter Try.func105, Try.ntmps105
      go_wp2_with fail
      go_ret
      exact ⟨ret_bool (name_long h5), rfl⟩
    · have hp : 0 < s.size := by omega
      have h5' : s.size ≤ 5 := by omega
      have h5b : decide (5 < (s.size : Int)) = false := by simp; omega
      by_cases hu : upB (s[0]'hp).toNat = true
      · have H := Lib.hid (name_go hp h5' hu)
        go_enter Try.func105, Try.ntmps105
        go_wp2_with (go_at_call 102; refine (isUpper_any _ _).mono ?_; rintro e w' ⟨rfl, rfl⟩)
        go_loop [3] (fun i => ∃ k : Nat, 1 ≤ k ∧ k ≤ s.size ∧ lowsUpto s k = true ∧ i = .int .i64 k) (fun i => s.size - (intOf i).toNat)
        case atStart => exact ⟨1, by omega, by omega, lows_one s, rfl⟩
        case round =>
          obtain ⟨k, hk1, hk, hl, rfl⟩ := hrel
          have HL := Lib.hid hl
          clear hl
          by_cases hlt : k < s.size
          · have HS := Lib.hid (lows_snoc hk1 hlt)
            by_cases hb : lowB s[k] = true
            · have HB := Lib.hid hb
              clear hb
              go_wp2_with (go_at_call 106; refine (isLower_t _ _ HB.out).mono ?_; rintro e w' ⟨rfl, rfl⟩)
              go_round
              case rel => exact ⟨k + 1, by omega, by omega, by rw [HS.out, HL.out, HB.out]; rfl, by go_num⟩
              case measure => simp [intOf]; omega
            · have hb' : lowB s[k] = false := by simpa using hb
              have HB := Lib.hid hb'
              have HC := Lib.hid (lows_bad hk1 hlt hb')
              clear hb hb'
              go_wp2_with (go_at_call 106; refine (isLower_f _ _ HB.out).mono ?_; rintro e w' ⟨rfl, rfl⟩)
              go_ret
              exact ⟨ret_bool (by rw [H.out]; exact HC.out), rfl⟩
          · go_wp2
            go_ret
            exact ⟨ret_bool (by rw [H.out, ← HL.out]; congr 1; omega), rfl⟩
      · have hu' : upB (s[0]'hp).toNat = false := by simpa using hu
        clear hu
        go_enter Try.func105, Try.ntmps105
        go_wp2_with (go_at_call 102; refine (isUpper_any _ _).mono ?_; rintro e w' ⟨rfl, rfl⟩)
        go_ret
        exact ⟨ret_bool (name_small hp hu'), rfl⟩
theorem nameV_spec (s : ByteArray) (w : World) (hs : s.size ≤ maxLen) :
    Calls Try.prog 91 #[.string s] w fun e w' => e = .returned (.bool (nameB s)) ∧ w = w' := by
  unfold maxLen at hs
  by_cases h0 : s.size = 0
  · have h0' : ((s.size : Int) == 0) = true := by simpa using h0
    go_enter Try.func91, Try.ntmps91
    go_wp2_with fail
    go_ret
    exact ⟨ret_bool (name_empty h0), rfl⟩
  · have h0' : ((s.size : Int) == 0) = false := by simpa using h0
    by_cases h5 : 5 < s.size
    · go_enter Try.func91, Try.ntmps91
      go_wp2_with fail
      go_ret
      exact ⟨ret_bool (name_long h5), rfl⟩
    · have hp : 0 < s.size := by omega
      have h5' : s.size ≤ 5 := by omega
      have h5b : decide (5 < (s.size : Int)) = false := by simp; omega
      by_cases hu : upB (s[0]'hp).toNat = true
      · have H := Lib.hid (name_go hp h5' hu)
        go_enter Try.func91, Try.ntmps91
        go_wp2_with (go_at_call 90; refine (big_any _ _).mono ?_; rintro e w' ⟨rfl, rfl⟩)
        go_loop [3] (fun i => ∃ k : Nat, 1 ≤ k ∧ k ≤ s.size ∧ lowsUpto s k = true ∧ i = .int .i64 k) (fun i => s.size - (intOf i).toNat)
        case atStart => exact ⟨1, by omega, by omega, lows_one s, rfl⟩
        case round =>
          obtain ⟨k, hk1, hk, hl, rfl⟩ := hrel
          have HL := Lib.hid hl
          clear hl
          by_cases hlt : k < s.size
          · have HS := Lib.hid (lows_snoc hk1 hlt)
            by_cases hb : (s[k].toNat : Int) < 97
            · have HB := Lib.hid (lows_bad hk1 hlt (lowB_f (.inl hb)))
              go_wp2
              go_ret
              exact ⟨ret_bool (by rw [H.out]; exact HB.out), rfl⟩
            · by_cases hc : 122 < (s[k].toNat : Int)
              · have HB := Lib.hid (lows_bad hk1 hlt (lowB_f (.inr hc)))
                go_wp2
                go_ret
                exact ⟨ret_bool (by rw [H.out]; exact HB.out), rfl⟩
              · have hg : decide ((s[k].toNat : Int) < 97) = false := by simpa using hb
                have hg' : decide (122 < (s[k].toNat : Int)) = false := by simpa using hc
                have HB := Lib.hid (lowB_t (c := s[k]) (by omega) (by omega))
                go_wp2
                go_round
                case rel => exact ⟨k + 1, by omega, by omega, by rw [HS.out, HL.out, HB.out]; rfl, by go_num⟩
                case measure => simp [intOf]; omega
          · go_wp2
            go_ret
            exact ⟨ret_bool (by rw [H.out, ← HL.out]; congr 1; omega), rfl⟩
      · have hu' : upB (s[0]'hp).toNat = false := by simpa using hu
        clear hu
        go_enter Try.func91, Try.ntmps91
        go_wp2_with (go_at_call 90; refine (big_any _ _).mono ?_; rintro e w' ⟨rfl, rfl⟩)
        go_ret
        exact ⟨ret_bool (name_small hp hu'), rfl⟩
end Go.Proofs.Ytnfjjabeobcenaa
