/-
  Types, constructors and data types as they lie in memory: slices of structs that hold strings, integers and slices; and how much they hold. No statement is proved here.
-/
import Derived.Test.YtphmhlekfmkdkaaRows
import Derived.WalkKit
import Derived.WalkSpells
import Derived.ProofKit
import Derived.Lib.Hide
import Derived.BigQuiet
import Derived.Deep.QuietTactic
namespace Go.Proofs.Ytphmhlekfmkdkaa
open Go.RowKit
set_option linter.unusedVariables false

structure Ty where
  data : Int
  index : Int
deriving DecidableEq, Inhabited
structure Ct where
  name : ByteArray
  args : List Ty
  index : Int
deriving Inhabited
structure Da where
  name : ByteArray
  ctors : List Ct
deriving Inhabited

def RTy (w : World) (b o : Nat) (t : Ty) : Prop := w.cell? ⟨b, o, none⟩ = some (.int .i64 t.data) ∧ w.cell? ⟨b, o + 1, none⟩ = some (.int .i64 t.index)
def RTys (w : World) (B : Nat) (A : Option Addr) (l : List Ty) : Prop := l.length ≤ maxLen ∧ ∀ k (h : k < l.length), ∃ b off, A = some ⟨b, off, none⟩ ∧ b < B ∧ RTy w b (off + k * 2) l[k]
def RCt (w : World) (B : Nat) (b o : Nat) (c : Ct) : Prop :=
  ∃ A cap, w.cell? ⟨b, o, none⟩ = some (.string c.name) ∧ w.cell? ⟨b, o + 1, none⟩ = some (.slice A c.args.length cap) ∧ w.cell? ⟨b, o + 2, none⟩ = some (.int .i64 c.index) ∧ c.name.size ≤ maxLen ∧ RTys w B A c.args
def RCts (w : World) (B : Nat) (A : Option Addr) (l : List Ct) : Prop := l.length ≤ maxLen ∧ ∀ k (h : k < l.length), ∃ b off, A = some ⟨b, off, none⟩ ∧ b < B ∧ RCt w B b (off + k * 3) l[k]
def RDa (w : World) (B : Nat) (b o : Nat) (d : Da) : Prop :=
  ∃ A cap, w.cell? ⟨b, o, none⟩ = some (.string d.name) ∧ w.cell? ⟨b, o + 1, none⟩ = some (.slice A d.ctors.length cap) ∧ d.name.size ≤ maxLen ∧ RCts w B A d.ctors
def RDas (w : World) (B : Nat) (A : Option Addr) (l : List Da) : Prop := l.length ≤ maxLen ∧ ∀ k (h : k < l.length), ∃ b off, A = some ⟨b, off, none⟩ ∧ b < B ∧ RDa w B b (off + k * 2) l[k]

section
variable {w w' : World} {B B' : Nat} {A : Option Addr}
theorem RTys.keep {l : List Ty} (h : RTys w B A l) (hk : ∀ p : Addr, p.block < B → w'.cell? p = w.cell? p) (hB : B ≤ B') : RTys w' B' A l :=
  ⟨h.1, fun k hk' => by
    obtain ⟨b, off, e, hb, h1, h2⟩ := h.2 k hk'
    exact ⟨b, off, e, by omega, (hk _ hb).trans h1, (hk _ hb).trans h2⟩⟩
theorem RCts.keep {l : List Ct} (h : RCts w B A l) (hk : ∀ p : Addr, p.block < B → w'.cell? p = w.cell? p) (hB : B ≤ B') : RCts w' B' A l :=
  ⟨h.1, fun k hk' => by
    obtain ⟨b, off, e, hb, A', cap, h1, h2, h3, h4, h5⟩ := h.2 k hk'
    exact ⟨b, off, e, by omega, A', cap, (hk _ hb).trans h1, (hk _ hb).trans h2, (hk _ hb).trans h3, h4, h5.keep hk hB⟩⟩
theorem RDas.keep {l : List Da} (h : RDas w B A l) (hk : ∀ p : Addr, p.block < B → w'.cell? p = w.cell? p) (hB : B ≤ B') : RDas w' B' A l :=
  ⟨h.1, fun k hk' => by
    obtain ⟨b, off, e, hb, A', cap, h1, h2, h3, h4⟩ := h.2 k hk'
    exact ⟨b, off, e, by omega, A', cap, (hk _ hb).trans h1, (hk _ hb).trans h2, h3, h4.keep hk hB⟩⟩
theorem RTys.below {B0 : Nat} {l : List Ty} (h : RTys w B A l) (hb : Below B0 w w') (hB : B ≤ B0) : RTys w' B A l := h.keep (fun _ hp => hb.cell (Nat.lt_of_lt_of_le hp hB)) (Nat.le_refl _)
theorem RCts.below {B0 : Nat} {l : List Ct} (h : RCts w B A l) (hb : Below B0 w w') (hB : B ≤ B0) : RCts w' B A l := h.keep (fun _ hp => hb.cell (Nat.lt_of_lt_of_le hp hB)) (Nat.le_refl _)
theorem RDas.below {B0 : Nat} {l : List Da} (h : RDas w B A l) (hb : Below B0 w w') (hB : B ≤ B0) : RDas w' B A l := h.keep (fun _ hp => hb.cell (Nat.lt_of_lt_of_le hp hB)) (Nat.le_refl _)
end

/-! How much a value holds. -/
def wCt (c : Ct) : Nat := c.name.size + c.args.length
def wCts (l : List Ct) : Nat := l.length + (l.map wCt).sum
def wDa (d : Da) : Nat := d.name.size + wCts d.ctors
def wDas (l : List Da) : Nat := l.length + (l.map wDa).sum
/-- What is left of a number, or -1. -/
def left (l : Int) (n : Nat) : Int := if (n : Int) ≤ l then l - n else -1
theorem left_ok {l : Int} {n : Nat} (h : (n : Int) ≤ l) : left l n = l - n := if_pos h
theorem left_no {l : Int} {n : Nat} (h : ¬ (n : Int) ≤ l) : left l n = -1 := if_neg h
theorem sum_take_succ {α : Type} (f : α → Nat) (l : List α) (k : Nat) (h : k < l.length) : ((l.take (k + 1)).map f).sum = ((l.take k).map f).sum + f l[k] := by
  rw [List.take_succ_eq_append_getElem h]; simp only [List.map_append, List.sum_append, List.map_cons, List.map_nil, List.sum_cons, List.sum_nil]; omega
theorem sum_take_le {α : Type} (f : α → Nat) (l : List α) (k : Nat) : ((l.take k).map f).sum ≤ (l.map f).sum := by
  conv => rhs; rw [← List.take_append_drop k l]
  simp only [List.map_append, List.sum_append]; omega
end Go.Proofs.Ytphmhlekfmkdkaa
/-
  Patterns as plain trees, and as they lie in memory. No statement is proved here.
-/
namespace Go.Proofs.Ytphmhlekfmkdkaa
open Go.RowKit
set_option linter.unusedVariables false

inductive Pt where
  | mk (op ctor n m var : Int) (kids : List Pt)
instance : Inhabited Pt := ⟨.mk 0 0 0 0 0 []⟩
def Pt.op : Pt → Int | .mk x _ _ _ _ _ => x
def Pt.ctor : Pt → Int | .mk _ x _ _ _ _ => x
def Pt.n : Pt → Int | .mk _ _ x _ _ _ => x
def Pt.m : Pt → Int | .mk _ _ _ x _ _ => x
def Pt.var : Pt → Int | .mk _ _ _ _ x _ => x
def Pt.kids : Pt → List Pt | .mk _ _ _ _ _ ks => ks

mutual
/-- How many nodes lie below a node. -/
def wP : Pt → Nat | .mk _ _ _ _ _ ks => wPs ks
def wPs : List Pt → Nat | [] => 0 | v :: vs => 1 + wP v + wPs vs
end
theorem wP_kids (v : Pt) : wP v = wPs v.kids := by cases v; rw [wP]; rfl
theorem wPs_sum : ∀ l : List Pt, wPs l = l.length + (l.map wP).sum
  | [] => by rw [wPs]; rfl
  | v :: vs => by rw [wPs, wPs_sum vs]; simp only [List.length_cons, List.map_cons, List.sum_cons]; omega

/-- A tree in 6 cells, its parts in blocks below B; at most d levels. -/
def RPl : Nat → World → Nat → Nat → Nat → Pt → Prop
  | 0, _, _, _, _, _ => False
  | d + 1, w, B, b, o, v => ∃ A cap, w.cell? ⟨b, o, none⟩ = some (.int .i64 v.op) ∧ w.cell? ⟨b, o + 1, none⟩ = some (.int .i64 v.ctor) ∧ w.cell? ⟨b, o + 2, none⟩ = some (.int .i64 v.n) ∧ w.cell? ⟨b, o + 3, none⟩ = some (.int .i64 v.m) ∧ w.cell? ⟨b, o + 4, none⟩ = some (.int .i64 v.var) ∧ w.cell? ⟨b, o + 5, none⟩ = some (.slice A v.kids.length cap) ∧ v.kids.length ≤ maxLen ∧ ∀ k (h : k < v.kids.length), ∃ b' off, A = some ⟨b', off, none⟩ ∧ b' < B ∧ RPl d w B b' (off + k * 6) v.kids[k]
def RPs (d : Nat) (w : World) (B : Nat) (A : Option Addr) (l : List Pt) : Prop := l.length ≤ maxLen ∧ ∀ k (h : k < l.length), ∃ b off, A = some ⟨b, off, none⟩ ∧ b < B ∧ RPl d w B b (off + k * 6) l[k]

section
variable {w w' : World} {B B' : Nat} {A : Option Addr}
theorem RPl.parts {d b o : Nat} {v : Pt} (h : RPl d w B b o v) : ∃ d', d = d' + 1 ∧ ∃ A cap, w.cell? ⟨b, o, none⟩ = some (.int .i64 v.op) ∧ w.cell? ⟨b, o + 1, none⟩ = some (.int .i64 v.ctor) ∧ w.cell? ⟨b, o + 2, none⟩ = some (.int .i64 v.n) ∧ w.cell? ⟨b, o + 3, none⟩ = some (.int .i64 v.m) ∧ w.cell? ⟨b, o + 4, none⟩ = some (.int .i64 v.var) ∧ w.cell? ⟨b, o + 5, none⟩ = some (.slice A v.kids.length cap) ∧ RPs d' w B A v.kids := by
  cases d with
  | zero => exact h.elim
  | succ d =>
    obtain ⟨A, cap, h0, h1, h2, h3, h4, h5, h8, h9⟩ := h
    exact ⟨d, rfl, A, cap, h0, h1, h2, h3, h4, h5, h8, h9⟩
theorem RPl.keep : ∀ (d : Nat) {b o : Nat} {v : Pt}, RPl d w B b o v → b < B → (∀ p : Addr, p.block < B → w'.cell? p = w.cell? p) → B ≤ B' → RPl d w' B' b o v
  | 0, _, _, _, h, _, _, _ => h.elim
  | d + 1, _, _, _, ⟨A, cap, h0, h1, h2, h3, h4, h5, h8, h9⟩, hb, hk, hB => ⟨A, cap, (hk _ hb).trans h0, (hk _ hb).trans h1, (hk _ hb).trans h2, (hk _ hb).trans h3, (hk _ hb).trans h4, (hk _ hb).trans h5, h8, fun k hk' => by
    obtain ⟨b', off, e, hb', hv⟩ := h9 k hk'
    exact ⟨b', off, e, by omega, RPl.keep d hv hb' hk hB⟩⟩
theorem RPs.keep {d : Nat} {l : List Pt} (h : RPs d w B A l) (hk : ∀ p : Addr, p.block < B → w'.cell? p = w.cell? p) (hB : B ≤ B') : RPs d w' B' A l :=
  ⟨h.1, fun k hk' => by
    obtain ⟨b, off, e, hb, hv⟩ := h.2 k hk'
    exact ⟨b, off, e, by omega, hv.keep d hb hk hB⟩⟩
theorem RPs.below {d B0 : Nat} {l : List Pt} (h : RPs d w B A l) (hb : Below B0 w w') (hB : B ≤ B0) : RPs d w' B A l := h.keep (fun _ hp => hb.cell (Nat.lt_of_lt_of_le hp hB)) (Nat.le_refl _)
theorem RPs.at_ {d : Nat} {l : List Pt} (h : RPs d w w.heap.size A l) (hb : Below w.heap.size w w') : RPs d w' w'.heap.size A l := h.keep (fun _ hp => hb.cell hp) hb.size
theorem RPs.nil {d : Nat} : RPs d w B A [] := ⟨Nat.zero_le _, fun k h => absurd h (Nat.not_lt_zero _)⟩
theorem RPl.up : ∀ (d : Nat) {b o : Nat} {v : Pt}, RPl d w B b o v → RPl (d + 1) w B b o v
  | 0, _, _, _, h => h.elim
  | d + 1, _, _, _, ⟨A, cap, h0, h1, h2, h3, h4, h5, h8, h9⟩ => ⟨A, cap, h0, h1, h2, h3, h4, h5, h8, fun k hk' => by
    obtain ⟨b', off, e, hb', hv⟩ := h9 k hk'
    exact ⟨b', off, e, hb', RPl.up d hv⟩⟩
theorem RPl.more {d d' b o : Nat} {v : Pt} (h : RPl d w B b o v) (hd : d ≤ d') : RPl d' w B b o v := by
  obtain ⟨e, rfl⟩ := Nat.exists_eq_add_of_le hd
  clear hd
  induction e with
  | zero => exact h
  | succ e ih => exact RPl.up _ ih
theorem RPs.more {d d' : Nat} {l : List Pt} (h : RPs d w B A l) (hd : d ≤ d') : RPs d' w B A l :=
  ⟨h.1, fun k hk => by obtain ⟨b, off, e, hb, hv⟩ := h.2 k hk; exact ⟨b, off, e, hb, hv.more hd⟩⟩
end
end Go.Proofs.Ytphmhlekfmkdkaa
/-
  Values as plain trees, and as they lie in memory. No statement is proved here.
-/
namespace Go.Proofs.Ytphmhlekfmkdkaa
open Go.RowKit
set_option linter.unusedVariables false

inductive Vl where
  | mk (ctor n : Int) (kids : List Vl)
instance : Inhabited Vl := ⟨.mk 0 0 []⟩
def Vl.ctor : Vl → Int | .mk c _ _ => c
def Vl.n : Vl → Int | .mk _ n _ => n
def Vl.kids : Vl → List Vl | .mk _ _ ks => ks

mutual
/-- How many nodes lie below a node. -/
def wV : Vl → Nat | .mk _ _ ks => wVs ks
def wVs : List Vl → Nat | [] => 0 | v :: vs => 1 + wV v + wVs vs
end
theorem wV_kids (v : Vl) : wV v = wVs v.kids := by cases v; rw [wV]; rfl
theorem wVs_sum : ∀ l : List Vl, wVs l = l.length + (l.map wV).sum
  | [] => by rw [wVs]; rfl
  | v :: vs => by rw [wVs, wVs_sum vs]; simp only [List.length_cons, List.map_cons, List.sum_cons]; omega

/-- A value in three cells, its parts in blocks below B; at most d levels. -/
def RVl : Nat → World → Nat → Nat → Nat → Vl → Prop
  | 0, _, _, _, _, _ => False
  | d + 1, w, B, b, o, v => ∃ A cap, w.cell? ⟨b, o, none⟩ = some (.int .i64 v.ctor) ∧ w.cell? ⟨b, o + 1, none⟩ = some (.int .i64 v.n) ∧ w.cell? ⟨b, o + 2, none⟩ = some (.slice A v.kids.length cap) ∧ v.kids.length ≤ maxLen ∧ ∀ k (h : k < v.kids.length), ∃ b' off, A = some ⟨b', off, none⟩ ∧ b' < B ∧ RVl d w B b' (off + k * 3) v.kids[k]
def RVs (d : Nat) (w : World) (B : Nat) (A : Option Addr) (l : List Vl) : Prop := l.length ≤ maxLen ∧ ∀ k (h : k < l.length), ∃ b off, A = some ⟨b, off, none⟩ ∧ b < B ∧ RVl d w B b (off + k * 3) l[k]

section
variable {w w' : World} {B B' : Nat} {A : Option Addr}
theorem RVl.parts {d b o : Nat} {v : Vl} (h : RVl d w B b o v) : ∃ d', d = d' + 1 ∧ ∃ A cap, w.cell? ⟨b, o, none⟩ = some (.int .i64 v.ctor) ∧ w.cell? ⟨b, o + 1, none⟩ = some (.int .i64 v.n) ∧ w.cell? ⟨b, o + 2, none⟩ = some (.slice A v.kids.length cap) ∧ RVs d' w B A v.kids := by
  cases d with
  | zero => exact h.elim
  | succ d =>
    obtain ⟨A, cap, h1, h2, h3, h4, h5⟩ := h
    exact ⟨d, rfl, A, cap, h1, h2, h3, h4, h5⟩
theorem RVl.keep : ∀ (d : Nat) {b o : Nat} {v : Vl}, RVl d w B b o v → b < B → (∀ p : Addr, p.block < B → w'.cell? p = w.cell? p) → B ≤ B' → RVl d w' B' b o v
  | 0, _, _, _, h, _, _, _ => h.elim
  | d + 1, _, _, _, ⟨A, cap, h1, h2, h3, h4, h5⟩, hb, hk, hB => ⟨A, cap, (hk _ hb).trans h1, (hk _ hb).trans h2, (hk _ hb).trans h3, h4, fun k hk' => by
    obtain ⟨b', off, e, hb', hv⟩ := h5 k hk'
    exact ⟨b', off, e, by omega, RVl.keep d hv hb' hk hB⟩⟩
theorem RVs.keep {d : Nat} {l : List Vl} (h : RVs d w B A l) (hk : ∀ p : Addr, p.block < B → w'.cell? p = w.cell? p) (hB : B ≤ B') : RVs d w' B' A l :=
  ⟨h.1, fun k hk' => by
    obtain ⟨b, off, e, hb, hv⟩ := h.2 k hk'
    exact ⟨b, off, e, by omega, hv.keep d hb hk hB⟩⟩
theorem RVs.below {d B0 : Nat} {l : List Vl} (h : RVs d w B A l) (hb : Below B0 w w') (hB : B ≤ B0) : RVs d w' B A l := h.keep (fun _ hp => hb.cell (Nat.lt_of_lt_of_le hp hB)) (Nat.le_refl _)
theorem RVs.at_ {d : Nat} {l : List Vl} (h : RVs d w w.heap.size A l) (hb : Below w.heap.size w w') : RVs d w' w'.heap.size A l := h.keep (fun _ hp => hb.cell hp) hb.size
theorem RVs.nil {d : Nat} : RVs d w B A [] := ⟨Nat.zero_le _, fun k h => absurd h (Nat.not_lt_zero _)⟩
theorem RVl.up : ∀ (d : Nat) {b o : Nat} {v : Vl}, RVl d w B b o v → RVl (d + 1) w B b o v
  | 0, _, _, _, h => h.elim
  | d + 1, _, _, _, ⟨A, cap, h1, h2, h3, h4, h5⟩ => ⟨A, cap, h1, h2, h3, h4, fun k hk' => by
    obtain ⟨b', off, e, hb', hv⟩ := h5 k hk'
    exact ⟨b', off, e, hb', RVl.up d hv⟩⟩
theorem RVl.more {d d' b o : Nat} {v : Vl} (h : RVl d w B b o v) (hd : d ≤ d') : RVl d' w B b o v := by
  obtain ⟨e, rfl⟩ := Nat.exists_eq_add_of_le hd
  clear hd
  induction e with
  | zero => exact h
  | succ e ih => exact RVl.up _ ih
theorem RVs.more {d d' : Nat} {l : List Vl} (h : RVs d w B A l) (hd : d ≤ d') : RVs d' w B A l :=
  ⟨h.1, fun k hk => by obtain ⟨b, off, e, hb, hv⟩ := h.2 k hk; exact ⟨b, off, e, hb, hv.more hd⟩⟩
end

/-- Values in blocks of their own, each list behind the list that it is a part of. -/
def FVs : Nat → World → Nat → Nat → List Vl → Prop
  | 0, _, _, _, _ => False
  | d + 1, w, lo, g, l => lo ≤ g ∧ l.length ≤ maxLen ∧ ∃ cs, w.heap[g]? = some (.cells cs 106 (0, 0)) ∧ cs.size = l.length * 3 ∧ ∀ k (h : k < l.length), ∃ g', cs[k * 3]? = some (.int .i64 l[k].ctor) ∧ cs[k * 3 + 1]? = some (.int .i64 l[k].n) ∧ cs[k * 3 + 2]? = some (.slice (some ⟨g', 0, none⟩) l[k].kids.length l[k].kids.length) ∧ FVs d w (g + 1) g' l[k].kids
theorem FVs.keep : ∀ (d : Nat) {w w' : World} {lo lo' g : Nat} {l : List Vl}, FVs d w lo g l → lo' ≤ lo → (∀ b o, lo ≤ b → w.heap[b]? = some o → w'.heap[b]? = w.heap[b]?) → FVs d w' lo' g l
  | 0, _, _, _, _, _, _, h, _, _ => h.elim
  | d + 1, _, _, _, _, g, _, ⟨h1, h2, cs, h3, h4, h5⟩, hl, hk => ⟨by omega, h2, cs, (hk _ _ h1 h3).trans h3, h4, fun k hk' => by
    obtain ⟨g', e0, e1, e2, e3⟩ := h5 k hk'
    exact ⟨g', e0, e1, e2, FVs.keep d e3 (Nat.le_refl _) (fun b o hb => hk b o (by omega))⟩⟩
end Go.Proofs.Ytphmhlekfmkdkaa
/-
  The function FnExactNameValid returns true for every string, and the string reads behind the call as it read before. No condition.
-/
namespace Go.Proofs.Ytphmhlekfmkdkaa
open Go.RowKit
open Go.ChangeShapes Go.WideShapes Go.ChangeAt
open Go.ChangeMaps (open_string shut_string)
set_option maxRecDepth 100000
set_option linter.unusedVariables false

theorem ret_bool {a b : Bool} (h : a = b) : Ending.returned (.bool a) = .returned (.bool b) := by rw [h]

def upB (c : Int) : Bool := decide (65 ≤ c) && decide (c ≤ 90)
def lowB (c : UInt8) : Bool := decide (97 ≤ (c.toNat : Int)) && decide ((c.toNat : Int) ≤ 122)
theorem upB_t {c : Int} (h1 : 65 ≤ c) (h2 : c ≤ 90) : upB c = true := by unfold upB; simp [h1, h2]
theorem upB_f {c : Int} (h : ¬ (65 ≤ c ∧ c ≤ 90)) : upB c = false := by
  unfold upB; by_cases h1 : 65 ≤ c <;> by_cases h2 : c ≤ 90 <;> simp [h1, h2] <;> omega

theorem up_ge {c : Int} (h : ¬ c < 65) : decide (c ≤ 90) = upB c := by
  unfold upB; rw [show decide (65 ≤ c) = true by simp; omega]; rfl
theorem up_lt {c : Int} (h : c < 65) : false = upB c := by
  unfold upB; rw [show decide (65 ≤ c) = false by simp; omega]; rfl
theorem isUpper_any (c : Int) (w : World) :
    Calls Try.prog 132 #[.int .u8 c] w fun e w' => e = .returned (.bool (upB c)) ∧ w = w' := by
  by_cases h : c < 65
  · go_enter Try.func132, Try.ntmps132
    go_wp2
    all_goals go_ret
    exact ⟨ret_bool (up_lt h), rfl⟩
  · go_enter Try.func132, Try.ntmps132
    go_wp2
    all_goals go_ret
    exact ⟨ret_bool (up_ge (by omega)), rfl⟩

theorem big_any (c : Int) (w : World) :
    Calls Try.prog 112 #[.int .u8 c] w fun e w' => e = .returned (.bool (upB c)) ∧ w = w' := by
  by_cases h : c < 65
  · go_enter Try.func112, Try.ntmps112
    go_wp2
    all_goals go_ret
    exact ⟨ret_bool (up_lt h), rfl⟩
  · go_enter Try.func112, Try.ntmps112
    go_wp2
    all_goals go_ret
    exact ⟨ret_bool (up_ge (by omega)), rfl⟩

/-- The name of a constructor: a length from 1 to 5, an uppercase letter, lowercase letters. -/
def lowsUpto (s : ByteArray) (k : Nat) : Bool := ((s.data.toList.take k).drop 1).all lowB
def nameB (s : ByteArray) : Bool :=
  decide (0 < s.size) && (decide (s.size ≤ 5) && (upB ((s.data.toList.headD 0).toNat) && lowsUpto s s.size))

theorem name_empty {s : ByteArray} (h : s.size = 0) : false = nameB s := by unfold nameB; simp [h]
theorem name_long {s : ByteArray} (h : 5 < s.size) : false = nameB s := by
  unfold nameB; rw [show decide (s.size ≤ 5) = false by simp; omega]; simp
theorem head_eq {s : ByteArray} (h0 : 0 < s.size) : s.data.toList.headD 0 = s[0]'h0 := by
  have : s.data.toList = s.data.toList[0]'(by simpa using h0) :: s.data.toList.drop 1 := by
    rw [← List.drop_eq_getElem_cons]; rfl
  rw [this]; rfl
theorem name_small {s : ByteArray} (h0 : 0 < s.size) (h : upB (s[0]'h0).toNat = false) : false = nameB s := by
  unfold nameB; rw [head_eq h0, h]; simp
theorem name_go {s : ByteArray} (h0 : 0 < s.size) (h5 : s.size ≤ 5) (h : upB (s[0]'h0).toNat = true) : nameB s = lowsUpto s s.size := by
  unfold nameB; rw [head_eq h0, h]; simp [h0, h5]
theorem lows_one (s : ByteArray) : lowsUpto s 1 = true := by
  unfold lowsUpto; cases s.data.toList <;> simp
theorem lows_snoc {s : ByteArray} {k : Nat} (h1 : 1 ≤ k) (hk : k < s.size) : lowsUpto s (k + 1) = (lowsUpto s k && lowB s[k]) := by
  unfold lowsUpto
  rw [List.take_succ_eq_append_getElem (by simpa using hk), List.drop_append_of_le_length (by simp; omega), List.all_append]
  simp; rfl
theorem lows_more {s : ByteArray} {k : Nat} (d : Nat) (h : lowsUpto s k = false) : lowsUpto s (k + d) = false := by
  unfold lowsUpto at h ⊢
  rw [List.all_eq_false] at h ⊢
  obtain ⟨x, hx, hn⟩ := h
  refine ⟨x, ?_, hn⟩
  have : s.data.toList.take (k + d) = s.data.toList.take k ++ (s.data.toList.drop k).take d := by rw [List.take_add]
  rw [this]
  by_cases hl : 1 ≤ (s.data.toList.take k).length
  · rw [List.drop_append_of_le_length hl]; exact List.mem_append_left _ hx
  · have : s.data.toList.take k = [] := by
      apply List.eq_nil_of_length_eq_zero; omega
    rw [this] at hx; simp at hx
theorem lows_bad {s : ByteArray} {k : Nat} (h1 : 1 ≤ k) (hk : k < s.size) (h : lowB s[k] = false) : false = lowsUpto s s.size := by
  have := lows_more (s := s) (k := k + 1) (s.size - (k + 1)) (by rw [lows_snoc h1 hk, h]; simp)
  rw [← this]; congr 1; omega
theorem lowB_f {c : UInt8} (h : (c.toNat : Int) < 97 ∨ 122 < (c.toNat : Int)) : lowB c = false := by
  unfold lowB
  rcases h with h | h
  · rw [show decide (97 ≤ (c.toNat : Int)) = false by simp; omega]; rfl
  · rw [show decide ((c.toNat : Int) ≤ 122) = false by simp; omega]; simp
theorem lowB_t {c : UInt8} (h : 97 ≤ (c.toNat : Int)) (h' : (c.toNat : Int) ≤ 122) : lowB c = true := by
  unfold lowB; simp only [decide_eq_true h, decide_eq_true h', Bool.and_self]

theorem isEmpty_of {s : ByteArray} (h : s.size = 0) : s.toList = [] := by
  rw [ByteArray.toList_eq]; exact List.eq_nil_of_length_eq_zero (by simpa using h)
theorem notEmpty_of {s : ByteArray} (h : ¬ s.size = 0) : ¬ s.toList = [] := by
  rw [ByteArray.toList_eq]; intro e; exact h (by simpa using congrArg List.length e)
theorem notEmpty_of' {s : ByteArray} (h : ¬ s.size = 0) : s.toList.isEmpty = false := by
  simpa using notEmpty_of h

theorem lowB_eq {c : UInt8} {n : Int} (h : n = (c.toNat : Int)) : lowB c = (decide (97 ≤ n) && decide (n ≤ 122)) := by subst h; rfl
theorem isLower_t (c : UInt8) (w : World) (h : lowB c = true) :
    Calls Try.prog 140 #[.int .u8 c.toNat] w fun e w' => e = .returned (.bool true) ∧ w = w' := by
  have h1 : 97 ≤ (c.toNat : Int) ∧ (c.toNat : Int) ≤ 122 := by unfold lowB at h; simpa using h
  obtain ⟨h1, h2⟩ := h1
  clear h
  go_enter Try.func140, Try.ntmps140
  go_wp2
  all_goals go_ret
  exact ⟨ret_bool (by simp), rfl⟩
theorem isLower_f (c : UInt8) (w : World) (h : lowB c = false) :
    Calls Try.prog 140 #[.int .u8 c.toNat] w fun e w' => e = .returned (.bool false) ∧ w = w' := by
  by_cases h1 : (c.toNat : Int) < 97
  · clear h
    go_enter Try.func140, Try.ntmps140
    go_wp2
    all_goals go_ret
    exact ⟨rfl, rfl⟩
  · have h2 : ¬ (c.toNat : Int) ≤ 122 := by unfold lowB at h; simp at h; omega
    clear h
    go_enter Try.func140, Try.ntmps140
    go_wp2
    all_goals go_ret
    exact ⟨ret_bool (by simp), rfl⟩

set_option maxHeartbeats 400000 in
theorem nameV_impl (s : ByteArray) (w : World) (hs : s.size ≤ maxLen) :
    Calls Try.prog 138 #[.string s] w fun e w' => e = .returned (.bool (nameB s)) ∧ w = w' := by
  unfold maxLen at hs
  by_cases h0 : s.size = 0
  · have h0' : s.toList = [] := isEmpty_of h0
    go_enter Try.func138, Try.ntmps138
    go_wp2_with fail
    go_ret
    exact ⟨ret_bool (name_empty h0), rfl⟩
  · have h0' := notEmpty_of h0
    have h0'' := notEmpty_of' h0
    by_cases h5 : 5 < s.size
    · go_enter Try.func138, Try.ntmps138
      go_wp2_with fail
      go_ret
      exact ⟨ret_bool (name_long h5), rfl⟩
    · have hp : 0 < s.size := by omega
      have h5' : s.size ≤ 5 := by omega
      have h5b : decide (5 < (s.size : Int)) = false := by simp; omega
      by_cases hu : upB (s[0]'hp).toNat = true
      · have H := Lib.hid (name_go hp h5' hu)
        go_enter Try.func138, Try.ntmps138
        go_wp2_with (go_at_call 132; refine (isUpper_any _ _).mono ?_; rintro e w' ⟨rfl, rfl⟩)
        go_loop [3] (fun i => ∃ k : Nat, 1 ≤ k ∧ k ≤ s.size ∧ lowsUpto s k = true ∧ i = .int .i64 k) (fun i => s.size - (intOf i).toNat)
        case atStart => exact ⟨1, by omega, by omega, lows_one s, rfl⟩
        case round =>
          obtain ⟨k, hk1, hk, hl, rfl⟩ := hrel
          have HL := Lib.hid hl
          clear hl
          by_cases hlt : k < s.size
          · have HS := Lib.hid (lows_snoc hk1 hlt)
            by_cases hb : lowB s[k] = true
            · have HB := Lib.hid hb
              clear hb
              go_wp2_with (go_at_call 140; refine (isLower_t _ _ HB.out).mono ?_; rintro e w' ⟨rfl, rfl⟩)
              go_round
              case rel => exact ⟨k + 1, by omega, by omega, by rw [HS.out, HL.out, HB.out]; rfl, by go_num⟩
              case measure => simp [intOf]; omega
            · have hb' : lowB s[k] = false := by simpa using hb
              have HB := Lib.hid hb'
              have HC := Lib.hid (lows_bad hk1 hlt hb')
              clear hb hb'
              go_wp2_with (go_at_call 140; refine (isLower_f _ _ HB.out).mono ?_; rintro e w' ⟨rfl, rfl⟩)
              go_ret
              exact ⟨ret_bool (by rw [H.out]; exact HC.out), rfl⟩
          · go_wp2
            go_ret
            exact ⟨ret_bool (by rw [H.out, ← HL.out]; congr 1; omega), rfl⟩
      · have hu' : upB (s[0]'hp).toNat = false := by simpa using hu
        clear hu
        go_enter Try.func138, Try.ntmps138
        go_wp2_with (go_at_call 132; refine (isUpper_any _ _).mono ?_; rintro e w' ⟨rfl, rfl⟩)
        go_ret
        exact ⟨ret_bool (name_small hp hu'), rfl⟩

theorem nameV_spec (s : ByteArray) (w : World) (hs : s.size ≤ maxLen) :
    Calls Try.prog 113 #[.string s] w fun e w' => e = .returned (.bool (nameB s)) ∧ w = w' := by
  unfold maxLen at hs
  by_cases h0 : s.size = 0
  · have h0' : ((s.size : Int) == 0) = true := by simpa using h0
    go_enter Try.func113, Try.ntmps113
    go_wp2_with fail
    go_ret
    exact ⟨ret_bool (name_empty h0), rfl⟩
  · have h0' : ((s.size : Int) == 0) = false := by simpa using h0
    by_cases h5 : 5 < s.size
    · go_enter Try.func113, Try.ntmps113
      go_wp2_with fail
      go_ret
      exact ⟨ret_bool (name_long h5), rfl⟩
    · have hp : 0 < s.size := by omega
      have h5' : s.size ≤ 5 := by omega
      have h5b : decide (5 < (s.size : Int)) = false := by simp; omega
      by_cases hu : upB (s[0]'hp).toNat = true
      · have H := Lib.hid (name_go hp h5' hu)
        go_enter Try.func113, Try.ntmps113
        go_wp2_with (go_at_call 112; refine (big_any _ _).mono ?_; rintro e w' ⟨rfl, rfl⟩)
        go_loop [3] (fun i => ∃ k : Nat, 1 ≤ k ∧ k ≤ s.size ∧ lowsUpto s k = true ∧ i = .int .i64 k) (fun i => s.size - (intOf i).toNat)
        case atStart => exact ⟨1, by omega, by omega, lows_one s, rfl⟩
        case round =>
          obtain ⟨k, hk1, hk, hl, rfl⟩ := hrel
          have HL := Lib.hid hl
          clear hl
          by_cases hlt : k < s.size
          · have HS := Lib.hid (lows_snoc hk1 hlt)
            by_cases hb : (s[k].toNat : Int) < 97
            · have HB := Lib.hid (lows_bad hk1 hlt (lowB_f (.inl hb)))
              go_wp2
              go_ret
              exact ⟨ret_bool (by rw [H.out]; exact HB.out), rfl⟩
            · by_cases hc : 122 < (s[k].toNat : Int)
              · have HB := Lib.hid (lows_bad hk1 hlt (lowB_f (.inr hc)))
                go_wp2
                go_ret
                exact ⟨ret_bool (by rw [H.out]; exact HB.out), rfl⟩
              · have hg : decide ((s[k].toNat : Int) < 97) = false := by simpa using hb
                have hg' : decide (122 < (s[k].toNat : Int)) = false := by simpa using hc
                have HB := Lib.hid (lowB_t (c := s[k]) (by omega) (by omega))
                go_wp2
                go_round
                case rel => exact ⟨k + 1, by omega, by omega, by rw [HS.out, HL.out, HB.out]; rfl, by go_num⟩
                case measure => simp [intOf]; omega
          · go_wp2
            go_ret
            exact ⟨ret_bool (by rw [H.out, ← HL.out]; congr 1; omega), rfl⟩
      · have hu' : upB (s[0]'hp).toNat = false := by simpa using hu
        clear hu
        go_enter Try.func113, Try.ntmps113
        go_wp2_with (go_at_call 112; refine (big_any _ _).mono ?_; rintro e w' ⟨rfl, rfl⟩)
        go_ret
        exact ⟨ret_bool (name_small hp hu'), rfl⟩

theorem nvOwn : ownKnob Try.prog.godebug = none := by kernel_rfl

end Go.Proofs.Ytphmhlekfmkdkaa
/-
  The functions that copy types, constructors and data types into memory of their own. No statement is proved here.
-/
namespace Go.Proofs.Ytphmhlekfmkdkaa
open Go.RowKit
set_option maxRecDepth 100000
set_option linter.unusedVariables false

theorem info34 : (Try.prog.info? 33).map (fun i => (i.zero, i.size, i.bytes)) = some (some (.agg #[.int .i64 0, .int .i64 0]), 2, 16) := by kernel_rfl
theorem info59 : (Try.prog.info? 132).map (fun i => (i.zero, i.size, i.bytes)) = some (some (.agg #[.string ByteArray.empty, .slice none 0 0, .int .i64 0]), 3, 48) := by kernel_rfl
theorem info56 : (Try.prog.info? 82).map (fun i => (i.zero, i.size, i.bytes)) = some (some (.agg #[.string ByteArray.empty, .slice none 0 0]), 2, 40) := by kernel_rfl

theorem bcell {W w1 : World} (hb : Below W.heap.size W w1) : (∀ b o, b < W.heap.size → w1.cell? ⟨b, o, none⟩ = W.cell? ⟨b, o, none⟩) ∧ (∀ b o, b < W.heap.size → w1.frozen? ⟨b, o, none⟩ = W.frozen? ⟨b, o, none⟩) :=
  ⟨fun b o h => hb.cell (p := ⟨b, o, none⟩) h, fun b o h => hb.frozen (p := ⟨b, o, none⟩) h⟩

/-- Types in a block of their own. -/
def FTys (w : World) (lo g : Nat) (l : List Ty) : Prop :=
  lo ≤ g ∧ l.length ≤ maxLen ∧ ∃ cs, w.heap[g]? = some (.cells cs 33 (0, 0)) ∧ cs.size = l.length * 2 ∧ ∀ k (h : k < l.length), cs[k * 2]? = some (.int .i64 l[k].data) ∧ cs[k * 2 + 1]? = some (.int .i64 l[k].index)

theorem toType_any (d i : Int) (w : World) :
    Calls Try.prog 12 #[.agg #[.int .i64 d, .int .i64 i]] w fun e w' => e = .returned (.agg #[.int .i64 d, .int .i64 i]) ∧ Below w.heap.size w w' := by
  go_enter Try.func12, Try.ntmps12
  go_wp2
  refine bodyPost_ret (v := .agg #[.int .i64 d, .int .i64 i]) (by simp [results, Try.results12, go_sem]) rfl ⟨rfl, ?_⟩
  exact (((Below.refl _ _).alloc (Nat.le_refl _) _).alloc (by simp) _).alloc (by simp; omega) _

theorem below_of_grown {B : Nat} {w w' : World} (h : w.grownBy w' none) (hB : B ≤ w.heap.size) : Below B w w' :=
  (Below.refl B w).grown h hB (fun k e => by cases e)

theorem own_below {w w' : World} {base : Nat} {e : TypeId} {size : Nat} {v : Value} {n : Nat} {xs : List Value} (h : w.ownsRow base e size v n xs) (hb : Below w.heap.size w w') : w'.ownsRow base e size v n xs :=
  h.kept (row := none) ⟨hb.os, hb.tape, hb.output, hb.size, fun k hk _ => hb.block k hk⟩ (by
    rcases h.2 with ⟨rfl, _⟩ | ⟨g, cap, cur, rfl, _⟩
    · exact .inl rfl
    · exact .inr (by simp [Value.ownBlock]))
theorem own_cell {w : World} {base : Nat} {e : TypeId} {size g n cap : Nat} {xs : List Value} (h : w.ownsRow base e size (.slice (some ⟨g, 0, none⟩) n cap) n xs) (j : Nat) (hj : j < n * size) : ∃ v, w.cell? ⟨g, j, none⟩ = some v := by
  have hl : j < xs.length := by have := h.1; omega
  exact ⟨xs[j], by rw [h.cellAt j hj]; exact List.getElem?_eq_getElem hl⟩
theorem own_lt {w : World} {base : Nat} {e : TypeId} {size g n cap : Nat} {xs : List Value} (h : w.ownsRow base e size (.slice (some ⟨g, 0, none⟩) n cap) n xs) : g < w.heap.size := (h.lt g rfl).2
/-- What the first k rounds of a copy of types have left in the row. -/
def TyRow (l : List Ty) (xs : List Value) (k : Nat) : Prop := ∀ j (h : j < l.length), j < k → xs[j * 2]? = some (.int .i64 l[j].data) ∧ xs[j * 2 + 1]? = some (.int .i64 l[j].index)
theorem TyRow.zero (l : List Ty) (xs : List Value) : TyRow l xs 0 := fun j _ h => absurd h (by omega)
theorem TyRow.step {l : List Ty} {xs : List Value} {k : Nat} (h : TyRow l xs k) (hk : k < l.length) (hx : xs.length = l.length * 2) :
    TyRow l ((xs.set (k * 2) (.int .i64 l[k].data)).set (k * 2 + 1) (.int .i64 l[k].index)) (k + 1) := by
  intro j hj hjk
  by_cases e : j = k
  · subst e
    constructor
    · rw [List.getElem?_set_ne (by omega), List.getElem?_set_self (by omega)]
    · rw [List.getElem?_set_self (by simp; omega)]
  · obtain ⟨a, b⟩ := h j hj (by omega)
    constructor
    · rw [List.getElem?_set_ne (by omega), List.getElem?_set_ne (by omega), a]
    · rw [List.getElem?_set_ne (by omega), List.getElem?_set_ne (by omega), b]
theorem FTys.of_row {w : World} {lo g : Nat} {l : List Ty} {xs : List Value} (h : w.ownsRow lo 33 2 (.slice (some ⟨g, 0, none⟩) l.length l.length) l.length xs) (hx : TyRow l xs l.length) (hn : l.length ≤ 1048576) : FTys w lo g l := by
  rcases h.2 with ⟨h', _⟩ | ⟨g', cap', cur, h', hb, hg, hnc, hcm, hcs, htake⟩
  · simp at h'
  · simp only [Value.slice.injEq, Option.some.injEq, Addr.mk.injEq, and_true, true_and] at h'
    obtain ⟨rfl, rfl⟩ := h'
    refine ⟨hb, by unfold maxLen; omega, cur, hg, hcs, fun k hk => ?_⟩
    rw [List.take_of_length_le (by rw [Array.length_toList]; omega)] at htake
    rw [← Array.getElem?_toList, ← Array.getElem?_toList, htake]
    exact hx k hk hk

set_option maxHeartbeats 800000 in
theorem toTypeS_any (A : Option Addr) (l : List Ty) (cap : Nat) (w : World) (hr : RTys w w.heap.size A l) (hn : l.length ≤ 1048576) :
    Calls Try.prog 116 #[.slice A l.length cap] w fun e w' => ∃ g, e = .returned (.slice (some ⟨g, 0, none⟩) l.length l.length) ∧ FTys w' w.heap.size g l ∧ Below w.heap.size w w' := by
  obtain ⟨i0, hi, hz0, hz1, hz2⟩ := info_parts info34
  have Hr := Lib.hid hr
  clear hr
  go_enter Try.func116, Try.ntmps116
  go_wp2_with (at_make; refine wpList_make_full _ rfl _ _ 127 rfl w.heap.size 33 i0 _ 2 Try.underlying127 hi hz0 hz1 _ _ _ _ l.length rfl rfl rfl rfl (by rw [hz2]; omega) (by unfold maxLen; omega) (Nat.le_refl _) ?_; intro w1 hown hgr)
  go_loopw [4] (fun i wr => ∃ k : Nat, k ≤ l.length ∧ i = .int .i64 k ∧ ∃ xs, wr.ownsRow w.heap.size 33 2 (.slice (some ⟨w.heap.size, 0, none⟩) l.length l.length) l.length xs ∧ TyRow l xs k ∧ Below w.heap.size w wr) (fun i _ => l.length - (intOf i).toNat)
  case atStart => exact ⟨0, by omega, rfl, _, hown, TyRow.zero _ _, below_of_grown hgr (Nat.le_refl _)⟩
  case round =>
    obtain ⟨k, hk, rfl, xs, hown, hrow, hb⟩ := hrel
    clear hgr hi hz0 hz1 hz2
    by_cases hlt : k < l.length
    · obtain ⟨b, off, rfl, hbB, c0, c1⟩ := (Hr.out.below hb (Nat.le_refl _)).2 k hlt
      go_wp2_with (go_at_call 12; refine (toType_any _ _ _).mono ?_; rintro e w2 ⟨rfl, hb2⟩; have hown2 := own_below hown hb2; obtain ⟨v0, f0⟩ := own_cell hown2 (k * 2) (by omega); obtain ⟨v1, f1⟩ := own_cell hown2 (k * 2 + 1) (by omega); have g0 := hown2.frozenAt (k * 2); have g1 := hown2.frozenAt (k * 2 + 1))
      have hx := hown2.1
      have s1 := (hown2.stored (k * 2) (.int .i64 l[k].data)).1
      have s2 := (s1.stored (k * 2 + 1) (.int .i64 l[k].index)).1
      go_roundw
      case rel => exact ⟨k + 1, by omega, by go_num, _, s2, hrow.step hlt hx, ((hb.trans (hb2.mono hb.size)).setCell (Nat.le_refl _) _).setCell (Nat.le_refl _) _⟩
      case measure => simp [intOf]; omega
    · go_wp2_with fail
      go_ret
      exact ⟨_, rfl, FTys.of_row hown (fun j hj _ => hrow j hj (by omega)) hn, hb⟩

/-- Constructors in blocks of their own. -/
def FCt (w : World) (lo : Nat) (c : Ct) (x0 x1 x2 : Option Value) : Prop :=
  ∃ g, x0 = some (.string c.name) ∧ x1 = some (.slice (some ⟨g, 0, none⟩) c.args.length c.args.length) ∧ x2 = some (.int .i64 c.index) ∧ c.name.size ≤ maxLen ∧ FTys w lo g c.args
def FCts (w : World) (lo g : Nat) (l : List Ct) : Prop :=
  lo ≤ g ∧ l.length ≤ maxLen ∧ ∃ cs, w.heap[g]? = some (.cells cs 132 (0, 0)) ∧ cs.size = l.length * 3 ∧ ∀ k (h : k < l.length), FCt w lo l[k] cs[k * 3]? cs[k * 3 + 1]? cs[k * 3 + 2]?
def FDa (w : World) (lo : Nat) (d : Da) (x0 x1 : Option Value) : Prop :=
  ∃ g, x0 = some (.string d.name) ∧ x1 = some (.slice (some ⟨g, 0, none⟩) d.ctors.length d.ctors.length) ∧ d.name.size ≤ maxLen ∧ FCts w lo g d.ctors
def FDas (w : World) (lo g : Nat) (l : List Da) : Prop :=
  lo ≤ g ∧ l.length ≤ maxLen ∧ ∃ cs, w.heap[g]? = some (.cells cs 82 (0, 0)) ∧ cs.size = l.length * 2 ∧ ∀ k (h : k < l.length), FDa w lo l[k] cs[k * 2]? cs[k * 2 + 1]?
theorem heap_lt {w : World} {g : Nat} {o : Obj} (h : w.heap[g]? = some o) : g < w.heap.size := by
  rcases Nat.lt_or_ge g w.heap.size with hlt | hge
  · exact hlt
  · rw [Array.getElem?_eq_none hge] at h; cases h
/-- Blocks of types stay, whatever else is written. -/
theorem FTys.keep {w w' : World} {lo lo' g : Nat} {l : List Ty} (h : FTys w lo g l) (hl : lo' ≤ lo) (hk : ∀ b cs, lo ≤ b → w.heap[b]? = some (.cells cs 33 (0, 0)) → w'.heap[b]? = w.heap[b]?) : FTys w' lo' g l := by
  obtain ⟨h1, h2, cs, h3, h4, h5⟩ := h
  exact ⟨by omega, h2, cs, (hk g cs h1 h3).trans h3, h4, h5⟩
theorem FCts.keep {w w' : World} {lo lo' g : Nat} {l : List Ct} (h : FCts w lo g l) (hl : lo' ≤ lo) (hk : ∀ b cs t, t = 33 ∨ t = 132 → lo ≤ b → w.heap[b]? = some (.cells cs t (0, 0)) → w'.heap[b]? = w.heap[b]?) : FCts w' lo' g l := by
  obtain ⟨h1, h2, cs, h3, h4, h5⟩ := h
  refine ⟨by omega, h2, cs, (hk g cs 132 (.inr rfl) h1 h3).trans h3, h4, fun k hk' => ?_⟩
  obtain ⟨g', e0, e1, e2, e3, e4⟩ := h5 k hk'
  exact ⟨g', e0, e1, e2, e3, e4.keep hl (fun b cs => hk b cs 33 (.inl rfl))⟩
theorem FDas.keep {w w' : World} {lo lo' g : Nat} {l : List Da} (h : FDas w lo g l) (hl : lo' ≤ lo) (hk : ∀ b o, lo ≤ b → w.heap[b]? = some o → w'.heap[b]? = w.heap[b]?) : FDas w' lo' g l := by
  obtain ⟨h1, h2, cs, h3, h4, h5⟩ := h
  refine ⟨by omega, h2, cs, (hk g _ h1 h3).trans h3, h4, fun k hk' => ?_⟩
  obtain ⟨g', e0, e1, e2, e3⟩ := h5 k hk'
  exact ⟨g', e0, e1, e2, e3.keep hl (fun b cs t _ hb he => hk b _ hb he)⟩
theorem cell_of_blk {w : World} {g : Nat} {cs : Array Value} {t : TypeId} (h : w.heap[g]? = some (.cells cs t (0, 0))) (i : Nat) : w.cell? ⟨g, i, none⟩ = cs[i]? := cell_of_row w g i cs t (0, 0) h
theorem FTys.reads {w : World} {lo g : Nat} {l : List Ty} (h : FTys w lo g l) : RTys w w.heap.size (some ⟨g, 0, none⟩) l := by
  obtain ⟨h1, h2, cs, h3, h4, h5⟩ := h
  refine ⟨h2, fun k hk => ⟨g, 0, rfl, heap_lt h3, ?_, ?_⟩⟩
  · rw [cell_of_blk h3, Nat.zero_add]; exact (h5 k hk).1
  · rw [cell_of_blk h3, Nat.zero_add]; exact (h5 k hk).2
theorem FCts.reads {w : World} {lo g : Nat} {l : List Ct} (h : FCts w lo g l) : RCts w w.heap.size (some ⟨g, 0, none⟩) l := by
  obtain ⟨h1, h2, cs, h3, h4, h5⟩ := h
  refine ⟨h2, fun k hk => ⟨g, 0, rfl, heap_lt h3, ?_⟩⟩
  obtain ⟨g', e0, e1, e2, e3, e4⟩ := h5 k hk
  exact ⟨_, _, by rw [cell_of_blk h3, Nat.zero_add]; exact e0, by rw [cell_of_blk h3, Nat.zero_add]; exact e1, by rw [cell_of_blk h3, Nat.zero_add]; exact e2, e3, e4.reads⟩
theorem FDas.reads {w : World} {lo g : Nat} {l : List Da} (h : FDas w lo g l) : RDas w w.heap.size (some ⟨g, 0, none⟩) l := by
  obtain ⟨h1, h2, cs, h3, h4, h5⟩ := h
  refine ⟨h2, fun k hk => ⟨g, 0, rfl, heap_lt h3, ?_⟩⟩
  obtain ⟨g', e0, e1, e3, e4⟩ := h5 k hk
  exact ⟨_, _, by rw [cell_of_blk h3, Nat.zero_add]; exact e0, by rw [cell_of_blk h3, Nat.zero_add]; exact e1, e3, e4.reads⟩

theorem toCtor_any (nm : ByteArray) (A : Option Addr) (l : List Ty) (cap : Nat) (ix : Int) (w : World) (hr : RTys w w.heap.size A l) (hn : l.length ≤ 1048576) :
    Calls Try.prog 93 #[.agg #[.string nm, .slice A l.length cap, .int .i64 ix]] w fun e w' => ∃ g, e = .returned (.agg #[.string nm, .slice (some ⟨g, 0, none⟩) l.length l.length, .int .i64 ix]) ∧ FTys w' w.heap.size g l ∧ Below w.heap.size w w' := by
  have Hr := Lib.hid hr
  clear hr
  go_enter Try.func93, Try.ntmps93
  go_wp2_with (go_at_call 116; refine (toTypeS_any _ _ _ _ (by exact Hr.out.keep (fun p hp => by rw [World.cell?_alloc_lt _ _ _ (by simp; omega), World.cell?_alloc_lt _ _ _ (by simp; omega), World.cell?_alloc_lt _ _ _ hp]) (by simp; omega)) hn).mono ?_; rintro e w1 ⟨g, rfl, hf, hb⟩; obtain ⟨hc, hfz⟩ := bcell hb; have hz : w.heap.size + 2 < w1.heap.size := by have := hb.size; simp at this; omega)
  refine bodyPost_ret (v := .agg #[.string nm, .slice (some ⟨g, 0, none⟩) l.length l.length, .int .i64 ix]) (by simp [results, Try.results93, go_sem, hc]) rfl ⟨g, rfl, ?_, ?_⟩
  · refine hf.keep (by simp; omega) (fun b cs hb' _ => ?_)
    simp only [World.size_alloc] at hb'
    rw [Below.heap_setCell _ _ _ _ (by simp; omega), Below.heap_setCell _ _ _ _ (by simp; omega), Below.heap_setCell _ _ _ _ (by simp; omega), Below.heap_setCell _ _ _ _ (by simp; omega), Below.heap_setCell _ _ _ _ (by simp; omega)]
  · have h3 := ((((Below.refl w.heap.size w).alloc (Nat.le_refl _) (Obj.cells #[Value.string nm, Value.slice A l.length cap, Value.int IntKind.i64 ix] 143)).alloc (by simp) (Obj.cells #[Value.string { data := #[] }, Value.slice none 0 0, Value.int IntKind.i64 0] 132)).alloc (by simp; omega) (Obj.cells #[Value.string nm, Value.slice none 0 0, Value.int IntKind.i64 0] 132)).trans (hb.mono (by simp; omega))
    exact ((((h3.setCell (by simp; omega) _).setCell (by simp; omega) _).setCell (by simp) _).setCell (by simp) _).setCell (by simp) _

/-- What the first k rounds of a copy of constructors have left in the row. -/
def CtRow (w : World) (lo : Nat) (l : List Ct) (xs : List Value) (k : Nat) : Prop := ∀ j (h : j < l.length), j < k → FCt w lo l[j] xs[j * 3]? xs[j * 3 + 1]? xs[j * 3 + 2]?
theorem CtRow.zero (w : World) (lo : Nat) (l : List Ct) (xs : List Value) : CtRow w lo l xs 0 := fun j _ h => absurd h (by omega)
theorem CtRow.keep {w w' : World} {lo : Nat} {l : List Ct} {xs : List Value} {k : Nat} (h : CtRow w lo l xs k) (hk : ∀ b cs, lo ≤ b → w.heap[b]? = some (.cells cs 33 (0, 0)) → w'.heap[b]? = w.heap[b]?) : CtRow w' lo l xs k := by
  intro j hj hjk
  obtain ⟨g, e0, e1, e2, e3, e4⟩ := h j hj hjk
  exact ⟨g, e0, e1, e2, e3, e4.keep (Nat.le_refl _) hk⟩
theorem CtRow.step {w : World} {lo : Nat} {l : List Ct} {xs : List Value} {k g : Nat} (h : CtRow w lo l xs k) (hk : k < l.length) (hx : xs.length = l.length * 3) (hs : l[k].name.size ≤ maxLen) (hf : FTys w lo g l[k].args) :
    CtRow w lo l (((xs.set (k * 3) (.string l[k].name)).set (k * 3 + 1) (.slice (some ⟨g, 0, none⟩) l[k].args.length l[k].args.length)).set (k * 3 + 2) (.int .i64 l[k].index)) (k + 1) := by
  intro j hj hjk
  by_cases e : j = k
  · subst e
    refine ⟨g, ?_, ?_, ?_, hs, hf⟩
    · rw [List.getElem?_set_ne (by omega), List.getElem?_set_ne (by omega), List.getElem?_set_self (by omega)]
    · rw [List.getElem?_set_ne (by omega), List.getElem?_set_self (by simp; omega)]
    · rw [List.getElem?_set_self (by simp; omega)]
  · have := h j hj (by omega)
    rw [List.getElem?_set_ne (by omega), List.getElem?_set_ne (by omega), List.getElem?_set_ne (by omega), List.getElem?_set_ne (by omega), List.getElem?_set_ne (by omega), List.getElem?_set_ne (by omega), List.getElem?_set_ne (by omega), List.getElem?_set_ne (by omega), List.getElem?_set_ne (by omega)]
    exact this
theorem own_heap {w : World} {base : Nat} {e : TypeId} {size g n cap : Nat} {xs : List Value} (h : w.ownsRow base e size (.slice (some ⟨g, 0, none⟩) n cap) n xs) : ∃ cs, w.heap[g]? = some (.cells cs e (0, 0)) := by
  rcases h.2 with ⟨h', _⟩ | ⟨g', cap', cur, h', hb, hg, hnc, hcm, hcs, htake⟩
  · simp at h'
  · simp only [Value.slice.injEq, Option.some.injEq, Addr.mk.injEq, and_true, true_and] at h'
    obtain ⟨rfl, rfl⟩ := h'
    exact ⟨cur, hg⟩
/-- A block of another element type is another block. -/
theorem other_blk {w : World} {g b : Nat} {cs ds : Array Value} {s t : TypeId} (h : w.heap[g]? = some (.cells cs s (0, 0))) (h' : w.heap[b]? = some (.cells ds t (0, 0))) (hne : s ≠ t) : b ≠ g := by
  rintro rfl; rw [h] at h'; injection h' with h'; injection h' with _ ht; exact hne ht
theorem FCts.of_row {w : World} {lo g : Nat} {l : List Ct} {xs : List Value} (h : w.ownsRow lo 132 3 (.slice (some ⟨g, 0, none⟩) l.length l.length) l.length xs) (hx : CtRow w lo l xs l.length) (hn : l.length ≤ 1048576) : FCts w lo g l := by
  rcases h.2 with ⟨h', _⟩ | ⟨g', cap', cur, h', hb, hg, hnc, hcm, hcs, htake⟩
  · simp at h'
  · simp only [Value.slice.injEq, Option.some.injEq, Addr.mk.injEq, and_true, true_and] at h'
    obtain ⟨rfl, rfl⟩ := h'
    refine ⟨hb, by unfold maxLen; omega, cur, hg, hcs, fun k hk => ?_⟩
    rw [List.take_of_length_le (by rw [Array.length_toList]; omega)] at htake
    rw [← Array.getElem?_toList, ← Array.getElem?_toList, ← Array.getElem?_toList, htake]
    exact hx k hk hk

set_option maxHeartbeats 800000 in
theorem toCtorS_any (A : Option Addr) (l : List Ct) (cap : Nat) (w : World) (hr : RCts w w.heap.size A l) (hn : wCts l ≤ 1048576) :
    Calls Try.prog 72 #[.slice A l.length cap] w fun e w' => ∃ g, e = .returned (.slice (some ⟨g, 0, none⟩) l.length l.length) ∧ FCts w' w.heap.size g l ∧ Below w.heap.size w w' := by
  obtain ⟨i0, hi, hz0, hz1, hz2⟩ := info_parts info59
  have Hr := Lib.hid hr
  clear hr
  have hl : l.length ≤ 1048576 := by unfold wCts at hn; omega
  go_enter Try.func72, Try.ntmps72
  go_wp2_with (at_make; refine wpList_make_full _ rfl _ _ 80 rfl w.heap.size 132 i0 _ 3 Try.underlying80 hi hz0 hz1 _ _ _ _ l.length rfl rfl rfl rfl (by rw [hz2]; omega) (by unfold maxLen; omega) (Nat.le_refl _) ?_; intro w1 hown hgr)
  go_loopw [4] (fun i wr => ∃ k : Nat, k ≤ l.length ∧ i = .int .i64 k ∧ ∃ xs, wr.ownsRow w.heap.size 132 3 (.slice (some ⟨w.heap.size, 0, none⟩) l.length l.length) l.length xs ∧ CtRow wr w.heap.size l xs k ∧ Below w.heap.size w wr) (fun i _ => l.length - (intOf i).toNat)
  case atStart => exact ⟨0, by omega, rfl, _, hown, CtRow.zero _ _ _ _, below_of_grown hgr (Nat.le_refl _)⟩
  case round =>
    obtain ⟨k, hk, rfl, xs, hown, hrow, hb⟩ := hrel
    clear hgr hi hz0 hz1 hz2
    by_cases hlt : k < l.length
    · obtain ⟨b, off, rfl, hbB, A', cp, c0, c1, c2, hs, hm⟩ := (Hr.out.below hb (Nat.le_refl _)).2 k hlt
      have ha : l[k].args.length ≤ 1048576 := by
        have h1 := sum_take_succ wCt l k hlt
        have h2 := sum_take_le wCt l (k + 1)
        have h3 : wCt l[k] = l[k].name.size + l[k].args.length := rfl
        unfold wCts at hn; omega
      have Hm := Lib.hid (hm.keep (fun _ _ => rfl) hb.size)
      clear hm
      go_wp2_with (go_at_call 93; refine (toCtor_any _ _ _ _ _ _ Hm.out ha).mono ?_; rintro e w2 ⟨g, rfl, hf, hb2⟩; have hown2 := own_below hown hb2; obtain ⟨v0, f0⟩ := own_cell hown2 (k * 3) (by omega); obtain ⟨v1, f1⟩ := own_cell hown2 (k * 3 + 1) (by omega); obtain ⟨v2, f2⟩ := own_cell hown2 (k * 3 + 2) (by omega); have g0 := hown2.frozenAt (k * 3); have g1 := hown2.frozenAt (k * 3 + 1); have g2 := hown2.frozenAt (k * 3 + 2))
      have hx := hown2.1
      have s1 := (hown2.stored (k * 3) (.string l[k].name)).1
      have s2 := (s1.stored (k * 3 + 1) (.slice (some ⟨g, 0, none⟩) l[k].args.length l[k].args.length)).1
      have s3 := (s2.stored (k * 3 + 2) (.int .i64 l[k].index)).1
      obtain ⟨cs0, hcs0⟩ := own_heap hown2
      have hrow2 : CtRow w2 w.heap.size l xs k := hrow.keep (fun b cs _ hh => hb2.block b (heap_lt hh))
      have hf2 : FTys w2 w.heap.size g l[k].args := hf.keep hb.size (fun _ _ _ _ => rfl)
      have hkeep : ∀ b cs, w.heap.size ≤ b → w2.heap[b]? = some (.cells cs 33 (0, 0)) → (((w2.setCell ⟨w.heap.size, k * 3, none⟩ (.string l[k].name)).setCell ⟨w.heap.size, k * 3 + 1, none⟩ (.slice (some ⟨g, 0, none⟩) l[k].args.length l[k].args.length)).setCell ⟨w.heap.size, k * 3 + 2, none⟩ (.int .i64 l[k].index)).heap[b]? = w2.heap[b]? := fun b cs _ hh => by
        have hne : b ≠ w.heap.size := other_blk hcs0 hh (by decide)
        rw [Below.heap_setCell _ _ _ _ hne, Below.heap_setCell _ _ _ _ hne, Below.heap_setCell _ _ _ _ hne]
      have hrow3 := (hrow2.step hlt hx hs hf2).keep hkeep
      go_roundw
      case rel => exact ⟨k + 1, by omega, by go_num, _, s3, hrow3, (((hb.trans (hb2.mono hb.size)).setCell (Nat.le_refl _) _).setCell (Nat.le_refl _) _).setCell (Nat.le_refl _) _⟩
      case measure => simp [intOf]; omega
    · go_wp2_with fail
      go_ret
      exact ⟨_, rfl, FCts.of_row hown (fun j hj _ => hrow j hj (by omega)) hl, hb⟩

theorem toData_any (nm : ByteArray) (A : Option Addr) (l : List Ct) (cap : Nat) (w : World) (hr : RCts w w.heap.size A l) (hn : wCts l ≤ 1048576) :
    Calls Try.prog 44 #[.agg #[.string nm, .slice A l.length cap]] w fun e w' => ∃ g, e = .returned (.agg #[.string nm, .slice (some ⟨g, 0, none⟩) l.length l.length]) ∧ FCts w' w.heap.size g l ∧ Below w.heap.size w w' := by
  have Hr := Lib.hid hr
  clear hr
  go_enter Try.func44, Try.ntmps44
  go_wp2_with (go_at_call 72; refine (toCtorS_any _ _ _ _ (by exact Hr.out.keep (fun p hp => by rw [World.cell?_alloc_lt _ _ _ (by simp; omega), World.cell?_alloc_lt _ _ _ (by simp; omega), World.cell?_alloc_lt _ _ _ hp]) (by simp; omega)) hn).mono ?_; rintro e w1 ⟨g, rfl, hf, hb⟩; obtain ⟨hc, hfz⟩ := bcell hb; have hz : w.heap.size + 2 < w1.heap.size := by have := hb.size; simp at this; omega)
  refine bodyPost_ret (v := .agg #[.string nm, .slice (some ⟨g, 0, none⟩) l.length l.length]) (by simp [results, Try.results44, go_sem, hc]) rfl ⟨g, rfl, ?_, ?_⟩
  · refine hf.keep (by simp; omega) (fun b cs t _ hb' _ => ?_)
    simp only [World.size_alloc] at hb'
    rw [Below.heap_setCell _ _ _ _ (by simp; omega), Below.heap_setCell _ _ _ _ (by simp; omega), Below.heap_setCell _ _ _ _ (by simp; omega)]
  · have h3 := ((((Below.refl w.heap.size w).alloc (Nat.le_refl _) (Obj.cells #[Value.string nm, Value.slice A l.length cap] 77)).alloc (by simp) (Obj.cells #[Value.string { data := #[] }, Value.slice none 0 0] 82)).alloc (by simp; omega) (Obj.cells #[Value.string nm, Value.slice none 0 0] 82)).trans (hb.mono (by simp; omega))
    exact ((h3.setCell (by simp; omega) _).setCell (by simp) _).setCell (by simp) _

/-- What the first k rounds of a copy of data types have left in the row. -/
def DaRow (w : World) (lo : Nat) (l : List Da) (xs : List Value) (k : Nat) : Prop := ∀ j (h : j < l.length), j < k → FDa w lo l[j] xs[j * 2]? xs[j * 2 + 1]?
theorem DaRow.zero (w : World) (lo : Nat) (l : List Da) (xs : List Value) : DaRow w lo l xs 0 := fun j _ h => absurd h (by omega)
theorem DaRow.keep {w w' : World} {lo : Nat} {l : List Da} {xs : List Value} {k : Nat} (h : DaRow w lo l xs k) (hk : ∀ b cs t, t = 33 ∨ t = 132 → lo ≤ b → w.heap[b]? = some (.cells cs t (0, 0)) → w'.heap[b]? = w.heap[b]?) : DaRow w' lo l xs k := by
  intro j hj hjk
  obtain ⟨g, e0, e1, e2, e3⟩ := h j hj hjk
  exact ⟨g, e0, e1, e2, e3.keep (Nat.le_refl _) hk⟩
theorem DaRow.step {w : World} {lo : Nat} {l : List Da} {xs : List Value} {k g : Nat} (h : DaRow w lo l xs k) (hk : k < l.length) (hx : xs.length = l.length * 2) (hs : l[k].name.size ≤ maxLen) (hf : FCts w lo g l[k].ctors) :
    DaRow w lo l ((xs.set (k * 2) (.string l[k].name)).set (k * 2 + 1) (.slice (some ⟨g, 0, none⟩) l[k].ctors.length l[k].ctors.length)) (k + 1) := by
  intro j hj hjk
  by_cases e : j = k
  · subst e
    refine ⟨g, ?_, ?_, hs, hf⟩
    · rw [List.getElem?_set_ne (by omega), List.getElem?_set_self (by omega)]
    · rw [List.getElem?_set_self (by simp; omega)]
  · have := h j hj (by omega)
    rw [List.getElem?_set_ne (by omega), List.getElem?_set_ne (by omega), List.getElem?_set_ne (by omega), List.getElem?_set_ne (by omega)]
    exact this
theorem FDas.of_row {w : World} {lo g : Nat} {l : List Da} {xs : List Value} (h : w.ownsRow lo 82 2 (.slice (some ⟨g, 0, none⟩) l.length l.length) l.length xs) (hx : DaRow w lo l xs l.length) (hn : l.length ≤ 1048576) : FDas w lo g l := by
  rcases h.2 with ⟨h', _⟩ | ⟨g', cap', cur, h', hb, hg, hnc, hcm, hcs, htake⟩
  · simp at h'
  · simp only [Value.slice.injEq, Option.some.injEq, Addr.mk.injEq, and_true, true_and] at h'
    obtain ⟨rfl, rfl⟩ := h'
    refine ⟨hb, by unfold maxLen; omega, cur, hg, hcs, fun k hk => ?_⟩
    rw [List.take_of_length_le (by rw [Array.length_toList]; omega)] at htake
    rw [← Array.getElem?_toList, ← Array.getElem?_toList, htake]
    exact hx k hk hk

set_option maxHeartbeats 800000 in
theorem toDataS_any (A : Option Addr) (l : List Da) (cap : Nat) (w : World) (hr : RDas w w.heap.size A l) (hn : wDas l ≤ 1048576) :
    Calls Try.prog 11 #[.slice A l.length cap] w fun e w' => ∃ g, e = .returned (.slice (some ⟨g, 0, none⟩) l.length l.length) ∧ FDas w' w.heap.size g l ∧ Below w.heap.size w w' := by
  obtain ⟨i0, hi, hz0, hz1, hz2⟩ := info_parts info56
  have Hr := Lib.hid hr
  clear hr
  have hl : l.length ≤ 1048576 := by unfold wDas at hn; omega
  go_enter Try.func11, Try.ntmps11
  go_wp2_with (at_make; refine wpList_make_full _ rfl _ _ 31 rfl w.heap.size 82 i0 _ 2 Try.underlying31 hi hz0 hz1 _ _ _ _ l.length rfl rfl rfl rfl (by rw [hz2]; omega) (by unfold maxLen; omega) (Nat.le_refl _) ?_; intro w1 hown hgr)
  go_loopw [4] (fun i wr => ∃ k : Nat, k ≤ l.length ∧ i = .int .i64 k ∧ ∃ xs, wr.ownsRow w.heap.size 82 2 (.slice (some ⟨w.heap.size, 0, none⟩) l.length l.length) l.length xs ∧ DaRow wr w.heap.size l xs k ∧ Below w.heap.size w wr) (fun i _ => l.length - (intOf i).toNat)
  case atStart => exact ⟨0, by omega, rfl, _, hown, DaRow.zero _ _ _ _, below_of_grown hgr (Nat.le_refl _)⟩
  case round =>
    obtain ⟨k, hk, rfl, xs, hown, hrow, hb⟩ := hrel
    clear hgr hi hz0 hz1 hz2
    by_cases hlt : k < l.length
    · obtain ⟨b, off, rfl, hbB, A', cp, c0, c1, hs, hm⟩ := (Hr.out.below hb (Nat.le_refl _)).2 k hlt
      have ha : wCts l[k].ctors ≤ 1048576 := by
        have h1 := sum_take_succ wDa l k hlt
        have h2 := sum_take_le wDa l (k + 1)
        have h3 : wDa l[k] = l[k].name.size + wCts l[k].ctors := rfl
        unfold wDas at hn; omega
      have Hm := Lib.hid (hm.keep (fun _ _ => rfl) hb.size)
      clear hm
      go_wp2_with (go_at_call 44; refine (toData_any _ _ _ _ _ Hm.out ha).mono ?_; rintro e w2 ⟨g, rfl, hf, hb2⟩; have hown2 := own_below hown hb2; obtain ⟨v0, f0⟩ := own_cell hown2 (k * 2) (by omega); obtain ⟨v1, f1⟩ := own_cell hown2 (k * 2 + 1) (by omega); have g0 := hown2.frozenAt (k * 2); have g1 := hown2.frozenAt (k * 2 + 1))
      have hx := hown2.1
      have s1 := (hown2.stored (k * 2) (.string l[k].name)).1
      have s2 := (s1.stored (k * 2 + 1) (.slice (some ⟨g, 0, none⟩) l[k].ctors.length l[k].ctors.length)).1
      obtain ⟨cs0, hcs0⟩ := own_heap hown2
      have hrow2 : DaRow w2 w.heap.size l xs k := hrow.keep (fun b cs _ _ _ hh => hb2.block b (heap_lt hh))
      have hf2 : FCts w2 w.heap.size g l[k].ctors := hf.keep hb.size (fun _ _ _ _ _ _ => rfl)
      have hkeep : ∀ b cs t, t = 33 ∨ t = 132 → w.heap.size ≤ b → w2.heap[b]? = some (.cells cs t (0, 0)) → ((w2.setCell ⟨w.heap.size, k * 2, none⟩ (.string l[k].name)).setCell ⟨w.heap.size, k * 2 + 1, none⟩ (.slice (some ⟨g, 0, none⟩) l[k].ctors.length l[k].ctors.length)).heap[b]? = w2.heap[b]? := fun b cs t ht _ hh => by
        have hne : b ≠ w.heap.size := other_blk hcs0 hh (by rcases ht with rfl | rfl <;> decide)
        rw [Below.heap_setCell _ _ _ _ hne, Below.heap_setCell _ _ _ _ hne]
      have hrow3 := (hrow2.step hlt hx hs hf2).keep hkeep
      go_roundw
      case rel => exact ⟨k + 1, by omega, by go_num, _, s2, hrow3, ((hb.trans (hb2.mono hb.size)).setCell (Nat.le_refl _) _).setCell (Nat.le_refl _) _⟩
      case measure => simp [intOf]; omega
    · go_wp2_with fail
      go_ret
      exact ⟨_, rfl, FDas.of_row hown (fun j hj _ => hrow j hj (by omega)) hl, hb⟩
end Go.Proofs.Ytphmhlekfmkdkaa
