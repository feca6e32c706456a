/-
  Types, constructors and data types as they lie in memory: slices of structs that hold strings, integers and slices; and how much they hold. No statement is proved here.
-/
import Derived.Test.YthdnfnmglhifmaaRows
import Derived.WalkKit
import Derived.WalkSpells
import Derived.ProofKit
import Derived.Lib.Hide
import Derived.BigQuiet
import Derived.Deep.QuietTactic
import Derived.Maps.Own
import Derived.Maps.OwnOps
import Derived.Maps.Views
import Derived.Laws.AppendOwn
import Derived.Laws.OwnMore
import Derived.Lib.QuietBelow
import Derived.Laws.BytesString
import Derived.Outline
import Derived.Deep.Fields
import Derived.Deep.Slices
import Derived.Deep.RegionWith
import Derived.IntWalk
import Derived.Lib.SmallJoins
import Derived.Deep.RegionHeld3
import Derived.Maps.AppendAt
import Derived.OwnWalk
import Derived.Laws.StructEq
import Derived.LaidEqlPtr
import Derived.MapKept
namespace Go.Proofs.Ythdnfnmglhifmaa
open Go.RowKit
set_option linter.unusedVariables false

/-! How much a value holds. -/
/-- What is left of a number, or -1. -/
def left (l : Int) (n : Nat) : Int := if (n : Int) ≤ l then l - n else -1
theorem left_ok {l : Int} {n : Nat} (h : (n : Int) ≤ l) : left l n = l - n := if_pos h
theorem left_no {l : Int} {n : Nat} (h : ¬ (n : Int) ≤ l) : left l n = -1 := if_neg h
theorem sum_take_succ {α : Type} (f : α → Nat) (l : List α) (k : Nat) (h : k < l.length) : ((l.take (k + 1)).map f).sum = ((l.take k).map f).sum + f l[k] := by
  rw [List.take_succ_eq_append_getElem h]; simp only [List.map_append, List.sum_append, List.map_cons, List.map_nil, List.sum_cons, List.sum_nil]; omega
theorem sum_take_le {α : Type} (f : α → Nat) (l : List α) (k : Nat) : ((l.take k).map f).sum ≤ (l.map f).sum := by
  conv => rhs; rw [← List.take_append_drop k l]
  simp only [List.map_append, List.sum_append]; omega
end Go.Proofs.Ythdnfnmglhifmaa
/-
  Patterns as plain trees, and as they lie in memory. No statement is proved here.
-/
namespace Go.Proofs.Ythdnfnmglhifmaa
open Go.RowKit
set_option linter.unusedVariables false
inductive Pt where
  | mk (op ctor n m var : Int) (kids : List Pt)
instance : Inhabited Pt := ⟨.mk 0 0 0 0 0 []⟩
def Pt.op : Pt → Int | .mk x _ _ _ _ _ => x
def Pt.ctor : Pt → Int | .mk _ x _ _ _ _ => x
def Pt.n : Pt → Int | .mk _ _ x _ _ _ => x
def Pt.m : Pt → Int | .mk _ _ _ x _ _ => x
def Pt.var : Pt → Int | .mk _ _ _ _ x _ => x
def Pt.kids : Pt → List Pt | .mk _ _ _ _ _ ks => ks
mutual
/-- How many nodes lie below a node. -/
def wP : Pt → Nat | .mk _ _ _ _ _ ks => wPs ks
def wPs : List Pt → Nat | [] => 0 | v :: vs => 1 + wP v + wPs vs
end
theorem wP_kids (v : Pt) : wP v = wPs v.kids := by cases v; rw [wP]; rfl
theorem wPs_sum : ∀ l : List Pt, wPs l = l.length + (l.map wP).sum
  | [] => by rw [wPs]; rfl
  | v :: vs => by rw [wPs, wPs_sum vs]; simp only [List.length_cons, List.map_cons, List.sum_cons]; omega
/-- A tree in 6 cells, its parts in blocks below B; at most d levels. -/
def RPl : Nat → World → Nat → Nat → Nat → Pt → Prop
  | 0, _, _, _, _, _ => False
  | d + 1, w, B, b, o, v => ∃ A cap, w.cell? ⟨b, o, none⟩ = some (.int .i64 v.op) ∧ w.cell? ⟨b, o + 1, none⟩ = some (.int .i64 v.ctor) ∧ w.cell? ⟨b, o + 2, none⟩ = some (.int .i64 v.n) ∧ w.cell? ⟨b, o + 3, none⟩ = some (.int .i64 v.m) ∧ w.cell? ⟨b, o + 4, none⟩ = some (.int .i64 v.var) ∧ w.cell? ⟨b, o + 5, none⟩ = some (.slice A v.kids.length cap) ∧ v.kids.length ≤ maxLen ∧ ∀ k (h : k < v.kids.length), ∃ b' off, A = some ⟨b', off, none⟩ ∧ b' < B ∧ RPl d w B b' (off + k * 6) v.kids[k]
def RPs (d : Nat) (w : World) (B : Nat) (A : Option Addr) (l : List Pt) : Prop := l.length ≤ maxLen ∧ ∀ k (h : k < l.length), ∃ b off, A = some ⟨b, off, none⟩ ∧ b < B ∧ RPl d w B b (off + k * 6) l[k]
section
variable {w w' : World} {B B' : Nat} {A : Option Addr}
theorem RPl.parts {d b o : Nat} {v : Pt} (h : RPl d w B b o v) : ∃ d', d = d' + 1 ∧ ∃ A cap, w.cell? ⟨b, o, none⟩ = some (.int .i64 v.op) ∧ w.cell? ⟨b, o + 1, none⟩ = some (.int .i64 v.ctor) ∧ w.cell? ⟨b, o + 2, none⟩ = some (.int .i64 v.n) ∧ w.cell? ⟨b, o + 3, none⟩ = some (.int .i64 v.m) ∧ w.cell? ⟨b, o + 4, none⟩ = some (.int .i64 v.var) ∧ w.cell? ⟨b, o + 5, none⟩ = some (.slice A v.kids.length cap) ∧ RPs d' w B A v.kids := by
  cases d with
  | zero => exact h.elim
  | succ d =>
    obtain ⟨A, cap, h0, h1, h2, h3, h4, h5, h8, h9⟩ := h
    exact ⟨d, rfl, A, cap, h0, h1, h2, h3, h4, h5, h8, h9⟩
theorem RPl.keep : ∀ (d : Nat) {b o : Nat} {v : Pt}, RPl d w B b o v → b < B → (∀ p : Addr, p.block < B → w'.cell? p = w.cell? p) → B ≤ B' → RPl d w' B' b o v
  | 0, _, _, _, h, _, _, _ => h.elim
  | d + 1, _, _, _, ⟨A, cap, h0, h1, h2, h3, h4, h5, h8, h9⟩, hb, hk, hB => ⟨A, cap, (hk _ hb).trans h0, (hk _ hb).trans h1, (hk _ hb).trans h2, (hk _ hb).trans h3, (hk _ hb).trans h4, (hk _ hb).trans h5, h8, fun k hk' => by
    obtain ⟨b', off, e, hb', hv⟩ := h9 k hk'
    exact ⟨b', off, e, by omega, RPl.keep d hv hb' hk hB⟩⟩
theorem RPs.keep {d : Nat} {l : List Pt} (h : RPs d w B A l) (hk : ∀ p : Addr, p.block < B → w'.cell? p = w.cell? p) (hB : B ≤ B') : RPs d w' B' A l :=
  ⟨h.1, fun k hk' => by
    obtain ⟨b, off, e, hb, hv⟩ := h.2 k hk'
    exact ⟨b, off, e, by omega, hv.keep d hb hk hB⟩⟩
theorem RPs.below {d B0 : Nat} {l : List Pt} (h : RPs d w B A l) (hb : Below B0 w w') (hB : B ≤ B0) : RPs d w' B A l := h.keep (fun _ hp => hb.cell (Nat.lt_of_lt_of_le hp hB)) (Nat.le_refl _)
theorem RPs.at_ {d : Nat} {l : List Pt} (h : RPs d w w.heap.size A l) (hb : Below w.heap.size w w') : RPs d w' w'.heap.size A l := h.keep (fun _ hp => hb.cell hp) hb.size
theorem RPs.nil {d : Nat} : RPs d w B A [] := ⟨Nat.zero_le _, fun k h => absurd h (Nat.not_lt_zero _)⟩
theorem RPl.up : ∀ (d : Nat) {b o : Nat} {v : Pt}, RPl d w B b o v → RPl (d + 1) w B b o v
  | 0, _, _, _, h => h.elim
  | d + 1, _, _, _, ⟨A, cap, h0, h1, h2, h3, h4, h5, h8, h9⟩ => ⟨A, cap, h0, h1, h2, h3, h4, h5, h8, fun k hk' => by
    obtain ⟨b', off, e, hb', hv⟩ := h9 k hk'
    exact ⟨b', off, e, hb', RPl.up d hv⟩⟩
theorem RPl.more {d d' b o : Nat} {v : Pt} (h : RPl d w B b o v) (hd : d ≤ d') : RPl d' w B b o v := by
  obtain ⟨e, rfl⟩ := Nat.exists_eq_add_of_le hd
  clear hd
  induction e with
  | zero => exact h
  | succ e ih => exact RPl.up _ ih
theorem RPs.more {d d' : Nat} {l : List Pt} (h : RPs d w B A l) (hd : d ≤ d') : RPs d' w B A l :=
  ⟨h.1, fun k hk => by obtain ⟨b, off, e, hb, hv⟩ := h.2 k hk; exact ⟨b, off, e, hb, hv.more hd⟩⟩
end
end Go.Proofs.Ythdnfnmglhifmaa
/-
  The function FnExactNameValid returns true for every string, and the string reads behind the call as it read before. No condition.
-/
namespace Go.Proofs.Ythdnfnmglhifmaa
open Go.RowKit
open Go.ChangeShapes Go.WideShapes Go.ChangeAt
open Go.ChangeMaps (open_string shut_string)
set_option maxRecDepth 100000
set_option linter.unusedVariables false
theorem ret_bool {a b : Bool} (h : a = b) : Ending.returned (.bool a) = .returned (.bool b) := by rw [h]
end Go.Proofs.Ythdnfnmglhifmaa
/-
  The functions that copy types, constructors and data types into memory of their own. No statement is proved here.
-/
namespace Go.Proofs.Ythdnfnmglhifmaa
open Go.RowKit
set_option maxRecDepth 100000
set_option linter.unusedVariables false
theorem bcell {W w1 : World} (hb : Below W.heap.size W w1) : (∀ b o, b < W.heap.size → w1.cell? ⟨b, o, none⟩ = W.cell? ⟨b, o, none⟩) ∧ (∀ b o, b < W.heap.size → w1.frozen? ⟨b, o, none⟩ = W.frozen? ⟨b, o, none⟩) :=
  ⟨fun b o h => hb.cell (p := ⟨b, o, none⟩) h, fun b o h => hb.frozen (p := ⟨b, o, none⟩) h⟩
theorem below_of_grown {B : Nat} {w w' : World} (h : w.grownBy w' none) (hB : B ≤ w.heap.size) : Below B w w' :=
  (Below.refl B w).grown h hB (fun k e => by cases e)
theorem own_below {w w' : World} {base : Nat} {e : TypeId} {size : Nat} {v : Value} {n : Nat} {xs : List Value} (h : w.ownsRow base e size v n xs) (hb : Below w.heap.size w w') : w'.ownsRow base e size v n xs :=
  h.kept (row := none) ⟨hb.os, hb.tape, hb.output, hb.size, fun k hk _ => hb.block k hk⟩ (by
    rcases h.2 with ⟨rfl, _⟩ | ⟨g, cap, cur, rfl, _⟩
    · exact .inl rfl
    · exact .inr (by simp [Value.ownBlock]))
theorem own_cell {w : World} {base : Nat} {e : TypeId} {size g n cap : Nat} {xs : List Value} (h : w.ownsRow base e size (.slice (some ⟨g, 0, none⟩) n cap) n xs) (j : Nat) (hj : j < n * size) : ∃ v, w.cell? ⟨g, j, none⟩ = some v := by
  have hl : j < xs.length := by have := h.1; omega
  exact ⟨xs[j], by rw [h.cellAt j hj]; exact List.getElem?_eq_getElem hl⟩
theorem own_lt {w : World} {base : Nat} {e : TypeId} {size g n cap : Nat} {xs : List Value} (h : w.ownsRow base e size (.slice (some ⟨g, 0, none⟩) n cap) n xs) : g < w.heap.size := (h.lt g rfl).2
theorem heap_lt {w : World} {g : Nat} {o : Obj} (h : w.heap[g]? = some o) : g < w.heap.size := by
  rcases Nat.lt_or_ge g w.heap.size with hlt | hge
  · exact hlt
  · rw [Array.getElem?_eq_none hge] at h; cases h
theorem cell_of_blk {w : World} {g : Nat} {cs : Array Value} {t : TypeId} (h : w.heap[g]? = some (.cells cs t (0, 0))) (i : Nat) : w.cell? ⟨g, i, none⟩ = cs[i]? := cell_of_row w g i cs t (0, 0) h
end Go.Proofs.Ythdnfnmglhifmaa
/-
  A map from strings to bools that the call itself has made, as a set of strings. No statement is proved here.
-/
namespace Go.Proofs.Ythdnfnmglhifmaa
open Go.RowKit Go.Maps
set_option maxRecDepth 100000
set_option linter.unusedVariables false
/-- Does it hold? -/
noncomputable def dec (p : Prop) : Bool := @decide p (Classical.propDecidable _)
theorem dec_t {p : Prop} (h : p) : dec p = true := by unfold dec; simp [h]
theorem dec_f {p : Prop} (h : ¬ p) : dec p = false := by unfold dec; simp [h]
theorem dec_congr {p q : Prop} (h : p ↔ q) : dec p = dec q := by
  by_cases hp : p
  · rw [dec_t hp, dec_t (h.1 hp)]
  · rw [dec_f hp, dec_f (fun hq => hp (h.2 hq))]
end Go.Proofs.Ythdnfnmglhifmaa
/-
  The constructors that can make values of a type: the program's function and the document's. No statement is proved here.
-/
namespace Go.Proofs.Ythdnfnmglhifmaa
open Go.RowKit
set_option maxRecDepth 100000
set_option linter.unusedVariables false
theorem ieq_t {a b : Int} (h : a = b) : (a == b) = true := beq_iff_eq.2 h
theorem ieq_f {a b : Int} (h : ¬ a = b) : (a == b) = false := beq_eq_false_iff_ne.2 h
end Go.Proofs.Ythdnfnmglhifmaa
/-
  The functions that compare types, constructors and data types, where both sides read as the same. No statement is proved here.
-/
namespace Go.Proofs.Ythdnfnmglhifmaa
open Go.RowKit Go.Sort
set_option maxRecDepth 100000
set_option linter.unusedVariables false
theorem below_two {w w' : World} {o o' : Obj} (h : Below ((w.alloc o).alloc o').heap.size ((w.alloc o).alloc o') w') : Below w.heap.size w w' :=
  (((Below.refl _ _).alloc (Nat.le_refl _) _).alloc (by simp) _).trans (h.mono (by simp; omega))
theorem keep_two {w : World} (o o' : Obj) : ∀ p : Addr, p.block < w.heap.size → ((w.alloc o).alloc o').cell? p = w.cell? p := fun p hp => by
  rw [World.cell?_alloc_lt _ _ _ (by simp; omega), World.cell?_alloc_lt _ _ _ hp]
end Go.Proofs.Ythdnfnmglhifmaa
/-
  The text of a mark. No statement is proved here.
-/
namespace Go.Proofs.Ythdnfnmglhifmaa
open Go.RowKit
set_option maxRecDepth 100000
set_option linter.unusedVariables false
/-- A string of one byte. -/
def one (x : Int) : ByteArray := ByteArray.empty.push (UInt8.ofNat x.toNat)
end Go.Proofs.Ythdnfnmglhifmaa
/-
  The functions that count how much types, constructors and data types hold. No statement is proved here.
-/
namespace Go.Proofs.Ythdnfnmglhifmaa
open Go.RowKit
set_option maxRecDepth 100000
set_option linter.unusedVariables false
theorem ret_i64 {a b : Int} (h : a = b) : Ending.returned (.int .i64 a) = .returned (.int .i64 b) := by rw [h]
end Go.Proofs.Ythdnfnmglhifmaa
/-
  Types, constructors and data types that are marked where they lie. No statement is proved here.
-/
namespace Go.Proofs.Ythdnfnmglhifmaa
open Go.RowKit
set_option maxRecDepth 100000
set_option linter.unusedVariables false
/-- Two values of one kind: two integers, two strings, or one value. -/
def Alike (v v' : Value) : Prop := v = v' ∨ (∃ x y, v = .int .i64 x ∧ v' = .int .i64 y) ∨ (∃ s s', v = .string s ∧ v' = .string s')
theorem Alike.trans {a b c : Value} (h : Alike a b) (h' : Alike b c) : Alike a c := by
  rcases h with rfl | ⟨x, y, rfl, rfl⟩ | ⟨s, t, rfl, rfl⟩
  · exact h'
  · rcases h' with rfl | ⟨x', y', e, rfl⟩ | ⟨s, t, e, _⟩
    · exact .inr (.inl ⟨_, _, rfl, rfl⟩)
    · exact .inr (.inl ⟨_, _, rfl, rfl⟩)
    · cases e
  · rcases h' with rfl | ⟨x', y', e, _⟩ | ⟨s', t', e, rfl⟩
    · exact .inr (.inr ⟨_, _, rfl, rfl⟩)
    · cases e
    · exact .inr (.inr ⟨_, _, rfl, rfl⟩)
/-- Nothing below lo and nothing from hi on has turned; the cells of other blocks are of the kinds that they were. -/
def Kept (lo hi : Nat) (w w' : World) : Prop := Below lo w w' ∧ (∀ b, hi ≤ b → b < w.heap.size → w'.heap[b]? = w.heap[b]?) ∧ ∀ (g : Nat) (cs : Array Value) (t : TypeId), w.heap[g]? = some (.cells cs t (0, 0)) → ∃ cs' : Array Value, w'.heap[g]? = some (.cells cs' t (0, 0)) ∧ cs'.size = cs.size ∧ ∀ (i : Nat) (v : Value), cs[i]? = some v → ∃ v', cs'[i]? = some v' ∧ Alike v v'
theorem Kept.refl (lo hi : Nat) (w : World) : Kept lo hi w w := ⟨Below.refl _ _, fun _ _ _ => rfl, fun g cs t h => ⟨cs, h, rfl, fun i v hv => ⟨v, hv, .inl rfl⟩⟩⟩
theorem Kept.trans {lo hi : Nat} {a b c : World} (h : Kept lo hi a b) (h' : Kept lo hi b c) : Kept lo hi a c :=
  ⟨h.1.trans h'.1, fun x hx hl => (h'.2.1 x hx (Nat.lt_of_lt_of_le hl h.1.size)).trans (h.2.1 x hx hl), fun g cs t hg => by
    obtain ⟨cs1, e1, s1, q1⟩ := h.2.2 g cs t hg
    obtain ⟨cs2, e2, s2, q2⟩ := h'.2.2 g cs1 t e1
    refine ⟨cs2, e2, by omega, fun i v hv => ?_⟩
    obtain ⟨v1, f1, a1⟩ := q1 i v hv
    obtain ⟨v2, f2, a2⟩ := q2 i v1 f1
    exact ⟨v2, f2, a1.trans a2⟩⟩
theorem Kept.below {lo hi : Nat} {w w' : World} (h : Below w.heap.size w w') (hlo : lo ≤ w.heap.size) : Kept lo hi w w' :=
  ⟨h.mono hlo, fun x _ hl => h.block x hl, fun g cs t hg => ⟨cs, (h.block g (heap_lt hg)).trans hg, rfl, fun i v hv => ⟨v, hv, .inl rfl⟩⟩⟩
theorem Kept.set {lo hi g i : Nat} {w : World} {cs : Array Value} {t : TypeId} {v u : Value} (hg : w.heap[g]? = some (.cells cs t (0, 0))) (hlo : lo ≤ g ∧ g < hi) (hv : cs[i]? = some v) (ha : Alike v u) : Kept lo hi w (w.setCell ⟨g, i, none⟩ u) := by
  refine ⟨(Below.refl _ _).setCell hlo.1 _, fun x hx _ => Below.heap_setCell w ⟨g, i, none⟩ u x (by have := hlo.2; simp; omega), fun b ds s hb => ?_⟩
  by_cases e : b = g
  · subst e
    rw [hg] at hb
    injection hb with hb
    injection hb with e1 e2
    subst e1 e2
    refine ⟨cs.setIfInBounds i u, heap_setCell_same w b i cs t u hg, by simp, fun j x hx => ?_⟩
    have hjl : j < cs.size := (Array.getElem?_eq_some_iff.1 hx).1
    by_cases e : j = i
    · subst e
      rw [hv] at hx
      cases hx
      exact ⟨u, by simp [hjl], ha⟩
    · exact ⟨x, by rw [Array.getElem?_setIfInBounds_ne (by omega)]; exact hx, .inl rfl⟩
  · exact ⟨ds, (Below.heap_setCell w ⟨g, i, none⟩ u b e).trans hb, rfl, fun j x hx => ⟨x, hx, .inl rfl⟩⟩
end Go.Proofs.Ythdnfnmglhifmaa
/-
  Lists of integers compared, marked and looked at again. No statement is proved here.
-/
namespace Go.Proofs.Ythdnfnmglhifmaa
open Go.RowKit Go.Sort
set_option maxRecDepth 100000
set_option linter.unusedVariables false
/-- The marks from a number on. -/
def mk (k : Int) : Nat → List Int
  | 0 => []
  | n + 1 => mk k n ++ [k + n]
end Go.Proofs.Ythdnfnmglhifmaa
/-
  The types of the arguments of a constructor: the document's function. No statement is proved here.
-/
namespace Go.Proofs.Ythdnfnmglhifmaa
open Go.RowKit
set_option maxRecDepth 100000
set_option linter.unusedVariables false
theorem cell_two_new (w : World) (x y : Value) (t : TypeId) : ∀ j u, [x, y][j]? = some u → (w.alloc (.cells #[x, y] t)).cell? ((⟨w.heap.size, 0, none⟩ : Addr).add j) = some u := by
  intro j u hj
  match j, hj with
  | 0, hj => simp at hj; subst hj; simp [Addr.add, go_sem]
  | 1, hj => simp at hj; subst hj; simp [Addr.add, go_sem]
end Go.Proofs.Ythdnfnmglhifmaa
/-
  When a tree is a pattern for a type: plain mathematics. No statement is proved here.
-/
namespace Go.Proofs.Ythdnfnmglhifmaa
open Go.RowKit
set_option maxRecDepth 100000
set_option linter.unusedVariables false
instance : Inhabited Pt := ⟨.mk 0 0 0 0 0 []⟩
end Go.Proofs.Ythdnfnmglhifmaa
/-
  What an argument of the laws reads as: lists of types, of constructors, of data types. No statement is proved here.
-/
namespace Go.Proofs.Ythdnfnmglhifmaa
set_option maxRecDepth 100000
open Go.RowKit Go.Deep
open Go.ChangeShapes Go.WideShapes
set_option linter.unusedVariables false
section
variable {H : Type} {enc : TypeId × Value → H} {w : World} {spare : Nat → Bool} {held : Bool}
theorem spot_of {w : World} {a : Addr} {v : Value} (h : w.cell? a = some v) : a.spot = none := by
  unfold World.cell? at h
  split at h
  · split at h
    · cases h
    · simpa using ‹¬ a.spot.isSome = true›
  · cases h
end
end Go.Proofs.Ythdnfnmglhifmaa
/-
  The function FnExactWorldValid returns true for every list of data types, and the list reads behind the call as it read before. No condition.
-/
namespace Go.Proofs.Ythdnfnmglhifmaa
open Go.RowKit Go.Deep
open Go.ChangeShapes Go.WideShapes Go.ChangeAt
set_option maxRecDepth 100000
set_option linter.unusedVariables false
theorem wvOwn : ownKnob Try.prog.godebug = none := by kernel_rfl
theorem wvLaid : laidOutB Try.prog = true := by kernel_rfl
end Go.Proofs.Ythdnfnmglhifmaa
/-
  When a tree is a value of a type: the document's function. No statement is proved here.
-/
namespace Go.Proofs.Ythdnfnmglhifmaa
open Go.RowKit Go.Sort Go.Deep
set_option maxRecDepth 100000
set_option linter.unusedVariables false
theorem below_aft {w wr w' : World} {B : Nat} (h : Below B w wr) (hb : Below wr.heap.size wr w') (hB : B ≤ wr.heap.size) : Below B w w' := h.trans (hb.mono hB)
end Go.Proofs.Ythdnfnmglhifmaa
/-
  The fields of a node of a pattern, and the types of its parts: the document's functions. No statement is proved here.
-/
namespace Go.Proofs.Ythdnfnmglhifmaa
open Go.RowKit Go.Sort Go.Deep
set_option maxRecDepth 100000
set_option linter.unusedVariables false
def PBx (w : World) (b : Nat) (p : Pt) (s : Value) : Prop := w.cell? ⟨b, 0, none⟩ = some (.int .i64 p.op) ∧ w.cell? ⟨b, 1, none⟩ = some (.int .i64 p.ctor) ∧ w.cell? ⟨b, 2, none⟩ = some (.int .i64 p.n) ∧ w.cell? ⟨b, 3, none⟩ = some (.int .i64 p.m) ∧ w.cell? ⟨b, 4, none⟩ = some (.int .i64 p.var) ∧ w.cell? ⟨b, 5, none⟩ = some s
theorem PBx.keep {w w' : World} {b : Nat} {p : Pt} {s : Value} (h : PBx w b p s) (hk : w'.heap[b]? = w.heap[b]?) : PBx w' b p s :=
  ⟨(World.cell?_of_block (a := ⟨b, 0, none⟩) hk).trans h.1, (World.cell?_of_block (a := ⟨b, 1, none⟩) hk).trans h.2.1, (World.cell?_of_block (a := ⟨b, 2, none⟩) hk).trans h.2.2.1, (World.cell?_of_block (a := ⟨b, 3, none⟩) hk).trans h.2.2.2.1, (World.cell?_of_block (a := ⟨b, 4, none⟩) hk).trans h.2.2.2.2.1, (World.cell?_of_block (a := ⟨b, 5, none⟩) hk).trans h.2.2.2.2.2⟩
theorem PBx.at_ {w w' : World} {b : Nat} {p : Pt} {s : Value} (h : PBx w b p s) (hb : Below w.heap.size w w') : PBx w' b p s := h.keep (hb.block b (Go.block_lt_of_cell h.1))
end Go.Proofs.Ythdnfnmglhifmaa
/-
  An append to a row of the call's own, as one operation of a region. No statement is proved here.
-/
namespace Go.Proofs.Ythdnfnmglhifmaa
open Go.RowKit
set_option maxRecDepth 100000
set_option linter.unusedVariables false
theorem own_at {w w' : World} {base : Nat} {e : TypeId} {size n : Nat} {v : Value} {xs : List Value} (h : w.ownsRow base e size v n xs) (hk : ∀ b, v.ownBlock = some b → w'.heap[b]? = w.heap[b]?) : w'.ownsRow base e size v n xs := by
  refine ⟨h.1, ?_⟩
  rcases h.2 with h0 | ⟨g, cap, cur, a1, a2, a3, a4⟩
  · exact .inl h0
  · exact .inr ⟨g, cap, cur, a1, a2, (hk g (by rw [a1]; rfl)).trans a3, a4⟩
theorem own_form {w : World} {base : Nat} {e : TypeId} {size n : Nat} {v : Value} {xs : List Value} (h : w.ownsRow base e size v n xs) : ∃ A c, v = .slice A n c ∧ ∀ b, v.ownBlock = some b → base ≤ b ∧ b < w.heap.size := by
  rcases h.2 with ⟨rfl, rfl⟩ | ⟨g, cap, cur, rfl, a2, a3, a4⟩
  · exact ⟨none, 0, rfl, fun b e => by cases e⟩
  · exact ⟨_, _, rfl, fun b e => by injection e with e; subst e; exact ⟨a2, heap_lt a3⟩⟩
end Go.Proofs.Ythdnfnmglhifmaa
/-
  The fields of a node of a pattern: the program's functions. No statement is proved here.
-/
namespace Go.Proofs.Ythdnfnmglhifmaa
open Go.RowKit Go.Sort Go.Deep
set_option maxRecDepth 100000
set_option linter.unusedVariables false
def SameF (x0 x1 x2 x3 x4 y0 y1 y2 y3 y4 : Int) : Prop := x0 = y0 ∧ x1 = y1 ∧ x2 = y2 ∧ x3 = y3 ∧ x4 = y4
set_option maxHeartbeats 1600000 in
theorem same_any (x0 x1 x2 x3 x4 y0 y1 y2 y3 y4 : Int) (A B : Option Addr) (m n m' n' : Nat) (w : World) : Calls Try.prog 71 #[.agg #[.int .i64 x0, .int .i64 x1, .int .i64 x2, .int .i64 x3, .int .i64 x4, .slice A m n], .agg #[.int .i64 y0, .int .i64 y1, .int .i64 y2, .int .i64 y3, .int .i64 y4, .slice B m' n']] w fun e w' => e = .returned (.bool (dec (SameF x0 x1 x2 x3 x4 y0 y1 y2 y3 y4))) ∧ Below w.heap.size w w' := by
  have HB : Hid (∀ o o' : Obj, Below w.heap.size w ((w.alloc o).alloc o')) := fun o o' => ((Below.refl _ _).alloc (Nat.le_refl _) _).alloc (by simp) _
  by_cases h0 : x0 = y0
  · have q0 := ieq_t h0
    by_cases h1 : x1 = y1
    · have q1 := ieq_t h1
      by_cases h2 : x2 = y2
      · have q2 := ieq_t h2
        by_cases h3 : x3 = y3
        · have q3 := ieq_t h3
          by_cases h4 : x4 = y4
          · have q4 := ieq_t h4
            have HD : Hid (dec (SameF x0 x1 x2 x3 x4 y0 y1 y2 y3 y4) = true) := dec_t (⟨h0, h1, h2, h3, h4⟩)
            clear h0 h1 h2 h3 h4
            go_enter Try.func71, Try.ntmps71
            go_wp2_with fail
            go_ret
            exact ⟨ret_bool HD.out.symm, HB.out _ _⟩
          · have q4 := ieq_f h4
            have HD : Hid (dec (SameF x0 x1 x2 x3 x4 y0 y1 y2 y3 y4) = false) := dec_f (fun h => h4 h.2.2.2.2)
            clear h0 h1 h2 h3 h4
            go_enter Try.func71, Try.ntmps71
            go_wp2_with fail
            go_ret
            exact ⟨ret_bool HD.out.symm, HB.out _ _⟩
        · have q3 := ieq_f h3
          have HD : Hid (dec (SameF x0 x1 x2 x3 x4 y0 y1 y2 y3 y4) = false) := dec_f (fun h => h3 h.2.2.2.1)
          clear h0 h1 h2 h3
          go_enter Try.func71, Try.ntmps71
          go_wp2_with fail
          go_ret
          exact ⟨ret_bool HD.out.symm, HB.out _ _⟩
      · have q2 := ieq_f h2
        have HD : Hid (dec (SameF x0 x1 x2 x3 x4 y0 y1 y2 y3 y4) = false) := dec_f (fun h => h2 h.2.2.1)
        clear h0 h1 h2
        go_enter Try.func71, Try.ntmps71
        go_wp2_with fail
        go_ret
        exact ⟨ret_bool HD.out.symm, HB.out _ _⟩
    · have q1 := ieq_f h1
      have HD : Hid (dec (SameF x0 x1 x2 x3 x4 y0 y1 y2 y3 y4) = false) := dec_f (fun h => h1 h.2.1)
      clear h0 h1
      go_enter Try.func71, Try.ntmps71
      go_wp2_with fail
      go_ret
      exact ⟨ret_bool HD.out.symm, HB.out _ _⟩
  · have q0 := ieq_f h0
    have HD : Hid (dec (SameF x0 x1 x2 x3 x4 y0 y1 y2 y3 y4) = false) := dec_f (fun h => h0 h.1)
    clear h0
    go_enter Try.func71, Try.ntmps71
    go_wp2_with fail
    go_ret
    exact ⟨ret_bool HD.out.symm, HB.out _ _⟩
end Go.Proofs.Ythdnfnmglhifmaa
/-
  The functions that compare Pt trees, where both sides read as the same. No statement is proved here.
-/
namespace Go.Proofs.Ythdnfnmglhifmaa
open Go.RowKit Go.Sort
set_option maxRecDepth 100000
set_option linter.unusedVariables false
def EqP (d : Nat) : Prop := ∀ (A A' : Option Addr) (l : List Pt) (cap cap' : Nat) (w : World), RPs d w w.heap.size A l → RPs d w w.heap.size A' l →
  Calls Try.prog 73 #[.slice A l.length cap, .slice A' l.length cap'] w fun e w' => e = .returned (.bool true) ∧ Below w.heap.size w w'
theorem eqP_of {d : Nat} (ih : EqP d) (A A' : Option Addr) (l : List Pt) (cap cap' : Nat) (x0 x1 x2 x3 x4 : Int) (w : World) (hr : RPs d w w.heap.size A l) (hr' : RPs d w w.heap.size A' l) :
    Calls Try.prog 33 #[.agg #[.int .i64 x0, .int .i64 x1, .int .i64 x2, .int .i64 x3, .int .i64 x4, .slice A l.length cap], .agg #[.int .i64 x0, .int .i64 x1, .int .i64 x2, .int .i64 x3, .int .i64 x4, .slice A' l.length cap']] w fun e w' => e = .returned (.bool true) ∧ Below w.heap.size w w' := by
  have Hr := Lib.hid hr
  have Hr' := Lib.hid hr'
  have IH := Lib.hid ih
  clear hr hr' ih
  go_enter Try.func33, Try.ntmps33
  go_wp2_with (go_at_call 73; refine (IH.out _ _ _ _ _ _ (by exact Hr.out.keep (keep_two _ _) (by simp; omega)) (by exact Hr'.out.keep (keep_two _ _) (by simp; omega))).mono ?_; rintro e w1 ⟨rfl, hb⟩; obtain ⟨hc, hfz⟩ := bcell hb)
  go_ret
  exact ⟨rfl, below_two hb⟩
set_option maxHeartbeats 1600000 in
theorem eqPs_of (d : Nat) (ih : ∀ d', d = d' + 1 → EqP d') : EqP d := by
  intro A A' l cap cap' w hr hr'
  have hn := hr.1
  unfold maxLen at hn
  have Hr := Lib.hid hr
  have Hr' := Lib.hid hr'
  have IH := Lib.hid ih
  clear hr hr' ih
  go_enter Try.func73, Try.ntmps73
  go_wp2_with fail
  go_loopw [5] (fun i wr => ∃ k : Nat, k ≤ l.length ∧ i = .int .i64 k ∧ Below w.heap.size w wr) (fun i _ => l.length - (intOf i).toNat)
  case atStart => exact ⟨0, by omega, rfl, Below.refl _ _⟩
  case round =>
    obtain ⟨k, hk, rfl, hb⟩ := hrel
    by_cases hlt : k < l.length
    · obtain ⟨b, off, rfl, hbB, hv⟩ := (Hr.out.below hb (Nat.le_refl _)).2 k hlt
      obtain ⟨d', hd, B1, cp, c0, c1, c2, c3, c4, c5, hm⟩ := hv.parts
      obtain ⟨b', off', rfl, hbB', hv'⟩ := (Hr'.out.below hb (Nat.le_refl _)).2 k hlt
      obtain ⟨d'', hd', B2, cp', c0', c1', c2', c3', c4', c5', hm'⟩ := hv'.parts
      obtain rfl : d'' = d' := by omega
      have d0 := cell_regrown c0
      have d1 := cell_regrown c1
      have d2 := cell_regrown c2
      have d3 := cell_regrown c3
      have d4 := cell_regrown c4
      have d5 := cell_regrown c5
      have d0' := cell_regrown c0'
      have d1' := cell_regrown c1'
      have d2' := cell_regrown c2'
      have d3' := cell_regrown c3'
      have d4' := cell_regrown c4'
      have d5' := cell_regrown c5'
      have Hm := Lib.hid hm
      have Hm' := Lib.hid hm'
      have IHd := Lib.hid (IH.out d'' hd)
      clear c0 c1 c2 c3 c4 c5 c0' c1' c2' c3' c4' c5' hm hm' hv hv' hd hd'
      have hi : (k : Int) < (l.length : Int) := by omega
      go_wp2_with fail
      refine wp_region_quiet_below (by kernel_rfl) (by kernel_rfl) ?_
      repeat (quiet_step (exact Calls.regrown_of (eqP_of IHd.out _ _ _ _ _ _ _ _ _ _ _ (Hm.out.keep (fun p hp => (below_regrown wr _ _).cell (Nat.lt_of_lt_of_le hp hb.size)) (Nat.le_trans hb.size (below_regrown wr _ _).size)) (Hm'.out.keep (fun p hp => (below_regrown wr _ _).cell (Nat.lt_of_lt_of_le hp hb.size)) (Nat.le_trans hb.size (below_regrown wr _ _).size)))))
      refine wpQuiet_nil ?_
      intro _ hw'
      obtain ⟨⟨dq, osq⟩, hw''⟩ := hw'
      subst hw''
      have hb2 := hb.trans ((below_regrown wr dq osq).mono hb.size)
      clear d0 d1 d2 d3 d4 d5 d0' d1' d2' d3' d4' d5'
      go_wp2_with fail
      go_roundw
      case rel => exact ⟨k + 1, by omega, by go_num, hb2⟩
      case measure => simp [intOf]; omega
    · go_wp2_with fail
      go_ret
      exact ⟨rfl, hb⟩
theorem eqPs_any : ∀ d, EqP d
  | 0 => eqPs_of 0 (fun _ h => by omega)
  | d + 1 => eqPs_of (d + 1) (fun d' h => (Nat.succ.inj h) ▸ eqPs_any d)
theorem eqP_same (d : Nat) (A A' : Option Addr) (l : List Pt) (cap cap' : Nat) (x0 x1 x2 x3 x4 : Int) (w : World) (hr : RPs d w w.heap.size A l) (hr' : RPs d w w.heap.size A' l) :
    Calls Try.prog 33 #[.agg #[.int .i64 x0, .int .i64 x1, .int .i64 x2, .int .i64 x3, .int .i64 x4, .slice A l.length cap], .agg #[.int .i64 x0, .int .i64 x1, .int .i64 x2, .int .i64 x3, .int .i64 x4, .slice A' l.length cap']] w fun e w' => e = .returned (.bool true) ∧ Below w.heap.size w w' := eqP_of (eqPs_any d) A A' l cap cap' x0 x1 x2 x3 x4 w hr hr'
end Go.Proofs.Ythdnfnmglhifmaa
/-
  PatternSame of the document. No statement is proved here.
-/
namespace Go.Proofs.Ythdnfnmglhifmaa
open Go.RowKit Go.Sort Go.Deep
set_option maxRecDepth 100000
set_option linter.unusedVariables false
theorem ine_t {a b : Int} (h : ¬ a = b) : (a != b) = true := by simp [h]
theorem ine_f {a b : Int} (h : a = b) : (a != b) = false := by simp [h]
def AllK (p q : Pt) (k : Nat) : Prop := ∀ j (h : j < p.kids.length) (h' : j < q.kids.length), j < k → p.kids[j] = q.kids[j]
theorem AllK.zero {p q : Pt} : AllK p q 0 := fun j _ _ h => absurd h (by omega)
theorem AllK.step {p q : Pt} {k : Nat} (h : AllK p q k) (hk : k < p.kids.length) (hk' : k < q.kids.length) (e : p.kids[k] = q.kids[k]) : AllK p q (k + 1) := by
  intro j hj hj' hjk
  by_cases e' : j = k
  · subst e'; exact e
  · exact h j hj hj' (by omega)
theorem same_of {p q : Pt} (h0 : p.op = q.op) (h1 : p.ctor = q.ctor) (h2 : p.n = q.n) (h3 : p.m = q.m) (h4 : p.var = q.var) (h5 : p.kids.length = q.kids.length) (h : AllK p q p.kids.length) : p = q := by
  have hk : p.kids = q.kids := List.ext_getElem h5 (fun i a b => h i a b a)
  cases p; cases q
  simp only [Pt.op, Pt.ctor, Pt.n, Pt.m, Pt.var, Pt.kids] at h0 h1 h2 h3 h4 hk
  subst h0 h1 h2 h3 h4 hk
  rfl
def PsD (d : Nat) : Prop := ∀ (A A' : Option Addr) (p q : Pt) (cap cap' : Nat) (w : World), RPs d w w.heap.size A p.kids → RPs d w w.heap.size A' q.kids → Calls Try.prog 30 #[.agg #[.int .i64 p.op, .int .i64 p.ctor, .int .i64 p.n, .int .i64 p.m, .int .i64 p.var, .slice A p.kids.length cap], .agg #[.int .i64 q.op, .int .i64 q.ctor, .int .i64 q.n, .int .i64 q.m, .int .i64 q.var, .slice A' q.kids.length cap']] w fun e w' => e = .returned (.bool (dec (p = q))) ∧ Below w.heap.size w w'
set_option maxHeartbeats 6400000 in
theorem ps_of (d : Nat) (ih : ∀ d', d = d' + 1 → PsD d') : PsD d := by
  intro A A' p q cap cap' w hr hr'
  have Hr := Lib.hid hr
  have Hr' := Lib.hid hr'
  have hn := hr.1
  have hn' := hr'.1
  unfold maxLen at hn hn'
  have IH := Lib.hid ih
  clear hr hr' ih
  generalize hw0 : (w.alloc (.cells #[.int .i64 p.op, .int .i64 p.ctor, .int .i64 p.n, .int .i64 p.m, .int .i64 p.var, .slice A p.kids.length cap] 37)).alloc (.cells #[.int .i64 q.op, .int .i64 q.ctor, .int .i64 q.n, .int .i64 q.m, .int .i64 q.var, .slice A' q.kids.length cap'] 37) = w0
  have hb0 : Below w.heap.size w w0 := by rw [← hw0]; exact ((Below.refl _ _).alloc (Nat.le_refl _) _).alloc (by simp) _
  have HXP : Hid (PBx w0 w.heap.size p (.slice A p.kids.length cap)) := by rw [← hw0]; exact ⟨by simp [go_sem], by simp [go_sem], by simp [go_sem], by simp [go_sem], by simp [go_sem], by simp [go_sem]⟩
  have HXQ : Hid (PBx w0 (w.heap.size + 1) q (.slice A' q.kids.length cap')) := by rw [← hw0]; exact ⟨by simp [go_sem], by simp [go_sem], by simp [go_sem], by simp [go_sem], by simp [go_sem], by simp [go_sem]⟩
  have HW := Lib.hid hw0
  clear hw0
  obtain ⟨x0, x1, x2, x3, x4, x5⟩ := HXP.out
  obtain ⟨y0, y1, y2, y3, y4, y5⟩ := HXQ.out
  by_cases h0 : p.op = q.op
  · have u0 := ine_f h0
    by_cases h1 : p.ctor = q.ctor
    · have u1 := ine_f h1
      by_cases h2 : p.n = q.n
      · have u2 := ine_f h2
        by_cases h3 : p.m = q.m
        · have u3 := ine_f h3
          by_cases h4 : p.var = q.var
          · have u4 := ine_f h4
            by_cases h5 : (p.kids.length : Int) = (q.kids.length : Int)
            · have u5 := ine_f h5
              have HT : Hid (AllK p q p.kids.length → p = q) := fun h => same_of h0 h1 h2 h3 h4 (by omega) h
              have hlen : p.kids.length = q.kids.length := by omega
              have HL := Lib.hid hlen
              clear h0 h1 h2 h3 h4 h5 hlen
              go_enter Try.func30, Try.ntmps30
              go_wp2_with fail
              (try rw [HW.out])
              clear u0 u1 u2 u3 u4 u5 x0 x1 x2 x3 x4 y0 y1 y2 y3 y4
              go_loopw [5] (fun i wr => ∃ k : Nat, k ≤ p.kids.length ∧ i = .int .i64 k ∧ Hid (AllK p q k) ∧ Below w0.heap.size w0 wr) (fun i _ => p.kids.length - (intOf i).toNat)
              case atStart => exact ⟨0, by omega, rfl, AllK.zero, Below.refl _ _⟩
              case round =>
                obtain ⟨k, hk, rfl, hno, hbr⟩ := hrel
                have hb := below_aft hb0 hbr hb0.size
                obtain ⟨_, _, _, _, _, z5⟩ := HXP.out.at_ hbr
                obtain ⟨_, _, _, _, _, z5q⟩ := HXQ.out.at_ hbr
                clear x5 y5
                by_cases hlt : k < p.kids.length
                · have hlq : k < q.kids.length := by have := HL.out; omega
                  obtain ⟨b, off, rfl, hbB, hv⟩ := (Hr.out.below hb (Nat.le_refl _)).2 k hlt
                  obtain ⟨d', hd, B1, cp, c0, c1, c2, c3, c4, c5, hm⟩ := hv.parts
                  obtain ⟨b', off', rfl, hbB', hv'⟩ := (Hr'.out.below hb (Nat.le_refl _)).2 k hlq
                  obtain ⟨d'', hd', B2, cp', c0q, c1q, c2q, c3q, c4q, c5q, hm'⟩ := hv'.parts
                  obtain rfl : d'' = d' := by omega
                  have d0 := cell_regrown c0
                  have d0q := cell_regrown c0q
                  have d1 := cell_regrown c1
                  have d1q := cell_regrown c1q
                  have d2 := cell_regrown c2
                  have d2q := cell_regrown c2q
                  have d3 := cell_regrown c3
                  have d3q := cell_regrown c3q
                  have d4 := cell_regrown c4
                  have d4q := cell_regrown c4q
                  have d5 := cell_regrown c5
                  have d5q := cell_regrown c5q
                  have e5 := cell_regrown z5
                  have e5q := cell_regrown z5q
                  have Hm := Lib.hid hm
                  have Hm' := Lib.hid hm'
                  have IHd := Lib.hid (IH.out d'' hd)
                  clear c0 c1 c2 c3 c4 c5 c0q c1q c2q c3q c4q c5q hm hm' hv hv' hd hd'
                  have hi : (k : Int) < (p.kids.length : Int) := by omega
                  have hiq : (k : Int) < (q.kids.length : Int) := by omega
                  by_cases hs : p.kids[k] = q.kids[k]
                  · have HD : Hid (dec (p.kids[k] = q.kids[k]) = true) := dec_t hs
                    have HN := Lib.hid (hno.out.step hlt hlq hs)
                    clear hs hno
                    have HC : Hid (∀ dq osq, Calls Try.prog 30 #[.agg #[.int .i64 p.kids[k].op, .int .i64 p.kids[k].ctor, .int .i64 p.kids[k].n, .int .i64 p.kids[k].m, .int .i64 p.kids[k].var, .slice B1 p.kids[k].kids.length cp], .agg #[.int .i64 q.kids[k].op, .int .i64 q.kids[k].ctor, .int .i64 q.kids[k].n, .int .i64 q.kids[k].m, .int .i64 q.kids[k].var, .slice B2 q.kids[k].kids.length cp']] (grow (redrawn wr dq) osq) fun e' w' => e' = .returned (.bool true) ∧ Below (grow (redrawn wr dq) osq).heap.size (grow (redrawn wr dq) osq) w') := fun dq osq => by
                      have h1 := IHd.out B1 B2 p.kids[k] q.kids[k] cp cp' (grow (redrawn wr dq) osq) (Hm.out.keep (fun p hp => (below_regrown wr _ _).cell (Nat.lt_of_lt_of_le hp hb.size)) (Nat.le_trans hb.size (below_regrown wr _ _).size)) (Hm'.out.keep (fun p hp => (below_regrown wr _ _).cell (Nat.lt_of_lt_of_le hp hb.size)) (Nat.le_trans hb.size (below_regrown wr _ _).size))
                      rw [HD.out] at h1
                      exact h1
                    go_wp2_with fail
                    refine wp_region_quiet_below (by kernel_rfl) (by kernel_rfl) ?_
                    repeat (quiet_step (exact Calls.regrown_of (HC.out _ _)))
                    refine wpQuiet_nil ?_
                    intro _ hw'
                    obtain ⟨⟨dq, osq⟩, hw''⟩ := hw'
                    subst hw''
                    have hb2 := hbr.trans ((below_regrown wr dq osq).mono hbr.size)
                    clear d0 d0q d1 d1q d2 d2q d3 d3q d4 d4q d5 d5q e5 e5q z5 z5q
                    go_wp2_with fail
                    go_roundw
                    case rel => exact ⟨k + 1, by omega, by go_num, HN, hb2⟩
                    case measure => simp [intOf]; omega
                  · have HD : Hid (dec (p.kids[k] = q.kids[k]) = false) := dec_f hs
                    have HF : Hid (dec (p = q) = false) := dec_f (fun h => hs (by subst h; rfl))
                    clear hs hno
                    have HC : Hid (∀ dq osq, Calls Try.prog 30 #[.agg #[.int .i64 p.kids[k].op, .int .i64 p.kids[k].ctor, .int .i64 p.kids[k].n, .int .i64 p.kids[k].m, .int .i64 p.kids[k].var, .slice B1 p.kids[k].kids.length cp], .agg #[.int .i64 q.kids[k].op, .int .i64 q.kids[k].ctor, .int .i64 q.kids[k].n, .int .i64 q.kids[k].m, .int .i64 q.kids[k].var, .slice B2 q.kids[k].kids.length cp']] (grow (redrawn wr dq) osq) fun e' w' => e' = .returned (.bool false) ∧ Below (grow (redrawn wr dq) osq).heap.size (grow (redrawn wr dq) osq) w') := fun dq osq => by
                      have h1 := IHd.out B1 B2 p.kids[k] q.kids[k] cp cp' (grow (redrawn wr dq) osq) (Hm.out.keep (fun p hp => (below_regrown wr _ _).cell (Nat.lt_of_lt_of_le hp hb.size)) (Nat.le_trans hb.size (below_regrown wr _ _).size)) (Hm'.out.keep (fun p hp => (below_regrown wr _ _).cell (Nat.lt_of_lt_of_le hp hb.size)) (Nat.le_trans hb.size (below_regrown wr _ _).size))
                      rw [HD.out] at h1
                      exact h1
                    go_wp2_with fail
                    refine wp_region_quiet_below (by kernel_rfl) (by kernel_rfl) ?_
                    repeat (quiet_step (exact Calls.regrown_of (HC.out _ _)))
                    refine wpQuiet_nil ?_
                    intro _ hw'
                    obtain ⟨⟨dq, osq⟩, hw''⟩ := hw'
                    subst hw''
                    have hb2 := hbr.trans ((below_regrown wr dq osq).mono hbr.size)
                    clear d0 d0q d1 d1q d2 d2q d3 d3q d4 d4q d5 d5q e5 e5q z5 z5q
                    go_wp2_with fail
                    go_ret
                    exact ⟨ret_bool HF.out.symm, below_aft hb0 hb2 hb0.size⟩
                · have HF : Hid (dec (p = q) = true) := dec_t (HT.out (fun j h h' hj => hno.out j h h' (by omega)))
                  clear hno
                  go_wp2_with fail
                  go_ret
                  exact ⟨ret_bool HF.out.symm, hb⟩
            · have u5 := ine_t h5
              have HF : Hid (dec (p = q) = false) := dec_f (fun h => h5 (by rw [h]))
              clear h0 h1 h2 h3 h4 h5
              go_enter Try.func30, Try.ntmps30
              go_wp2_with fail
              go_ret
              exact ⟨ret_bool HF.out.symm, by first | exact hb0 | (rw [HW.out]; exact hb0)⟩
          · have u4 := ine_t h4
            have HF : Hid (dec (p = q) = false) := dec_f (fun h => h4 (by rw [h]))
            clear h0 h1 h2 h3 h4
            go_enter Try.func30, Try.ntmps30
            go_wp2_with fail
            go_ret
            exact ⟨ret_bool HF.out.symm, by first | exact hb0 | (rw [HW.out]; exact hb0)⟩
        · have u3 := ine_t h3
          have HF : Hid (dec (p = q) = false) := dec_f (fun h => h3 (by rw [h]))
          clear h0 h1 h2 h3
          go_enter Try.func30, Try.ntmps30
          go_wp2_with fail
          go_ret
          exact ⟨ret_bool HF.out.symm, by first | exact hb0 | (rw [HW.out]; exact hb0)⟩
      · have u2 := ine_t h2
        have HF : Hid (dec (p = q) = false) := dec_f (fun h => h2 (by rw [h]))
        clear h0 h1 h2
        go_enter Try.func30, Try.ntmps30
        go_wp2_with fail
        go_ret
        exact ⟨ret_bool HF.out.symm, by first | exact hb0 | (rw [HW.out]; exact hb0)⟩
    · have u1 := ine_t h1
      have HF : Hid (dec (p = q) = false) := dec_f (fun h => h1 (by rw [h]))
      clear h0 h1
      go_enter Try.func30, Try.ntmps30
      go_wp2_with fail
      go_ret
      exact ⟨ret_bool HF.out.symm, by first | exact hb0 | (rw [HW.out]; exact hb0)⟩
  · have u0 := ine_t h0
    have HF : Hid (dec (p = q) = false) := dec_f (fun h => h0 (by rw [h]))
    clear h0
    go_enter Try.func30, Try.ntmps30
    go_wp2_with fail
    go_ret
    exact ⟨ret_bool HF.out.symm, by first | exact hb0 | (rw [HW.out]; exact hb0)⟩
theorem ps_any : ∀ d, PsD d
  | 0 => ps_of 0 (fun _ h => by omega)
  | d + 1 => ps_of (d + 1) (fun d' h => (Nat.succ.inj h) ▸ ps_any d)
theorem ps_spec (d d' : Nat) (A A' : Option Addr) (p q : Pt) (cap cap' : Nat) (w : World) (hr : RPs d w w.heap.size A p.kids) (hr' : RPs d' w w.heap.size A' q.kids) : Calls Try.prog 30 #[.agg #[.int .i64 p.op, .int .i64 p.ctor, .int .i64 p.n, .int .i64 p.m, .int .i64 p.var, .slice A p.kids.length cap], .agg #[.int .i64 q.op, .int .i64 q.ctor, .int .i64 q.n, .int .i64 q.m, .int .i64 q.var, .slice A' q.kids.length cap']] w fun e w' => e = .returned (.bool (dec (p = q))) ∧ Below w.heap.size w w' :=
  ps_any (max d d') A A' p q cap cap' w (hr.more (Nat.le_max_left _ _)) (hr'.more (Nat.le_max_right _ _))
end Go.Proofs.Ythdnfnmglhifmaa
/-
  Two lists of patterns that have the same fields: the program's EqualFunc with sameFields. No statement is proved here.
-/
namespace Go.Proofs.Ythdnfnmglhifmaa
open Go.RowKit Go.Sort Go.Deep
set_option maxRecDepth 100000
set_option linter.unusedVariables false
def SameQ (p q : Pt) : Prop := SameF p.op p.ctor p.n p.m p.var q.op q.ctor q.n q.m q.var
def AllQ (a b : List Pt) (k : Nat) : Prop := ∀ j (h : j < a.length) (h' : j < b.length), j < k → SameQ a[j] b[j]
theorem AllQ.zero {a b : List Pt} : AllQ a b 0 := fun j _ _ h => absurd h (by omega)
theorem AllQ.step {a b : List Pt} {k : Nat} (h : AllQ a b k) (hk : k < a.length) (hk' : k < b.length) (e : SameQ a[k] b[k]) : AllQ a b (k + 1) := by
  intro j hj hj' hjk
  by_cases e' : j = k
  · subst e'; exact e
  · exact h j hj hj' (by omega)
/-- What EqualFunc answers. -/
def EqfR (a b : List Pt) (r : Bool) : Prop := (r = true ∧ a.length = b.length ∧ AllQ a b a.length) ∨ (r = false ∧ ¬ a = b)
set_option maxHeartbeats 3200000 in
theorem eqf_any (A B : Option Addr) (a b : List Pt) (ca cb d e : Nat) (w : World) (ha : RPs d w w.heap.size A a) (hb0 : RPs e w w.heap.size B b) :
    Calls Try.prog 70 #[.slice A a.length ca, .slice B b.length cb, .func (.func 71) #[] #[]] w fun e w' => ∃ r : Bool, e = .returned (.bool r) ∧ EqfR a b r ∧ Below w.heap.size w w' := by
  have hn := ha.1
  have hn' := hb0.1
  unfold maxLen at hn hn'
  have HA := Lib.hid ha
  have HB := Lib.hid hb0
  clear ha hb0
  by_cases hl : (a.length : Int) = (b.length : Int)
  · have u0 := ine_f hl
    have hll : a.length = b.length := by omega
    have HL := Lib.hid hll
    clear hl
    go_enter Try.func70, Try.ntmps70
    go_wp2_with fail
    go_loopw [17] (fun i wr => ∃ k : Nat, k ≤ a.length ∧ i = .int .i64 k ∧ Hid (AllQ a b k) ∧ Below w.heap.size w wr) (fun i _ => a.length - (intOf i).toNat)
    case atStart => exact ⟨0, by omega, rfl, AllQ.zero, Below.refl _ _⟩
    case round =>
      obtain ⟨k, hk, rfl, hq, hb⟩ := hrel
      by_cases hlt : k < a.length
      · have hltb : k < b.length := by rw [← HL.out]; exact hlt
        obtain ⟨g, off, rfl, hgB, hp⟩ := (HA.out.below hb (Nat.le_refl _)).2 k hlt
        obtain ⟨d', hd, A', cp, c0, c1, c2, c3, c4, c5, hm⟩ := hp.parts
        obtain ⟨g2, off2, rfl, hgB2, hp2⟩ := (HB.out.below hb (Nat.le_refl _)).2 k hltb
        obtain ⟨d2', hd2, A2', cp2, e0, e1, e2, e3, e4, e5, hm2⟩ := hp2.parts
        have hkI : (k : Int) < (a.length : Int) := by omega
        have hkI2 : (k : Int) < (b.length : Int) := by omega
        have hsb := hb.size
        have hg1 : g < wr.heap.size := by omega
        have hg2 : g2 < wr.heap.size := by omega
        clear hp hp2 hm hm2 hd hd2 hll
        by_cases hs : SameQ a[k] b[k]
        · have HD : Hid (dec (SameF a[k].op a[k].ctor a[k].n a[k].m a[k].var b[k].op b[k].ctor b[k].n b[k].m b[k].var) = true) := dec_t hs
          have HN := Lib.hid (hq.out.step hlt hltb hs)
          clear hs hq
          go_wp2_with fail
          refine (same_any _ _ _ _ _ _ _ _ _ _ _ _ _ _ _ _ _).mono ?_
          rw [HD.out]
          rintro e9 w1 ⟨rfl, hb1⟩
          have hb2 : Below w.heap.size w w1 := ((hb.alloc hb.size _).alloc (by rw [World.size_alloc]; have := hb.size; omega) _).trans (hb1.mono (by rw [World.size_alloc, World.size_alloc]; have := hb.size; omega))
          go_wp2_with fail
          go_roundw
          case rel => exact ⟨k + 1, by omega, by go_num, HN, hb2⟩
          case measure => simp [intOf]; omega
        · have HD : Hid (dec (SameF a[k].op a[k].ctor a[k].n a[k].m a[k].var b[k].op b[k].ctor b[k].n b[k].m b[k].var) = false) := dec_f hs
          have HN : Hid (EqfR a b false) := .inr ⟨rfl, fun h => hs (by subst h; exact ⟨rfl, rfl, rfl, rfl, rfl⟩)⟩
          clear hs hq
          go_wp2_with fail
          refine (same_any _ _ _ _ _ _ _ _ _ _ _ _ _ _ _ _ _).mono ?_
          rw [HD.out]
          rintro e9 w1 ⟨rfl, hb1⟩
          have hb2 : Below w.heap.size w w1 := ((hb.alloc hb.size _).alloc (by rw [World.size_alloc]; have := hb.size; omega) _).trans (hb1.mono (by rw [World.size_alloc, World.size_alloc]; have := hb.size; omega))
          go_wp2_with fail
          go_ret
          exact ⟨_, rfl, HN.out, hb2⟩
      · have HN : Hid (EqfR a b true) := .inl ⟨rfl, HL.out, fun j h h' _ => hq.out j h h' (by omega)⟩
        clear hq
        go_wp2_with fail
        go_ret
        exact ⟨_, rfl, HN.out, hb⟩
  · have u0 := ine_t hl
    have HN : Hid (EqfR a b false) := .inr ⟨rfl, fun h => hl (by rw [h])⟩
    clear hl
    go_enter Try.func70, Try.ntmps70
    go_wp2_with fail
    go_ret
    exact ⟨_, rfl, HN.out, Below.refl _ _⟩
end Go.Proofs.Ythdnfnmglhifmaa
/-
  A map that the call has made, whose keys are the places of two lists, as a list of keys. No statement is proved here.
-/
namespace Go.Proofs.Ythdnfnmglhifmaa
open Go Go.RowKit Go.ChangeMaps Go.MapKept
set_option maxRecDepth 100000
set_option linter.unusedVariables false
set_option linter.unusedSimpArgs false
theorem t1_P (e : Bool) (a b : Option Addr) (n m : Int) (w : World) : (Instr.checkKey e 10000 125 (.agg #[.pointer a, .int .i64 n, .pointer b, .int .i64 m])).run Try.prog w = .ok () w := by kernel_rfl
def LiesPP (w : World) (a : Option Addr) : Prop := ∀ x, a = some x → ∃ c t, w.heap[x.block]? = some (.cells c t (0, 0))
theorem eqp_P {tp te : Nat} {j : TypeInfo} (hp : Try.prog.underlying tp = some (.pointer te)) (hte : Try.prog.info? te = some j) (hsz : j.size ≠ 0) (d : Nat) (a b : Option Addr) (w : World) (ha : LiesPP w a) (hb : LiesPP w b)  : (Op.equalIn (d + 1) tp (.pointer a) (.pointer b)).run Try.prog w = .ok (decide (a = b)) w := by
  cases a with
  | none => cases b with
    | none => simp [Op.equalIn, run_underlying hp]
    | some y => simp [Op.equalIn, run_underlying hp]
  | some x => cases b with
    | none => simp [Op.equalIn, run_underlying hp]
    | some y =>
      by_cases e : x = y
      · subst e
        simp [Op.equalIn, run_underlying hp, sizeOf, typeInfo, hte, hsz, run_sameAddr_same]
      · obtain ⟨ca, ta, h1⟩ := ha x rfl
        obtain ⟨cb, tb, h2⟩ := hb y rfl
        simp [Op.equalIn, run_underlying hp, sizeOf, typeInfo, hte, hsz, run_sameAddr_other w e h1 h2, e]
theorem eqi_P {t : Nat} {k : IntKind} (ht : Try.prog.underlying t = some (.int k)) (d : Nat) (n m : Int) (w : World) : (Op.equalIn (d + 1) t (.int .i64 n) (.int .i64 m)).run Try.prog w = .ok (decide (n = m)) w := by
  simp [Op.equalIn, run_underlying ht]
  by_cases e : n = m <;> simp [e]
theorem heldL_P : Try.prog.stoodInHeld 123 = false := by kernel_rfl
theorem isAggQ_P (w : World) : (isAgg 121).run Try.prog w = .ok false w := by kernel_rfl
theorem isAggI_P (w : World) : (isAgg 3).run Try.prog w = .ok false w := by kernel_rfl
theorem isAggL_P (w : World) : (isAgg 123).run Try.prog w = .ok true w := by kernel_rfl
theorem szL_P (w : World) : (sizeOf 123).run Try.prog w = .ok 2 w := by kernel_rfl
theorem infE_P : (Try.prog.info? 37).map (fun j => j.size) = some 6 := by kernel_rfl
theorem infE'_P : ∃ j, Try.prog.info? 37 = some j ∧ j.size ≠ 0 := by
  have h := infE_P
  cases e : Try.prog.info? 37 with
  | none => rw [e] at h; cases h
  | some j => rw [e] at h; injection h with h; exact ⟨j, rfl, by have h : j.size = 6 := h; omega⟩
theorem runProg_P (w : World) : Sem.run Try.prog (Sem.program Sem.pure) w = .ok Try.prog w := by kernel_rfl
theorem part1_P (a : Option Addr) (n : Int) (w : World) : (part 121 #[.pointer a, .int .i64 n] 0).run Try.prog w = .ok (.pointer a) w := by simp [part, isAggQ_P]
theorem part2_P (a : Option Addr) (n : Int) (w : World) : (part 3 #[.pointer a, .int .i64 n] 1).run Try.prog w = .ok (.int .i64 n) w := by simp [part, isAggI_P]
theorem eqk_P (d : Nat) (a b : Option Addr) (n m : Int) (w : World) (ha : LiesPP w a) (hb : LiesPP w b) : (Op.equalIn (d + 2) 123 (.agg #[.pointer a, .int .i64 n]) (.agg #[.pointer b, .int .i64 m])).run Try.prog w = .ok (decide (a = b ∧ n = m)) w := by
  obtain ⟨j, hj, hs⟩ := infE'_P
  have h1 := eqp_P Try.underlying121 hj hs d a b w ha hb
  have h2 := eqi_P Try.underlying3 d n m w
  rw [Bool.decide_and]
  generalize decide (a = b) = p at *
  generalize decide (n = m) = q at *
  unfold Op.equalIn
  cases p <;> cases q <;> simp [run_underlying Try.underlying123, heldL_P, program, runProg_P, part1_P, part2_P, h1, h2]
theorem partA_P (a b : Option Addr) (n m : Int) (w : World) : (part 123 #[.pointer a, .int .i64 n, .pointer b, .int .i64 m] 0).run Try.prog w = .ok (.agg #[.pointer a, .int .i64 n]) w := by simp [part, isAggL_P, szL_P]
theorem partB_P (a b : Option Addr) (n m : Int) (w : World) : (part 123 #[.pointer a, .int .i64 n, .pointer b, .int .i64 m] 2).run Try.prog w = .ok (.agg #[.pointer b, .int .i64 m]) w := by simp [part, isAggL_P, szL_P]
theorem eqK_P (d : Nat) (a b a' b' : Option Addr) (n m n' m' : Int) (w : World) (ha : LiesPP w a) (hb : LiesPP w b) (ha' : LiesPP w a') (hb' : LiesPP w b') : (Op.equalIn (d + 3) 125 (.agg #[.pointer a, .int .i64 n, .pointer b, .int .i64 m]) (.agg #[.pointer a', .int .i64 n', .pointer b', .int .i64 m'])).run Try.prog w = .ok (decide ((a = a' ∧ n = n') ∧ b = b' ∧ m = m')) w := by
  have h1 := eqk_P d a a' n n' w ha ha'
  have h2 := eqk_P d b b' m m' w hb hb'
  rw [Bool.decide_and]
  generalize decide (a = a' ∧ n = n') = p at *
  generalize decide (b = b' ∧ m = m') = q at *
  unfold Op.equalIn
  cases p <;> cases q <;> simp [run_underlying Try.underlying125, szL_P, partA_P, partB_P, h1, h2, Std.Legacy.Range.forIn_eq_forIn_range', Std.Legacy.Range.size, List.range']
/-- A key of the map: the places of two lists. -/
structure KyP where
  a : Option Addr
  n : Nat
  b : Option Addr
  m : Nat
deriving DecidableEq
def KyP.v (k : KyP) : Value := .agg #[.pointer k.a, .int .i64 k.n, .pointer k.b, .int .i64 k.m]
def LiesKP (w : World) (k : KyP) : Prop := LiesPP w k.a ∧ LiesPP w k.b
theorem eqKy_P (d : Nat) (k k' : KyP) (w : World) (h : LiesKP w k) (h' : LiesKP w k') : (Op.equalIn (d + 3) 125 k.v k'.v).run Try.prog w = .ok (decide (k = k')) w := by
  have := eqK_P d k.a k.b k'.a k'.b k.n k.m k'.n k'.m w h.1 h.2 h'.1 h'.2
  unfold KyP.v
  rw [this]
  congr 1
  refine decide_eq_decide.2 ?_
  cases k; cases k'
  simp only [KyP.mk.injEq]
  constructor
  · rintro ⟨⟨rfl, h1⟩, rfl, h2⟩; exact ⟨rfl, by omega, rfl, by omega⟩
  · rintro ⟨rfl, rfl, rfl, rfl⟩; exact ⟨⟨rfl, rfl⟩, rfl, rfl⟩
/-- The entries of the map: each key with true. -/
def EsKP : List KyP → List MapEntry → Prop
  | [], [] => True
  | k :: S, e :: es => (e.key = k.v ∧ e.val = .bool true) ∧ EsKP S es
  | _, _ => False
theorem EsKP.push : ∀ {S : List KyP} {es : List MapEntry} (k : KyP) (e : MapEntry), EsKP S es → e.key = k.v → e.val = .bool true → EsKP (S ++ [k]) (es ++ [e])
  | [], [], k, e, _, h1, h2 => ⟨⟨h1, h2⟩, True.intro⟩
  | k' :: S, e' :: es, k, e, h, h1, h2 => ⟨h.1, EsKP.push k e h.2 h1 h2⟩
  | [], _ :: _, _, _, h, _, _ => h.elim
  | _ :: _, [], _, _, h, _, _ => h.elim
theorem findA_P (k : KyP) (w : World) (h : LiesKP w k) : ∀ (S : List KyP) (es : List MapEntry) (i : Nat), EsKP S es → (∀ k' ∈ S, LiesKP w k') → ∃ r, (Instr.findAsking 125 k.v es i).run Try.prog w = .ok r w ∧ (k ∈ S → ∃ j, r = some (j, .bool true)) ∧ (¬ k ∈ S → r = none)
  | [], [], i, _, _ => ⟨none, by simp [Instr.findAsking], fun h => (by cases h), fun _ => rfl⟩
  | [], _ :: _, _, hE, _ => hE.elim
  | _ :: _, [], _, hE, _ => hE.elim
  | k' :: S, e :: es, i, hE, hl => by
      obtain ⟨h1, h2⟩ := hE
      have hq := eqKy_P 9997 k k' w h (hl k' (List.mem_cons_self ..))
      by_cases e' : k = k'
      · subst e'
        refine ⟨some (i, .bool true), ?_, fun _ => ⟨i, rfl⟩, fun hn => absurd (List.mem_cons_self ..) hn⟩
        rw [decide_eq_true rfl] at hq
        simp [Instr.findAsking, Op.equal, Op.maxDepth, h1.1, h1.2, hq]
      · rw [decide_eq_false e'] at hq
        obtain ⟨r, hr, ha, hb⟩ := findA_P k w h S es (i + 1) h2 (fun x hx => hl x (List.mem_cons_of_mem _ hx))
        refine ⟨r, ?_, fun hm => ha ((List.mem_cons.1 hm).resolve_left e'), fun hn => hb (fun hm => hn (List.mem_cons_of_mem _ hm))⟩
        simp [Instr.findAsking, Op.equal, Op.maxDepth, h1.1, hq, hr]
def MapKyP (w : World) (b : Nat) (S : List KyP) : Prop := ∃ es clock, w.heap[b]? = some (.map es clock) ∧ EsKP S es.toList
theorem MapKyP.made (w : World) : MapKyP (w.alloc (.map #[] 0)) w.heap.size [] := ⟨#[], 0, by show (w.heap.push (.map #[] 0))[w.heap.size]? = _; simp, True.intro⟩
theorem MapKyP.keep {w w' : World} {b : Nat} {S : List KyP} (h : MapKyP w b S) (hb : w'.heap[b]? = w.heap[b]?) : MapKyP w' b S := by
  obtain ⟨es, c, h1, h2⟩ := h; exact ⟨es, c, hb.trans h1, h2⟩
theorem runFind_P (k : KyP) (w : World) (h : LiesKP w k) (S : List KyP) (es : Array MapEntry) (hE : EsKP S es.toList) (hl : ∀ k' ∈ S, LiesKP w k') : ∃ r, (Instr.findKey 125 k.v es.toList).run Try.prog w = .ok r w ∧ (k ∈ S → ∃ j, r = some (j, .bool true)) ∧ (¬ k ∈ S → r = none) := by
  obtain ⟨r, hr, ha, hb⟩ := findA_P k w h S es.toList 0 hE hl
  refine ⟨r, ?_, ha, hb⟩
  unfold Instr.findKey
  cases hE' : es.toList with
  | nil =>
    rw [hE'] at hr hE
    cases S with
    | cons k' S => exact hE.elim
    | nil =>
    rw [hb (by simp)]
    simp [run_underlying Try.underlying125, Instr.findNow]
  | cons e rest =>
    rw [hE'] at hr hE
    cases S with
    | nil => exact hE.elim
    | cons k' S =>
      obtain ⟨h1, h2⟩ := hE
      simp [run_underlying Try.underlying125, Instr.findNow, Instr.sameNow, h1.1, KyP.v]
      simpa [KyP.v] using hr
theorem MapKyP.look {w : World} {b : Nat} {S : List KyP} (h : MapKyP w b S) {k : KyP} (hk : LiesKP w k) (hl : ∀ k' ∈ S, LiesKP w k') : (Instr.lookup 116 (.map (some b)) k.v false).run Try.prog w = .ok (.bool (decide (k ∈ S))) w := by
  obtain ⟨es, c, h1, h2⟩ := h
  obtain ⟨r, hr, ha, hb⟩ := runFind_P k w hk S es h2 hl
  have hc := t1_P es.isEmpty k.a k.b k.n k.m w
  have hz : (zeroValue 4).run Try.prog w = .ok (.bool false) w := by kernel_rfl
  by_cases hm : k ∈ S
  · obtain ⟨j, rfl⟩ := ha hm
    rw [decide_eq_true hm]
    simp [Instr.lookup, run_underlying Try.underlying116, MapKept.run_getObj_map h1, KyP.v, hc, Result.andThen] at hr ⊢
    simp [hr]
  · rw [hb hm] at hr
    rw [decide_eq_false hm]
    simp [Instr.lookup, run_underlying Try.underlying116, MapKept.run_getObj_map h1, KyP.v, hc, hz, Result.andThen] at hr ⊢
    simp [hr, hz]
theorem MapKyP.put {w : World} {b : Nat} {S : List KyP} (h : MapKyP w b S) {k : KyP} (hk : LiesKP w k) (hl : ∀ k' ∈ S, LiesKP w k') (hn : ¬ k ∈ S) : ∃ w', (Instr.mapUpdate 116 (.map (some b)) k.v (.bool true)).run Try.prog w = .ok () w' ∧ MapKyP w' b (S ++ [k]) ∧ w.grownBy w' (some b) := by
  obtain ⟨es, c, h1, h2⟩ := h
  obtain ⟨r, hr, ha, hb⟩ := runFind_P k w hk S es h2 hl
  have hc := t1_P false k.a k.b k.n k.m w
  rw [hb hn] at hr
  refine ⟨setBlock w b (.map (es.push { key := k.v, val := .bool true, born := c }) (c + 1)), ?_, ⟨_, _, heap_setBlock_same h1 _, ?_⟩, ⟨rfl, rfl, rfl, by simp [setBlock], fun i _ hi => heap_setBlock_other h1 _ (fun e => hi (by rw [e]))⟩⟩
  · simp [Instr.mapUpdate, run_underlying Try.underlying116, MapKept.run_getObj_map h1, KyP.v, hc, Result.andThen] at hr ⊢
    simp [hr, MapKept.run_setObj_map _ h1, setBlock]
  · rw [Array.toList_push]
    exact EsKP.push k _ h2 rfl rfl
end Go.Proofs.Ythdnfnmglhifmaa
