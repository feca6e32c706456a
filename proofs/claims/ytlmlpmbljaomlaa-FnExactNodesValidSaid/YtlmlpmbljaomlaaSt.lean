/-
  Structs of numbers, lists of numbers and lists of structs, as they lie in memory between two bounds; how much they hold. No statement is proved here.
-/
import Derived.Test.YtlmlpmbljaomlaaRows
import Derived.WalkKit
import Derived.WalkSpells
import Derived.ProofKit
import Derived.Lib.Hide
namespace Go.Proofs.Ytlmlpmbljaomlaa
open Go.RowKit
set_option maxRecDepth 100000
set_option linter.unusedVariables false

structure Pb where
  var : Int
  path : List Int
deriving Inhabited
structure Eg where
  ctor : Int
  n : Int
  m : Int
  to : Int
deriving Inhabited
structure Nd where
  op : Int
  clause : Int
  binds : List Pb
  path : List Int
  edges : List Eg
  els : Int
deriving Inhabited
def QIs (w : World) (lo B : Nat) (A : Option Addr) (l : List Int) : Prop := l.length ≤ maxLen ∧ ∀ k (h : k < l.length), ∃ b off, A = some ⟨b, off, none⟩ ∧ lo ≤ b ∧ b < B ∧ w.cell? ⟨b, off + k, none⟩ = some (.int .i64 l[k])
def QPb (w : World) (lo B : Nat) (b o : Nat) (x : Pb) : Prop := ∃ (A1 : Option Addr) (c1 : Nat), w.cell? ⟨b, o, none⟩ = some (.int .i64 x.var) ∧ w.cell? ⟨b, o + 1, none⟩ = some (.slice A1 x.path.length c1) ∧ QIs w lo B A1 x.path
def QPbs (w : World) (lo B : Nat) (A : Option Addr) (l : List Pb) : Prop := l.length ≤ maxLen ∧ ∀ k (h : k < l.length), ∃ b off, A = some ⟨b, off, none⟩ ∧ lo ≤ b ∧ b < B ∧ QPb w lo B b (off + k * 2) l[k]
def QEg (w : World) (lo B : Nat) (b o : Nat) (x : Eg) : Prop := w.cell? ⟨b, o, none⟩ = some (.int .i64 x.ctor) ∧ w.cell? ⟨b, o + 1, none⟩ = some (.int .i64 x.n) ∧ w.cell? ⟨b, o + 2, none⟩ = some (.int .i64 x.m) ∧ w.cell? ⟨b, o + 3, none⟩ = some (.int .i64 x.to)
def QEgs (w : World) (lo B : Nat) (A : Option Addr) (l : List Eg) : Prop := l.length ≤ maxLen ∧ ∀ k (h : k < l.length), ∃ b off, A = some ⟨b, off, none⟩ ∧ lo ≤ b ∧ b < B ∧ QEg w lo B b (off + k * 4) l[k]
def QNd (w : World) (lo B : Nat) (b o : Nat) (x : Nd) : Prop := ∃ (A2 : Option Addr) (c2 : Nat) (A3 : Option Addr) (c3 : Nat) (A4 : Option Addr) (c4 : Nat), w.cell? ⟨b, o, none⟩ = some (.int .i64 x.op) ∧ w.cell? ⟨b, o + 1, none⟩ = some (.int .i64 x.clause) ∧ w.cell? ⟨b, o + 2, none⟩ = some (.slice A2 x.binds.length c2) ∧ w.cell? ⟨b, o + 3, none⟩ = some (.slice A3 x.path.length c3) ∧ w.cell? ⟨b, o + 4, none⟩ = some (.slice A4 x.edges.length c4) ∧ w.cell? ⟨b, o + 5, none⟩ = some (.int .i64 x.els) ∧ QPbs w lo B A2 x.binds ∧ QIs w lo B A3 x.path ∧ QEgs w lo B A4 x.edges
def QNds (w : World) (lo B : Nat) (A : Option Addr) (l : List Nd) : Prop := l.length ≤ maxLen ∧ ∀ k (h : k < l.length), ∃ b off, A = some ⟨b, off, none⟩ ∧ lo ≤ b ∧ b < B ∧ QNd w lo B b (off + k * 6) l[k]
section
variable {w w' : World} {lo lo' B B' : Nat} {A : Option Addr}
theorem QIs.keep {l : List Int} (h : QIs w lo B A l) (hk : ∀ p : Addr, lo ≤ p.block → p.block < B → w'.cell? p = w.cell? p) (hl : lo' ≤ lo) (hB : B ≤ B') : QIs w' lo' B' A l :=
  ⟨h.1, fun k hk' => by
    obtain ⟨b, off, e, h0, h1, h2⟩ := h.2 k hk'
    exact ⟨b, off, e, by omega, by omega, (hk _ h0 h1).trans h2⟩⟩
theorem QPb.keep {b o : Nat} {x : Pb} (h : QPb w lo B b o x) (h0 : lo ≤ b) (h1 : b < B) (hk : ∀ p : Addr, lo ≤ p.block → p.block < B → w'.cell? p = w.cell? p) (hl : lo' ≤ lo) (hB : B ≤ B') : QPb w' lo' B' b o x := by
  obtain ⟨A1, c1, x0, x1, s1⟩ := h
  exact ⟨A1, c1, (hk _ h0 h1).trans x0, (hk _ h0 h1).trans x1, s1.keep hk hl hB⟩
theorem QPbs.keep {l : List Pb} (h : QPbs w lo B A l) (hk : ∀ p : Addr, lo ≤ p.block → p.block < B → w'.cell? p = w.cell? p) (hl : lo' ≤ lo) (hB : B ≤ B') : QPbs w' lo' B' A l :=
  ⟨h.1, fun k hk' => by
    obtain ⟨b, off, e, h0, h1, h2⟩ := h.2 k hk'
    exact ⟨b, off, e, by omega, by omega, h2.keep h0 h1 hk hl hB⟩⟩
theorem QEg.keep {b o : Nat} {x : Eg} (h : QEg w lo B b o x) (h0 : lo ≤ b) (h1 : b < B) (hk : ∀ p : Addr, lo ≤ p.block → p.block < B → w'.cell? p = w.cell? p) (hl : lo' ≤ lo) (hB : B ≤ B') : QEg w' lo' B' b o x := by
  obtain ⟨x0, x1, x2, x3⟩ := h
  exact ⟨(hk _ h0 h1).trans x0, (hk _ h0 h1).trans x1, (hk _ h0 h1).trans x2, (hk _ h0 h1).trans x3⟩
theorem QEgs.keep {l : List Eg} (h : QEgs w lo B A l) (hk : ∀ p : Addr, lo ≤ p.block → p.block < B → w'.cell? p = w.cell? p) (hl : lo' ≤ lo) (hB : B ≤ B') : QEgs w' lo' B' A l :=
  ⟨h.1, fun k hk' => by
    obtain ⟨b, off, e, h0, h1, h2⟩ := h.2 k hk'
    exact ⟨b, off, e, by omega, by omega, h2.keep h0 h1 hk hl hB⟩⟩
theorem QNd.keep {b o : Nat} {x : Nd} (h : QNd w lo B b o x) (h0 : lo ≤ b) (h1 : b < B) (hk : ∀ p : Addr, lo ≤ p.block → p.block < B → w'.cell? p = w.cell? p) (hl : lo' ≤ lo) (hB : B ≤ B') : QNd w' lo' B' b o x := by
  obtain ⟨A2, c2, A3, c3, A4, c4, x0, x1, x2, x3, x4, x5, s2, s3, s4⟩ := h
  exact ⟨A2, c2, A3, c3, A4, c4, (hk _ h0 h1).trans x0, (hk _ h0 h1).trans x1, (hk _ h0 h1).trans x2, (hk _ h0 h1).trans x3, (hk _ h0 h1).trans x4, (hk _ h0 h1).trans x5, s2.keep hk hl hB, s3.keep hk hl hB, s4.keep hk hl hB⟩
theorem QNds.keep {l : List Nd} (h : QNds w lo B A l) (hk : ∀ p : Addr, lo ≤ p.block → p.block < B → w'.cell? p = w.cell? p) (hl : lo' ≤ lo) (hB : B ≤ B') : QNds w' lo' B' A l :=
  ⟨h.1, fun k hk' => by
    obtain ⟨b, off, e, h0, h1, h2⟩ := h.2 k hk'
    exact ⟨b, off, e, by omega, by omega, h2.keep h0 h1 hk hl hB⟩⟩
theorem QIs.at_ {l : List Int} (h : QIs w lo w.heap.size A l) (hb : Below w.heap.size w w') : QIs w' lo w'.heap.size A l := h.keep (fun _ _ hp => hb.cell hp) (Nat.le_refl _) hb.size
theorem QIs.low {l : List Int} (h : QIs w lo B A l) (hl : lo' ≤ lo) : QIs w lo' B A l := h.keep (fun _ _ _ => rfl) hl (Nat.le_refl _)
theorem QIs.below {B0 : Nat} {l : List Int} (h : QIs w lo B A l) (hb : Below B0 w w') (hB : B ≤ B0) : QIs w' lo B A l := h.keep (fun _ _ hp => hb.cell (Nat.lt_of_lt_of_le hp hB)) (Nat.le_refl _) (Nat.le_refl _)
theorem QPbs.at_ {l : List Pb} (h : QPbs w lo w.heap.size A l) (hb : Below w.heap.size w w') : QPbs w' lo w'.heap.size A l := h.keep (fun _ _ hp => hb.cell hp) (Nat.le_refl _) hb.size
theorem QPbs.low {l : List Pb} (h : QPbs w lo B A l) (hl : lo' ≤ lo) : QPbs w lo' B A l := h.keep (fun _ _ _ => rfl) hl (Nat.le_refl _)
theorem QPbs.below {B0 : Nat} {l : List Pb} (h : QPbs w lo B A l) (hb : Below B0 w w') (hB : B ≤ B0) : QPbs w' lo B A l := h.keep (fun _ _ hp => hb.cell (Nat.lt_of_lt_of_le hp hB)) (Nat.le_refl _) (Nat.le_refl _)
theorem QEgs.at_ {l : List Eg} (h : QEgs w lo w.heap.size A l) (hb : Below w.heap.size w w') : QEgs w' lo w'.heap.size A l := h.keep (fun _ _ hp => hb.cell hp) (Nat.le_refl _) hb.size
theorem QEgs.low {l : List Eg} (h : QEgs w lo B A l) (hl : lo' ≤ lo) : QEgs w lo' B A l := h.keep (fun _ _ _ => rfl) hl (Nat.le_refl _)
theorem QEgs.below {B0 : Nat} {l : List Eg} (h : QEgs w lo B A l) (hb : Below B0 w w') (hB : B ≤ B0) : QEgs w' lo B A l := h.keep (fun _ _ hp => hb.cell (Nat.lt_of_lt_of_le hp hB)) (Nat.le_refl _) (Nat.le_refl _)
theorem QNds.at_ {l : List Nd} (h : QNds w lo w.heap.size A l) (hb : Below w.heap.size w w') : QNds w' lo w'.heap.size A l := h.keep (fun _ _ hp => hb.cell hp) (Nat.le_refl _) hb.size
theorem QNds.low {l : List Nd} (h : QNds w lo B A l) (hl : lo' ≤ lo) : QNds w lo' B A l := h.keep (fun _ _ _ => rfl) hl (Nat.le_refl _)
theorem QNds.below {B0 : Nat} {l : List Nd} (h : QNds w lo B A l) (hb : Below B0 w w') (hB : B ≤ B0) : QNds w' lo B A l := h.keep (fun _ _ hp => hb.cell (Nat.lt_of_lt_of_le hp hB)) (Nat.le_refl _) (Nat.le_refl _)
end

/-! How much is held. -/
def wPb (x : Pb) : Nat := x.path.length
def wPbs (l : List Pb) : Nat := l.length + (l.map wPb).sum
def wNd (x : Nd) : Nat := wPbs x.binds + x.path.length + x.edges.length
def wNds (l : List Nd) : Nat := l.length + (l.map wNd).sum
/-- What is left of a number, or -1. -/
def left (l : Int) (n : Nat) : Int := if (n : Int) ≤ l then l - n else -1
theorem left_ok {l : Int} {n : Nat} (h : (n : Int) ≤ l) : left l n = l - n := if_pos h
theorem left_no {l : Int} {n : Nat} (h : ¬ (n : Int) ≤ l) : left l n = -1 := if_neg h
theorem sum_take_succ {α : Type} (f : α → Nat) (l : List α) (k : Nat) (h : k < l.length) : ((l.take (k + 1)).map f).sum = ((l.take k).map f).sum + f l[k] := by
  rw [List.take_succ_eq_append_getElem h]; simp only [List.map_append, List.sum_append, List.map_cons, List.map_nil, List.sum_cons, List.sum_nil]; omega
theorem sum_take_le {α : Type} (f : α → Nat) (l : List α) (k : Nat) : ((l.take k).map f).sum ≤ (l.map f).sum := by
  conv => rhs; rw [← List.take_append_drop k l]
  simp only [List.map_append, List.sum_append]; omega
theorem below_aft' {B : Nat} {a w w' : World} (h : Below B a w) (hb : Below w.heap.size w w') (hB : B ≤ w.heap.size) : Below B a w' := h.trans (hb.mono hB)
end Go.Proofs.Ytlmlpmbljaomlaa
