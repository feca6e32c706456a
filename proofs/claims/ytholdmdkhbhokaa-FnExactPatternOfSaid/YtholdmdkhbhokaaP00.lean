/-
  Patterns as plain trees, and as they lie in memory. No statement is proved here.
-/
import Derived.Test.YtholdmdkhbhokaaG00
import Derived.Lib.SmallJoins
namespace Go.Proofs.Ytholdmdkhbhokaa
open Go.RowKit
set_option linter.unusedVariables false

inductive Pt where
  | mk (op ctor n m var : Int) (kids : List Pt)
instance : Inhabited Pt := ⟨.mk 0 0 0 0 0 []⟩
def Pt.op : Pt → Int | .mk x _ _ _ _ _ => x
def Pt.ctor : Pt → Int | .mk _ x _ _ _ _ => x
def Pt.n : Pt → Int | .mk _ _ x _ _ _ => x
def Pt.m : Pt → Int | .mk _ _ _ x _ _ => x
def Pt.var : Pt → Int | .mk _ _ _ _ x _ => x
def Pt.kids : Pt → List Pt | .mk _ _ _ _ _ ks => ks

mutual
/-- How many nodes lie below a node. -/
def wP : Pt → Nat | .mk _ _ _ _ _ ks => wPs ks
def wPs : List Pt → Nat | [] => 0 | v :: vs => 1 + wP v + wPs vs
end
theorem wP_kids (v : Pt) : wP v = wPs v.kids := by cases v; rw [wP]; rfl
theorem wPs_sum : ∀ l : List Pt, wPs l = l.length + (l.map wP).sum
  | [] => by rw [wPs]; rfl
  | v :: vs => by rw [wPs, wPs_sum vs]; simp only [List.length_cons, List.map_cons, List.sum_cons]; omega

/-- A tree in 6 cells, its parts in blocks below B; at most d levels. -/
def RPl : Nat → World → Nat → Nat → Nat → Pt → Prop
  | 0, _, _, _, _, _ => False
  | d + 1, w, B, b, o, v => ∃ A cap, w.cell? ⟨b, o, none⟩ = some (.int .i64 v.op) ∧ w.cell? ⟨b, o + 1, none⟩ = some (.int .i64 v.ctor) ∧ w.cell? ⟨b, o + 2, none⟩ = some (.int .i64 v.n) ∧ w.cell? ⟨b, o + 3, none⟩ = some (.int .i64 v.m) ∧ w.cell? ⟨b, o + 4, none⟩ = some (.int .i64 v.var) ∧ w.cell? ⟨b, o + 5, none⟩ = some (.slice A v.kids.length cap) ∧ v.kids.length ≤ maxLen ∧ ∀ k (h : k < v.kids.length), ∃ b' off, A = some ⟨b', off, none⟩ ∧ b' < B ∧ RPl d w B b' (off + k * 6) v.kids[k]
def RPs (d : Nat) (w : World) (B : Nat) (A : Option Addr) (l : List Pt) : Prop := l.length ≤ maxLen ∧ ∀ k (h : k < l.length), ∃ b off, A = some ⟨b, off, none⟩ ∧ b < B ∧ RPl d w B b (off + k * 6) l[k]

section
variable {w w' : World} {B B' : Nat} {A : Option Addr}
theorem RPl.parts {d b o : Nat} {v : Pt} (h : RPl d w B b o v) : ∃ d', d = d' + 1 ∧ ∃ A cap, w.cell? ⟨b, o, none⟩ = some (.int .i64 v.op) ∧ w.cell? ⟨b, o + 1, none⟩ = some (.int .i64 v.ctor) ∧ w.cell? ⟨b, o + 2, none⟩ = some (.int .i64 v.n) ∧ w.cell? ⟨b, o + 3, none⟩ = some (.int .i64 v.m) ∧ w.cell? ⟨b, o + 4, none⟩ = some (.int .i64 v.var) ∧ w.cell? ⟨b, o + 5, none⟩ = some (.slice A v.kids.length cap) ∧ RPs d' w B A v.kids := by
  cases d with
  | zero => exact h.elim
  | succ d =>
    obtain ⟨A, cap, h0, h1, h2, h3, h4, h5, h8, h9⟩ := h
    exact ⟨d, rfl, A, cap, h0, h1, h2, h3, h4, h5, h8, h9⟩
theorem RPl.keep : ∀ (d : Nat) {b o : Nat} {v : Pt}, RPl d w B b o v → b < B → (∀ p : Addr, p.block < B → w'.cell? p = w.cell? p) → B ≤ B' → RPl d w' B' b o v
  | 0, _, _, _, h, _, _, _ => h.elim
  | d + 1, _, _, _, ⟨A, cap, h0, h1, h2, h3, h4, h5, h8, h9⟩, hb, hk, hB => ⟨A, cap, (hk _ hb).trans h0, (hk _ hb).trans h1, (hk _ hb).trans h2, (hk _ hb).trans h3, (hk _ hb).trans h4, (hk _ hb).trans h5, h8, fun k hk' => by
    obtain ⟨b', off, e, hb', hv⟩ := h9 k hk'
    exact ⟨b', off, e, by omega, RPl.keep d hv hb' hk hB⟩⟩
theorem RPs.keep {d : Nat} {l : List Pt} (h : RPs d w B A l) (hk : ∀ p : Addr, p.block < B → w'.cell? p = w.cell? p) (hB : B ≤ B') : RPs d w' B' A l :=
  ⟨h.1, fun k hk' => by
    obtain ⟨b, off, e, hb, hv⟩ := h.2 k hk'
    exact ⟨b, off, e, by omega, hv.keep d hb hk hB⟩⟩
theorem RPs.below {d B0 : Nat} {l : List Pt} (h : RPs d w B A l) (hb : Below B0 w w') (hB : B ≤ B0) : RPs d w' B A l := h.keep (fun _ hp => hb.cell (Nat.lt_of_lt_of_le hp hB)) (Nat.le_refl _)
theorem RPs.at_ {d : Nat} {l : List Pt} (h : RPs d w w.heap.size A l) (hb : Below w.heap.size w w') : RPs d w' w'.heap.size A l := h.keep (fun _ hp => hb.cell hp) hb.size
theorem RPs.nil {d : Nat} : RPs d w B A [] := ⟨Nat.zero_le _, fun k h => absurd h (Nat.not_lt_zero _)⟩
theorem RPl.up : ∀ (d : Nat) {b o : Nat} {v : Pt}, RPl d w B b o v → RPl (d + 1) w B b o v
  | 0, _, _, _, h => h.elim
  | d + 1, _, _, _, ⟨A, cap, h0, h1, h2, h3, h4, h5, h8, h9⟩ => ⟨A, cap, h0, h1, h2, h3, h4, h5, h8, fun k hk' => by
    obtain ⟨b', off, e, hb', hv⟩ := h9 k hk'
    exact ⟨b', off, e, hb', RPl.up d hv⟩⟩
theorem RPl.more {d d' b o : Nat} {v : Pt} (h : RPl d w B b o v) (hd : d ≤ d') : RPl d' w B b o v := by
  obtain ⟨e, rfl⟩ := Nat.exists_eq_add_of_le hd
  clear hd
  induction e with
  | zero => exact h
  | succ e ih => exact RPl.up _ ih
theorem RPs.more {d d' : Nat} {l : List Pt} (h : RPs d w B A l) (hd : d ≤ d') : RPs d' w B A l :=
  ⟨h.1, fun k hk => by obtain ⟨b, off, e, hb, hv⟩ := h.2 k hk; exact ⟨b, off, e, hb, hv.more hd⟩⟩
end
end Go.Proofs.Ytholdmdkhbhokaa
/-
  Pt trees in blocks of their own: no part has a block of another part. No statement is proved here.
-/
namespace Go.Proofs.Ytholdmdkhbhokaa
open Go.RowKit
set_option maxRecDepth 100000
set_option linter.unusedVariables false

/-- Trees in blocks of P; no part has a block of another part. -/
def OPs : Nat → World → (Nat → Prop) → Option Addr → List Pt → Prop
  | 0, _, _, _, _ => False
  | d + 1, w, P, A, l => l.length ≤ maxLen ∧ (0 < l.length → ∃ (g : Nat) (cs : Array Value) (Q : Nat → Nat → Prop), A = some ⟨g, 0, none⟩ ∧ P g ∧ w.heap[g]? = some (.cells cs 37 (0, 0)) ∧ (∀ k b, k < l.length → Q k b → P b ∧ b ≠ g ∧ ∀ j, j < l.length → j ≠ k → ¬ Q j b) ∧ ∀ k (h : k < l.length), ∃ A' cap, cs[k * 6]? = some (.int .i64 l[k].op) ∧ cs[k * 6 + 1]? = some (.int .i64 l[k].ctor) ∧ cs[k * 6 + 2]? = some (.int .i64 l[k].n) ∧ cs[k * 6 + 3]? = some (.int .i64 l[k].m) ∧ cs[k * 6 + 4]? = some (.int .i64 l[k].var) ∧ cs[k * 6 + 5]? = some (.slice A' l[k].kids.length cap) ∧ OPs d w (Q k) A' l[k].kids)
def OPp (d : Nat) (w : World) (P : Nat → Prop) (g : Nat) (cs : Array Value) (Q : Nat → Nat → Prop) (l : List Pt) : Prop := P g ∧ w.heap[g]? = some (.cells cs 37 (0, 0)) ∧ (∀ k b, k < l.length → Q k b → P b ∧ b ≠ g ∧ ∀ j, j < l.length → j ≠ k → ¬ Q j b) ∧ ∀ k (h : k < l.length), ∃ A' cap, cs[k * 6]? = some (.int .i64 l[k].op) ∧ cs[k * 6 + 1]? = some (.int .i64 l[k].ctor) ∧ cs[k * 6 + 2]? = some (.int .i64 l[k].n) ∧ cs[k * 6 + 3]? = some (.int .i64 l[k].m) ∧ cs[k * 6 + 4]? = some (.int .i64 l[k].var) ∧ cs[k * 6 + 5]? = some (.slice A' l[k].kids.length cap) ∧ OPs d w (Q k) A' l[k].kids
theorem OPs.parts {d : Nat} {w : World} {P : Nat → Prop} {A : Option Addr} {l : List Pt} (h : OPs d w P A l) : ∃ d', d = d' + 1 ∧ l.length ≤ maxLen ∧ (0 < l.length → ∃ g cs Q, A = some ⟨g, 0, none⟩ ∧ OPp d' w P g cs Q l) := by
  cases d with
  | zero => exact h.elim
  | succ d => exact ⟨d, rfl, h⟩
theorem OPs.mk {d : Nat} {w : World} {P : Nat → Prop} {A : Option Addr} {l : List Pt} (hl : l.length ≤ maxLen) (h : 0 < l.length → ∃ g cs Q, A = some ⟨g, 0, none⟩ ∧ OPp d w P g cs Q l) : OPs (d + 1) w P A l := ⟨hl, h⟩
theorem OPs.nil (d : Nat) (w : World) (P : Nat → Prop) (A : Option Addr) : OPs (d + 1) w P A [] := ⟨Nat.zero_le _, fun h => absurd h (Nat.not_lt_zero _)⟩
theorem OPs.wide : ∀ (d : Nat) {w : World} {P P' : Nat → Prop} {A : Option Addr} {l : List Pt}, OPs d w P A l → (∀ b, P b → P' b) → OPs d w P' A l
  | 0, _, _, _, _, _, h, _ => h.elim
  | d + 1, _, _, _, _, _, ⟨h1, h2⟩, hp => ⟨h1, fun hl => by
    obtain ⟨g, cs, Q, e, hg, hh, hq, hc⟩ := h2 hl
    exact ⟨g, cs, Q, e, hp g hg, hh, fun k b hk hb => ⟨hp b (hq k b hk hb).1, (hq k b hk hb).2⟩, hc⟩⟩
theorem OPs.fr : ∀ (d : Nat) {w w' : World} {P P' : Nat → Prop} {A : Option Addr} {l : List Pt}, OPs d w P A l → Fr P' w w' → (∀ b, P b → ¬ P' b) → OPs d w' P A l
  | 0, _, _, _, _, _, _, h, _, _ => h.elim
  | d + 1, _, _, _, _, _, _, ⟨h1, h2⟩, hf, hp => ⟨h1, fun hl => by
    obtain ⟨g, cs, Q, e, hg, hh, hq, hc⟩ := h2 hl
    refine ⟨g, cs, Q, e, hg, hf.block hh (hp g hg), hq, fun k hk => ?_⟩
    obtain ⟨A', cap, e0, e1, e2, e3, e4, e8, e9⟩ := hc k hk
    exact ⟨A', cap, e0, e1, e2, e3, e4, e8, OPs.fr d e9 hf (fun b hb => hp b (hq k b hk hb).1)⟩⟩
theorem OPs.up : ∀ (d : Nat) {w : World} {P : Nat → Prop} {A : Option Addr} {l : List Pt}, OPs d w P A l → OPs (d + 1) w P A l
  | 0, _, _, _, _, h => h.elim
  | d + 1, _, _, _, _, ⟨h1, h2⟩ => ⟨h1, fun hl => by
    obtain ⟨g, cs, Q, e, hg, hh, hq, hc⟩ := h2 hl
    refine ⟨g, cs, Q, e, hg, hh, hq, fun k hk => ?_⟩
    obtain ⟨A', cap, e0, e1, e2, e3, e4, e8, e9⟩ := hc k hk
    exact ⟨A', cap, e0, e1, e2, e3, e4, e8, OPs.up d e9⟩⟩
theorem OPs.more {d d' : Nat} {w : World} {P : Nat → Prop} {A : Option Addr} {l : List Pt} (h : OPs d w P A l) (hd : d ≤ d') : OPs d' w P A l := by
  obtain ⟨e, rfl⟩ := Nat.exists_eq_add_of_le hd
  clear hd
  induction e with
  | zero => exact h
  | succ e ih => exact OPs.up _ ih
theorem OPs.reads : ∀ (d : Nat) {w : World} {P : Nat → Prop} {A : Option Addr} {l : List Pt}, OPs (d + 1) w P A l → RPs d w w.heap.size A l
  | d, w, P, A, l, ⟨h1, h2⟩ => ⟨h1, fun k hk => by
    obtain ⟨g, cs, Q, e, hg, hh, hq, hc⟩ := h2 (by omega)
    obtain ⟨A', cap, e0, e1, e2, e3, e4, e8, e9⟩ := hc k hk
    refine ⟨g, 0, e, heap_lt hh, ?_⟩
    cases d with
    | zero => exact e9.elim
    | succ d =>
      obtain ⟨q1, q2⟩ := OPs.reads d e9
      exact ⟨A', cap, by rw [cell_of_blk hh, Nat.zero_add]; exact e0, by rw [cell_of_blk hh, Nat.zero_add]; exact e1, by rw [cell_of_blk hh, Nat.zero_add]; exact e2, by rw [cell_of_blk hh, Nat.zero_add]; exact e3, by rw [cell_of_blk hh, Nat.zero_add]; exact e4, by rw [cell_of_blk hh, Nat.zero_add]; exact e8, q1, q2⟩⟩

/-- The row of a list while it is made: k parts are there, each with blocks of its own, from lo on. -/
def RowP (d : Nat) (w : World) (lo : Nat) (og : Option Nat) (Q : Nat → Nat → Prop) (l : List Pt) (xs : List Value) (k : Nat) : Prop := ∀ j (h : j < l.length), j < k → (∀ b, Q j b → lo ≤ b ∧ b < w.heap.size ∧ some b ≠ og ∧ ∀ i, i < k → i ≠ j → ¬ Q i b) ∧ ∃ A' cap, xs[j * 6]? = some (.int .i64 l[j].op) ∧ xs[j * 6 + 1]? = some (.int .i64 l[j].ctor) ∧ xs[j * 6 + 2]? = some (.int .i64 l[j].n) ∧ xs[j * 6 + 3]? = some (.int .i64 l[j].m) ∧ xs[j * 6 + 4]? = some (.int .i64 l[j].var) ∧ xs[j * 6 + 5]? = some (.slice A' l[j].kids.length cap) ∧ OPs d w (Q j) A' l[j].kids
theorem RowP.zero (d : Nat) (w : World) (lo : Nat) (og : Option Nat) (Q : Nat → Nat → Prop) (l : List Pt) (xs : List Value) : RowP d w lo og Q l xs 0 := fun j _ h => absurd h (by omega)
theorem RowP.fr {d : Nat} {w w' : World} {lo : Nat} {og : Option Nat} {Q : Nat → Nat → Prop} {l : List Pt} {xs : List Value} {k : Nat} {P' : Nat → Prop} (h : RowP d w lo og Q l xs k) (hf : Fr P' w w') (hp : ∀ b, lo ≤ b → some b ≠ og → b < w.heap.size → ¬ P' b) : RowP d w' lo og Q l xs k := fun j hj hjk => by
  obtain ⟨h1, A', cap, e0, e1, e2, e3, e4, e8, e9⟩ := h j hj hjk
  refine ⟨fun b hb => ?_, A', cap, e0, e1, e2, e3, e4, e8, e9.fr d hf (fun b hb => ?_)⟩
  · obtain ⟨a1, a2, a3, a4⟩ := h1 b hb
    exact ⟨a1, Nat.lt_of_lt_of_le a2 hf.size, a3, a4⟩
  · obtain ⟨a1, a2, a3, a4⟩ := h1 b hb
    exact hp b a1 a3 a2
theorem RowP.og {d : Nat} {w : World} {lo : Nat} {og og' : Option Nat} {Q : Nat → Nat → Prop} {l : List Pt} {xs : List Value} {k : Nat} (h : RowP d w lo og Q l xs k) (hp : ∀ b, lo ≤ b → some b ≠ og → b < w.heap.size → some b ≠ og') : RowP d w lo og' Q l xs k := fun j hj hjk => by
  obtain ⟨h1, h2⟩ := h j hj hjk
  exact ⟨fun b hb => by obtain ⟨a1, a2, a3, a4⟩ := h1 b hb; exact ⟨a1, a2, hp b a1 a3 a2, a4⟩, h2⟩
/-- One part more: its blocks are new. -/
theorem RowP.more {d : Nat} {w w' : World} {lo : Nat} {og : Option Nat} {Q : Nat → Nat → Prop} {l : List Pt} {xs xs' : List Value} {k cap : Nat} {A' : Option Addr} (h : RowP d w lo og Q l xs k) (hb : Below w.heap.size w w') (hk : k < l.length) (hlo : lo ≤ w.heap.size) (hog : ∀ g, og = some g → g < w.heap.size)
    (ho : OPs d w' (Nw w w') A' l[k].kids) (hx : ∀ j c, j < k → c < 6 → xs'[j * 6 + c]? = xs[j * 6 + c]?) (e0 : xs'[k * 6]? = some (.int .i64 l[k].op)) (e1 : xs'[k * 6 + 1]? = some (.int .i64 l[k].ctor)) (e2 : xs'[k * 6 + 2]? = some (.int .i64 l[k].n)) (e3 : xs'[k * 6 + 3]? = some (.int .i64 l[k].m)) (e4 : xs'[k * 6 + 4]? = some (.int .i64 l[k].var)) (e8 : xs'[k * 6 + 5]? = some (.slice A' l[k].kids.length cap)) :
    RowP d w' lo og (fun i => if i = k then Nw w w' else Q i) l xs' (k + 1) := by
  have h' := h.fr (P' := fun _ => False) (Fr.below hb) (fun _ _ _ _ h => h)
  intro j hj hjk
  by_cases e : j = k
  · subst e
    refine ⟨fun b hq => ?_, A', cap, e0, e1, e2, e3, e4, e8, ?_⟩
    · replace hq : (if j = j then Nw w w' else Q j) b := hq
      rw [if_pos rfl] at hq
      refine ⟨Nat.le_trans hlo hq.1, hq.2, fun e => ?_, fun i hi hij hqi => ?_⟩
      · have := hog b e.symm; have := hq.1; omega
      · replace hqi : (if i = j then Nw w w' else Q i) b := hqi
        rw [if_neg hij] at hqi
        have := ((h i (by omega) (by omega)).1 b hqi).2.1
        have := hq.1
        omega
    · show OPs d w' (if j = j then Nw w w' else Q j) A' l[j].kids
      rw [if_pos rfl]; exact ho
  · obtain ⟨h1, A2, c2, f0, f1, f2, f3, f4, f8, f9⟩ := h' j hj (by omega)
    refine ⟨fun b hq => ?_, A2, c2, (hx j 0 (by omega) (by omega)).trans f0, (hx j 1 (by omega) (by omega)).trans f1, (hx j 2 (by omega) (by omega)).trans f2, (hx j 3 (by omega) (by omega)).trans f3, (hx j 4 (by omega) (by omega)).trans f4, (hx j 5 (by omega) (by omega)).trans f8, ?_⟩
    · replace hq : (if j = k then Nw w w' else Q j) b := hq
      rw [if_neg e] at hq
      obtain ⟨a1, a2, a3, a4⟩ := h1 b hq
      refine ⟨a1, a2, a3, fun i hi hij hqi => ?_⟩
      replace hqi : (if i = k then Nw w w' else Q i) b := hqi
      by_cases e2 : i = k
      · rw [if_pos e2] at hqi
        have := ((h j hj (by omega)).1 b hq).2.1
        have := hqi.1
        omega
      · rw [if_neg e2] at hqi
        exact a4 i (by omega) hij hqi
    · show OPs d w' (if j = k then Nw w w' else Q j) A2 l[j].kids
      rw [if_neg e]; exact f9
theorem OPs.of_row {d : Nat} {w : World} {lo : Nat} {v : Value} {l : List Pt} {xs : List Value} {Q : Nat → Nat → Prop} (h : w.ownsRow lo 37 6 v l.length xs) (hx : RowP d w lo v.ownBlock Q l xs l.length) (hn : l.length ≤ 1048576) : ∃ A cap, v = .slice A l.length cap ∧ OPs (d + 1) w (fun b => lo ≤ b ∧ b < w.heap.size) A l := by
  rcases h.2 with ⟨h', h0⟩ | ⟨g, cap, cur, h', hb, hg, hnc, hcm, hcs, htake⟩
  · refine ⟨none, 0, by rw [h0]; exact h', by unfold maxLen; omega, fun hl => absurd hl (by omega)⟩
  · subst h'
    refine ⟨_, cap, rfl, by unfold maxLen; omega, fun _ => ⟨g, cur, Q, rfl, ⟨hb, heap_lt hg⟩, hg, fun k b hk hq => ?_, fun k hk => ?_⟩⟩
    · obtain ⟨a1, a2, a3, a4⟩ := (hx k hk hk).1 b hq
      exact ⟨⟨a1, a2⟩, fun e => a3 (by rw [e]; rfl), a4⟩
    · obtain ⟨_, A', c', e0, e1, e2, e3, e4, e8, e9⟩ := hx k hk hk
      have hat : ∀ i, i < l.length * 6 → cur[i]? = xs[i]? := fun i hi => by
        rw [← htake, List.getElem?_take_of_lt hi, Array.getElem?_toList]
      exact ⟨A', c', (hat _ (by omega)).trans e0, (hat _ (by omega)).trans e1, (hat _ (by omega)).trans e2, (hat _ (by omega)).trans e3, (hat _ (by omega)).trans e4, (hat _ (by omega)).trans e8, e9⟩
end Go.Proofs.Ytholdmdkhbhokaa
/-
  Pt trees that are marked where they lie, and looked at again. No statement is proved here.
-/
namespace Go.Proofs.Ytholdmdkhbhokaa
open Go.RowKit
set_option maxRecDepth 100000
set_option linter.unusedVariables false

mutual
/-- The tree that marking leaves. -/
def numP : Int → Pt → Pt | k, .mk _ _ _ _ _ ks => .mk k (k + 1) (k + 2) (k + 3) (k + 4) (numPs (k + 5) ks)
def numPs : Int → List Pt → List Pt | _, [] => [] | k, v :: vs => numP k v :: numPs (k + 5 * ((1 + wP v : Nat) : Int)) vs
end
theorem numP_kids (k : Int) (v : Pt) : (numP k v).kids = numPs (k + 5) v.kids := by cases v; rw [numP]; rfl
theorem numP_op (k : Int) (v : Pt) : (numP k v).op = k := by cases v; rw [numP]; rfl
theorem numP_ctor (k : Int) (v : Pt) : (numP k v).ctor = k + 1 := by cases v; rw [numP]; rfl
theorem numP_n (k : Int) (v : Pt) : (numP k v).n = k + 2 := by cases v; rw [numP]; rfl
theorem numP_m (k : Int) (v : Pt) : (numP k v).m = k + 3 := by cases v; rw [numP]; rfl
theorem numP_var (k : Int) (v : Pt) : (numP k v).var = k + 4 := by cases v; rw [numP]; rfl
theorem numPs_len : ∀ (k : Int) (l : List Pt), (numPs k l).length = l.length
  | _, [] => by rw [numPs]
  | k, v :: vs => by rw [numPs, List.length_cons, numPs_len, List.length_cons]
theorem numPs_at : ∀ (k : Int) (l : List Pt) (j : Nat) (h : j < (numPs k l).length) (h' : j < l.length), (numPs k l)[j] = numP (k + 5 * ((j + ((l.take j).map wP).sum : Nat) : Int)) l[j]
  | _, [], j, _, h' => absurd h' (Nat.not_lt_zero _)
  | k, v :: vs, 0, h, h' => by
    simp only [numPs, List.getElem_cons_zero, List.take_zero, List.map_nil, List.sum_nil]
    congr 1
    omega
  | k, v :: vs, j + 1, h, h' => by
    have h2 : j < (numPs (k + 5 * ((1 + wP v : Nat) : Int)) vs).length := by rw [numPs_len]; simpa using h'
    simp only [numPs, List.getElem_cons_succ]
    rw [numPs_at _ vs j h2 (by simpa using h')]
    congr 1
    simp only [List.take_succ_cons, List.map_cons, List.sum_cons]
    omega

/-- Marked up to the element j. -/
def HalfP (d : Nat) (P : Nat → Prop) (A : Option Addr) (l : List Pt) (k : Int) (j : Nat) (w wr : World) : Prop := Fr P w wr ∧ ∃ m : List Pt, m.length = l.length ∧ (∀ i (h : i < m.length) (h' : i < (numPs k l).length), i < j → m[i] = (numPs k l)[i]) ∧ (∀ i (h : i < m.length) (h' : i < l.length), j ≤ i → m[i] = l[i]) ∧ OPs (d + 1) wr P A m
theorem HalfP.zero {d : Nat} {P : Nat → Prop} {A : Option Addr} {l : List Pt} {k : Int} {w : World} (h : OPs (d + 1) w P A l) : HalfP d P A l k 0 w w := ⟨Fr.refl _ _, l, rfl, fun _ _ _ h => absurd h (Nat.not_lt_zero _), fun _ _ _ _ => rfl, h⟩
theorem HalfP.all {d : Nat} {P : Nat → Prop} {A : Option Addr} {l : List Pt} {k : Int} {j : Nat} {w wr : World} (h : HalfP d P A l k j w wr) (hj : l.length ≤ j) : OPs (d + 1) wr P A (numPs k l) := by
  obtain ⟨_, m, hm, h1, _, h3⟩ := h
  have e : m = numPs k l := List.ext_getElem (by rw [hm, numPs_len]) (fun i a b => h1 i a b (by omega))
  rw [← e]; exact h3
theorem HalfP.at_ {d : Nat} {P : Nat → Prop} {A : Option Addr} {l : List Pt} {k S : Int} {j : Nat} {w wr : World} (h : HalfP d P A l k j w wr) (hj : j < l.length) (hS : S = 5 * ((j + ((l.take j).map wP).sum : Nat) : Int)) :
    ∃ (g : Nat) (cs : Array Value) (Q : Nat → Prop) (A' : Option Addr) (cap : Nat), A = some ⟨g, 0, none⟩ ∧ wr.heap[g]? = some (.cells cs 37 (0, 0)) ∧ cs[j * 6]? = some (.int .i64 l[j].op) ∧ cs[j * 6 + 1]? = some (.int .i64 l[j].ctor) ∧ cs[j * 6 + 2]? = some (.int .i64 l[j].n) ∧ cs[j * 6 + 3]? = some (.int .i64 l[j].m) ∧ cs[j * 6 + 4]? = some (.int .i64 l[j].var) ∧ cs[j * 6 + 5]? = some (.slice A' l[j].kids.length cap) ∧ OPs d wr Q A' l[j].kids ∧ ¬ Q g ∧
      ∀ (w3 : World) (cs3 : Array Value), w3.heap[g]? = some (.cells cs3 37 (0, 0)) → (∀ i c, i ≠ j → c < 6 → cs3[i * 6 + c]? = cs[i * 6 + c]?) → cs3[j * 6]? = some (.int .i64 (k + S)) → cs3[j * 6 + 1]? = some (.int .i64 (k + S + 1)) → cs3[j * 6 + 2]? = some (.int .i64 (k + S + 2)) → cs3[j * 6 + 3]? = some (.int .i64 (k + S + 3)) → cs3[j * 6 + 4]? = some (.int .i64 (k + S + 4)) → cs3[j * 6 + 5]? = some (.slice A' l[j].kids.length cap) → OPs d w3 Q A' (numPs (k + S + 5) l[j].kids) → Fr (fun b => Q b ∨ b = g) wr w3 → HalfP d P A l k (j + 1) w w3 := by
  obtain ⟨hf, m, hm, h1, h2, h3⟩ := h
  obtain ⟨hl, hp⟩ := h3
  obtain ⟨g, cs, Q, rfl, hg, hh, hq, hc⟩ := hp (by omega)
  have hc' := hc
  obtain ⟨A', cap, e0, e1, e2, e3, e4, e8, e9⟩ := hc j (by omega)
  have hmj : m[j]'(by omega) = l[j] := h2 j (by omega) hj (Nat.le_refl _)
  simp only [hmj] at e0 e1 e2 e3 e4 e8 e9
  refine ⟨g, cs, Q j, A', cap, rfl, hh, e0, e1, e2, e3, e4, e8, e9, fun hqg => (hq j g (by omega) hqg).2.1 rfl, ?_⟩
  intro w3 cs3 hg3 hsame f0 f1 f2 f3 f4 f8 ho3 hf3
  have hnj : (numPs k l)[j]'(by rw [numPs_len]; exact hj) = numP (k + S) l[j] := by rw [numPs_at _ _ _ _ hj, hS]
  refine ⟨hf.trans (hf3.wide (fun b hb => ?_)), m.set j (numP (k + S) l[j]), by simp [hm], fun i h h' hij => ?_, fun i h h' hij => ?_, by simpa using hl, fun _ => ⟨g, cs3, Q, rfl, hg, hg3, fun i b hi hb => ?_, fun i hi => ?_⟩⟩
  · rcases hb with hb | hb
    · exact (hq j b (by omega) hb).1
    · rw [hb]; exact hg
  · by_cases e : i = j
    · subst e
      simp only [List.getElem_set_self]
      exact hnj.symm
    · rw [List.getElem_set_ne (by omega)]
      exact h1 i (by simpa using h) h' (by omega)
  · rw [List.getElem_set_ne (by omega)]
    exact h2 i (by simpa using h) h' (by omega)
  · simp only [List.length_set] at hi
    obtain ⟨a1, a2, a3⟩ := hq i b hi hb
    exact ⟨a1, a2, fun i' hi' => a3 i' (by simpa using hi')⟩
  · simp only [List.length_set] at hi
    by_cases e : i = j
    · subst e
      simp only [List.getElem_set_self, numP_op, numP_ctor, numP_n, numP_m, numP_var, numP_kids, numPs_len]
      exact ⟨A', cap, f0, f1, f2, f3, f4, f8, ho3⟩
    · rw [List.getElem_set_ne (by omega)]
      obtain ⟨A2, c2, q0, q1, q2, q3, q4, q8, q9⟩ := hc' i hi
      refine ⟨A2, c2, (hsame i 0 e (by omega)).trans q0, (hsame i 1 e (by omega)).trans q1, (hsame i 2 e (by omega)).trans q2, (hsame i 3 e (by omega)).trans q3, (hsame i 4 e (by omega)).trans q4, (hsame i 5 e (by omega)).trans q8, q9.fr d hf3 (fun b hb => ?_)⟩
      rintro (hb' | hb')
      · exact (hq i b hi hb).2.2 j (by omega) (by omega) hb'
      · exact (hq i b hi hb).2.1 hb'

def MkP (d : Nat) : Prop := ∀ (P : Nat → Prop) (A : Option Addr) (l : List Pt) (cap : Nat) (k : Int) (w : World), OPs d w P A l → wPs l ≤ 1048576 → 0 ≤ k → k + 5 * (wPs l : Int) ≤ 16777216 →
  Calls Try.prog 58 #[.slice A l.length cap, .int .i64 k] w fun e w' => e = .returned (.int .i64 (k + 5 * (wPs l : Nat))) ∧ OPs d w' P A (numPs k l) ∧ Fr P w w'

set_option maxHeartbeats 1600000 in
theorem mkP_of (d : Nat) (ih : ∀ d', d = d' + 1 → MkP d') : MkP d := by
  intro P A l cap k w hr hn h0 h1
  obtain ⟨d', hd, _⟩ := hr.parts
  have IH := Lib.hid (ih d' hd)
  subst hd
  have HSum := Lib.hid (wPs_sum l)
  have hlb : l.length ≤ 1048576 := by have := wPs_sum l; omega
  have HZ := Lib.hid (HalfP.zero (k := k) hr)
  clear hr ih
  go_enter Try.func58, Try.ntmps58
  go_wp2_with fail
  go_loopw [1, 5] (fun q i wr => ∃ j : Nat, j ≤ l.length ∧ i = .int .i64 j ∧ ∃ S : Nat, q = .int .i64 (k + S) ∧ Hid ((S : Int) = 5 * ((j + ((l.take j).map wP).sum : Nat) : Int)) ∧ Hid (HalfP d' P A l k j w wr)) (fun _ i _ => l.length - (intOf i).toNat)
  case atStart => exact ⟨0, by omega, rfl, 0, by simp, by unfold Hid; simp, HZ⟩
  case round =>
    obtain ⟨j, hj, rfl, S, rfl, HS, HH⟩ := hrel
    clear HZ
    by_cases hlt : j < l.length
    · have HT := Lib.hid (sum_take_succ wP l j hlt)
      have HL := Lib.hid (sum_take_le wP l (j + 1))
      have hwk : wP l[j] = wPs l[j].kids := wP_kids l[j]
      have hSb : k + (S : Int) + 5 * (1 + (wPs l[j].kids : Int)) ≤ 16777216 ∧ wPs l[j].kids ≤ 1048576 := by
        have a1 := HT.out; have a2 := HL.out; have a3 := HSum.out; have a4 := HS.out; omega
      have HWK := Lib.hid hwk
      obtain ⟨hSb, hwb⟩ := hSb
      clear hwk
      obtain ⟨g, cs, Q, A', cp, rfl, hg, e0, e1, e2, e3, e4, e8, ho, hQg, hnext⟩ := HH.out.at_ hlt HS.out
      have c0 := (cell_of_blk hg (j * 6)).trans e0
      have c1 := (cell_of_blk hg (j * 6 + 1)).trans e1
      have c2 := (cell_of_blk hg (j * 6 + 2)).trans e2
      have c3 := (cell_of_blk hg (j * 6 + 3)).trans e3
      have c4 := (cell_of_blk hg (j * 6 + 4)).trans e4
      have c8 := (cell_of_blk hg (j * 6 + 5)).trans e8
      have z0 := frozen_of_row wr g (j * 6) cs 37 hg
      have z1 := frozen_of_row wr g (j * 6 + 1) cs 37 hg
      have z2 := frozen_of_row wr g (j * 6 + 2) cs 37 hg
      have z3 := frozen_of_row wr g (j * 6 + 3) cs 37 hg
      have z4 := frozen_of_row wr g (j * 6 + 4) cs 37 hg
      obtain ⟨w2, hw2⟩ : ∃ w2, w2 = (((((wr.setCell ⟨g, j * 6, none⟩ (.int .i64 (k + S))).setCell ⟨g, j * 6 + 1, none⟩ (.int .i64 (k + S + 1))).setCell ⟨g, j * 6 + 2, none⟩ (.int .i64 (k + S + 1 + 1))).setCell ⟨g, j * 6 + 3, none⟩ (.int .i64 (k + S + 1 + 1 + 1))).setCell ⟨g, j * 6 + 4, none⟩ (.int .i64 (k + S + 1 + 1 + 1 + 1))) := ⟨_, rfl⟩
      have F2 : Fr (fun b => b = g) wr w2 := by rw [hw2]; exact (((((Fr.set (P := fun b => b = g) _ _ _ _ rfl).trans (Fr.set _ _ _ _ rfl)).trans (Fr.set _ _ _ _ rfl)).trans (Fr.set _ _ _ _ rfl)).trans (Fr.set _ _ _ _ rfl))
      have G2 : Hid (w2.heap[g]? = some (.cells (((((cs.setIfInBounds (j * 6) (.int .i64 (k + S))).setIfInBounds (j * 6 + 1) (.int .i64 (k + S + 1))).setIfInBounds (j * 6 + 2) (.int .i64 (k + S + 1 + 1))).setIfInBounds (j * 6 + 3) (.int .i64 (k + S + 1 + 1 + 1))).setIfInBounds (j * 6 + 4) (.int .i64 (k + S + 1 + 1 + 1 + 1))) 37 (0, 0))) := by
        rw [hw2]
        unfold Hid
        refine heap_setCell_same _ g _ _ _ _ ?_
        refine heap_setCell_same _ g _ _ _ _ ?_
        refine heap_setCell_same _ g _ _ _ _ ?_
        refine heap_setCell_same _ g _ _ _ _ ?_
        refine heap_setCell_same _ g _ _ _ _ ?_
        exact hg
      have O2 := Lib.hid (ho.fr _ F2 (fun b hb e => hQg (e ▸ hb)))
      have HF2 := Lib.hid F2
      have HQg := Lib.hid hQg
      have HN := Lib.hid hnext
      have HW2 := Lib.hid hw2
      clear hw2 F2 hQg hnext ho
      go_wp2_with fail
      rw [← HW2.out]
      refine (IH.out Q A' l[j].kids cp _ w2 O2.out hwb (by omega) (by omega)).mono ?_
      rintro e w3 ⟨rfl, ho3, hf3⟩
      have hk2 : k + S + 1 + 1 + 1 + 1 + 1 = k + S + 5 := by omega
      have ho3' : OPs d' w3 Q A' (numPs (k + S + 5) l[j].kids) := by rw [← hk2]; exact ho3
      have HH3 : Hid (HalfP d' P (some ⟨g, 0, none⟩) l k (j + 1) w w3) := by
        refine HN.out w3 _ (hf3.block G2.out HQg.out) (fun i c hi hc => ?_) ?_ ?_ ?_ ?_ ?_ ?_ ho3' ((HF2.out.wide (fun b hb => .inr hb)).trans (hf3.wide (fun b hb => .inl hb)))
        · have h1 : i * 6 + c ≠ j * 6 ∧ i * 6 + c ≠ j * 6 + 1 ∧ i * 6 + c ≠ j * 6 + 2 ∧ i * 6 + c ≠ j * 6 + 3 ∧ i * 6 + c ≠ j * 6 + 4 := by omega
          simp only [Array.getElem?_setIfInBounds_ne (Ne.symm h1.1), Array.getElem?_setIfInBounds_ne (Ne.symm h1.2.1), Array.getElem?_setIfInBounds_ne (Ne.symm h1.2.2.1), Array.getElem?_setIfInBounds_ne (Ne.symm h1.2.2.2.1), Array.getElem?_setIfInBounds_ne (Ne.symm h1.2.2.2.2)]
        · have hz : j * 6 + 5 < cs.size := (Array.getElem?_eq_some_iff.1 e8).1
          simp [show j * 6 < cs.size by omega]
        · have hz : j * 6 + 5 < cs.size := (Array.getElem?_eq_some_iff.1 e8).1
          simp [show j * 6 + 1 < cs.size by omega]
        · have hz : j * 6 + 5 < cs.size := (Array.getElem?_eq_some_iff.1 e8).1
          simp [show j * 6 + 2 < cs.size by omega] <;> omega
        · have hz : j * 6 + 5 < cs.size := (Array.getElem?_eq_some_iff.1 e8).1
          simp [show j * 6 + 3 < cs.size by omega] <;> omega
        · have hz : j * 6 + 5 < cs.size := (Array.getElem?_eq_some_iff.1 e8).1
          simp [show j * 6 + 4 < cs.size by omega] <;> omega
        · simpa using e8
      clear c0 c1 c2 c3 c4 c8 z0 z1 z2 z3 z4
      go_wp2_with fail
      go_roundw
      case rel => exact ⟨j + 1, by omega, by go_num, S + 5 * (1 + wPs l[j].kids), by congr 1; push_cast; omega, by unfold Hid; have a1 := HT.out; have a2 := HS.out; have a3 := HWK.out; omega, HH3⟩
      case measure => simp [intOf]; omega
    · have HE : Hid ((S : Int) = 5 * (wPs l : Int)) := by unfold Hid; rw [HS.out, HSum.out, List.take_of_length_le (by omega), show j = l.length by omega]
      have HA := Lib.hid (HH.out.all (by omega))
      go_wp2_with fail
      go_ret
      exact ⟨ret_i64 (by rw [HE.out]), HA.out, HH.out.1⟩
theorem mkP_any : ∀ d, MkP d
  | 0 => mkP_of 0 (fun _ h => by omega)
  | d + 1 => mkP_of (d + 1) (fun d' h => (Nat.succ.inj h) ▸ mkP_any d)
theorem markP_any (d : Nat) (P : Nat → Prop) (A : Option Addr) (l : List Pt) (cap : Nat) (x0 x1 x2 x3 x4 k : Int) (w : World) (hr : OPs d w P A l) (hP : ∀ b, P b → b < w.heap.size) (hn : wPs l ≤ 1048576) (h0 : 0 ≤ k) (h1 : k + 5 * (wPs l : Int) ≤ 16777216) :
    Calls Try.prog 23 #[.agg #[.int .i64 x0, .int .i64 x1, .int .i64 x2, .int .i64 x3, .int .i64 x4, .slice A l.length cap], .int .i64 k] w fun e w' => e = .returned (.int .i64 (k + 5 * (wPs l : Nat))) ∧ OPs d w' P A (numPs k l) ∧ Fr P w w' := by
  have Hr := Lib.hid (hr.fr _ (Fr.below (P := fun _ => False) ((Below.refl _ w).alloc (Nat.le_refl _) (.cells #[.int .i64 x0, .int .i64 x1, .int .i64 x2, .int .i64 x3, .int .i64 x4, .slice A l.length cap] 37))) (fun _ _ h => h))
  clear hr
  go_enter Try.func23, Try.ntmps23
  go_wp2_with (go_at_call 58; refine (mkP_any _ P _ _ _ _ _ Hr.out hn h0 h1).mono ?_; rintro e w1 ⟨rfl, ho, hf⟩)
  go_ret
  exact ⟨rfl, ho, (Fr.below ((Below.refl _ _).alloc (Nat.le_refl _) _)).trans hf⟩
end Go.Proofs.Ytholdmdkhbhokaa
/-
  Pt trees that are looked at behind the marking. No statement is proved here.
-/
namespace Go.Proofs.Ytholdmdkhbhokaa
open Go.RowKit
set_option maxRecDepth 100000
set_option linter.unusedVariables false

def HdP (d : Nat) : Prop := ∀ (A : Option Addr) (l : List Pt) (cap : Nat) (k : Int) (w : World), RPs d w w.heap.size A (numPs k l) → wPs l ≤ 1048576 → 0 ≤ k → k + 5 * (wPs l : Int) ≤ 16777216 →
  Calls Try.prog 65 #[.slice A l.length cap, .int .i64 k] w fun e w' => e = .returned (.int .i64 (k + 5 * (wPs l : Nat))) ∧ w = w'

set_option maxHeartbeats 1600000 in
theorem hdP_of (d : Nat) (ih : ∀ d', d = d' + 1 → HdP d') : HdP d := by
  intro A l cap k w hr hn h0 h1
  have IH := Lib.hid ih
  have HSum := Lib.hid (wPs_sum l)
  have hlb : l.length ≤ 1048576 := by have := wPs_sum l; omega
  have Hr := Lib.hid hr
  clear hr ih
  go_enter Try.func65, Try.ntmps65
  go_wp2_with fail
  go_loopw [1, 5] (fun q i wr => ∃ j : Nat, j ≤ l.length ∧ i = .int .i64 j ∧ ∃ S : Nat, q = .int .i64 (k + S) ∧ Hid ((S : Int) = 5 * ((j + ((l.take j).map wP).sum : Nat) : Int)) ∧ w = wr) (fun _ i _ => l.length - (intOf i).toNat)
  case atStart => exact ⟨0, by omega, rfl, 0, by simp, by unfold Hid; simp, rfl⟩
  case round =>
    obtain ⟨j, hj, rfl, S, rfl, HS, rfl⟩ := hrel
    by_cases hlt : j < l.length
    · have HT := Lib.hid (sum_take_succ wP l j hlt)
      have HL := Lib.hid (sum_take_le wP l (j + 1))
      have hwk : wP l[j] = wPs l[j].kids := wP_kids l[j]
      have hSb : k + (S : Int) + 5 * (1 + (wPs l[j].kids : Int)) ≤ 16777216 ∧ wPs l[j].kids ≤ 1048576 := by
        have a1 := HT.out; have a2 := HL.out; have a3 := HSum.out; have a4 := HS.out; omega
      have HWK := Lib.hid hwk
      obtain ⟨hSb, hwb⟩ := hSb
      clear hwk
      obtain ⟨b, off, rfl, hbB, hv⟩ := Hr.out.2 j (by rw [numPs_len]; exact hlt)
      rw [numPs_at _ _ _ _ hlt, ← HS.out] at hv
      obtain ⟨d', hd, A', cp, c0, c1, c2, c3, c4, c8, hm⟩ := hv.parts
      rw [numP_kids, numPs_len] at c8
      rw [numP_kids] at hm
      simp only [numP_op, numP_ctor, numP_n, numP_m, numP_var] at c0 c1 c2 c3 c4
      have Hm : Hid (RPs d' w w.heap.size A' (numPs (k + (S : Int) + 1 + 1 + 1 + 1 + 1) l[j].kids)) := by unfold Hid; rw [show k + (S : Int) + 1 + 1 + 1 + 1 + 1 = k + (S : Int) + 5 by omega]; exact hm
      have IHd := Lib.hid (IH.out d' hd)
      clear hm hv hd
      go_wp2_with (go_at_call 65; refine (IHd.out A' l[j].kids cp (k + (S : Int) + 1 + 1 + 1 + 1 + 1) _ Hm.out hwb (by omega) (by omega)).mono ?_; rintro e w3 ⟨rfl, rfl⟩)
      go_roundw
      case rel => exact ⟨j + 1, by omega, by go_num, S + 5 * (1 + wPs l[j].kids), by congr 1; push_cast; omega, by unfold Hid; have a1 := HT.out; have a2 := HS.out; have a3 := HWK.out; omega, by first | rfl | trivial⟩
      case measure => simp [intOf]; omega
    · have HE : Hid ((S : Int) = 5 * (wPs l : Int)) := by unfold Hid; rw [HS.out, HSum.out, List.take_of_length_le (by omega), show j = l.length by omega]
      go_wp2_with fail
      go_ret
      exact ⟨ret_i64 (by rw [HE.out]), rfl⟩
theorem hdP_any : ∀ d, HdP d
  | 0 => hdP_of 0 (fun _ h => by omega)
  | d + 1 => hdP_of (d + 1) (fun d' h => (Nat.succ.inj h) ▸ hdP_any d)
theorem heldP_any (d : Nat) (A : Option Addr) (l : List Pt) (cap : Nat) (x0 x1 x2 x3 x4 k : Int) (w : World) (hr : RPs d w w.heap.size A (numPs k l)) (hn : wPs l ≤ 1048576) (h0 : 0 ≤ k) (h1 : k + 5 * (wPs l : Int) ≤ 16777216) :
    Calls Try.prog 32 #[.agg #[.int .i64 x0, .int .i64 x1, .int .i64 x2, .int .i64 x3, .int .i64 x4, .slice A l.length cap], .int .i64 k] w fun e w' => e = .returned (.int .i64 (k + 5 * (wPs l : Nat))) ∧ Below w.heap.size w w' := by
  have Hr := Lib.hid (hr.at_ ((Below.refl _ w).alloc (Nat.le_refl _) (.cells #[.int .i64 x0, .int .i64 x1, .int .i64 x2, .int .i64 x3, .int .i64 x4, .slice A l.length cap] 37)))
  clear hr
  go_enter Try.func32, Try.ntmps32
  go_wp2_with (go_at_call 65; refine (hdP_any _ _ _ _ _ _ Hr.out hn h0 h1).mono ?_; rintro e w1 ⟨rfl, rfl⟩)
  go_ret
  exact ⟨rfl, (Below.refl _ _).alloc (Nat.le_refl _) _⟩
end Go.Proofs.Ytholdmdkhbhokaa
/-
  The functions that compare Pt trees, where both sides read as the same. No statement is proved here.
-/
namespace Go.Proofs.Ytholdmdkhbhokaa
open Go.RowKit Go.Sort
set_option maxRecDepth 100000
set_option linter.unusedVariables false

def EqP (d : Nat) : Prop := ∀ (A A' : Option Addr) (l : List Pt) (cap cap' : Nat) (w : World), RPs d w w.heap.size A l → RPs d w w.heap.size A' l →
  Calls Try.prog 53 #[.slice A l.length cap, .slice A' l.length cap'] w fun e w' => e = .returned (.bool true) ∧ Below w.heap.size w w'

theorem eqP_of {d : Nat} (ih : EqP d) (A A' : Option Addr) (l : List Pt) (cap cap' : Nat) (x0 x1 x2 x3 x4 : Int) (w : World) (hr : RPs d w w.heap.size A l) (hr' : RPs d w w.heap.size A' l) :
    Calls Try.prog 18 #[.agg #[.int .i64 x0, .int .i64 x1, .int .i64 x2, .int .i64 x3, .int .i64 x4, .slice A l.length cap], .agg #[.int .i64 x0, .int .i64 x1, .int .i64 x2, .int .i64 x3, .int .i64 x4, .slice A' l.length cap']] w fun e w' => e = .returned (.bool true) ∧ Below w.heap.size w w' := by
  have Hr := Lib.hid hr
  have Hr' := Lib.hid hr'
  have IH := Lib.hid ih
  clear hr hr' ih
  go_enter Try.func18, Try.ntmps18
  go_wp2_with (go_at_call 53; refine (IH.out _ _ _ _ _ _ (by exact Hr.out.keep (keep_two _ _) (by simp; omega)) (by exact Hr'.out.keep (keep_two _ _) (by simp; omega))).mono ?_; rintro e w1 ⟨rfl, hb⟩; obtain ⟨hc, hfz⟩ := bcell hb)
  go_ret
  exact ⟨rfl, below_two hb⟩

set_option maxHeartbeats 1600000 in
theorem eqPs_of (d : Nat) (ih : ∀ d', d = d' + 1 → EqP d') : EqP d := by
  intro A A' l cap cap' w hr hr'
  have hn := hr.1
  unfold maxLen at hn
  have Hr := Lib.hid hr
  have Hr' := Lib.hid hr'
  have IH := Lib.hid ih
  clear hr hr' ih
  go_enter Try.func53, Try.ntmps53
  go_wp2_with fail
  go_loopw [5] (fun i wr => ∃ k : Nat, k ≤ l.length ∧ i = .int .i64 k ∧ Below w.heap.size w wr) (fun i _ => l.length - (intOf i).toNat)
  case atStart => exact ⟨0, by omega, rfl, Below.refl _ _⟩
  case round =>
    obtain ⟨k, hk, rfl, hb⟩ := hrel
    by_cases hlt : k < l.length
    · obtain ⟨b, off, rfl, hbB, hv⟩ := (Hr.out.below hb (Nat.le_refl _)).2 k hlt
      obtain ⟨d', hd, B1, cp, c0, c1, c2, c3, c4, c5, hm⟩ := hv.parts
      obtain ⟨b', off', rfl, hbB', hv'⟩ := (Hr'.out.below hb (Nat.le_refl _)).2 k hlt
      obtain ⟨d'', hd', B2, cp', c0', c1', c2', c3', c4', c5', hm'⟩ := hv'.parts
      obtain rfl : d'' = d' := by omega
      have d0 := cell_regrown c0
      have d1 := cell_regrown c1
      have d2 := cell_regrown c2
      have d3 := cell_regrown c3
      have d4 := cell_regrown c4
      have d5 := cell_regrown c5
      have d0' := cell_regrown c0'
      have d1' := cell_regrown c1'
      have d2' := cell_regrown c2'
      have d3' := cell_regrown c3'
      have d4' := cell_regrown c4'
      have d5' := cell_regrown c5'
      have Hm := Lib.hid hm
      have Hm' := Lib.hid hm'
      have IHd := Lib.hid (IH.out d'' hd)
      clear c0 c1 c2 c3 c4 c5 c0' c1' c2' c3' c4' c5' hm hm' hv hv' hd hd'
      have hi : (k : Int) < (l.length : Int) := by omega
      go_wp2_with fail
      refine wp_region_quiet_below (by kernel_rfl) (by kernel_rfl) ?_
      repeat (quiet_step (exact Calls.regrown_of (eqP_of IHd.out _ _ _ _ _ _ _ _ _ _ _ (Hm.out.keep (fun p hp => (below_regrown wr _ _).cell (Nat.lt_of_lt_of_le hp hb.size)) (Nat.le_trans hb.size (below_regrown wr _ _).size)) (Hm'.out.keep (fun p hp => (below_regrown wr _ _).cell (Nat.lt_of_lt_of_le hp hb.size)) (Nat.le_trans hb.size (below_regrown wr _ _).size)))))
      refine wpQuiet_nil ?_
      intro _ hw'
      obtain ⟨⟨dq, osq⟩, hw''⟩ := hw'
      subst hw''
      have hb2 := hb.trans ((below_regrown wr dq osq).mono hb.size)
      clear d0 d1 d2 d3 d4 d5 d0' d1' d2' d3' d4' d5'
      go_wp2_with fail
      go_roundw
      case rel => exact ⟨k + 1, by omega, by go_num, hb2⟩
      case measure => simp [intOf]; omega
    · go_wp2_with fail
      go_ret
      exact ⟨rfl, hb⟩
theorem eqPs_any : ∀ d, EqP d
  | 0 => eqPs_of 0 (fun _ h => by omega)
  | d + 1 => eqPs_of (d + 1) (fun d' h => (Nat.succ.inj h) ▸ eqPs_any d)
theorem eqP_same (d : Nat) (A A' : Option Addr) (l : List Pt) (cap cap' : Nat) (x0 x1 x2 x3 x4 : Int) (w : World) (hr : RPs d w w.heap.size A l) (hr' : RPs d w w.heap.size A' l) :
    Calls Try.prog 18 #[.agg #[.int .i64 x0, .int .i64 x1, .int .i64 x2, .int .i64 x3, .int .i64 x4, .slice A l.length cap], .agg #[.int .i64 x0, .int .i64 x1, .int .i64 x2, .int .i64 x3, .int .i64 x4, .slice A' l.length cap']] w fun e w' => e = .returned (.bool true) ∧ Below w.heap.size w w' := eqP_of (eqPs_any d) A A' l cap cap' x0 x1 x2 x3 x4 w hr hr'
end Go.Proofs.Ytholdmdkhbhokaa
/-
  Pt trees copied into blocks of their own: no part has a block of another part. No statement is proved here.
-/
namespace Go.Proofs.Ytholdmdkhbhokaa
open Go.RowKit
set_option maxRecDepth 100000
set_option linter.unusedVariables false

theorem infoOP : (Try.prog.info? 37).map (fun i => (i.zero, i.size, i.bytes)) = some (some (.agg #[.int .i64 0, .int .i64 0, .int .i64 0, .int .i64 0, .int .i64 0, .slice none 0 0]), 6, 64) := by kernel_rfl
def ToPO (d : Nat) : Prop := ∀ (A : Option Addr) (l : List Pt) (cap : Nat) (w : World), RPs d w w.heap.size A l → wPs l ≤ 1048576 →
  Calls Try.prog 50 #[.slice A l.length cap] w fun e w' => ∃ A2, e = .returned (.slice A2 l.length l.length) ∧ OPs (d + 1) w' (Nw w w') A2 l ∧ Below w.heap.size w w'

theorem toPO_of {d : Nat} (ih : ToPO d) (A : Option Addr) (l : List Pt) (cap : Nat) (x0 x1 x2 x3 x4 : Int) (w : World) (hr : RPs d w w.heap.size A l) (hn : wPs l ≤ 1048576) :
    Calls Try.prog 15 #[.agg #[.int .i64 x0, .int .i64 x1, .int .i64 x2, .int .i64 x3, .int .i64 x4, .slice A l.length cap]] w fun e w' => ∃ A2, e = .returned (.agg #[.int .i64 x0, .int .i64 x1, .int .i64 x2, .int .i64 x3, .int .i64 x4, .slice A2 l.length l.length]) ∧ OPs (d + 1) w' (Nw w w') A2 l ∧ Below w.heap.size w w' := by
  have Hr := Lib.hid hr
  have IH := Lib.hid ih
  clear hr ih
  go_enter Try.func15, Try.ntmps15
  go_wp2_with (go_at_call 50; refine (IH.out _ _ _ _ (by exact Hr.out.keep (fun p hp => by rw [World.cell?_alloc_lt _ _ _ (by simp <;> omega), World.cell?_alloc_lt _ _ _ (by simp <;> omega), World.cell?_alloc_lt _ _ _ hp]) (by simp <;> omega)) hn).mono ?_; rintro e w1 ⟨A2, rfl, hf, hb⟩; obtain ⟨hc, hfz⟩ := bcell hb; have hz : w.heap.size + 2 < w1.heap.size := by have := hb.size; simp at this; omega)
  refine bodyPost_ret (v := .agg #[.int .i64 x0, .int .i64 x1, .int .i64 x2, .int .i64 x3, .int .i64 x4, .slice A2 l.length l.length]) (by simp [results, Try.results15, go_sem, hc]) rfl ⟨A2, rfl, ?_, ?_⟩
  · refine (hf.fr _ (P' := fun b => b < w.heap.size + 3) ?_ (fun b hq => by have := hq.1; simp only [World.size_alloc] at this; omega)).wide _ (fun b hq => ⟨by have := hq.1; simp only [World.size_alloc] at this; omega, by have h2 := hq.2; simpa [World.setCell] using h2⟩)
    refine Fr.trans ?_ (Fr.set _ _ _ _ (by simp <;> omega))
    refine Fr.trans ?_ (Fr.set _ _ _ _ (by simp <;> omega))
    refine Fr.trans ?_ (Fr.set _ _ _ _ (by simp <;> omega))
    refine Fr.trans ?_ (Fr.set _ _ _ _ (by simp <;> omega))
    refine Fr.trans ?_ (Fr.set _ _ _ _ (by simp <;> omega))
    refine Fr.trans ?_ (Fr.set _ _ _ _ (by simp <;> omega))
    refine Fr.trans ?_ (Fr.set _ _ _ _ (by simp <;> omega))
    exact Fr.refl _ _
  · skip
    refine Below.setCell ?_ (by simp <;> omega) _
    refine Below.setCell ?_ (by simp <;> omega) _
    refine Below.setCell ?_ (by simp <;> omega) _
    refine Below.setCell ?_ (by simp <;> omega) _
    refine Below.setCell ?_ (by simp <;> omega) _
    refine Below.setCell ?_ (by simp <;> omega) _
    refine Below.setCell ?_ (by simp <;> omega) _
    refine Below.trans ?_ (hb.mono (by simp <;> omega))
    refine Below.alloc (Below.alloc (Below.alloc (Below.refl _ _) ?_ _) ?_ _) ?_ _ <;> simp <;> omega

set_option maxHeartbeats 1600000 in
theorem toPOs_of (d : Nat) (ih : ∀ d', d = d' + 1 → ToPO d') : ToPO d := by
  intro A l cap w hr hn
  obtain ⟨i0, hi, hz0, hz1, hz2⟩ := info_parts infoOP
  have Hr := Lib.hid hr
  have IH := Lib.hid ih
  have HSum := Lib.hid (wPs_sum l)
  have hl : l.length ≤ 1048576 := by have := wPs_sum l; omega
  clear hr ih
  go_enter Try.func50, Try.ntmps50
  go_wp2_with (at_make; refine wpList_make_full _ rfl _ _ 35 rfl w.heap.size 37 i0 _ 6 Try.underlying35 hi hz0 hz1 _ _ _ _ l.length rfl rfl rfl rfl (by rw [hz2]; omega) (by unfold maxLen; omega) (Nat.le_refl _) ?_; intro w1 hown hgr)
  go_loopw [4] (fun i wr => ∃ k : Nat, k ≤ l.length ∧ i = .int .i64 k ∧ ∃ xs Q, wr.ownsRow w.heap.size 37 6 (.slice (some ⟨w.heap.size, 0, none⟩) l.length l.length) l.length xs ∧ RowP d wr w.heap.size (some w.heap.size) Q l xs k ∧ Below w.heap.size w wr) (fun i _ => l.length - (intOf i).toNat)
  case atStart => exact ⟨0, by omega, rfl, _, fun _ _ => False, hown, RowP.zero _ _ _ _ _ _ _, below_of_grown hgr (Nat.le_refl _)⟩
  case round =>
    obtain ⟨k, hk, rfl, xs, Q, hown, hrow, hb⟩ := hrel
    clear hgr hi hz0 hz1 hz2
    by_cases hlt : k < l.length
    · obtain ⟨b, off, rfl, hbB, hv⟩ := (Hr.out.below hb (Nat.le_refl _)).2 k hlt
      obtain ⟨d', hd, A', cp, c0, c1, c2, c3, c4, c5, hm⟩ := hv.parts
      have ha : wPs l[k].kids ≤ 1048576 := by
        have h1 := sum_take_succ wP l k hlt
        have h2 := sum_take_le wP l (k + 1)
        have h3 := wP_kids l[k]
        have h4 := HSum.out
        omega
      have IHd := Lib.hid (IH.out d' hd)
      have Hm := Lib.hid (hm.keep (fun _ _ => rfl) hb.size)
      have HD := Lib.hid hd
      have hwl : w.heap.size < wr.heap.size := own_lt hown
      have HROW := Lib.hid hrow
      clear hm hv hd hrow
      go_wp2_with (go_at_call 15; refine (toPO_of IHd.out _ _ _ _ _ _ _ _ _ Hm.out ha).mono ?_; rintro e w2 ⟨A2, rfl, hf, hb2⟩; have hown2 := own_below hown hb2; obtain ⟨v0, f0⟩ := own_cell hown2 (k * 6) (by omega); obtain ⟨v1, f1⟩ := own_cell hown2 (k * 6 + 1) (by omega); obtain ⟨v2, f2⟩ := own_cell hown2 (k * 6 + 2) (by omega); obtain ⟨v3, f3⟩ := own_cell hown2 (k * 6 + 3) (by omega); obtain ⟨v4, f4⟩ := own_cell hown2 (k * 6 + 4) (by omega); obtain ⟨v5, f5⟩ := own_cell hown2 (k * 6 + 5) (by omega); have g0 := hown2.frozenAt (k * 6); have g1 := hown2.frozenAt (k * 6 + 1); have g2 := hown2.frozenAt (k * 6 + 2); have g3 := hown2.frozenAt (k * 6 + 3); have g4 := hown2.frozenAt (k * 6 + 4); have g5 := hown2.frozenAt (k * 6 + 5); skip)
      have hx := hown2.1
      have s1 := (hown2.stored (k * 6) (.int .i64 l[k].op)).1
      have s2 := (s1.stored (k * 6 + 1) (.int .i64 l[k].ctor)).1
      have s3 := (s2.stored (k * 6 + 2) (.int .i64 l[k].n)).1
      have s4 := (s3.stored (k * 6 + 3) (.int .i64 l[k].m)).1
      have s5 := (s4.stored (k * 6 + 4) (.int .i64 l[k].var)).1
      have s6 := (s5.stored (k * 6 + 5) (.slice A2 l[k].kids.length l[k].kids.length)).1
      have hf2 : OPs d w2 (Nw wr w2) A2 l[k].kids := by rw [HD.out]; exact hf
      have hrow2 := HROW.out.more (xs' := ((((((xs.set (k * 6) (.int .i64 l[k].op)).set (k * 6 + 1) (.int .i64 l[k].ctor)).set (k * 6 + 2) (.int .i64 l[k].n)).set (k * 6 + 3) (.int .i64 l[k].m)).set (k * 6 + 4) (.int .i64 l[k].var)).set (k * 6 + 5) (.slice A2 l[k].kids.length l[k].kids.length))) hb2 hlt (by omega) (fun g e => by injection e with e; omega) hf2 (fun j c hj hc => by rw [List.getElem?_set_ne (by omega), List.getElem?_set_ne (by omega), List.getElem?_set_ne (by omega), List.getElem?_set_ne (by omega), List.getElem?_set_ne (by omega), List.getElem?_set_ne (by omega)]) (by rw [List.getElem?_set_ne (by omega), List.getElem?_set_ne (by omega), List.getElem?_set_ne (by omega), List.getElem?_set_ne (by omega), List.getElem?_set_ne (by omega), List.getElem?_set_self (by first | omega | (simp <;> omega))]) (by rw [List.getElem?_set_ne (by omega), List.getElem?_set_ne (by omega), List.getElem?_set_ne (by omega), List.getElem?_set_ne (by omega), List.getElem?_set_self (by first | omega | (simp <;> omega))]) (by rw [List.getElem?_set_ne (by omega), List.getElem?_set_ne (by omega), List.getElem?_set_ne (by omega), List.getElem?_set_self (by first | omega | (simp <;> omega))]) (by rw [List.getElem?_set_ne (by omega), List.getElem?_set_ne (by omega), List.getElem?_set_self (by first | omega | (simp <;> omega))]) (by rw [List.getElem?_set_ne (by omega), List.getElem?_set_self (by first | omega | (simp <;> omega))]) (by rw [List.getElem?_set_self (by first | omega | (simp <;> omega))])
      have hrow3 := hrow2.fr (w' := ((((((w2.setCell ⟨w.heap.size, k * 6, none⟩ (.int .i64 l[k].op)).setCell ⟨w.heap.size, k * 6 + 1, none⟩ (.int .i64 l[k].ctor)).setCell ⟨w.heap.size, k * 6 + 2, none⟩ (.int .i64 l[k].n)).setCell ⟨w.heap.size, k * 6 + 3, none⟩ (.int .i64 l[k].m)).setCell ⟨w.heap.size, k * 6 + 4, none⟩ (.int .i64 l[k].var)).setCell ⟨w.heap.size, k * 6 + 5, none⟩ (.slice A2 l[k].kids.length l[k].kids.length))) (P' := fun b => b = w.heap.size) ((((((Fr.set (P := fun b => b = w.heap.size) _ _ _ _ rfl).trans (Fr.set (P := fun b => b = w.heap.size) _ _ _ _ rfl)).trans (Fr.set (P := fun b => b = w.heap.size) _ _ _ _ rfl)).trans (Fr.set (P := fun b => b = w.heap.size) _ _ _ _ rfl)).trans (Fr.set (P := fun b => b = w.heap.size) _ _ _ _ rfl)).trans (Fr.set (P := fun b => b = w.heap.size) _ _ _ _ rfl)) (fun b _ hb' _ e => hb' (by rw [e]))
      go_roundw
      case rel => exact ⟨k + 1, by omega, by go_num, _, _, s6, hrow3, ((((((hb.trans (hb2.mono hb.size)).setCell (Nat.le_refl _) _).setCell (Nat.le_refl _) _).setCell (Nat.le_refl _) _).setCell (Nat.le_refl _) _).setCell (Nat.le_refl _) _).setCell (Nat.le_refl _) _⟩
      case measure => simp [intOf]; omega
    · go_wp2_with fail
      go_ret
      have he : k = l.length := by omega
      obtain ⟨A2, c2, e2, ho⟩ := OPs.of_row hown (he ▸ hrow) hl
      injection e2 with e3 e4 e5
      subst e3
      exact ⟨_, rfl, ho, hb⟩
theorem toPOs_any : ∀ d, ToPO d
  | 0 => toPOs_of 0 (fun _ h => by omega)
  | d + 1 => toPOs_of (d + 1) (fun d' h => (Nat.succ.inj h) ▸ toPOs_any d)
theorem toPO_any (d : Nat) (A : Option Addr) (l : List Pt) (cap : Nat) (x0 x1 x2 x3 x4 : Int) (w : World) (hr : RPs d w w.heap.size A l) (hn : wPs l ≤ 1048576) :
    Calls Try.prog 15 #[.agg #[.int .i64 x0, .int .i64 x1, .int .i64 x2, .int .i64 x3, .int .i64 x4, .slice A l.length cap]] w fun e w' => ∃ A2, e = .returned (.agg #[.int .i64 x0, .int .i64 x1, .int .i64 x2, .int .i64 x3, .int .i64 x4, .slice A2 l.length l.length]) ∧ OPs (d + 1) w' (Nw w w') A2 l ∧ Below w.heap.size w w' := toPO_of (toPOs_any d) A l cap x0 x1 x2 x3 x4 w hr hn
end Go.Proofs.Ytholdmdkhbhokaa
/-
  A Pt node that is made part by part. No statement is proved here.
-/
namespace Go.Proofs.Ytholdmdkhbhokaa
open Go.RowKit
set_option maxRecDepth 100000
set_option linter.unusedVariables false

theorem RowP.move {d : Nat} {w w' : World} {lo : Nat} {og og' : Option Nat} {Q : Nat → Nat → Prop} {l : List Pt} {xs : List Value} {k : Nat} {P' : Nat → Prop} (h : RowP d w lo og Q l xs k) (hf : Fr P' w w') (hp : ∀ b, lo ≤ b → some b ≠ og → b < w.heap.size → ¬ P' b ∧ some b ≠ og') : RowP d w' lo og' Q l xs k := fun j hj hjk => by
  obtain ⟨h1, A', cap, e0, e1, e2, e3, e4, e8, e9⟩ := h j hj hjk
  refine ⟨fun b hb => ?_, A', cap, e0, e1, e2, e3, e4, e8, e9.fr d hf (fun b hb => ?_)⟩
  · obtain ⟨a1, a2, a3, a4⟩ := h1 b hb
    exact ⟨a1, Nat.lt_of_lt_of_le a2 hf.size, (hp b a1 a3 a2).2, a4⟩
  · obtain ⟨a1, a2, a3, a4⟩ := h1 b hb
    exact (hp b a1 a3 a2).1
/-- A node in block g of which k parts are made; whatever was there when it was begun stays. -/
def BldP (d : Nat) (w0 wr : World) (g : Nat) (x0 x1 x2 x3 x4 : Int) (l : List Pt) (k : Nat) : Prop := g < w0.heap.size ∧ Fr (fun b => b = g) w0 wr ∧ ∃ A c ys Q, wr.heap[g]? = some (.cells #[.int .i64 x0, .int .i64 x1, .int .i64 x2, .int .i64 x3, .int .i64 x4, .slice A k c] 37 (0, 0)) ∧ wr.ownsRow w0.heap.size 37 6 (.slice A k c) k ys ∧ RowP d wr w0.heap.size (Value.slice A k c).ownBlock Q l ys k
theorem BldP.zero {d : Nat} {w0 : World} {g : Nat} {x0 x1 x2 x3 x4 : Int} {l : List Pt} (h : w0.heap[g]? = some (.cells #[.int .i64 x0, .int .i64 x1, .int .i64 x2, .int .i64 x3, .int .i64 x4, .slice none 0 0] 37 (0, 0))) : BldP d w0 w0 g x0 x1 x2 x3 x4 l 0 :=
  ⟨heap_lt h, Fr.refl _ _, none, 0, [], fun _ _ => False, h, World.ownsRow_nil _ _ _ _, RowP.zero _ _ _ _ _ _ _⟩
theorem BldP.below {d : Nat} {w0 wr w1 : World} {g : Nat} {x0 x1 x2 x3 x4 : Int} {l : List Pt} {k : Nat} (h : BldP d w0 wr g x0 x1 x2 x3 x4 l k) (hb : Below wr.heap.size wr w1) : BldP d w0 w1 g x0 x1 x2 x3 x4 l k := by
  obtain ⟨hgl, hf, A, c, ys, Q, hg, ho, hrow⟩ := h
  refine ⟨hgl, hf.trans (Fr.below hb), A, c, ys, Q, (hb.block g (heap_lt hg)).trans hg, own_at ho (fun b e => hb.block b ?_), hrow.fr (P' := fun _ => False) (Fr.below hb) (fun _ _ _ _ h => h)⟩
  obtain ⟨_, _, _, h2⟩ := own_form ho
  exact (h2 b e).2
theorem BldP.step {d : Nat} {w0 wr w2 w4 : World} {g : Nat} {x0 x1 x2 x3 x4 : Int} {l : List Pt} {k c c2 : Nat} {A A2 : Option Addr} {ys : List Value} {Q : Nat → Nat → Prop} {v' : Value} {box : Obj}
    (hgl : g < w0.heap.size) (hf : Fr (fun b => b = g) w0 wr) (hg : wr.heap[g]? = some (.cells #[.int .i64 x0, .int .i64 x1, .int .i64 x2, .int .i64 x3, .int .i64 x4, .slice A k c] 37 (0, 0))) (ho : wr.ownsRow w0.heap.size 37 6 (.slice A k c) k ys) (hrow : RowP d wr w0.heap.size (Value.slice A k c).ownBlock Q l ys k)
    (hk : k < l.length) (hb : Below wr.heap.size wr w2) (hkid : OPs d w2 (Nw wr w2) A2 l[k].kids) (hown : w4.ownsRow w0.heap.size 37 6 v' (k + 1) (ys ++ [.int .i64 l[k].op, .int .i64 l[k].ctor, .int .i64 l[k].n, .int .i64 l[k].m, .int .i64 l[k].var, .slice A2 l[k].kids.length c2])) (hgr : (w2.alloc box).grownBy w4 (Value.slice A k c).ownBlock)
    (hat : v'.ownBlock = (Value.slice A k c).ownBlock ∨ v'.ownBlock = some (w2.alloc box).heap.size) :
    ∃ A' c', v' = .slice A' (k + 1) c' ∧ w4.heap[g]? = some (.cells #[.int .i64 x0, .int .i64 x1, .int .i64 x2, .int .i64 x3, .int .i64 x4, .slice A k c] 37 (0, 0)) ∧ BldP d w0 (w4.setCell ⟨g, 5, none⟩ v') g x0 x1 x2 x3 x4 l (k + 1) := by
  have hys := ho.1
  obtain ⟨_, _, _, hob⟩ := own_form ho
  obtain ⟨A', c', hv, hnb⟩ := own_form hown
  have hgw := heap_lt hg
  have hb2 := hb.size
  have hz : (w2.alloc box).heap.size = w2.heap.size + 1 := by simp
  have hng : ¬ some g = (Value.slice A k c).ownBlock := fun e => by have := (hob g e.symm).1; omega
  have hg4 : w4.heap[g]? = some (.cells #[.int .i64 x0, .int .i64 x1, .int .i64 x2, .int .i64 x3, .int .i64 x4, .slice A k c] 37 (0, 0)) := by
    rw [hgr.block g (by omega) hng, Below.heap_alloc _ _ _ (by omega), hb.block g hgw]; exact hg
  have hF : Fr (fun b => some b = (Value.slice A k c).ownBlock ∨ b = g) w2 (w4.setCell ⟨g, 5, none⟩ v') :=
    ((Fr.below ((Below.refl _ w2).alloc (Nat.le_refl _) box)).trans (Fr.grown hgr (fun b e => .inl e))).trans (Fr.set _ _ _ _ (.inr rfl))
  have hr2 := hrow.more (xs' := ys ++ [.int .i64 l[k].op, .int .i64 l[k].ctor, .int .i64 l[k].n, .int .i64 l[k].m, .int .i64 l[k].var, .slice A2 l[k].kids.length c2]) hb hk hf.size (fun b e => (hob b e).2) hkid (fun j i hj hi => List.getElem?_append_left (by omega)) (by rw [List.getElem?_append_right (by omega), show k * 6 - ys.length = 0 by omega]; rfl) (by rw [List.getElem?_append_right (by omega), show k * 6 + 1 - ys.length = 1 by omega]; rfl) (by rw [List.getElem?_append_right (by omega), show k * 6 + 2 - ys.length = 2 by omega]; rfl) (by rw [List.getElem?_append_right (by omega), show k * 6 + 3 - ys.length = 3 by omega]; rfl) (by rw [List.getElem?_append_right (by omega), show k * 6 + 4 - ys.length = 4 by omega]; rfl) (by rw [List.getElem?_append_right (by omega), show k * 6 + 5 - ys.length = 5 by omega]; rfl)
  have hr3 := hr2.move (og' := v'.ownBlock) hF (fun b h1 h2 h3 => ⟨fun h => by
    rcases h with h | h
    · exact h2 h
    · omega, fun e => by
    rcases hat with h | h
    · exact h2 (e.trans h)
    · rw [h] at e; injection e with e; omega⟩)
  have hF0 : Fr (fun b => b = g) w0 (w4.setCell ⟨g, 5, none⟩ v') := by
    refine ⟨?_, ?_, ?_, ?_, fun b hb0 hne => ?_⟩
    · exact hF.1.trans (hb.os.trans hf.1)
    · exact hF.2.1.trans (hb.tape.trans hf.2.1)
    · exact hF.2.2.1.trans (hb.output.trans hf.2.2.1)
    · exact Nat.le_trans hf.size (Nat.le_trans hb2 hF.size)
    · have h0 := hf.size
      rw [hF.2.2.2.2 b (by omega) (fun h => by
        rcases h with h | h
        · have := (hob b h.symm).1; omega
        · exact hne h), hb.block b (by omega)]
      exact hf.2.2.2.2 b hb0 hne
  refine ⟨A', c', hv, hg4, ?_⟩
  subst hv
  refine ⟨hgl, hF0, A', c', _, _, ?_, own_at hown (fun b e => ?_), hr3⟩
  · have := heap_setCell_same w4 g 5 _ _ (.slice A' (k + 1) c') hg4
    rw [this]
    rfl
  · exact Below.heap_setCell _ _ _ _ (fun h => by have := (hnb b e).1; simp only at h; omega)
theorem BldP.all {d : Nat} {w0 wr : World} {g : Nat} {x0 x1 x2 x3 x4 : Int} {l : List Pt} {k : Nat} (h : BldP d w0 wr g x0 x1 x2 x3 x4 l k) (hk : k = l.length) (hn : l.length ≤ 1048576) :
    ∃ A c, wr.heap[g]? = some (.cells #[.int .i64 x0, .int .i64 x1, .int .i64 x2, .int .i64 x3, .int .i64 x4, .slice A l.length c] 37 (0, 0)) ∧ OPs (d + 1) wr (Nw w0 wr) A l ∧ Fr (fun b => b = g) w0 wr := by
  subst hk
  obtain ⟨_, hf, A, c, ys, Q, hg, ho, hrow⟩ := h
  obtain ⟨A', c', e, hO⟩ := OPs.of_row ho hrow hn
  injection e with e1 e2 e3
  subst e1
  exact ⟨A, c, hg, hO, hf⟩
/-- A tree that has been stored in a struct of the call's own, in block g; what was there when the region began stays. -/
def StP (d : Nat) (w1 : World) (g : Nat) (v : Pt) (B : Option Addr) (c : Nat) (wx : World) : Prop := w1.heap.size ≤ g ∧ Below w1.heap.size w1 wx ∧ wx.heap[g]? = some (.cells #[.int .i64 v.op, .int .i64 v.ctor, .int .i64 v.n, .int .i64 v.m, .int .i64 v.var, .slice B v.kids.length c] 37 (0, 0)) ∧ OPs d wx (fun b => w1.heap.size ≤ b ∧ b < wx.heap.size ∧ b ≠ g) B v.kids
theorem StP.new {d : Nat} {w1 w3 : World} {v : Pt} {B : Option Addr} {c : Nat} {P : Nat → Prop} (hb : Below w1.heap.size w1 w3) (ho : OPs d w3 P B v.kids) (hP : ∀ b, P b → w1.heap.size ≤ b ∧ b < w3.heap.size) :
    StP d w1 w3.heap.size v B c (w3.alloc (.cells #[.int .i64 v.op, .int .i64 v.ctor, .int .i64 v.n, .int .i64 v.m, .int .i64 v.var, .slice B v.kids.length c] 37)) :=
  ⟨hb.size, hb.alloc hb.size _, heap_alloc_new _ _, (ho.fr _ (Fr.below (P := fun _ => False) ((Below.refl _ _).alloc (Nat.le_refl _) _)) (fun _ _ h => h)).wide _ (fun b h => ⟨(hP b h).1, by have := (hP b h).2; simp; omega, by have := (hP b h).2; omega⟩)⟩
theorem StP.set {d : Nat} {w1 w3 : World} {g : Nat} {v : Pt} {B : Option Addr} {c : Nat} {P : Nat → Prop} (hb : Below w1.heap.size w1 w3) (hz : w3.heap[g]? = some (.cells #[.int .i64 0, .int .i64 0, .int .i64 0, .int .i64 0, .int .i64 0, .slice none 0 0] 37 (0, 0))) (hg : w1.heap.size ≤ g) (ho : OPs d w3 P B v.kids) (hP : ∀ b, P b → w1.heap.size ≤ b ∧ b < w3.heap.size ∧ b ≠ g) :
    StP d w1 g v B c ((((((w3.setCell ⟨g, 0, none⟩ (.int .i64 v.op)).setCell ⟨g, 1, none⟩ (.int .i64 v.ctor)).setCell ⟨g, 2, none⟩ (.int .i64 v.n)).setCell ⟨g, 3, none⟩ (.int .i64 v.m)).setCell ⟨g, 4, none⟩ (.int .i64 v.var)).setCell ⟨g, 5, none⟩ (.slice B v.kids.length c)) := by
  refine ⟨hg, ?_, ?_, (ho.fr _ (P' := fun b => b = g) ((((((Fr.set (P := fun b => b = g) _ _ _ _ rfl).trans (Fr.set _ _ _ _ rfl)).trans (Fr.set _ _ _ _ rfl)).trans (Fr.set _ _ _ _ rfl)).trans (Fr.set _ _ _ _ rfl)).trans (Fr.set _ _ _ _ rfl)) (fun b h e => (hP b h).2.2 e)).wide _ (fun b h => ⟨(hP b h).1, by have := (hP b h).2.1; simpa [World.setCell] using this, (hP b h).2.2⟩)⟩
  · exact ((((((hb).setCell hg _).setCell hg _).setCell hg _).setCell hg _).setCell hg _).setCell hg _
  · refine (heap_setCell_same _ g 5 _ _ _ (heap_setCell_same _ g 4 _ _ _ (heap_setCell_same _ g 3 _ _ _ (heap_setCell_same _ g 2 _ _ _ (heap_setCell_same _ g 1 _ _ _ (heap_setCell_same _ g 0 _ _ _ (hz))))))).trans rfl
theorem StP.later {d : Nat} {w1 wx wy : World} {g : Nat} {v : Pt} {B : Option Addr} {c : Nat} (h : StP d w1 g v B c wx) (hb : Below wx.heap.size wx wy) : StP d w1 g v B c wy :=
  ⟨h.1, h.2.1.trans (hb.mono h.2.1.size), (hb.block g (heap_lt h.2.2.1)).trans h.2.2.1, (h.2.2.2.fr _ (Fr.below (P := fun _ => False) hb) (fun _ _ h => h)).wide _ (fun b h => ⟨h.1, Nat.lt_of_lt_of_le h.2.1 hb.size, h.2.2⟩)⟩
theorem StP.cells {d : Nat} {w1 wx : World} {g : Nat} {v : Pt} {B : Option Addr} {c : Nat} (h : StP d w1 g v B c wx) : wx.cell? ⟨g, 0, none⟩ = some (.int .i64 v.op) ∧ wx.cell? ⟨g, 1, none⟩ = some (.int .i64 v.ctor) ∧ wx.cell? ⟨g, 2, none⟩ = some (.int .i64 v.n) ∧ wx.cell? ⟨g, 3, none⟩ = some (.int .i64 v.m) ∧ wx.cell? ⟨g, 4, none⟩ = some (.int .i64 v.var) ∧ wx.cell? ⟨g, 5, none⟩ = some (.slice B v.kids.length c) :=
  ⟨(cell_of_blk h.2.2.1 0).trans rfl, (cell_of_blk h.2.2.1 1).trans rfl, (cell_of_blk h.2.2.1 2).trans rfl, (cell_of_blk h.2.2.1 3).trans rfl, (cell_of_blk h.2.2.1 4).trans rfl, (cell_of_blk h.2.2.1 5).trans rfl⟩
/-- A struct that has been made and not yet been written. -/
def ZbP (w : World) (g : Nat) : Prop := w.heap[g]? = some (.cells #[.int .i64 0, .int .i64 0, .int .i64 0, .int .i64 0, .int .i64 0, .slice none 0 0] 37 (0, 0))
theorem ZbP.new (w : World) : ZbP (w.alloc (.cells #[.int .i64 0, .int .i64 0, .int .i64 0, .int .i64 0, .int .i64 0, .slice none 0 0] 37)) w.heap.size := heap_alloc_new _ _
theorem ZbP.at_ {w w' : World} {g : Nat} (h : ZbP w g) (hb : Below w.heap.size w w') : ZbP w' g := (hb.block g (heap_lt h)).trans h
theorem ZbP.cells {w : World} {g : Nat} (h : ZbP w g) : w.cell? ⟨g, 0, none⟩ = some (.int .i64 0) ∧ w.cell? ⟨g, 1, none⟩ = some (.int .i64 0) ∧ w.cell? ⟨g, 2, none⟩ = some (.int .i64 0) ∧ w.cell? ⟨g, 3, none⟩ = some (.int .i64 0) ∧ w.cell? ⟨g, 4, none⟩ = some (.int .i64 0) ∧ w.cell? ⟨g, 5, none⟩ = some (.slice none 0 0) ∧ w.frozen? ⟨g, 0, none⟩ = false ∧ w.frozen? ⟨g, 1, none⟩ = false ∧ w.frozen? ⟨g, 2, none⟩ = false ∧ w.frozen? ⟨g, 3, none⟩ = false ∧ w.frozen? ⟨g, 4, none⟩ = false ∧ w.frozen? ⟨g, 5, none⟩ = false :=
  ⟨(cell_of_blk h 0).trans rfl, (cell_of_blk h 1).trans rfl, (cell_of_blk h 2).trans rfl, (cell_of_blk h 3).trans rfl, (cell_of_blk h 4).trans rfl, (cell_of_blk h 5).trans rfl, frozen_of_row w g 0 _ 37 h, frozen_of_row w g 1 _ 37 h, frozen_of_row w g 2 _ 37 h, frozen_of_row w g 3 _ 37 h, frozen_of_row w g 4 _ 37 h, frozen_of_row w g 5 _ 37 h⟩
end Go.Proofs.Ytholdmdkhbhokaa
/-
  What an argument that is a value reads as. No statement is proved here.
-/
namespace Go.Proofs.Ytholdmdkhbhokaa
open Go.RowKit Go.Deep
open Go.ChangeShapes Go.WideShapes
set_option maxRecDepth 100000
set_option linter.unusedVariables false

section
variable {H : Type} {enc : TypeId × Value → H} {w : World} {spare : Nat → Bool} {held : Bool}

theorem field_atn {e : TypeId} {fs : Array Field} {fuel : Nat} {cs : List Value} {x : DataW H × List MemPlace} (he : Try.prog.underlying e = some (.struct fs)) (hone : oneCellFields Try.prog fs = true) (hlen : cs.length = fs.size)
    (h : DataW.trod enc Try.prog w 0 spare held fuel e cs = some x) :
    ∃ m, fuel = m + 1 ∧ ∀ (j : Nat) (f : Field), fs[j]? = some f → ∃ v y, cs[j]? = some v ∧ DataW.trod enc Try.prog w 0 spare held m f.type [v] = some y := by
  obtain ⟨ys, m, hfu, _, _, hyl, hf⟩ := DataW.trod_struct he h
  refine ⟨m, hfu, fun j f hj => ?_⟩
  obtain ⟨ho, hk⟩ := hone_of hone j f hj
  have hjl : j < fs.size := (Array.getElem?_eq_some_iff.1 hj).1
  have h1 := hf j f hj
  rw [ho, hk] at h1
  have hd : (cs.drop j).take 1 = [cs[j]'(by omega)] := by
    rw [List.drop_eq_getElem_cons (by omega)]; rfl
  rw [hd, List.getElem?_eq_getElem (by omega)] at h1
  exact ⟨_, _, List.getElem?_eq_getElem (by omega), h1⟩

theorem deep_all {P : Nat → Nat → Prop} (hup : ∀ i d d', d ≤ d' → P i d → P i d') : ∀ n, (∀ i, i < n → ∃ d, P i d) → ∃ D, ∀ i, i < n → P i D
  | 0, _ => ⟨0, fun i h => absurd h (Nat.not_lt_zero _)⟩
  | n + 1, h => by
    obtain ⟨D, hD⟩ := deep_all hup n (fun i hi => h i (by omega))
    obtain ⟨d, hd⟩ := h n (by omega)
    refine ⟨max D d, fun i hi => ?_⟩
    by_cases e : i = n
    · subst e; exact hup _ _ _ (Nat.le_max_right _ _) hd
    · exact hup _ _ _ (Nat.le_max_left _ _) (hD i (by omega))

theorem vls_of (fuel : Nat) : ∀ {v : Value} {x : DataW H × List MemPlace}, DataW.trod enc Try.prog w 0 spare held fuel 48 [v] = some x → ∃ A l cap, v = .slice A (List.length l) cap ∧ ∃ d, RVs d w w.heap.size A l := by
  induction fuel using Nat.strongRecOn with
  | _ fuel ih =>
    intro v x h
    rcases DataW.trod_slice Try.underlying48 h with ⟨hcs, _⟩ | ⟨a, len, cap, elems, rest, n, hfu, hcs, hx, hb, hl, hm, hlen, hel, _, _⟩
    · obtain rfl : v = .slice none 0 0 := by simpa using hcs
      exact ⟨none, [], 0, rfl, 0, RVs.nil⟩
    · obtain rfl : v = .slice (some a) len cap := by simpa using hcs
      have h3 : Try.prog.cellsOf 50 = 3 := by kernel_rfl
      have hone : ∀ i, i < len → ∃ (t : Vl), ∃ A c d, w.cell? ((a.add (i * 3)).add 0) = some (.int .i64 t.ctor) ∧ w.cell? ((a.add (i * 3)).add 1) = some (.int .i64 t.n) ∧ w.cell? ((a.add (i * 3)).add 2) = some (.slice A t.kids.length c) ∧ RVs d w w.heap.size A t.kids := by
        intro i hi
        have h1 := hel i hi
        rw [List.getElem?_eq_getElem (by omega)] at h1
        obtain ⟨cs', q1, q2⟩ := Option.bind_eq_some_iff.1 h1
        obtain ⟨_, hl3, hat⟩ := World.cells?_some q1
        rw [h3] at hl3 hat
        obtain ⟨m, hfm, hf⟩ := field_atn Try.underlying50 (by kernel_rfl) hl3 q2
        obtain ⟨v0, y0, e0, t0⟩ := hf 0 _ rfl
        obtain ⟨v1, y1, e1, t1⟩ := hf 1 _ rfl
        obtain ⟨v2, y2, e2, t2⟩ := hf 2 _ rfl
        obtain ⟨c, p0, _, _⟩ := DataW.trod_int Try.underlying3 t0
        obtain ⟨k, p1, _, _⟩ := DataW.trod_int Try.underlying3 t1
        obtain ⟨A, l, cp, rfl, d, hr⟩ := ih m (by omega) t2
        simp only [List.cons.injEq, and_true] at p0 p1
        subst p0 p1
        exact ⟨.mk c k l, A, cp, d, (hat 0 (by omega)).trans e0, (hat 1 (by omega)).trans e1, (hat 2 (by omega)).trans e2, hr⟩
      obtain ⟨f, hf⟩ := choose_lt (α := Vl) (n := len) (p := fun i t => ∃ A c d, w.cell? ((a.add (i * 3)).add 0) = some (.int .i64 t.ctor) ∧ w.cell? ((a.add (i * 3)).add 1) = some (.int .i64 t.n) ∧ w.cell? ((a.add (i * 3)).add 2) = some (.slice A t.kids.length c) ∧ RVs d w w.heap.size A t.kids) hone
      by_cases hz : len = 0
      · subst hz
        exact ⟨some a, [], cap, rfl, 0, RVs.nil⟩
      · have hsp : a.spot = none := by
          obtain ⟨A, c, d, c0, _⟩ := hf 0 (by omega)
          exact spot_of (w := w) (a := a) (by simpa [Addr.add] using c0)
        obtain ⟨b, off, sp⟩ := a
        simp only at hsp
        subst hsp
        obtain ⟨D, hD⟩ := deep_all (P := fun i d => RVl d w w.heap.size b (off + i * 3) (f i)) (fun i d d' hd h => h.more hd) len (fun i hi => by
          obtain ⟨A, c, d, c0, c1, c2, h4, h5⟩ := hf i hi
          simp only [Addr.add_lit, Nat.add_zero] at c0 c1 c2
          exact ⟨d + 1, A, c, by simpa using c0, by simpa using c1, by simpa using c2, h4, h5⟩)
        refine ⟨some ⟨b, off, none⟩, (List.range len).map f, cap, by simp, D, by simp; omega, fun k hk => ?_⟩
        have hk' : k < len := by simpa using hk
        have hbl : b < w.heap.size := by
          obtain ⟨A, c, d, c0, _⟩ := hf k hk'
          simp only [Addr.add_lit, Nat.add_zero] at c0
          exact block_lt_of_cell c0
        exact ⟨b, off, rfl, hbl, by simpa using hD k hk'⟩

/-- An argument that is a value. -/
theorem open_vl {v : Value} {d : DataW H} {ps : List MemPlace} {b0 : Nat} {r : Reach} (hv : Value.okWide Try.prog w r b0 50 v) (h : DataW.Trod enc Try.prog w 0 spare held 50 v d ps) :
    ∃ (t : Vl) (A : Option Addr) (cap d : Nat), v = .agg #[.int .i64 t.ctor, .int .i64 t.n, .slice A t.kids.length cap] ∧ RVs d w w.heap.size A t.kids := by
  obtain ⟨c0, c1, c2, y0, y1, y2, m, rfl, rfl, rfl, hy0, hy1, hy2⟩ := Go.Joins.open_agg3 Try.underlying50 (by kernel_rfl) (by kernel_rfl) hv h
  obtain ⟨a, e0, _, _⟩ := DataW.trod_int Try.underlying3 hy0
  obtain ⟨b, e1, _, _⟩ := DataW.trod_int Try.underlying3 hy1
  obtain ⟨A, l, cp, rfl, d, hr⟩ := vls_of m hy2
  simp only [List.cons.injEq, and_true] at e0 e1
  subst e0 e1
  exact ⟨.mk a b l, A, cp, d, rfl, hr⟩
end
end Go.Proofs.Ytholdmdkhbhokaa
/-
  The functions that count how much values hold. No statement is proved here.
-/
namespace Go.Proofs.Ytholdmdkhbhokaa
open Go.RowKit
set_option maxRecDepth 100000
set_option linter.unusedVariables false

def SzS (d : Nat) : Prop := ∀ (A : Option Addr) (l : List Vl) (cap : Nat) (q : Int) (w : World), RVs d w w.heap.size A l → 0 ≤ q → q ≤ 1048576 →
  Calls Try.prog 59 #[.slice A l.length cap, .int .i64 q] w fun e w' => e = .returned (.int .i64 (left q (wVs l))) ∧ Below w.heap.size w w'

theorem szV_of {d : Nat} (ih : SzS d) (A : Option Addr) (l : List Vl) (cap : Nat) (c n q : Int) (w : World) (hr : RVs d w w.heap.size A l) (h0 : 0 ≤ q) (h1 : q ≤ 1048576) :
    Calls Try.prog 26 #[.agg #[.int .i64 c, .int .i64 n, .slice A l.length cap], .int .i64 q] w fun e w' => e = .returned (.int .i64 (left q (wVs l))) ∧ Below w.heap.size w w' := by
  have Hr := Lib.hid hr
  have IH := Lib.hid ih
  clear hr ih
  by_cases hc2 : (wVs l : Int) ≤ q
  · have H2 := Lib.hid (left_ok hc2)
    go_enter Try.func26, Try.ntmps26
    go_wp2_with (go_at_call 59; refine (IH.out _ _ _ _ _ (by exact Hr.out.keep (fun p hp => World.cell?_alloc_lt _ _ _ hp) (by simp)) h0 h1).mono ?_; rw [H2.out]; rintro e w' ⟨rfl, hb⟩)
    go_ret
    exact ⟨ret_i64 (by rw [H2.out]), ((Below.refl _ _).alloc (Nat.le_refl _) _).trans (hb.mono (by simp))⟩
  · have H2 := Lib.hid (left_no hc2)
    go_enter Try.func26, Try.ntmps26
    go_wp2_with (go_at_call 59; refine (IH.out _ _ _ _ _ (by exact Hr.out.keep (fun p hp => World.cell?_alloc_lt _ _ _ hp) (by simp)) h0 h1).mono ?_; rw [H2.out]; rintro e w' ⟨rfl, hb⟩)
    go_ret
    exact ⟨ret_i64 (by rw [H2.out]), ((Below.refl _ _).alloc (Nat.le_refl _) _).trans (hb.mono (by simp))⟩

set_option maxHeartbeats 400000 in
theorem szS_of (d : Nat) (ih : ∀ d', d = d' + 1 → SzS d') : SzS d := by
  intro A l cap q0 w hr h0 h1
  have hn := hr.1
  unfold maxLen at hn
  have Hr := Lib.hid hr
  have IH := Lib.hid ih
  have HSum := Lib.hid (wVs_sum l)
  clear hr ih
  by_cases hc : (l.length : Int) ≤ q0
  · go_enter Try.func59, Try.ntmps59
    go_wp2_with fail
    go_loopw [1, 5] (fun t i wr => ∃ k : Nat, k ≤ l.length ∧ i = .int .i64 k ∧ ∃ q : Int, 0 ≤ q ∧ q ≤ 1048576 ∧ t = .int .i64 q ∧ Hid (q = q0 - (l.length + ((l.take k).map wV).sum : Nat)) ∧ Below w.heap.size w wr) (fun _ i _ => l.length - (intOf i).toNat)
    case atStart => exact ⟨0, by omega, rfl, _, by omega, by omega, rfl, by unfold Hid; simp, Below.refl _ _⟩
    case round =>
      obtain ⟨k, hk, rfl, q, hq0, hq1, rfl, HQ, hb⟩ := hrel
      by_cases hlt : k < l.length
      · obtain ⟨b, off, rfl, hbB, hv⟩ := (Hr.out.below hb (Nat.le_refl _)).2 k hlt
        obtain ⟨d', hd, A', cp, c0, c1, c2, hm⟩ := hv.parts
        have HS := Lib.hid (sum_take_succ wV l k hlt)
        have HL := Lib.hid (sum_take_le wV l (k + 1))
        have HW := Lib.hid (wV_kids l[k])
        have Hm := Lib.hid (hm.keep (fun _ _ => rfl) hb.size)
        have IHd := Lib.hid (IH.out d' hd)
        clear hm hv hd
        by_cases hc2 : (wVs l[k].kids : Int) ≤ q
        · have H2 := Lib.hid (left_ok hc2)
          go_wp2_with (go_at_call 26; refine (szV_of IHd.out _ _ _ _ _ _ _ Hm.out (by omega) (by omega)).mono ?_; rw [H2.out]; rintro e w' ⟨rfl, hb'⟩)
          have hb2 := hb.trans (hb'.mono hb.size)
          go_roundw
          case rel => exact ⟨k + 1, by omega, by go_num, _, by omega, by omega, rfl, by unfold Hid; rw [HS.out, HW.out, HQ.out]; omega, hb2⟩
          case measure => simp [intOf]; omega
        · have H2 := Lib.hid (left_no hc2)
          have H := Lib.hid (left_no (l := q0) (n := wVs l) (by rw [HSum.out]; rw [HQ.out] at hc2; rw [HS.out, HW.out] at HL; have := HL.out; omega))
          go_wp2_with (go_at_call 26; refine (szV_of IHd.out _ _ _ _ _ _ _ Hm.out (by omega) (by omega)).mono ?_; rw [H2.out]; rintro e w' ⟨rfl, hb'⟩)
          have hb2 := hb.trans (hb'.mono hb.size)
          go_ret
          exact ⟨ret_i64 (by rw [H.out]), hb2⟩
      · go_wp2_with fail
        go_ret
        refine ⟨ret_i64 ?_, hb⟩
        have h2 := HQ.out
        rw [List.take_of_length_le (by omega), ← HSum.out] at h2
        rw [left_ok (by omega)]
        exact h2
  · have H := Lib.hid (left_no (l := q0) (n := wVs l) (by rw [HSum.out]; omega))
    go_enter Try.func59, Try.ntmps59
    go_wp2_with fail
    go_ret
    exact ⟨ret_i64 (by rw [H.out]), Below.refl _ _⟩
theorem szS_any : ∀ d, SzS d
  | 0 => szS_of 0 (fun _ h => by omega)
  | d + 1 => szS_of (d + 1) (fun d' h => (Nat.succ.inj h) ▸ szS_any d)
theorem szV_any (d : Nat) (A : Option Addr) (l : List Vl) (cap : Nat) (c n q : Int) (w : World) (hr : RVs d w w.heap.size A l) (h0 : 0 ≤ q) (h1 : q ≤ 1048576) :
    Calls Try.prog 26 #[.agg #[.int .i64 c, .int .i64 n, .slice A l.length cap], .int .i64 q] w fun e w' => e = .returned (.int .i64 (left q (wVs l))) ∧ Below w.heap.size w w' := szV_of (szS_any d) A l cap c n q w hr h0 h1
end Go.Proofs.Ytholdmdkhbhokaa
