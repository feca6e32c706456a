/-
  Lists of clauses: how they lie in memory, and what they hold. No statement is proved here.
-/
import Derived.Test.YteoopmogklpnoaaT01
import Derived.Test.YteoopmogklpnoaaT00
import Derived.Test.YteoopmogklpnoaaT05
namespace Go.Proofs.Yteoopmogklpnoaa
open Go.RowKit Go.Sort
set_option maxRecDepth 100000
set_option linter.unusedVariables false
structure Cn where
  pat : Pt
  g0 : Int
  g1 : Int
  g2 : Int
instance : Inhabited Cn := ⟨⟨default, 0, 0, 0⟩⟩
def RCn (d : Nat) (w : World) (B b o : Nat) (x : Cn) : Prop := ∃ A' cap, w.cell? ⟨b, o, none⟩ = some (.int .i64 x.pat.op) ∧ w.cell? ⟨b, o + 1, none⟩ = some (.int .i64 x.pat.ctor) ∧ w.cell? ⟨b, o + 2, none⟩ = some (.int .i64 x.pat.n) ∧ w.cell? ⟨b, o + 3, none⟩ = some (.int .i64 x.pat.m) ∧ w.cell? ⟨b, o + 4, none⟩ = some (.int .i64 x.pat.var) ∧ w.cell? ⟨b, o + 5, none⟩ = some (.slice A' x.pat.kids.length cap) ∧ w.cell? ⟨b, o + 6, none⟩ = some (.int .i64 x.g0) ∧ w.cell? ⟨b, o + 7, none⟩ = some (.int .i64 x.g1) ∧ w.cell? ⟨b, o + 8, none⟩ = some (.int .i64 x.g2) ∧ RPs d w B A' x.pat.kids
def RCs (d : Nat) (w : World) (B : Nat) (A : Option Addr) (l : List Cn) : Prop := l.length ≤ maxLen ∧ ∀ k (h : k < l.length), ∃ b off, A = some ⟨b, off, none⟩ ∧ b < B ∧ RCn d w B b (off + k * 9) l[k]
section
variable {w w' : World} {B B' d : Nat} {A : Option Addr} {l : List Cn}
theorem RCn.keep {b o : Nat} {x : Cn} (h : RCn d w B b o x) (hb : b < B) (hk : ∀ p : Addr, p.block < B → w'.cell? p = w.cell? p) (hB : B ≤ B') : RCn d w' B' b o x := by
  obtain ⟨A', cap, h0, h1, h2, h3, h4, h5, h6, h7, h8, hv⟩ := h
  exact ⟨A', cap, (hk _ hb).trans h0, (hk _ hb).trans h1, (hk _ hb).trans h2, (hk _ hb).trans h3, (hk _ hb).trans h4, (hk _ hb).trans h5, (hk _ hb).trans h6, (hk _ hb).trans h7, (hk _ hb).trans h8, hv.keep hk hB⟩
theorem RCs.keep (h : RCs d w B A l) (hk : ∀ p : Addr, p.block < B → w'.cell? p = w.cell? p) (hB : B ≤ B') : RCs d w' B' A l :=
  ⟨h.1, fun k hk' => by
    obtain ⟨b, off, e, hb, hc⟩ := h.2 k hk'
    exact ⟨b, off, e, by omega, hc.keep hb hk hB⟩⟩
theorem RCs.below {B0 : Nat} (h : RCs d w B A l) (hb : Below B0 w w') (hB : B ≤ B0) : RCs d w' B A l := h.keep (fun _ hp => hb.cell (Nat.lt_of_lt_of_le hp hB)) (Nat.le_refl _)
theorem RCs.at_ (h : RCs d w w.heap.size A l) (hb : Below w.heap.size w w') : RCs d w' w'.heap.size A l := h.keep (fun _ hp => hb.cell hp) hb.size
theorem RCs.nil : RCs d w B A [] := ⟨Nat.zero_le _, fun k h => absurd h (Nat.not_lt_zero _)⟩
theorem RCn.more {d' b o : Nat} {x : Cn} (h : RCn d w B b o x) (hd : d ≤ d') : RCn d' w B b o x := by
  obtain ⟨A', cap, h0, h1, h2, h3, h4, h5, h6, h7, h8, hv⟩ := h
  exact ⟨A', cap, h0, h1, h2, h3, h4, h5, h6, h7, h8, hv.more hd⟩
end
end Go.Proofs.Yteoopmogklpnoaa
/-
  Copies of lists of clauses. No statement is proved here.
-/
namespace Go.Proofs.Yteoopmogklpnoaa
open Go.RowKit Go.Sort
set_option maxRecDepth 100000
set_option linter.unusedVariables false
theorem infoCn : (Try.prog.info? 128).map (fun i => (i.zero, i.size, i.bytes)) = some (some (.agg #[.int .i64 0, .int .i64 0, .int .i64 0, .int .i64 0, .int .i64 0, .slice none 0 0, .int .i64 0, .int .i64 0, .int .i64 0]), 9, 88) := by kernel_rfl
/-- The row of a list of clauses while it is made. -/
def RowCn (d : Nat) (w : World) (g : Nat) (l : List Cn) (xs : List Value) (k : Nat) : Prop := ∀ j (h : j < l.length), j < k → ∃ A' cap, xs[j * 9]? = some (.int .i64 l[j].pat.op) ∧ xs[j * 9 + 1]? = some (.int .i64 l[j].pat.ctor) ∧ xs[j * 9 + 2]? = some (.int .i64 l[j].pat.n) ∧ xs[j * 9 + 3]? = some (.int .i64 l[j].pat.m) ∧ xs[j * 9 + 4]? = some (.int .i64 l[j].pat.var) ∧ xs[j * 9 + 5]? = some (.slice A' l[j].pat.kids.length cap) ∧ xs[j * 9 + 6]? = some (.int .i64 l[j].g0) ∧ xs[j * 9 + 7]? = some (.int .i64 l[j].g1) ∧ xs[j * 9 + 8]? = some (.int .i64 l[j].g2) ∧ OPs (d + 1) w (fun b => b ≠ g ∧ b < w.heap.size) A' l[j].pat.kids
theorem RowCn.zero (d : Nat) (w : World) (g : Nat) (l : List Cn) (xs : List Value) : RowCn d w g l xs 0 := fun j _ h => absurd h (by omega)
theorem RowCn.fr {d : Nat} {w w' : World} {g : Nat} {l : List Cn} {xs : List Value} {k : Nat} {P' : Nat → Prop} (h : RowCn d w g l xs k) (hf : Fr P' w w') (hp : ∀ b, b ≠ g → b < w.heap.size → ¬ P' b) : RowCn d w' g l xs k := fun j hj hjk => by
  obtain ⟨A', cap, e0, e1, e2, e3, e4, e5, e6, e7, e8, e9⟩ := h j hj hjk
  exact ⟨A', cap, e0, e1, e2, e3, e4, e5, e6, e7, e8, (e9.fr _ hf (fun b hb => hp b hb.1 hb.2)).wide _ (fun b hb => ⟨hb.1, Nat.lt_of_lt_of_le hb.2 hf.size⟩)⟩
theorem RowCn.more {d : Nat} {w w' : World} {g : Nat} {l : List Cn} {xs xs' : List Value} {k cap : Nat} {A' : Option Addr} (h : RowCn d w g l xs k) (hb : Below w.heap.size w w') (hg : g < w.heap.size) (hk : k < l.length)
    (ho : OPs (d + 1) w' (Nw w w') A' l[k].pat.kids) (hx : ∀ j c, j < k → c < 9 → xs'[j * 9 + c]? = xs[j * 9 + c]?) (e0 : xs'[k * 9]? = some (.int .i64 l[k].pat.op)) (e1 : xs'[k * 9 + 1]? = some (.int .i64 l[k].pat.ctor)) (e2 : xs'[k * 9 + 2]? = some (.int .i64 l[k].pat.n)) (e3 : xs'[k * 9 + 3]? = some (.int .i64 l[k].pat.m)) (e4 : xs'[k * 9 + 4]? = some (.int .i64 l[k].pat.var)) (e5 : xs'[k * 9 + 5]? = some (.slice A' l[k].pat.kids.length cap)) (e6 : xs'[k * 9 + 6]? = some (.int .i64 l[k].g0)) (e7 : xs'[k * 9 + 7]? = some (.int .i64 l[k].g1)) (e8 : xs'[k * 9 + 8]? = some (.int .i64 l[k].g2)) :
    RowCn d w' g l xs' (k + 1) := by
  have h' := h.fr (P' := fun _ => False) (Fr.below hb) (fun _ _ _ h => h)
  intro j hj hjk
  by_cases e : j = k
  · subst e
    exact ⟨A', cap, e0, e1, e2, e3, e4, e5, e6, e7, e8, ho.wide _ (fun b hq => ⟨by have := hq.1; omega, hq.2⟩)⟩
  · obtain ⟨A2, c2, f0, f1, f2, f3, f4, f5, f6, f7, f8, f9⟩ := h' j hj (by omega)
    exact ⟨A2, c2, (hx j 0 (by omega) (by omega)).trans f0, (hx j 1 (by omega) (by omega)).trans f1, (hx j 2 (by omega) (by omega)).trans f2, (hx j 3 (by omega) (by omega)).trans f3, (hx j 4 (by omega) (by omega)).trans f4, (hx j 5 (by omega) (by omega)).trans f5, (hx j 6 (by omega) (by omega)).trans f6, (hx j 7 (by omega) (by omega)).trans f7, (hx j 8 (by omega) (by omega)).trans f8, f9⟩
theorem RCs.of_row {d : Nat} {w : World} {lo g0 : Nat} {v : Value} {l : List Cn} {xs : List Value} (h : w.ownsRow lo 128 9 v l.length xs) (hx : RowCn d w g0 l xs l.length) (hn : l.length ≤ 1048576) : ∃ A cap, v = .slice A l.length cap ∧ RCs d w w.heap.size A l := by
  rcases h.2 with ⟨h', h0⟩ | ⟨g, cap, cur, h', hb, hg, hnc, hcm, hcs, htake⟩
  · refine ⟨none, 0, by rw [h0]; exact h', by unfold maxLen; omega, fun k hl => absurd hl (by omega)⟩
  · subst h'
    refine ⟨_, cap, rfl, by unfold maxLen; omega, fun k hk => ?_⟩
    obtain ⟨A', c', e0, e1, e2, e3, e4, e5, e6, e7, e8, e9⟩ := hx k hk hk
    have hat : ∀ i, i < l.length * 9 → cur[i]? = xs[i]? := fun i hi => by
      rw [← htake, List.getElem?_take_of_lt hi, Array.getElem?_toList]
    have hc : ∀ i v, i < l.length * 9 → xs[i]? = some v → w.cell? ⟨g, 0 + i, none⟩ = some v := fun i v hi hv => by rw [cell_of_blk hg, Nat.zero_add]; exact (hat i hi).trans hv
    refine ⟨g, 0, rfl, heap_lt hg, A', c', ?_, ?_, ?_, ?_, ?_, ?_, ?_, ?_, ?_, OPs.reads d e9⟩
    · simpa using hc _ _ (by omega) e0
    · simpa using hc _ _ (by omega) e1
    · simpa using hc _ _ (by omega) e2
    · simpa using hc _ _ (by omega) e3
    · simpa using hc _ _ (by omega) e4
    · simpa using hc _ _ (by omega) e5
    · simpa using hc _ _ (by omega) e6
    · simpa using hc _ _ (by omega) e7
    · simpa using hc _ _ (by omega) e8
end Go.Proofs.Yteoopmogklpnoaa
/-
  Lists of clauses in blocks of their own: no pattern has a block of another one. No statement is proved here.
-/
namespace Go.Proofs.Yteoopmogklpnoaa
open Go.RowKit
set_option maxRecDepth 100000
set_option linter.unusedVariables false
/-- A list in a block of P; each pattern in blocks of P that no other one has. -/
def OCs (d : Nat) (w : World) (P : Nat → Prop) (A : Option Addr) (l : List Cn) : Prop := l.length ≤ maxLen ∧ (0 < l.length → ∃ (g : Nat) (cs : Array Value) (Q : Nat → Nat → Prop), A = some ⟨g, 0, none⟩ ∧ P g ∧ w.heap[g]? = some (.cells cs 128 (0, 0)) ∧ (∀ k b, k < l.length → Q k b → P b ∧ b ≠ g ∧ ∀ j, j < l.length → j ≠ k → ¬ Q j b) ∧ ∀ k (h : k < l.length), ∃ A' cap, cs[k * 9]? = some (.int .i64 l[k].pat.op) ∧ cs[k * 9 + 1]? = some (.int .i64 l[k].pat.ctor) ∧ cs[k * 9 + 2]? = some (.int .i64 l[k].pat.n) ∧ cs[k * 9 + 3]? = some (.int .i64 l[k].pat.m) ∧ cs[k * 9 + 4]? = some (.int .i64 l[k].pat.var) ∧ cs[k * 9 + 5]? = some (.slice A' l[k].pat.kids.length cap) ∧ cs[k * 9 + 6]? = some (.int .i64 l[k].g0) ∧ cs[k * 9 + 7]? = some (.int .i64 l[k].g1) ∧ cs[k * 9 + 8]? = some (.int .i64 l[k].g2) ∧ OPs d w (Q k) A' l[k].pat.kids)
theorem OCs.nil (d : Nat) (w : World) (P : Nat → Prop) (A : Option Addr) : OCs d w P A [] := ⟨Nat.zero_le _, fun h => absurd h (Nat.not_lt_zero _)⟩
theorem OCs.wide {d : Nat} {w : World} {P P' : Nat → Prop} {A : Option Addr} {l : List Cn} (h : OCs d w P A l) (hp : ∀ b, P b → P' b) : OCs d w P' A l := ⟨h.1, fun hl => by
  obtain ⟨g, cs, Q, e, hg, hh, hq, hc⟩ := h.2 hl
  exact ⟨g, cs, Q, e, hp g hg, hh, fun k b hk hb => ⟨hp b (hq k b hk hb).1, (hq k b hk hb).2⟩, hc⟩⟩
theorem OCs.fr {d : Nat} {w w' : World} {P P' : Nat → Prop} {A : Option Addr} {l : List Cn} (h : OCs d w P A l) (hf : Fr P' w w') (hp : ∀ b, P b → ¬ P' b) : OCs d w' P A l := ⟨h.1, fun hl => by
  obtain ⟨g, cs, Q, e, hg, hh, hq, hc⟩ := h.2 hl
  refine ⟨g, cs, Q, e, hg, hf.block hh (hp g hg), hq, fun k hk => ?_⟩
  obtain ⟨A', cap, e0, e1, e2, e3, e4, e5, e6, e7, e8, e9⟩ := hc k hk
  exact ⟨A', cap, e0, e1, e2, e3, e4, e5, e6, e7, e8, e9.fr _ hf (fun b hb => hp b (hq k b hk hb).1)⟩⟩
theorem OCs.later_ {d : Nat} {w w' : World} {P : Nat → Prop} {A : Option Addr} {l : List Cn} (h : OCs d w P A l) (hb : Below w.heap.size w w') : OCs d w' P A l := h.fr (Fr.below (P := fun _ => False) hb) (fun _ _ h => h)
theorem OCs.reads {d : Nat} {w : World} {P : Nat → Prop} {A : Option Addr} {l : List Cn} (h : OCs (d + 1) w P A l) : RCs d w w.heap.size A l := ⟨h.1, fun k hk => by
  obtain ⟨g, cs, Q, e, hg, hh, hq, hc⟩ := h.2 (by omega)
  obtain ⟨A', cap, e0, e1, e2, e3, e4, e5, e6, e7, e8, e9⟩ := hc k hk
  exact ⟨g, 0, e, heap_lt hh, A', cap, by rw [cell_of_blk hh, Nat.zero_add]; exact e0, by rw [cell_of_blk hh, Nat.zero_add]; exact e1, by rw [cell_of_blk hh, Nat.zero_add]; exact e2, by rw [cell_of_blk hh, Nat.zero_add]; exact e3, by rw [cell_of_blk hh, Nat.zero_add]; exact e4, by rw [cell_of_blk hh, Nat.zero_add]; exact e5, by rw [cell_of_blk hh, Nat.zero_add]; exact e6, by rw [cell_of_blk hh, Nat.zero_add]; exact e7, by rw [cell_of_blk hh, Nat.zero_add]; exact e8, OPs.reads d e9⟩⟩
/-- The row of a list while it is made: k are there, each pattern with blocks of its own, from lo on. -/
def RowC (d : Nat) (w : World) (lo : Nat) (og : Option Nat) (Q : Nat → Nat → Prop) (l : List Cn) (xs : List Value) (k : Nat) : Prop := ∀ j (h : j < l.length), j < k → (∀ b, Q j b → lo ≤ b ∧ b < w.heap.size ∧ some b ≠ og ∧ ∀ i, i < k → i ≠ j → ¬ Q i b) ∧ ∃ A' cap, xs[j * 9]? = some (.int .i64 l[j].pat.op) ∧ xs[j * 9 + 1]? = some (.int .i64 l[j].pat.ctor) ∧ xs[j * 9 + 2]? = some (.int .i64 l[j].pat.n) ∧ xs[j * 9 + 3]? = some (.int .i64 l[j].pat.m) ∧ xs[j * 9 + 4]? = some (.int .i64 l[j].pat.var) ∧ xs[j * 9 + 5]? = some (.slice A' l[j].pat.kids.length cap) ∧ xs[j * 9 + 6]? = some (.int .i64 l[j].g0) ∧ xs[j * 9 + 7]? = some (.int .i64 l[j].g1) ∧ xs[j * 9 + 8]? = some (.int .i64 l[j].g2) ∧ OPs d w (Q j) A' l[j].pat.kids
theorem RowC.zero (d : Nat) (w : World) (lo : Nat) (og : Option Nat) (Q : Nat → Nat → Prop) (l : List Cn) (xs : List Value) : RowC d w lo og Q l xs 0 := fun j _ h => absurd h (by omega)
theorem RowC.fr {d : Nat} {w w' : World} {lo : Nat} {og : Option Nat} {Q : Nat → Nat → Prop} {l : List Cn} {xs : List Value} {k : Nat} {P' : Nat → Prop} (h : RowC d w lo og Q l xs k) (hf : Fr P' w w') (hp : ∀ b, lo ≤ b → some b ≠ og → b < w.heap.size → ¬ P' b) : RowC d w' lo og Q l xs k := fun j hj hjk => by
  obtain ⟨h1, A', cap, e0, e1, e2, e3, e4, e5, e6, e7, e8, e9⟩ := h j hj hjk
  refine ⟨fun b hb => ?_, A', cap, e0, e1, e2, e3, e4, e5, e6, e7, e8, e9.fr d hf (fun b hb => ?_)⟩
  · obtain ⟨a1, a2, a3, a4⟩ := h1 b hb
    exact ⟨a1, Nat.lt_of_lt_of_le a2 hf.size, a3, a4⟩
  · obtain ⟨a1, a2, a3, a4⟩ := h1 b hb
    exact hp b a1 a3 a2
/-- One more: its pattern's blocks are new. -/
theorem RowC.more {d : Nat} {w w' : World} {lo : Nat} {og : Option Nat} {Q : Nat → Nat → Prop} {l : List Cn} {xs xs' : List Value} {k cap : Nat} {A' : Option Addr} (h : RowC d w lo og Q l xs k) (hb : Below w.heap.size w w') (hk : k < l.length) (hlo : lo ≤ w.heap.size) (hog : ∀ g, og = some g → g < w.heap.size)
    (ho : OPs d w' (Nw w w') A' l[k].pat.kids) (hx : ∀ j c, j < k → c < 9 → xs'[j * 9 + c]? = xs[j * 9 + c]?) (e0 : xs'[k * 9]? = some (.int .i64 l[k].pat.op)) (e1 : xs'[k * 9 + 1]? = some (.int .i64 l[k].pat.ctor)) (e2 : xs'[k * 9 + 2]? = some (.int .i64 l[k].pat.n)) (e3 : xs'[k * 9 + 3]? = some (.int .i64 l[k].pat.m)) (e4 : xs'[k * 9 + 4]? = some (.int .i64 l[k].pat.var)) (e5 : xs'[k * 9 + 5]? = some (.slice A' l[k].pat.kids.length cap)) (e6 : xs'[k * 9 + 6]? = some (.int .i64 l[k].g0)) (e7 : xs'[k * 9 + 7]? = some (.int .i64 l[k].g1)) (e8 : xs'[k * 9 + 8]? = some (.int .i64 l[k].g2)) :
    RowC d w' lo og (fun i => if i = k then Nw w w' else Q i) l xs' (k + 1) := by
  have h' := h.fr (P' := fun _ => False) (Fr.below hb) (fun _ _ _ _ h => h)
  intro j hj hjk
  by_cases e : j = k
  · subst e
    refine ⟨fun b hq => ?_, A', cap, e0, e1, e2, e3, e4, e5, e6, e7, e8, ?_⟩
    · replace hq : (if j = j then Nw w w' else Q j) b := hq
      rw [if_pos rfl] at hq
      refine ⟨Nat.le_trans hlo hq.1, hq.2, fun e => ?_, fun i hi hij hqi => ?_⟩
      · have := hog b e.symm; have := hq.1; omega
      · replace hqi : (if i = j then Nw w w' else Q i) b := hqi
        rw [if_neg hij] at hqi
        have := ((h i (by omega) (by omega)).1 b hqi).2.1
        have := hq.1
        omega
    · show OPs d w' (if j = j then Nw w w' else Q j) A' l[j].pat.kids
      rw [if_pos rfl]; exact ho
  · obtain ⟨h1, A2, c2, f0, f1, f2, f3, f4, f5, f6, f7, f8, f9⟩ := h' j hj (by omega)
    refine ⟨fun b hq => ?_, A2, c2, (hx j 0 (by omega) (by omega)).trans f0, (hx j 1 (by omega) (by omega)).trans f1, (hx j 2 (by omega) (by omega)).trans f2, (hx j 3 (by omega) (by omega)).trans f3, (hx j 4 (by omega) (by omega)).trans f4, (hx j 5 (by omega) (by omega)).trans f5, (hx j 6 (by omega) (by omega)).trans f6, (hx j 7 (by omega) (by omega)).trans f7, (hx j 8 (by omega) (by omega)).trans f8, ?_⟩
    · replace hq : (if j = k then Nw w w' else Q j) b := hq
      rw [if_neg e] at hq
      obtain ⟨a1, a2, a3, a4⟩ := h1 b hq
      refine ⟨a1, a2, a3, fun i hi hij hqi => ?_⟩
      replace hqi : (if i = k then Nw w w' else Q i) b := hqi
      by_cases e2 : i = k
      · rw [if_pos e2] at hqi
        have := ((h j hj (by omega)).1 b hq).2.1
        have := hqi.1
        omega
      · rw [if_neg e2] at hqi
        exact a4 i (by omega) hij hqi
    · show OPs d w' (if j = k then Nw w w' else Q j) A2 l[j].pat.kids
      rw [if_neg e]; exact f9
theorem OCs.of_row {d : Nat} {w : World} {lo : Nat} {v : Value} {l : List Cn} {xs : List Value} {Q : Nat → Nat → Prop} (h : w.ownsRow lo 128 9 v l.length xs) (hx : RowC d w lo v.ownBlock Q l xs l.length) (hn : l.length ≤ 1048576) : ∃ A cap, v = .slice A l.length cap ∧ OCs d w (fun b => lo ≤ b ∧ b < w.heap.size) A l := by
  rcases h.2 with ⟨h', h0⟩ | ⟨g, cap, cur, h', hb, hg, hnc, hcm, hcs, htake⟩
  · refine ⟨none, 0, by rw [h0]; exact h', by unfold maxLen; omega, fun hl => absurd hl (by omega)⟩
  · subst h'
    refine ⟨_, cap, rfl, by unfold maxLen; omega, fun _ => ⟨g, cur, Q, rfl, ⟨hb, heap_lt hg⟩, hg, fun k b hk hq => ?_, fun k hk => ?_⟩⟩
    · obtain ⟨a1, a2, a3, a4⟩ := (hx k hk hk).1 b hq
      exact ⟨⟨a1, a2⟩, fun e => a3 (by rw [e]; rfl), a4⟩
    · obtain ⟨_, A', c', e0, e1, e2, e3, e4, e5, e6, e7, e8, e9⟩ := hx k hk hk
      have hat : ∀ i, i < l.length * 9 → cur[i]? = xs[i]? := fun i hi => by
        rw [← htake, List.getElem?_take_of_lt hi, Array.getElem?_toList]
      exact ⟨A', c', (hat _ (by omega)).trans e0, (hat _ (by omega)).trans e1, (hat _ (by omega)).trans e2, (hat _ (by omega)).trans e3, (hat _ (by omega)).trans e4, (hat _ (by omega)).trans e5, (hat _ (by omega)).trans e6, (hat _ (by omega)).trans e7, (hat _ (by omega)).trans e8, e9⟩
end Go.Proofs.Yteoopmogklpnoaa
