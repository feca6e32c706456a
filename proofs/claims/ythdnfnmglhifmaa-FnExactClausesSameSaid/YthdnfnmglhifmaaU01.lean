/-
  The place of a list in memory: the program's keyOf. No statement is proved here.
-/
import Derived.Test.YthdnfnmglhifmaaU00
namespace Go.Proofs.Ythdnfnmglhifmaa
open Go.RowKit Go.Sort Go.Deep
set_option maxRecDepth 100000
set_option linter.unusedVariables false
def kA (A : Option Addr) (n : Nat) : Option Addr := if n = 0 then none else A
set_option maxHeartbeats 1600000 in
theorem keyOfP_any (g n cap : Nat) (w : World) (hn : n ≤ maxLen) (h0 : 0 < n) :
    Calls Try.prog 72 #[.slice (some ⟨g, 0, none⟩) n cap] w fun e w' => e = .returned (.agg #[.pointer (some ⟨g, 0, none⟩), .int .i64 n]) ∧ Below w.heap.size w w' := by
  unfold maxLen at hn
  have q0 : ((n : Int) == 0) = false := ieq_f (by omega)
  have q1 : (0 : Int) < (n : Int) := by omega
  go_enter Try.func72, Try.ntmps72
  go_wp2_with fail
  refine bodyPost_ret (v := .agg #[.pointer (some ⟨g, 0, none⟩), .int .i64 n]) (by simp [results, Try.results72, go_sem]) rfl ⟨rfl, ?_⟩
  repeat (first | exact Below.refl _ _ | refine Below.setCell ?_ (by simp <;> omega) _ | refine Below.alloc ?_ (by simp <;> omega) _)
theorem keyOfP_nil (A : Option Addr) (cap : Nat) (w : World) :
    Calls Try.prog 72 #[.slice A 0 cap] w fun e w' => e = .returned (.agg #[.pointer none, .int .i64 0]) ∧ Below w.heap.size w w' := by
  go_enter Try.func72, Try.ntmps72
  go_wp2_with fail
  refine bodyPost_ret (v := .agg #[.pointer none, .int .i64 0]) (by simp [results, Try.results72, go_sem]) rfl ⟨rfl, ?_⟩
  repeat (first | exact Below.refl _ _ | refine Below.setCell ?_ (by simp <;> omega) _ | refine Below.alloc ?_ (by simp <;> omega) _)
end Go.Proofs.Ythdnfnmglhifmaa
/-
  Worlds that differ only in some blocks. No statement is proved here.
-/
namespace Go.Proofs.Ythdnfnmglhifmaa
open Go.RowKit
set_option maxRecDepth 100000
set_option linter.unusedVariables false
/-- Only blocks of P have turned, and blocks that are new. -/
def Fr (P : Nat → Prop) (w w' : World) : Prop := w'.os = w.os ∧ w'.tape = w.tape ∧ w'.output = w.output ∧ w.heap.size ≤ w'.heap.size ∧ ∀ b, b < w.heap.size → ¬ P b → w'.heap[b]? = w.heap[b]?
theorem Fr.refl (P : Nat → Prop) (w : World) : Fr P w w := ⟨rfl, rfl, rfl, Nat.le_refl _, fun _ _ _ => rfl⟩
theorem Fr.size {P : Nat → Prop} {w w' : World} (h : Fr P w w') : w.heap.size ≤ w'.heap.size := h.2.2.2.1
theorem Fr.trans {P : Nat → Prop} {a b c : World} (h : Fr P a b) (h' : Fr P b c) : Fr P a c :=
  ⟨h'.1.trans h.1, h'.2.1.trans h.2.1, h'.2.2.1.trans h.2.2.1, Nat.le_trans h.size h'.size, fun x hx hp => (h'.2.2.2.2 x (Nat.lt_of_lt_of_le hx h.size) hp).trans (h.2.2.2.2 x hx hp)⟩
theorem Fr.wide {P P' : Nat → Prop} {w w' : World} (h : Fr P w w') (hp : ∀ b, P b → P' b) : Fr P' w w' :=
  ⟨h.1, h.2.1, h.2.2.1, h.size, fun x hx hq => h.2.2.2.2 x hx (fun h' => hq (hp x h'))⟩
theorem Fr.block {P : Nat → Prop} {w w' : World} (h : Fr P w w') {b : Nat} {o : Obj} (hb : w.heap[b]? = some o) (hp : ¬ P b) : w'.heap[b]? = some o := (h.2.2.2.2 b (heap_lt hb) hp).trans hb
theorem Fr.below {P : Nat → Prop} {w w' : World} (h : Below w.heap.size w w') : Fr P w w' := ⟨h.os, h.tape, h.output, h.size, fun b hb _ => h.block b hb⟩
theorem Fr.to {P : Nat → Prop} {w w' : World} {B : Nat} (h : Fr P w w') (hB : B ≤ w.heap.size) (hp : ∀ b, b < B → ¬ P b) : Below B w w' :=
  ⟨h.1, h.2.1, h.2.2.1, h.size, fun b hb => h.2.2.2.2 b (Nat.lt_of_lt_of_le hb hB) (hp b hb)⟩
theorem Fr.set {P : Nat → Prop} (w : World) (g i : Nat) (u : Value) (hp : P g) : Fr P w (w.setCell ⟨g, i, none⟩ u) := by
  have h := (Below.refl 0 w).setCell (p := ⟨g, i, none⟩) (Nat.zero_le _) u
  exact ⟨h.os, h.tape, h.output, h.size, fun b _ hb => Below.heap_setCell w ⟨g, i, none⟩ u b (fun e => hb (e ▸ hp))⟩
theorem Fr.grown {P : Nat → Prop} {w w' : World} {row : Option Nat} (h : w.grownBy w' row) (hp : ∀ b, some b = row → P b) : Fr P w w' :=
  ⟨h.os, h.tape, h.output, h.size, fun b hb hq => h.block b hb (fun e => hq (hp b e))⟩
theorem Fr.kept {lo hi : Nat} {w w' : World} (h : Kept lo hi w w') : Fr (fun b => lo ≤ b ∧ b < hi) w w' := by
  refine ⟨h.1.os, h.1.tape, h.1.output, h.1.size, fun b hb hq => ?_⟩
  by_cases e : b < lo
  · exact h.1.block b e
  · exact h.2.1 b (by have : ¬ b < hi := fun h' => hq ⟨by omega, h'⟩; omega) hb
/-- The blocks that are new between two worlds. -/
def Nw (w w' : World) : Nat → Prop := fun b => w.heap.size ≤ b ∧ b < w'.heap.size
end Go.Proofs.Ythdnfnmglhifmaa
/-
  Pt trees in blocks of their own: no part has a block of another part. No statement is proved here.
-/
namespace Go.Proofs.Ythdnfnmglhifmaa
open Go.RowKit
set_option maxRecDepth 100000
set_option linter.unusedVariables false
/-- Trees in blocks of P; no part has a block of another part. -/
def OPs : Nat → World → (Nat → Prop) → Option Addr → List Pt → Prop
  | 0, _, _, _, _ => False
  | d + 1, w, P, A, l => l.length ≤ maxLen ∧ (0 < l.length → ∃ (g : Nat) (cs : Array Value) (Q : Nat → Nat → Prop), A = some ⟨g, 0, none⟩ ∧ P g ∧ w.heap[g]? = some (.cells cs 37 (0, 0)) ∧ (∀ k b, k < l.length → Q k b → P b ∧ b ≠ g ∧ ∀ j, j < l.length → j ≠ k → ¬ Q j b) ∧ ∀ k (h : k < l.length), ∃ A' cap, cs[k * 6]? = some (.int .i64 l[k].op) ∧ cs[k * 6 + 1]? = some (.int .i64 l[k].ctor) ∧ cs[k * 6 + 2]? = some (.int .i64 l[k].n) ∧ cs[k * 6 + 3]? = some (.int .i64 l[k].m) ∧ cs[k * 6 + 4]? = some (.int .i64 l[k].var) ∧ cs[k * 6 + 5]? = some (.slice A' l[k].kids.length cap) ∧ OPs d w (Q k) A' l[k].kids)
def OPp (d : Nat) (w : World) (P : Nat → Prop) (g : Nat) (cs : Array Value) (Q : Nat → Nat → Prop) (l : List Pt) : Prop := P g ∧ w.heap[g]? = some (.cells cs 37 (0, 0)) ∧ (∀ k b, k < l.length → Q k b → P b ∧ b ≠ g ∧ ∀ j, j < l.length → j ≠ k → ¬ Q j b) ∧ ∀ k (h : k < l.length), ∃ A' cap, cs[k * 6]? = some (.int .i64 l[k].op) ∧ cs[k * 6 + 1]? = some (.int .i64 l[k].ctor) ∧ cs[k * 6 + 2]? = some (.int .i64 l[k].n) ∧ cs[k * 6 + 3]? = some (.int .i64 l[k].m) ∧ cs[k * 6 + 4]? = some (.int .i64 l[k].var) ∧ cs[k * 6 + 5]? = some (.slice A' l[k].kids.length cap) ∧ OPs d w (Q k) A' l[k].kids
theorem OPs.parts {d : Nat} {w : World} {P : Nat → Prop} {A : Option Addr} {l : List Pt} (h : OPs d w P A l) : ∃ d', d = d' + 1 ∧ l.length ≤ maxLen ∧ (0 < l.length → ∃ g cs Q, A = some ⟨g, 0, none⟩ ∧ OPp d' w P g cs Q l) := by
  cases d with
  | zero => exact h.elim
  | succ d => exact ⟨d, rfl, h⟩
theorem OPs.mk {d : Nat} {w : World} {P : Nat → Prop} {A : Option Addr} {l : List Pt} (hl : l.length ≤ maxLen) (h : 0 < l.length → ∃ g cs Q, A = some ⟨g, 0, none⟩ ∧ OPp d w P g cs Q l) : OPs (d + 1) w P A l := ⟨hl, h⟩
theorem OPs.nil (d : Nat) (w : World) (P : Nat → Prop) (A : Option Addr) : OPs (d + 1) w P A [] := ⟨Nat.zero_le _, fun h => absurd h (Nat.not_lt_zero _)⟩
theorem OPs.wide : ∀ (d : Nat) {w : World} {P P' : Nat → Prop} {A : Option Addr} {l : List Pt}, OPs d w P A l → (∀ b, P b → P' b) → OPs d w P' A l
  | 0, _, _, _, _, _, h, _ => h.elim
  | d + 1, _, _, _, _, _, ⟨h1, h2⟩, hp => ⟨h1, fun hl => by
    obtain ⟨g, cs, Q, e, hg, hh, hq, hc⟩ := h2 hl
    exact ⟨g, cs, Q, e, hp g hg, hh, fun k b hk hb => ⟨hp b (hq k b hk hb).1, (hq k b hk hb).2⟩, hc⟩⟩
theorem OPs.fr : ∀ (d : Nat) {w w' : World} {P P' : Nat → Prop} {A : Option Addr} {l : List Pt}, OPs d w P A l → Fr P' w w' → (∀ b, P b → ¬ P' b) → OPs d w' P A l
  | 0, _, _, _, _, _, _, h, _, _ => h.elim
  | d + 1, _, _, _, _, _, _, ⟨h1, h2⟩, hf, hp => ⟨h1, fun hl => by
    obtain ⟨g, cs, Q, e, hg, hh, hq, hc⟩ := h2 hl
    refine ⟨g, cs, Q, e, hg, hf.block hh (hp g hg), hq, fun k hk => ?_⟩
    obtain ⟨A', cap, e0, e1, e2, e3, e4, e8, e9⟩ := hc k hk
    exact ⟨A', cap, e0, e1, e2, e3, e4, e8, OPs.fr d e9 hf (fun b hb => hp b (hq k b hk hb).1)⟩⟩
theorem OPs.up : ∀ (d : Nat) {w : World} {P : Nat → Prop} {A : Option Addr} {l : List Pt}, OPs d w P A l → OPs (d + 1) w P A l
  | 0, _, _, _, _, h => h.elim
  | d + 1, _, _, _, _, ⟨h1, h2⟩ => ⟨h1, fun hl => by
    obtain ⟨g, cs, Q, e, hg, hh, hq, hc⟩ := h2 hl
    refine ⟨g, cs, Q, e, hg, hh, hq, fun k hk => ?_⟩
    obtain ⟨A', cap, e0, e1, e2, e3, e4, e8, e9⟩ := hc k hk
    exact ⟨A', cap, e0, e1, e2, e3, e4, e8, OPs.up d e9⟩⟩
theorem OPs.more {d d' : Nat} {w : World} {P : Nat → Prop} {A : Option Addr} {l : List Pt} (h : OPs d w P A l) (hd : d ≤ d') : OPs d' w P A l := by
  obtain ⟨e, rfl⟩ := Nat.exists_eq_add_of_le hd
  clear hd
  induction e with
  | zero => exact h
  | succ e ih => exact OPs.up _ ih
theorem OPs.reads : ∀ (d : Nat) {w : World} {P : Nat → Prop} {A : Option Addr} {l : List Pt}, OPs (d + 1) w P A l → RPs d w w.heap.size A l
  | d, w, P, A, l, ⟨h1, h2⟩ => ⟨h1, fun k hk => by
    obtain ⟨g, cs, Q, e, hg, hh, hq, hc⟩ := h2 (by omega)
    obtain ⟨A', cap, e0, e1, e2, e3, e4, e8, e9⟩ := hc k hk
    refine ⟨g, 0, e, heap_lt hh, ?_⟩
    cases d with
    | zero => exact e9.elim
    | succ d =>
      obtain ⟨q1, q2⟩ := OPs.reads d e9
      exact ⟨A', cap, by rw [cell_of_blk hh, Nat.zero_add]; exact e0, by rw [cell_of_blk hh, Nat.zero_add]; exact e1, by rw [cell_of_blk hh, Nat.zero_add]; exact e2, by rw [cell_of_blk hh, Nat.zero_add]; exact e3, by rw [cell_of_blk hh, Nat.zero_add]; exact e4, by rw [cell_of_blk hh, Nat.zero_add]; exact e8, q1, q2⟩⟩
/-- The row of a list while it is made: k parts are there, each with blocks of its own, from lo on. -/
def RowP (d : Nat) (w : World) (lo : Nat) (og : Option Nat) (Q : Nat → Nat → Prop) (l : List Pt) (xs : List Value) (k : Nat) : Prop := ∀ j (h : j < l.length), j < k → (∀ b, Q j b → lo ≤ b ∧ b < w.heap.size ∧ some b ≠ og ∧ ∀ i, i < k → i ≠ j → ¬ Q i b) ∧ ∃ A' cap, xs[j * 6]? = some (.int .i64 l[j].op) ∧ xs[j * 6 + 1]? = some (.int .i64 l[j].ctor) ∧ xs[j * 6 + 2]? = some (.int .i64 l[j].n) ∧ xs[j * 6 + 3]? = some (.int .i64 l[j].m) ∧ xs[j * 6 + 4]? = some (.int .i64 l[j].var) ∧ xs[j * 6 + 5]? = some (.slice A' l[j].kids.length cap) ∧ OPs d w (Q j) A' l[j].kids
theorem RowP.zero (d : Nat) (w : World) (lo : Nat) (og : Option Nat) (Q : Nat → Nat → Prop) (l : List Pt) (xs : List Value) : RowP d w lo og Q l xs 0 := fun j _ h => absurd h (by omega)
theorem RowP.fr {d : Nat} {w w' : World} {lo : Nat} {og : Option Nat} {Q : Nat → Nat → Prop} {l : List Pt} {xs : List Value} {k : Nat} {P' : Nat → Prop} (h : RowP d w lo og Q l xs k) (hf : Fr P' w w') (hp : ∀ b, lo ≤ b → some b ≠ og → b < w.heap.size → ¬ P' b) : RowP d w' lo og Q l xs k := fun j hj hjk => by
  obtain ⟨h1, A', cap, e0, e1, e2, e3, e4, e8, e9⟩ := h j hj hjk
  refine ⟨fun b hb => ?_, A', cap, e0, e1, e2, e3, e4, e8, e9.fr d hf (fun b hb => ?_)⟩
  · obtain ⟨a1, a2, a3, a4⟩ := h1 b hb
    exact ⟨a1, Nat.lt_of_lt_of_le a2 hf.size, a3, a4⟩
  · obtain ⟨a1, a2, a3, a4⟩ := h1 b hb
    exact hp b a1 a3 a2
/-- One part more: its blocks are new. -/
theorem RowP.more {d : Nat} {w w' : World} {lo : Nat} {og : Option Nat} {Q : Nat → Nat → Prop} {l : List Pt} {xs xs' : List Value} {k cap : Nat} {A' : Option Addr} (h : RowP d w lo og Q l xs k) (hb : Below w.heap.size w w') (hk : k < l.length) (hlo : lo ≤ w.heap.size) (hog : ∀ g, og = some g → g < w.heap.size)
    (ho : OPs d w' (Nw w w') A' l[k].kids) (hx : ∀ j c, j < k → c < 6 → xs'[j * 6 + c]? = xs[j * 6 + c]?) (e0 : xs'[k * 6]? = some (.int .i64 l[k].op)) (e1 : xs'[k * 6 + 1]? = some (.int .i64 l[k].ctor)) (e2 : xs'[k * 6 + 2]? = some (.int .i64 l[k].n)) (e3 : xs'[k * 6 + 3]? = some (.int .i64 l[k].m)) (e4 : xs'[k * 6 + 4]? = some (.int .i64 l[k].var)) (e8 : xs'[k * 6 + 5]? = some (.slice A' l[k].kids.length cap)) :
    RowP d w' lo og (fun i => if i = k then Nw w w' else Q i) l xs' (k + 1) := by
  have h' := h.fr (P' := fun _ => False) (Fr.below hb) (fun _ _ _ _ h => h)
  intro j hj hjk
  by_cases e : j = k
  · subst e
    refine ⟨fun b hq => ?_, A', cap, e0, e1, e2, e3, e4, e8, ?_⟩
    · replace hq : (if j = j then Nw w w' else Q j) b := hq
      rw [if_pos rfl] at hq
      refine ⟨Nat.le_trans hlo hq.1, hq.2, fun e => ?_, fun i hi hij hqi => ?_⟩
      · have := hog b e.symm; have := hq.1; omega
      · replace hqi : (if i = j then Nw w w' else Q i) b := hqi
        rw [if_neg hij] at hqi
        have := ((h i (by omega) (by omega)).1 b hqi).2.1
        have := hq.1
        omega
    · show OPs d w' (if j = j then Nw w w' else Q j) A' l[j].kids
      rw [if_pos rfl]; exact ho
  · obtain ⟨h1, A2, c2, f0, f1, f2, f3, f4, f8, f9⟩ := h' j hj (by omega)
    refine ⟨fun b hq => ?_, A2, c2, (hx j 0 (by omega) (by omega)).trans f0, (hx j 1 (by omega) (by omega)).trans f1, (hx j 2 (by omega) (by omega)).trans f2, (hx j 3 (by omega) (by omega)).trans f3, (hx j 4 (by omega) (by omega)).trans f4, (hx j 5 (by omega) (by omega)).trans f8, ?_⟩
    · replace hq : (if j = k then Nw w w' else Q j) b := hq
      rw [if_neg e] at hq
      obtain ⟨a1, a2, a3, a4⟩ := h1 b hq
      refine ⟨a1, a2, a3, fun i hi hij hqi => ?_⟩
      replace hqi : (if i = k then Nw w w' else Q i) b := hqi
      by_cases e2 : i = k
      · rw [if_pos e2] at hqi
        have := ((h j hj (by omega)).1 b hq).2.1
        have := hqi.1
        omega
      · rw [if_neg e2] at hqi
        exact a4 i (by omega) hij hqi
    · show OPs d w' (if j = k then Nw w w' else Q j) A2 l[j].kids
      rw [if_neg e]; exact f9
theorem OPs.of_row {d : Nat} {w : World} {lo : Nat} {v : Value} {l : List Pt} {xs : List Value} {Q : Nat → Nat → Prop} (h : w.ownsRow lo 37 6 v l.length xs) (hx : RowP d w lo v.ownBlock Q l xs l.length) (hn : l.length ≤ 1048576) : ∃ A cap, v = .slice A l.length cap ∧ OPs (d + 1) w (fun b => lo ≤ b ∧ b < w.heap.size) A l := by
  rcases h.2 with ⟨h', h0⟩ | ⟨g, cap, cur, h', hb, hg, hnc, hcm, hcs, htake⟩
  · refine ⟨none, 0, by rw [h0]; exact h', by unfold maxLen; omega, fun hl => absurd hl (by omega)⟩
  · subst h'
    refine ⟨_, cap, rfl, by unfold maxLen; omega, fun _ => ⟨g, cur, Q, rfl, ⟨hb, heap_lt hg⟩, hg, fun k b hk hq => ?_, fun k hk => ?_⟩⟩
    · obtain ⟨a1, a2, a3, a4⟩ := (hx k hk hk).1 b hq
      exact ⟨⟨a1, a2⟩, fun e => a3 (by rw [e]; rfl), a4⟩
    · obtain ⟨_, A', c', e0, e1, e2, e3, e4, e8, e9⟩ := hx k hk hk
      have hat : ∀ i, i < l.length * 6 → cur[i]? = xs[i]? := fun i hi => by
        rw [← htake, List.getElem?_take_of_lt hi, Array.getElem?_toList]
      exact ⟨A', c', (hat _ (by omega)).trans e0, (hat _ (by omega)).trans e1, (hat _ (by omega)).trans e2, (hat _ (by omega)).trans e3, (hat _ (by omega)).trans e4, (hat _ (by omega)).trans e8, e9⟩
end Go.Proofs.Ythdnfnmglhifmaa
/-
  Pt trees copied into blocks of their own: no part has a block of another part. No statement is proved here.
-/
namespace Go.Proofs.Ythdnfnmglhifmaa
open Go.RowKit
set_option maxRecDepth 100000
set_option linter.unusedVariables false
theorem infoOP : (Try.prog.info? 37).map (fun i => (i.zero, i.size, i.bytes)) = some (some (.agg #[.int .i64 0, .int .i64 0, .int .i64 0, .int .i64 0, .int .i64 0, .slice none 0 0]), 6, 64) := by kernel_rfl
def ToPO (d : Nat) : Prop := ∀ (A : Option Addr) (l : List Pt) (cap : Nat) (w : World), RPs d w w.heap.size A l → wPs l ≤ 1048576 →
  Calls Try.prog 69 #[.slice A l.length cap] w fun e w' => ∃ A2, e = .returned (.slice A2 l.length l.length) ∧ OPs (d + 1) w' (Nw w w') A2 l ∧ Below w.heap.size w w'
theorem toPO_of {d : Nat} (ih : ToPO d) (A : Option Addr) (l : List Pt) (cap : Nat) (x0 x1 x2 x3 x4 : Int) (w : World) (hr : RPs d w w.heap.size A l) (hn : wPs l ≤ 1048576) :
    Calls Try.prog 31 #[.agg #[.int .i64 x0, .int .i64 x1, .int .i64 x2, .int .i64 x3, .int .i64 x4, .slice A l.length cap]] w fun e w' => ∃ A2, e = .returned (.agg #[.int .i64 x0, .int .i64 x1, .int .i64 x2, .int .i64 x3, .int .i64 x4, .slice A2 l.length l.length]) ∧ OPs (d + 1) w' (Nw w w') A2 l ∧ Below w.heap.size w w' := by
  have Hr := Lib.hid hr
  have IH := Lib.hid ih
  clear hr ih
  go_enter Try.func31, Try.ntmps31
  go_wp2_with (go_at_call 69; refine (IH.out _ _ _ _ (by exact Hr.out.keep (fun p hp => by rw [World.cell?_alloc_lt _ _ _ (by simp <;> omega), World.cell?_alloc_lt _ _ _ (by simp <;> omega), World.cell?_alloc_lt _ _ _ hp]) (by simp <;> omega)) hn).mono ?_; rintro e w1 ⟨A2, rfl, hf, hb⟩; obtain ⟨hc, hfz⟩ := bcell hb; have hz : w.heap.size + 2 < w1.heap.size := by have := hb.size; simp at this; omega)
  refine bodyPost_ret (v := .agg #[.int .i64 x0, .int .i64 x1, .int .i64 x2, .int .i64 x3, .int .i64 x4, .slice A2 l.length l.length]) (by simp [results, Try.results31, go_sem, hc]) rfl ⟨A2, rfl, ?_, ?_⟩
  · refine (hf.fr _ (P' := fun b => b < w.heap.size + 3) ?_ (fun b hq => by have := hq.1; simp only [World.size_alloc] at this; omega)).wide _ (fun b hq => ⟨by have := hq.1; simp only [World.size_alloc] at this; omega, by have h2 := hq.2; simpa [World.setCell] using h2⟩)
    refine Fr.trans ?_ (Fr.set _ _ _ _ (by simp <;> omega))
    refine Fr.trans ?_ (Fr.set _ _ _ _ (by simp <;> omega))
    refine Fr.trans ?_ (Fr.set _ _ _ _ (by simp <;> omega))
    refine Fr.trans ?_ (Fr.set _ _ _ _ (by simp <;> omega))
    refine Fr.trans ?_ (Fr.set _ _ _ _ (by simp <;> omega))
    refine Fr.trans ?_ (Fr.set _ _ _ _ (by simp <;> omega))
    refine Fr.trans ?_ (Fr.set _ _ _ _ (by simp <;> omega))
    exact Fr.refl _ _
  · skip
    refine Below.setCell ?_ (by simp <;> omega) _
    refine Below.setCell ?_ (by simp <;> omega) _
    refine Below.setCell ?_ (by simp <;> omega) _
    refine Below.setCell ?_ (by simp <;> omega) _
    refine Below.setCell ?_ (by simp <;> omega) _
    refine Below.setCell ?_ (by simp <;> omega) _
    refine Below.setCell ?_ (by simp <;> omega) _
    refine Below.trans ?_ (hb.mono (by simp <;> omega))
    refine Below.alloc (Below.alloc (Below.alloc (Below.refl _ _) ?_ _) ?_ _) ?_ _ <;> simp <;> omega
set_option maxHeartbeats 1600000 in
theorem toPOs_of (d : Nat) (ih : ∀ d', d = d' + 1 → ToPO d') : ToPO d := by
  intro A l cap w hr hn
  obtain ⟨i0, hi, hz0, hz1, hz2⟩ := info_parts infoOP
  have Hr := Lib.hid hr
  have IH := Lib.hid ih
  have HSum := Lib.hid (wPs_sum l)
  have hl : l.length ≤ 1048576 := by have := wPs_sum l; omega
  clear hr ih
  go_enter Try.func69, Try.ntmps69
  go_wp2_with (at_make; refine wpList_make_full _ rfl _ _ 35 rfl w.heap.size 37 i0 _ 6 Try.underlying35 hi hz0 hz1 _ _ _ _ l.length rfl rfl rfl rfl (by rw [hz2]; omega) (by unfold maxLen; omega) (Nat.le_refl _) ?_; intro w1 hown hgr)
  go_loopw [4] (fun i wr => ∃ k : Nat, k ≤ l.length ∧ i = .int .i64 k ∧ ∃ xs Q, wr.ownsRow w.heap.size 37 6 (.slice (some ⟨w.heap.size, 0, none⟩) l.length l.length) l.length xs ∧ RowP d wr w.heap.size (some w.heap.size) Q l xs k ∧ Below w.heap.size w wr) (fun i _ => l.length - (intOf i).toNat)
  case atStart => exact ⟨0, by omega, rfl, _, fun _ _ => False, hown, RowP.zero _ _ _ _ _ _ _, below_of_grown hgr (Nat.le_refl _)⟩
  case round =>
    obtain ⟨k, hk, rfl, xs, Q, hown, hrow, hb⟩ := hrel
    clear hgr hi hz0 hz1 hz2
    by_cases hlt : k < l.length
    · obtain ⟨b, off, rfl, hbB, hv⟩ := (Hr.out.below hb (Nat.le_refl _)).2 k hlt
      obtain ⟨d', hd, A', cp, c0, c1, c2, c3, c4, c5, hm⟩ := hv.parts
      have ha : wPs l[k].kids ≤ 1048576 := by
        have h1 := sum_take_succ wP l k hlt
        have h2 := sum_take_le wP l (k + 1)
        have h3 := wP_kids l[k]
        have h4 := HSum.out
        omega
      have IHd := Lib.hid (IH.out d' hd)
      have Hm := Lib.hid (hm.keep (fun _ _ => rfl) hb.size)
      have HD := Lib.hid hd
      have hwl : w.heap.size < wr.heap.size := own_lt hown
      have HROW := Lib.hid hrow
      clear hm hv hd hrow
      go_wp2_with (go_at_call 31; refine (toPO_of IHd.out _ _ _ _ _ _ _ _ _ Hm.out ha).mono ?_; rintro e w2 ⟨A2, rfl, hf, hb2⟩; have hown2 := own_below hown hb2; obtain ⟨v0, f0⟩ := own_cell hown2 (k * 6) (by omega); obtain ⟨v1, f1⟩ := own_cell hown2 (k * 6 + 1) (by omega); obtain ⟨v2, f2⟩ := own_cell hown2 (k * 6 + 2) (by omega); obtain ⟨v3, f3⟩ := own_cell hown2 (k * 6 + 3) (by omega); obtain ⟨v4, f4⟩ := own_cell hown2 (k * 6 + 4) (by omega); obtain ⟨v5, f5⟩ := own_cell hown2 (k * 6 + 5) (by omega); have g0 := hown2.frozenAt (k * 6); have g1 := hown2.frozenAt (k * 6 + 1); have g2 := hown2.frozenAt (k * 6 + 2); have g3 := hown2.frozenAt (k * 6 + 3); have g4 := hown2.frozenAt (k * 6 + 4); have g5 := hown2.frozenAt (k * 6 + 5); skip)
      have hx := hown2.1
      have s1 := (hown2.stored (k * 6) (.int .i64 l[k].op)).1
      have s2 := (s1.stored (k * 6 + 1) (.int .i64 l[k].ctor)).1
      have s3 := (s2.stored (k * 6 + 2) (.int .i64 l[k].n)).1
      have s4 := (s3.stored (k * 6 + 3) (.int .i64 l[k].m)).1
      have s5 := (s4.stored (k * 6 + 4) (.int .i64 l[k].var)).1
      have s6 := (s5.stored (k * 6 + 5) (.slice A2 l[k].kids.length l[k].kids.length)).1
      have hf2 : OPs d w2 (Nw wr w2) A2 l[k].kids := by rw [HD.out]; exact hf
      have hrow2 := HROW.out.more (xs' := ((((((xs.set (k * 6) (.int .i64 l[k].op)).set (k * 6 + 1) (.int .i64 l[k].ctor)).set (k * 6 + 2) (.int .i64 l[k].n)).set (k * 6 + 3) (.int .i64 l[k].m)).set (k * 6 + 4) (.int .i64 l[k].var)).set (k * 6 + 5) (.slice A2 l[k].kids.length l[k].kids.length))) hb2 hlt (by omega) (fun g e => by injection e with e; omega) hf2 (fun j c hj hc => by rw [List.getElem?_set_ne (by omega), List.getElem?_set_ne (by omega), List.getElem?_set_ne (by omega), List.getElem?_set_ne (by omega), List.getElem?_set_ne (by omega), List.getElem?_set_ne (by omega)]) (by rw [List.getElem?_set_ne (by omega), List.getElem?_set_ne (by omega), List.getElem?_set_ne (by omega), List.getElem?_set_ne (by omega), List.getElem?_set_ne (by omega), List.getElem?_set_self (by first | omega | (simp <;> omega))]) (by rw [List.getElem?_set_ne (by omega), List.getElem?_set_ne (by omega), List.getElem?_set_ne (by omega), List.getElem?_set_ne (by omega), List.getElem?_set_self (by first | omega | (simp <;> omega))]) (by rw [List.getElem?_set_ne (by omega), List.getElem?_set_ne (by omega), List.getElem?_set_ne (by omega), List.getElem?_set_self (by first | omega | (simp <;> omega))]) (by rw [List.getElem?_set_ne (by omega), List.getElem?_set_ne (by omega), List.getElem?_set_self (by first | omega | (simp <;> omega))]) (by rw [List.getElem?_set_ne (by omega), List.getElem?_set_self (by first | omega | (simp <;> omega))]) (by rw [List.getElem?_set_self (by first | omega | (simp <;> omega))])
      have hrow3 := hrow2.fr (w' := ((((((w2.setCell ⟨w.heap.size, k * 6, none⟩ (.int .i64 l[k].op)).setCell ⟨w.heap.size, k * 6 + 1, none⟩ (.int .i64 l[k].ctor)).setCell ⟨w.heap.size, k * 6 + 2, none⟩ (.int .i64 l[k].n)).setCell ⟨w.heap.size, k * 6 + 3, none⟩ (.int .i64 l[k].m)).setCell ⟨w.heap.size, k * 6 + 4, none⟩ (.int .i64 l[k].var)).setCell ⟨w.heap.size, k * 6 + 5, none⟩ (.slice A2 l[k].kids.length l[k].kids.length))) (P' := fun b => b = w.heap.size) ((((((Fr.set (P := fun b => b = w.heap.size) _ _ _ _ rfl).trans (Fr.set (P := fun b => b = w.heap.size) _ _ _ _ rfl)).trans (Fr.set (P := fun b => b = w.heap.size) _ _ _ _ rfl)).trans (Fr.set (P := fun b => b = w.heap.size) _ _ _ _ rfl)).trans (Fr.set (P := fun b => b = w.heap.size) _ _ _ _ rfl)).trans (Fr.set (P := fun b => b = w.heap.size) _ _ _ _ rfl)) (fun b _ hb' _ e => hb' (by rw [e]))
      go_roundw
      case rel => exact ⟨k + 1, by omega, by go_num, _, _, s6, hrow3, ((((((hb.trans (hb2.mono hb.size)).setCell (Nat.le_refl _) _).setCell (Nat.le_refl _) _).setCell (Nat.le_refl _) _).setCell (Nat.le_refl _) _).setCell (Nat.le_refl _) _).setCell (Nat.le_refl _) _⟩
      case measure => simp [intOf]; omega
    · go_wp2_with fail
      go_ret
      have he : k = l.length := by omega
      obtain ⟨A2, c2, e2, ho⟩ := OPs.of_row hown (he ▸ hrow) hl
      injection e2 with e3 e4 e5
      subst e3
      exact ⟨_, rfl, ho, hb⟩
theorem toPOs_any : ∀ d, ToPO d
  | 0 => toPOs_of 0 (fun _ h => by omega)
  | d + 1 => toPOs_of (d + 1) (fun d' h => (Nat.succ.inj h) ▸ toPOs_any d)
theorem toPO_any (d : Nat) (A : Option Addr) (l : List Pt) (cap : Nat) (x0 x1 x2 x3 x4 : Int) (w : World) (hr : RPs d w w.heap.size A l) (hn : wPs l ≤ 1048576) :
    Calls Try.prog 31 #[.agg #[.int .i64 x0, .int .i64 x1, .int .i64 x2, .int .i64 x3, .int .i64 x4, .slice A l.length cap]] w fun e w' => ∃ A2, e = .returned (.agg #[.int .i64 x0, .int .i64 x1, .int .i64 x2, .int .i64 x3, .int .i64 x4, .slice A2 l.length l.length]) ∧ OPs (d + 1) w' (Nw w w') A2 l ∧ Below w.heap.size w w' := toPO_of (toPOs_any d) A l cap x0 x1 x2 x3 x4 w hr hn
end Go.Proofs.Ythdnfnmglhifmaa
/-
  The worklist of pairs of lists of the program's PatternSame: what holds of it. No statement is proved here.
-/
namespace Go.Proofs.Ythdnfnmglhifmaa
open Go.RowKit Go.Sort Go.Deep
set_option maxRecDepth 100000
set_option linter.unusedVariables false
/-- The least number that has a property. -/
noncomputable def lst (P : Nat → Prop) : Nat := @dite _ (∃ n, P n ∧ ∀ m, P m → n ≤ m) (Classical.propDecidable _) (fun h => Classical.choose h) (fun _ => 0)
theorem least_ex (P : Nat → Prop) : ∀ n, P n → ∃ n, P n ∧ ∀ m, P m → n ≤ m := by
  intro n
  induction n using Nat.strongRecOn with
  | ind n ih =>
    intro h
    by_cases e : ∃ m, m < n ∧ P m
    · obtain ⟨m, hm, hp⟩ := e; exact ih m hm hp
    · exact ⟨n, h, fun m hm => by
        by_cases hl : m < n
        · exact absurd ⟨m, hl, hm⟩ e
        · omega⟩
theorem lst_spec {P : Nat → Prop} {n : Nat} (h : P n) : P (lst P) ∧ ∀ m, P m → lst P ≤ m := by
  have hx := least_ex P n h
  unfold lst
  rw [dif_pos hx]
  exact Classical.choose_spec hx
/-- A pair of lists that waits: where the first one lies (in blocks of P), where the second one lies (in blocks of Q). -/
structure EnP where
  A : Option Addr
  la : List Pt
  ca : Nat
  B : Option Addr
  lb : List Pt
  cb : Nat
  d : Nat
  P : Nat → Prop
  e : Nat
  Q : Nat → Prop
def EnP.S (x : EnP) (b : Nat) : Prop := x.P b ∧ ∀ a, x.A = some a → b ≠ a.block
def EnP.ok (w : World) (m : Nat) (x : EnP) : Prop := OPs x.d w x.P x.A x.la ∧ OPs x.e w x.Q x.B x.lb ∧ (∀ b, x.P b → b < w.heap.size ∧ b ≠ m) ∧ ∀ b, x.Q b → b < w.heap.size ∧ b ≠ m
def kyP (A : Option Addr) (n : Nat) (B : Option Addr) (m : Nat) : KyP := ⟨kA A n, n, kA B m, m⟩
def LyP (w : World) (m : Nat) (a : Option Addr) : Prop := ∀ x, a = some x → x.block < w.heap.size ∧ x.block ≠ m ∧ ∃ c t, w.heap[x.block]? = some (.cells c t (0, 0))
theorem LyP.lies {w w' : World} {m : Nat} {a : Option Addr} (h : LyP w m a) (hf : Fr (fun b => b = m) w w') : LiesPP w' a := fun x hx => by
  obtain ⟨h1, h2, c, t, h3⟩ := h x hx
  exact ⟨c, t, hf.block h3 h2⟩
theorem kA_nil (A : Option Addr) : kA A 0 = none := rfl
theorem kA_pos {A : Option Addr} {n : Nat} (h : 0 < n) : kA A n = A := if_neg (by omega)
theorem OPs.addr {d : Nat} {w : World} {P : Nat → Prop} {A : Option Addr} {l : List Pt} (h : OPs d w P A l) (hl : 0 < l.length) : ∃ g, A = some ⟨g, 0, none⟩ ∧ P g ∧ ∃ c, w.heap[g]? = some (.cells c 37 (0, 0)) := by
  obtain ⟨d', rfl, _, hp⟩ := h.parts
  obtain ⟨g, cs, Q, e, hg, hh, _⟩ := hp hl
  exact ⟨g, e, hg, cs, hh⟩
theorem OPs.ly {d : Nat} {w : World} {P : Nat → Prop} {A : Option Addr} {l : List Pt} {m : Nat} (h : OPs d w P A l) (hm : ∀ b, P b → b < w.heap.size ∧ b ≠ m) : LyP w m (kA A l.length) := fun x hx => by
  by_cases h0 : l.length = 0
  · rw [h0, kA_nil] at hx; cases hx
  · obtain ⟨g, rfl, hg, c, hh⟩ := h.addr (by omega)
    rw [kA_pos (by omega)] at hx
    cases hx
    exact ⟨(hm g hg).1, (hm g hg).2, c, _, hh⟩
structure InvP (p q : Pt) (w : World) (m : Nat) (W : List EnP) (S : List KyP) : Prop where
  goal : p = q ↔ ∀ x ∈ W, x.la = x.lb
  ok : ∀ x ∈ W, x.ok w m
  apart : W.Pairwise (fun x y => ∀ b, x.S b → ¬ y.S b)
  met : ∀ x ∈ W, ∀ k ∈ S, ∀ a, k.a = some a → ¬ x.S a.block
  one : ∀ k ∈ S, k.a = none → k.b = none ∨ ∃ x ∈ W, x.la = [] ∧ ¬ x.lb = []
  lies : ∀ k ∈ S, LyP w m k.a ∧ LyP w m k.b
structure InvI (p q : Pt) (w : World) (m : Nat) (W : List EnP) (S : List KyP) (la lb : List Pt) (Q : Nat → Nat → Prop) (k : Nat) : Prop where
  goal : p = q ↔ (∀ x ∈ W, x.la = x.lb) ∧ ∀ j (h : j < la.length) (h' : j < lb.length), k ≤ j → la[j].kids = lb[j].kids
  ok : ∀ x ∈ W, x.ok w m
  apart : W.Pairwise (fun x y => ∀ b, x.S b → ¬ y.S b)
  met : ∀ x ∈ W, ∀ k ∈ S, ∀ a, k.a = some a → ¬ x.S a.block
  one : ∀ k ∈ S, k.a = none → k.b = none ∨ ∃ x ∈ W, x.la = [] ∧ ¬ x.lb = []
  lies : ∀ k ∈ S, LyP w m k.a ∧ LyP w m k.b
  pend : ∀ j, k ≤ j → j < la.length → (∀ x ∈ W, ∀ b, Q j b → ¬ x.S b) ∧ ∀ ky ∈ S, ∀ a, ky.a = some a → ¬ Q j a.block
theorem same_kids {a b : List Pt} (hl : a.length = b.length) (hq : AllQ a b a.length) : a = b ↔ ∀ j (h : j < a.length) (h' : j < b.length), 0 ≤ j → a[j].kids = b[j].kids := by
  constructor
  · rintro rfl j h h' _; rfl
  · intro h
    refine List.ext_getElem hl (fun i h1 h2 => ?_)
    have h3 := hq i h1 h2 h1
    have h4 := h i h1 h2 (Nat.zero_le _)
    obtain ⟨e0, e1, e2, e3, e4⟩ := h3
    exact same_of e0 e1 e2 e3 e4 (by rw [h4]) (fun j hj hj' _ => by simp only [h4])
theorem InvP.pop {p q : Pt} {w : World} {m : Nat} {W : List EnP} {x : EnP} {S : List KyP} (h : InvP p q w m (W ++ [x]) S) (hl : x.la.length = x.lb.length) (hq : AllQ x.la x.lb x.la.length) {Q : Nat → Nat → Prop} (hQ : ∀ j b, j < x.la.length → Q j b → x.S b) : InvI p q w m W S x.la x.lb Q 0 := by
  have hxm : x ∈ W ++ [x] := List.mem_append.2 (.inr (List.mem_singleton.2 rfl))
  have hw : ∀ y ∈ W, y ∈ W ++ [x] := fun y hy => List.mem_append.2 (.inl hy)
  refine ⟨?_, fun y hy => h.ok y (hw y hy), (List.pairwise_append.1 h.apart).1, fun y hy => h.met y (hw y hy), fun k hk ha => ?_, h.lies, fun j _ hj => ⟨fun y hy b hb => ?_, fun ky hk a ha hb => ?_⟩⟩
  · rw [h.goal, ← same_kids hl hq]
    constructor
    · exact fun hh => ⟨fun y hy => hh y (hw y hy), hh x hxm⟩
    · rintro ⟨h1, h2⟩ y hy
      rcases List.mem_append.1 hy with hy | hy
      · exact h1 y hy
      · rw [List.mem_singleton.1 hy]; exact h2
  · rcases h.one k hk ha with hb | ⟨y, hy, h1, h2⟩
    · exact .inl hb
    · rcases List.mem_append.1 hy with hy | hy
      · exact .inr ⟨y, hy, h1, h2⟩
      · rw [List.mem_singleton.1 hy] at h1 h2
        rw [h1] at hl
        exact absurd (List.eq_nil_of_length_eq_zero hl.symm) h2
  · exact fun hys => (List.pairwise_append.1 h.apart).2.2 y hy x (List.mem_singleton.2 rfl) b hys (hQ j b hj hb)
  · exact h.met x hxm ky hk a ha (hQ j _ hj hb)
theorem InvI.done {p q : Pt} {w : World} {m : Nat} {W : List EnP} {S : List KyP} {la lb : List Pt} {Q : Nat → Nat → Prop} {k : Nat} (h : InvI p q w m W S la lb Q k) (hk : la.length ≤ k) : InvP p q w m W S :=
  ⟨by rw [h.goal]; exact ⟨fun hh => hh.1, fun hh => ⟨hh, fun j hj _ hkj => by omega⟩⟩, h.ok, h.apart, h.met, h.one, h.lies⟩
/-- The next pair was met before. -/
theorem InvI.skip {p q : Pt} {w : World} {m d e : Nat} {W : List EnP} {S : List KyP} {la lb : List Pt} {Q QB : Nat → Nat → Prop} {k : Nat} {A B : Option Addr} (h : InvI p q w m W S la lb Q k) (hk : k < la.length) (hk' : k < lb.length)
    (ha : OPs d w (Q k) A la[k].kids) (hb : OPs e w (QB k) B lb[k].kids) (hm : kyP A la[k].kids.length B lb[k].kids.length ∈ S) : InvI p q w m W S la lb Q (k + 1) := by
  refine ⟨?_, h.ok, h.apart, h.met, h.one, h.lies, fun j hj hjl => h.pend j (by omega) hjl⟩
  have ha0 : la[k].kids = [] := by
    by_cases e0 : 0 < la[k].kids.length
    · obtain ⟨g, rfl, hg, _⟩ := ha.addr e0
      exact absurd hg ((h.pend k (Nat.le_refl _) hk).2 _ hm ⟨g, 0, none⟩ (kA_pos e0))
    · exact List.eq_nil_of_length_eq_zero (by omega)
  rw [h.goal]
  rcases h.one _ hm (by show kA A la[k].kids.length = none; rw [ha0]; rfl) with hbn | ⟨y, hy, h1, h2⟩
  · have hb0 : lb[k].kids = [] := by
      by_cases e0 : 0 < lb[k].kids.length
      · obtain ⟨g, rfl, hg, _⟩ := hb.addr e0
        have hbn' : kA (some ⟨g, 0, none⟩) lb[k].kids.length = none := hbn
        rw [kA_pos e0] at hbn'; cases hbn'
      · exact List.eq_nil_of_length_eq_zero (by omega)
    refine ⟨fun hh => ⟨hh.1, fun j hj hj' hkj => hh.2 j hj hj' (by omega)⟩, fun hh => ⟨hh.1, fun j hj hj' hkj => ?_⟩⟩
    by_cases e0 : j = k
    · subst e0; rw [ha0, hb0]
    · exact hh.2 j hj hj' (by omega)
  · exact ⟨fun hh => absurd ((hh.1 y hy).symm.trans h1) h2, fun hh => absurd ((hh.1 y hy).symm.trans h1) h2⟩
/-- The next pair is new: it waits. -/
theorem InvI.push {p q : Pt} {w : World} {m d e : Nat} {W : List EnP} {S : List KyP} {la lb : List Pt} {Q QB : Nat → Nat → Prop} {k ca cb : Nat} {A B : Option Addr} (h : InvI p q w m W S la lb Q k) (hk : k < la.length) (hk' : k < lb.length)
    (ha : OPs d w (Q k) A la[k].kids) (hb : OPs e w (QB k) B lb[k].kids) (hQ : ∀ j b, j < la.length → Q j b → (b < w.heap.size ∧ b ≠ m) ∧ ∀ i, i < la.length → i ≠ j → ¬ Q i b) (hQB : ∀ b, QB k b → b < w.heap.size ∧ b ≠ m) :
    InvI p q w m (W ++ [⟨A, la[k].kids, ca, B, lb[k].kids, cb, d, Q k, e, QB k⟩]) (S ++ [kyP A la[k].kids.length B lb[k].kids.length]) la lb Q (k + 1) := by
  have hmem : ∀ {α : Type} {l : List α} {x y : α}, y ∈ l ++ [x] → y ∈ l ∨ y = x := fun hy => (List.mem_append.1 hy).imp id List.mem_singleton.1
  have hka : ∀ a, (kyP A la[k].kids.length B lb[k].kids.length).a = some a → A = some a ∧ Q k a.block := fun a h1 => by
    have h1 : kA A la[k].kids.length = some a := h1
    by_cases e0 : 0 < la[k].kids.length
    · obtain ⟨g, rfl, hg, _⟩ := ha.addr e0
      rw [kA_pos e0] at h1
      cases h1
      exact ⟨rfl, hg⟩
    · rw [show la[k].kids.length = 0 by omega, kA_nil] at h1; cases h1
  refine ⟨?_, fun y hy => ?_, ?_, fun y hy ky hky a h1 => ?_, fun ky hky h1 => ?_, fun ky hky => ?_, fun j hj hjl => ⟨fun y hy b hb' => ?_, fun ky hky a h1 h2 => ?_⟩⟩
  · rw [h.goal]
    constructor
    · rintro ⟨h1, h2⟩
      refine ⟨fun y hy => ?_, fun j hj hj' hkj => h2 j hj hj' (by omega)⟩
      rcases hmem hy with hy | rfl
      · exact h1 y hy
      · exact h2 k hk hk' (Nat.le_refl _)
    · rintro ⟨h1, h2⟩
      refine ⟨fun y hy => h1 y (List.mem_append.2 (.inl hy)), fun j hj hj' hkj => ?_⟩
      by_cases e0 : j = k
      · subst e0; exact h1 _ (List.mem_append.2 (.inr (List.mem_singleton.2 rfl)))
      · exact h2 j hj hj' (by omega)
  · rcases hmem hy with hy | rfl
    · exact h.ok y hy
    · exact ⟨ha, hb, fun b hb' => (hQ k b hk hb').1, hQB⟩
  · refine List.pairwise_append.2 ⟨h.apart, List.pairwise_singleton _ _, fun y hy z hz b h1 h2 => ?_⟩
    rw [List.mem_singleton.1 hz] at h2
    exact (h.pend k (Nat.le_refl _) hk).1 y hy b h2.1 h1
  · rcases hmem hy with hy | rfl
    · rcases hmem hky with hky | rfl
      · exact h.met y hy ky hky a h1
      · exact (h.pend k (Nat.le_refl _) hk).1 y hy _ (hka a h1).2
    · rcases hmem hky with hky | rfl
      · exact fun h2 => (h.pend k (Nat.le_refl _) hk).2 ky hky a h1 h2.1
      · exact fun h2 => h2.2 a (hka a h1).1 rfl
  · rcases hmem hky with hky | rfl
    · rcases h.one ky hky h1 with h2 | ⟨y, hy, h2, h3⟩
      · exact .inl h2
      · exact .inr ⟨y, List.mem_append.2 (.inl hy), h2, h3⟩
    · by_cases e0 : lb[k].kids = []
      · exact .inl (by show kA B lb[k].kids.length = none; rw [e0]; rfl)
      · refine .inr ⟨_, List.mem_append.2 (.inr (List.mem_singleton.2 rfl)), ?_, e0⟩
        show la[k].kids = []
        have h1 : kA A la[k].kids.length = none := h1
        by_cases e1 : 0 < la[k].kids.length
        · obtain ⟨g, rfl, hg, _⟩ := ha.addr e1
          rw [kA_pos e1] at h1; cases h1
        · exact List.eq_nil_of_length_eq_zero (by omega)
  · rcases hmem hky with hky | rfl
    · exact h.lies ky hky
    · exact ⟨ha.ly (fun b hb' => (hQ k b hk hb').1), hb.ly hQB⟩
  · rcases hmem hy with hy | rfl
    · exact (h.pend j (by omega) hjl).1 y hy b hb'
    · exact fun h2 => (hQ k b hk h2.1).2 j hjl (by omega) hb'
  · rcases hmem hky with hky | rfl
    · exact (h.pend j (by omega) hjl).2 ky hky a h1 h2
    · exact (hQ k _ hk (hka a h1).2).2 j hjl (by omega) h2
def muP (W : List EnP) : Nat := (W.map (fun x => 1 + wPs x.la)).sum
theorem muP_app (W : List EnP) (x : EnP) : muP (W ++ [x]) = muP W + (1 + wPs x.la) := by unfold muP; simp
theorem muP_len (W : List EnP) : W.length ≤ muP W := by
  induction W with
  | nil => exact Nat.zero_le _
  | cons x W ih => unfold muP at ih ⊢; rw [List.map_cons, List.sum_cons, List.length_cons]; omega
/-- The worklist in memory: a row of the call's own. -/
def OpnP (w : World) (lo : Nat) (u : Value) (W : List EnP) : Prop := ∃ xs, w.ownsRow lo 118 2 u W.length xs ∧ ∀ j (h : j < W.length), xs[j * 2]? = some (.slice W[j].A W[j].la.length W[j].ca) ∧ xs[j * 2 + 1]? = some (.slice W[j].B W[j].lb.length W[j].cb)
theorem OpnP.top {w : World} {lo : Nat} {u : Value} {W : List EnP} {x : EnP} (h : OpnP w lo u (W ++ [x])) : ∃ g cap, u = .slice (some ⟨g, 0, none⟩) (W.length + 1) cap ∧ lo ≤ g ∧ g < w.heap.size ∧ W.length + 1 ≤ cap ∧ cap ≤ maxLen ∧ w.cell? ⟨g, W.length * 2, none⟩ = some (.slice x.A x.la.length x.ca) ∧ w.cell? ⟨g, W.length * 2 + 1, none⟩ = some (.slice x.B x.lb.length x.cb) ∧ OpnP w lo (.slice (some ⟨g, 0, none⟩) W.length cap) W := by
  obtain ⟨xs, ho, hx⟩ := h
  have hl : (W ++ [x]).length = W.length + 1 := by simp
  have h1 := hx W.length (by omega)
  rw [List.getElem_append_right (Nat.le_refl _)] at h1
  simp only [Nat.sub_self, List.getElem_cons_zero] at h1
  rcases ho.2 with ⟨_, h0⟩ | ⟨g, cap, cur, rfl, hg, hh, hn, hcm, hcs, htake⟩
  · rw [hl] at h0; cases h0
  · have hat : ∀ i, i < (W.length + 1) * 2 → cur[i]? = xs[i]? := fun i hi => by
      rw [← htake, List.getElem?_take_of_lt (by rw [hl]; exact hi), Array.getElem?_toList]
    rw [hl] at hn htake
    refine ⟨g, cap, by rw [hl], hg, heap_lt hh, by omega, hcm, ?_, ?_, xs.take (W.length * 2), ⟨by rw [List.length_take, ho.1, hl]; omega, .inr ⟨g, cap, cur, rfl, hg, hh, by omega, hcm, hcs, ?_⟩⟩, fun j hj => ?_⟩
    · rw [cell_of_blk hh, hat _ (by omega)]; exact h1.1
    · rw [cell_of_blk hh, hat _ (by omega)]; exact h1.2
    · rw [← htake, List.take_take, Nat.min_eq_left (by omega)]
    · have h2 := hx j (by omega)
      rw [List.getElem_append_left hj] at h2
      exact ⟨by rw [List.getElem?_take_of_lt (by omega)]; exact h2.1, by rw [List.getElem?_take_of_lt (by omega)]; exact h2.2⟩
theorem OpnP.keep {w w' : World} {lo : Nat} {u : Value} {W : List EnP} (h : OpnP w lo u W) (hk : ∀ b, lo ≤ b → b < w.heap.size → w'.heap[b]? = w.heap[b]?) : OpnP w' lo u W := by
  obtain ⟨xs, ho, hx⟩ := h
  exact ⟨xs, own_at ho (fun b e => hk b (by obtain ⟨_, _, _, h⟩ := own_form ho; exact (h b e).1) (by obtain ⟨_, _, _, h⟩ := own_form ho; exact (h b e).2)), hx⟩
theorem OpnP.below {w w' : World} {lo : Nat} {u : Value} {W : List EnP} (h : OpnP w lo u W) (hb : Below w.heap.size w w') : OpnP w' lo u W := h.keep (fun b _ hb' => hb.block b hb')
theorem OpnP.push {w' : World} {lo : Nat} {v' : Value} {W : List EnP} {x : EnP} {xs : List Value} (hl : xs.length = W.length * 2) (hx : ∀ j (h : j < W.length), xs[j * 2]? = some (.slice W[j].A W[j].la.length W[j].ca) ∧ xs[j * 2 + 1]? = some (.slice W[j].B W[j].lb.length W[j].cb)) (ho : w'.ownsRow lo 118 2 v' (W.length + 1) (xs ++ [.slice x.A x.la.length x.ca, .slice x.B x.lb.length x.cb])) : OpnP w' lo v' (W ++ [x]) := by
  refine ⟨_, by simpa using ho, fun j hj => ?_⟩
  have hj' : j < W.length + 1 := by simpa using hj
  by_cases e : j < W.length
  · rw [List.getElem_append_left e]
    exact ⟨by rw [List.getElem?_append_left (by omega)]; exact (hx j e).1, by rw [List.getElem?_append_left (by omega)]; exact (hx j e).2⟩
  · have e' : j = W.length := by omega
    subst e'
    rw [List.getElem_append_right (Nat.le_refl _)]
    simp only [Nat.sub_self, List.getElem_cons_zero]
    exact ⟨by rw [List.getElem?_append_right (by omega), hl, Nat.sub_self]; rfl, by rw [List.getElem?_append_right (by omega), hl, Nat.add_sub_cancel_left]; rfl⟩
theorem Fr.row {m : Nat} {w wr w' : World} {row : Option Nat} (h : Fr (fun b => b = m) w wr) (hg : wr.grownBy w' row) (hlo : ∀ b, row = some b → w.heap.size ≤ b) : Fr (fun b => b = m) w w' :=
  ⟨hg.os.trans h.1, hg.tape.trans h.2.1, hg.output.trans h.2.2.1, Nat.le_trans h.size hg.size, fun b hb hn => (hg.block b (Nat.lt_of_lt_of_le hb h.size) (by intro e; have := hlo b e.symm; omega)).trans (h.2.2.2.2 b hb hn)⟩
theorem Fr.next {m : Nat} {w wr w' : World} (h : Fr (fun b => b = m) w wr) (hb : Below wr.heap.size wr w') : Fr (fun b => b = m) w w' := h.trans (Fr.below hb)
theorem last_or {α : Type} (l : List α) : l = [] ∨ ∃ L b, l = L ++ [b] := by
  rcases List.eq_nil_or_concat l with h | ⟨L, b, h⟩
  · exact .inl h
  · exact .inr ⟨L, b, by rw [h]; simp⟩
theorem Fr.cell {P : Nat → Prop} {w w' : World} (h : Fr P w w') {a : Addr} (hb : a.block < w.heap.size) (hp : ¬ P a.block) : w'.cell? a = w.cell? a := World.cell?_of_block (h.2.2.2.2 a.block hb hp)
theorem OpnP.nil_form {w : World} {lo : Nat} {u : Value} (h : OpnP w lo u []) : ∃ A c, u = .slice A 0 c := by
  obtain ⟨xs, ho, _⟩ := h
  obtain ⟨A, c, e, _⟩ := own_form ho
  exact ⟨A, c, e⟩
theorem OPs.kidsQ {d : Nat} {w : World} {P : Nat → Prop} {A : Option Addr} {l : List Pt} (h : OPs (d + 1) w P A l) : ∃ Q : Nat → Nat → Prop, (∀ j b, j < l.length → Q j b → P b ∧ (∀ a, A = some a → b ≠ a.block) ∧ ∀ i, i < l.length → i ≠ j → ¬ Q i b) ∧
    ∀ k (hk : k < l.length), ∃ g A' cap, A = some ⟨g, 0, none⟩ ∧ P g ∧ g < w.heap.size ∧ w.cell? ⟨g, k * 6, none⟩ = some (.int .i64 l[k].op) ∧ w.cell? ⟨g, k * 6 + 1, none⟩ = some (.int .i64 l[k].ctor) ∧ w.cell? ⟨g, k * 6 + 2, none⟩ = some (.int .i64 l[k].n) ∧ w.cell? ⟨g, k * 6 + 3, none⟩ = some (.int .i64 l[k].m) ∧ w.cell? ⟨g, k * 6 + 4, none⟩ = some (.int .i64 l[k].var) ∧ w.cell? ⟨g, k * 6 + 5, none⟩ = some (.slice A' l[k].kids.length cap) ∧ OPs d w (Q k) A' l[k].kids := by
  obtain ⟨h1, h2⟩ := h
  by_cases h0 : 0 < l.length
  · obtain ⟨g, cs, Q, e, hg, hh, hq, hc⟩ := h2 h0
    refine ⟨Q, fun j b hj hb => ⟨(hq j b hj hb).1, fun a ha => ?_, (hq j b hj hb).2.2⟩, fun k hk => ?_⟩
    · rw [e] at ha; cases ha; exact (hq j b hj hb).2.1
    · obtain ⟨A', cap, e0, e1, e2, e3, e4, e8, e9⟩ := hc k hk
      exact ⟨g, A', cap, e, hg, heap_lt hh, (cell_of_blk hh _).trans e0, (cell_of_blk hh _).trans e1, (cell_of_blk hh _).trans e2, (cell_of_blk hh _).trans e3, (cell_of_blk hh _).trans e4, (cell_of_blk hh _).trans e8, e9⟩
  · exact ⟨fun _ _ => False, fun j b hj _ => by omega, fun k hk => by omega⟩
theorem keyOfP_own {d : Nat} {w0 : World} {P : Nat → Prop} {A : Option Addr} {l : List Pt} (h : OPs d w0 P A l) (cap : Nat) (w : World) :
    Calls Try.prog 72 #[.slice A l.length cap] w fun e w' => e = .returned (.agg #[.pointer (kA A l.length), .int .i64 l.length]) ∧ Below w.heap.size w w' := by
  by_cases h0 : 0 < l.length
  · obtain ⟨g, rfl, _, _⟩ := h.addr h0
    rw [kA_pos h0]
    obtain ⟨d', rfl, hl, _⟩ := h.parts
    exact keyOfP_any g l.length cap w hl h0
  · have e : l.length = 0 := by omega
    rw [e]
    exact keyOfP_nil A cap w
end Go.Proofs.Ythdnfnmglhifmaa
