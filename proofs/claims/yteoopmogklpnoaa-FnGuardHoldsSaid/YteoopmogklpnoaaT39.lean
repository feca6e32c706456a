/-
  Whether some value matches a pattern: plain mathematics. No statement is proved here.
-/
import Derived.Test.YteoopmogklpnoaaT27
import Derived.Test.YteoopmogklpnoaaT17
import Derived.Test.YteoopmogklpnoaaT33
import Derived.Test.YteoopmogklpnoaaT02
import Derived.Test.YteoopmogklpnoaaT00
import Derived.Test.YteoopmogklpnoaaT05
import Derived.Test.YteoopmogklpnoaaT01
import Derived.Test.YteoopmogklpnoaaT03
import Derived.Test.YteoopmogklpnoaaT24
import Derived.Test.YteoopmogklpnoaaT20
import Derived.Test.YteoopmogklpnoaaT10
import Derived.OwnWalk
import Derived.Deep.RegionHeld3
import Derived.Maps.OwnSet
import Derived.Lib.AppendZerosOnto
import Derived.Laws.AppendOwnNone
import Derived.Outline
import Derived.Laws.CopyOwn
import Derived.StillTailTactics
import Derived.Deep.DeepCutAuto
import Derived.Lib.QuietBelow
namespace Go.Proofs.Yteoopmogklpnoaa
open Go.RowKit
set_option maxRecDepth 100000
set_option linter.unusedVariables false
section
variable {l : List Da} {d : Nat} {t : Ty} {p : Pt}
theorem getD_kid {ks : List Pt} {i : Nat} (h : i < ks.length) : ks.getD i default = ks[i] := by
  rw [List.getD_eq_getElem?_getD, List.getElem?_eq_getElem h]; rfl
/-- The kinds of node that a pattern of the right shape has. -/
theorem own_ops (h : OwnOK l t p) : p.op = 1 ∨ p.op = 2 ∨ p.op = 3 ∨ p.op = 4 ∨ p.op = 5 ∨ p.op = 6 := by
  rcases h.2.2.2.2 with h | h | h | h | h | h
  · exact .inl h
  · exact .inr (.inl h)
  · exact .inr (.inr (.inr (.inr (.inl h))))
  · exact .inr (.inr (.inr (.inr (.inr h))))
  · exact .inr (.inr (.inl h.1))
  · exact .inr (.inr (.inr (.inl h.1)))
/-- A pattern of two alternatives has two parts, for the same type. -/
theorem or_partsP (h : shP l (d + 1) t p = true) (h5 : p.op = 5) : p.kids.length = 2 ∧ (∀ (h0 : 0 < p.kids.length), shP l d t p.kids[0] = true) ∧ (∀ (h1 : 1 < p.kids.length), shP l d t p.kids[1] = true) := by
  obtain ⟨ho, hl, hk⟩ := shP_parts h
  have ht : tysP l t p = [t, t] := by rw [tysP_other (by omega), h5]; rfl
  rw [ht] at hl
  refine ⟨hl, fun h0 => ?_, fun h1 => ?_⟩
  · have := hk 0 (by rw [ht]; simp) h0
    simpa only [ht, List.getElem_cons_zero] using this
  · have := hk 1 (by rw [ht]; simp) h1
    simpa only [ht, List.getElem_cons_succ, List.getElem_cons_zero] using this
theorem as_partsP (h : shP l (d + 1) t p = true) (h6 : p.op = 6) : p.kids.length = 1 ∧ (∀ (h0 : 0 < p.kids.length), shP l d t p.kids[0] = true) := by
  obtain ⟨ho, hl, hk⟩ := shP_parts h
  have ht : tysP l t p = [t] := by rw [tysP_other (by omega), h6]; rfl
  rw [ht] at hl
  refine ⟨hl, fun h0 => ?_⟩
  have := hk 0 (by rw [ht]; simp) h0
  simpa only [ht, List.getElem_cons_zero] using this
theorem ctor_partsP (h : shP l (d + 1) t p = true) (h4 : p.op = 4) : p.ctor ∈ ctR l t ∧ p.kids.length = (agR l t p.ctor).length ∧ ∀ i (h : i < (agR l t p.ctor).length) (h' : i < p.kids.length), shP l d (agR l t p.ctor)[i] p.kids[i] = true := by
  obtain ⟨ho, hl, hk⟩ := shP_parts h
  have ht := tysP_ctor (l := l) (t := t) h4
  refine ⟨ho.mem h4, by rw [← ht]; exact hl, fun i hi hi' => ?_⟩
  have := hk i (by rw [ht]; exact hi) hi'
  simpa only [ht] using this
end
end Go.Proofs.Yteoopmogklpnoaa
/-
  Lists of what variables stand for: how they lie in memory, and what they hold. No statement is proved here.
-/
namespace Go.Proofs.Yteoopmogklpnoaa
open Go.RowKit Go.Sort
set_option maxRecDepth 100000
set_option linter.unusedVariables false
structure Bn where
  var : Int
  val : Vl
instance : Inhabited Bn := ⟨⟨0, default⟩⟩
def RBn (d : Nat) (w : World) (B b o : Nat) (x : Bn) : Prop := ∃ A' cap, w.cell? ⟨b, o, none⟩ = some (.int .i64 x.var) ∧ w.cell? ⟨b, o + 1, none⟩ = some (.int .i64 x.val.ctor) ∧ w.cell? ⟨b, o + 2, none⟩ = some (.int .i64 x.val.n) ∧ w.cell? ⟨b, o + 3, none⟩ = some (.slice A' x.val.kids.length cap) ∧ RVs d w B A' x.val.kids
def RBs (d : Nat) (w : World) (B : Nat) (A : Option Addr) (l : List Bn) : Prop := l.length ≤ maxLen ∧ ∀ k (h : k < l.length), ∃ b off, A = some ⟨b, off, none⟩ ∧ b < B ∧ RBn d w B b (off + k * 4) l[k]
section
variable {w w' : World} {B B' d : Nat} {A : Option Addr} {l : List Bn}
theorem RBs.keep (h : RBs d w B A l) (hk : ∀ p : Addr, p.block < B → w'.cell? p = w.cell? p) (hB : B ≤ B') : RBs d w' B' A l :=
  ⟨h.1, fun k hk' => by
    obtain ⟨b, off, e, hb, A', cap, h0, h1, h2, h3, hv⟩ := h.2 k hk'
    exact ⟨b, off, e, by omega, A', cap, (hk _ hb).trans h0, (hk _ hb).trans h1, (hk _ hb).trans h2, (hk _ hb).trans h3, hv.keep hk hB⟩⟩
theorem RBs.below {B0 : Nat} (h : RBs d w B A l) (hb : Below B0 w w') (hB : B ≤ B0) : RBs d w' B A l := h.keep (fun _ hp => hb.cell (Nat.lt_of_lt_of_le hp hB)) (Nat.le_refl _)
theorem RBs.at_ (h : RBs d w w.heap.size A l) (hb : Below w.heap.size w w') : RBs d w' w'.heap.size A l := h.keep (fun _ hp => hb.cell hp) hb.size
theorem RBs.nil : RBs d w B A [] := ⟨Nat.zero_le _, fun k h => absurd h (Nat.not_lt_zero _)⟩
end
end Go.Proofs.Yteoopmogklpnoaa
/-
  What the variables of a pattern stand for: plain mathematics. No statement is proved here.
-/
namespace Go.Proofs.Yteoopmogklpnoaa
open Go.RowKit Go.Sort Go.Deep
set_option maxRecDepth 100000
set_option linter.unusedVariables false
/-- Lists one behind the other, if there are all. -/
def catO (f : Nat → Option (List Bn)) : Nat → Option (List Bn)
  | 0 => some []
  | k + 1 => match catO f k with
    | none => none
    | some l => (f k).map (l ++ ·)
theorem catO_some {f : Nat → Option (List Bn)} {k : Nat} {l m : List Bn} (h : catO f k = some l) (h' : f k = some m) : catO f (k + 1) = some (l ++ m) := by
  show (match catO f k with | none => none | some l => (f k).map (l ++ ·)) = _
  rw [h, h']; rfl
theorem catO_up {f : Nat → Option (List Bn)} {k : Nat} (e : Nat) (h : catO f k = none) : catO f (k + e) = none := by
  induction e with
  | zero => exact h
  | succ e ih =>
    show (match catO f (k + e) with | none => none | some l => (f (k + e)).map (l ++ ·)) = _
    rw [ih]
theorem catO_none {f : Nat → Option (List Bn)} {k n : Nat} (hk : k < n) (h : f k = none) : catO f n = none := by
  have h1 : catO f (k + 1) = none := by
    show (match catO f k with | none => none | some l => (f k).map (l ++ ·)) = _
    rw [h]; cases catO f k <;> rfl
  have := catO_up (n - (k + 1)) h1
  rwa [show k + 1 + (n - (k + 1)) = n by omega] at this
theorem wP_kid1 (v : Pt) (k : Nat) (h : k < v.kids.length) : 1 + wP v.kids[k] ≤ wP v := by
  have h1 := upKP_le v (k + 1) h
  rw [upKP_succ _ _ h] at h1
  have h2 : 1 ≤ upKP v.kids k := by unfold upKP; omega
  omega
section
variable {d : Nat} {p : Pt} {v : Vl} {ps : List Pt} {vs : List Vl}
theorem getD_vl {i : Nat} (h : i < vs.length) : vs.getD i default = vs[i] := by
  rw [List.getD_eq_getElem?_getD, List.getElem?_eq_getElem h]; rfl
end
/-- A value that fits has parts for all parts of a pattern with its constructor. -/
theorem fit_kids {l : List Da} {n : Nat} {t : Ty} {p : Pt} {v : Vl} (hm : p.ctor ∈ ctR l t) (hc : p.ctor = v.ctor) (hf : fitV l n t v = true) : ∃ n', n = n' + 1 ∧ v.kids.length = (agR l t p.ctor).length ∧ ∀ i (h : i < (agR l t p.ctor).length) (h' : i < v.kids.length), fitV l n' (agR l t p.ctor)[i] v.kids[i] = true := by
  cases n with
  | zero => rw [fit_zero] at hf; cases hf
  | succ n =>
    obtain ⟨_, d0, m0, hd0, he0, _, _⟩ := mem_ctR hm
    have h1 : ¬ t.data = -1 := by omega
    have hvm : v.ctor ∈ ctR l t := hc ▸ hm
    have hn : v.n = 0 := by
      by_cases e : v.n = 0
      · exact e
      · rw [fit_n h1 e] at hf; cases hf
    have hl : v.kids.length = (agR l t v.ctor).length := by
      by_cases e : v.kids.length = (agR l t v.ctor).length
      · exact e
      · rw [fit_len h1 e] at hf; cases hf
    rw [fit_go h1 hn hvm hl] at hf
    rw [hc]
    exact ⟨n, rfl, hl, fun i hi hi' => by rw [← kidV_at hi hi']; exact upto_get hf hi⟩
end Go.Proofs.Yteoopmogklpnoaa
/-
  Rows of what variables stand for, where the values lie in memory that was there before. No statement is proved here.
-/
namespace Go.Proofs.Yteoopmogklpnoaa
open Go.RowKit
set_option maxRecDepth 100000
set_option linter.unusedVariables false
theorem infoBn : (Try.prog.info? 69).map (fun i => (i.zero, i.size, i.bytes)) = some (some (.agg #[.int .i64 0, .int .i64 0, .int .i64 0, .slice none 0 0]), 4, 48) := by kernel_rfl
def RBr (d : Nat) (w : World) (B : Nat) (L : List Bn) (xs : List Value) : Prop := ∀ j (h : j < L.length), ∃ A' cap, xs[j * 4]? = some (.int .i64 L[j].var) ∧ xs[j * 4 + 1]? = some (.int .i64 L[j].val.ctor) ∧ xs[j * 4 + 2]? = some (.int .i64 L[j].val.n) ∧ xs[j * 4 + 3]? = some (.slice A' L[j].val.kids.length cap) ∧ RVs d w B A' L[j].val.kids
theorem RBr.keep {d : Nat} {w w' : World} {B : Nat} {L : List Bn} {xs : List Value} (h : RBr d w B L xs) (hk : ∀ p : Addr, p.block < B → w'.cell? p = w.cell? p) : RBr d w' B L xs := fun j hj => by
  obtain ⟨A', cap, e0, e1, e2, e3, hv⟩ := h j hj
  exact ⟨A', cap, e0, e1, e2, e3, hv.keep hk (Nat.le_refl _)⟩
theorem RBr.more {d d' : Nat} {w : World} {B : Nat} {L : List Bn} {xs : List Value} (h : RBr d w B L xs) (hd : d ≤ d') : RBr d' w B L xs := fun j hj => by
  obtain ⟨A', cap, e0, e1, e2, e3, hv⟩ := h j hj
  exact ⟨A', cap, e0, e1, e2, e3, hv.more hd⟩
theorem RBr.nil {d : Nat} {w : World} {B : Nat} {xs : List Value} : RBr d w B [] xs := fun j h => absurd h (Nat.not_lt_zero _)
theorem RBr.single {d : Nat} {w : World} {B : Nat} {A : Option Addr} {cap : Nat} (x : Int) (v : Vl) (h : RVs d w B A v.kids) : RBr d w B [⟨x, v⟩] [.int .i64 x, .int .i64 v.ctor, .int .i64 v.n, .slice A v.kids.length cap] := fun j hj => by
  have e : j = 0 := by simp at hj; omega
  subst e
  exact ⟨A, cap, rfl, rfl, rfl, rfl, h⟩
theorem RBr.cat {d : Nat} {w : World} {B : Nat} {L L' : List Bn} {xs ys : List Value} (h : RBr d w B L xs) (hx : xs.length = L.length * 4) (h' : RBr d w B L' ys) : RBr d w B (L ++ L') (xs ++ ys) := by
  intro j hj
  by_cases e : j < L.length
  · obtain ⟨A', cap, a, b, c, f, hv⟩ := h j e
    rw [List.getElem_append_left e]
    exact ⟨A', cap, by rw [List.getElem?_append_left (by omega)]; exact a, by rw [List.getElem?_append_left (by omega)]; exact b, by rw [List.getElem?_append_left (by omega)]; exact c, by rw [List.getElem?_append_left (by omega)]; exact f, hv⟩
  · have hj' : j - L.length < L'.length := by simp at hj; omega
    obtain ⟨A', cap, a, b, c, f, hv⟩ := h' (j - L.length) hj'
    rw [List.getElem_append_right (by omega)]
    refine ⟨A', cap, ?_, ?_, ?_, ?_, hv⟩
    · rw [List.getElem?_append_right (by omega), hx, show j * 4 - L.length * 4 = (j - L.length) * 4 by omega]; exact a
    · rw [List.getElem?_append_right (by omega), hx, show j * 4 + 1 - L.length * 4 = (j - L.length) * 4 + 1 by omega]; exact b
    · rw [List.getElem?_append_right (by omega), hx, show j * 4 + 2 - L.length * 4 = (j - L.length) * 4 + 2 by omega]; exact c
    · rw [List.getElem?_append_right (by omega), hx, show j * 4 + 3 - L.length * 4 = (j - L.length) * 4 + 3 by omega]; exact f
theorem RBr.one {d : Nat} {w : World} {B : Nat} {L : List Bn} {xs : List Value} (h : RBr d w B L xs) (hx : xs.length = L.length * 4) : ∀ u ∈ xs, u.oneCell' = true := by
  intro u hu
  obtain ⟨i, hi, rfl⟩ := List.mem_iff_getElem.1 hu
  have hj : i / 4 < L.length := by omega
  obtain ⟨A', cap, h0, h1, h2, h3, _⟩ := h (i / 4) hj
  have hr : i % 4 = 0 ∨ i % 4 = 1 ∨ i % 4 = 2 ∨ i % 4 = 3 := by omega
  rcases hr with hr | hr | hr | hr
  · rw [show i / 4 * 4 = i by omega, List.getElem?_eq_getElem hi] at h0
    injection h0 with h0; rw [h0]; rfl
  · rw [show i / 4 * 4 + 1 = i by omega, List.getElem?_eq_getElem hi] at h1
    injection h1 with h1; rw [h1]; rfl
  · rw [show i / 4 * 4 + 2 = i by omega, List.getElem?_eq_getElem hi] at h2
    injection h2 with h2; rw [h2]; rfl
  · rw [show i / 4 * 4 + 3 = i by omega, List.getElem?_eq_getElem hi] at h3
    injection h3 with h3; rw [h3]; rfl
/-- A list in a row of the call's own, from lo on; its values lie below B. -/
def OBr (d : Nat) (w : World) (lo B : Nat) (u : Value) (L : List Bn) : Prop := ∃ xs, w.ownsRow lo 69 4 u L.length xs ∧ RBr d w B L xs
theorem OBr.nil (d : Nat) (w : World) (lo B : Nat) : OBr d w lo B (.slice none 0 0) [] := ⟨[], World.ownsRow_nil _ _ _ _, RBr.nil⟩
theorem OBr.lt {d : Nat} {w : World} {lo B : Nat} {u : Value} {L : List Bn} (h : OBr d w lo B u L) : ∀ g, u.ownBlock = some g → lo ≤ g ∧ g < w.heap.size := by
  obtain ⟨xs, ho, _⟩ := h; exact ho.lt
theorem OBr.at_ {d : Nat} {w w' : World} {lo B : Nat} {u : Value} {L : List Bn} (h : OBr d w lo B u L) (hb : Below w.heap.size w w') (hB : B ≤ w.heap.size) : OBr d w' lo B u L := by
  obtain ⟨xs, ho, hx⟩ := h
  exact ⟨xs, own_at ho (fun b e => hb.block b (ho.lt b e).2), hx.keep (fun p hp => hb.cell (Nat.lt_of_lt_of_le hp hB))⟩
theorem OBr.more {d d' : Nat} {w : World} {lo B : Nat} {u : Value} {L : List Bn} (h : OBr d w lo B u L) (hd : d ≤ d') : OBr d' w lo B u L := by
  obtain ⟨xs, ho, hx⟩ := h; exact ⟨xs, ho, hx.more hd⟩
theorem OBr.lower {d : Nat} {w : World} {lo lo' B : Nat} {u : Value} {L : List Bn} (h : OBr d w lo B u L) (hl : lo' ≤ lo) : OBr d w lo' B u L := by
  obtain ⟨xs, ho, hx⟩ := h
  refine ⟨xs, ⟨ho.1, ?_⟩, hx⟩
  rcases ho.2 with h0 | ⟨g, cap, cur, e, hb, hg⟩
  · exact .inl h0
  · exact .inr ⟨g, cap, cur, e, by omega, hg⟩
theorem OBr.is {d : Nat} {w : World} {lo B : Nat} {u : Value} {L : List Bn} (h : OBr d w lo B u L) : (u = .slice none 0 0 ∧ L = []) ∨ ∃ g cap xs, u = .slice (some ⟨g, 0, none⟩) L.length cap ∧ lo ≤ g ∧ g < w.heap.size ∧ xs.length = L.length * 4 ∧ RBr d w B L xs ∧ ∀ j u', xs[j]? = some u' → w.cell? ((⟨g, 0, none⟩ : Addr).add j) = some u' := by
  obtain ⟨xs, ho, hx⟩ := h
  have hc := fun g (hg : u.ownBlock = some g) => ho.cells hg
  have hlen := ho.1
  rcases ho.2 with ⟨rfl, h0⟩ | ⟨g, cap, cur, rfl, hb, hg, _⟩
  · exact .inl ⟨rfl, List.eq_nil_of_length_eq_zero h0⟩
  · exact .inr ⟨g, cap, xs, rfl, hb, heap_lt hg, hlen, hx, hc g rfl⟩
end Go.Proofs.Yteoopmogklpnoaa
/-
  A map from integers to bools that the call itself has made, as a set. No variable stands twice: the program's function. No statement is proved here.
-/
namespace Go.Proofs.Yteoopmogklpnoaa
open Go.RowKit Go.Maps
set_option maxRecDepth 100000
set_option linter.unusedVariables false
theorem RVts.below {w w' : World} {B B0 : Nat} {A : Option Addr} {l : List Vt} (h : RVts w B A l) (hb : Below B0 w w') (hB : B ≤ B0) : RVts w' B A l := h.keep (fun _ hp => hb.cell (Nat.lt_of_lt_of_le hp hB)) (Nat.le_refl _)
end Go.Proofs.Yteoopmogklpnoaa
/-
  Rows of lists of variables; the library's Grow and Concat at them. No statement is proved here.
-/
namespace Go.Proofs.Yteoopmogklpnoaa
open Go.RowKit Go.Sort Go.Deep
set_option maxRecDepth 100000
set_option linter.unusedVariables false
theorem VtRow.one {L : List Vt} {xs : List Value} (h : VtRow L xs) (hx : xs.length = L.length * 3) : ∀ u ∈ xs, u.oneCell' = true := by
  intro u hu
  obtain ⟨i, hi, rfl⟩ := List.mem_iff_getElem.1 hu
  have hj : i / 3 < L.length := by omega
  obtain ⟨h0, h1, h2⟩ := h (i / 3) hj
  have hr : i % 3 = 0 ∨ i % 3 = 1 ∨ i % 3 = 2 := by omega
  rcases hr with hr | hr | hr
  · rw [show i / 3 * 3 = i by omega, List.getElem?_eq_getElem hi] at h0
    injection h0 with h0; rw [h0]; rfl
  · rw [show i / 3 * 3 + 1 = i by omega, List.getElem?_eq_getElem hi] at h1
    injection h1 with h1; rw [h1]; rfl
  · rw [show i / 3 * 3 + 1 + 1 = i by omega, List.getElem?_eq_getElem hi] at h2
    injection h2 with h2; rw [h2]; rfl
theorem VtRow.cat {L L' : List Vt} {xs ys : List Value} (h : VtRow L xs) (hx : xs.length = L.length * 3) (h' : VtRow L' ys) : VtRow (L ++ L') (xs ++ ys) := by
  intro j hj
  by_cases e : j < L.length
  · obtain ⟨a, b, c⟩ := h j e
    rw [List.getElem_append_left e]
    refine ⟨?_, ?_, ?_⟩
    · rw [List.getElem?_append_left (by omega)]; exact a
    · rw [List.getElem?_append_left (by omega)]; exact b
    · rw [List.getElem?_append_left (by omega)]; exact c
  · have hj' : j - L.length < L'.length := by simp at hj; omega
    obtain ⟨a, b, c⟩ := h' (j - L.length) hj'
    rw [List.getElem_append_right (by omega)]
    refine ⟨?_, ?_, ?_⟩
    · rw [List.getElem?_append_right (by omega), hx, show j * 3 - L.length * 3 = (j - L.length) * 3 by omega]; exact a
    · rw [List.getElem?_append_right (by omega), hx, show j * 3 + 1 - L.length * 3 = (j - L.length) * 3 + 1 by omega]; exact b
    · rw [List.getElem?_append_right (by omega), hx, show j * 3 + 1 + 1 - L.length * 3 = (j - L.length) * 3 + 1 + 1 by omega]; exact c
/-- A list of variables that is nil, or at the head of a block. -/
theorem OVt.is {w : World} {lo : Nat} {v : Value} {L : List Vt} (h : OVt w lo v L) : (v = .slice none 0 0 ∧ L = []) ∨ ∃ g cap xs, v = .slice (some ⟨g, 0, none⟩) L.length cap ∧ lo ≤ g ∧ g < w.heap.size ∧ xs.length = L.length * 3 ∧ VtRow L xs ∧ ∀ j u, xs[j]? = some u → w.cell? ((⟨g, 0, none⟩ : Addr).add j) = some u := by
  obtain ⟨xs, ho, hx⟩ := h
  have hc := fun g (hg : v.ownBlock = some g) => ho.cells hg
  have hlen := ho.1
  rcases ho.2 with ⟨rfl, h0⟩ | ⟨g, cap, cur, rfl, hb, hg, _⟩
  · exact .inl ⟨rfl, List.eq_nil_of_length_eq_zero h0⟩
  · exact .inr ⟨g, cap, xs, rfl, hb, heap_lt hg, hlen, hx, hc g rfl⟩
theorem OVt.lower {w : World} {lo lo' : Nat} {v : Value} {L : List Vt} (h : OVt w lo v L) (hl : lo' ≤ lo) : OVt w lo' v L := by
  obtain ⟨xs, ho, hx⟩ := h
  refine ⟨xs, ⟨ho.1, ?_⟩, hx⟩
  rcases ho.2 with h0 | ⟨g, cap, cur, e, hb, hg⟩
  · exact .inl h0
  · exact .inr ⟨g, cap, cur, e, by omega, hg⟩
end Go.Proofs.Yteoopmogklpnoaa
/-
  The program's walk over a pattern: what holds at every round. No statement is proved here.
-/
namespace Go.Proofs.Yteoopmogklpnoaa
open Go.RowKit Go.Sort Go.Deep
set_option maxRecDepth 100000
set_option linter.unusedVariables false
theorem OVt.one {w : World} {lo : Nat} {v : Value} {L : List Vt} (h : OVt w lo v L) : v.oneCell' = true := by
  obtain ⟨xs, ho, _⟩ := h
  rcases ho.2 with ⟨rfl, _⟩ | ⟨g, cap, cur, rfl, _⟩ <;> rfl
theorem OVt.lit (w : World) (lo : Nat) (x : Vt) (h : lo ≤ w.heap.size) : OVt (w.alloc (.cells #[.int .i64 x.var, .int .i64 x.ty.data, .int .i64 x.ty.index] 56)) lo (.slice (some ⟨w.heap.size, 0, none⟩) 1 1) [x] := by
  refine ⟨[.int .i64 x.var, .int .i64 x.ty.data, .int .i64 x.ty.index], ?_, fun j hj => ?_⟩
  · exact World.ownsRow_lit w #[.int .i64 x.var, .int .i64 x.ty.data, .int .i64 x.ty.index] 1 h (by unfold maxLen; omega) rfl
  · match j, hj with
    | 0, _ => exact ⟨rfl, rfl, rfl⟩
end Go.Proofs.Yteoopmogklpnoaa
/-
  What the variables of a pattern stand for: the program's functions. No statement is proved here.
-/
namespace Go.Proofs.Yteoopmogklpnoaa
open Go.RowKit Go.Sort Go.Deep
set_option maxRecDepth 100000
set_option linter.unusedVariables false
theorem cell_four_new (w : World) (x y z u : Value) (t : TypeId) : ∀ j q, [x, y, z, u][j]? = some q → (w.alloc (.cells #[x, y, z, u] t)).cell? ((⟨w.heap.size, 0, none⟩ : Addr).add j) = some q := by
  intro j q hj
  match j, hj with
  | 0, hj => simp at hj; subst hj; simp [Addr.add, go_sem]
  | 1, hj => simp at hj; subst hj; simp [Addr.add, go_sem]
  | 2, hj => simp at hj; subst hj; simp [Addr.add, go_sem]
  | 3, hj => simp at hj; subst hj; simp [Addr.add, go_sem]
end Go.Proofs.Yteoopmogklpnoaa
