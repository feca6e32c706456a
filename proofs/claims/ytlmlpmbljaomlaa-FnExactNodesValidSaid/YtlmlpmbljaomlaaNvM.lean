/-
  Which lists of nodes are valid. Plain mathematics. No statement is proved here.
-/
import Derived.Test.YtlmlpmbljaomlaaStEq
import Derived.Deep.RegionHeld3
namespace Go.Proofs.Ytlmlpmbljaomlaa
open Go.RowKit Go.Sort
set_option maxRecDepth 100000
set_option linter.unusedVariables false

noncomputable def dcB (p : Prop) : Bool := @decide p (Classical.propDecidable p)
theorem dcB_t {p : Prop} (h : p) : dcB p = true := by unfold dcB; simp [h]
theorem dcB_f {p : Prop} (h : ¬ p) : dcB p = false := by unfold dcB; simp [h]
def OkE (es : List Eg) (k m : Nat) : Prop := ∀ j (h : j < es.length), j < m → 0 ≤ es[j].to ∧ es[j].to < (k : Int)
def OkN (k : Nat) (x : Nd) : Prop := (0 ≤ x.op ∧ x.op ≤ 2) ∧ (-1 ≤ x.els ∧ x.els < (k : Int)) ∧ x.edges.length ≤ 10 ∧ OkE x.edges k x.edges.length
def OkL (l : List Nd) (m : Nat) : Prop := ∀ j (h : j < l.length), j < m → OkN j l[j]
noncomputable def nvB (l : List Nd) : Bool := dcB (1 ≤ l.length ∧ l.length ≤ 300 ∧ OkL l l.length)
theorem OkE.zero (es : List Eg) (k : Nat) : OkE es k 0 := fun j _ h => absurd h (Nat.not_lt_zero _)
theorem OkE.step {es : List Eg} {k m : Nat} (h : OkE es k m) (hm : m < es.length) (e : 0 ≤ es[m].to ∧ es[m].to < (k : Int)) : OkE es k (m + 1) := fun j hj hjm => by
  by_cases e' : j = m
  · subst e'; exact e
  · exact h j hj (by omega)
theorem OkL.zero (l : List Nd) : OkL l 0 := fun j _ h => absurd h (Nat.not_lt_zero _)
theorem OkL.step {l : List Nd} {m : Nat} (h : OkL l m) (hm : m < l.length) (e : OkN m l[m]) : OkL l (m + 1) := fun j hj hjm => by
  by_cases e' : j = m
  · subst e'; exact e
  · exact h j hj (by omega)
theorem nv_yes {l : List Nd} {m : Nat} (h1 : 1 ≤ l.length ∧ l.length ≤ 300) (h : OkL l m) (hm : l.length ≤ m) : nvB l = true := dcB_t ⟨h1.1, h1.2, fun j hj _ => h j hj (by omega)⟩
theorem nv_at {l : List Nd} {m : Nat} (hm : m < l.length) (h : ¬ OkN m l[m]) : nvB l = false := dcB_f (fun hh => h (hh.2.2 m hm hm))
theorem nv_len {l : List Nd} (h : ¬ (1 ≤ l.length ∧ l.length ≤ 300)) : nvB l = false := dcB_f (fun hh => h ⟨hh.1, hh.2.1⟩)
theorem ret_b {a b : Bool} (h : a = b) : Ending.returned (.bool a) = .returned (.bool b) := by rw [h]
end Go.Proofs.Ytlmlpmbljaomlaa
