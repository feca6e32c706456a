/-
  A number looked for in a list; the index that a constructor makes. No statement is proved here.
-/
import Derived.Test.YthebdlejoficmaaDoorCtors3
import Derived.Test.YthebdlejoficmaaDoorMark2
namespace Go.Proofs.YthebdlejoficmaaDoor
open Go.RowKit
set_option maxRecDepth 100000
set_option linter.unusedVariables false

def NotIn (l : List Int) (x : Int) (k : Nat) : Prop := ∀ j (h : j < l.length), j < k → ¬ l[j] = x
theorem NotIn.zero (l : List Int) (x : Int) : NotIn l x 0 := fun j _ h => absurd h (by omega)
theorem NotIn.step {l : List Int} {x : Int} {k : Nat} (h : NotIn l x k) (hk : k < l.length) (e : ¬ l[k] = x) : NotIn l x (k + 1) := by
  intro j hj hjk
  by_cases e' : j = k
  · subst e'; exact e
  · exact h j hj (by omega)
theorem NotIn.all {l : List Int} {x : Int} {k : Nat} (h : NotIn l x k) (hk : l.length ≤ k) : ¬ x ∈ l := fun hx => by
  obtain ⟨j, hj, e⟩ := List.getElem_of_mem hx
  exact h j hj (by omega) e

/-- The index of what a constructor makes for a type of an index. -/
def resI (a ix : Int) : Int := if a = 0 then ix else a
def argOf (c : Ct) (ix : Int) (a : Ty) : Ty := if a.index = -1 then ⟨a.data, resI c.index ix⟩ else a
def argT (c : Ct) (ix : Int) : List Ty := c.args.map (argOf c ix)
theorem argT_len (c : Ct) (ix : Int) : (argT c ix).length = c.args.length := List.length_map _
theorem argT_get (c : Ct) (ix : Int) (k : Nat) (h : k < c.args.length) (h' : k < (argT c ix).length) : (argT c ix)[k] = argOf c ix c.args[k] := by simp [argT]
/-- Types in a row of the call's own, the first k of a list. -/
def OTys (w : World) (lo : Nat) (v : Value) (l : List Ty) (k : Nat) : Prop := ∃ xs, w.ownsRow lo 29 2 v k xs ∧ TyRow l xs k
theorem TyRow.snoc {l : List Ty} {xs : List Value} {k : Nat} (h : TyRow l xs k) (hk : k < l.length) (hx : xs.length = k * 2) : TyRow l (xs ++ [.int .i64 l[k].data, .int .i64 l[k].index]) (k + 1) := by
  intro j hj hjk
  by_cases e : j = k
  · subst e
    constructor
    · rw [List.getElem?_append_right (by omega), hx]; simp
    · rw [List.getElem?_append_right (by omega), hx]; simp
  · obtain ⟨a, b⟩ := h j hj (by omega)
    constructor
    · rw [List.getElem?_append_left (by omega)]; exact a
    · rw [List.getElem?_append_left (by omega)]; exact b
theorem OTys.form {w : World} {lo : Nat} {v : Value} {l : List Ty} (h : OTys w lo v l l.length) (hl : l.length ≤ maxLen) : ∃ A cap, v = .slice A l.length cap ∧ RTys w w.heap.size A l := by
  obtain ⟨xs, ho, hx⟩ := h
  rcases ho.2 with ⟨rfl, h0⟩ | ⟨g, cap, cur, rfl, hb, hg, hnc, hcm, hcs, htake⟩
  · exact ⟨none, 0, by rw [h0], hl, fun k hk => absurd hk (by omega)⟩
  · refine ⟨_, cap, rfl, hl, fun k hk => ⟨g, 0, rfl, own_lt ho, ?_, ?_⟩⟩
    · rw [Nat.zero_add, ho.cellAt (k * 2) (by omega)]; exact (hx k hk hk).1
    · rw [Nat.zero_add, ho.cellAt (k * 2 + 1) (by omega)]; exact (hx k hk hk).2
theorem OTys.lower {w : World} {lo lo' : Nat} {v : Value} {l : List Ty} {k : Nat} (h : OTys w lo v l k) (hl : lo' ≤ lo) : OTys w lo' v l k := by
  obtain ⟨xs, ho, hx⟩ := h
  refine ⟨xs, ⟨ho.1, ?_⟩, hx⟩
  rcases ho.2 with h0 | ⟨g, cap, cur, a1, a2, a3⟩
  · exact .inl h0
  · exact .inr ⟨g, cap, cur, a1, by omega, a3⟩
end Go.Proofs.YthebdlejoficmaaDoor
