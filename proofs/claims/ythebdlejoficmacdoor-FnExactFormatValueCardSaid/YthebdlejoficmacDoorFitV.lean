/-
  When a tree is a value of a type: plain mathematics. No statement is proved here.
-/
import Derived.Test.YthebdlejoficmacDoorVal
import Derived.Test.YthebdlejoficmacDoorArgs4
import Derived.Test.YthebdlejoficmacDoorTable2
namespace Go.Proofs.YthebdlejoficmacDoor
open Go.RowKit
set_option maxRecDepth 100000
set_option linter.unusedVariables false

theorem agR_ok {l : List Da} {t : Ty} {x : Int} (h : x ∈ ctR l t) : ∀ a ∈ agR l t x, TyOK l a := by
  obtain ⟨ht, d, m, hd, h1, rfl, hm⟩ := mem_ctR h
  obtain ⟨td, ti⟩ := t
  simp only at h1
  subst h1
  rw [agR_yes h hd hm]
  intro a ha
  refine ⟨ht.1, ?_⟩
  obtain ⟨hi, hargs⟩ := ctor_parts (world_ctor ht.1 hd hm)
  have hti : 0 ≤ ti ∧ ti ≤ 3 := by
    have h2 := ht.2
    rw [argB_data (by simp only; omega)] at h2
    have := of_decide_eq_true h2
    simp only at this
    omega
  unfold argT at ha
  obtain ⟨b, hb, rfl⟩ := List.mem_map.1 ha
  have hB := hargs b hb
  by_cases hb1 : b.data = -1
  · rw [argB_int hb1] at hB
    have h0 : b.index = 0 := of_decide_eq_true hB
    rw [argOf_other (by omega), argB_int hb1]
    exact decide_eq_true h0
  · rw [argB_data hb1] at hB
    have hp := of_decide_eq_true hB
    by_cases hs : b.index = -1
    · rw [argOf_same hs]
      have h5 : ¬ (Ty.mk b.data (resI l[d].ctors[m].index ti)).data = -1 := hb1
      rw [argB_data h5]
      refine decide_eq_true ?_
      unfold resI
      simp only
      split <;> omega
    · rw [argOf_other hs, argB_data hb1]
      exact decide_eq_true (by omega)

def upto (f : Nat → Bool) : Nat → Bool
  | 0 => true
  | k + 1 => upto f k && f k
theorem upto_le {f : Nat → Bool} {k : Nat} (e : Nat) (h : upto f k = false) : upto f (k + e) = false := by
  induction e with
  | zero => exact h
  | succ e ih => show (upto f (k + e) && f (k + e)) = false; rw [ih]; rfl
theorem upto_f {f : Nat → Bool} {n k : Nat} (hk : k < n) (h : f k = false) : upto f n = false := by
  have := upto_le (f := f) (k := k + 1) (n - (k + 1)) (by show (upto f k && f k) = false; rw [h]; simp)
  rwa [show k + 1 + (n - (k + 1)) = n by omega] at this
theorem upto_t {f : Nat → Bool} {k : Nat} (h : upto f k = true) (h' : f k = true) : upto f (k + 1) = true := by
  show (upto f k && f k) = true; rw [h, h']; rfl
theorem upto_get {f : Nat → Bool} {n k : Nat} (h : upto f n = true) (hk : k < n) : f k = true := by
  by_cases e : f k = true
  · exact e
  · have := upto_f hk (by simpa using e); rw [h] at this; cases this

noncomputable def fitV (l : List Da) : Nat → Ty → Vl → Bool
  | 0, _, _ => false
  | d + 1, t, v => if t.data = -1 then decide (v.ctor = -1) && (decide (0 ≤ v.n) && (decide (v.n ≤ 9) && decide (v.kids.length = 0)))
      else decide (v.n = 0) && (dec (v.ctor ∈ ctR l t) && (decide (v.kids.length = (agR l t v.ctor).length) && upto (fun i => fitV l d ((agR l t v.ctor).getD i default) (v.kids.getD i default)) (agR l t v.ctor).length))
/-- Which of the parts fit. -/
noncomputable def kidV (l : List Da) (d : Nat) (ats : List Ty) (ks : List Vl) (i : Nat) : Bool := fitV l d (ats.getD i default) (ks.getD i default)
section
variable {l : List Da} {d : Nat} {t : Ty} {v : Vl}
theorem fit_zero : fitV l 0 t v = false := rfl
theorem fit_int (h : t.data = -1) : fitV l (d + 1) t v = (decide (v.ctor = -1) && (decide (0 ≤ v.n) && (decide (v.n ≤ 9) && decide (v.kids.length = 0)))) := if_pos h
theorem fit_n (h : ¬ t.data = -1) (hn : ¬ v.n = 0) : fitV l (d + 1) t v = false := by
  show (if t.data = -1 then _ else _) = _
  rw [if_neg h, decide_eq_false hn]; rfl
theorem fit_ctor (h : ¬ t.data = -1) (hc : ¬ v.ctor ∈ ctR l t) : fitV l (d + 1) t v = false := by
  show (if t.data = -1 then _ else _) = _
  rw [if_neg h, dec_f hc]; simp
theorem fit_len (h : ¬ t.data = -1) (hc : ¬ v.kids.length = (agR l t v.ctor).length) : fitV l (d + 1) t v = false := by
  show (if t.data = -1 then _ else _) = _
  rw [if_neg h, decide_eq_false hc]; simp
theorem fit_go (h : ¬ t.data = -1) (hn : v.n = 0) (hc : v.ctor ∈ ctR l t) (hl : v.kids.length = (agR l t v.ctor).length) : fitV l (d + 1) t v = upto (kidV l d (agR l t v.ctor) v.kids) (agR l t v.ctor).length := by
  show (if t.data = -1 then _ else _) = _
  rw [if_neg h, decide_eq_true hn, dec_t hc, decide_eq_true hl]; rfl
theorem kidV_at {ats : List Ty} {ks : List Vl} {i : Nat} (h : i < ats.length) (h' : i < ks.length) : kidV l d ats ks i = fitV l d ats[i] ks[i] := by
  unfold kidV
  rw [List.getD_eq_getElem?_getD, List.getD_eq_getElem?_getD, List.getElem?_eq_getElem h, List.getElem?_eq_getElem h']; rfl
end
end Go.Proofs.YthebdlejoficmacDoor
