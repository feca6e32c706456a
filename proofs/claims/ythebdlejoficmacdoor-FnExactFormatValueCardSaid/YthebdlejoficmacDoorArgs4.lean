/-
  The types of the arguments of a constructor: both functions, whole; types that are marked and looked at again. No statement is proved here.
-/
import Derived.Test.YthebdlejoficmacDoorArgs3
namespace Go.Proofs.YthebdlejoficmacDoor
open Go.RowKit
set_option maxRecDepth 100000
set_option linter.unusedVariables false

theorem mem_ctL {cs : List Ct} {i x : Int} : ∀ n, x ∈ ctL cs i n → ∃ m : Nat, m < n ∧ x = m
  | n + 1, h => by
    have h' : x ∈ ctL cs i n ++ (if fitsB (cs.getD n default).index i then [(n : Int)] else []) := h
    rcases List.mem_append.1 h' with h1 | h1
    · obtain ⟨m, hm, e⟩ := mem_ctL n h1
      exact ⟨m, by omega, e⟩
    · split at h1
      · exact ⟨n, by omega, by simpa using h1⟩
      · simp at h1
theorem mem_ctR {l : List Da} {t : Ty} {x : Int} (h : x ∈ ctR l t) : TyOK l t ∧ ∃ (d m : Nat) (hd : d < l.length), t.data = d ∧ x = m ∧ m < l[d].ctors.length := by
  by_cases ht : TyOK l t
  · refine ⟨ht, ?_⟩
    rcases ty_cases ht with h1 | ⟨d, h1, hd⟩
    · rw [ctR_int h1] at h; simp at h
    · obtain ⟨td, ti⟩ := t
      simp only at h1
      subst h1
      rw [ctR_data ht hd] at h
      obtain ⟨m, hm, e⟩ := mem_ctL _ h
      exact ⟨d, m, hd, rfl, e, hm⟩
  · rw [ctR_no ht] at h; simp at h
theorem args_three {l : List Da} (h : WorldOK l) {d m : Nat} (hd : d < l.length) (hm : m < l[d].ctors.length) : l[d].ctors[m].args.length ≤ 3 := by
  have h1 := h.2.1 d hd hd
  by_cases h3 : l[d].ctors[m].args.length ≤ 3
  · exact h3
  · have h2 := (data_bad (n := l.length) (all_bad hm (ctor_args (n := l.length) h3).symm)).symm
    rw [h1] at h2; cases h2

/-- The types of the arguments of a constructor for a type. -/
noncomputable def agR (l : List Da) (t : Ty) (x : Int) : List Ty := if dec (x ∈ ctR l t) then argT ((l.getD t.data.toNat default).ctors.getD x.toNat default) t.index else []
theorem agR_no {l : List Da} {t : Ty} {x : Int} (h : ¬ x ∈ ctR l t) : agR l t x = [] := by unfold agR; rw [dec_f h]; rfl
theorem agR_yes {l : List Da} {d m : Nat} {i : Int} (h : (m : Int) ∈ ctR l ⟨d, i⟩) (hd : d < l.length) (hm : m < l[d].ctors.length) : agR l ⟨d, i⟩ m = argT l[d].ctors[m] i := by
  have e : l.getD d default = l[d] := by simp [List.getD, List.getElem?_eq_getElem hd]
  have e2 : l[d].ctors.getD m default = l[d].ctors[m] := by simp [List.getD, List.getElem?_eq_getElem hm]
  unfold agR
  rw [dec_t h]
  simp only [if_true, Int.toNat_natCast, e, e2]
theorem agR_len (l : List Da) (t : Ty) (x : Int) : (agR l t x).length ≤ 3 := by
  by_cases h : x ∈ ctR l t
  · obtain ⟨ht, d, m, hd, h1, rfl, hm⟩ := mem_ctR h
    obtain ⟨td, ti⟩ := t
    simp only at h1
    subst h1
    rw [agR_yes h hd hm, argT_len]
    exact args_three ht.1 hd hm
  · rw [agR_no h]; simp

theorem l1Args_all (A : Option Addr) (l : List Da) (cap : Nat) (t : Ty) (x : Int) (w : World) (hr : RDas w w.heap.size A l) (h : x ∈ ctR l t) :
    Calls Tryd.prog 27 #[.slice A l.length cap, .agg #[.int .i64 t.data, .int .i64 t.index], .int .i64 x] w fun e w' => ∃ v, e = .returned v ∧ OTys w' w.heap.size v (agR l t x) (agR l t x).length ∧ Below w.heap.size w w' := by
  obtain ⟨ht, d, m, hd, h1, rfl, hm⟩ := mem_ctR h
  obtain ⟨td, ti⟩ := t
  simp only at h1
  subst h1
  rw [agR_yes h hd hm]
  exact l1Args_data A l cap d m ti hd hm (args_three ht.1 hd hm) w hr
theorem argTypes_all (A : Option Addr) (l : List Da) (cap : Nat) (t : Ty) (x : Int) (w : World) (hr : RDas w w.heap.size A l) (h : x ∈ ctR l t) :
    Calls Tryd.prog 32 #[.slice A l.length cap, .agg #[.int .i64 t.data, .int .i64 t.index], .int .i64 x] w fun e w' => ∃ v, e = .returned v ∧ OTys w' w.heap.size v (agR l t x) (agR l t x).length ∧ Below w.heap.size w w' := by
  obtain ⟨ht, d, m, hd, h1, rfl, hm⟩ := mem_ctR h
  obtain ⟨td, ti⟩ := t
  simp only at h1
  subst h1
  rw [agR_yes h hd hm]
  exact argTypes_data A l cap d m ti hd hm (args_three ht.1 hd hm) w hr

/-- A row of types whose first cells are marked. -/
def MarkedT (w : World) (lo : Nat) (v : Value) (n : Nat) (k : Int) (j : Nat) : Prop := ∃ xs, w.ownsRow lo 33 2 v n xs ∧ ∀ i, i < j * 2 → xs[i]? = some (.int .i64 (k + i))
/-- The marks lie there. -/
def RMkT (w : World) (A : Option Addr) (n : Nat) (k : Int) : Prop := ∀ j, j < n → ∃ b off, A = some ⟨b, off, none⟩ ∧ b < w.heap.size ∧ w.cell? ⟨b, off + j * 2, none⟩ = some (.int .i64 (k + 2 * j)) ∧ w.cell? ⟨b, off + j * 2 + 1, none⟩ = some (.int .i64 (k + 2 * j + 1))
theorem RMkT.at_ {w w' : World} {A : Option Addr} {n : Nat} {k : Int} (h : RMkT w A n k) (hb : Below w.heap.size w w') : RMkT w' A n k := fun j hj => by
  obtain ⟨b, off, e, hbl, h1, h2⟩ := h j hj
  exact ⟨b, off, e, Nat.lt_of_lt_of_le hbl hb.size, (hb.cell (p := ⟨b, off + j * 2, none⟩) hbl).trans h1, (hb.cell (p := ⟨b, off + j * 2 + 1, none⟩) hbl).trans h2⟩
theorem MarkedT.reads {w : World} {lo g n cap : Nat} {k : Int} (h : MarkedT w lo (.slice (some ⟨g, 0, none⟩) n cap) n k n) : RMkT w (some ⟨g, 0, none⟩) n k := fun j hj => by
  obtain ⟨xs, ho, hx⟩ := h
  refine ⟨g, 0, rfl, own_lt ho, ?_, ?_⟩
  · rw [Nat.zero_add, ho.cellAt (j * 2) (by omega), hx (j * 2) (by omega)]; congr 2; push_cast; omega
  · rw [Nat.zero_add, ho.cellAt (j * 2 + 1) (by omega), hx (j * 2 + 1) (by omega)]; congr 2; push_cast; omega

end Go.Proofs.YthebdlejoficmacDoor
