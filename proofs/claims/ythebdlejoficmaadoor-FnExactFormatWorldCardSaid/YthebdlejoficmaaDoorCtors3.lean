/-
  The constructors that can make values of a type: both functions, whole. No statement is proved here.
-/
import Derived.Test.YthebdlejoficmaaDoorCtors2
import Derived.Outline
namespace Go.Proofs.YthebdlejoficmaaDoor
open Go.RowKit
set_option maxRecDepth 100000
set_option linter.unusedVariables false

/-- The places of the constructors of a type. -/
noncomputable def ctR (l : List Da) (t : Ty) : List Int := if dec (TyOK l t) then (if t.data = -1 then [] else ctL (l.getD t.data.toNat default).ctors t.index (l.getD t.data.toNat default).ctors.length) else []
theorem ctR_no {l : List Da} {t : Ty} (h : ¬ TyOK l t) : ctR l t = [] := by unfold ctR; rw [dec_f h]; rfl
theorem ctR_int {l : List Da} {t : Ty} (h : t.data = -1) : ctR l t = [] := by unfold ctR; rw [if_pos h]; split <;> rfl
theorem ctR_data {l : List Da} {d : Nat} {i : Int} (h : TyOK l ⟨d, i⟩) (hd : d < l.length) : ctR l ⟨d, i⟩ = ctL l[d].ctors i l[d].ctors.length := by
  have hn : ¬ (d : Int) = -1 := by omega
  have e : l.getD d default = l[d] := by simp [List.getD, List.getElem?_eq_getElem hd]
  unfold ctR
  rw [dec_t h]
  simp only [if_true, if_neg hn, Int.toNat_natCast, e]
theorem ty_cases {l : List Da} {t : Ty} (h : TyOK l t) : t.data = -1 ∨ ∃ d : Nat, t.data = d ∧ d < l.length := by
  by_cases h1 : t.data = -1
  · exact .inl h1
  · have h2 := h.2
    rw [argB_data h1] at h2
    have h3 := of_decide_eq_true h2
    exact .inr ⟨t.data.toNat, by omega, by omega⟩
theorem ty_four {l : List Da} {t : Ty} (h : TyOK l t) {d : Nat} (hd : d < l.length) : l[d].ctors.length ≤ 4 := (data_len4 (h.1.2.1 d hd hd)).2
theorem OInts.lower {w : World} {lo lo' : Nat} {v : Value} {xs : List Int} (h : OInts w lo v xs) (hl : lo' ≤ lo) : OInts w lo' v xs := by
  have h' : w.ownsRow lo 3 1 v xs.length (xs.map (Value.int .i64)) := h
  refine ⟨h'.1, ?_⟩
  rcases h'.2 with h0 | ⟨g, cap, cur, a1, a2, a3⟩
  · exact .inl h0
  · exact .inr ⟨g, cap, cur, a1, by omega, a3⟩
theorem ctR_len (l : List Da) (t : Ty) : (ctR l t).length ≤ 4 := by
  by_cases h : TyOK l t
  · rcases ty_cases h with h1 | ⟨d, h1, hd⟩
    · rw [ctR_int h1]; simp
    · obtain ⟨td, ti⟩ := t
      simp only at h1
      subst h1
      rw [ctR_data h hd]
      have := ctL_length l[d].ctors ti l[d].ctors.length
      have := ty_four h hd
      omega
  · rw [ctR_no h]; simp

theorem typeV_yes {A : Option Addr} {l : List Da} {cap : Nat} {t : Ty} {w : World} (hr : RDas w w.heap.size A l) (h : TyOK l t) :
    Calls Tryd.prog 19 #[.slice A l.length cap, .agg #[.int .i64 t.data, .int .i64 t.index]] w fun e w' => e = .returned (.bool true) ∧ Below w.heap.size w w' := by rw [← dec_t h]; exact typeValid_spec A l cap t w hr
theorem typeV_no {A : Option Addr} {l : List Da} {cap : Nat} {t : Ty} {w : World} (hr : RDas w w.heap.size A l) (h : ¬ TyOK l t) :
    Calls Tryd.prog 19 #[.slice A l.length cap, .agg #[.int .i64 t.data, .int .i64 t.index]] w fun e w' => e = .returned (.bool false) ∧ Below w.heap.size w w' := by rw [← dec_f h]; exact typeValid_spec A l cap t w hr
theorem typeI_yes {A : Option Addr} {l : List Da} {cap : Nat} {t : Ty} {w : World} (hr : RDas w w.heap.size A l) (h : TyOK l t) :
    Calls Tryd.prog 22 #[.slice A l.length cap, .agg #[.int .i64 t.data, .int .i64 t.index]] w fun e w' => e = .returned (.bool true) ∧ Below w.heap.size w w' := by rw [← dec_t h]; exact typeValid_impl A l cap t w hr
theorem typeI_no {A : Option Addr} {l : List Da} {cap : Nat} {t : Ty} {w : World} (hr : RDas w w.heap.size A l) (h : ¬ TyOK l t) :
    Calls Tryd.prog 22 #[.slice A l.length cap, .agg #[.int .i64 t.data, .int .i64 t.index]] w fun e w' => e = .returned (.bool false) ∧ Below w.heap.size w w' := by rw [← dec_f h]; exact typeValid_impl A l cap t w hr

end Go.Proofs.YthebdlejoficmaaDoor
