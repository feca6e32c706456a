/-
  When a type is one of a world: the program's function and the document's. No statement is proved here.
-/
import Derived.Test.YthebdlejoficmaaWorld2
namespace Go.Proofs.Ythebdlejoficmaa
open Go.RowKit
set_option maxRecDepth 100000
set_option linter.unusedVariables false

theorem arg_zero (n : Int) (t : Ty) : (argB n (-1) t && decide (0 ≤ t.index)) = argB n 0 t := by
  obtain ⟨d, i⟩ := t
  unfold argB
  by_cases h0 : d = -1
  · simp only [h0, if_true]
    by_cases h1 : i = 0
    · subst h1; rfl
    · rw [decide_eq_false h1]; rfl
  · simp only [if_neg h0]
    by_cases h1 : 0 ≤ d ∧ d < n ∧ 0 ≤ i ∧ i ≤ 3
    · rw [decide_eq_true h1, decide_eq_true (show 0 ≤ d ∧ d < n ∧ -1 ≤ i ∧ i ≤ 3 by omega), decide_eq_true (show 0 ≤ i by omega)]; rfl
    · rw [decide_eq_false h1]
      by_cases h2 : 0 ≤ i
      · rw [decide_eq_false (show ¬ (0 ≤ d ∧ d < n ∧ -1 ≤ i ∧ i ≤ 3) by omega)]; rfl
      · rw [decide_eq_false h2]; simp

def TyOK (l : List Da) (t : Ty) : Prop := WorldOK l ∧ argB l.length 0 t = true

theorem l1Is_any (A : Option Addr) (n cap : Nat) (t : Ty) (w : World) (hn : n ≤ maxLen) :
    Calls Try.prog 52 #[.slice A n cap, .agg #[.int .i64 t.data, .int .i64 t.index]] w fun e w' => e = .returned (.bool (argB n 0 t)) ∧ Below w.heap.size w w' := by
  unfold maxLen at hn
  have H := Lib.hid (arg_zero n t)
  by_cases h1 : argB n (-1) t = true
  · by_cases h2 : 0 ≤ t.index
    · have HT : Hid (argB n 0 t = true) := by unfold Hid; rw [← H.out, h1, decide_eq_true h2]; rfl
      go_enter Try.func52, Try.ntmps52
      go_wp2_with (go_at_call 67; refine (arg_any _ _ _ _).mono ?_; rintro e w1 ⟨rfl, hb⟩; obtain ⟨hc, hfz⟩ := bcell hb)
      go_ret
      exact ⟨ret_bool HT.out.symm, below_one hb⟩
    · have HT : Hid (argB n 0 t = false) := by unfold Hid; rw [← H.out, decide_eq_false h2]; simp
      go_enter Try.func52, Try.ntmps52
      go_wp2_with (go_at_call 67; refine (arg_any _ _ _ _).mono ?_; rintro e w1 ⟨rfl, hb⟩; obtain ⟨hc, hfz⟩ := bcell hb)
      go_ret
      exact ⟨ret_bool (by rw [HT.out]; exact decide_eq_false (by omega)), below_one hb⟩
  · have h1' : argB n (-1) t = false := by simpa using h1
    have HT : Hid (argB n 0 t = false) := by unfold Hid; rw [← H.out, h1']; rfl
    clear h1
    go_enter Try.func52, Try.ntmps52
    go_wp2_with (go_at_call 67; refine (arg_any _ _ _ _).mono ?_; rintro e w1 ⟨rfl, hb⟩; obtain ⟨hc, hfz⟩ := bcell hb)
    go_ret
    exact ⟨ret_bool HT.out.symm, below_one hb⟩

theorem typeValid_spec (A : Option Addr) (l : List Da) (cap : Nat) (t : Ty) (w : World) (hr : RDas w w.heap.size A l) :
    Calls Try.prog 20 #[.slice A l.length cap, .agg #[.int .i64 t.data, .int .i64 t.index]] w fun e w' => e = .returned (.bool (dec (TyOK l t))) ∧ Below w.heap.size w w' := by
  have hn := hr.1
  have Hr := Lib.hid hr
  clear hr
  by_cases hw : WorldOK l
  · have hq := dec_t hw
    have HW := Lib.hid hw
    clear hw
    go_enter Try.func20, Try.ntmps20
    go_wp2_with (first | (go_at_call 14; refine (worldValid_spec _ _ _ _ (by exact Hr.out.keep (keep_one _) (by simp))).mono ?_; rintro e w1 ⟨rfl, hb⟩; obtain ⟨hc, hfz⟩ := bcell hb; have hb1 := below_one hb) | (go_at_call 52; refine (l1Is_any _ _ _ t _ hn).mono ?_; rintro e w2 ⟨rfl, hb2'⟩; have hb2 := hb1.trans (hb2'.mono hb1.size)))
    go_ret
    refine ⟨ret_bool ?_, hb2⟩
    by_cases h2 : argB l.length 0 t = true
    · rw [h2, dec_t (show TyOK l t from ⟨HW.out, h2⟩)]
    · rw [dec_f (show ¬ TyOK l t from fun h => h2 h.2)]; simpa using h2
  · have hq := dec_f hw
    have HW := Lib.hid hw
    clear hw
    go_enter Try.func20, Try.ntmps20
    go_wp2_with (go_at_call 14; refine (worldValid_spec _ _ _ _ (by exact Hr.out.keep (keep_one _) (by simp))).mono ?_; rintro e w1 ⟨rfl, hb⟩; obtain ⟨hc, hfz⟩ := bcell hb; have hb1 := below_one hb)
    go_ret
    exact ⟨ret_bool (dec_f (show ¬ TyOK l t from fun h => HW.out h.1)).symm, hb1⟩

theorem typeValid_impl (A : Option Addr) (l : List Da) (cap : Nat) (t : Ty) (w : World) (hr : RDas w w.heap.size A l) :
    Calls Try.prog 22 #[.slice A l.length cap, .agg #[.int .i64 t.data, .int .i64 t.index]] w fun e w' => e = .returned (.bool (dec (TyOK l t))) ∧ Below w.heap.size w w' := by
  have hn := hr.1
  have Hr := Lib.hid hr
  clear hr
  by_cases hw : WorldOK l
  · have hq := dec_t hw
    have HW := Lib.hid hw
    clear hw
    go_enter Try.func22, Try.ntmps22
    go_wp2_with (first | (go_at_call 16; refine (worldValid_impl _ _ _ _ (by exact Hr.out.keep (keep_one _) (by simp))).mono ?_; rintro e w1 ⟨rfl, hb⟩; obtain ⟨hc, hfz⟩ := bcell hb; have hb1 := below_one hb) | (go_at_call 53; refine (within_any _ _ _ _ _).mono ?_; rintro e w2 ⟨rfl, hb2'⟩; have hb2 := hb1.trans (hb2'.mono hb1.size)))
    go_ret
    refine ⟨ret_bool ?_, hb2⟩
    by_cases h2 : argB l.length 0 t = true
    · exact (show argB l.length 0 t = dec (TyOK l t) by rw [h2, dec_t (show TyOK l t from ⟨HW.out, h2⟩)])
    · exact (show argB l.length 0 t = dec (TyOK l t) by rw [dec_f (show ¬ TyOK l t from fun h => h2 h.2)]; simpa using h2)
  · have hq := dec_f hw
    have HW := Lib.hid hw
    clear hw
    go_enter Try.func22, Try.ntmps22
    go_wp2_with (go_at_call 16; refine (worldValid_impl _ _ _ _ (by exact Hr.out.keep (keep_one _) (by simp))).mono ?_; rintro e w1 ⟨rfl, hb⟩; obtain ⟨hc, hfz⟩ := bcell hb; have hb1 := below_one hb)
    go_ret
    exact ⟨ret_bool (dec_f (show ¬ TyOK l t from fun h => HW.out h.1)).symm, hb1⟩
end Go.Proofs.Ythebdlejoficmaa
