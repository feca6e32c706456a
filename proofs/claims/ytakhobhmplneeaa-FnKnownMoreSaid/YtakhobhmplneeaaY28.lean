/-
  Values that are known in part: plain mathematics, and the functions that know a hole. No statement is proved here.
-/
import Derived.Test.YtakhobhmplneeaaY24
namespace Go.Proofs.Ytakhobhmplneeaa
open Go.RowKit Go.Sort Go.Deep
set_option maxRecDepth 100000
set_option linter.unusedVariables false
noncomputable def holeV (v : Vl) : Bool := decide (v.ctor = -2) && (decide (v.n = 0) && decide (v.kids.length = 0))
theorem holeV_parts {v : Vl} (h : holeV v = true) : v.ctor = -2 ∧ v.n = 0 ∧ v.kids.length = 0 := by
  unfold holeV at h
  simp only [Bool.and_eq_true, decide_eq_true_eq] at h
  exact h
theorem ctR_pos {l : List Da} {t : Ty} {x : Int} (h : x ∈ ctR l t) : 0 ≤ x := by
  obtain ⟨ht, d, m, hd, h1, rfl, hm⟩ := mem_ctR h
  omega
noncomputable def fitH (l : List Da) : Nat → Ty → Vl → Bool
  | 0, _, _ => false
  | d + 1, t, v => holeV v || (if t.data = -1 then decide (v.ctor = -1) && (decide (0 ≤ v.n) && (decide (v.n ≤ 9) && decide (v.kids.length = 0)))
      else decide (v.n = 0) && (dec (v.ctor ∈ ctR l t) && (decide (v.kids.length = (agR l t v.ctor).length) && upto (fun i => fitH l d ((agR l t v.ctor).getD i default) (v.kids.getD i default)) (agR l t v.ctor).length)))
/-- Which of the parts fit. -/
noncomputable def kidH (l : List Da) (d : Nat) (ats : List Ty) (ks : List Vl) (i : Nat) : Bool := fitH l d (ats.getD i default) (ks.getD i default)
section
variable {l : List Da} {d : Nat} {t : Ty} {v : Vl}
theorem fitH_zero : fitH l 0 t v = false := rfl
theorem fitH_hole (hh : holeV v = true) : fitH l (d + 1) t v = true := by show (holeV v || _) = true; rw [hh]; rfl
theorem fitH_int (hh : holeV v = false) (h : t.data = -1) : fitH l (d + 1) t v = (decide (v.ctor = -1) && (decide (0 ≤ v.n) && (decide (v.n ≤ 9) && decide (v.kids.length = 0)))) := by
  show (holeV v || if t.data = -1 then _ else _) = _
  rw [hh, if_pos h]; rfl
theorem fitH_n (hh : holeV v = false) (h : ¬ t.data = -1) (hn : ¬ v.n = 0) : fitH l (d + 1) t v = false := by
  show (holeV v || if t.data = -1 then _ else _) = _
  rw [hh, if_neg h, decide_eq_false hn]; rfl
theorem fitH_ctor (hh : holeV v = false) (h : ¬ t.data = -1) (hc : ¬ v.ctor ∈ ctR l t) : fitH l (d + 1) t v = false := by
  show (holeV v || if t.data = -1 then _ else _) = _
  rw [hh, if_neg h, dec_f hc]; simp
theorem fitH_len (hh : holeV v = false) (h : ¬ t.data = -1) (hc : ¬ v.kids.length = (agR l t v.ctor).length) : fitH l (d + 1) t v = false := by
  show (holeV v || if t.data = -1 then _ else _) = _
  rw [hh, if_neg h, decide_eq_false hc]; simp
theorem fitH_go (hh : holeV v = false) (h : ¬ t.data = -1) (hn : v.n = 0) (hc : v.ctor ∈ ctR l t) (hl : v.kids.length = (agR l t v.ctor).length) : fitH l (d + 1) t v = upto (kidH l d (agR l t v.ctor) v.kids) (agR l t v.ctor).length := by
  show (holeV v || if t.data = -1 then _ else _) = _
  rw [hh, if_neg h, decide_eq_true hn, dec_t hc, decide_eq_true hl]; rfl
theorem fitH_two (h2 : v.ctor = -2) : fitH l (d + 1) t v = holeV v := by
  cases hh : holeV v
  · by_cases h : t.data = -1
    · rw [fitH_int hh h, decide_eq_false (by omega)]; rfl
    · exact fitH_ctor hh h (fun hc => by have := ctR_pos hc; omega)
  · exact fitH_hole hh
theorem kidH_at {ats : List Ty} {ks : List Vl} {i : Nat} (h : i < ats.length) (h' : i < ks.length) : kidH l d ats ks i = fitH l d ats[i] ks[i] := by
  unfold kidH
  rw [List.getD_eq_getElem?_getD, List.getD_eq_getElem?_getD, List.getElem?_eq_getElem h, List.getElem?_eq_getElem h']; rfl
theorem fitV_fitH_int (h : t.data = -1) (h2 : ¬ v.ctor = -2) : fitV l (d + 1) t v = fitH l (d + 1) t v := by
  have hh : holeV v = false := by unfold holeV; rw [decide_eq_false h2]; rfl
  rw [fit_int h, fitH_int hh h]
end
theorem holeV_no {v : Vl} (h2 : ¬ v.ctor = -2) : holeV v = false := by unfold holeV; rw [decide_eq_false h2]; rfl
theorem isH_any (D : Option Addr) (ep : Nat) (v : Vl) (w : World) (hl : v.kids.length ≤ maxLen) :
    Calls Try.prog 24 #[.agg #[.int .i64 v.ctor, .int .i64 v.n, .slice D v.kids.length ep]] w fun e w' => e = .returned (.bool (holeV v)) ∧ Below w.heap.size w w' := by
  have HB : Hid (∀ o : Obj, Below w.heap.size w (w.alloc o)) := fun o => (Below.refl _ _).alloc (Nat.le_refl _) _
  unfold maxLen at hl
  have HF : Hid (holeV v = (decide (v.ctor = -2) && (decide (v.n = 0) && decide (v.kids.length = 0)))) := rfl
  by_cases a1 : v.ctor = -2
  · have p1 := ieq_t a1
    by_cases a2 : v.n = 0
    · have p2 := ieq_t a2
      by_cases a4 : v.kids.length = 0
      · have p4 := ieq_t (show (v.kids.length : Int) = 0 by omega)
        rw [decide_eq_true a1, decide_eq_true a2, decide_eq_true a4] at HF
        clear a1 a2 a4
        go_enter Try.func24, Try.ntmps24
        go_wp2_with fail
        go_ret
        exact ⟨ret_bool (by rw [HF.out]; rfl), HB.out _⟩
      · have p4 := ieq_f (show ¬ (v.kids.length : Int) = 0 by omega)
        rw [decide_eq_false a4] at HF
        clear a1 a2 a4
        go_enter Try.func24, Try.ntmps24
        go_wp2_with fail
        go_ret
        exact ⟨ret_bool (by rw [HF.out]; simp), HB.out _⟩
    · have p2 := ieq_f a2
      rw [decide_eq_false a2] at HF
      clear a1 a2
      go_enter Try.func24, Try.ntmps24
      go_wp2_with fail
      go_ret
      exact ⟨ret_bool (by rw [HF.out]; simp), HB.out _⟩
  · have p1 := ieq_f a1
    rw [decide_eq_false a1] at HF
    clear a1
    go_enter Try.func24, Try.ntmps24
    go_wp2_with fail
    go_ret
    exact ⟨ret_bool (by rw [HF.out]; simp), HB.out _⟩
theorem isH_any_known (D : Option Addr) (ep : Nat) (v : Vl) (b : Bool) (w : World) (h : holeV v = b) (hl : v.kids.length ≤ maxLen) :
    Calls Try.prog 24 #[.agg #[.int .i64 v.ctor, .int .i64 v.n, .slice D v.kids.length ep]] w fun e w' => e = .returned (.bool b) ∧ Below w.heap.size w w' := by
  rw [← h]; exact isH_any D ep v w hl
theorem l10H_any (D : Option Addr) (ep : Nat) (v : Vl) (w : World) (hl : v.kids.length ≤ maxLen) :
    Calls Try.prog 75 #[.agg #[.int .i64 v.ctor, .int .i64 v.n, .slice D v.kids.length ep]] w fun e w' => e = .returned (.bool (holeV v)) ∧ Below w.heap.size w w' := by
  have HB : Hid (∀ o : Obj, Below w.heap.size w (w.alloc o)) := fun o => (Below.refl _ _).alloc (Nat.le_refl _) _
  unfold maxLen at hl
  have HF : Hid (holeV v = (decide (v.ctor = -2) && (decide (v.n = 0) && decide (v.kids.length = 0)))) := rfl
  by_cases a1 : v.ctor = -2
  · have p1 := ieq_t a1
    by_cases a2 : v.n = 0
    · have p2 := ieq_t a2
      by_cases a4 : v.kids.length = 0
      · have p4 := ieq_t (show (v.kids.length : Int) = 0 by omega)
        rw [decide_eq_true a1, decide_eq_true a2, decide_eq_true a4] at HF
        clear a1 a2 a4
        go_enter Try.func75, Try.ntmps75
        go_wp2_with fail
        go_ret
        exact ⟨ret_bool (by rw [HF.out]; rfl), HB.out _⟩
      · have p4 := ieq_f (show ¬ (v.kids.length : Int) = 0 by omega)
        rw [decide_eq_false a4] at HF
        clear a1 a2 a4
        go_enter Try.func75, Try.ntmps75
        go_wp2_with fail
        go_ret
        exact ⟨ret_bool (by rw [HF.out]; simp), HB.out _⟩
    · have p2 := ieq_f a2
      rw [decide_eq_false a2] at HF
      clear a1 a2
      go_enter Try.func75, Try.ntmps75
      go_wp2_with fail
      go_ret
      exact ⟨ret_bool (by rw [HF.out]; simp), HB.out _⟩
  · have p1 := ieq_f a1
    rw [decide_eq_false a1] at HF
    clear a1
    go_enter Try.func75, Try.ntmps75
    go_wp2_with fail
    go_ret
    exact ⟨ret_bool (by rw [HF.out]; simp), HB.out _⟩
end Go.Proofs.Ytakhobhmplneeaa
/-
  When a tree is a value of a type: the program's function. No statement is proved here.
-/
namespace Go.Proofs.Ytakhobhmplneeaa
open Go.RowKit Go.Sort Go.Deep
set_option maxRecDepth 100000
set_option linter.unusedVariables false
theorem wV_none {v : Vl} (h : v.kids.length = 0) : wV v = 0 := by rw [wV_kids, List.eq_nil_of_length_eq_zero h, wVs]
theorem ret_nb {a b : Int} {x y : Bool} (h : a = b) (h' : x = y) : Ending.returned (.tuple #[.int .i64 a, .bool x]) = .returned (.tuple #[.int .i64 b, .bool y]) := by rw [h, h']
end Go.Proofs.Ytakhobhmplneeaa
