/-
  When a guard is right for the variables of a pattern: both functions. No statement is proved here.
-/
import Derived.Test.YtphmhlekfmkdkaaG11
import Derived.Test.YtphmhlekfmkdkaaG12
import Derived.Deep.RegionHeld3
namespace Go.Proofs.Ytphmhlekfmkdkaa
open Go.RowKit Go.Sort Go.Deep
set_option maxRecDepth 100000
set_option linter.unusedVariables false

noncomputable def gdB (g0 g1 g2 : Int) (L : List Vt) : Bool := if g0 = 0 then decide (g1 = 0 ∧ g2 = 0) else decide ((g0 = 1 ∨ g0 = 2) ∧ 0 ≤ g2 ∧ g2 ≤ 9) && dec ((⟨g1, ⟨-1, 0⟩⟩ : Vt) ∈ L)
section
variable {g0 g1 g2 : Int} {L : List Vt}
theorem gd_none (h : g0 = 0) : gdB g0 g1 g2 L = decide (g1 = 0 ∧ g2 = 0) := if_pos h
theorem gd_yes (h : ¬ g0 = 0) (h' : (g0 = 1 ∨ g0 = 2) ∧ 0 ≤ g2 ∧ g2 ≤ 9) : gdB g0 g1 g2 L = dec ((⟨g1, ⟨-1, 0⟩⟩ : Vt) ∈ L) := by unfold gdB; rw [if_neg h, decide_eq_true h']; rfl
theorem gd_no (h : ¬ g0 = 0) (h' : ¬ ((g0 = 1 ∨ g0 = 2) ∧ 0 ≤ g2 ∧ g2 ≤ 9)) : gdB g0 g1 g2 L = false := by unfold gdB; rw [if_neg h, decide_eq_false h']; rfl
end
theorem eqlGd (a b c : Int) (w : World) : (Go.binOp .eql 54 (.agg #[.int .i64 a, .int .i64 b, .int .i64 c]) (.agg #[.int .i64 0, .int .i64 0, .int .i64 0])).run Try.prog w = .ok (.bool (decide (a = 0 ∧ b = 0 ∧ c = 0))) w := by
  have hS : Try.prog.underlying 54 = some (.struct (Try.prog.fieldsOf 54)) := by kernel_rfl
  have hp : Try.prog.stoodInHeld 54 = false := by kernel_rfl
  have u3 := Try.underlying3
  have a3 := Try.isAgg3
  have z3 := Try.sizeOf3
  rw [run_eql_struct, show (10000 : Nat) = 9999 + 1 from rfl, run_equalIn_agg w 9999 54 _ _ hS hp]
  simp only [Program.fieldsOf, Try.underlying54]
  go_simp
  by_cases h1 : a = 0 <;> by_cases h2 : b = 0 <;> by_cases h3 : c = 0 <;> simp_all
theorem guardGd (x y : Operand) (xs ys : Array Value) (w : World) : (eqGuard .eql 54 x y (.agg xs) (.agg ys)).run Try.prog w = .ok () w := run_eqGuard_agg (P := Try.prog) w .eql 54 x y xs ys (by kernel_rfl)

theorem cond_any (g0 g1 g2 : Int) (w : World) : Calls Try.prog 60 #[.agg #[.int .i64 g0, .int .i64 g1, .int .i64 g2]] w fun e w' => ∃ v, e = .returned (.tuple #[v, .bool (decide (g0 = 1 ∨ g0 = 2))]) ∧ Below w.heap.size w w' := by
  by_cases h1 : g0 = 1
  · have u1 := ieq_t h1
    have HD : Hid (decide (g0 = 1 ∨ g0 = 2) = true) := decide_eq_true (.inl h1)
    have HQ : Hid (∀ v w', Below w.heap.size w w' → ∃ v', Ending.returned (.tuple #[v, .bool true]) = .returned (.tuple #[v', .bool (decide (g0 = 1 ∨ g0 = 2))]) ∧ Below w.heap.size w w') := fun v w' hb => ⟨v, by rw [HD.out], hb⟩
    clear h1
    go_enter Try.func60, Try.ntmps60
    go_wp2_with fail
    go_ret2
    exact HQ.out _ _ ((Below.refl _ _).alloc (Nat.le_refl _) _)
  · have u1 := ieq_f h1
    by_cases h2 : g0 = 2
    · have u2 := ieq_t h2
      have HD : Hid (decide (g0 = 1 ∨ g0 = 2) = true) := decide_eq_true (.inr h2)
      have HQ : Hid (∀ v w', Below w.heap.size w w' → ∃ v', Ending.returned (.tuple #[v, .bool true]) = .returned (.tuple #[v', .bool (decide (g0 = 1 ∨ g0 = 2))]) ∧ Below w.heap.size w w') := fun v w' hb => ⟨v, by rw [HD.out], hb⟩
      clear h1 h2
      go_enter Try.func60, Try.ntmps60
      go_wp2_with fail
      go_ret2
      exact HQ.out _ _ ((Below.refl _ _).alloc (Nat.le_refl _) _)
    · have u2 := ieq_f h2
      have HD : Hid (decide (g0 = 1 ∨ g0 = 2) = false) := decide_eq_false (by omega)
      have HQ : Hid (∀ v w', Below w.heap.size w w' → ∃ v', Ending.returned (.tuple #[v, .bool false]) = .returned (.tuple #[v', .bool (decide (g0 = 1 ∨ g0 = 2))]) ∧ Below w.heap.size w w') := fun v w' hb => ⟨v, by rw [HD.out], hb⟩
      clear h1 h2
      go_enter Try.func60, Try.ntmps60
      go_wp2_with fail
      go_ret2
      exact HQ.out _ _ ((Below.refl _ _).alloc (Nat.le_refl _) _)

def GBx (w : World) (b : Nat) (g0 g1 g2 : Int) : Prop := w.cell? ⟨b, 0, none⟩ = some (.int .i64 g0) ∧ w.cell? ⟨b, 1, none⟩ = some (.int .i64 g1) ∧ w.cell? ⟨b, 2, none⟩ = some (.int .i64 g2)
theorem GBx.at_ {w w' : World} {b : Nat} {g0 g1 g2 : Int} (h : GBx w b g0 g1 g2) (hb : Below w.heap.size w w') : GBx w' b g0 g1 g2 := by
  have hk := hb.block b (Go.block_lt_of_cell h.1)
  exact ⟨(World.cell?_of_block (a := ⟨b, 0, none⟩) hk).trans h.1, (World.cell?_of_block (a := ⟨b, 1, none⟩) hk).trans h.2.1, (World.cell?_of_block (a := ⟨b, 2, none⟩) hk).trans h.2.2⟩
set_option maxHeartbeats 3200000 in
theorem guard_impl (g0 g1 g2 : Int) (A : Option Addr) (L : List Vt) (cap : Nat) (w : World) (hr : RVts w w.heap.size A L) :
    Calls Try.prog 55 #[.agg #[.int .i64 g0, .int .i64 g1, .int .i64 g2], .slice A L.length cap] w fun e w' => e = .returned (.bool (gdB g0 g1 g2 L)) ∧ Below w.heap.size w w' := by
  have Hr := Lib.hid hr
  clear hr
  generalize hw0 : w.alloc (.cells #[.int .i64 g0, .int .i64 g1, .int .i64 g2] 54) = w0
  have hb0 : Below w.heap.size w w0 := by rw [← hw0]; exact (Below.refl _ _).alloc (Nat.le_refl _) _
  have HX : Hid (GBx w0 w.heap.size g0 g1 g2) := by rw [← hw0]; exact ⟨by simp [go_sem], by simp [go_sem], by simp [go_sem]⟩
  have HW := Lib.hid hw0
  clear hw0
  by_cases h0 : g0 = 0
  · have u0 := ieq_t h0
    have HG : Hid (gdB g0 g1 g2 L = decide (g0 = 0 ∧ g1 = 0 ∧ g2 = 0)) := by unfold Hid; rw [gd_none h0]; simp [h0]
    have hq := eqlGd g0 g1 g2
    have gd := guardGd
    clear h0
    go_enter Try.func55, Try.ntmps55
    go_wp2_with fail
    go_ret
    exact ⟨ret_bool (by rw [HG.out]; simp), by rw [HW.out]; exact hb0⟩
  · have u0 := ieq_f h0
    have HC := Lib.hid (cond_any g0 g1 g2 w0)
    have HCV := Lib.hid (containsVt_any A L cap ⟨g1, ⟨-1, 0⟩⟩)
    by_cases h1 : g0 = 1 ∨ g0 = 2
    · have HD : Hid (decide (g0 = 1 ∨ g0 = 2) = true) := decide_eq_true h1
      by_cases h2 : 0 ≤ g2
      · have q2 : decide (0 ≤ g2) = true := decide_eq_true h2
        by_cases h3 : g2 ≤ 9
        · have q3 : decide (g2 ≤ 9) = true := decide_eq_true h3
          have HG : Hid (gdB g0 g1 g2 L = dec ((⟨g1, ⟨-1, 0⟩⟩ : Vt) ∈ L)) := gd_yes h0 ⟨h1, h2, h3⟩
          clear h0 h1 h2 h3
          obtain ⟨x0, x1, x2⟩ := HX.out
          go_enter Try.func55, Try.ntmps55
          go_wp2_with (first | (go_at_call 60; (try rw [HW.out]); refine HC.out.mono ?_; rw [HD.out]; rintro e1 w1 ⟨v1, rfl, hb1⟩; obtain ⟨y0, y1, y2⟩ := HX.out.at_ hb1; have hb1w := below_aft hb0 hb1 hb0.size) | (go_at_call 80; refine (HCV.out w1 (Hr.out.at_ hb1w)).mono ?_; rintro e2 w2 ⟨rfl, hb2⟩))
          go_ret
          exact ⟨ret_bool HG.out.symm, below_aft hb1w hb2 hb1w.size⟩
        · have q3 : decide (g2 ≤ 9) = false := decide_eq_false h3
          have HG : Hid (gdB g0 g1 g2 L = false) := gd_no h0 (fun h => h3 h.2.2)
          clear h0 h1 h2 h3
          obtain ⟨x0, x1, x2⟩ := HX.out
          go_enter Try.func55, Try.ntmps55
          go_wp2_with (go_at_call 60; (try rw [HW.out]); refine HC.out.mono ?_; rw [HD.out]; rintro e1 w1 ⟨v1, rfl, hb1⟩; obtain ⟨y0, y1, y2⟩ := HX.out.at_ hb1; have hb1w := below_aft hb0 hb1 hb0.size)
          go_ret
          exact ⟨ret_bool HG.out.symm, hb1w⟩
      · have q2 : decide (0 ≤ g2) = false := decide_eq_false h2
        have HG : Hid (gdB g0 g1 g2 L = false) := gd_no h0 (fun h => h2 h.2.1)
        clear h0 h1 h2
        obtain ⟨x0, x1, x2⟩ := HX.out
        go_enter Try.func55, Try.ntmps55
        go_wp2_with (go_at_call 60; (try rw [HW.out]); refine HC.out.mono ?_; rw [HD.out]; rintro e1 w1 ⟨v1, rfl, hb1⟩; obtain ⟨y0, y1, y2⟩ := HX.out.at_ hb1; have hb1w := below_aft hb0 hb1 hb0.size)
        go_ret
        exact ⟨ret_bool HG.out.symm, hb1w⟩
    · have HD : Hid (decide (g0 = 1 ∨ g0 = 2) = false) := decide_eq_false h1
      have HG : Hid (gdB g0 g1 g2 L = false) := gd_no h0 (fun h => h1 h.1)
      clear h0 h1
      by_cases h2 : 0 ≤ g2
      · have q2 : decide (0 ≤ g2) = true := decide_eq_true h2
        by_cases h3 : g2 ≤ 9
        · have q3 : decide (g2 ≤ 9) = true := decide_eq_true h3
          clear h2 h3
          obtain ⟨x0, x1, x2⟩ := HX.out
          go_enter Try.func55, Try.ntmps55
          go_wp2_with (go_at_call 60; (try rw [HW.out]); refine HC.out.mono ?_; rw [HD.out]; rintro e1 w1 ⟨v1, rfl, hb1⟩; obtain ⟨y0, y1, y2⟩ := HX.out.at_ hb1; have hb1w := below_aft hb0 hb1 hb0.size)
          go_ret
          exact ⟨ret_bool HG.out.symm, hb1w⟩
        · have q3 : decide (g2 ≤ 9) = false := decide_eq_false h3
          clear h2 h3
          obtain ⟨x0, x1, x2⟩ := HX.out
          go_enter Try.func55, Try.ntmps55
          go_wp2_with (go_at_call 60; (try rw [HW.out]); refine HC.out.mono ?_; rw [HD.out]; rintro e1 w1 ⟨v1, rfl, hb1⟩; obtain ⟨y0, y1, y2⟩ := HX.out.at_ hb1; have hb1w := below_aft hb0 hb1 hb0.size)
          go_ret
          exact ⟨ret_bool HG.out.symm, hb1w⟩
      · have q2 : decide (0 ≤ g2) = false := decide_eq_false h2
        clear h2
        obtain ⟨x0, x1, x2⟩ := HX.out
        go_enter Try.func55, Try.ntmps55
        go_wp2_with (go_at_call 60; (try rw [HW.out]); refine HC.out.mono ?_; rw [HD.out]; rintro e1 w1 ⟨v1, rfl, hb1⟩; obtain ⟨y0, y1, y2⟩ := HX.out.at_ hb1; have hb1w := below_aft hb0 hb1 hb0.size)
        go_ret
        exact ⟨ret_bool HG.out.symm, hb1w⟩

theorem ty_int {l : List Da} {t : Ty} (h : TyOK l t) (hd : t.data = -1) : t.index = 0 := by
  have h2 := h.2
  rw [argB_int hd] at h2
  exact of_decide_eq_true h2
theorem vrP_tys {l : List Da} : ∀ {d : Nat} {t : Ty} {p : Pt}, TyOK l t → shP l d t p = true → ∀ x ∈ vrP l d t p, TyOK l x.ty
  | 0, t, p, _, h => by rw [shP_zero] at h; cases h
  | d + 1, t, p, ht, h => fun x hx => by
    obtain ⟨h1, h2, h3⟩ := shP_parts h
    rw [vrP_go] at hx
    rcases List.mem_append.1 hx with hx | hx
    · by_cases hn : p.op = 2 ∨ p.op = 6
      · rw [hdV_yes hn] at hx
        rw [List.mem_singleton.1 hx]
        exact ht
      · rw [hdV_no hn] at hx; cases hx
    · obtain ⟨i, hi, hx⟩ := catV_mem hx
      have hil : i < (tysP l t p).length := Nat.lt_of_lt_of_le hi (limV_le l t p)
      rw [kidR_at hil (by omega)] at hx
      exact vrP_tys (tysP_ok ht h1 _ (List.getElem_mem hil)) (h3 i hil (by omega)) x hx
def IntV (L : List Vt) : Prop := Once L ∧ ∀ x ∈ L, x.ty.data = -1 → x.ty.index = 0
theorem mem_no {L : List Vt} {n : Int} (hI : IntV L) (h : findV L n = -1) : dec ((⟨n, ⟨-1, 0⟩⟩ : Vt) ∈ L) = false := dec_f (fun hm => by
  obtain ⟨k, hk, e⟩ := List.mem_iff_getElem.1 hm
  have h1 := hI.1.at_ hk
  rw [e] at h1
  simp only at h1
  omega)
theorem mem_at {L : List Vt} {n : Int} {k : Nat} (hI : IntV L) (hk : k < L.length) (h : findV L n = k) : dec ((⟨n, ⟨-1, 0⟩⟩ : Vt) ∈ L) = decide (L[k].ty.data = -1) := by
  by_cases hd : L[k].ty.data = -1
  · have h1 := findV_var h hk
    have h2 := hI.2 _ (List.getElem_mem hk) hd
    have h3 : L[k] = ⟨n, ⟨-1, 0⟩⟩ := by
      cases hx : L[k] with | mk v t => cases t with | mk a b => rw [hx] at h1 h2 hd; simp only at h1 h2 hd; rw [h1, h2, hd]
    rw [dec_t (by rw [← h3]; exact List.getElem_mem hk), decide_eq_true hd]
  · rw [decide_eq_false hd]
    refine dec_f (fun hm => hd ?_)
    obtain ⟨j, hj, e⟩ := List.mem_iff_getElem.1 hm
    have h1 := hI.1.at_ hj
    rw [e] at h1
    simp only at h1
    have h2 : j = k := by omega
    subst h2
    rw [e]

set_option maxHeartbeats 3200000 in
theorem guard_spec (g0 g1 g2 : Int) (A : Option Addr) (L : List Vt) (cap : Nat) (w : World) (hr : RVts w w.heap.size A L) (hI : IntV L) :
    Calls Try.prog 79 #[.agg #[.int .i64 g0, .int .i64 g1, .int .i64 g2], .slice A L.length cap] w fun e w' => e = .returned (.bool (gdB g0 g1 g2 L)) ∧ Below w.heap.size w w' := by
  have Hr := Lib.hid hr
  have HI := Lib.hid hI
  clear hr hI
  generalize hw0 : w.alloc (.cells #[.int .i64 g0, .int .i64 g1, .int .i64 g2] 54) = w0
  have hb0 : Below w.heap.size w w0 := by rw [← hw0]; exact (Below.refl _ _).alloc (Nat.le_refl _) _
  have HX : Hid (GBx w0 w.heap.size g0 g1 g2) := by rw [← hw0]; exact ⟨by simp [go_sem], by simp [go_sem], by simp [go_sem]⟩
  have HW := Lib.hid hw0
  clear hw0
  by_cases h0 : g0 = 0
  · have u0 := ieq_t h0
    have HG : Hid (gdB g0 g1 g2 L = decide (g1 = 0 ∧ g2 = 0)) := gd_none h0
    clear h0
    by_cases h1 : g1 = 0
    · have u1 := ieq_t h1
      by_cases h2 : g2 = 0
      · have u2 := ieq_t h2
        have HG2 : Hid (gdB g0 g1 g2 L = true) := by unfold Hid; rw [HG.out]; exact decide_eq_true ⟨h1, h2⟩
        clear h1 h2
        obtain ⟨x0, x1, x2⟩ := HX.out
        go_enter Try.func79, Try.ntmps79
        go_wp2_with fail
        go_ret
        exact ⟨ret_bool HG2.out.symm, by rw [HW.out]; exact hb0⟩
      · have u2 := ieq_f h2
        have HG2 : Hid (gdB g0 g1 g2 L = false) := by unfold Hid; rw [HG.out]; exact decide_eq_false (fun h => h2 h.2)
        clear h1 h2
        obtain ⟨x0, x1, x2⟩ := HX.out
        go_enter Try.func79, Try.ntmps79
        go_wp2_with fail
        go_ret
        exact ⟨ret_bool HG2.out.symm, by rw [HW.out]; exact hb0⟩
    · have u1 := ieq_f h1
      have HG2 : Hid (gdB g0 g1 g2 L = false) := by unfold Hid; rw [HG.out]; exact decide_eq_false (fun h => h1 h.1)
      clear h1
      obtain ⟨x0, x1, x2⟩ := HX.out
      go_enter Try.func79, Try.ntmps79
      go_wp2_with fail
      go_ret
      exact ⟨ret_bool HG2.out.symm, by rw [HW.out]; exact hb0⟩
  · have u0 := ieq_f h0
    by_cases h1 : g0 = 1 ∨ g0 = 2
    · by_cases h2 : 0 ≤ g2
      · have q2 : decide (g2 < 0) = false := decide_eq_false (by omega)
        by_cases h3 : g2 ≤ 9
        · have q3 : decide (9 < g2) = false := decide_eq_false (by omega)
          have HG : Hid (gdB g0 g1 g2 L = dec ((⟨g1, ⟨-1, 0⟩⟩ : Vt) ∈ L)) := gd_yes h0 ⟨h1, h2, h3⟩
          have HF := Lib.hid (find_any A L cap g1 w0 (Hr.out.at_ hb0))
          rcases findV_cases L g1 with hf | ⟨k, hk, hf⟩
          · have HG2 : Hid (gdB g0 g1 g2 L = false) := by unfold Hid; rw [HG.out]; exact mem_no HI.out hf
            rw [hf] at HF
            clear hf
            by_cases h4 : g0 = 1
            · have u1 : (g0 != 1) = false := by simp [h4]
              clear h0 h1 h2 h3 h4
              obtain ⟨x0, x1, x2⟩ := HX.out
              go_enter Try.func79, Try.ntmps79
              go_wp2_with (go_at_call 92; (try rw [HW.out]); refine HF.out.mono ?_; rintro e1 w1 ⟨rfl, rfl⟩)
              go_ret
              exact ⟨ret_bool HG2.out.symm, hb0⟩
            · have u1 : (g0 != 1) = true := by simp [h4]
              have u2 : (g0 != 2) = false := by simp; omega
              clear h0 h1 h2 h3 h4
              obtain ⟨x0, x1, x2⟩ := HX.out
              go_enter Try.func79, Try.ntmps79
              go_wp2_with (go_at_call 92; (try rw [HW.out]); refine HF.out.mono ?_; rintro e1 w1 ⟨rfl, rfl⟩)
              go_ret
              exact ⟨ret_bool HG2.out.symm, hb0⟩
          · have HG2 : Hid (gdB g0 g1 g2 L = decide (L[k].ty.data = -1)) := by unfold Hid; rw [HG.out]; exact mem_at HI.out hk hf
            rw [hf] at HF
            obtain ⟨b, off, rfl, hbB, c0, c1, c2⟩ := (Hr.out.at_ hb0).2 k hk
            have hkI : (k : Int) < (L.length : Int) := by omega
            clear hf
            generalize L[k] = x at HG2 c0 c1 c2
            by_cases h4 : g0 = 1
            · have u1 : (g0 != 1) = false := by simp [h4]
              clear h0 h1 h2 h3 h4
              obtain ⟨x0, x1, x2⟩ := HX.out
              go_enter Try.func79, Try.ntmps79
              go_wp2_with (go_at_call 92; (try rw [HW.out]); refine HF.out.mono ?_; rintro e1 w1 ⟨rfl, rfl⟩)
              go_ret
              exact ⟨ret_bool (by rw [HG2.out]; try rfl), hb0⟩
            · have u1 : (g0 != 1) = true := by simp [h4]
              have u2 : (g0 != 2) = false := by simp; omega
              clear h0 h1 h2 h3 h4
              obtain ⟨x0, x1, x2⟩ := HX.out
              go_enter Try.func79, Try.ntmps79
              go_wp2_with (go_at_call 92; (try rw [HW.out]); refine HF.out.mono ?_; rintro e1 w1 ⟨rfl, rfl⟩)
              go_ret
              exact ⟨ret_bool (by rw [HG2.out]; try rfl), hb0⟩
        · have q3 : decide (9 < g2) = true := decide_eq_true (by omega)
          have HG2 : Hid (gdB g0 g1 g2 L = false) := gd_no h0 (fun h => h3 h.2.2)
          by_cases h4 : g0 = 1
          · have u1 : (g0 != 1) = false := by simp [h4]
            clear h0 h1 h2 h3 h4
            obtain ⟨x0, x1, x2⟩ := HX.out
            go_enter Try.func79, Try.ntmps79
            go_wp2_with fail
            go_ret
            exact ⟨ret_bool HG2.out.symm, by rw [HW.out]; exact hb0⟩
          · have u1 : (g0 != 1) = true := by simp [h4]
            have u2 : (g0 != 2) = false := by simp; omega
            clear h0 h1 h2 h3 h4
            obtain ⟨x0, x1, x2⟩ := HX.out
            go_enter Try.func79, Try.ntmps79
            go_wp2_with fail
            go_ret
            exact ⟨ret_bool HG2.out.symm, by rw [HW.out]; exact hb0⟩
      · have q2 : decide (g2 < 0) = true := decide_eq_true (by omega)
        have HG2 : Hid (gdB g0 g1 g2 L = false) := gd_no h0 (fun h => h2 h.2.1)
        by_cases h4 : g0 = 1
        · have u1 : (g0 != 1) = false := by simp [h4]
          clear h0 h1 h2 h4
          obtain ⟨x0, x1, x2⟩ := HX.out
          go_enter Try.func79, Try.ntmps79
          go_wp2_with fail
          go_ret
          exact ⟨ret_bool HG2.out.symm, by rw [HW.out]; exact hb0⟩
        · have u1 : (g0 != 1) = true := by simp [h4]
          have u2 : (g0 != 2) = false := by simp; omega
          clear h0 h1 h2 h4
          obtain ⟨x0, x1, x2⟩ := HX.out
          go_enter Try.func79, Try.ntmps79
          go_wp2_with fail
          go_ret
          exact ⟨ret_bool HG2.out.symm, by rw [HW.out]; exact hb0⟩
    · have HG2 : Hid (gdB g0 g1 g2 L = false) := gd_no h0 (fun h => h1 h.1)
      have u1 : (g0 != 1) = true := by simp; omega
      have u2 : (g0 != 2) = true := by simp; omega
      clear h0 h1
      obtain ⟨x0, x1, x2⟩ := HX.out
      go_enter Try.func79, Try.ntmps79
      go_wp2_with fail
      go_ret
      exact ⟨ret_bool HG2.out.symm, by rw [HW.out]; exact hb0⟩
end Go.Proofs.Ytphmhlekfmkdkaa
/-
  ClauseValid of the program and of the document. No statement is proved here.
-/
namespace Go.Proofs.Ytphmhlekfmkdkaa
open Go.RowKit Go.Sort Go.Deep
set_option maxRecDepth 100000
set_option linter.unusedVariables false

def CBx (w : World) (b : Nat) (p : Pt) (s : Value) (g0 g1 g2 : Int) : Prop := PBx w b p s ∧ w.cell? ⟨b, 6, none⟩ = some (.int .i64 g0) ∧ w.cell? ⟨b, 7, none⟩ = some (.int .i64 g1) ∧ w.cell? ⟨b, 8, none⟩ = some (.int .i64 g2)
theorem CBx.keep {w w' : World} {b : Nat} {p : Pt} {s : Value} {g0 g1 g2 : Int} (h : CBx w b p s g0 g1 g2) (hk : w'.heap[b]? = w.heap[b]?) : CBx w' b p s g0 g1 g2 :=
  ⟨h.1.keep hk, (World.cell?_of_block (a := ⟨b, 6, none⟩) hk).trans h.2.1, (World.cell?_of_block (a := ⟨b, 7, none⟩) hk).trans h.2.2.1, (World.cell?_of_block (a := ⟨b, 8, none⟩) hk).trans h.2.2.2⟩
theorem CBx.at_ {w w' : World} {b : Nat} {p : Pt} {s : Value} {g0 g1 g2 : Int} (h : CBx w b p s g0 g1 g2) (hb : Below w.heap.size w w') : CBx w' b p s g0 g1 g2 := h.keep (hb.block b (Go.block_lt_of_cell h.1.1))
noncomputable def cvI (l : List Da) (t : Ty) (p : Pt) (g0 g1 g2 : Int) : Bool := isP l t p && gdB g0 g1 g2 (vrP l 10 t p)
noncomputable def cvT (l : List Da) (t : Ty) (p : Pt) (g0 g1 g2 : Int) : Bool := pvT l t p && gdB g0 g1 g2 (vrP l 10 t p)
section
variable {l : List Da} {t : Ty} {p : Pt} {g0 g1 g2 : Int}
theorem cvT_ty (h : TyOK l t) : cvT l t p g0 g1 g2 = cvI l t p g0 g1 g2 := by unfold cvT cvI; rw [pvT_yes h]
theorem cvT_noty (h : ¬ TyOK l t) : cvT l t p g0 g1 g2 = false := by unfold cvT; rw [pvT_no h]; rfl
theorem isP_parts (h : isP l t p = true) : shP l 10 t p = true ∧ 1 + wP p ≤ 60 ∧ linP l 10 t p = true := by
  unfold isP at h
  rw [Bool.and_eq_true, Bool.and_eq_true] at h
  exact ⟨h.1, of_decide_eq_true h.2.1, h.2.2⟩
theorem isP_int (ht : TyOK l t) (h : isP l t p = true) : IntV (vrP l 10 t p) := by
  obtain ⟨h1, _, h3⟩ := isP_parts h
  exact ⟨lin_once h1 h3, fun x hx hd => ty_int (vrP_tys ht h1 x hx) hd⟩
end

theorem slice_inj {A B : Option Addr} {n m c d : Nat} (h : Value.slice A n c = .slice B m d) : B = A ∧ m = n ∧ d = c := by
  injection h with h1 h2 h3
  exact ⟨h1.symm, h2.symm, h3.symm⟩
set_option maxHeartbeats 3200000 in
theorem l4Is_any (A D : Option Addr) (l : List Da) (cap ep e : Nat) (t : Ty) (p : Pt) (g0 g1 g2 : Int) (w : World) (hr : RDas w w.heap.size A l) (hv : RPs e w w.heap.size D p.kids) (hn : wP p ≤ 1048576) (ht : TyOK l t) :
    Calls Try.prog 54 #[.slice A l.length cap, .agg #[.int .i64 t.data, .int .i64 t.index], .agg #[.int .i64 p.op, .int .i64 p.ctor, .int .i64 p.n, .int .i64 p.m, .int .i64 p.var, .slice D p.kids.length ep, .int .i64 g0, .int .i64 g1, .int .i64 g2]] w fun e w' => e = .returned (.bool (cvI l t p g0 g1 g2)) ∧ Below w.heap.size w w' := by
  have Hr := Lib.hid hr
  have HV := Lib.hid hv
  clear hr hv
  generalize hw0 : (w.alloc (.cells #[.int .i64 t.data, .int .i64 t.index] 33)).alloc (.cells #[.int .i64 p.op, .int .i64 p.ctor, .int .i64 p.n, .int .i64 p.m, .int .i64 p.var, .slice D p.kids.length ep, .int .i64 g0, .int .i64 g1, .int .i64 g2] 56) = w0
  have hb0 : Below w.heap.size w w0 := by rw [← hw0]; exact ((Below.refl _ _).alloc (Nat.le_refl _) _).alloc (by simp) _
  have HXT : Hid (Bx w0 w.heap.size t) := by rw [← hw0]; exact ⟨by simp [go_sem], by simp [go_sem]⟩
  have HXC : Hid (CBx w0 (w.heap.size + 1) p (.slice D p.kids.length ep) g0 g1 g2) := by rw [← hw0]; exact ⟨⟨by simp [go_sem], by simp [go_sem], by simp [go_sem], by simp [go_sem], by simp [go_sem], by simp [go_sem]⟩, by simp [go_sem], by simp [go_sem], by simp [go_sem]⟩
  have HW := Lib.hid hw0
  clear hw0
  have HT := Lib.hid ht
  clear ht
  have HKS : Hid (∀ w', Below w0.heap.size w0 w' → w'.cell? ⟨w.heap.size, 0, none⟩ = some (.int .i64 t.data) ∧ w'.cell? ⟨w.heap.size, 1, none⟩ = some (.int .i64 t.index) ∧ w'.cell? ⟨w.heap.size + 1, 0, none⟩ = some (.int .i64 p.op) ∧ w'.cell? ⟨w.heap.size + 1, 1, none⟩ = some (.int .i64 p.ctor) ∧ w'.cell? ⟨w.heap.size + 1, 2, none⟩ = some (.int .i64 p.n) ∧ w'.cell? ⟨w.heap.size + 1, 3, none⟩ = some (.int .i64 p.m) ∧ w'.cell? ⟨w.heap.size + 1, 4, none⟩ = some (.int .i64 p.var) ∧ w'.cell? ⟨w.heap.size + 1, 5, none⟩ = some (.slice D p.kids.length ep) ∧ w'.cell? ⟨w.heap.size + 1, 6, none⟩ = some (.int .i64 g0) ∧ w'.cell? ⟨w.heap.size + 1, 7, none⟩ = some (.int .i64 g1) ∧ w'.cell? ⟨w.heap.size + 1, 8, none⟩ = some (.int .i64 g2)) := fun w' h => by
    obtain ⟨a, b⟩ := HXT.out.at_ h
    obtain ⟨⟨y0, y1, y2, y3, y4, y5⟩, y6, y7, y8⟩ := HXC.out.at_ h
    exact ⟨a, b, y0, y1, y2, y3, y4, y5, y6, y7, y8⟩
  by_cases hf : isP l t p = true
  · have HF := Lib.hid hf
    have HIV := Lib.hid (isP_int HT.out hf)
    have HPT := Lib.hid (isP_parts hf)
    have HG : Hid (cvI l t p g0 g1 g2 = gdB g0 g1 g2 (vrP l 10 t p)) := by unfold Hid cvI; rw [hf]; rfl
    have SQ := HKS.out w0.drew (Below.refl _ w0).drew
    clear hf
    go_enter Try.func54, Try.ntmps54
    go_wp2_with fail
    rw [HW.out]
    go_region_held3 (fun w' => w'.cell? ⟨w.heap.size, 0, none⟩ = some (.int .i64 t.data) ∧ w'.cell? ⟨w.heap.size, 1, none⟩ = some (.int .i64 t.index) ∧ w'.cell? ⟨w.heap.size + 1, 0, none⟩ = some (.int .i64 p.op) ∧ w'.cell? ⟨w.heap.size + 1, 1, none⟩ = some (.int .i64 p.ctor) ∧ w'.cell? ⟨w.heap.size + 1, 2, none⟩ = some (.int .i64 p.n) ∧ w'.cell? ⟨w.heap.size + 1, 3, none⟩ = some (.int .i64 p.m) ∧ w'.cell? ⟨w.heap.size + 1, 4, none⟩ = some (.int .i64 p.var) ∧ w'.cell? ⟨w.heap.size + 1, 5, none⟩ = some (.slice D p.kids.length ep) ∧ w'.cell? ⟨w.heap.size + 1, 6, none⟩ = some (.int .i64 g0) ∧ w'.cell? ⟨w.heap.size + 1, 7, none⟩ = some (.int .i64 g1) ∧ w'.cell? ⟨w.heap.size + 1, 8, none⟩ = some (.int .i64 g2)) (with_reducible exact SQ) (first | (go_at_call 43; (with_reducible refine (isP_any A D l cap ep e t p w0.drew (Hr.out.at_ hb0.drew) HT.out (HV.out.at_ hb0.drew) hn).mono ?_); rw [HF.out]; rintro e1 w1 ⟨rfl, hb'⟩; have hbq : Below w0.heap.size w0 w1 := ⟨hb'.os, hb'.tape, hb'.output, hb'.size, hb'.block⟩; have SQ := HKS.out _ hbq; clear hb') | (go_at_call 49; (with_reducible refine (vars_new l 10 A D cap ep e t p w1 (Hr.out.at_ (below_aft hb0 hbq hb0.size)) HT.out (HV.out.at_ (below_aft hb0 hbq hb0.size)) HPT.out.1 (by have := HPT.out.2.1; omega)).mono ?_); rintro e2 w2 ⟨A2, c2, rfl, hr2, hb'⟩; have hbq := below_aft hbq hb' hbq.size; have SQ := HKS.out _ hbq; have HR2 := Lib.hid hr2; clear hr2 hb') | (go_at_call 79; (with_reducible refine (guard_spec g0 g1 g2 A2 _ c2 w2 HR2.out HIV.out).mono ?_); rintro e3 w3 ⟨rfl, hb'⟩; have hbq := below_aft hbq hb' hbq.size; have SQ := HKS.out _ hbq; clear hb'))
    go_wp2_with fail
    go_ret
    exact ⟨ret_bool HG.out.symm, below_aft hb0 hbq hb0.size⟩
  · have hf' : isP l t p = false := by simpa using hf
    have HF := Lib.hid hf'
    have HG : Hid (cvI l t p g0 g1 g2 = false) := by unfold Hid cvI; rw [hf']; rfl
    clear hf hf'
    have HC : Hid (∀ dq osq, Calls Try.prog 43 #[.slice A l.length cap, .agg #[.int .i64 t.data, .int .i64 t.index], .agg #[.int .i64 p.op, .int .i64 p.ctor, .int .i64 p.n, .int .i64 p.m, .int .i64 p.var, .slice D p.kids.length ep]] (grow (redrawn w0 dq) osq) fun e' w' => e' = .returned (.bool false) ∧ Below (grow (redrawn w0 dq) osq).heap.size (grow (redrawn w0 dq) osq) w') := fun dq osq => by
      have h1 := isP_any A D l cap ep e t p (grow (redrawn w0 dq) osq) ((Hr.out.at_ hb0).at_ (below_regrown w0 dq osq)) HT.out ((HV.out.at_ hb0).at_ (below_regrown w0 dq osq)) hn
      rw [HF.out] at h1
      exact h1
    obtain ⟨x0, x1⟩ := HXT.out
    obtain ⟨⟨y0, y1, y2, y3, y4, y5⟩, y6, y7, y8⟩ := HXC.out
    have d0 := cell_regrown x0
    have d1 := cell_regrown x1
    have d2 := cell_regrown y0
    have d3 := cell_regrown y1
    have d4 := cell_regrown y2
    have d5 := cell_regrown y3
    have d6 := cell_regrown y4
    have d7 := cell_regrown y5
    clear x0 x1 y0 y1 y2 y3 y4 y5 y6 y7 y8
    go_enter Try.func54, Try.ntmps54
    go_wp2_with fail
    rw [HW.out]
    refine wp_region_quiet_below (by kernel_rfl) (by kernel_rfl) ?_
    repeat (quiet_step (exact Calls.regrown_of (HC.out _ _)))
    refine wpQuiet_nil ?_
    intro _ hw'
    obtain ⟨⟨dq, osq⟩, hw''⟩ := hw'
    subst hw''
    have hb2 := below_aft hb0 (below_regrown w0 dq osq) hb0.size
    clear d0 d1 d2 d3 d4 d5 d6 d7
    go_wp2_with fail
    go_ret
    exact ⟨ret_bool HG.out.symm, hb2⟩

set_option maxHeartbeats 1600000 in
theorem cv_spec (A D : Option Addr) (l : List Da) (cap ep e : Nat) (t : Ty) (p : Pt) (g0 g1 g2 : Int) (w : World) (hr : RDas w w.heap.size A l) (hv : RPs e w w.heap.size D p.kids) (hn : wP p ≤ 1048576) :
    Calls Try.prog 25 #[.slice A l.length cap, .agg #[.int .i64 t.data, .int .i64 t.index], .agg #[.int .i64 p.op, .int .i64 p.ctor, .int .i64 p.n, .int .i64 p.m, .int .i64 p.var, .slice D p.kids.length ep, .int .i64 g0, .int .i64 g1, .int .i64 g2]] w fun e w' => e = .returned (.bool (cvT l t p g0 g1 g2)) ∧ Below w.heap.size w w' := by
  have Hr := Lib.hid hr
  have HV := Lib.hid hv
  clear hr hv
  generalize hw0 : (w.alloc (.cells #[.int .i64 t.data, .int .i64 t.index] 33)).alloc (.cells #[.int .i64 p.op, .int .i64 p.ctor, .int .i64 p.n, .int .i64 p.m, .int .i64 p.var, .slice D p.kids.length ep, .int .i64 g0, .int .i64 g1, .int .i64 g2] 56) = w0
  have hb0 : Below w.heap.size w w0 := by rw [← hw0]; exact ((Below.refl _ _).alloc (Nat.le_refl _) _).alloc (by simp) _
  have HXT : Hid (Bx w0 w.heap.size t) := by rw [← hw0]; exact ⟨by simp [go_sem], by simp [go_sem]⟩
  have HXC : Hid (CBx w0 (w.heap.size + 1) p (.slice D p.kids.length ep) g0 g1 g2) := by rw [← hw0]; exact ⟨⟨by simp [go_sem], by simp [go_sem], by simp [go_sem], by simp [go_sem], by simp [go_sem], by simp [go_sem]⟩, by simp [go_sem], by simp [go_sem], by simp [go_sem]⟩
  have HW := Lib.hid hw0
  clear hw0
  by_cases ht : TyOK l t
  · have HT := Lib.hid ht
    have HF := Lib.hid (cvT_ty (p := p) (g0 := g0) (g1 := g1) (g2 := g2) ht)
    clear ht
    go_enter Try.func25, Try.ntmps25
    go_wp2_with (first | (go_at_call 42; rw [HW.out]; refine (typeV_yes (t := t) (Hr.out.at_ hb0) HT.out).mono ?_; rintro e1 w1 ⟨rfl, hb1⟩; obtain ⟨x0, x1⟩ := HXT.out.at_ hb1; obtain ⟨⟨y0, y1, y2, y3, y4, y5⟩, y6, y7, y8⟩ := HXC.out.at_ hb1; have hb1w := below_aft hb0 hb1 hb0.size) | (go_at_call 54; refine (l4Is_any A D l cap ep e t p g0 g1 g2 _ (Hr.out.at_ hb1w) (HV.out.at_ hb1w) hn HT.out).mono ?_; rintro e2 w2 ⟨rfl, hb2⟩))
    all_goals go_ret
    all_goals exact ⟨ret_bool HF.out.symm, below_aft hb1w hb2 hb1w.size⟩
  · have HT := Lib.hid ht
    have HF := Lib.hid (cvT_noty (p := p) (g0 := g0) (g1 := g1) (g2 := g2) ht)
    clear ht
    go_enter Try.func25, Try.ntmps25
    go_wp2_with (go_at_call 42; rw [HW.out]; refine (typeV_no (t := t) (Hr.out.at_ hb0) HT.out).mono ?_; rintro e1 w1 ⟨rfl, hb1⟩; have hb1w := below_aft hb0 hb1 hb0.size)
    go_ret
    exact ⟨ret_bool HF.out.symm, hb1w⟩
end Go.Proofs.Ytphmhlekfmkdkaa
/-
  ClauseValid of the program. No statement is proved here.
-/
namespace Go.Proofs.Ytphmhlekfmkdkaa
open Go.RowKit Go.Sort Go.Deep
set_option maxRecDepth 100000
set_option linter.unusedVariables false
set_option maxHeartbeats 1600000 in
theorem cv_impl (A D : Option Addr) (l : List Da) (cap ep e : Nat) (t : Ty) (p : Pt) (g0 g1 g2 : Int) (w : World) (hr : RDas w w.heap.size A l) (hv : RPs e w w.heap.size D p.kids) :
    Calls Try.prog 27 #[.slice A l.length cap, .agg #[.int .i64 t.data, .int .i64 t.index], .agg #[.int .i64 p.op, .int .i64 p.ctor, .int .i64 p.n, .int .i64 p.m, .int .i64 p.var, .slice D p.kids.length ep, .int .i64 g0, .int .i64 g1, .int .i64 g2]] w fun e w' => e = .returned (.bool (cvT l t p g0 g1 g2)) ∧ Below w.heap.size w w' := by
  have Hr := Lib.hid hr
  have HV := Lib.hid hv
  clear hr hv
  generalize hw0 : (w.alloc (.cells #[.int .i64 t.data, .int .i64 t.index] 33)).alloc (.cells #[.int .i64 p.op, .int .i64 p.ctor, .int .i64 p.n, .int .i64 p.m, .int .i64 p.var, .slice D p.kids.length ep, .int .i64 g0, .int .i64 g1, .int .i64 g2] 56) = w0
  have hb0 : Below w.heap.size w w0 := by rw [← hw0]; exact ((Below.refl _ _).alloc (Nat.le_refl _) _).alloc (by simp) _
  have HXT : Hid (Bx w0 w.heap.size t) := by rw [← hw0]; exact ⟨by simp [go_sem], by simp [go_sem]⟩
  have HXC : Hid (CBx w0 (w.heap.size + 1) p (.slice D p.kids.length ep) g0 g1 g2) := by rw [← hw0]; exact ⟨⟨by simp [go_sem], by simp [go_sem], by simp [go_sem], by simp [go_sem], by simp [go_sem], by simp [go_sem]⟩, by simp [go_sem], by simp [go_sem], by simp [go_sem]⟩
  have HW := Lib.hid hw0
  clear hw0
  have HC := Lib.hid (check_any A D l cap ep e t p w0 (Hr.out.at_ hb0) (HV.out.at_ hb0))
  obtain ⟨x0, x1⟩ := HXT.out
  obtain ⟨⟨y0, y1, y2, y3, y4, y5⟩, y6, y7, y8⟩ := HXC.out
  by_cases hf : pvT l t p = true
  · have HC2 := Lib.hid (ChQ.known hf HC.out)
    have hsh := pvT_sh hf
    have hlm : (vrP l 10 t p).length ≤ maxLen := by have := vrP_len l 10 t p hsh.1; have := hsh.2; unfold maxLen; omega
    have HG : Hid (cvT l t p g0 g1 g2 = gdB g0 g1 g2 (vrP l 10 t p)) := by unfold Hid cvT; rw [hf]; rfl
    have HLM := Lib.hid hlm
    clear hf hsh hlm
    go_enter Try.func27, Try.ntmps27
    go_wp2_with (first | (go_at_call 46; (try rw [HW.out]); go_loud (refine HC2.out.mono ?_; rintro e1 w1 ⟨A1, n1, c1, rfl, hy1, hb1⟩); obtain ⟨A1', c1', e1', hr1⟩ := (hy1 rfl).form HLM.out; obtain ⟨rfl, rfl, rfl⟩ := slice_inj e1'; have HR1 := Lib.hid hr1; clear hy1 hr1 e1'; obtain ⟨z0, z1⟩ := HXT.out.at_ hb1; obtain ⟨⟨q0, q1, q2, q3, q4, q5⟩, q6, q7, q8⟩ := HXC.out.at_ hb1; have hb1w := below_aft hb0 hb1 hb0.size) | (go_at_call 55; refine (guard_impl g0 g1 g2 A1' (vrP l 10 t p) c1' w1 HR1.out).mono ?_; rintro e2 w2 ⟨rfl, hb2⟩))
    go_ret
    exact ⟨ret_bool HG.out.symm, below_aft hb1w hb2 hb1w.size⟩
  · have hf' : pvT l t p = false := by simpa using hf
    have HC2 := Lib.hid (ChQ.known hf' HC.out)
    have HG : Hid (cvT l t p g0 g1 g2 = false) := by unfold Hid cvT; rw [hf']; rfl
    clear hf hf'
    go_enter Try.func27, Try.ntmps27
    go_wp2_with (go_at_call 46; (try rw [HW.out]); refine HC2.out.mono ?_; rintro e1 w1 ⟨A1, n1, c1, rfl, hy1, hb1⟩; clear hy1; obtain ⟨z0, z1⟩ := HXT.out.at_ hb1; have hb1w := below_aft hb0 hb1 hb0.size)
    go_ret
    exact ⟨ret_bool HG.out.symm, hb1w⟩
end Go.Proofs.Ytphmhlekfmkdkaa
/-
  Clauses: sizes, copies, comparison. No statement is proved here.
-/
namespace Go.Proofs.Ytphmhlekfmkdkaa
open Go.RowKit Go.Sort
set_option maxRecDepth 100000
set_option linter.unusedVariables false

theorem szC_any (d : Nat) (A : Option Addr) (l : List Pt) (cap : Nat) (x0 x1 x2 x3 x4 g0 g1 g2 q : Int) (w : World) (hr : RPs d w w.heap.size A l) (h0 : 0 ≤ q) (h1 : q ≤ 1048576) :
    Calls Try.prog 24 #[.agg #[.int .i64 x0, .int .i64 x1, .int .i64 x2, .int .i64 x3, .int .i64 x4, .slice A l.length cap, .int .i64 g0, .int .i64 g1, .int .i64 g2], .int .i64 q] w fun e w' => e = .returned (.int .i64 (left q (wPs l))) ∧ Below w.heap.size w w' := by
  have Hr := Lib.hid hr
  clear hr
  by_cases hc2 : (wPs l : Int) ≤ q
  · have H2 := Lib.hid (left_ok hc2)
    go_enter Try.func24, Try.ntmps24
    go_wp2_with (go_at_call 9; refine (szP_any d _ _ _ _ _ _ _ _ _ _ (by exact Hr.out.keep (fun p hp => World.cell?_alloc_lt _ _ _ hp) (by simp)) h0 h1).mono ?_; rw [H2.out]; rintro e w' ⟨rfl, hb⟩)
    go_ret
    exact ⟨ret_i64 (by rw [H2.out]), ((Below.refl _ _).alloc (Nat.le_refl _) _).trans (hb.mono (by simp))⟩
  · have H2 := Lib.hid (left_no hc2)
    go_enter Try.func24, Try.ntmps24
    go_wp2_with (go_at_call 9; refine (szP_any d _ _ _ _ _ _ _ _ _ _ (by exact Hr.out.keep (fun p hp => World.cell?_alloc_lt _ _ _ hp) (by simp)) h0 h1).mono ?_; rw [H2.out]; rintro e w' ⟨rfl, hb⟩)
    go_ret
    exact ⟨ret_i64 (by rw [H2.out]), ((Below.refl _ _).alloc (Nat.le_refl _) _).trans (hb.mono (by simp))⟩

theorem toG_any (g0 g1 g2 : Int) (w : World) : Calls Try.prog 31 #[.agg #[.int .i64 g0, .int .i64 g1, .int .i64 g2]] w fun e w' => e = .returned (.agg #[.int .i64 g0, .int .i64 g1, .int .i64 g2]) ∧ Below w.heap.size w w' := by
  go_enter Try.func31, Try.ntmps31
  go_wp2_with fail
  refine bodyPost_ret (v := .agg #[.int .i64 g0, .int .i64 g1, .int .i64 g2]) (by simp [results, Try.results31, go_sem]) rfl ⟨rfl, ?_⟩
  repeat (first | exact Below.refl _ _ | refine Below.setCell ?_ (by simp <;> omega) _ | refine Below.alloc ?_ (by simp <;> omega) _)

theorem eqG_same (g0 g1 g2 : Int) (w : World) : Calls Try.prog 56 #[.agg #[.int .i64 g0, .int .i64 g1, .int .i64 g2], .agg #[.int .i64 g0, .int .i64 g1, .int .i64 g2]] w fun e w' => e = .returned (.bool true) ∧ Below w.heap.size w w' := by
  go_enter Try.func56, Try.ntmps56
  go_wp2_with fail
  go_ret
  exact ⟨rfl, ((Below.refl _ _).alloc (Nat.le_refl _) _).alloc (by simp) _⟩

set_option maxHeartbeats 1600000 in
theorem eqC_same (d : Nat) (A A' : Option Addr) (l : List Pt) (cap cap' : Nat) (x0 x1 x2 x3 x4 g0 g1 g2 : Int) (w : World) (hr : RPs d w w.heap.size A l) (hr' : RPs d w w.heap.size A' l) :
    Calls Try.prog 28 #[.agg #[.int .i64 x0, .int .i64 x1, .int .i64 x2, .int .i64 x3, .int .i64 x4, .slice A l.length cap, .int .i64 g0, .int .i64 g1, .int .i64 g2], .agg #[.int .i64 x0, .int .i64 x1, .int .i64 x2, .int .i64 x3, .int .i64 x4, .slice A' l.length cap', .int .i64 g0, .int .i64 g1, .int .i64 g2]] w fun e w' => e = .returned (.bool true) ∧ Below w.heap.size w w' := by
  have Hr := Lib.hid hr
  have Hr' := Lib.hid hr'
  clear hr hr'
  go_enter Try.func28, Try.ntmps28
  go_wp2_with (first | (go_at_call 16; refine (eqP_same d _ _ l _ _ _ _ _ _ _ _ (by exact Hr.out.keep (keep_two _ _) (by simp; omega)) (by exact Hr'.out.keep (keep_two _ _) (by simp; omega))).mono ?_; rintro e w1 ⟨rfl, hb⟩; obtain ⟨hc, hfz⟩ := bcell hb; have hz : w.heap.size + 1 < w1.heap.size := by have := hb.size; simp at this; omega) | (go_at_call 56; refine (eqG_same _ _ _ _).mono ?_; rintro e w2 ⟨rfl, hb2⟩))
  go_ret
  exact ⟨rfl, (below_two hb).trans (hb2.mono (by have := (below_two hb).size; omega))⟩

set_option maxHeartbeats 3200000 in
theorem toC_any (d : Nat) (A : Option Addr) (l : List Pt) (cap : Nat) (x0 x1 x2 x3 x4 g0 g1 g2 : Int) (w : World) (hr : RPs d w w.heap.size A l) (hn : wPs l ≤ 1048576) :
    Calls Try.prog 26 #[.agg #[.int .i64 x0, .int .i64 x1, .int .i64 x2, .int .i64 x3, .int .i64 x4, .slice A l.length cap, .int .i64 g0, .int .i64 g1, .int .i64 g2]] w fun e w' => ∃ A2, e = .returned (.agg #[.int .i64 x0, .int .i64 x1, .int .i64 x2, .int .i64 x3, .int .i64 x4, .slice A2 l.length l.length, .int .i64 g0, .int .i64 g1, .int .i64 g2]) ∧ OPs (d + 1) w' (Nw w w') A2 l ∧ Below w.heap.size w w' := by
  have Hr := Lib.hid hr
  clear hr
  go_enter Try.func26, Try.ntmps26
  go_wp2_with (first | (go_at_call 13; refine (toPO_any d _ _ _ _ _ _ _ _ _ (by exact Hr.out.keep (fun p hp => by rw [World.cell?_alloc_lt _ _ _ (by simp <;> omega), World.cell?_alloc_lt _ _ _ (by simp <;> omega), World.cell?_alloc_lt _ _ _ hp]) (by simp <;> omega)) hn).mono ?_; rintro e w1 ⟨A2, rfl, hf, hb⟩; have HF := Lib.hid (OPs.reads d hf); obtain ⟨hc, hfz⟩ := bcell hb; have hz : w.heap.size + 2 < w1.heap.size := (by have := hb.size; simp at this; omega); have hza : w.heap.size + 1 + 1 < w1.heap.size := (by omega); have hzb : w.heap.size + 1 < w1.heap.size := (by omega); have hzc : w.heap.size < w1.heap.size := (by omega)) | (go_at_call 31; refine (toG_any _ _ _ _).mono ?_; rintro e w2 ⟨rfl, hb2⟩; obtain ⟨hc2, hfz2⟩ := bcell hb2; have hz2 : w.heap.size + 1 + 1 < w2.heap.size := by have := hb2.size; simp at this; omega))
  refine bodyPost_ret (v := .agg #[.int .i64 x0, .int .i64 x1, .int .i64 x2, .int .i64 x3, .int .i64 x4, .slice A2 l.length l.length, .int .i64 g0, .int .i64 g1, .int .i64 g2]) (by simp [results, Try.results26, go_sem, hc, hc2, hzb]) rfl ⟨A2, rfl, ?_, ?_⟩
  · refine (hf.fr _ (P' := fun b => b < w.heap.size + 3) ?_ (fun b hq => by have := hq.1; simp only [World.size_alloc] at this; omega)).wide _ (fun b hq => ⟨by have := hq.1; simp only [World.size_alloc] at this; omega, by have h2 := hq.2; have h3 := hb2.size; simp [World.setCell] at h3 ⊢; omega⟩)
    repeat (refine Fr.trans ?_ (Fr.set _ _ _ _ (by simp <;> omega)))
    refine Fr.trans ?_ (Fr.below hb2)
    repeat (refine Fr.trans ?_ (Fr.set _ _ _ _ (by simp <;> omega)))
    exact Fr.refl _ _
  · skip
    repeat (refine Below.setCell ?_ (by simp <;> omega) _)
    refine Below.trans ?_ (hb2.mono (by simp <;> omega))
    repeat (refine Below.setCell ?_ (by simp <;> omega) _)
    refine Below.trans ?_ (hb.mono (by simp <;> omega))
    refine Below.alloc (Below.alloc (Below.alloc (Below.refl _ _) ?_ _) ?_ _) ?_ _ <;> simp <;> omega
end Go.Proofs.Ytphmhlekfmkdkaa
/-
  The law FnExactClauseValid walked. No statement is proved here.
-/
namespace Go.Proofs.Ytphmhlekfmkdkaa
open Go.RowKit Go.Deep
set_option maxRecDepth 100000
set_option linter.unusedVariables false

theorem OPs.later3 {d : Nat} {w w' : World} {P : Nat → Prop} {A : Option Addr} {l : List Pt} (h : OPs d w P A l) (hb : Below w.heap.size w w') : OPs d w' P A l := h.fr _ (Fr.below (P := fun _ => False) hb) (fun _ _ h => h)

set_option maxHeartbeats 3000000 in
theorem cv_law (A D : Option Addr) (l : List Da) (cap ep e : Nat) (t : Ty) (p : Pt) (g0 g1 g2 : Int) (w : World) (hr : RDas w w.heap.size A l) (hv : RPs e w w.heap.size D p.kids) :
    Calls Try.prog 5 #[.slice A l.length cap, .agg #[.int .i64 t.data, .int .i64 t.index], .agg #[.int .i64 p.op, .int .i64 p.ctor, .int .i64 p.n, .int .i64 p.m, .int .i64 p.var, .slice D p.kids.length ep, .int .i64 g0, .int .i64 g1, .int .i64 g2]] w fun e w' => e = .returned (.bool true) ∧ Below w.heap.size w w' := by
  have Hr := Lib.hid hr
  have HV := Lib.hid hv
  clear hr hv
  generalize hw0 : (w.alloc (.cells #[.int .i64 t.data, .int .i64 t.index] 24)).alloc (.cells #[.int .i64 p.op, .int .i64 p.ctor, .int .i64 p.n, .int .i64 p.m, .int .i64 p.var, .slice D p.kids.length ep, .int .i64 g0, .int .i64 g1, .int .i64 g2] 51) = w0
  have hb0 : Below w.heap.size w w0 := by rw [← hw0]; exact ((Below.refl _ _).alloc (Nat.le_refl _) _).alloc (by simp) _
  have HXT : Hid (Bx w0 w.heap.size t) := by rw [← hw0]; exact ⟨by simp [go_sem], by simp [go_sem]⟩
  have HXV : Hid (CBx w0 (w.heap.size + 1) p (.slice D p.kids.length ep) g0 g1 g2) := by rw [← hw0]; exact ⟨⟨by simp [go_sem], by simp [go_sem], by simp [go_sem], by simp [go_sem], by simp [go_sem], by simp [go_sem]⟩, by simp [go_sem], by simp [go_sem], by simp [go_sem]⟩
  have HW := Lib.hid hw0
  clear hw0
  by_cases h1 : (wDas l : Int) ≤ 1048576
  · have H1 := Lib.hid (left_ok h1)
    by_cases h2 : (wPs p.kids : Int) ≤ 1048576 - (wDas l : Int)
    · have H2 := Lib.hid (left_ok h2)
      have hnv : wPs p.kids ≤ 1048576 := by omega
      have hnw : wP p ≤ 1048576 := by rw [wP_kids]; exact hnv
      have hnd : wDas l ≤ 1048576 := by omega
      go_enter Try.func5, Try.ntmps5
      go_wp2_with (first | (go_at_call 8; rw [HW.out]; refine (szDataS_any _ _ _ _ _ (Hr.out.at_ hb0) (by omega) (by omega)).mono ?_; rw [H1.out]; rintro e1 w1 ⟨rfl, hb1⟩; obtain ⟨⟨y0, y1, y2, y3, y4, y5⟩, y6, y7, y8⟩ := HXV.out.at_ hb1; have hb1w := below_aft hb0 hb1 hb0.size) | (go_at_call 24; refine (szC_any e D p.kids ep p.op p.ctor p.n p.m p.var g0 g1 g2 _ _ (HV.out.at_ hb1w) (by omega) (by omega)).mono ?_; rw [H2.out]; rintro e2 w2 ⟨rfl, hb2⟩; have hb2w := below_aft hb1w hb2 hb1w.size; have hb20 := below_aft hb1 hb2 hb1.size))
      clear y0 y1 y2 y3 y4 y5 y6 y7 y8
      have hS2 : w2.cell? ⟨w.heap.size, 0, none⟩ = some (.int .i64 t.data) ∧ w2.cell? ⟨w.heap.size, 1, none⟩ = some (.int .i64 t.index) ∧ w2.cell? ⟨w.heap.size + 1, 0, none⟩ = some (.int .i64 p.op) ∧ w2.cell? ⟨w.heap.size + 1, 1, none⟩ = some (.int .i64 p.ctor) ∧ w2.cell? ⟨w.heap.size + 1, 2, none⟩ = some (.int .i64 p.n) ∧ w2.cell? ⟨w.heap.size + 1, 3, none⟩ = some (.int .i64 p.m) ∧ w2.cell? ⟨w.heap.size + 1, 4, none⟩ = some (.int .i64 p.var) ∧ w2.cell? ⟨w.heap.size + 1, 5, none⟩ = some (.slice D p.kids.length ep) ∧ w2.cell? ⟨w.heap.size + 1, 6, none⟩ = some (.int .i64 g0) ∧ w2.cell? ⟨w.heap.size + 1, 7, none⟩ = some (.int .i64 g1) ∧ w2.cell? ⟨w.heap.size + 1, 8, none⟩ = some (.int .i64 g2) := by
        obtain ⟨a, b⟩ := HXT.out.at_ hb20
        obtain ⟨⟨c0, c1, c2, c3, c4, c5⟩, c6, c7, c8⟩ := HXV.out.at_ hb20
        exact ⟨a, b, c0, c1, c2, c3, c4, c5, c6, c7, c8⟩
      obtain ⟨x0, x1, y0, y1, y2, y3, y4, y5, y6, y7, y8⟩ := hS2
      go_region_held3 (fun w' => w'.cell? ⟨w.heap.size, 0, none⟩ = some (.int .i64 t.data) ∧ w'.cell? ⟨w.heap.size, 1, none⟩ = some (.int .i64 t.index) ∧ w'.cell? ⟨w.heap.size + 1, 0, none⟩ = some (.int .i64 p.op) ∧ w'.cell? ⟨w.heap.size + 1, 1, none⟩ = some (.int .i64 p.ctor) ∧ w'.cell? ⟨w.heap.size + 1, 2, none⟩ = some (.int .i64 p.n) ∧ w'.cell? ⟨w.heap.size + 1, 3, none⟩ = some (.int .i64 p.m) ∧ w'.cell? ⟨w.heap.size + 1, 4, none⟩ = some (.int .i64 p.var) ∧ w'.cell? ⟨w.heap.size + 1, 5, none⟩ = some (.slice D p.kids.length ep) ∧ w'.cell? ⟨w.heap.size + 1, 6, none⟩ = some (.int .i64 g0) ∧ w'.cell? ⟨w.heap.size + 1, 7, none⟩ = some (.int .i64 g1) ∧ w'.cell? ⟨w.heap.size + 1, 8, none⟩ = some (.int .i64 g2)) (first | exact ⟨x0, x1, y0, y1, y2, y3, y4, y5, y6, y7, y8⟩ | exact S6 | exact S5 | exact S4 | exact S3 | go_keep) (first | (go_at_call 11; refine (toDataS_any _ _ _ _ (by exact Hr.out.at_ hb2w.drew) (by omega)).mono ?_; rintro e3 w3 ⟨g3, rfl, hf3, hb3'⟩; have hb3 : Below w2.heap.size w2 w3 := ⟨hb3'.os, hb3'.tape, hb3'.output, hb3'.size, hb3'.block⟩; have R3 := Lib.hid hf3.reads; have hb3w := below_aft hb2w hb3 hb2w.size; have hb30 := below_aft hb20 hb3 hb20.size; have XT3 := HXT.out.at_ hb30; have XV3 := HXV.out.at_ hb30; have S3 := And.intro XT3.1 (And.intro XT3.2 (And.intro XV3.1.1 (And.intro XV3.1.2.1 (And.intro XV3.1.2.2.1 (And.intro XV3.1.2.2.2.1 (And.intro XV3.1.2.2.2.2.1 (And.intro XV3.1.2.2.2.2.2 (And.intro XV3.2.1 (And.intro XV3.2.2.1 XV3.2.2.2))))))))); clear hf3 hb3' hb3) | (go_at_call 12; refine (toType_any _ _ _).mono ?_; rintro e4 w4 ⟨rfl, hb4⟩; have R4 := Lib.hid (R3.out.at_ hb4); have hb4w := below_aft hb3w hb4 hb3w.size; have hb40 := below_aft hb30 hb4 hb30.size; have XT4 := HXT.out.at_ hb40; have XV4 := HXV.out.at_ hb40; have S4 := And.intro XT4.1 (And.intro XT4.2 (And.intro XV4.1.1 (And.intro XV4.1.2.1 (And.intro XV4.1.2.2.1 (And.intro XV4.1.2.2.2.1 (And.intro XV4.1.2.2.2.2.1 (And.intro XV4.1.2.2.2.2.2 (And.intro XV4.2.1 (And.intro XV4.2.2.1 XV4.2.2.2))))))))); clear hb4) | (go_at_call 26; refine (toC_any e D p.kids ep p.op p.ctor p.n p.m p.var g0 g1 g2 _ (HV.out.at_ hb4w) hnv).mono ?_; rintro e5 w5 ⟨g5, rfl, hf5, hb5⟩; have R5 := Lib.hid (R4.out.at_ hb5); have V5 := Lib.hid (OPs.reads _ hf5); have hb5w := below_aft hb4w hb5 hb4w.size; have hb50 := below_aft hb40 hb5 hb40.size; have XT5 := HXT.out.at_ hb50; have XV5 := HXV.out.at_ hb50; have S5 := And.intro XT5.1 (And.intro XT5.2 (And.intro XV5.1.1 (And.intro XV5.1.2.1 (And.intro XV5.1.2.2.1 (And.intro XV5.1.2.2.2.1 (And.intro XV5.1.2.2.2.2.1 (And.intro XV5.1.2.2.2.2.2 (And.intro XV5.2.1 (And.intro XV5.2.2.1 XV5.2.2.2))))))))); clear hf5 hb5) | (go_at_call 25; refine (cv_spec _ _ l _ _ e t p g0 g1 g2 _ R5.out V5.out hnw).mono ?_; rintro e6 w6 ⟨rfl, hb6⟩; have hb6w := below_aft hb5w hb6 hb5w.size; have hb60 := below_aft hb50 hb6 hb50.size; have XT6 := HXT.out.at_ hb60; have XV6 := HXV.out.at_ hb60; have S6 := And.intro XT6.1 (And.intro XT6.2 (And.intro XV6.1.1 (And.intro XV6.1.2.1 (And.intro XV6.1.2.2.1 (And.intro XV6.1.2.2.2.1 (And.intro XV6.1.2.2.2.2.1 (And.intro XV6.1.2.2.2.2.2 (And.intro XV6.2.1 (And.intro XV6.2.2.1 XV6.2.2.2))))))))); clear hb6))
      clear x0 x1 y0 y1 y2 y3 y4 y5 y6 y7 y8 S3 S4 S5 S6 XT3 XT4 XT5 XV3 XV4 XV5 R3 R4 R5 V5 hb3w hb4w hb5w hb30 hb40 hb50
      obtain ⟨a0, a1⟩ := XT6
      obtain ⟨⟨a2, a3, a4, a5, a6, a7⟩, a8, a9, aa⟩ := XV6
      go_wp2_with (first | (go_at_call 11; refine (toDataS_any _ _ _ _ (by exact Hr.out.at_ hb6w) (by omega)).mono ?_; rintro e7 w7 ⟨g7, rfl, hf7, hb7⟩; have R7 := Lib.hid hf7.reads; have hb7w := below_aft hb6w hb7 hb6w.size; have hb70 := below_aft hb60 hb7 hb60.size; obtain ⟨⟨c2, c3, c4, c5, c6, c7⟩, c8, c9, ca⟩ := HXV.out.at_ hb70; clear hf7 hb7) | (go_at_call 26; refine (toC_any e D p.kids ep p.op p.ctor p.n p.m p.var g0 g1 g2 _ (HV.out.at_ hb7w) hnv).mono ?_; rintro e8 w8 ⟨g8, rfl, hf8, hb8⟩; have R8 := Lib.hid (R7.out.at_ hb8); have V8 := Lib.hid (OPs.reads _ hf8); have hb8w := below_aft hb7w hb8 hb7w.size; have hb80 := below_aft hb70 hb8 hb70.size; clear hf8 hb8))
      clear a0 a1 a2 a3 a4 a5 a6 a7 a8 a9 aa c2 c3 c4 c5 c6 c7 c8 c9 ca
      obtain ⟨w9, hw9⟩ : ∃ w9, w9 = w8.alloc (.cells #[.int .i64 p.op, .int .i64 p.ctor, .int .i64 p.n, .int .i64 p.m, .int .i64 p.var, .slice g8 p.kids.length p.kids.length, .int .i64 g0, .int .i64 g1, .int .i64 g2] 56) := ⟨_, rfl⟩
      rw [← hw9]
      have hb89 : Below w8.heap.size w8 w9 := by rw [hw9]; exact (Below.refl _ _).alloc (Nat.le_refl _) _
      have HXI : Hid (CBx w9 w8.heap.size p (.slice g8 p.kids.length p.kids.length) g0 g1 g2) := by rw [hw9]; exact ⟨⟨by simp [go_sem], by simp [go_sem], by simp [go_sem], by simp [go_sem], by simp [go_sem], by simp [go_sem]⟩, by simp [go_sem], by simp [go_sem], by simp [go_sem]⟩
      have R9 := Lib.hid (R8.out.at_ hb89)
      have V9 := Lib.hid (V8.out.at_ hb89)
      have hb9w := below_aft hb8w hb89 hb8w.size
      have hb90 := below_aft hb80 hb89 hb80.size
      clear hw9 hb89 R8 V8
      obtain ⟨x0, x1⟩ := HXT.out.at_ hb90
      obtain ⟨⟨y0, y1, y2, y3, y4, y5⟩, y6, y7, y8⟩ := HXI.out
      go_region_held3 (fun w' => w'.cell? ⟨w.heap.size, 0, none⟩ = some (.int .i64 t.data) ∧ w'.cell? ⟨w.heap.size, 1, none⟩ = some (.int .i64 t.index) ∧ w'.cell? ⟨w8.heap.size, 0, none⟩ = some (.int .i64 p.op) ∧ w'.cell? ⟨w8.heap.size, 1, none⟩ = some (.int .i64 p.ctor) ∧ w'.cell? ⟨w8.heap.size, 2, none⟩ = some (.int .i64 p.n) ∧ w'.cell? ⟨w8.heap.size, 3, none⟩ = some (.int .i64 p.m) ∧ w'.cell? ⟨w8.heap.size, 4, none⟩ = some (.int .i64 p.var) ∧ w'.cell? ⟨w8.heap.size, 5, none⟩ = some (.slice g8 p.kids.length p.kids.length) ∧ w'.cell? ⟨w8.heap.size, 6, none⟩ = some (.int .i64 g0) ∧ w'.cell? ⟨w8.heap.size, 7, none⟩ = some (.int .i64 g1) ∧ w'.cell? ⟨w8.heap.size, 8, none⟩ = some (.int .i64 g2)) (first | exact ⟨x0, x1, y0, y1, y2, y3, y4, y5, y6, y7, y8⟩ | exact S11 | exact S10 | go_keep) (first | (go_at_call 12; refine (toType_any _ _ _).mono ?_; rintro e10 w10 ⟨rfl, hb10'⟩; have hb10 : Below w9.heap.size w9 w10 := ⟨hb10'.os, hb10'.tape, hb10'.output, hb10'.size, hb10'.block⟩; have R10 := Lib.hid (R9.out.at_ hb10); have V10 := Lib.hid (V9.out.at_ hb10); have hb10w := below_aft hb9w hb10 hb9w.size; have hb100 := below_aft hb90 hb10 hb90.size; have XT10 := HXT.out.at_ hb100; have XI10 := HXI.out.at_ hb10; have S10 := And.intro XT10.1 (And.intro XT10.2 (And.intro XI10.1.1 (And.intro XI10.1.2.1 (And.intro XI10.1.2.2.1 (And.intro XI10.1.2.2.2.1 (And.intro XI10.1.2.2.2.2.1 (And.intro XI10.1.2.2.2.2.2 (And.intro XI10.2.1 (And.intro XI10.2.2.1 XI10.2.2.2))))))))); clear hb10') | (go_at_call 27; refine (cv_impl _ _ l _ _ e t p g0 g1 g2 _ R10.out V10.out).mono ?_; rintro e11 w11 ⟨rfl, hb11⟩; have R11 := Lib.hid (R10.out.at_ hb11); have V11 := Lib.hid (V10.out.at_ hb11); have hb11w := below_aft hb10w hb11 hb10w.size; have hb110 := below_aft hb100 hb11 hb100.size; have hb119 := below_aft hb10 hb11 hb10.size; have XT11 := HXT.out.at_ hb110; have XI11 := HXI.out.at_ hb119; have S11 := And.intro XT11.1 (And.intro XT11.2 (And.intro XI11.1.1 (And.intro XI11.1.2.1 (And.intro XI11.1.2.2.1 (And.intro XI11.1.2.2.2.1 (And.intro XI11.1.2.2.2.2.1 (And.intro XI11.1.2.2.2.2.2 (And.intro XI11.2.1 (And.intro XI11.2.2.1 XI11.2.2.2))))))))); clear hb11))
      clear x0 x1 y0 y1 y2 y3 y4 y5 y6 y7 y8 S10 S11 XT10 XI10 XT11 XI11 R10 V10 hb10w hb100 hb10 R9 V9
      go_wp2_with (first | (go_at_call 11; refine (toDataS_any _ _ _ _ (by exact Hr.out.at_ hb11w) (by omega)).mono ?_; rintro e12 w12 ⟨g12, rfl, hf12, hb12⟩; have R12 := Lib.hid (R11.out.at_ hb12); have V12 := Lib.hid (V11.out.at_ hb12); have Q12 := Lib.hid hf12.reads; have hb12w := below_aft hb11w hb12 hb11w.size; have hb120 := below_aft hb110 hb12 hb110.size; have hb129 := below_aft hb119 hb12 hb119.size; clear hf12 hb12) | (go_at_call 15; refine (eqDataS_same _ _ _ _ _ _ R12.out Q12.out).mono ?_; rintro e13 w13 ⟨rfl, hb13⟩; have V13 := Lib.hid (V12.out.at_ hb13); have hb13w := below_aft hb12w hb13 hb12w.size; have hb130 := below_aft hb120 hb13 hb120.size; have hb139 := below_aft hb129 hb13 hb129.size; clear hb13))
      obtain ⟨⟨x2, x3, x4, x5, x6, x7⟩, x8, x9, xa⟩ := HXV.out.at_ hb130
      obtain ⟨⟨y0, y1, y2, y3, y4, y5⟩, y6, y7, y8⟩ := HXI.out.at_ hb139
      go_region_held3 (fun w' => w'.cell? ⟨w.heap.size + 1, 0, none⟩ = some (.int .i64 p.op) ∧ w'.cell? ⟨w.heap.size + 1, 1, none⟩ = some (.int .i64 p.ctor) ∧ w'.cell? ⟨w.heap.size + 1, 2, none⟩ = some (.int .i64 p.n) ∧ w'.cell? ⟨w.heap.size + 1, 3, none⟩ = some (.int .i64 p.m) ∧ w'.cell? ⟨w.heap.size + 1, 4, none⟩ = some (.int .i64 p.var) ∧ w'.cell? ⟨w.heap.size + 1, 5, none⟩ = some (.slice D p.kids.length ep) ∧ w'.cell? ⟨w.heap.size + 1, 6, none⟩ = some (.int .i64 g0) ∧ w'.cell? ⟨w.heap.size + 1, 7, none⟩ = some (.int .i64 g1) ∧ w'.cell? ⟨w.heap.size + 1, 8, none⟩ = some (.int .i64 g2) ∧ w'.cell? ⟨w8.heap.size, 0, none⟩ = some (.int .i64 p.op) ∧ w'.cell? ⟨w8.heap.size, 1, none⟩ = some (.int .i64 p.ctor) ∧ w'.cell? ⟨w8.heap.size, 2, none⟩ = some (.int .i64 p.n) ∧ w'.cell? ⟨w8.heap.size, 3, none⟩ = some (.int .i64 p.m) ∧ w'.cell? ⟨w8.heap.size, 4, none⟩ = some (.int .i64 p.var) ∧ w'.cell? ⟨w8.heap.size, 5, none⟩ = some (.slice g8 p.kids.length p.kids.length) ∧ w'.cell? ⟨w8.heap.size, 6, none⟩ = some (.int .i64 g0) ∧ w'.cell? ⟨w8.heap.size, 7, none⟩ = some (.int .i64 g1) ∧ w'.cell? ⟨w8.heap.size, 8, none⟩ = some (.int .i64 g2)) (first | exact ⟨x2, x3, x4, x5, x6, x7, x8, x9, xa, y0, y1, y2, y3, y4, y5, y6, y7, y8⟩ | exact S15 | exact S14 | go_keep) (first | (go_at_call 26; refine (toC_any e D p.kids ep p.op p.ctor p.n p.m p.var g0 g1 g2 _ (by exact HV.out.at_ hb13w.drew) hnv).mono ?_; rintro e14 w14 ⟨g14, rfl, hf14, hb14'⟩; have hb14 : Below w13.heap.size w13 w14 := ⟨hb14'.os, hb14'.tape, hb14'.output, hb14'.size, hb14'.block⟩; have V14 := Lib.hid (V13.out.at_ hb14); have Q14 := Lib.hid (OPs.reads _ hf14); have hb14w := below_aft hb13w hb14 hb13w.size; have hb140 := below_aft hb130 hb14 hb130.size; have hb149 := below_aft hb139 hb14 hb139.size; have XV14 := HXV.out.at_ hb140; have XI14 := HXI.out.at_ hb149; have S14 := And.intro XV14.1.1 (And.intro XV14.1.2.1 (And.intro XV14.1.2.2.1 (And.intro XV14.1.2.2.2.1 (And.intro XV14.1.2.2.2.2.1 (And.intro XV14.1.2.2.2.2.2 (And.intro XV14.2.1 (And.intro XV14.2.2.1 (And.intro XV14.2.2.2 (And.intro XI14.1.1 (And.intro XI14.1.2.1 (And.intro XI14.1.2.2.1 (And.intro XI14.1.2.2.2.1 (And.intro XI14.1.2.2.2.2.1 (And.intro XI14.1.2.2.2.2.2 (And.intro XI14.2.1 (And.intro XI14.2.2.1 XI14.2.2.2)))))))))))))))); clear hf14 hb14') | (go_at_call 28; refine (eqC_same e _ _ p.kids _ _ p.op p.ctor p.n p.m p.var g0 g1 g2 _ V14.out Q14.out).mono ?_; rintro e15 w15 ⟨rfl, hb15⟩; have hb15w := below_aft hb14w hb15 hb14w.size; have hb150 := below_aft hb140 hb15 hb140.size; have hb159 := below_aft hb149 hb15 hb149.size; have XV15 := HXV.out.at_ hb150; have XI15 := HXI.out.at_ hb159; have S15 := And.intro XV15.1.1 (And.intro XV15.1.2.1 (And.intro XV15.1.2.2.1 (And.intro XV15.1.2.2.2.1 (And.intro XV15.1.2.2.2.2.1 (And.intro XV15.1.2.2.2.2.2 (And.intro XV15.2.1 (And.intro XV15.2.2.1 (And.intro XV15.2.2.2 (And.intro XI15.1.1 (And.intro XI15.1.2.1 (And.intro XI15.1.2.2.1 (And.intro XI15.1.2.2.2.1 (And.intro XI15.1.2.2.2.2.1 (And.intro XI15.1.2.2.2.2.2 (And.intro XI15.2.1 (And.intro XI15.2.2.1 XI15.2.2.2)))))))))))))))); clear hb15))
      clear x2 x3 x4 x5 x6 x7 x8 x9 xa y0 y1 y2 y3 y4 y5 y6 y7 y8 S14 S15 XV14 XI14 XV15 XI15
      go_wp2_with fail
      go_ret
      exact ⟨rfl, hb15w⟩
    · have H2 := Lib.hid (left_no h2)
      go_enter Try.func5, Try.ntmps5
      go_wp2_with (first | (go_at_call 8; rw [HW.out]; refine (szDataS_any _ _ _ _ _ (Hr.out.at_ hb0) (by omega) (by omega)).mono ?_; rw [H1.out]; rintro e1 w1 ⟨rfl, hb1⟩; obtain ⟨⟨y0, y1, y2, y3, y4, y5⟩, y6, y7, y8⟩ := HXV.out.at_ hb1; have hb1w := below_aft hb0 hb1 hb0.size) | (go_at_call 24; refine (szC_any e D p.kids ep p.op p.ctor p.n p.m p.var g0 g1 g2 _ _ (HV.out.at_ hb1w) (by omega) (by omega)).mono ?_; rw [H2.out]; rintro e2 w2 ⟨rfl, hb2⟩; have hb2w := below_aft hb1w hb2 hb1w.size))
      go_ret
      exact ⟨rfl, hb2w⟩
  · have H1 := Lib.hid (left_no h1)
    go_enter Try.func5, Try.ntmps5
    go_wp2_with (go_at_call 8; rw [HW.out]; refine (szDataS_any _ _ _ _ _ (Hr.out.at_ hb0) (by omega) (by omega)).mono ?_; rw [H1.out]; rintro e1 w1 ⟨rfl, hb1⟩; have hb1w := below_aft hb0 hb1 hb0.size)
    go_ret
    exact ⟨rfl, hb1w⟩
end Go.Proofs.Ytphmhlekfmkdkaa
