/-
  PatternValid and PatternVars of the program. No statement is proved here.
-/
import Derived.Test.YthecfkdilbfimaaGreatG24
namespace Go.Proofs.YthecfkdilbfimaaGreat
open Go.RowKit Go.Sort Go.Deep
set_option maxRecDepth 100000
set_option linter.unusedVariables false

theorem voZ_any (l : List Da) : ∀ d : Nat, d ≤ 20 → VoZ l d (d : Int)
  | 0, _ => fun A D cap ep e lo g n t p w hr ht hv hc hn => by
    by_cases ho : OwnOK l t p
    · exact vo_zero l A D cap ep e lo g n t p w hr ht hv hc hn ho
    · exact vo_own l 0 _ A D cap ep e lo g n t p w hr ht hv hc hn ho
  | d + 1, hd => fun A D cap ep e lo g n t p w hr ht hv hc hn => by
    have ih := voZ_any l d (by omega)
    have hz : ((d + 1 : Nat) : Int) - 1 = (d : Int) := by omega
    have hq : (((d + 1 : Nat) : Int) == 0) = false := ieq_f (by omega)
    by_cases ho : OwnOK l t p
    · by_cases hb : 60 < n + 1
      · exact vo_big l (d + 1) _ hq A D cap ep e lo g n t p w hr ht hv hc hn ho hb
      · by_cases hl : p.kids.length = (tysP l t p).length
        · exact vo_step l d _ (by omega) (by omega) (by rw [hz]; exact ih) A D cap ep e lo g n t p w hr ht hv hc hn ho (by omega) hl
        · exact vo_len l (d + 1) _ hq A D cap ep e lo g n t p w hr ht hv hc hn ho (by omega) hl
    · exact vo_own l (d + 1) _ A D cap ep e lo g n t p w hr ht hv hc hn ho

def ChQ (l : List Da) (t : Ty) (p : Pt) (w : World) (b : Bool) (e : Ending) (w' : World) : Prop := ∃ A' n' c', e = .returned (.tuple #[.slice A' n' c', .bool b]) ∧ (b = true → OVt w' w.heap.size (.slice A' n' c') (vrP l 10 t p)) ∧ Below w.heap.size w w'
theorem ChQ.no {l : List Da} {t : Ty} {p : Pt} {w w' : World} {b : Bool} (hf : b = false) (hb : Below w.heap.size w w') : ChQ l t p w b (.returned (.tuple #[.slice none 0 0, .bool false])) w' := ⟨none, 0, 0, by rw [hf], (fun h => by rw [hf] at h; cases h), hb⟩
set_option maxHeartbeats 1600000 in
theorem check_any (A D : Option Addr) (l : List Da) (cap ep e : Nat) (t : Ty) (p : Pt) (w : World) (hr : RDas w w.heap.size A l) (hv : RPs e w w.heap.size D p.kids) :
    Calls Tryz.prog 112 #[.slice A l.length cap, .agg #[.int .i64 t.data, .int .i64 t.index], .agg #[.int .i64 p.op, .int .i64 p.ctor, .int .i64 p.n, .int .i64 p.m, .int .i64 p.var, .slice D p.kids.length ep]] w (ChQ l t p w (pvT l t p)) := by
  have Hr := Lib.hid hr
  have HV := Lib.hid hv
  clear hr hv
  generalize hw0 : (w.alloc (.cells #[.int .i64 t.data, .int .i64 t.index] 31)).alloc (.cells #[.int .i64 p.op, .int .i64 p.ctor, .int .i64 p.n, .int .i64 p.m, .int .i64 p.var, .slice D p.kids.length ep] 45) = w0
  have hb0 := below_box2 hw0
  have HXT : Hid (Bx w0 w.heap.size t) := by rw [← hw0]; exact ⟨by simp [go_sem], by simp [go_sem]⟩
  have HXP : Hid (PBx w0 (w.heap.size + 1) p (.slice D p.kids.length ep)) := by rw [← hw0]; exact ⟨by simp [go_sem], by simp [go_sem], by simp [go_sem], by simp [go_sem], by simp [go_sem], by simp [go_sem]⟩
  have HW := Lib.hid hw0
  clear hw0
  obtain ⟨u0, u1⟩ := HXT.out
  by_cases ht : TyOK l t
  · have HT := Lib.hid ht
    have HF : Hid (okP l 10 t p 0 = pvT l t p) := by unfold Hid; rw [pvT_yes ht, okP_is]
    clear ht
    go_enter Tryz.func112, Tryz.ntmps112
    go_wp2_with (go_at_call 59; rw [HW.out]; refine (typeI_yes (t := t) (Hr.out.at_ hb0) HT.out).mono ?_; rintro e1 w1 ⟨rfl, hb1⟩; have HXT1 := Lib.hid (HXT.out.at_ hb1); have HXP1 := Lib.hid (HXP.out.at_ hb1); obtain ⟨x0, x1⟩ := HXT1.out; obtain ⟨y0, y1, y2, y3, y4, y5⟩ := HXP1.out; have hb1w := below_aft hb0 hb1 hb0.size; have hlt0 : w.heap.size < w1.heap.size := Go.block_lt_of_cell x0; have hlt1 : w.heap.size + 1 < w1.heap.size := Go.block_lt_of_cell y0)
    have hbA : Below w1.heap.size w1 (w1.alloc (.cells #[.slice A l.length cap, .int .i64 0] 213)) := (Below.refl _ _).alloc (Nat.le_refl _) _
    have hck : CkB (w1.alloc (.cells #[.slice A l.length cap, .int .i64 0] 213)) w1.heap.size w1.heap.size A l.length cap 0 := World.ownsRow_lit w1 #[.slice A l.length cap, .int .i64 0] 1 (Nat.le_refl _) (by unfold maxLen; omega) rfl
    have HVO := Lib.hid (voZ_any l 10 (by omega) A D cap ep e w1.heap.size w1.heap.size 0 t p _ ((Hr.out.at_ hb1w).below hbA (Nat.le_refl _)) HT.out ((HV.out.at_ hb1w).below hbA (Nat.le_refl _)) hck (by omega))
    clear hck
    go_wp2_with (go_at_call 164; refine HVO.out.mono ?_; rw [HF.out]; rintro e2 w2 ⟨A2, n2, c2, rfl, hy2, hg2⟩; have HY2 := Lib.hid (fun h => (hy2 h).1); have HG2 := Lib.hid hg2; clear hy2 hg2)
    go_ret2
    have hs1 := hb1w.size
    have hsA := hbA.size
    have hg3 : Below w1.heap.size w1 w2 := hbA.trans (grown_low HG2.out (fun q e => by have := Option.some.inj e; omega) hsA)
    exact ⟨A2, n2, c2, rfl, fun h => (HY2.out h).lower (by omega), hb1w.trans (hg3.mono hs1)⟩
  · have HT := Lib.hid ht
    have HF := Lib.hid (pvT_no (p := p) ht)
    clear ht
    go_enter Tryz.func112, Tryz.ntmps112
    go_wp2_with (go_at_call 59; rw [HW.out]; refine (typeI_no (t := t) (Hr.out.at_ hb0) HT.out).mono ?_; rintro e1 w1 ⟨rfl, hb1⟩; have hb1w := below_aft hb0 hb1 hb0.size)
    go_ret2
    exact ChQ.no HF.out hb1w
theorem ChQ.known {l : List Da} {t : Ty} {p : Pt} {w : World} {b : Bool} (hf : pvT l t p = b) {P : Program} {f : Nat} {args : Array Value} (h : Calls P f args w (ChQ l t p w (pvT l t p))) : Calls P f args w (ChQ l t p w b) := by rw [← hf]; exact h
theorem pv_impl (A D : Option Addr) (l : List Da) (cap ep e : Nat) (t : Ty) (p : Pt) (w : World) (hr : RDas w w.heap.size A l) (hv : RPs e w w.heap.size D p.kids) :
    Calls Tryz.prog 68 #[.slice A l.length cap, .agg #[.int .i64 t.data, .int .i64 t.index], .agg #[.int .i64 p.op, .int .i64 p.ctor, .int .i64 p.n, .int .i64 p.m, .int .i64 p.var, .slice D p.kids.length ep]] w fun e w' => e = .returned (.bool (pvT l t p)) ∧ Below w.heap.size w w' := by
  have Hr := Lib.hid hr
  have HV := Lib.hid hv
  clear hr hv
  generalize hw0 : (w.alloc (.cells #[.int .i64 t.data, .int .i64 t.index] 31)).alloc (.cells #[.int .i64 p.op, .int .i64 p.ctor, .int .i64 p.n, .int .i64 p.m, .int .i64 p.var, .slice D p.kids.length ep] 45) = w0
  have hb0 := below_box2 hw0
  have HXT : Hid (Bx w0 w.heap.size t) := by rw [← hw0]; exact ⟨by simp [go_sem], by simp [go_sem]⟩
  have HXP : Hid (PBx w0 (w.heap.size + 1) p (.slice D p.kids.length ep)) := by rw [← hw0]; exact ⟨by simp [go_sem], by simp [go_sem], by simp [go_sem], by simp [go_sem], by simp [go_sem], by simp [go_sem]⟩
  have HW := Lib.hid hw0
  clear hw0
  go_enter Tryz.func68, Tryz.ntmps68
  go_wp2_with (go_at_call 112; rw [HW.out]; refine (check_any A D l cap ep e t p w0 (Hr.out.at_ hb0) (HV.out.at_ hb0)).mono ?_; rintro e1 w1 ⟨A1, n1, c1, rfl, hy1, hb1⟩; clear hy1; have hb1w := below_aft hb0 hb1 hb0.size)
  go_ret
  exact ⟨rfl, hb1w⟩

/-- What PatternVars hands back. -/
noncomputable def pvL (l : List Da) (t : Ty) (p : Pt) : List Vt := if pvT l t p = true then vrP l 10 t p else []
theorem pvL_yes {l : List Da} {t : Ty} {p : Pt} (h : pvT l t p = true) : pvL l t p = vrP l 10 t p := if_pos h
theorem pvL_no {l : List Da} {t : Ty} {p : Pt} (h : pvT l t p = false) : pvL l t p = [] := if_neg (by rw [h]; simp)
theorem pvT_sh {l : List Da} {t : Ty} {p : Pt} (h : pvT l t p = true) : shP l 10 t p = true ∧ 1 + wP p ≤ 60 := by
  unfold pvT isP at h
  rw [Bool.and_eq_true, Bool.and_eq_true, Bool.and_eq_true] at h
  exact ⟨h.2.1, of_decide_eq_true h.2.2.1⟩
theorem pvL_len (l : List Da) (t : Ty) (p : Pt) : (pvL l t p).length ≤ 60 := by
  by_cases h : pvT l t p = true
  · obtain ⟨h1, h2⟩ := pvT_sh h
    rw [pvL_yes h]
    have := vrP_len l 10 t p h1
    omega
  · rw [pvL_no (by simpa using h)]; simp
end Go.Proofs.YthecfkdilbfimaaGreat
/-
  When a guard is right for the variables of a pattern: both functions. No statement is proved here.
-/
namespace Go.Proofs.YthecfkdilbfimaaGreat
open Go.RowKit Go.Sort Go.Deep
set_option maxRecDepth 100000
set_option linter.unusedVariables false

noncomputable def gdB (g0 g1 g2 : Int) (L : List Vt) : Bool := if g0 = 0 then decide (g1 = 0 ∧ g2 = 0) else decide ((g0 = 1 ∨ g0 = 2) ∧ 0 ≤ g2 ∧ g2 ≤ 9) && dec ((⟨g1, ⟨-1, 0⟩⟩ : Vt) ∈ L)
section
variable {g0 g1 g2 : Int} {L : List Vt}
theorem gd_none (h : g0 = 0) : gdB g0 g1 g2 L = decide (g1 = 0 ∧ g2 = 0) := if_pos h
theorem gd_yes (h : ¬ g0 = 0) (h' : (g0 = 1 ∨ g0 = 2) ∧ 0 ≤ g2 ∧ g2 ≤ 9) : gdB g0 g1 g2 L = dec ((⟨g1, ⟨-1, 0⟩⟩ : Vt) ∈ L) := by unfold gdB; rw [if_neg h, decide_eq_true h']; rfl
theorem gd_no (h : ¬ g0 = 0) (h' : ¬ ((g0 = 1 ∨ g0 = 2) ∧ 0 ≤ g2 ∧ g2 ≤ 9)) : gdB g0 g1 g2 L = false := by unfold gdB; rw [if_neg h, decide_eq_false h']; rfl
end
theorem eqlGd (a b c : Int) (w : World) : (Go.binOp .eql 91 (.agg #[.int .i64 a, .int .i64 b, .int .i64 c]) (.agg #[.int .i64 0, .int .i64 0, .int .i64 0])).run Tryz.prog w = .ok (.bool (decide (a = 0 ∧ b = 0 ∧ c = 0))) w := by
  have hS : Tryz.prog.underlying 91 = some (.struct (Tryz.prog.fieldsOf 91)) := by kernel_rfl
  have hp : Tryz.prog.stoodInHeld 91 = false := by kernel_rfl
  have u3 := Tryz.underlying3
  have a3 := Tryz.isAgg3
  have z3 := Tryz.sizeOf3
  rw [run_eql_struct, show (10000 : Nat) = 9999 + 1 from rfl, run_equalIn_agg w 9999 91 _ _ hS hp]
  simp only [Program.fieldsOf, Tryz.underlying91]
  go_simp
  by_cases h1 : a = 0 <;> by_cases h2 : b = 0 <;> by_cases h3 : c = 0 <;> simp_all
theorem guardGd (x y : Operand) (xs ys : Array Value) (w : World) : (eqGuard .eql 91 x y (.agg xs) (.agg ys)).run Tryz.prog w = .ok () w := run_eqGuard_agg (P := Tryz.prog) w .eql 91 x y xs ys (by kernel_rfl)

theorem cond_any (g0 g1 g2 : Int) (w : World) : Calls Tryz.prog 141 #[.agg #[.int .i64 g0, .int .i64 g1, .int .i64 g2]] w fun e w' => ∃ v, e = .returned (.tuple #[v, .bool (decide (g0 = 1 ∨ g0 = 2))]) ∧ Below w.heap.size w w' := by
  by_cases h1 : g0 = 1
  · have u1 := ieq_t h1
    have HD : Hid (decide (g0 = 1 ∨ g0 = 2) = true) := decide_eq_true (.inl h1)
    have HQ : Hid (∀ v w', Below w.heap.size w w' → ∃ v', Ending.returned (.tuple #[v, .bool true]) = .returned (.tuple #[v', .bool (decide (g0 = 1 ∨ g0 = 2))]) ∧ Below w.heap.size w w') := fun v w' hb => ⟨v, by rw [HD.out], hb⟩
    clear h1
    go_enter Tryz.func141, Tryz.ntmps141
    go_wp2_with fail
    go_ret2
    exact HQ.out _ _ ((Below.refl _ _).alloc (Nat.le_refl _) _)
  · have u1 := ieq_f h1
    by_cases h2 : g0 = 2
    · have u2 := ieq_t h2
      have HD : Hid (decide (g0 = 1 ∨ g0 = 2) = true) := decide_eq_true (.inr h2)
      have HQ : Hid (∀ v w', Below w.heap.size w w' → ∃ v', Ending.returned (.tuple #[v, .bool true]) = .returned (.tuple #[v', .bool (decide (g0 = 1 ∨ g0 = 2))]) ∧ Below w.heap.size w w') := fun v w' hb => ⟨v, by rw [HD.out], hb⟩
      clear h1 h2
      go_enter Tryz.func141, Tryz.ntmps141
      go_wp2_with fail
      go_ret2
      exact HQ.out _ _ ((Below.refl _ _).alloc (Nat.le_refl _) _)
    · have u2 := ieq_f h2
      have HD : Hid (decide (g0 = 1 ∨ g0 = 2) = false) := decide_eq_false (by omega)
      have HQ : Hid (∀ v w', Below w.heap.size w w' → ∃ v', Ending.returned (.tuple #[v, .bool false]) = .returned (.tuple #[v', .bool (decide (g0 = 1 ∨ g0 = 2))]) ∧ Below w.heap.size w w') := fun v w' hb => ⟨v, by rw [HD.out], hb⟩
      clear h1 h2
      go_enter Tryz.func141, Tryz.ntmps141
      go_wp2_with fail
      go_ret2
      exact HQ.out _ _ ((Below.refl _ _).alloc (Nat.le_refl _) _)

def GBx (w : World) (b : Nat) (g0 g1 g2 : Int) : Prop := w.cell? ⟨b, 0, none⟩ = some (.int .i64 g0) ∧ w.cell? ⟨b, 1, none⟩ = some (.int .i64 g1) ∧ w.cell? ⟨b, 2, none⟩ = some (.int .i64 g2)
theorem GBx.at_ {w w' : World} {b : Nat} {g0 g1 g2 : Int} (h : GBx w b g0 g1 g2) (hb : Below w.heap.size w w') : GBx w' b g0 g1 g2 := by
  have hk := hb.block b (Go.block_lt_of_cell h.1)
  exact ⟨(World.cell?_of_block (a := ⟨b, 0, none⟩) hk).trans h.1, (World.cell?_of_block (a := ⟨b, 1, none⟩) hk).trans h.2.1, (World.cell?_of_block (a := ⟨b, 2, none⟩) hk).trans h.2.2⟩
set_option maxHeartbeats 3200000 in
theorem guard_impl (g0 g1 g2 : Int) (A : Option Addr) (L : List Vt) (cap : Nat) (w : World) (hr : RVts w w.heap.size A L) :
    Calls Tryz.prog 113 #[.agg #[.int .i64 g0, .int .i64 g1, .int .i64 g2], .slice A L.length cap] w fun e w' => e = .returned (.bool (gdB g0 g1 g2 L)) ∧ Below w.heap.size w w' := by
  have Hr := Lib.hid hr
  clear hr
  generalize hw0 : w.alloc (.cells #[.int .i64 g0, .int .i64 g1, .int .i64 g2] 91) = w0
  have hb0 : Below w.heap.size w w0 := by rw [← hw0]; exact (Below.refl _ _).alloc (Nat.le_refl _) _
  have HX : Hid (GBx w0 w.heap.size g0 g1 g2) := by rw [← hw0]; exact ⟨by simp [go_sem], by simp [go_sem], by simp [go_sem]⟩
  have HW := Lib.hid hw0
  clear hw0
  by_cases h0 : g0 = 0
  · have u0 := ieq_t h0
    have HG : Hid (gdB g0 g1 g2 L = decide (g0 = 0 ∧ g1 = 0 ∧ g2 = 0)) := by unfold Hid; rw [gd_none h0]; simp [h0]
    have hq := eqlGd g0 g1 g2
    have gd := guardGd
    clear h0
    go_enter Tryz.func113, Tryz.ntmps113
    go_wp2_with fail
    go_ret
    exact ⟨ret_bool (by rw [HG.out]; simp), by rw [HW.out]; exact hb0⟩
  · have u0 := ieq_f h0
    have HC := Lib.hid (cond_any g0 g1 g2 w0)
    have HCV := Lib.hid (containsVt_any A L cap ⟨g1, ⟨-1, 0⟩⟩)
    by_cases h1 : g0 = 1 ∨ g0 = 2
    · have HD : Hid (decide (g0 = 1 ∨ g0 = 2) = true) := decide_eq_true h1
      by_cases h2 : 0 ≤ g2
      · have q2 : decide (0 ≤ g2) = true := decide_eq_true h2
        by_cases h3 : g2 ≤ 9
        · have q3 : decide (g2 ≤ 9) = true := decide_eq_true h3
          have HG : Hid (gdB g0 g1 g2 L = dec ((⟨g1, ⟨-1, 0⟩⟩ : Vt) ∈ L)) := gd_yes h0 ⟨h1, h2, h3⟩
          clear h0 h1 h2 h3
          obtain ⟨x0, x1, x2⟩ := HX.out
          go_enter Tryz.func113, Tryz.ntmps113
          go_wp2_with (first | (go_at_call 141; (try rw [HW.out]); refine HC.out.mono ?_; rw [HD.out]; rintro e1 w1 ⟨v1, rfl, hb1⟩; obtain ⟨y0, y1, y2⟩ := HX.out.at_ hb1; have hb1w := below_aft hb0 hb1 hb0.size) | (go_at_call 165; refine (HCV.out w1 (Hr.out.at_ hb1w)).mono ?_; rintro e2 w2 ⟨rfl, hb2⟩))
          go_ret
          exact ⟨ret_bool HG.out.symm, below_aft hb1w hb2 hb1w.size⟩
        · have q3 : decide (g2 ≤ 9) = false := decide_eq_false h3
          have HG : Hid (gdB g0 g1 g2 L = false) := gd_no h0 (fun h => h3 h.2.2)
          clear h0 h1 h2 h3
          obtain ⟨x0, x1, x2⟩ := HX.out
          go_enter Tryz.func113, Tryz.ntmps113
          go_wp2_with (go_at_call 141; (try rw [HW.out]); refine HC.out.mono ?_; rw [HD.out]; rintro e1 w1 ⟨v1, rfl, hb1⟩; obtain ⟨y0, y1, y2⟩ := HX.out.at_ hb1; have hb1w := below_aft hb0 hb1 hb0.size)
          go_ret
          exact ⟨ret_bool HG.out.symm, hb1w⟩
      · have q2 : decide (0 ≤ g2) = false := decide_eq_false h2
        have HG : Hid (gdB g0 g1 g2 L = false) := gd_no h0 (fun h => h2 h.2.1)
        clear h0 h1 h2
        obtain ⟨x0, x1, x2⟩ := HX.out
        go_enter Tryz.func113, Tryz.ntmps113
        go_wp2_with (go_at_call 141; (try rw [HW.out]); refine HC.out.mono ?_; rw [HD.out]; rintro e1 w1 ⟨v1, rfl, hb1⟩; obtain ⟨y0, y1, y2⟩ := HX.out.at_ hb1; have hb1w := below_aft hb0 hb1 hb0.size)
        go_ret
        exact ⟨ret_bool HG.out.symm, hb1w⟩
    · have HD : Hid (decide (g0 = 1 ∨ g0 = 2) = false) := decide_eq_false h1
      have HG : Hid (gdB g0 g1 g2 L = false) := gd_no h0 (fun h => h1 h.1)
      clear h0 h1
      by_cases h2 : 0 ≤ g2
      · have q2 : decide (0 ≤ g2) = true := decide_eq_true h2
        by_cases h3 : g2 ≤ 9
        · have q3 : decide (g2 ≤ 9) = true := decide_eq_true h3
          clear h2 h3
          obtain ⟨x0, x1, x2⟩ := HX.out
          go_enter Tryz.func113, Tryz.ntmps113
          go_wp2_with (go_at_call 141; (try rw [HW.out]); refine HC.out.mono ?_; rw [HD.out]; rintro e1 w1 ⟨v1, rfl, hb1⟩; obtain ⟨y0, y1, y2⟩ := HX.out.at_ hb1; have hb1w := below_aft hb0 hb1 hb0.size)
          go_ret
          exact ⟨ret_bool HG.out.symm, hb1w⟩
        · have q3 : decide (g2 ≤ 9) = false := decide_eq_false h3
          clear h2 h3
          obtain ⟨x0, x1, x2⟩ := HX.out
          go_enter Tryz.func113, Tryz.ntmps113
          go_wp2_with (go_at_call 141; (try rw [HW.out]); refine HC.out.mono ?_; rw [HD.out]; rintro e1 w1 ⟨v1, rfl, hb1⟩; obtain ⟨y0, y1, y2⟩ := HX.out.at_ hb1; have hb1w := below_aft hb0 hb1 hb0.size)
          go_ret
          exact ⟨ret_bool HG.out.symm, hb1w⟩
      · have q2 : decide (0 ≤ g2) = false := decide_eq_false h2
        clear h2
        obtain ⟨x0, x1, x2⟩ := HX.out
        go_enter Tryz.func113, Tryz.ntmps113
        go_wp2_with (go_at_call 141; (try rw [HW.out]); refine HC.out.mono ?_; rw [HD.out]; rintro e1 w1 ⟨v1, rfl, hb1⟩; obtain ⟨y0, y1, y2⟩ := HX.out.at_ hb1; have hb1w := below_aft hb0 hb1 hb0.size)
        go_ret
        exact ⟨ret_bool HG.out.symm, hb1w⟩

theorem ty_int {l : List Da} {t : Ty} (h : TyOK l t) (hd : t.data = -1) : t.index = 0 := by
  have h2 := h.2
  rw [argB_int hd] at h2
  exact of_decide_eq_true h2
theorem vrP_tys {l : List Da} : ∀ {d : Nat} {t : Ty} {p : Pt}, TyOK l t → shP l d t p = true → ∀ x ∈ vrP l d t p, TyOK l x.ty
  | 0, t, p, _, h => by rw [shP_zero] at h; cases h
  | d + 1, t, p, ht, h => fun x hx => by
    obtain ⟨h1, h2, h3⟩ := shP_parts h
    rw [vrP_go] at hx
    rcases List.mem_append.1 hx with hx | hx
    · by_cases hn : p.op = 2 ∨ p.op = 6
      · rw [hdV_yes hn] at hx
        rw [List.mem_singleton.1 hx]
        exact ht
      · rw [hdV_no hn] at hx; cases hx
    · obtain ⟨i, hi, hx⟩ := catV_mem hx
      have hil : i < (tysP l t p).length := Nat.lt_of_lt_of_le hi (limV_le l t p)
      rw [kidR_at hil (by omega)] at hx
      exact vrP_tys (tysP_ok ht h1 _ (List.getElem_mem hil)) (h3 i hil (by omega)) x hx
def IntV (L : List Vt) : Prop := Once L ∧ ∀ x ∈ L, x.ty.data = -1 → x.ty.index = 0
theorem mem_no {L : List Vt} {n : Int} (hI : IntV L) (h : findV L n = -1) : dec ((⟨n, ⟨-1, 0⟩⟩ : Vt) ∈ L) = false := dec_f (fun hm => by
  obtain ⟨k, hk, e⟩ := List.mem_iff_getElem.1 hm
  have h1 := hI.1.at_ hk
  rw [e] at h1
  simp only at h1
  omega)
theorem mem_at {L : List Vt} {n : Int} {k : Nat} (hI : IntV L) (hk : k < L.length) (h : findV L n = k) : dec ((⟨n, ⟨-1, 0⟩⟩ : Vt) ∈ L) = decide (L[k].ty.data = -1) := by
  by_cases hd : L[k].ty.data = -1
  · have h1 := findV_var h hk
    have h2 := hI.2 _ (List.getElem_mem hk) hd
    have h3 : L[k] = ⟨n, ⟨-1, 0⟩⟩ := by
      cases hx : L[k] with | mk v t => cases t with | mk a b => rw [hx] at h1 h2 hd; simp only at h1 h2 hd; rw [h1, h2, hd]
    rw [dec_t (by rw [← h3]; exact List.getElem_mem hk), decide_eq_true hd]
  · rw [decide_eq_false hd]
    refine dec_f (fun hm => hd ?_)
    obtain ⟨j, hj, e⟩ := List.mem_iff_getElem.1 hm
    have h1 := hI.1.at_ hj
    rw [e] at h1
    simp only at h1
    have h2 : j = k := by omega
    subst h2
    rw [e]

set_option maxHeartbeats 3200000 in
theorem guard_spec (g0 g1 g2 : Int) (A : Option Addr) (L : List Vt) (cap : Nat) (w : World) (hr : RVts w w.heap.size A L) (hI : IntV L) :
    Calls Tryz.prog 108 #[.agg #[.int .i64 g0, .int .i64 g1, .int .i64 g2], .slice A L.length cap] w fun e w' => e = .returned (.bool (gdB g0 g1 g2 L)) ∧ Below w.heap.size w w' := by
  have Hr := Lib.hid hr
  have HI := Lib.hid hI
  clear hr hI
  generalize hw0 : w.alloc (.cells #[.int .i64 g0, .int .i64 g1, .int .i64 g2] 91) = w0
  have hb0 : Below w.heap.size w w0 := by rw [← hw0]; exact (Below.refl _ _).alloc (Nat.le_refl _) _
  have HX : Hid (GBx w0 w.heap.size g0 g1 g2) := by rw [← hw0]; exact ⟨by simp [go_sem], by simp [go_sem], by simp [go_sem]⟩
  have HW := Lib.hid hw0
  clear hw0
  by_cases h0 : g0 = 0
  · have u0 := ieq_t h0
    have HG : Hid (gdB g0 g1 g2 L = decide (g1 = 0 ∧ g2 = 0)) := gd_none h0
    clear h0
    by_cases h1 : g1 = 0
    · have u1 := ieq_t h1
      by_cases h2 : g2 = 0
      · have u2 := ieq_t h2
        have HG2 : Hid (gdB g0 g1 g2 L = true) := by unfold Hid; rw [HG.out]; exact decide_eq_true ⟨h1, h2⟩
        clear h1 h2
        obtain ⟨x0, x1, x2⟩ := HX.out
        go_enter Tryz.func108, Tryz.ntmps108
        go_wp2_with fail
        go_ret
        exact ⟨ret_bool HG2.out.symm, by rw [HW.out]; exact hb0⟩
      · have u2 := ieq_f h2
        have HG2 : Hid (gdB g0 g1 g2 L = false) := by unfold Hid; rw [HG.out]; exact decide_eq_false (fun h => h2 h.2)
        clear h1 h2
        obtain ⟨x0, x1, x2⟩ := HX.out
        go_enter Tryz.func108, Tryz.ntmps108
        go_wp2_with fail
        go_ret
        exact ⟨ret_bool HG2.out.symm, by rw [HW.out]; exact hb0⟩
    · have u1 := ieq_f h1
      have HG2 : Hid (gdB g0 g1 g2 L = false) := by unfold Hid; rw [HG.out]; exact decide_eq_false (fun h => h1 h.1)
      clear h1
      obtain ⟨x0, x1, x2⟩ := HX.out
      go_enter Tryz.func108, Tryz.ntmps108
      go_wp2_with fail
      go_ret
      exact ⟨ret_bool HG2.out.symm, by rw [HW.out]; exact hb0⟩
  · have u0 := ieq_f h0
    by_cases h1 : g0 = 1 ∨ g0 = 2
    · by_cases h2 : 0 ≤ g2
      · have q2 : decide (g2 < 0) = false := decide_eq_false (by omega)
        by_cases h3 : g2 ≤ 9
        · have q3 : decide (9 < g2) = false := decide_eq_false (by omega)
          have HG : Hid (gdB g0 g1 g2 L = dec ((⟨g1, ⟨-1, 0⟩⟩ : Vt) ∈ L)) := gd_yes h0 ⟨h1, h2, h3⟩
          have HF := Lib.hid (find_any A L cap g1 w0 (Hr.out.at_ hb0))
          rcases findV_cases L g1 with hf | ⟨k, hk, hf⟩
          · have HG2 : Hid (gdB g0 g1 g2 L = false) := by unfold Hid; rw [HG.out]; exact mem_no HI.out hf
            rw [hf] at HF
            clear hf
            by_cases h4 : g0 = 1
            · have u1 : (g0 != 1) = false := by simp [h4]
              clear h0 h1 h2 h3 h4
              obtain ⟨x0, x1, x2⟩ := HX.out
              go_enter Tryz.func108, Tryz.ntmps108
              go_wp2_with (go_at_call 162; (try rw [HW.out]); refine HF.out.mono ?_; rintro e1 w1 ⟨rfl, rfl⟩)
              go_ret
              exact ⟨ret_bool HG2.out.symm, hb0⟩
            · have u1 : (g0 != 1) = true := by simp [h4]
              have u2 : (g0 != 2) = false := by simp; omega
              clear h0 h1 h2 h3 h4
              obtain ⟨x0, x1, x2⟩ := HX.out
              go_enter Tryz.func108, Tryz.ntmps108
              go_wp2_with (go_at_call 162; (try rw [HW.out]); refine HF.out.mono ?_; rintro e1 w1 ⟨rfl, rfl⟩)
              go_ret
              exact ⟨ret_bool HG2.out.symm, hb0⟩
          · have HG2 : Hid (gdB g0 g1 g2 L = decide (L[k].ty.data = -1)) := by unfold Hid; rw [HG.out]; exact mem_at HI.out hk hf
            rw [hf] at HF
            obtain ⟨b, off, rfl, hbB, c0, c1, c2⟩ := (Hr.out.at_ hb0).2 k hk
            have hkI : (k : Int) < (L.length : Int) := by omega
            clear hf
            generalize L[k] = x at HG2 c0 c1 c2
            by_cases h4 : g0 = 1
            · have u1 : (g0 != 1) = false := by simp [h4]
              clear h0 h1 h2 h3 h4
              obtain ⟨x0, x1, x2⟩ := HX.out
              go_enter Tryz.func108, Tryz.ntmps108
              go_wp2_with (go_at_call 162; (try rw [HW.out]); refine HF.out.mono ?_; rintro e1 w1 ⟨rfl, rfl⟩)
              go_ret
              exact ⟨ret_bool (by rw [HG2.out]; try rfl), hb0⟩
            · have u1 : (g0 != 1) = true := by simp [h4]
              have u2 : (g0 != 2) = false := by simp; omega
              clear h0 h1 h2 h3 h4
              obtain ⟨x0, x1, x2⟩ := HX.out
              go_enter Tryz.func108, Tryz.ntmps108
              go_wp2_with (go_at_call 162; (try rw [HW.out]); refine HF.out.mono ?_; rintro e1 w1 ⟨rfl, rfl⟩)
              go_ret
              exact ⟨ret_bool (by rw [HG2.out]; try rfl), hb0⟩
        · have q3 : decide (9 < g2) = true := decide_eq_true (by omega)
          have HG2 : Hid (gdB g0 g1 g2 L = false) := gd_no h0 (fun h => h3 h.2.2)
          by_cases h4 : g0 = 1
          · have u1 : (g0 != 1) = false := by simp [h4]
            clear h0 h1 h2 h3 h4
            obtain ⟨x0, x1, x2⟩ := HX.out
            go_enter Tryz.func108, Tryz.ntmps108
            go_wp2_with fail
            go_ret
            exact ⟨ret_bool HG2.out.symm, by rw [HW.out]; exact hb0⟩
          · have u1 : (g0 != 1) = true := by simp [h4]
            have u2 : (g0 != 2) = false := by simp; omega
            clear h0 h1 h2 h3 h4
            obtain ⟨x0, x1, x2⟩ := HX.out
            go_enter Tryz.func108, Tryz.ntmps108
            go_wp2_with fail
            go_ret
            exact ⟨ret_bool HG2.out.symm, by rw [HW.out]; exact hb0⟩
      · have q2 : decide (g2 < 0) = true := decide_eq_true (by omega)
        have HG2 : Hid (gdB g0 g1 g2 L = false) := gd_no h0 (fun h => h2 h.2.1)
        by_cases h4 : g0 = 1
        · have u1 : (g0 != 1) = false := by simp [h4]
          clear h0 h1 h2 h4
          obtain ⟨x0, x1, x2⟩ := HX.out
          go_enter Tryz.func108, Tryz.ntmps108
          go_wp2_with fail
          go_ret
          exact ⟨ret_bool HG2.out.symm, by rw [HW.out]; exact hb0⟩
        · have u1 : (g0 != 1) = true := by simp [h4]
          have u2 : (g0 != 2) = false := by simp; omega
          clear h0 h1 h2 h4
          obtain ⟨x0, x1, x2⟩ := HX.out
          go_enter Tryz.func108, Tryz.ntmps108
          go_wp2_with fail
          go_ret
          exact ⟨ret_bool HG2.out.symm, by rw [HW.out]; exact hb0⟩
    · have HG2 : Hid (gdB g0 g1 g2 L = false) := gd_no h0 (fun h => h1 h.1)
      have u1 : (g0 != 1) = true := by simp; omega
      have u2 : (g0 != 2) = true := by simp; omega
      clear h0 h1
      obtain ⟨x0, x1, x2⟩ := HX.out
      go_enter Tryz.func108, Tryz.ntmps108
      go_wp2_with fail
      go_ret
      exact ⟨ret_bool HG2.out.symm, by rw [HW.out]; exact hb0⟩
end Go.Proofs.YthecfkdilbfimaaGreat
