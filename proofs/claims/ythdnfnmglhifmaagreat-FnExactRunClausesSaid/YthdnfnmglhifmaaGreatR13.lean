/-
  ValueValid of the program and of the document. No statement is proved here.
-/
import Derived.Test.YthdnfnmglhifmaaGreatR12
import Derived.Test.YthdnfnmglhifmaaGreatR04
import Derived.Test.YthdnfnmglhifmaaGreatR06
import Derived.Test.YthdnfnmglhifmaaGreatR07
import Derived.Test.YthdnfnmglhifmaaGreatR00
import Derived.Test.YthdnfnmglhifmaaGreatR05
import Derived.Test.YthdnfnmglhifmaaGreatR01
namespace Go.Proofs.YthdnfnmglhifmaaGreat
open Go.RowKit Go.Sort Go.Deep
set_option maxRecDepth 100000
set_option linter.unusedVariables false
noncomputable def vvT (l : List Da) (t : Ty) (v : Vl) : Bool := dec (TyOK l t) && isV l t v
theorem vvT_yes {l : List Da} {t : Ty} {v : Vl} (h : TyOK l t) : vvT l t v = isV l t v := by unfold vvT; rw [dec_t h]; rfl
theorem vvT_no {l : List Da} {t : Ty} {v : Vl} (h : ¬ TyOK l t) : vvT l t v = false := by unfold vvT; rw [dec_f h]; rfl
theorem ndS_any (l : List Da) : ∀ d, d < 100 → NdS l d
  | 0, _ => ndS_zero l
  | d + 1, h => ndS_step l d (by omega) (ndS_any l d (by omega))
theorem vv_impl (A D : Option Addr) (l : List Da) (cap ep e : Nat) (t : Ty) (v : Vl) (w : World) (hr : RDas w w.heap.size A l) (hv : RVs e w w.heap.size D v.kids) (hn : wV v ≤ 16000000) :
    Calls Tryz.prog 18 #[.slice A l.length cap, .agg #[.int .i64 t.data, .int .i64 t.index], .agg #[.int .i64 v.ctor, .int .i64 v.n, .slice D v.kids.length ep]] w fun e w' => e = .returned (.bool (vvT l t v)) ∧ Below w.heap.size w w' := by
  have Hr := Lib.hid hr
  have HV := Lib.hid hv
  have IN : Hid (NdC l 10 10) := ndS_any l 10 (by omega)
  clear hr hv
  generalize hw0 : (w.alloc (.cells #[.int .i64 t.data, .int .i64 t.index] 25)).alloc (.cells #[.int .i64 v.ctor, .int .i64 v.n, .slice D v.kids.length ep] 31) = w0
  have hb0 := below_box2 hw0
  have HXT : Hid (Bx w0 w.heap.size t) := by rw [← hw0]; exact ⟨by simp [go_sem], by simp [go_sem]⟩
  have HXV : Hid (VBx w0 (w.heap.size + 1) v.ctor v.n (.slice D v.kids.length ep)) := by rw [← hw0]; exact ⟨by simp [go_sem], by simp [go_sem], by simp [go_sem]⟩
  have HW := Lib.hid hw0
  clear hw0
  by_cases ht : TyOK l t
  · have HT := Lib.hid ht
    have HF := Lib.hid (vvT_yes (v := v) ht)
    clear ht
    by_cases hf : fitV l 10 t v = true
    · have HFT := Lib.hid hf
      have HND := Lib.hid (ndR_yes hf)
      have hr1 : (0 : Int) ≤ 1 + (wV v : Int) := by omega
      have hr2 : 1 + (wV v : Int) ≤ 16000001 := by omega
      have HIS : Hid (isV l t v = decide (1 + (wV v : Int) ≤ 60)) := by
        unfold Hid isV; rw [hf]
        show decide _ = decide _
        simp only [decide_eq_decide]; omega
      generalize hrr : 1 + (wV v : Int) = r at hr1 hr2 HND HIS
      clear hf hrr
      go_enter Tryz.func18, Tryz.ntmps18
      go_wp2_with (first | (go_at_call 65; rw [HW.out]; refine (typeI_yes (t := t) (Hr.out.at_ hb0) HT.out).mono ?_; rintro e1 w1 ⟨rfl, hb1⟩; obtain ⟨x0, x1⟩ := HXT.out.at_ hb1; obtain ⟨y0, y1, y2⟩ := HXV.out.at_ hb1; have hb1w := below_aft hb0 hb1 hb0.size) | (go_at_call 66; refine (IN.out.known A D cap ep e t v _ _ _ HFT.out HND.out (Hr.out.at_ hb1w) HT.out (HV.out.at_ hb1w) hn).mono ?_; rintro e2 w2 ⟨rfl, hb2⟩))
      all_goals go_ret
      all_goals exact ⟨ret_bool (by rw [HF.out, HIS.out]), below_aft hb1w hb2 hb1w.size⟩
    · have hf' : fitV l 10 t v = false := by simpa using hf
      have HFT := Lib.hid hf'
      have HIS := Lib.hid (isV_fit hf')
      clear hf hf'
      go_enter Tryz.func18, Tryz.ntmps18
      go_wp2_with (first | (go_at_call 65; rw [HW.out]; refine (typeI_yes (t := t) (Hr.out.at_ hb0) HT.out).mono ?_; rintro e1 w1 ⟨rfl, hb1⟩; obtain ⟨x0, x1⟩ := HXT.out.at_ hb1; obtain ⟨y0, y1, y2⟩ := HXV.out.at_ hb1; have hb1w := below_aft hb0 hb1 hb0.size) | (go_at_call 66; refine (IN.out.known A D cap ep e t v _ _ _ HFT.out rfl (Hr.out.at_ hb1w) HT.out (HV.out.at_ hb1w) hn).mono ?_; rintro e2 w2 ⟨rfl, hb2⟩))
      all_goals go_ret
      all_goals exact ⟨ret_bool (by rw [HF.out, HIS.out]), below_aft hb1w hb2 hb1w.size⟩
  · have HT := Lib.hid ht
    have HF := Lib.hid (vvT_no (v := v) ht)
    clear ht
    go_enter Tryz.func18, Tryz.ntmps18
    go_wp2_with (go_at_call 65; rw [HW.out]; refine (typeI_no (t := t) (Hr.out.at_ hb0) HT.out).mono ?_; rintro e1 w1 ⟨rfl, hb1⟩; have hb1w := below_aft hb0 hb1 hb0.size)
    go_ret
    exact ⟨ret_bool HF.out.symm, hb1w⟩
end Go.Proofs.YthdnfnmglhifmaaGreat
/-
  PatternValid of the document. No statement is proved here.
-/
namespace Go.Proofs.YthdnfnmglhifmaaGreat
open Go.RowKit Go.Sort Go.Deep
set_option maxRecDepth 100000
set_option linter.unusedVariables false
noncomputable def isP (l : List Da) (t : Ty) (p : Pt) : Bool := shP l 10 t p && (decide (1 + wP p ≤ 60) && linP l 10 t p)
theorem isP_sh {l : List Da} {t : Ty} {p : Pt} (h : shP l 10 t p = false) : isP l t p = false := by unfold isP; rw [h]; rfl
theorem isP_big {l : List Da} {t : Ty} {p : Pt} (h : ¬ 1 + wP p ≤ 60) : isP l t p = false := by unfold isP; rw [decide_eq_false h]; simp
theorem isP_go {l : List Da} {t : Ty} {p : Pt} (h : shP l 10 t p = true) (h' : 1 + wP p ≤ 60) : isP l t p = linP l 10 t p := by unfold isP; rw [h, decide_eq_true h']; rfl
noncomputable def pvT (l : List Da) (t : Ty) (p : Pt) : Bool := dec (TyOK l t) && isP l t p
theorem pvT_yes {l : List Da} {t : Ty} {p : Pt} (h : TyOK l t) : pvT l t p = isP l t p := by unfold pvT; rw [dec_t h]; rfl
theorem pvT_no {l : List Da} {t : Ty} {p : Pt} (h : ¬ TyOK l t) : pvT l t p = false := by unfold pvT; rw [dec_f h]; rfl
set_option maxHeartbeats 1600000 in
theorem isP_any (A D : Option Addr) (l : List Da) (cap ep e : Nat) (t : Ty) (p : Pt) (w : World) (hr : RDas w w.heap.size A l) (ht : TyOK l t) (hv : RPs e w w.heap.size D p.kids) (hn : wP p ≤ 1048576) :
    Calls Tryz.prog 122 #[.slice A l.length cap, .agg #[.int .i64 t.data, .int .i64 t.index], .agg #[.int .i64 p.op, .int .i64 p.ctor, .int .i64 p.n, .int .i64 p.m, .int .i64 p.var, .slice D p.kids.length ep]] w fun e w' => e = .returned (.bool (isP l t p)) ∧ Below w.heap.size w w' := by
  have HR := Lib.hid hr
  have HT := Lib.hid ht
  have HV := Lib.hid hv
  have IS : Hid (ShC l 10 10) := shS_any l 10 (by omega)
  clear hr ht hv
  generalize hw0 : (w.alloc (.cells #[.int .i64 t.data, .int .i64 t.index] 25)).alloc (.cells #[.int .i64 p.op, .int .i64 p.ctor, .int .i64 p.n, .int .i64 p.m, .int .i64 p.var, .slice D p.kids.length ep] 28) = w0
  have hb0 := below_box2 hw0
  have HXT : Hid (Bx w0 w.heap.size t) := by rw [← hw0]; exact ⟨by simp [go_sem], by simp [go_sem]⟩
  have HXP : Hid (PBx w0 (w.heap.size + 1) p (.slice D p.kids.length ep)) := by rw [← hw0]; exact ⟨by simp [go_sem], by simp [go_sem], by simp [go_sem], by simp [go_sem], by simp [go_sem], by simp [go_sem]⟩
  have HW := Lib.hid hw0
  clear hw0
  obtain ⟨x0, x1⟩ := HXT.out
  obtain ⟨y0, y1, y2, y3, y4, y5⟩ := HXP.out
  by_cases hf : shP l 10 t p = true
  · have HF := Lib.hid hf
    clear hf
    by_cases h60 : 1 + wP p ≤ 60
    · have HI := Lib.hid (isP_go HF.out h60)
      go_enter Tryz.func122, Tryz.ntmps122
      go_wp2_with (first | (go_at_call 185; rw [HW.out]; refine (IS.out.known A D cap ep e t p true _ HF.out (HR.out.at_ hb0) HT.out (HV.out.at_ hb0)).mono ?_; rintro e1 w1 ⟨rfl, hb1⟩; obtain ⟨u0, u1⟩ := HXT.out.at_ hb1; obtain ⟨z0, z1, z2, z3, z4, z5⟩ := HXP.out.at_ hb1; have hb1w := below_aft hb0 hb1 hb0.size) | (go_at_call 186; refine (cntPS_any e D ep p 60 _ (HV.out.at_ hb1w) hn (by omega) (by omega)).mono ?_; rintro e2 w2 ⟨r, rfl, hr, hb2⟩; have HC := Lib.hid hr; obtain ⟨z0, z1⟩ := HXT.out.at_ (hb1.trans (hb2.mono hb1.size)); obtain ⟨y0', y1', y2', y3', y4', y5'⟩ := HXP.out.at_ (hb1.trans (hb2.mono hb1.size)); have hb2w := below_aft hb1w hb2 hb1w.size; have hq : decide (r ≤ 60) = true := decide_eq_true (by have := HC.out.1 (by omega); omega); clear hr) | (go_at_call 187; refine (linC_any l 10 A D cap ep e t p _ (HR.out.at_ hb2w) HT.out (HV.out.at_ hb2w) HF.out (by omega)).mono ?_; rintro e3 w3 ⟨rfl, hb3⟩))
      all_goals go_ret
      all_goals exact ⟨ret_bool HI.out.symm, below_aft hb2w hb3 hb2w.size⟩
    · have HI := Lib.hid (isP_big (l := l) (t := t) h60)
      go_enter Tryz.func122, Tryz.ntmps122
      go_wp2_with (first | (go_at_call 185; rw [HW.out]; refine (IS.out.known A D cap ep e t p true _ HF.out (HR.out.at_ hb0) HT.out (HV.out.at_ hb0)).mono ?_; rintro e1 w1 ⟨rfl, hb1⟩; obtain ⟨u0, u1⟩ := HXT.out.at_ hb1; obtain ⟨z0, z1, z2, z3, z4, z5⟩ := HXP.out.at_ hb1; have hb1w := below_aft hb0 hb1 hb0.size) | (go_at_call 186; refine (cntPS_any e D ep p 60 _ (HV.out.at_ hb1w) hn (by omega) (by omega)).mono ?_; rintro e2 w2 ⟨r, rfl, hr, hb2⟩; have HC := Lib.hid hr; obtain ⟨z0, z1⟩ := HXT.out.at_ (hb1.trans (hb2.mono hb1.size)); obtain ⟨y0', y1', y2', y3', y4', y5'⟩ := HXP.out.at_ (hb1.trans (hb2.mono hb1.size)); have hb2w := below_aft hb1w hb2 hb1w.size; have hq : decide (r ≤ 60) = false := decide_eq_false (by have := HC.out.2.1 (by omega); omega); clear hr))
      all_goals go_ret
      all_goals exact ⟨ret_bool HI.out.symm, hb2w⟩
  · have hf' : shP l 10 t p = false := by simpa using hf
    have HF := Lib.hid hf'
    have HI := Lib.hid (isP_sh hf')
    clear hf hf'
    go_enter Tryz.func122, Tryz.ntmps122
    go_wp2_with (go_at_call 185; rw [HW.out]; refine (IS.out.known A D cap ep e t p false _ HF.out (HR.out.at_ hb0) HT.out (HV.out.at_ hb0)).mono ?_; rintro e1 w1 ⟨rfl, hb1⟩; obtain ⟨u0, u1⟩ := HXT.out.at_ hb1; obtain ⟨z0, z1, z2, z3, z4, z5⟩ := HXP.out.at_ hb1; have hb1w := below_aft hb0 hb1 hb0.size)
    go_ret
    exact ⟨ret_bool HI.out.symm, hb1w⟩
end Go.Proofs.YthdnfnmglhifmaaGreat
/-
  Whether some value matches a pattern: plain mathematics. No statement is proved here.
-/
namespace Go.Proofs.YthdnfnmglhifmaaGreat
open Go.RowKit
set_option maxRecDepth 100000
set_option linter.unusedVariables false
section
variable {l : List Da} {d : Nat} {t : Ty} {p : Pt}
theorem getD_kid {ks : List Pt} {i : Nat} (h : i < ks.length) : ks.getD i default = ks[i] := by
  rw [List.getD_eq_getElem?_getD, List.getElem?_eq_getElem h]; rfl
/-- The kinds of node that a pattern of the right shape has. -/
theorem own_ops (h : OwnOK l t p) : p.op = 1 ∨ p.op = 2 ∨ p.op = 3 ∨ p.op = 4 ∨ p.op = 5 ∨ p.op = 6 := by
  rcases h.2.2.2.2 with h | h | h | h | h | h
  · exact .inl h
  · exact .inr (.inl h)
  · exact .inr (.inr (.inr (.inr (.inl h))))
  · exact .inr (.inr (.inr (.inr (.inr h))))
  · exact .inr (.inr (.inl h.1))
  · exact .inr (.inr (.inr (.inl h.1)))
/-- A pattern of two alternatives has two parts, for the same type. -/
theorem or_partsP (h : shP l (d + 1) t p = true) (h5 : p.op = 5) : p.kids.length = 2 ∧ (∀ (h0 : 0 < p.kids.length), shP l d t p.kids[0] = true) ∧ (∀ (h1 : 1 < p.kids.length), shP l d t p.kids[1] = true) := by
  obtain ⟨ho, hl, hk⟩ := shP_parts h
  have ht : tysP l t p = [t, t] := by rw [tysP_other (by omega), h5]; rfl
  rw [ht] at hl
  refine ⟨hl, fun h0 => ?_, fun h1 => ?_⟩
  · have := hk 0 (by rw [ht]; simp) h0
    simpa only [ht, List.getElem_cons_zero] using this
  · have := hk 1 (by rw [ht]; simp) h1
    simpa only [ht, List.getElem_cons_succ, List.getElem_cons_zero] using this
theorem as_partsP (h : shP l (d + 1) t p = true) (h6 : p.op = 6) : p.kids.length = 1 ∧ (∀ (h0 : 0 < p.kids.length), shP l d t p.kids[0] = true) := by
  obtain ⟨ho, hl, hk⟩ := shP_parts h
  have ht : tysP l t p = [t] := by rw [tysP_other (by omega), h6]; rfl
  rw [ht] at hl
  refine ⟨hl, fun h0 => ?_⟩
  have := hk 0 (by rw [ht]; simp) h0
  simpa only [ht, List.getElem_cons_zero] using this
theorem ctor_partsP (h : shP l (d + 1) t p = true) (h4 : p.op = 4) : p.ctor ∈ ctR l t ∧ p.kids.length = (agR l t p.ctor).length ∧ ∀ i (h : i < (agR l t p.ctor).length) (h' : i < p.kids.length), shP l d (agR l t p.ctor)[i] p.kids[i] = true := by
  obtain ⟨ho, hl, hk⟩ := shP_parts h
  have ht := tysP_ctor (l := l) (t := t) h4
  refine ⟨ho.mem h4, by rw [← ht]; exact hl, fun i hi hi' => ?_⟩
  have := hk i (by rw [ht]; exact hi) hi'
  simpa only [ht] using this
end
end Go.Proofs.YthdnfnmglhifmaaGreat
/-
  The functions that count how much values hold. No statement is proved here.
-/
namespace Go.Proofs.YthdnfnmglhifmaaGreat
open Go.RowKit
set_option maxRecDepth 100000
set_option linter.unusedVariables false
def SzS (d : Nat) : Prop := ∀ (A : Option Addr) (l : List Vl) (cap : Nat) (q : Int) (w : World), RVs d w w.heap.size A l → 0 ≤ q → q ≤ 1048576 →
  Calls Tryz.prog 102 #[.slice A l.length cap, .int .i64 q] w fun e w' => e = .returned (.int .i64 (left q (wVs l))) ∧ Below w.heap.size w w'
theorem szV_of {d : Nat} (ih : SzS d) (A : Option Addr) (l : List Vl) (cap : Nat) (c n q : Int) (w : World) (hr : RVs d w w.heap.size A l) (h0 : 0 ≤ q) (h1 : q ≤ 1048576) :
    Calls Tryz.prog 37 #[.agg #[.int .i64 c, .int .i64 n, .slice A l.length cap], .int .i64 q] w fun e w' => e = .returned (.int .i64 (left q (wVs l))) ∧ Below w.heap.size w w' := by
  have Hr := Lib.hid hr
  have IH := Lib.hid ih
  clear hr ih
  by_cases hc2 : (wVs l : Int) ≤ q
  · have H2 := Lib.hid (left_ok hc2)
    go_enter Tryz.func37, Tryz.ntmps37
    go_wp2_with (go_at_call 102; refine (IH.out _ _ _ _ _ (by exact Hr.out.keep (fun p hp => World.cell?_alloc_lt _ _ _ hp) (by simp)) h0 h1).mono ?_; rw [H2.out]; rintro e w' ⟨rfl, hb⟩)
    go_ret
    exact ⟨ret_i64 (by rw [H2.out]), ((Below.refl _ _).alloc (Nat.le_refl _) _).trans (hb.mono (by simp))⟩
  · have H2 := Lib.hid (left_no hc2)
    go_enter Tryz.func37, Tryz.ntmps37
    go_wp2_with (go_at_call 102; refine (IH.out _ _ _ _ _ (by exact Hr.out.keep (fun p hp => World.cell?_alloc_lt _ _ _ hp) (by simp)) h0 h1).mono ?_; rw [H2.out]; rintro e w' ⟨rfl, hb⟩)
    go_ret
    exact ⟨ret_i64 (by rw [H2.out]), ((Below.refl _ _).alloc (Nat.le_refl _) _).trans (hb.mono (by simp))⟩
set_option maxHeartbeats 400000 in
theorem szS_of (d : Nat) (ih : ∀ d', d = d' + 1 → SzS d') : SzS d := by
  intro A l cap q0 w hr h0 h1
  have hn := hr.1
  unfold maxLen at hn
  have Hr := Lib.hid hr
  have IH := Lib.hid ih
  have HSum := Lib.hid (wVs_sum l)
  clear hr ih
  by_cases hc : (l.length : Int) ≤ q0
  · go_enter Tryz.func102, Tryz.ntmps102
    go_wp2_with fail
    go_loopw [1, 5] (fun t i wr => ∃ k : Nat, k ≤ l.length ∧ i = .int .i64 k ∧ ∃ q : Int, 0 ≤ q ∧ q ≤ 1048576 ∧ t = .int .i64 q ∧ Hid (q = q0 - (l.length + ((l.take k).map wV).sum : Nat)) ∧ Below w.heap.size w wr) (fun _ i _ => l.length - (intOf i).toNat)
    case atStart => exact ⟨0, by omega, rfl, _, by omega, by omega, rfl, by unfold Hid; simp, Below.refl _ _⟩
    case round =>
      obtain ⟨k, hk, rfl, q, hq0, hq1, rfl, HQ, hb⟩ := hrel
      by_cases hlt : k < l.length
      · obtain ⟨b, off, rfl, hbB, hv⟩ := (Hr.out.below hb (Nat.le_refl _)).2 k hlt
        obtain ⟨d', hd, A', cp, c0, c1, c2, hm⟩ := hv.parts
        have HS := Lib.hid (sum_take_succ wV l k hlt)
        have HL := Lib.hid (sum_take_le wV l (k + 1))
        have HW := Lib.hid (wV_kids l[k])
        have Hm := Lib.hid (hm.keep (fun _ _ => rfl) hb.size)
        have IHd := Lib.hid (IH.out d' hd)
        clear hm hv hd
        by_cases hc2 : (wVs l[k].kids : Int) ≤ q
        · have H2 := Lib.hid (left_ok hc2)
          go_wp2_with (go_at_call 37; refine (szV_of IHd.out _ _ _ _ _ _ _ Hm.out (by omega) (by omega)).mono ?_; rw [H2.out]; rintro e w' ⟨rfl, hb'⟩)
          have hb2 := hb.trans (hb'.mono hb.size)
          go_roundw
          case rel => exact ⟨k + 1, by omega, by go_num, _, by omega, by omega, rfl, by unfold Hid; rw [HS.out, HW.out, HQ.out]; omega, hb2⟩
          case measure => simp [intOf]; omega
        · have H2 := Lib.hid (left_no hc2)
          have H := Lib.hid (left_no (l := q0) (n := wVs l) (by rw [HSum.out]; rw [HQ.out] at hc2; rw [HS.out, HW.out] at HL; have := HL.out; omega))
          go_wp2_with (go_at_call 37; refine (szV_of IHd.out _ _ _ _ _ _ _ Hm.out (by omega) (by omega)).mono ?_; rw [H2.out]; rintro e w' ⟨rfl, hb'⟩)
          have hb2 := hb.trans (hb'.mono hb.size)
          go_ret
          exact ⟨ret_i64 (by rw [H.out]), hb2⟩
      · go_wp2_with fail
        go_ret
        refine ⟨ret_i64 ?_, hb⟩
        have h2 := HQ.out
        rw [List.take_of_length_le (by omega), ← HSum.out] at h2
        rw [left_ok (by omega)]
        exact h2
  · have H := Lib.hid (left_no (l := q0) (n := wVs l) (by rw [HSum.out]; omega))
    go_enter Tryz.func102, Tryz.ntmps102
    go_wp2_with fail
    go_ret
    exact ⟨ret_i64 (by rw [H.out]), Below.refl _ _⟩
theorem szS_any : ∀ d, SzS d
  | 0 => szS_of 0 (fun _ h => by omega)
  | d + 1 => szS_of (d + 1) (fun d' h => (Nat.succ.inj h) ▸ szS_any d)
theorem szV_any (d : Nat) (A : Option Addr) (l : List Vl) (cap : Nat) (c n q : Int) (w : World) (hr : RVs d w w.heap.size A l) (h0 : 0 ≤ q) (h1 : q ≤ 1048576) :
    Calls Tryz.prog 37 #[.agg #[.int .i64 c, .int .i64 n, .slice A l.length cap], .int .i64 q] w fun e w' => e = .returned (.int .i64 (left q (wVs l))) ∧ Below w.heap.size w w' := szV_of (szS_any d) A l cap c n q w hr h0 h1
end Go.Proofs.YthdnfnmglhifmaaGreat
/-
  Worlds that differ only in some blocks. No statement is proved here.
-/
namespace Go.Proofs.YthdnfnmglhifmaaGreat
open Go.RowKit
set_option maxRecDepth 100000
set_option linter.unusedVariables false
/-- Only blocks of P have turned, and blocks that are new. -/
def Fr (P : Nat → Prop) (w w' : World) : Prop := w'.os = w.os ∧ w'.tape = w.tape ∧ w'.output = w.output ∧ w.heap.size ≤ w'.heap.size ∧ ∀ b, b < w.heap.size → ¬ P b → w'.heap[b]? = w.heap[b]?
theorem Fr.refl (P : Nat → Prop) (w : World) : Fr P w w := ⟨rfl, rfl, rfl, Nat.le_refl _, fun _ _ _ => rfl⟩
theorem Fr.size {P : Nat → Prop} {w w' : World} (h : Fr P w w') : w.heap.size ≤ w'.heap.size := h.2.2.2.1
theorem Fr.trans {P : Nat → Prop} {a b c : World} (h : Fr P a b) (h' : Fr P b c) : Fr P a c :=
  ⟨h'.1.trans h.1, h'.2.1.trans h.2.1, h'.2.2.1.trans h.2.2.1, Nat.le_trans h.size h'.size, fun x hx hp => (h'.2.2.2.2 x (Nat.lt_of_lt_of_le hx h.size) hp).trans (h.2.2.2.2 x hx hp)⟩
theorem Fr.wide {P P' : Nat → Prop} {w w' : World} (h : Fr P w w') (hp : ∀ b, P b → P' b) : Fr P' w w' :=
  ⟨h.1, h.2.1, h.2.2.1, h.size, fun x hx hq => h.2.2.2.2 x hx (fun h' => hq (hp x h'))⟩
theorem Fr.block {P : Nat → Prop} {w w' : World} (h : Fr P w w') {b : Nat} {o : Obj} (hb : w.heap[b]? = some o) (hp : ¬ P b) : w'.heap[b]? = some o := (h.2.2.2.2 b (heap_lt hb) hp).trans hb
theorem Fr.below {P : Nat → Prop} {w w' : World} (h : Below w.heap.size w w') : Fr P w w' := ⟨h.os, h.tape, h.output, h.size, fun b hb _ => h.block b hb⟩
theorem Fr.to {P : Nat → Prop} {w w' : World} {B : Nat} (h : Fr P w w') (hB : B ≤ w.heap.size) (hp : ∀ b, b < B → ¬ P b) : Below B w w' :=
  ⟨h.1, h.2.1, h.2.2.1, h.size, fun b hb => h.2.2.2.2 b (Nat.lt_of_lt_of_le hb hB) (hp b hb)⟩
theorem Fr.set {P : Nat → Prop} (w : World) (g i : Nat) (u : Value) (hp : P g) : Fr P w (w.setCell ⟨g, i, none⟩ u) := by
  have h := (Below.refl 0 w).setCell (p := ⟨g, i, none⟩) (Nat.zero_le _) u
  exact ⟨h.os, h.tape, h.output, h.size, fun b _ hb => Below.heap_setCell w ⟨g, i, none⟩ u b (fun e => hb (e ▸ hp))⟩
theorem Fr.grown {P : Nat → Prop} {w w' : World} {row : Option Nat} (h : w.grownBy w' row) (hp : ∀ b, some b = row → P b) : Fr P w w' :=
  ⟨h.os, h.tape, h.output, h.size, fun b hb hq => h.block b hb (fun e => hq (hp b e))⟩
theorem Fr.kept {lo hi : Nat} {w w' : World} (h : Kept lo hi w w') : Fr (fun b => lo ≤ b ∧ b < hi) w w' := by
  refine ⟨h.1.os, h.1.tape, h.1.output, h.1.size, fun b hb hq => ?_⟩
  by_cases e : b < lo
  · exact h.1.block b e
  · exact h.2.1 b (by have : ¬ b < hi := fun h' => hq ⟨by omega, h'⟩; omega) hb
/-- The blocks that are new between two worlds. -/
def Nw (w w' : World) : Nat → Prop := fun b => w.heap.size ≤ b ∧ b < w'.heap.size
end Go.Proofs.YthdnfnmglhifmaaGreat
/-
  Vl trees in blocks of their own: no part has a block of another part. No statement is proved here.
-/
namespace Go.Proofs.YthdnfnmglhifmaaGreat
open Go.RowKit
set_option maxRecDepth 100000
set_option linter.unusedVariables false
/-- Trees in blocks of P; no part has a block of another part. -/
def OVs : Nat → World → (Nat → Prop) → Option Addr → List Vl → Prop
  | 0, _, _, _, _ => False
  | d + 1, w, P, A, l => l.length ≤ maxLen ∧ (0 < l.length → ∃ (g : Nat) (cs : Array Value) (Q : Nat → Nat → Prop), A = some ⟨g, 0, none⟩ ∧ P g ∧ w.heap[g]? = some (.cells cs 31 (0, 0)) ∧ (∀ k b, k < l.length → Q k b → P b ∧ b ≠ g ∧ ∀ j, j < l.length → j ≠ k → ¬ Q j b) ∧ ∀ k (h : k < l.length), ∃ A' cap, cs[k * 3]? = some (.int .i64 l[k].ctor) ∧ cs[k * 3 + 1]? = some (.int .i64 l[k].n) ∧ cs[k * 3 + 2]? = some (.slice A' l[k].kids.length cap) ∧ OVs d w (Q k) A' l[k].kids)
def OVp (d : Nat) (w : World) (P : Nat → Prop) (g : Nat) (cs : Array Value) (Q : Nat → Nat → Prop) (l : List Vl) : Prop := P g ∧ w.heap[g]? = some (.cells cs 31 (0, 0)) ∧ (∀ k b, k < l.length → Q k b → P b ∧ b ≠ g ∧ ∀ j, j < l.length → j ≠ k → ¬ Q j b) ∧ ∀ k (h : k < l.length), ∃ A' cap, cs[k * 3]? = some (.int .i64 l[k].ctor) ∧ cs[k * 3 + 1]? = some (.int .i64 l[k].n) ∧ cs[k * 3 + 2]? = some (.slice A' l[k].kids.length cap) ∧ OVs d w (Q k) A' l[k].kids
theorem OVs.parts {d : Nat} {w : World} {P : Nat → Prop} {A : Option Addr} {l : List Vl} (h : OVs d w P A l) : ∃ d', d = d' + 1 ∧ l.length ≤ maxLen ∧ (0 < l.length → ∃ g cs Q, A = some ⟨g, 0, none⟩ ∧ OVp d' w P g cs Q l) := by
  cases d with
  | zero => exact h.elim
  | succ d => exact ⟨d, rfl, h⟩
theorem OVs.mk {d : Nat} {w : World} {P : Nat → Prop} {A : Option Addr} {l : List Vl} (hl : l.length ≤ maxLen) (h : 0 < l.length → ∃ g cs Q, A = some ⟨g, 0, none⟩ ∧ OVp d w P g cs Q l) : OVs (d + 1) w P A l := ⟨hl, h⟩
theorem OVs.nil (d : Nat) (w : World) (P : Nat → Prop) (A : Option Addr) : OVs (d + 1) w P A [] := ⟨Nat.zero_le _, fun h => absurd h (Nat.not_lt_zero _)⟩
theorem OVs.wide : ∀ (d : Nat) {w : World} {P P' : Nat → Prop} {A : Option Addr} {l : List Vl}, OVs d w P A l → (∀ b, P b → P' b) → OVs d w P' A l
  | 0, _, _, _, _, _, h, _ => h.elim
  | d + 1, _, _, _, _, _, ⟨h1, h2⟩, hp => ⟨h1, fun hl => by
    obtain ⟨g, cs, Q, e, hg, hh, hq, hc⟩ := h2 hl
    exact ⟨g, cs, Q, e, hp g hg, hh, fun k b hk hb => ⟨hp b (hq k b hk hb).1, (hq k b hk hb).2⟩, hc⟩⟩
theorem OVs.fr : ∀ (d : Nat) {w w' : World} {P P' : Nat → Prop} {A : Option Addr} {l : List Vl}, OVs d w P A l → Fr P' w w' → (∀ b, P b → ¬ P' b) → OVs d w' P A l
  | 0, _, _, _, _, _, _, h, _, _ => h.elim
  | d + 1, _, _, _, _, _, _, ⟨h1, h2⟩, hf, hp => ⟨h1, fun hl => by
    obtain ⟨g, cs, Q, e, hg, hh, hq, hc⟩ := h2 hl
    refine ⟨g, cs, Q, e, hg, hf.block hh (hp g hg), hq, fun k hk => ?_⟩
    obtain ⟨A', cap, e0, e1, e8, e9⟩ := hc k hk
    exact ⟨A', cap, e0, e1, e8, OVs.fr d e9 hf (fun b hb => hp b (hq k b hk hb).1)⟩⟩
theorem OVs.up : ∀ (d : Nat) {w : World} {P : Nat → Prop} {A : Option Addr} {l : List Vl}, OVs d w P A l → OVs (d + 1) w P A l
  | 0, _, _, _, _, h => h.elim
  | d + 1, _, _, _, _, ⟨h1, h2⟩ => ⟨h1, fun hl => by
    obtain ⟨g, cs, Q, e, hg, hh, hq, hc⟩ := h2 hl
    refine ⟨g, cs, Q, e, hg, hh, hq, fun k hk => ?_⟩
    obtain ⟨A', cap, e0, e1, e8, e9⟩ := hc k hk
    exact ⟨A', cap, e0, e1, e8, OVs.up d e9⟩⟩
theorem OVs.more {d d' : Nat} {w : World} {P : Nat → Prop} {A : Option Addr} {l : List Vl} (h : OVs d w P A l) (hd : d ≤ d') : OVs d' w P A l := by
  obtain ⟨e, rfl⟩ := Nat.exists_eq_add_of_le hd
  clear hd
  induction e with
  | zero => exact h
  | succ e ih => exact OVs.up _ ih
theorem OVs.reads : ∀ (d : Nat) {w : World} {P : Nat → Prop} {A : Option Addr} {l : List Vl}, OVs (d + 1) w P A l → RVs d w w.heap.size A l
  | d, w, P, A, l, ⟨h1, h2⟩ => ⟨h1, fun k hk => by
    obtain ⟨g, cs, Q, e, hg, hh, hq, hc⟩ := h2 (by omega)
    obtain ⟨A', cap, e0, e1, e8, e9⟩ := hc k hk
    refine ⟨g, 0, e, heap_lt hh, ?_⟩
    cases d with
    | zero => exact e9.elim
    | succ d =>
      obtain ⟨q1, q2⟩ := OVs.reads d e9
      exact ⟨A', cap, by rw [cell_of_blk hh, Nat.zero_add]; exact e0, by rw [cell_of_blk hh, Nat.zero_add]; exact e1, by rw [cell_of_blk hh, Nat.zero_add]; exact e8, q1, q2⟩⟩
/-- The row of a list while it is made: k parts are there, each with blocks of its own, from lo on. -/
def RowV (d : Nat) (w : World) (lo : Nat) (og : Option Nat) (Q : Nat → Nat → Prop) (l : List Vl) (xs : List Value) (k : Nat) : Prop := ∀ j (h : j < l.length), j < k → (∀ b, Q j b → lo ≤ b ∧ b < w.heap.size ∧ some b ≠ og ∧ ∀ i, i < k → i ≠ j → ¬ Q i b) ∧ ∃ A' cap, xs[j * 3]? = some (.int .i64 l[j].ctor) ∧ xs[j * 3 + 1]? = some (.int .i64 l[j].n) ∧ xs[j * 3 + 2]? = some (.slice A' l[j].kids.length cap) ∧ OVs d w (Q j) A' l[j].kids
theorem RowV.zero (d : Nat) (w : World) (lo : Nat) (og : Option Nat) (Q : Nat → Nat → Prop) (l : List Vl) (xs : List Value) : RowV d w lo og Q l xs 0 := fun j _ h => absurd h (by omega)
theorem RowV.fr {d : Nat} {w w' : World} {lo : Nat} {og : Option Nat} {Q : Nat → Nat → Prop} {l : List Vl} {xs : List Value} {k : Nat} {P' : Nat → Prop} (h : RowV d w lo og Q l xs k) (hf : Fr P' w w') (hp : ∀ b, lo ≤ b → some b ≠ og → b < w.heap.size → ¬ P' b) : RowV d w' lo og Q l xs k := fun j hj hjk => by
  obtain ⟨h1, A', cap, e0, e1, e8, e9⟩ := h j hj hjk
  refine ⟨fun b hb => ?_, A', cap, e0, e1, e8, e9.fr d hf (fun b hb => ?_)⟩
  · obtain ⟨a1, a2, a3, a4⟩ := h1 b hb
    exact ⟨a1, Nat.lt_of_lt_of_le a2 hf.size, a3, a4⟩
  · obtain ⟨a1, a2, a3, a4⟩ := h1 b hb
    exact hp b a1 a3 a2
/-- One part more: its blocks are new. -/
theorem RowV.more {d : Nat} {w w' : World} {lo : Nat} {og : Option Nat} {Q : Nat → Nat → Prop} {l : List Vl} {xs xs' : List Value} {k cap : Nat} {A' : Option Addr} (h : RowV d w lo og Q l xs k) (hb : Below w.heap.size w w') (hk : k < l.length) (hlo : lo ≤ w.heap.size) (hog : ∀ g, og = some g → g < w.heap.size)
    (ho : OVs d w' (Nw w w') A' l[k].kids) (hx : ∀ j c, j < k → c < 3 → xs'[j * 3 + c]? = xs[j * 3 + c]?) (e0 : xs'[k * 3]? = some (.int .i64 l[k].ctor)) (e1 : xs'[k * 3 + 1]? = some (.int .i64 l[k].n)) (e8 : xs'[k * 3 + 2]? = some (.slice A' l[k].kids.length cap)) :
    RowV d w' lo og (fun i => if i = k then Nw w w' else Q i) l xs' (k + 1) := by
  have h' := h.fr (P' := fun _ => False) (Fr.below hb) (fun _ _ _ _ h => h)
  intro j hj hjk
  by_cases e : j = k
  · subst e
    refine ⟨fun b hq => ?_, A', cap, e0, e1, e8, ?_⟩
    · replace hq : (if j = j then Nw w w' else Q j) b := hq
      rw [if_pos rfl] at hq
      refine ⟨Nat.le_trans hlo hq.1, hq.2, fun e => ?_, fun i hi hij hqi => ?_⟩
      · have := hog b e.symm; have := hq.1; omega
      · replace hqi : (if i = j then Nw w w' else Q i) b := hqi
        rw [if_neg hij] at hqi
        have := ((h i (by omega) (by omega)).1 b hqi).2.1
        have := hq.1
        omega
    · show OVs d w' (if j = j then Nw w w' else Q j) A' l[j].kids
      rw [if_pos rfl]; exact ho
  · obtain ⟨h1, A2, c2, f0, f1, f8, f9⟩ := h' j hj (by omega)
    refine ⟨fun b hq => ?_, A2, c2, (hx j 0 (by omega) (by omega)).trans f0, (hx j 1 (by omega) (by omega)).trans f1, (hx j 2 (by omega) (by omega)).trans f8, ?_⟩
    · replace hq : (if j = k then Nw w w' else Q j) b := hq
      rw [if_neg e] at hq
      obtain ⟨a1, a2, a3, a4⟩ := h1 b hq
      refine ⟨a1, a2, a3, fun i hi hij hqi => ?_⟩
      replace hqi : (if i = k then Nw w w' else Q i) b := hqi
      by_cases e2 : i = k
      · rw [if_pos e2] at hqi
        have := ((h j hj (by omega)).1 b hq).2.1
        have := hqi.1
        omega
      · rw [if_neg e2] at hqi
        exact a4 i (by omega) hij hqi
    · show OVs d w' (if j = k then Nw w w' else Q j) A2 l[j].kids
      rw [if_neg e]; exact f9
theorem OVs.of_row {d : Nat} {w : World} {lo : Nat} {v : Value} {l : List Vl} {xs : List Value} {Q : Nat → Nat → Prop} (h : w.ownsRow lo 31 3 v l.length xs) (hx : RowV d w lo v.ownBlock Q l xs l.length) (hn : l.length ≤ 1048576) : ∃ A cap, v = .slice A l.length cap ∧ OVs (d + 1) w (fun b => lo ≤ b ∧ b < w.heap.size) A l := by
  rcases h.2 with ⟨h', h0⟩ | ⟨g, cap, cur, h', hb, hg, hnc, hcm, hcs, htake⟩
  · refine ⟨none, 0, by rw [h0]; exact h', by unfold maxLen; omega, fun hl => absurd hl (by omega)⟩
  · subst h'
    refine ⟨_, cap, rfl, by unfold maxLen; omega, fun _ => ⟨g, cur, Q, rfl, ⟨hb, heap_lt hg⟩, hg, fun k b hk hq => ?_, fun k hk => ?_⟩⟩
    · obtain ⟨a1, a2, a3, a4⟩ := (hx k hk hk).1 b hq
      exact ⟨⟨a1, a2⟩, fun e => a3 (by rw [e]; rfl), a4⟩
    · obtain ⟨_, A', c', e0, e1, e8, e9⟩ := hx k hk hk
      have hat : ∀ i, i < l.length * 3 → cur[i]? = xs[i]? := fun i hi => by
        rw [← htake, List.getElem?_take_of_lt hi, Array.getElem?_toList]
      exact ⟨A', c', (hat _ (by omega)).trans e0, (hat _ (by omega)).trans e1, (hat _ (by omega)).trans e8, e9⟩
end Go.Proofs.YthdnfnmglhifmaaGreat
/-
  Vl trees copied into blocks of their own: no part has a block of another part. No statement is proved here.
-/
namespace Go.Proofs.YthdnfnmglhifmaaGreat
open Go.RowKit
set_option maxRecDepth 100000
set_option linter.unusedVariables false
theorem infoOV : (Tryz.prog.info? 31).map (fun i => (i.zero, i.size, i.bytes)) = some (some (.agg #[.int .i64 0, .int .i64 0, .slice none 0 0]), 3, 40) := by kernel_rfl
def ToVO (d : Nat) : Prop := ∀ (A : Option Addr) (l : List Vl) (cap : Nat) (w : World), RVs d w w.heap.size A l → wVs l ≤ 1048576 →
  Calls Tryz.prog 105 #[.slice A l.length cap] w fun e w' => ∃ A2, e = .returned (.slice A2 l.length l.length) ∧ OVs (d + 1) w' (Nw w w') A2 l ∧ Below w.heap.size w w'
theorem toVO_of {d : Nat} (ih : ToVO d) (A : Option Addr) (l : List Vl) (cap : Nat) (x0 x1 : Int) (w : World) (hr : RVs d w w.heap.size A l) (hn : wVs l ≤ 1048576) :
    Calls Tryz.prog 41 #[.agg #[.int .i64 x0, .int .i64 x1, .slice A l.length cap]] w fun e w' => ∃ A2, e = .returned (.agg #[.int .i64 x0, .int .i64 x1, .slice A2 l.length l.length]) ∧ OVs (d + 1) w' (Nw w w') A2 l ∧ Below w.heap.size w w' := by
  have Hr := Lib.hid hr
  have IH := Lib.hid ih
  clear hr ih
  go_enter Tryz.func41, Tryz.ntmps41
  go_wp2_with (go_at_call 105; refine (IH.out _ _ _ _ (by exact Hr.out.keep (fun p hp => by rw [World.cell?_alloc_lt _ _ _ (by simp <;> omega), World.cell?_alloc_lt _ _ _ (by simp <;> omega), World.cell?_alloc_lt _ _ _ hp]) (by simp <;> omega)) hn).mono ?_; rintro e w1 ⟨A2, rfl, hf, hb⟩; obtain ⟨hc, hfz⟩ := bcell hb; have hz : w.heap.size + 2 < w1.heap.size := by have := hb.size; simp at this; omega)
  refine bodyPost_ret (v := .agg #[.int .i64 x0, .int .i64 x1, .slice A2 l.length l.length]) (by simp [results, Tryz.results41, go_sem, hc]) rfl ⟨A2, rfl, ?_, ?_⟩
  · refine (hf.fr _ (P' := fun b => b < w.heap.size + 3) ?_ (fun b hq => by have := hq.1; simp only [World.size_alloc] at this; omega)).wide _ (fun b hq => ⟨by have := hq.1; simp only [World.size_alloc] at this; omega, by have h2 := hq.2; simpa [World.setCell] using h2⟩)
    refine Fr.trans ?_ (Fr.set _ _ _ _ (by simp <;> omega))
    refine Fr.trans ?_ (Fr.set _ _ _ _ (by simp <;> omega))
    refine Fr.trans ?_ (Fr.set _ _ _ _ (by simp <;> omega))
    refine Fr.trans ?_ (Fr.set _ _ _ _ (by simp <;> omega))
    exact Fr.refl _ _
  · skip
    refine Below.setCell ?_ (by simp <;> omega) _
    refine Below.setCell ?_ (by simp <;> omega) _
    refine Below.setCell ?_ (by simp <;> omega) _
    refine Below.setCell ?_ (by simp <;> omega) _
    refine Below.trans ?_ (hb.mono (by simp <;> omega))
    refine Below.alloc (Below.alloc (Below.alloc (Below.refl _ _) ?_ _) ?_ _) ?_ _ <;> simp <;> omega
set_option maxHeartbeats 1600000 in
theorem toVOs_of (d : Nat) (ih : ∀ d', d = d' + 1 → ToVO d') : ToVO d := by
  intro A l cap w hr hn
  obtain ⟨i0, hi, hz0, hz1, hz2⟩ := info_parts infoOV
  have Hr := Lib.hid hr
  have IH := Lib.hid ih
  have HSum := Lib.hid (wVs_sum l)
  have hl : l.length ≤ 1048576 := by have := wVs_sum l; omega
  clear hr ih
  go_enter Tryz.func105, Tryz.ntmps105
  go_wp2_with (at_make; refine wpList_make_full _ rfl _ _ 29 rfl w.heap.size 31 i0 _ 3 Tryz.underlying29 hi hz0 hz1 _ _ _ _ l.length rfl rfl rfl rfl (by rw [hz2]; omega) (by unfold maxLen; omega) (Nat.le_refl _) ?_; intro w1 hown hgr)
  go_loopw [4] (fun i wr => ∃ k : Nat, k ≤ l.length ∧ i = .int .i64 k ∧ ∃ xs Q, wr.ownsRow w.heap.size 31 3 (.slice (some ⟨w.heap.size, 0, none⟩) l.length l.length) l.length xs ∧ RowV d wr w.heap.size (some w.heap.size) Q l xs k ∧ Below w.heap.size w wr) (fun i _ => l.length - (intOf i).toNat)
  case atStart => exact ⟨0, by omega, rfl, _, fun _ _ => False, hown, RowV.zero _ _ _ _ _ _ _, below_of_grown hgr (Nat.le_refl _)⟩
  case round =>
    obtain ⟨k, hk, rfl, xs, Q, hown, hrow, hb⟩ := hrel
    clear hgr hi hz0 hz1 hz2
    by_cases hlt : k < l.length
    · obtain ⟨b, off, rfl, hbB, hv⟩ := (Hr.out.below hb (Nat.le_refl _)).2 k hlt
      obtain ⟨d', hd, A', cp, c0, c1, c2, hm⟩ := hv.parts
      have ha : wVs l[k].kids ≤ 1048576 := by
        have h1 := sum_take_succ wV l k hlt
        have h2 := sum_take_le wV l (k + 1)
        have h3 := wV_kids l[k]
        have h4 := HSum.out
        omega
      have IHd := Lib.hid (IH.out d' hd)
      have Hm := Lib.hid (hm.keep (fun _ _ => rfl) hb.size)
      have HD := Lib.hid hd
      have hwl : w.heap.size < wr.heap.size := own_lt hown
      have HROW := Lib.hid hrow
      clear hm hv hd hrow
      go_wp2_with (go_at_call 41; refine (toVO_of IHd.out _ _ _ _ _ _ Hm.out ha).mono ?_; rintro e w2 ⟨A2, rfl, hf, hb2⟩; have hown2 := own_below hown hb2; obtain ⟨v0, f0⟩ := own_cell hown2 (k * 3) (by omega); obtain ⟨v1, f1⟩ := own_cell hown2 (k * 3 + 1) (by omega); obtain ⟨v2, f2⟩ := own_cell hown2 (k * 3 + 2) (by omega); have g0 := hown2.frozenAt (k * 3); have g1 := hown2.frozenAt (k * 3 + 1); have g2 := hown2.frozenAt (k * 3 + 2); skip)
      have hx := hown2.1
      have s1 := (hown2.stored (k * 3) (.int .i64 l[k].ctor)).1
      have s2 := (s1.stored (k * 3 + 1) (.int .i64 l[k].n)).1
      have s3 := (s2.stored (k * 3 + 2) (.slice A2 l[k].kids.length l[k].kids.length)).1
      have hf2 : OVs d w2 (Nw wr w2) A2 l[k].kids := by rw [HD.out]; exact hf
      have hrow2 := HROW.out.more (xs' := (((xs.set (k * 3) (.int .i64 l[k].ctor)).set (k * 3 + 1) (.int .i64 l[k].n)).set (k * 3 + 2) (.slice A2 l[k].kids.length l[k].kids.length))) hb2 hlt (by omega) (fun g e => by injection e with e; omega) hf2 (fun j c hj hc => by rw [List.getElem?_set_ne (by omega), List.getElem?_set_ne (by omega), List.getElem?_set_ne (by omega)]) (by rw [List.getElem?_set_ne (by omega), List.getElem?_set_ne (by omega), List.getElem?_set_self (by first | omega | (simp <;> omega))]) (by rw [List.getElem?_set_ne (by omega), List.getElem?_set_self (by first | omega | (simp <;> omega))]) (by rw [List.getElem?_set_self (by first | omega | (simp <;> omega))])
      have hrow3 := hrow2.fr (w' := (((w2.setCell ⟨w.heap.size, k * 3, none⟩ (.int .i64 l[k].ctor)).setCell ⟨w.heap.size, k * 3 + 1, none⟩ (.int .i64 l[k].n)).setCell ⟨w.heap.size, k * 3 + 2, none⟩ (.slice A2 l[k].kids.length l[k].kids.length))) (P' := fun b => b = w.heap.size) (((Fr.set (P := fun b => b = w.heap.size) _ _ _ _ rfl).trans (Fr.set (P := fun b => b = w.heap.size) _ _ _ _ rfl)).trans (Fr.set (P := fun b => b = w.heap.size) _ _ _ _ rfl)) (fun b _ hb' _ e => hb' (by rw [e]))
      go_roundw
      case rel => exact ⟨k + 1, by omega, by go_num, _, _, s3, hrow3, (((hb.trans (hb2.mono hb.size)).setCell (Nat.le_refl _) _).setCell (Nat.le_refl _) _).setCell (Nat.le_refl _) _⟩
      case measure => simp [intOf]; omega
    · go_wp2_with fail
      go_ret
      have he : k = l.length := by omega
      obtain ⟨A2, c2, e2, ho⟩ := OVs.of_row hown (he ▸ hrow) hl
      injection e2 with e3 e4 e5
      subst e3
      exact ⟨_, rfl, ho, hb⟩
theorem toVOs_any : ∀ d, ToVO d
  | 0 => toVOs_of 0 (fun _ h => by omega)
  | d + 1 => toVOs_of (d + 1) (fun d' h => (Nat.succ.inj h) ▸ toVOs_any d)
theorem toVO_any (d : Nat) (A : Option Addr) (l : List Vl) (cap : Nat) (x0 x1 : Int) (w : World) (hr : RVs d w w.heap.size A l) (hn : wVs l ≤ 1048576) :
    Calls Tryz.prog 41 #[.agg #[.int .i64 x0, .int .i64 x1, .slice A l.length cap]] w fun e w' => ∃ A2, e = .returned (.agg #[.int .i64 x0, .int .i64 x1, .slice A2 l.length l.length]) ∧ OVs (d + 1) w' (Nw w w') A2 l ∧ Below w.heap.size w w' := toVO_of (toVOs_any d) A l cap x0 x1 w hr hn
end Go.Proofs.YthdnfnmglhifmaaGreat
