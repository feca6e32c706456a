/-
  ValueValid of the program and of the document. No statement is proved here.
-/
import Derived.Test.YtphmhlekfmkdkaaGreatG27
import Derived.Test.YtphmhlekfmkdkaaGreatG14
import Derived.Test.YtphmhlekfmkdkaaGreatG26
namespace Go.Proofs.YtphmhlekfmkdkaaGreat
open Go.RowKit Go.Sort Go.Deep
set_option maxRecDepth 100000
set_option linter.unusedVariables false

noncomputable def vvT (l : List Da) (t : Ty) (v : Vl) : Bool := dec (TyOK l t) && isV l t v
theorem vvT_yes {l : List Da} {t : Ty} {v : Vl} (h : TyOK l t) : vvT l t v = isV l t v := by unfold vvT; rw [dec_t h]; rfl
theorem vvT_no {l : List Da} {t : Ty} {v : Vl} (h : ¬ TyOK l t) : vvT l t v = false := by unfold vvT; rw [dec_f h]; rfl
theorem ndS_any (l : List Da) : ∀ d, d < 100 → NdS l d
  | 0, _ => ndS_zero l
  | d + 1, h => ndS_step l d (by omega) (ndS_any l d (by omega))

theorem vv_impl (A D : Option Addr) (l : List Da) (cap ep e : Nat) (t : Ty) (v : Vl) (w : World) (hr : RDas w w.heap.size A l) (hv : RVs e w w.heap.size D v.kids) (hn : wV v ≤ 1048576) :
    Calls Tryz.prog 59 #[.slice A l.length cap, .agg #[.int .i64 t.data, .int .i64 t.index], .agg #[.int .i64 v.ctor, .int .i64 v.n, .slice D v.kids.length ep]] w fun e w' => e = .returned (.bool (vvT l t v)) ∧ Below w.heap.size w w' := by
  have Hr := Lib.hid hr
  have HV := Lib.hid hv
  have IN : Hid (NdC l 10 10) := ndS_any l 10 (by omega)
  clear hr hv
  generalize hw0 : (w.alloc (.cells #[.int .i64 t.data, .int .i64 t.index] 31)).alloc (.cells #[.int .i64 v.ctor, .int .i64 v.n, .slice D v.kids.length ep] 55) = w0
  have hb0 := below_box2 hw0
  have HXT : Hid (Bx w0 w.heap.size t) := by rw [← hw0]; exact ⟨by simp [go_sem], by simp [go_sem]⟩
  have HXV : Hid (VBx w0 (w.heap.size + 1) v.ctor v.n (.slice D v.kids.length ep)) := by rw [← hw0]; exact ⟨by simp [go_sem], by simp [go_sem], by simp [go_sem]⟩
  have HW := Lib.hid hw0
  clear hw0
  by_cases ht : TyOK l t
  · have HT := Lib.hid ht
    have HF := Lib.hid (vvT_yes (v := v) ht)
    clear ht
    by_cases hf : fitV l 10 t v = true
    · have HFT := Lib.hid hf
      have HND := Lib.hid (ndR_yes hf)
      have hr1 : (0 : Int) ≤ 1 + (wV v : Int) := by omega
      have hr2 : 1 + (wV v : Int) ≤ 1048577 := by omega
      have HIS : Hid (isV l t v = decide (1 + (wV v : Int) ≤ 60)) := by
        unfold Hid isV; rw [hf]
        show decide _ = decide _
        simp only [decide_eq_decide]; omega
      generalize hrr : 1 + (wV v : Int) = r at hr1 hr2 HND HIS
      clear hf hrr
      go_enter Tryz.func59, Tryz.ntmps59
      go_wp2_with (first | (go_at_call 46; rw [HW.out]; refine (typeI_yes (t := t) (Hr.out.at_ hb0) HT.out).mono ?_; rintro e1 w1 ⟨rfl, hb1⟩; obtain ⟨x0, x1⟩ := HXT.out.at_ hb1; obtain ⟨y0, y1, y2⟩ := HXV.out.at_ hb1; have hb1w := below_aft hb0 hb1 hb0.size) | (go_at_call 95; refine (IN.out.known A D cap ep e t v _ _ _ HFT.out HND.out (Hr.out.at_ hb1w) HT.out (HV.out.at_ hb1w) hn).mono ?_; rintro e2 w2 ⟨rfl, hb2⟩))
      all_goals go_ret
      all_goals exact ⟨ret_bool (by rw [HF.out, HIS.out]), below_aft hb1w hb2 hb1w.size⟩
    · have hf' : fitV l 10 t v = false := by simpa using hf
      have HFT := Lib.hid hf'
      have HIS := Lib.hid (isV_fit hf')
      clear hf hf'
      go_enter Tryz.func59, Tryz.ntmps59
      go_wp2_with (first | (go_at_call 46; rw [HW.out]; refine (typeI_yes (t := t) (Hr.out.at_ hb0) HT.out).mono ?_; rintro e1 w1 ⟨rfl, hb1⟩; obtain ⟨x0, x1⟩ := HXT.out.at_ hb1; obtain ⟨y0, y1, y2⟩ := HXV.out.at_ hb1; have hb1w := below_aft hb0 hb1 hb0.size) | (go_at_call 95; refine (IN.out.known A D cap ep e t v _ _ _ HFT.out rfl (Hr.out.at_ hb1w) HT.out (HV.out.at_ hb1w) hn).mono ?_; rintro e2 w2 ⟨rfl, hb2⟩))
      all_goals go_ret
      all_goals exact ⟨ret_bool (by rw [HF.out, HIS.out]), below_aft hb1w hb2 hb1w.size⟩
  · have HT := Lib.hid ht
    have HF := Lib.hid (vvT_no (v := v) ht)
    clear ht
    go_enter Tryz.func59, Tryz.ntmps59
    go_wp2_with (go_at_call 46; rw [HW.out]; refine (typeI_no (t := t) (Hr.out.at_ hb0) HT.out).mono ?_; rintro e1 w1 ⟨rfl, hb1⟩; have hb1w := below_aft hb0 hb1 hb0.size)
    go_ret
    exact ⟨ret_bool HF.out.symm, hb1w⟩
end Go.Proofs.YtphmhlekfmkdkaaGreat
/-
  PatternValid of the document. No statement is proved here.
-/
namespace Go.Proofs.YtphmhlekfmkdkaaGreat
open Go.RowKit Go.Sort Go.Deep
set_option maxRecDepth 100000
set_option linter.unusedVariables false

noncomputable def isP (l : List Da) (t : Ty) (p : Pt) : Bool := shP l 10 t p && (decide (1 + wP p ≤ 60) && linP l 10 t p)
theorem isP_sh {l : List Da} {t : Ty} {p : Pt} (h : shP l 10 t p = false) : isP l t p = false := by unfold isP; rw [h]; rfl
theorem isP_big {l : List Da} {t : Ty} {p : Pt} (h : ¬ 1 + wP p ≤ 60) : isP l t p = false := by unfold isP; rw [decide_eq_false h]; simp
theorem isP_go {l : List Da} {t : Ty} {p : Pt} (h : shP l 10 t p = true) (h' : 1 + wP p ≤ 60) : isP l t p = linP l 10 t p := by unfold isP; rw [h, decide_eq_true h']; rfl
noncomputable def pvT (l : List Da) (t : Ty) (p : Pt) : Bool := dec (TyOK l t) && isP l t p
theorem pvT_yes {l : List Da} {t : Ty} {p : Pt} (h : TyOK l t) : pvT l t p = isP l t p := by unfold pvT; rw [dec_t h]; rfl
theorem pvT_no {l : List Da} {t : Ty} {p : Pt} (h : ¬ TyOK l t) : pvT l t p = false := by unfold pvT; rw [dec_f h]; rfl

set_option maxHeartbeats 1600000 in
theorem isP_any (A D : Option Addr) (l : List Da) (cap ep e : Nat) (t : Ty) (p : Pt) (w : World) (hr : RDas w w.heap.size A l) (ht : TyOK l t) (hv : RPs e w w.heap.size D p.kids) (hn : wP p ≤ 1048576) :
    Calls Tryz.prog 80 #[.slice A l.length cap, .agg #[.int .i64 t.data, .int .i64 t.index], .agg #[.int .i64 p.op, .int .i64 p.ctor, .int .i64 p.n, .int .i64 p.m, .int .i64 p.var, .slice D p.kids.length ep]] w fun e w' => e = .returned (.bool (isP l t p)) ∧ Below w.heap.size w w' := by
  have HR := Lib.hid hr
  have HT := Lib.hid ht
  have HV := Lib.hid hv
  have IS : Hid (ShC l 10 10) := shS_any l 10 (by omega)
  clear hr ht hv
  generalize hw0 : (w.alloc (.cells #[.int .i64 t.data, .int .i64 t.index] 31)).alloc (.cells #[.int .i64 p.op, .int .i64 p.ctor, .int .i64 p.n, .int .i64 p.m, .int .i64 p.var, .slice D p.kids.length ep] 51) = w0
  have hb0 := below_box2 hw0
  have HXT : Hid (Bx w0 w.heap.size t) := by rw [← hw0]; exact ⟨by simp [go_sem], by simp [go_sem]⟩
  have HXP : Hid (PBx w0 (w.heap.size + 1) p (.slice D p.kids.length ep)) := by rw [← hw0]; exact ⟨by simp [go_sem], by simp [go_sem], by simp [go_sem], by simp [go_sem], by simp [go_sem], by simp [go_sem]⟩
  have HW := Lib.hid hw0
  clear hw0
  obtain ⟨x0, x1⟩ := HXT.out
  obtain ⟨y0, y1, y2, y3, y4, y5⟩ := HXP.out
  by_cases hf : shP l 10 t p = true
  · have HF := Lib.hid hf
    clear hf
    by_cases h60 : 1 + wP p ≤ 60
    · have HI := Lib.hid (isP_go HF.out h60)
      go_enter Tryz.func80, Tryz.ntmps80
      go_wp2_with (first | (go_at_call 114; rw [HW.out]; refine (IS.out.known A D cap ep e t p true _ HF.out (HR.out.at_ hb0) HT.out (HV.out.at_ hb0)).mono ?_; rintro e1 w1 ⟨rfl, hb1⟩; obtain ⟨u0, u1⟩ := HXT.out.at_ hb1; obtain ⟨z0, z1, z2, z3, z4, z5⟩ := HXP.out.at_ hb1; have hb1w := below_aft hb0 hb1 hb0.size) | (go_at_call 115; refine (cntPS_any e D ep p 60 _ (HV.out.at_ hb1w) hn (by omega) (by omega)).mono ?_; rintro e2 w2 ⟨r, rfl, hr, hb2⟩; have HC := Lib.hid hr; obtain ⟨z0, z1⟩ := HXT.out.at_ (hb1.trans (hb2.mono hb1.size)); obtain ⟨y0', y1', y2', y3', y4', y5'⟩ := HXP.out.at_ (hb1.trans (hb2.mono hb1.size)); have hb2w := below_aft hb1w hb2 hb1w.size; have hq : decide (r ≤ 60) = true := decide_eq_true (by have := HC.out.1 (by omega); omega); clear hr) | (go_at_call 116; refine (linC_any l 10 A D cap ep e t p _ (HR.out.at_ hb2w) HT.out (HV.out.at_ hb2w) HF.out (by omega)).mono ?_; rintro e3 w3 ⟨rfl, hb3⟩))
      all_goals go_ret
      all_goals exact ⟨ret_bool HI.out.symm, below_aft hb2w hb3 hb2w.size⟩
    · have HI := Lib.hid (isP_big (l := l) (t := t) h60)
      go_enter Tryz.func80, Tryz.ntmps80
      go_wp2_with (first | (go_at_call 114; rw [HW.out]; refine (IS.out.known A D cap ep e t p true _ HF.out (HR.out.at_ hb0) HT.out (HV.out.at_ hb0)).mono ?_; rintro e1 w1 ⟨rfl, hb1⟩; obtain ⟨u0, u1⟩ := HXT.out.at_ hb1; obtain ⟨z0, z1, z2, z3, z4, z5⟩ := HXP.out.at_ hb1; have hb1w := below_aft hb0 hb1 hb0.size) | (go_at_call 115; refine (cntPS_any e D ep p 60 _ (HV.out.at_ hb1w) hn (by omega) (by omega)).mono ?_; rintro e2 w2 ⟨r, rfl, hr, hb2⟩; have HC := Lib.hid hr; obtain ⟨z0, z1⟩ := HXT.out.at_ (hb1.trans (hb2.mono hb1.size)); obtain ⟨y0', y1', y2', y3', y4', y5'⟩ := HXP.out.at_ (hb1.trans (hb2.mono hb1.size)); have hb2w := below_aft hb1w hb2 hb1w.size; have hq : decide (r ≤ 60) = false := decide_eq_false (by have := HC.out.2.1 (by omega); omega); clear hr))
      all_goals go_ret
      all_goals exact ⟨ret_bool HI.out.symm, hb2w⟩
  · have hf' : shP l 10 t p = false := by simpa using hf
    have HF := Lib.hid hf'
    have HI := Lib.hid (isP_sh hf')
    clear hf hf'
    go_enter Tryz.func80, Tryz.ntmps80
    go_wp2_with (go_at_call 114; rw [HW.out]; refine (IS.out.known A D cap ep e t p false _ HF.out (HR.out.at_ hb0) HT.out (HV.out.at_ hb0)).mono ?_; rintro e1 w1 ⟨rfl, hb1⟩; obtain ⟨u0, u1⟩ := HXT.out.at_ hb1; obtain ⟨z0, z1, z2, z3, z4, z5⟩ := HXP.out.at_ hb1; have hb1w := below_aft hb0 hb1 hb0.size)
    go_ret
    exact ⟨ret_bool HI.out.symm, hb1w⟩

theorem pv_spec (A D : Option Addr) (l : List Da) (cap ep e : Nat) (t : Ty) (p : Pt) (w : World) (hr : RDas w w.heap.size A l) (hv : RPs e w w.heap.size D p.kids) (hn : wP p ≤ 1048576) :
    Calls Tryz.prog 52 #[.slice A l.length cap, .agg #[.int .i64 t.data, .int .i64 t.index], .agg #[.int .i64 p.op, .int .i64 p.ctor, .int .i64 p.n, .int .i64 p.m, .int .i64 p.var, .slice D p.kids.length ep]] w fun e w' => e = .returned (.bool (pvT l t p)) ∧ Below w.heap.size w w' := by
  have Hr := Lib.hid hr
  have HV := Lib.hid hv
  clear hr hv
  generalize hw0 : (w.alloc (.cells #[.int .i64 t.data, .int .i64 t.index] 31)).alloc (.cells #[.int .i64 p.op, .int .i64 p.ctor, .int .i64 p.n, .int .i64 p.m, .int .i64 p.var, .slice D p.kids.length ep] 51) = w0
  have hb0 := below_box2 hw0
  have HXT : Hid (Bx w0 w.heap.size t) := by rw [← hw0]; exact ⟨by simp [go_sem], by simp [go_sem]⟩
  have HXP : Hid (PBx w0 (w.heap.size + 1) p (.slice D p.kids.length ep)) := by rw [← hw0]; exact ⟨by simp [go_sem], by simp [go_sem], by simp [go_sem], by simp [go_sem], by simp [go_sem], by simp [go_sem]⟩
  have HW := Lib.hid hw0
  clear hw0
  by_cases ht : TyOK l t
  · have HT := Lib.hid ht
    have HF := Lib.hid (pvT_yes (p := p) ht)
    clear ht
    go_enter Tryz.func52, Tryz.ntmps52
    go_wp2_with (first | (go_at_call 40; rw [HW.out]; refine (typeV_yes (t := t) (Hr.out.at_ hb0) HT.out).mono ?_; rintro e1 w1 ⟨rfl, hb1⟩; obtain ⟨x0, x1⟩ := HXT.out.at_ hb1; obtain ⟨y0, y1, y2, y3, y4, y5⟩ := HXP.out.at_ hb1; have hb1w := below_aft hb0 hb1 hb0.size) | (go_at_call 80; refine (isP_any A D l cap ep e t p _ (Hr.out.at_ hb1w) HT.out (HV.out.at_ hb1w) hn).mono ?_; rintro e2 w2 ⟨rfl, hb2⟩))
    all_goals go_ret
    all_goals exact ⟨ret_bool HF.out.symm, below_aft hb1w hb2 hb1w.size⟩
  · have HT := Lib.hid ht
    have HF := Lib.hid (pvT_no (p := p) ht)
    clear ht
    go_enter Tryz.func52, Tryz.ntmps52
    go_wp2_with (go_at_call 40; rw [HW.out]; refine (typeV_no (t := t) (Hr.out.at_ hb0) HT.out).mono ?_; rintro e1 w1 ⟨rfl, hb1⟩; have hb1w := below_aft hb0 hb1 hb0.size)
    go_ret
    exact ⟨ret_bool HF.out.symm, hb1w⟩
end Go.Proofs.YtphmhlekfmkdkaaGreat
/-
  When the program's walk over a pattern says yes: plain mathematics. No statement is proved here.
-/
namespace Go.Proofs.YtphmhlekfmkdkaaGreat
open Go.RowKit
set_option maxRecDepth 100000
set_option linter.unusedVariables false

theorem noV_of {L : List Vt} {n : Int} {i : Nat} (h : findV L n = (i : Nat)) : NoV L n i := by
  unfold findV at h
  split at h
  · rename_i hlt
    have e : L.findIdx (fun x => x.var == n) = i := by omega
    intro j hj hji
    have := List.not_of_lt_findIdx (p := fun x : Vt => x.var == n) (xs := L) (i := j) (by omega)
    simpa using this
  · omega
theorem findV_var {L : List Vt} {n : Int} {i : Nat} (h : findV L n = (i : Nat)) (hi : i < L.length) : L[i].var = n := by
  unfold findV at h
  split at h
  · rename_i hlt
    have e : L.findIdx (fun x => x.var == n) = i := by omega
    have := List.findIdx_getElem (p := fun x : Vt => x.var == n) (w := hlt)
    simp only [e] at this
    simpa using this
  · omega
theorem once_yes {L : List Vt} {k : Nat} (hk : k < L.length) (h : NoV L L[k].var k) : onceV L k = true := by
  rw [onceV_at hk]; exact decide_eq_true (findV_at h hk rfl)
theorem once_no {L : List Vt} {k : Nat} (hk : k < L.length) (h : ¬ NoV L L[k].var k) : onceV L k = false := by
  rw [onceV_at hk]; exact decide_eq_false (fun e => h (noV_of e))
def Once (L : List Vt) : Prop := upto (onceV L) L.length = true
theorem Once.at_ {L : List Vt} (h : Once L) {k : Nat} (hk : k < L.length) : findV L L[k].var = k := by
  have := upto_get h hk
  rw [onceV_at hk] at this
  exact of_decide_eq_true this

/-- The k-th of the first list is in the second. -/
noncomputable def inV (a b : List Vt) (i : Nat) : Bool := dec (a.getD i default ∈ b)
theorem inV_at {a b : List Vt} {i : Nat} (h : i < a.length) : inV a b i = dec (a[i] ∈ b) := by unfold inV; rw [getD_at a i h]
noncomputable def sameB (a b : List Vt) : Bool := decide (a.length = b.length) && upto (inV a b) a.length
theorem alV_in {a b : List Vt} {i : Nat} (h : i < a.length) (hb : Once b) : alV a b i = inV a b i := by
  rw [inV_at h]
  by_cases hm : a[i] ∈ b
  · rw [dec_t hm]
    obtain ⟨k, hk, e⟩ := List.mem_iff_getElem.1 hm
    have h1 : findV b a[i].var = k := by rw [← e]; exact hb.at_ hk
    rw [alV_yes h hk h1]
    exact eqv_t (by rw [e])
  · rw [dec_f hm]
    rcases findV_cases b a[i].var with h1 | ⟨k, hk, h1⟩
    · exact alV_no h h1
    · rw [alV_yes h hk h1]
      refine eqv_f (fun e => hm ?_)
      have h2 := findV_var h1 hk
      have h3 : b[k] = a[i] := by
        cases hbk : b[k]; cases hai : a[i]
        rw [hbk, hai] at e h2
        simp only at e h2
        rw [e, h2]
      rw [← h3]; exact List.getElem_mem hk
theorem upto_all {f : Nat → Bool} : ∀ {n : Nat}, (∀ i, i < n → f i = true) → upto f n = true
  | 0, _ => rfl
  | n + 1, h => upto_t (upto_all (fun i hi => h i (by omega))) (h n (by omega))
theorem upto_congr {f g : Nat → Bool} : ∀ n, (∀ i, i < n → f i = g i) → upto f n = upto g n
  | 0, _ => rfl
  | n + 1, h => by
    show (upto f n && f n) = (upto g n && g n)
    rw [upto_congr n (fun i hi => h i (by omega)), h n (by omega)]
theorem alike_same {a b : List Vt} (hb : Once b) : alike a b = sameB a b := by
  unfold alike sameB
  rw [upto_congr (g := inV a b) a.length (fun i hi => alV_in hi hb), Bool.and_comm]

/-- The parts' lists, one behind the other. -/
noncomputable def lisV (f : Nat → List Vt) (k : Nat) : List (List Vt) := (List.range k).map f
theorem lisV_len (f : Nat → List Vt) (k : Nat) : (lisV f k).length = k := by simp [lisV]
theorem lisV_at (f : Nat → List Vt) (k j : Nat) (h : j < (lisV f k).length) : (lisV f k)[j] = f j := by simp [lisV]
theorem lisV_flat (f : Nat → List Vt) : ∀ k, (lisV f k).flatten = catV f k
  | 0 => rfl
  | k + 1 => by
    have h := lisV_flat f k
    unfold lisV at h ⊢
    rw [List.range_succ, List.map_append, List.flatten_append, h]
    simp [catV]

theorem lin_once {l : List Da} : ∀ {d : Nat} {t : Ty} {p : Pt}, shP l d t p = true → linP l d t p = true → Once (vrP l d t p)
  | 0, t, p, h, _ => by rw [shP_zero] at h; cases h
  | d + 1, t, p, h, h' => by
    obtain ⟨h1, h2, h3⟩ := shP_parts h
    rw [linP_go, Bool.and_eq_true] at h'
    by_cases h5 : p.op = 5
    · have ht : tysP l t p = [t, t] := by rw [tysP_other (by omega), h5]; rfl
      have hlen : (tysP l t p).length = 2 := by rw [ht]; rfl
      have h0 : 0 < (tysP l t p).length := by omega
      have h0k : 0 < p.kids.length := by omega
      have hs0 := h3 0 h0 h0k
      have hl0 := upto_get h'.1 h0
      rw [kidL_at h0 h0k] at hl0
      have ho := lin_once hs0 hl0
      have e : vrP l (d + 1) t p = vrP l d (tysP l t p)[0] p.kids[0] := by
        rw [vrP_go, hdV_no (by omega)]
        have : limV l t p = 1 := by unfold limV; rw [if_pos h5]
        rw [this]
        show [] ++ ([] ++ kidR l d (tysP l t p) p.kids 0) = _
        rw [kidR_at h0 h0k]; rfl
      rw [e]; exact ho
    · have := h'.2
      rw [headL_no h5] at this
      exact this

/-- The program's answer at a counter's value. -/
noncomputable def okP (l : List Da) (d : Nat) (t : Ty) (p : Pt) (n : Nat) : Bool := shP l d t p && (decide (n + (1 + wP p) ≤ 60) && linP l d t p)
section
variable {l : List Da} {d : Nat} {t : Ty} {p : Pt} {n : Nat}
theorem okP_true (h : okP l d t p n = true) : shP l d t p = true ∧ n + (1 + wP p) ≤ 60 ∧ linP l d t p = true := by
  unfold okP at h
  rw [Bool.and_eq_true, Bool.and_eq_true] at h
  exact ⟨h.1, of_decide_eq_true h.2.1, h.2.2⟩
theorem okP_of (h : shP l d t p = true) (h' : n + (1 + wP p) ≤ 60) : okP l d t p n = linP l d t p := by
  unfold okP; rw [h, decide_eq_true h']; rfl
theorem okP_zero : okP l 0 t p n = false := by unfold okP; rw [shP_zero]; rfl
theorem okP_sh (h : shP l d t p = false) : okP l d t p n = false := by unfold okP; rw [h]; rfl
theorem okP_own (h : ¬ OwnOK l t p) : okP l d t p n = false := by
  cases d with
  | zero => exact okP_zero
  | succ d => exact okP_sh (shP_own h)
theorem okP_len (h : ¬ p.kids.length = (tysP l t p).length) : okP l d t p n = false := by
  cases d with
  | zero => exact okP_zero
  | succ d => exact okP_sh (shP_len h)
theorem okP_big (h : 60 < n + 1) : okP l d t p n = false := by
  unfold okP; rw [decide_eq_false (by omega)]; simp
theorem okP_kid {k : Nat} (hk : k < (tysP l t p).length) (hk' : k < p.kids.length) (h : okP l d (tysP l t p)[k] p.kids[k] (n + upKP p.kids k) = false) : okP l (d + 1) t p n = false := by
  by_cases hb : okP l (d + 1) t p n = true
  · obtain ⟨h1, h2, h3⟩ := okP_true hb
    obtain ⟨_, _, h4⟩ := shP_parts h1
    rw [linP_go, Bool.and_eq_true] at h3
    have h5 := upto_get h3.1 hk
    rw [kidL_at hk hk'] at h5
    have h6 := upKP_le p (k + 1) hk'
    rw [upKP_succ _ _ hk'] at h6
    rw [okP_of (h4 k hk hk') (by omega), h5] at h
    cases h
  · simpa using hb
def KidsOK (l : List Da) (d : Nat) (t : Ty) (p : Pt) (n k : Nat) : Prop := n + upKP p.kids k ≤ 60 ∧ ∀ i (h : i < (tysP l t p).length) (h' : i < p.kids.length), i < k → shP l d (tysP l t p)[i] p.kids[i] = true ∧ linP l d (tysP l t p)[i] p.kids[i] = true
theorem KidsOK.zero (h : n + 1 ≤ 60) : KidsOK l d t p n 0 := ⟨by rw [upKP_zero]; exact h, fun i _ _ h => absurd h (Nat.not_lt_zero _)⟩
theorem KidsOK.step {k : Nat} (h : KidsOK l d t p n k) (hk : k < (tysP l t p).length) (hk' : k < p.kids.length) (hf : okP l d (tysP l t p)[k] p.kids[k] (n + upKP p.kids k) = true) : KidsOK l d t p n (k + 1) := by
  obtain ⟨h1, h2, h3⟩ := okP_true hf
  refine ⟨by rw [upKP_succ _ _ hk']; omega, fun i hi hi' hik => ?_⟩
  by_cases e : i = k
  · subst e; exact ⟨h1, h3⟩
  · exact h.2 i hi hi' (by omega)
theorem KidsOK.all (h : KidsOK l d t p n (tysP l t p).length) (ho : OwnOK l t p) (hl : p.kids.length = (tysP l t p).length) : okP l (d + 1) t p n = headL l d t p ∧ n + (1 + wP p) ≤ 60 := by
  have hc : n + (1 + wP p) ≤ 60 := by have := h.1; rw [← hl, upKP_all] at this; exact this
  have hs : shP l (d + 1) t p = true := by
    rw [shP_go ho hl]
    exact upto_all (fun i hi => by rw [kidP_at hi (by omega)]; exact (h.2 i hi (by omega) hi).1)
  refine ⟨?_, hc⟩
  rw [okP_of hs hc, linP_go, upto_all (fun i hi => by rw [kidL_at hi (by omega)]; exact (h.2 i hi (by omega) hi).2)]
  rfl
theorem KidsOK.or_ (h : KidsOK l d t p n (tysP l t p).length) (ho : OwnOK l t p) (hl : p.kids.length = (tysP l t p).length) (h5 : p.op = 5) (h0 : 0 < p.kids.length) (h1 : 1 < p.kids.length) :
    okP l (d + 1) t p n = sameB (vrP l d t p.kids[0]) (vrP l d t p.kids[1]) ∧ vrP l (d + 1) t p = vrP l d t p.kids[0] := by
  have ht : tysP l t p = [t, t] := by rw [tysP_other (by omega), h5]; rfl
  have a1 := h.2 1 (by omega) h1 (by omega)
  simp only [ht, List.getElem_cons_succ, List.getElem_cons_zero] at a1
  refine ⟨?_, ?_⟩
  · rw [(h.all ho hl).1, headL_or h5 h0 h1, alike_same (lin_once a1.1 a1.2)]
  · rw [vrP_go, hdV_no (by omega)]
    have : limV l t p = 1 := by unfold limV; rw [if_pos h5]
    rw [this]
    show [] ++ ([] ++ kidR l d (tysP l t p) p.kids 0) = _
    rw [kidR_at (by omega) h0]
    simp only [ht, List.getElem_cons_zero, List.nil_append]
theorem KidsOK.not_or (h : KidsOK l d t p n (tysP l t p).length) (ho : OwnOK l t p) (hl : p.kids.length = (tysP l t p).length) (h5 : ¬ p.op = 5) :
    okP l (d + 1) t p n = upto (onceV (vrP l (d + 1) t p)) (vrP l (d + 1) t p).length ∧ vrP l (d + 1) t p = hdV t p ++ (lisV (kidR l d (tysP l t p) p.kids) (tysP l t p).length).flatten := by
  refine ⟨?_, ?_⟩
  · rw [(h.all ho hl).1, headL_no h5]
  · rw [vrP_go, lisV_flat]
    have : limV l t p = (tysP l t p).length := by unfold limV; rw [if_neg h5]
    rw [this]
theorem okP_is (l : List Da) (t : Ty) (p : Pt) : okP l 10 t p 0 = isP l t p := by
  unfold okP isP
  simp only [Nat.zero_add]
end
end Go.Proofs.YtphmhlekfmkdkaaGreat
