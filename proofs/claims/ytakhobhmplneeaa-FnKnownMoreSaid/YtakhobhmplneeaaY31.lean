/-
  When a value that is known in part is known where another one is: plain mathematics, and the functions of both sides. No statement is proved here.
-/
import Derived.Test.YtakhobhmplneeaaY30
namespace Go.Proofs.Ytakhobhmplneeaa
open Go.RowKit Go.Sort Go.Deep
set_option maxRecDepth 100000
set_option linter.unusedVariables false
noncomputable def kmV : Nat → Vl → Vl → Bool
  | 0, _, _ => false
  | d + 1, a, b => holeV b || (decide (a.ctor = b.ctor) && (decide (a.n = b.n) && upto (fun i => kmV d (a.kids.getD i default) (b.kids.getD i default)) b.kids.length))
noncomputable def kmK (d : Nat) (p q : List Vl) (i : Nat) : Bool := kmV d (p.getD i default) (q.getD i default)
section
variable {d : Nat} {a b : Vl}
theorem km_hole (h : holeV b = true) : kmV (d + 1) a b = true := by show (holeV b || _) = true; rw [h]; rfl
theorem km_ctor (h : holeV b = false) (hc : ¬ a.ctor = b.ctor) : kmV (d + 1) a b = false := by show (holeV b || _) = false; rw [h, decide_eq_false hc]; rfl
theorem km_n (h : holeV b = false) (hc : ¬ a.n = b.n) : kmV (d + 1) a b = false := by show (holeV b || _) = false; rw [h, decide_eq_false hc]; simp
theorem km_go (h : holeV b = false) (hc : a.ctor = b.ctor) (hn : a.n = b.n) : kmV (d + 1) a b = upto (kmK d a.kids b.kids) b.kids.length := by
  show (holeV b || _) = _; rw [h, decide_eq_true hc, decide_eq_true hn]; rfl
theorem kmK_at {p q : List Vl} {i : Nat} (h : i < p.length) (h' : i < q.length) : kmK d p q i = kmV d p[i] q[i] := by
  unfold kmK
  rw [List.getD_eq_getElem?_getD, List.getD_eq_getElem?_getD, List.getElem?_eq_getElem h, List.getElem?_eq_getElem h']; rfl
end
noncomputable def kidT (l : List Da) (t : Ty) (c : Int) : List Ty := if t.data = -1 then [] else agR l t c
theorem fitH_kids {l : List Da} {d : Nat} {t : Ty} {v : Vl} (hh : holeV v = false) (hf : fitH l (d + 1) t v = true) : v.kids.length = (kidT l t v.ctor).length ∧ ∀ k (h : k < (kidT l t v.ctor).length) (h' : k < v.kids.length), fitH l d (kidT l t v.ctor)[k] v.kids[k] = true := by
  by_cases ht : t.data = -1
  · rw [fitH_int hh ht] at hf
    simp only [Bool.and_eq_true, decide_eq_true_eq] at hf
    have e : kidT l t v.ctor = [] := if_pos ht
    refine ⟨by rw [e, hf.2.2.2]; rfl, fun k h h' => by omega⟩
  · have e : kidT l t v.ctor = agR l t v.ctor := if_neg ht
    have hn : v.n = 0 := Classical.byContradiction fun h => by rw [fitH_n hh ht h] at hf; cases hf
    have hc : v.ctor ∈ ctR l t := Classical.byContradiction fun h => by rw [fitH_ctor hh ht h] at hf; cases hf
    have hl : v.kids.length = (agR l t v.ctor).length := Classical.byContradiction fun h => by rw [fitH_len hh ht h] at hf; cases hf
    rw [fitH_go hh ht hn hc hl] at hf
    simp only [e]
    refine ⟨hl, fun k h h' => ?_⟩
    have := upto_get hf h
    rwa [kidH_at h h'] at this
/-- Two lists of values that are of the same types, as far as they are known. -/
def Same2 (l : List Da) (d : Nat) (p q : List Vl) : Prop := p.length = q.length ∧ ∀ k (h : k < p.length) (h' : k < q.length), ∃ t, fitH l d t p[k] = true ∧ fitH l d t q[k] = true
theorem same2_of {l : List Da} {d : Nat} {t : Ty} {a b : Vl} (ha : fitH l (d + 1) t a = true) (hb : fitH l (d + 1) t b = true) (hh : holeV b = false) (hc : a.ctor = b.ctor) : Same2 l d a.kids b.kids := by
  have hb2 : ¬ b.ctor = -2 := fun h => by rw [fitH_two h, hh] at hb; cases hb
  have hha : holeV a = false := holeV_no (by rw [hc]; exact hb2)
  obtain ⟨la, fa⟩ := fitH_kids hha ha
  obtain ⟨lb, fb⟩ := fitH_kids hh hb
  rw [← hc] at lb fb
  exact ⟨by rw [la, lb], fun k h h' => ⟨_, fa k (by rw [← la]; exact h) h, fb k (by rw [← la]; exact h) h'⟩⟩
def KmS (l : List Da) (d : Nat) : Prop := ∀ (t : Ty) (a b : Vl) (A B : Option Addr) (ca cb ea eb : Nat) (w : World), fitH l d t a = true → fitH l d t b = true → RVs ea w w.heap.size A a.kids → RVs eb w w.heap.size B b.kids →
  Calls Try.prog 22 #[.agg #[.int .i64 a.ctor, .int .i64 a.n, .slice A a.kids.length ca], .agg #[.int .i64 b.ctor, .int .i64 b.n, .slice B b.kids.length cb]] w fun e w' => e = .returned (.bool (kmV d a b)) ∧ Below w.heap.size w w'
theorem KmS.known {l : List Da} {d : Nat} (h : KmS l d) (t : Ty) (a b : Vl) (A B : Option Addr) (ca cb ea eb : Nat) (r : Bool) (w : World) (hr : kmV d a b = r) (ha : fitH l d t a = true) (hb : fitH l d t b = true) (h1 : RVs ea w w.heap.size A a.kids) (h2 : RVs eb w w.heap.size B b.kids) :
    Calls Try.prog 22 #[.agg #[.int .i64 a.ctor, .int .i64 a.n, .slice A a.kids.length ca], .agg #[.int .i64 b.ctor, .int .i64 b.n, .slice B b.kids.length cb]] w fun e w' => e = .returned (.bool r) ∧ Below w.heap.size w w' := by
  rw [← hr]; exact h t a b A B ca cb ea eb w ha hb h1 h2
set_option maxHeartbeats 1600000 in
theorem kmS_step (l : List Da) (d : Nat) (ih : KmS l d) : KmS l (d + 1) := by
  intro t a b A B ca cb ea eb w ha hb hra hrb
  have hla := hra.1
  have hlb := hrb.1
  unfold maxLen at hla hlb
  have HRA := Lib.hid hra
  have HRB := Lib.hid hrb
  have HA := Lib.hid ha
  have HB := Lib.hid hb
  have IH := Lib.hid ih
  clear ha hb hra hrb ih
  generalize hw0 : (w.alloc (.cells #[.int .i64 a.ctor, .int .i64 a.n, .slice A a.kids.length ca] 28)).alloc (.cells #[.int .i64 b.ctor, .int .i64 b.n, .slice B b.kids.length cb] 28) = w0
  have hb0 := below_box2 hw0
  have HXA : Hid (VBx w0 w.heap.size a.ctor a.n (.slice A a.kids.length ca)) := by rw [← hw0]; exact ⟨by simp [go_sem], by simp [go_sem], by simp [go_sem]⟩
  have HXB : Hid (VBx w0 (w.heap.size + 1) b.ctor b.n (.slice B b.kids.length cb)) := by rw [← hw0]; exact ⟨by simp [go_sem], by simp [go_sem], by simp [go_sem]⟩
  have HW := Lib.hid hw0
  clear hw0
  by_cases h2 : b.ctor = -2
  · have p2 := ieq_t h2
    have HH : Hid (kmV (d + 1) a b = true) := km_hole (by rw [← fitH_two h2]; exact HB.out)
    clear h2
    go_enter Try.func22, Try.ntmps22
    go_wp2_with fail
    go_ret
    rw [HW.out]
    exact ⟨ret_bool HH.out.symm, hb0⟩
  have p2 := ieq_f h2
  have HH := Lib.hid (holeV_no h2)
  clear h2
  by_cases hc : a.ctor = b.ctor
  · have q1 : (a.ctor != b.ctor) = false := by simp [hc]
    by_cases hn : a.n = b.n
    · have q2 : (a.n != b.n) = false := by simp [hn]
      have HG := Lib.hid (km_go (d := d) HH.out hc hn)
      obtain ⟨hlen, hsame⟩ := same2_of HA.out HB.out HH.out hc
      have HL := Lib.hid hlen
      have HS := Lib.hid hsame
      clear hc hn hlen hsame
      go_enter Try.func22, Try.ntmps22
      go_wp2_with fail
      rw [HW.out]
      go_loopw [5] (fun i wr => ∃ k : Nat, k ≤ b.kids.length ∧ i = .int .i64 k ∧ Hid (upto (kmK d a.kids b.kids) k = true) ∧ Below w0.heap.size w0 wr) (fun i _ => b.kids.length - (intOf i).toNat)
      case atStart => exact ⟨0, by omega, rfl, rfl, Below.refl _ _⟩
      case round =>
        obtain ⟨k, hk, rfl, HU, hb⟩ := hrel
        have hbw : Below w.heap.size w wr := below_aft hb0 hb hb0.size
        obtain ⟨f0, f1, f2⟩ := HXA.out.at_ hb
        obtain ⟨g0, g1, g2⟩ := HXB.out.at_ hb
        by_cases hlt : k < b.kids.length
        · have hkl : k < a.kids.length := by rw [HL.out]; exact hlt
          obtain ⟨b1, o1, rfl, hbB1, hv1⟩ := (HRA.out.below hbw (Nat.le_refl _)).2 k hkl
          obtain ⟨e1, he1, D1, cp1, c0, c1, c2, hm1⟩ := hv1.parts
          obtain ⟨b2, o2, rfl, hbB2, hv2⟩ := (HRB.out.below hbw (Nat.le_refl _)).2 k hlt
          obtain ⟨e2, he2, D2, cp2, c3, c4, c5, hm2⟩ := hv2.parts
          obtain ⟨tk, fk1, fk2⟩ := HS.out k hkl hlt
          have d0 := cell_regrown c0
          have d1 := cell_regrown c1
          have d2 := cell_regrown c2
          have d3 := cell_regrown c3
          have d4 := cell_regrown c4
          have d5 := cell_regrown c5
          have d6 := cell_regrown f2
          have d7 := cell_regrown g2
          have Hm1 : Hid (RVs e1 wr wr.heap.size D1 a.kids[k].kids) := hm1.keep (fun _ _ => rfl) hbw.size
          have Hm2 : Hid (RVs e2 wr wr.heap.size D2 b.kids[k].kids) := hm2.keep (fun _ _ => rfl) hbw.size
          have F1 := Lib.hid fk1
          have F2 := Lib.hid fk2
          have HKk := Lib.hid (kmK_at (d := d) hkl hlt)
          have hi : (k : Int) < (b.kids.length : Int) := by omega
          have hi2 : (k : Int) < (a.kids.length : Int) := by omega
          clear c0 c1 c2 c3 c4 c5 hm1 hm2 hv1 hv2 he1 he2 fk1 fk2 f0 f1 g0 g1
          by_cases hf : kmV d a.kids[k] b.kids[k] = true
          · have HFk := Lib.hid hf
            have HUk : Hid (upto (kmK d a.kids b.kids) (k + 1) = true) := upto_t HU.out (by rw [HKk.out]; exact hf)
            clear hf
            go_wp2_with fail
            refine wp_region_quiet_below (by kernel_rfl) (by kernel_rfl) ?_
            repeat (quiet_step (exact Calls.regrown_of (IH.out.known tk _ _ _ _ _ _ _ _ _ _ HFk.out F1.out F2.out (Hm1.out.at_ (below_regrown wr _ _)) (Hm2.out.at_ (below_regrown wr _ _)))))
            refine wpQuiet_nil ?_
            intro _ hw'
            obtain ⟨⟨dq, osq⟩, hw''⟩ := hw'
            subst hw''
            have hb2 := hb.trans ((below_regrown wr dq osq).mono hb.size)
            clear d0 d1 d2 d3 d4 d5 d6 d7 f2 g2
            go_wp2_with fail
            go_roundw
            case rel => exact ⟨k + 1, by omega, by go_num, HUk, hb2⟩
            case measure => simp [intOf]; omega
          · have hf' : kmV d a.kids[k] b.kids[k] = false := by simpa using hf
            have HFk := Lib.hid hf'
            have HUk := Lib.hid (upto_f (f := kmK d a.kids b.kids) hlt (by rw [HKk.out]; exact hf'))
            clear hf hf'
            go_wp2_with fail
            refine wp_region_quiet_below (by kernel_rfl) (by kernel_rfl) ?_
            repeat (quiet_step (exact Calls.regrown_of (IH.out.known tk _ _ _ _ _ _ _ _ _ _ HFk.out F1.out F2.out (Hm1.out.at_ (below_regrown wr _ _)) (Hm2.out.at_ (below_regrown wr _ _)))))
            refine wpQuiet_nil ?_
            intro _ hw'
            obtain ⟨⟨dq, osq⟩, hw''⟩ := hw'
            subst hw''
            have hb2 := hbw.trans ((below_regrown wr dq osq).mono hbw.size)
            clear d0 d1 d2 d3 d4 d5 d6 d7 f2 g2
            go_wp2_with fail
            go_ret
            exact ⟨ret_bool (by rw [HG.out, HUk.out]), hb2⟩
        · have he : k = b.kids.length := by omega
          have HE : Hid (kmV (d + 1) a b = true) := by unfold Hid; rw [HG.out, ← he]; exact HU.out
          have hi : (b.kids.length : Int) ≤ (k : Int) := by omega
          clear he
          go_wp2_with fail
          go_ret
          exact ⟨ret_bool HE.out.symm, hbw⟩
    · have q2 : (a.n != b.n) = true := by simpa using hn
      have HF := Lib.hid (km_n (d := d) (a := a) HH.out hn)
      clear hn hc
      go_enter Try.func22, Try.ntmps22
      go_wp2_with fail
      go_ret
      rw [HW.out]
      exact ⟨ret_bool HF.out.symm, hb0⟩
  · have q1 : (a.ctor != b.ctor) = true := by simpa using hc
    have HF := Lib.hid (km_ctor (d := d) (a := a) HH.out hc)
    clear hc
    go_enter Try.func22, Try.ntmps22
    go_wp2_with fail
    go_ret
    rw [HW.out]
    exact ⟨ret_bool HF.out.symm, hb0⟩
theorem kmS_any (l : List Da) : ∀ d, KmS l d
  | 0 => fun t a b A B ca cb ea eb w ha hb h1 h2 => by rw [fitH_zero] at ha; cases ha
  | d + 1 => kmS_step l d (kmS_any l d)
def KmI (l : List Da) (d : Nat) : Prop := ∀ (t : Ty) (a b : Vl) (A B : Option Addr) (ca cb ea eb : Nat) (w : World), fitH l d t a = true → fitH l d t b = true → RVs ea w w.heap.size A a.kids → RVs eb w w.heap.size B b.kids →
  Calls Try.prog 20 #[.agg #[.int .i64 a.ctor, .int .i64 a.n, .slice A a.kids.length ca], .agg #[.int .i64 b.ctor, .int .i64 b.n, .slice B b.kids.length cb]] w fun e w' => e = .returned (.bool (kmV d a b)) ∧ Below w.heap.size w w'
theorem KmI.known {l : List Da} {d : Nat} (h : KmI l d) (t : Ty) (a b : Vl) (A B : Option Addr) (ca cb ea eb : Nat) (r : Bool) (w : World) (hr : kmV d a b = r) (ha : fitH l d t a = true) (hb : fitH l d t b = true) (h1 : RVs ea w w.heap.size A a.kids) (h2 : RVs eb w w.heap.size B b.kids) :
    Calls Try.prog 20 #[.agg #[.int .i64 a.ctor, .int .i64 a.n, .slice A a.kids.length ca], .agg #[.int .i64 b.ctor, .int .i64 b.n, .slice B b.kids.length cb]] w fun e w' => e = .returned (.bool r) ∧ Below w.heap.size w w' := by
  rw [← hr]; exact h t a b A B ca cb ea eb w ha hb h1 h2
/-- The library's function over two lists. -/
def KmE (l : List Da) (d : Nat) : Prop := ∀ (p q : List Vl) (A B : Option Addr) (ca cb ea eb : Nat) (w : World), Same2 l d p q → RVs ea w w.heap.size A p → RVs eb w w.heap.size B q →
  Calls Try.prog 34 #[.slice A p.length ca, .slice B q.length cb, .func (.func 20) #[] #[]] w fun e w' => e = .returned (.bool (upto (kmK d p q) q.length)) ∧ Below w.heap.size w w'
theorem KmE.known {l : List Da} {d : Nat} (h : KmE l d) (p q : List Vl) (A B : Option Addr) (ca cb ea eb : Nat) (r : Bool) (w : World) (hr : upto (kmK d p q) q.length = r) (hs : Same2 l d p q) (h1 : RVs ea w w.heap.size A p) (h2 : RVs eb w w.heap.size B q) :
    Calls Try.prog 34 #[.slice A p.length ca, .slice B q.length cb, .func (.func 20) #[] #[]] w fun e w' => e = .returned (.bool r) ∧ Below w.heap.size w w' := by
  rw [← hr]; exact h p q A B ca cb ea eb w hs h1 h2
set_option maxHeartbeats 1600000 in
theorem kmE_of (l : List Da) (d : Nat) (ih : KmI l d) : KmE l d := by
  intro p q A B ca cb ea eb w hs hra hrb
  have hla := hra.1
  have hlb := hrb.1
  unfold maxLen at hla hlb
  have HRA := Lib.hid hra
  have HRB := Lib.hid hrb
  have HS := Lib.hid hs.2
  have HL := Lib.hid hs.1
  have q0 : ((p.length : Int) != (q.length : Int)) = false := by simp [hs.1]
  have IH := Lib.hid ih
  clear hs hra hrb ih
  go_enter Try.func34, Try.ntmps34
  go_wp2_with fail
  go_loopw [17] (fun i wr => ∃ k : Nat, k ≤ p.length ∧ i = .int .i64 k ∧ Hid (upto (kmK d p q) k = true) ∧ Below w.heap.size w wr) (fun i _ => p.length - (intOf i).toNat)
  case atStart => exact ⟨0, by omega, rfl, rfl, Below.refl _ _⟩
  case round =>
    obtain ⟨k, hk, rfl, HU, hb⟩ := hrel
    by_cases hlt : k < p.length
    · have hkl : k < q.length := by rw [← HL.out]; exact hlt
      obtain ⟨b1, o1, rfl, hbB1, hv1⟩ := (HRA.out.below hb (Nat.le_refl _)).2 k hlt
      obtain ⟨e1, he1, D1, cp1, c0, c1, c2, hm1⟩ := hv1.parts
      generalize hwA : wr.alloc (.cells #[.int .i64 p[k].ctor, .int .i64 p[k].n, .slice D1 p[k].kids.length cp1] 28) = wA
      have hbA : Below wr.heap.size wr wA := by rw [← hwA]; exact (Below.refl _ _).alloc (Nat.le_refl _) _
      have hbwA := below_aft hb hbA hb.size
      obtain ⟨b2, o2, rfl, hbB2, hv2⟩ := (HRB.out.below hbwA (Nat.le_refl _)).2 k hkl
      obtain ⟨e2, he2, D2, cp2, c3, c4, c5, hm2⟩ := hv2.parts
      generalize hwB : wA.alloc (.cells #[.int .i64 q[k].ctor, .int .i64 q[k].n, .slice D2 q[k].kids.length cp2] 28) = wB
      have hbB : Below wA.heap.size wA wB := by rw [← hwB]; exact (Below.refl _ _).alloc (Nat.le_refl _) _
      have hbwB := below_aft hbwA hbB hbwA.size
      obtain ⟨tk, fk1, fk2⟩ := HS.out k hlt hkl
      have Hm1 : Hid (RVs e1 wB wB.heap.size D1 p[k].kids) := (hm1.keep (fun _ h => (hbA.trans (hbB.mono hbA.size)).cell (Nat.lt_of_lt_of_le h hb.size)) (hbwB.size))
      have Hm2 : Hid (RVs e2 wB wB.heap.size D2 q[k].kids) := (hm2.keep (fun _ h => hbB.cell (Nat.lt_of_lt_of_le h hbwA.size)) hbwB.size)
      have F1 := Lib.hid fk1
      have F2 := Lib.hid fk2
      have HKk := Lib.hid (kmK_at (d := d) hlt hkl)
      have hi : (k : Int) < (p.length : Int) := by omega
      have hi2 : (k : Int) < (q.length : Int) := by omega
      rw [← hwA] at c3 c4 c5
      have HWB : Hid ((wr.alloc (.cells #[.int .i64 p[k].ctor, .int .i64 p[k].n, .slice D1 p[k].kids.length cp1] 28)).alloc (.cells #[.int .i64 q[k].ctor, .int .i64 q[k].n, .slice D2 q[k].kids.length cp2] 28) = wB) := by rw [← hwB, ← hwA]; rfl
      clear hwA hwB hm1 hm2 hv1 hv2 he1 he2 fk1 fk2
      by_cases hf : kmV d p[k] q[k] = true
      · have HFk := Lib.hid hf
        have HUk : Hid (upto (kmK d p q) (k + 1) = true) := upto_t HU.out (by rw [HKk.out]; exact hf)
        clear hf
        go_wp2_with (go_at_call 20; rw [HWB.out]; refine (IH.out.known tk _ _ _ _ _ _ _ _ _ _ HFk.out F1.out F2.out Hm1.out Hm2.out).mono ?_; rintro e3 w3 ⟨rfl, hb3⟩; have hb3w := below_aft hbwB hb3 hbwB.size; clear c0 c1 c2 c3 c4 c5)
        go_roundw
        case rel => exact ⟨k + 1, by omega, by go_num, HUk, hb3w⟩
        case measure => simp [intOf]; omega
      · have hf' : kmV d p[k] q[k] = false := by simpa using hf
        have HFk := Lib.hid hf'
        have HUk := Lib.hid (upto_f (f := kmK d p q) hkl (by rw [HKk.out]; exact hf'))
        clear hf hf'
        go_wp2_with (go_at_call 20; rw [HWB.out]; refine (IH.out.known tk _ _ _ _ _ _ _ _ _ _ HFk.out F1.out F2.out Hm1.out Hm2.out).mono ?_; rintro e3 w3 ⟨rfl, hb3⟩; have hb3w := below_aft hbwB hb3 hbwB.size; clear c0 c1 c2 c3 c4 c5)
        go_ret
        exact ⟨ret_bool HUk.out.symm, hb3w⟩
    · have he : k = q.length := by rw [← HL.out]; omega
      have HE : Hid (upto (kmK d p q) q.length = true) := by unfold Hid; rw [← he]; exact HU.out
      have hi : (p.length : Int) ≤ (k : Int) := by omega
      clear he
      go_wp2_with fail
      go_ret
      exact ⟨ret_bool HE.out.symm, hb⟩
set_option maxHeartbeats 1600000 in
theorem kmI_step (l : List Da) (d : Nat) (ih : KmI l d) : KmI l (d + 1) := by
  intro t a b A B ca cb ea eb w ha hb hra hrb
  have hla := hra.1
  have hlb := hrb.1
  have HLB := Lib.hid hlb
  unfold maxLen at hla hlb
  have HRA := Lib.hid hra
  have HRB := Lib.hid hrb
  have HA := Lib.hid ha
  have HB := Lib.hid hb
  have IE := Lib.hid (kmE_of l d ih)
  clear ha hb hra hrb ih
  generalize hw0 : (w.alloc (.cells #[.int .i64 a.ctor, .int .i64 a.n, .slice A a.kids.length ca] 28)).alloc (.cells #[.int .i64 b.ctor, .int .i64 b.n, .slice B b.kids.length cb] 28) = w0
  have hb0 := below_box2 hw0
  have HXA : Hid (VBx w0 w.heap.size a.ctor a.n (.slice A a.kids.length ca)) := by rw [← hw0]; exact ⟨by simp [go_sem], by simp [go_sem], by simp [go_sem]⟩
  have HXB : Hid (VBx w0 (w.heap.size + 1) b.ctor b.n (.slice B b.kids.length cb)) := by rw [← hw0]; exact ⟨by simp [go_sem], by simp [go_sem], by simp [go_sem]⟩
  have HW := Lib.hid hw0
  clear hw0
  by_cases hh : holeV b = true
  · have HH := Lib.hid hh
    have HF := Lib.hid (km_hole (d := d) (a := a) hh)
    clear hh
    go_enter Try.func20, Try.ntmps20
    go_wp2_with (go_at_call 24; rw [HW.out]; refine (isH_any_known B cb b true _ HH.out HLB.out).mono ?_; rintro e1 w1 ⟨rfl, hb1⟩; obtain ⟨x0, x1, x2⟩ := HXA.out.at_ hb1; obtain ⟨y0, y1, y2⟩ := HXB.out.at_ hb1; have hb1w := below_aft hb0 hb1 hb0.size)
    go_ret
    exact ⟨ret_bool HF.out.symm, hb1w⟩
  have hh' : holeV b = false := by simpa using hh
  have HH := Lib.hid hh'
  clear hh hh'
  by_cases hc : a.ctor = b.ctor
  · have q1 : (a.ctor == b.ctor) = true := by simp [hc]
    by_cases hn : a.n = b.n
    · have q2 : (a.n == b.n) = true := by simp [hn]
      have HG := Lib.hid (km_go (d := d) HH.out hc hn)
      have HS := Lib.hid (same2_of HA.out HB.out HH.out hc)
      clear hc hn
      generalize hr : upto (kmK d a.kids b.kids) b.kids.length = r at HG
      have HR := Lib.hid hr
      clear hr
      cases r
      all_goals
        go_enter Try.func20, Try.ntmps20
        go_wp2_with (first | (go_at_call 34; refine (IE.out.known a.kids b.kids A B ca cb ea eb _ _ HR.out HS.out (HRA.out.at_ hb1w) (HRB.out.at_ hb1w)).mono ?_; rintro e2 w2 ⟨rfl, hb2⟩) | (go_at_call 24; rw [HW.out]; refine (isH_any_known B cb b false _ HH.out HLB.out).mono ?_; rintro e1 w1 ⟨rfl, hb1⟩; obtain ⟨x0, x1, x2⟩ := HXA.out.at_ hb1; obtain ⟨y0, y1, y2⟩ := HXB.out.at_ hb1; have hb1w := below_aft hb0 hb1 hb0.size))
        go_ret
        exact ⟨ret_bool HG.out.symm, below_aft hb1w hb2 hb1w.size⟩
    · have q2 : (a.n == b.n) = false := by simpa using hn
      have HF := Lib.hid (km_n (d := d) (a := a) HH.out hn)
      clear hn hc
      go_enter Try.func20, Try.ntmps20
      go_wp2_with (go_at_call 24; rw [HW.out]; refine (isH_any_known B cb b false _ HH.out HLB.out).mono ?_; rintro e1 w1 ⟨rfl, hb1⟩; obtain ⟨x0, x1, x2⟩ := HXA.out.at_ hb1; obtain ⟨y0, y1, y2⟩ := HXB.out.at_ hb1; have hb1w := below_aft hb0 hb1 hb0.size)
      go_ret
      exact ⟨ret_bool HF.out.symm, hb1w⟩
  · have q1 : (a.ctor == b.ctor) = false := by simpa using hc
    have HF := Lib.hid (km_ctor (d := d) (a := a) HH.out hc)
    clear hc
    go_enter Try.func20, Try.ntmps20
    go_wp2_with (go_at_call 24; rw [HW.out]; refine (isH_any_known B cb b false _ HH.out HLB.out).mono ?_; rintro e1 w1 ⟨rfl, hb1⟩; obtain ⟨x0, x1, x2⟩ := HXA.out.at_ hb1; obtain ⟨y0, y1, y2⟩ := HXB.out.at_ hb1; have hb1w := below_aft hb0 hb1 hb0.size)
    go_ret
    exact ⟨ret_bool HF.out.symm, hb1w⟩
theorem kmI_any (l : List Da) : ∀ d, KmI l d
  | 0 => fun t a b A B ca cb ea eb w ha hb h1 h2 => by rw [fitH_zero] at ha; cases ha
  | d + 1 => kmI_step l d (kmI_any l d)
end Go.Proofs.Ytakhobhmplneeaa
