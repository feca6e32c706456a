/-
  The program's walk over a pattern: the ways that fail at once. No statement is proved here.
-/
import Derived.Test.YteoopmogklpnoaaV48
namespace Go.Proofs.Yteoopmogklpnoaa
open Go.RowKit Go.Sort Go.Deep
set_option maxRecDepth 100000
set_option linter.unusedVariables false
theorem vo_start {w wa w1 : World} {lo g len cap n : Nat} {A : Option Addr} {t : Ty} {p : Pt} {D : Option Addr} {ep : Nat} (hc : CkB w lo g A len cap n) (hwa : w.setCell ⟨g, 1, none⟩ (.int .i64 ((n : Int) + 1)) = wa) (hw1 : ((wa.alloc (.cells #[.int .i64 t.data, .int .i64 t.index] 25)).alloc (.cells #[.int .i64 p.op, .int .i64 p.ctor, .int .i64 p.n, .int .i64 p.m, .int .i64 p.var, .slice D p.kids.length ep] 50)) = w1) :
    CkB w1 lo g A len cap (n + 1) ∧ w.grownBy w1 (some g) ∧ Bx w1 w.heap.size t ∧ PBx w1 (w.heap.size + 1) p (.slice D p.kids.length ep) ∧ w.heap.size + 2 ≤ w1.heap.size := by
  have e : ((n + 1 : Nat) : Int) = (n : Int) + 1 := by omega
  have hi := hc.inc
  have hgr := hc.incg (.int .i64 (n + 1 : Nat))
  rw [e, hwa] at hi hgr
  have hsz : wa.heap.size = w.heap.size := by rw [← hwa]; simp
  have hb : Below wa.heap.size wa w1 := below_box2 hw1
  have hs : wa.heap.size + 2 ≤ w1.heap.size := box2_block hw1
  have hx : Bx w1 wa.heap.size t := by rw [← hw1]; exact ⟨by simp [go_sem], by simp [go_sem]⟩
  have hp : PBx w1 (wa.heap.size + 1) p (.slice D p.kids.length ep) := by rw [← hw1]; exact ⟨by simp [go_sem], by simp [go_sem], by simp [go_sem], by simp [go_sem], by simp [go_sem], by simp [go_sem]⟩
  rw [hsz] at hx hp hs
  exact ⟨hi.keep (hb.block g hi.lt), grown_below2 hgr hb (by omega), hx, hp, hs⟩
set_option maxHeartbeats 3000000 in
theorem vo_own (l : List Da) (d : Nat) (z : Int) (A D : Option Addr) (cap ep e lo g n : Nat) (t : Ty) (p : Pt) (w : World) (hr : RDas w lo A l) (ht : TyOK l t) (hv : RPs e w lo D p.kids) (hc : CkB w lo g A l.length cap n) (hn60 : n ≤ 60) (ho : ¬ OwnOK l t p) : Calls Try.prog 101 #[.pointer (some ⟨g, 0, none⟩), .agg #[.int .i64 t.data, .int .i64 t.index], .agg #[.int .i64 p.op, .int .i64 p.ctor, .int .i64 p.n, .int .i64 p.m, .int .i64 p.var, .slice D p.kids.length ep], .int .i64 z] w (VoQ l d t p lo g A cap n w (okP l d t p n)) := by
  have HOK := Lib.hid (okP_own (d := d) (n := n) ho)
  have HD := Lib.hid (dec_f ho)
  clear ho
  have hgw := hc.lt
  have hglo := hc.ge
  have HT := Lib.hid ht
  have HCK := Lib.hid hc
  have hnI : (n : Int) ≤ 60 := by omega
  have HKR : Hid (∀ w', Below lo w w' → RDas w' w'.heap.size A l ∧ RPs e w' w'.heap.size D p.kids) := fun w' hb => ⟨hr.keep (fun q hq => hb.cell hq) (by have := hb.size; omega), hv.keep (fun q hq => hb.cell hq) (by have := hb.size; omega)⟩
  clear hr hv ht hc
  have hcA : w.cell? ⟨g, 1, none⟩ = some (.int .i64 n) := HCK.out.c1
  have hfA : w.frozen? ⟨g, 1, none⟩ = false := HCK.out.f1
  obtain ⟨wa, hwa⟩ : ∃ wa, w.setCell ⟨g, 1, none⟩ (.int .i64 ((n : Int) + 1)) = wa := ⟨_, rfl⟩
  obtain ⟨w1, hw1⟩ : ∃ w1, ((wa.alloc (.cells #[.int .i64 t.data, .int .i64 t.index] 25)).alloc (.cells #[.int .i64 p.op, .int .i64 p.ctor, .int .i64 p.n, .int .i64 p.m, .int .i64 p.var, .slice D p.kids.length ep] 50)) = w1 := ⟨_, rfl⟩
  obtain ⟨hC1, hG1, hX1, hP1, hs1⟩ := vo_start HCK.out hwa hw1
  have HWA := Lib.hid hwa
  have HW1 := Lib.hid hw1
  have HX1 := Lib.hid hX1
  have HP1 := Lib.hid hP1
  have HC1 := Lib.hid hC1
  have HG1 := Lib.hid hG1
  have hlow1 : Below lo w w1 := grown_low hG1 (fun q e => by injection e with e; omega) (by omega)
  have HKS : Hid (∀ w', Below w1.heap.size w1 w' → w'.cell? ⟨g, 0, none⟩ = some (.slice A l.length cap) ∧ w'.cell? ⟨g, 1, none⟩ = some (.int .i64 ((n : Int) + 1)) ∧ w'.cell? ⟨w.heap.size, 0, none⟩ = some (.int .i64 t.data) ∧ w'.cell? ⟨w.heap.size, 1, none⟩ = some (.int .i64 t.index) ∧ w'.cell? ⟨w.heap.size + 1, 0, none⟩ = some (.int .i64 p.op) ∧ w'.cell? ⟨w.heap.size + 1, 1, none⟩ = some (.int .i64 p.ctor) ∧ w'.cell? ⟨w.heap.size + 1, 2, none⟩ = some (.int .i64 p.n) ∧ w'.cell? ⟨w.heap.size + 1, 3, none⟩ = some (.int .i64 p.m) ∧ w'.cell? ⟨w.heap.size + 1, 4, none⟩ = some (.int .i64 p.var) ∧ w'.cell? ⟨w.heap.size + 1, 5, none⟩ = some (.slice D p.kids.length ep)) := fun w' h => ⟨(h.cell (p := ⟨g, 0, none⟩) hC1.lt).trans hC1.c0, (h.cell (p := ⟨g, 1, none⟩) hC1.lt).trans hC1.c1, (hX1.at_ h).1, (hX1.at_ h).2, hP1.at_ h⟩
  have SQ := HKS.out w1.drew (Below.refl _ w1).drew
  clear hw1 hwa hC1 hG1 hX1 hP1
  go_enter Try.func101, Try.ntmps101
  go_wp2_with fail
  rw [HWA.out, HW1.out]
  clear hcA hfA
  go_region_held3 (fun w' => w'.cell? ⟨g, 0, none⟩ = some (.slice A l.length cap) ∧ w'.cell? ⟨g, 1, none⟩ = some (.int .i64 ((n : Int) + 1)) ∧ w'.cell? ⟨w.heap.size, 0, none⟩ = some (.int .i64 t.data) ∧ w'.cell? ⟨w.heap.size, 1, none⟩ = some (.int .i64 t.index) ∧ w'.cell? ⟨w.heap.size + 1, 0, none⟩ = some (.int .i64 p.op) ∧ w'.cell? ⟨w.heap.size + 1, 1, none⟩ = some (.int .i64 p.ctor) ∧ w'.cell? ⟨w.heap.size + 1, 2, none⟩ = some (.int .i64 p.n) ∧ w'.cell? ⟨w.heap.size + 1, 3, none⟩ = some (.int .i64 p.m) ∧ w'.cell? ⟨w.heap.size + 1, 4, none⟩ = some (.int .i64 p.var) ∧ w'.cell? ⟨w.heap.size + 1, 5, none⟩ = some (.slice D p.kids.length ep)) (with_reducible exact SQ) (first | (go_at_call 124; (with_reducible refine (kt_any A D l cap ep t p w1.drew (HKR.out w1.drew hlow1.drew).1 HT.out).mono ?_); rintro e2 w2 ⟨v2, rfl, hty, hb2'⟩; have hb2 : Below w1.heap.size w1 w2 := ⟨hb2'.os, hb2'.tape, hb2'.output, hb2'.size, hb2'.block⟩; have HTY : Hid (OwnOK l t p → OTys w2 w1.heap.size v2 (tysP l t p) (tysP l t p).length) := hty; have SQ := HKS.out w2 hb2; clear hty hb2'; rw [HD.out]))
  obtain ⟨s0, s1, s2, s3, s4, s5, s6, s7, s8, s9⟩ := SQ
  have HG2 := Lib.hid (grown_below2 HG1.out hb2 (by omega))
  go_wp2_with fail
  go_ret2
  exact VoQ.no HOK.out HG2.out
set_option maxHeartbeats 3000000 in
theorem vo_zero (l : List Da) (A D : Option Addr) (cap ep e lo g n : Nat) (t : Ty) (p : Pt) (w : World) (hr : RDas w lo A l) (ht : TyOK l t) (hv : RPs e w lo D p.kids) (hc : CkB w lo g A l.length cap n) (hn60 : n ≤ 60) (ho : OwnOK l t p) : Calls Try.prog 101 #[.pointer (some ⟨g, 0, none⟩), .agg #[.int .i64 t.data, .int .i64 t.index], .agg #[.int .i64 p.op, .int .i64 p.ctor, .int .i64 p.n, .int .i64 p.m, .int .i64 p.var, .slice D p.kids.length ep], .int .i64 0] w (VoQ l 0 t p lo g A cap n w (okP l 0 t p n)) := by
  have HOK := Lib.hid (okP_zero (l := l) (t := t) (p := p) (n := n))
  have HD := Lib.hid (dec_t ho)
  clear ho
  have hgw := hc.lt
  have hglo := hc.ge
  have HT := Lib.hid ht
  have HCK := Lib.hid hc
  have hnI : (n : Int) ≤ 60 := by omega
  have HKR : Hid (∀ w', Below lo w w' → RDas w' w'.heap.size A l ∧ RPs e w' w'.heap.size D p.kids) := fun w' hb => ⟨hr.keep (fun q hq => hb.cell hq) (by have := hb.size; omega), hv.keep (fun q hq => hb.cell hq) (by have := hb.size; omega)⟩
  clear hr hv ht hc
  have hcA : w.cell? ⟨g, 1, none⟩ = some (.int .i64 n) := HCK.out.c1
  have hfA : w.frozen? ⟨g, 1, none⟩ = false := HCK.out.f1
  obtain ⟨wa, hwa⟩ : ∃ wa, w.setCell ⟨g, 1, none⟩ (.int .i64 ((n : Int) + 1)) = wa := ⟨_, rfl⟩
  obtain ⟨w1, hw1⟩ : ∃ w1, ((wa.alloc (.cells #[.int .i64 t.data, .int .i64 t.index] 25)).alloc (.cells #[.int .i64 p.op, .int .i64 p.ctor, .int .i64 p.n, .int .i64 p.m, .int .i64 p.var, .slice D p.kids.length ep] 50)) = w1 := ⟨_, rfl⟩
  obtain ⟨hC1, hG1, hX1, hP1, hs1⟩ := vo_start HCK.out hwa hw1
  have HWA := Lib.hid hwa
  have HW1 := Lib.hid hw1
  have HX1 := Lib.hid hX1
  have HP1 := Lib.hid hP1
  have HC1 := Lib.hid hC1
  have HG1 := Lib.hid hG1
  have hlow1 : Below lo w w1 := grown_low hG1 (fun q e => by injection e with e; omega) (by omega)
  have HKS : Hid (∀ w', Below w1.heap.size w1 w' → w'.cell? ⟨g, 0, none⟩ = some (.slice A l.length cap) ∧ w'.cell? ⟨g, 1, none⟩ = some (.int .i64 ((n : Int) + 1)) ∧ w'.cell? ⟨w.heap.size, 0, none⟩ = some (.int .i64 t.data) ∧ w'.cell? ⟨w.heap.size, 1, none⟩ = some (.int .i64 t.index) ∧ w'.cell? ⟨w.heap.size + 1, 0, none⟩ = some (.int .i64 p.op) ∧ w'.cell? ⟨w.heap.size + 1, 1, none⟩ = some (.int .i64 p.ctor) ∧ w'.cell? ⟨w.heap.size + 1, 2, none⟩ = some (.int .i64 p.n) ∧ w'.cell? ⟨w.heap.size + 1, 3, none⟩ = some (.int .i64 p.m) ∧ w'.cell? ⟨w.heap.size + 1, 4, none⟩ = some (.int .i64 p.var) ∧ w'.cell? ⟨w.heap.size + 1, 5, none⟩ = some (.slice D p.kids.length ep)) := fun w' h => ⟨(h.cell (p := ⟨g, 0, none⟩) hC1.lt).trans hC1.c0, (h.cell (p := ⟨g, 1, none⟩) hC1.lt).trans hC1.c1, (hX1.at_ h).1, (hX1.at_ h).2, hP1.at_ h⟩
  have SQ := HKS.out w1.drew (Below.refl _ w1).drew
  clear hw1 hwa hC1 hG1 hX1 hP1
  go_enter Try.func101, Try.ntmps101
  go_wp2_with fail
  rw [HWA.out, HW1.out]
  clear hcA hfA
  go_region_held3 (fun w' => w'.cell? ⟨g, 0, none⟩ = some (.slice A l.length cap) ∧ w'.cell? ⟨g, 1, none⟩ = some (.int .i64 ((n : Int) + 1)) ∧ w'.cell? ⟨w.heap.size, 0, none⟩ = some (.int .i64 t.data) ∧ w'.cell? ⟨w.heap.size, 1, none⟩ = some (.int .i64 t.index) ∧ w'.cell? ⟨w.heap.size + 1, 0, none⟩ = some (.int .i64 p.op) ∧ w'.cell? ⟨w.heap.size + 1, 1, none⟩ = some (.int .i64 p.ctor) ∧ w'.cell? ⟨w.heap.size + 1, 2, none⟩ = some (.int .i64 p.n) ∧ w'.cell? ⟨w.heap.size + 1, 3, none⟩ = some (.int .i64 p.m) ∧ w'.cell? ⟨w.heap.size + 1, 4, none⟩ = some (.int .i64 p.var) ∧ w'.cell? ⟨w.heap.size + 1, 5, none⟩ = some (.slice D p.kids.length ep)) (with_reducible exact SQ) (first | (go_at_call 124; (with_reducible refine (kt_any A D l cap ep t p w1.drew (HKR.out w1.drew hlow1.drew).1 HT.out).mono ?_); rintro e2 w2 ⟨v2, rfl, hty, hb2'⟩; have hb2 : Below w1.heap.size w1 w2 := ⟨hb2'.os, hb2'.tape, hb2'.output, hb2'.size, hb2'.block⟩; have HTY : Hid (OwnOK l t p → OTys w2 w1.heap.size v2 (tysP l t p) (tysP l t p).length) := hty; have SQ := HKS.out w2 hb2; clear hty hb2'; rw [HD.out]))
  obtain ⟨s0, s1, s2, s3, s4, s5, s6, s7, s8, s9⟩ := SQ
  have HG2 := Lib.hid (grown_below2 HG1.out hb2 (by omega))
  go_wp2_with fail
  go_ret2
  exact VoQ.no HOK.out HG2.out
set_option maxHeartbeats 3000000 in
theorem vo_big (l : List Da) (d : Nat) (z : Int) (hz : (z == 0) = false) (A D : Option Addr) (cap ep e lo g n : Nat) (t : Ty) (p : Pt) (w : World) (hr : RDas w lo A l) (ht : TyOK l t) (hv : RPs e w lo D p.kids) (hc : CkB w lo g A l.length cap n) (hn60 : n ≤ 60) (ho : OwnOK l t p) (hb : 60 < n + 1) : Calls Try.prog 101 #[.pointer (some ⟨g, 0, none⟩), .agg #[.int .i64 t.data, .int .i64 t.index], .agg #[.int .i64 p.op, .int .i64 p.ctor, .int .i64 p.n, .int .i64 p.m, .int .i64 p.var, .slice D p.kids.length ep], .int .i64 z] w (VoQ l d t p lo g A cap n w (okP l d t p n)) := by
  have HOK := Lib.hid (okP_big (l := l) (d := d) (t := t) (p := p) hb)
  have HD := Lib.hid (dec_t ho)
  have hq : decide (60 < (n : Int) + 1) = true := decide_eq_true (by omega)
  have hbI : (60 : Int) < (n : Int) + 1 := by omega
  clear ho hb
  have hgw := hc.lt
  have hglo := hc.ge
  have HT := Lib.hid ht
  have HCK := Lib.hid hc
  have hnI : (n : Int) ≤ 60 := by omega
  have HKR : Hid (∀ w', Below lo w w' → RDas w' w'.heap.size A l ∧ RPs e w' w'.heap.size D p.kids) := fun w' hb => ⟨hr.keep (fun q hq => hb.cell hq) (by have := hb.size; omega), hv.keep (fun q hq => hb.cell hq) (by have := hb.size; omega)⟩
  clear hr hv ht hc
  have hcA : w.cell? ⟨g, 1, none⟩ = some (.int .i64 n) := HCK.out.c1
  have hfA : w.frozen? ⟨g, 1, none⟩ = false := HCK.out.f1
  obtain ⟨wa, hwa⟩ : ∃ wa, w.setCell ⟨g, 1, none⟩ (.int .i64 ((n : Int) + 1)) = wa := ⟨_, rfl⟩
  obtain ⟨w1, hw1⟩ : ∃ w1, ((wa.alloc (.cells #[.int .i64 t.data, .int .i64 t.index] 25)).alloc (.cells #[.int .i64 p.op, .int .i64 p.ctor, .int .i64 p.n, .int .i64 p.m, .int .i64 p.var, .slice D p.kids.length ep] 50)) = w1 := ⟨_, rfl⟩
  obtain ⟨hC1, hG1, hX1, hP1, hs1⟩ := vo_start HCK.out hwa hw1
  have HWA := Lib.hid hwa
  have HW1 := Lib.hid hw1
  have HX1 := Lib.hid hX1
  have HP1 := Lib.hid hP1
  have HC1 := Lib.hid hC1
  have HG1 := Lib.hid hG1
  have hlow1 : Below lo w w1 := grown_low hG1 (fun q e => by injection e with e; omega) (by omega)
  have HKS : Hid (∀ w', Below w1.heap.size w1 w' → w'.cell? ⟨g, 0, none⟩ = some (.slice A l.length cap) ∧ w'.cell? ⟨g, 1, none⟩ = some (.int .i64 ((n : Int) + 1)) ∧ w'.cell? ⟨w.heap.size, 0, none⟩ = some (.int .i64 t.data) ∧ w'.cell? ⟨w.heap.size, 1, none⟩ = some (.int .i64 t.index) ∧ w'.cell? ⟨w.heap.size + 1, 0, none⟩ = some (.int .i64 p.op) ∧ w'.cell? ⟨w.heap.size + 1, 1, none⟩ = some (.int .i64 p.ctor) ∧ w'.cell? ⟨w.heap.size + 1, 2, none⟩ = some (.int .i64 p.n) ∧ w'.cell? ⟨w.heap.size + 1, 3, none⟩ = some (.int .i64 p.m) ∧ w'.cell? ⟨w.heap.size + 1, 4, none⟩ = some (.int .i64 p.var) ∧ w'.cell? ⟨w.heap.size + 1, 5, none⟩ = some (.slice D p.kids.length ep)) := fun w' h => ⟨(h.cell (p := ⟨g, 0, none⟩) hC1.lt).trans hC1.c0, (h.cell (p := ⟨g, 1, none⟩) hC1.lt).trans hC1.c1, (hX1.at_ h).1, (hX1.at_ h).2, hP1.at_ h⟩
  have SQ := HKS.out w1.drew (Below.refl _ w1).drew
  clear hw1 hwa hC1 hG1 hX1 hP1
  go_enter Try.func101, Try.ntmps101
  go_wp2_with fail
  rw [HWA.out, HW1.out]
  clear hcA hfA
  go_region_held3 (fun w' => w'.cell? ⟨g, 0, none⟩ = some (.slice A l.length cap) ∧ w'.cell? ⟨g, 1, none⟩ = some (.int .i64 ((n : Int) + 1)) ∧ w'.cell? ⟨w.heap.size, 0, none⟩ = some (.int .i64 t.data) ∧ w'.cell? ⟨w.heap.size, 1, none⟩ = some (.int .i64 t.index) ∧ w'.cell? ⟨w.heap.size + 1, 0, none⟩ = some (.int .i64 p.op) ∧ w'.cell? ⟨w.heap.size + 1, 1, none⟩ = some (.int .i64 p.ctor) ∧ w'.cell? ⟨w.heap.size + 1, 2, none⟩ = some (.int .i64 p.n) ∧ w'.cell? ⟨w.heap.size + 1, 3, none⟩ = some (.int .i64 p.m) ∧ w'.cell? ⟨w.heap.size + 1, 4, none⟩ = some (.int .i64 p.var) ∧ w'.cell? ⟨w.heap.size + 1, 5, none⟩ = some (.slice D p.kids.length ep)) (with_reducible exact SQ) (first | (go_at_call 124; (with_reducible refine (kt_any A D l cap ep t p w1.drew (HKR.out w1.drew hlow1.drew).1 HT.out).mono ?_); rintro e2 w2 ⟨v2, rfl, hty, hb2'⟩; have hb2 : Below w1.heap.size w1 w2 := ⟨hb2'.os, hb2'.tape, hb2'.output, hb2'.size, hb2'.block⟩; have HTY : Hid (OwnOK l t p → OTys w2 w1.heap.size v2 (tysP l t p) (tysP l t p).length) := hty; have SQ := HKS.out w2 hb2; clear hty hb2'; rw [HD.out]))
  obtain ⟨s0, s1, s2, s3, s4, s5, s6, s7, s8, s9⟩ := SQ
  have HG2 := Lib.hid (grown_below2 HG1.out hb2 (by omega))
  go_wp2_with fail
  go_ret2
  exact VoQ.no HOK.out HG2.out
set_option maxHeartbeats 3000000 in
theorem vo_len (l : List Da) (d : Nat) (z : Int) (hz : (z == 0) = false) (A D : Option Addr) (cap ep e lo g n : Nat) (t : Ty) (p : Pt) (w : World) (hr : RDas w lo A l) (ht : TyOK l t) (hv : RPs e w lo D p.kids) (hc : CkB w lo g A l.length cap n) (hn60 : n ≤ 60) (ho : OwnOK l t p) (hb : n + 1 ≤ 60) (hl : ¬ p.kids.length = (tysP l t p).length) : Calls Try.prog 101 #[.pointer (some ⟨g, 0, none⟩), .agg #[.int .i64 t.data, .int .i64 t.index], .agg #[.int .i64 p.op, .int .i64 p.ctor, .int .i64 p.n, .int .i64 p.m, .int .i64 p.var, .slice D p.kids.length ep], .int .i64 z] w (VoQ l d t p lo g A cap n w (okP l d t p n)) := by
  have HOK := Lib.hid (okP_len (d := d) (n := n) hl)
  have HD := Lib.hid (dec_t ho)
  have HOW := Lib.hid ho
  have hq : decide (60 < (n : Int) + 1) = false := decide_eq_false (by omega)
  have hbI : (n : Int) + 1 ≤ 60 := by omega
  have hlI : (((tysP l t p).length : Int) != (p.kids.length : Int)) = true := by simp; omega
  have HL3 := Lib.hid (tysP_len l t p)
  clear ho hb hl
  have hgw := hc.lt
  have hglo := hc.ge
  have HT := Lib.hid ht
  have HCK := Lib.hid hc
  have hnI : (n : Int) ≤ 60 := by omega
  have HKR : Hid (∀ w', Below lo w w' → RDas w' w'.heap.size A l ∧ RPs e w' w'.heap.size D p.kids) := fun w' hb => ⟨hr.keep (fun q hq => hb.cell hq) (by have := hb.size; omega), hv.keep (fun q hq => hb.cell hq) (by have := hb.size; omega)⟩
  clear hr hv ht hc
  have hcA : w.cell? ⟨g, 1, none⟩ = some (.int .i64 n) := HCK.out.c1
  have hfA : w.frozen? ⟨g, 1, none⟩ = false := HCK.out.f1
  obtain ⟨wa, hwa⟩ : ∃ wa, w.setCell ⟨g, 1, none⟩ (.int .i64 ((n : Int) + 1)) = wa := ⟨_, rfl⟩
  obtain ⟨w1, hw1⟩ : ∃ w1, ((wa.alloc (.cells #[.int .i64 t.data, .int .i64 t.index] 25)).alloc (.cells #[.int .i64 p.op, .int .i64 p.ctor, .int .i64 p.n, .int .i64 p.m, .int .i64 p.var, .slice D p.kids.length ep] 50)) = w1 := ⟨_, rfl⟩
  obtain ⟨hC1, hG1, hX1, hP1, hs1⟩ := vo_start HCK.out hwa hw1
  have HWA := Lib.hid hwa
  have HW1 := Lib.hid hw1
  have HX1 := Lib.hid hX1
  have HP1 := Lib.hid hP1
  have HC1 := Lib.hid hC1
  have HG1 := Lib.hid hG1
  have hlow1 : Below lo w w1 := grown_low hG1 (fun q e => by injection e with e; omega) (by omega)
  have HKS : Hid (∀ w', Below w1.heap.size w1 w' → w'.cell? ⟨g, 0, none⟩ = some (.slice A l.length cap) ∧ w'.cell? ⟨g, 1, none⟩ = some (.int .i64 ((n : Int) + 1)) ∧ w'.cell? ⟨w.heap.size, 0, none⟩ = some (.int .i64 t.data) ∧ w'.cell? ⟨w.heap.size, 1, none⟩ = some (.int .i64 t.index) ∧ w'.cell? ⟨w.heap.size + 1, 0, none⟩ = some (.int .i64 p.op) ∧ w'.cell? ⟨w.heap.size + 1, 1, none⟩ = some (.int .i64 p.ctor) ∧ w'.cell? ⟨w.heap.size + 1, 2, none⟩ = some (.int .i64 p.n) ∧ w'.cell? ⟨w.heap.size + 1, 3, none⟩ = some (.int .i64 p.m) ∧ w'.cell? ⟨w.heap.size + 1, 4, none⟩ = some (.int .i64 p.var) ∧ w'.cell? ⟨w.heap.size + 1, 5, none⟩ = some (.slice D p.kids.length ep)) := fun w' h => ⟨(h.cell (p := ⟨g, 0, none⟩) hC1.lt).trans hC1.c0, (h.cell (p := ⟨g, 1, none⟩) hC1.lt).trans hC1.c1, (hX1.at_ h).1, (hX1.at_ h).2, hP1.at_ h⟩
  have SQ := HKS.out w1.drew (Below.refl _ w1).drew
  clear hw1 hwa hC1 hG1 hX1 hP1
  go_enter Try.func101, Try.ntmps101
  go_wp2_with fail
  rw [HWA.out, HW1.out]
  clear hcA hfA
  go_region_held3 (fun w' => w'.cell? ⟨g, 0, none⟩ = some (.slice A l.length cap) ∧ w'.cell? ⟨g, 1, none⟩ = some (.int .i64 ((n : Int) + 1)) ∧ w'.cell? ⟨w.heap.size, 0, none⟩ = some (.int .i64 t.data) ∧ w'.cell? ⟨w.heap.size, 1, none⟩ = some (.int .i64 t.index) ∧ w'.cell? ⟨w.heap.size + 1, 0, none⟩ = some (.int .i64 p.op) ∧ w'.cell? ⟨w.heap.size + 1, 1, none⟩ = some (.int .i64 p.ctor) ∧ w'.cell? ⟨w.heap.size + 1, 2, none⟩ = some (.int .i64 p.n) ∧ w'.cell? ⟨w.heap.size + 1, 3, none⟩ = some (.int .i64 p.m) ∧ w'.cell? ⟨w.heap.size + 1, 4, none⟩ = some (.int .i64 p.var) ∧ w'.cell? ⟨w.heap.size + 1, 5, none⟩ = some (.slice D p.kids.length ep)) (with_reducible exact SQ) (first | (go_at_call 124; (with_reducible refine (kt_any A D l cap ep t p w1.drew (HKR.out w1.drew hlow1.drew).1 HT.out).mono ?_); rintro e2 w2 ⟨v2, rfl, hty, hb2'⟩; have hb2 : Below w1.heap.size w1 w2 := ⟨hb2'.os, hb2'.tape, hb2'.output, hb2'.size, hb2'.block⟩; have HTY : Hid (OwnOK l t p → OTys w2 w1.heap.size v2 (tysP l t p) (tysP l t p).length) := hty; have SQ := HKS.out w2 hb2; clear hty hb2'; rw [HD.out]))
  obtain ⟨s0, s1, s2, s3, s4, s5, s6, s7, s8, s9⟩ := SQ
  have HG2 := Lib.hid (grown_below2 HG1.out hb2 (by omega))
  obtain ⟨A2, c2, rfl, hr2⟩ := (HTY.out HOW.out).form (by have := HL3.out; unfold maxLen; omega)
  clear hr2
  go_wp2_with fail
  go_ret2
  exact VoQ.no HOK.out HG2.out
end Go.Proofs.Yteoopmogklpnoaa
/-
  The program's walk over a pattern: what holds at every round. No statement is proved here.
-/
namespace Go.Proofs.Yteoopmogklpnoaa
open Go.RowKit Go.Sort Go.Deep
set_option maxRecDepth 100000
set_option linter.unusedVariables false
theorem catV_mem {f : Nat → List Vt} {x : Vt} : ∀ {k}, x ∈ catV f k → ∃ i, i < k ∧ x ∈ f i
  | 0, h => by cases h
  | k + 1, h => by
    rcases List.mem_append.1 (show x ∈ catV f k ++ f k from h) with h | h
    · obtain ⟨i, hi, h⟩ := catV_mem h; exact ⟨i, by omega, h⟩
    · exact ⟨k, by omega, h⟩
theorem vrP_vars {l : List Da} : ∀ {d : Nat} {t : Ty} {p : Pt}, shP l d t p = true → ∀ x ∈ vrP l d t p, 0 ≤ x.var ∧ x.var ≤ 5
  | 0, t, p, h => by rw [shP_zero] at h; cases h
  | d + 1, t, p, h => fun x hx => by
    obtain ⟨h1, h2, h3⟩ := shP_parts h
    rw [vrP_go] at hx
    rcases List.mem_append.1 hx with hx | hx
    · by_cases hn : p.op = 2 ∨ p.op = 6
      · rw [hdV_yes hn] at hx
        rw [List.mem_singleton.1 hx]
        exact h1.1 hn
      · rw [hdV_no hn] at hx; cases hx
    · obtain ⟨i, hi, hx⟩ := catV_mem hx
      have hil : i < (tysP l t p).length := Nat.lt_of_lt_of_le hi (limV_le l t p)
      rw [kidR_at hil (by omega)] at hx
      exact vrP_vars (h3 i hil (by omega)) x hx
theorem KidsOK.sh {l : List Da} {d : Nat} {t : Ty} {p : Pt} {n : Nat} (h : KidsOK l d t p n (tysP l t p).length) (ho : OwnOK l t p) (hl : p.kids.length = (tysP l t p).length) : shP l (d + 1) t p = true := by
  rw [shP_go ho hl]
  exact upto_all (fun i hi => by rw [kidP_at hi (by omega)]; exact (h.2 i hi (by omega) hi).1)
theorem KidsOK.or2 {l : List Da} {d : Nat} {t : Ty} {p : Pt} {n : Nat} (h : KidsOK l d t p n (tysP l t p).length) (ho : OwnOK l t p) (hl : p.kids.length = (tysP l t p).length) (h5 : p.op = 5) :
    okP l (d + 1) t p n = sameB (kidR l d (tysP l t p) p.kids 0) (kidR l d (tysP l t p) p.kids 1) ∧ vrP l (d + 1) t p = kidR l d (tysP l t p) p.kids 0 := by
  have ht : tysP l t p = [t, t] := by rw [tysP_other (by omega), h5]; rfl
  have h0 : 0 < p.kids.length := by rw [hl, ht]; simp
  have h1 : 1 < p.kids.length := by rw [hl, ht]; simp
  have hh := h.or_ ho hl h5 h0 h1
  have e0 : kidR l d (tysP l t p) p.kids 0 = vrP l d t p.kids[0] := by rw [kidR_at (by omega) h0]; simp only [ht, List.getElem_cons_zero]
  have e1 : kidR l d (tysP l t p) p.kids 1 = vrP l d t p.kids[1] := by rw [kidR_at (by omega) h1]; simp only [ht, List.getElem_cons_succ, List.getElem_cons_zero]
  rw [e0, e1]; exact hh
theorem vo_at {w w1 w2 w3 : World} {lo g n2 c2 : Nat} {A2 : Option Addr} {t : Ty} {p : Pt} {v : Value} {ats : List Ty} (hlow1 : Below lo w w1) (hb2 : Below w1.heap.size w1 w2) (hgr : w2.grownBy w3 none) (hx1 : Bx w1 w.heap.size t) (hp1 : PBx w1 (w.heap.size + 1) p v) (hs1 : w.heap.size + 2 ≤ w1.heap.size) (hg : lo ≤ g) (hgw : g < w.heap.size) (hty : OTys w2 w1.heap.size (.slice A2 n2 c2) ats ats.length) (h3 : ats.length ≤ 3) :
    ∀ wr, Fr (fun b => b = g ∨ b = w2.heap.size) w3 wr → Below lo w wr ∧ Bx wr w.heap.size t ∧ PBx wr (w.heap.size + 1) p v ∧ RTys wr wr.heap.size A2 ats := by
  intro wr hf
  have z1 := hlow1.size
  have z2 := hb2.size
  have z3 := hgr.size
  have z4 := hf.size
  have hk : ∀ i, i < w2.heap.size → i ≠ g → wr.heap[i]? = w2.heap[i]? := fun i hi hne => (hf.2.2.2.2 i (by omega) (fun e => by rcases e with e | e <;> omega)).trans (hgr.block i hi (fun e => by cases e))
  refine ⟨⟨hf.1.trans (hgr.os.trans (hb2.os.trans hlow1.os)), hf.2.1.trans (hgr.tape.trans (hb2.tape.trans hlow1.tape)), hf.2.2.1.trans (hgr.output.trans (hb2.output.trans hlow1.output)), by omega, fun i hi => (hk i (by omega) (by omega)).trans ((hb2.block i (by omega)).trans (hlow1.block i hi))⟩, ?_, hp1.keep ((hk _ (by omega) (by omega)).trans (hb2.block _ (by omega))), ?_⟩
  · have e : wr.heap[w.heap.size]? = w1.heap[w.heap.size]? := (hk _ (by omega) (by omega)).trans (hb2.block _ (by omega))
    exact ⟨(World.cell?_of_block (a := ⟨w.heap.size, 0, none⟩) e).trans hx1.1, (World.cell?_of_block (a := ⟨w.heap.size, 1, none⟩) e).trans hx1.2⟩
  · exact (hty.keptV2 (fun b e => hk b (hty.own b e).2 (by have := (hty.own b e).1; omega))).reads (by unfold maxLen; omega)
theorem OVt.one {w : World} {lo : Nat} {v : Value} {L : List Vt} (h : OVt w lo v L) : v.oneCell' = true := by
  obtain ⟨xs, ho, _⟩ := h
  rcases ho.2 with ⟨rfl, _⟩ | ⟨g, cap, cur, rfl, _⟩ <;> rfl
theorem KRow.one {w : World} {lo : Nat} {F : Nat → List Vt} {xs : List Value} {k : Nat} (h : KRow w lo F xs k) (hk : xs.length = k) : ∀ u ∈ xs, u.oneCell' = true := fun u hu => by
  obtain ⟨i, hi, rfl⟩ := List.mem_iff_getElem.1 hu
  obtain ⟨v, e, ho⟩ := h i (by omega)
  rw [List.getElem?_eq_getElem hi] at e
  injection e with e; rw [e]; exact ho.one
theorem insert_any (base g b m : Nat) (A : Option Addr) (n c : Nat) (xs : List Value) (w : World) (hm : m = 0 ∨ m = 1) (ho : w.ownsRow base 53 1 (.slice (some ⟨g, 0, none⟩) m m) m xs) (hbase : base ≤ w.heap.size) (hx : w.cell? ⟨b, 0, none⟩ = some (.slice A n c)) (h1 : ∀ u ∈ xs, u.oneCell' = true) :
    Calls Try.prog 126 #[.slice (some ⟨g, 0, none⟩) m m, .int .i64 0, .slice (some ⟨b, 0, none⟩) 1 1] w fun e w' => ∃ v, e = .returned v ∧ w'.ownsRow base 53 1 v (m + 1) (.slice A n c :: xs) ∧ w.grownBy w' (some g) := by
  have hl := ho.1
  rcases hm with rfl | rfl
  · obtain rfl : xs = [] := List.eq_nil_of_length_eq_zero (by omega)
    exact insert_0 base g b A n c w ho hbase hx
  · match xs, hl with
    | [y], _ => exact insert_1 base g b A n c y w ho hbase hx (h1 y (by simp))
theorem OVt.lit (w : World) (lo : Nat) (x : Vt) (h : lo ≤ w.heap.size) : OVt (w.alloc (.cells #[.int .i64 x.var, .int .i64 x.ty.data, .int .i64 x.ty.index] 56)) lo (.slice (some ⟨w.heap.size, 0, none⟩) 1 1) [x] := by
  refine ⟨[.int .i64 x.var, .int .i64 x.ty.data, .int .i64 x.ty.index], ?_, fun j hj => ?_⟩
  · exact World.ownsRow_lit w #[.int .i64 x.var, .int .i64 x.ty.data, .int .i64 x.ty.index] 1 h (by unfold maxLen; omega) rfl
  · match j, hj with
    | 0, _ => exact ⟨rfl, rfl, rfl⟩
end Go.Proofs.Yteoopmogklpnoaa
