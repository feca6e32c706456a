/-
  The program's walk over a pattern: the ways that fail at once. No statement is proved here.
-/
import Derived.Test.YtphmhlekfmkdkaaGreatG34
namespace Go.Proofs.YtphmhlekfmkdkaaGreat
open Go.RowKit Go.Sort Go.Deep
set_option maxRecDepth 100000
set_option linter.unusedVariables false

theorem vo_start {w wa w1 : World} {lo g len cap n : Nat} {A : Option Addr} {t : Ty} {p : Pt} {D : Option Addr} {ep : Nat} (hc : CkB w lo g A len cap n) (hwa : w.setCell ⟨g, 1, none⟩ (.int .i64 ((n : Int) + 1)) = wa) (hw1 : ((wa.alloc (.cells #[.int .i64 t.data, .int .i64 t.index] 31)).alloc (.cells #[.int .i64 p.op, .int .i64 p.ctor, .int .i64 p.n, .int .i64 p.m, .int .i64 p.var, .slice D p.kids.length ep] 51)) = w1) :
    CkB w1 lo g A len cap (n + 1) ∧ w.grownBy w1 (some g) ∧ Bx w1 w.heap.size t ∧ PBx w1 (w.heap.size + 1) p (.slice D p.kids.length ep) ∧ w.heap.size + 2 ≤ w1.heap.size := by
  have e : ((n + 1 : Nat) : Int) = (n : Int) + 1 := by omega
  have hi := hc.inc
  have hgr := hc.incg (.int .i64 (n + 1 : Nat))
  rw [e, hwa] at hi hgr
  have hsz : wa.heap.size = w.heap.size := by rw [← hwa]; simp
  have hb : Below wa.heap.size wa w1 := below_box2 hw1
  have hs : wa.heap.size + 2 ≤ w1.heap.size := box2_block hw1
  have hx : Bx w1 wa.heap.size t := by rw [← hw1]; exact ⟨by simp [go_sem], by simp [go_sem]⟩
  have hp : PBx w1 (wa.heap.size + 1) p (.slice D p.kids.length ep) := by rw [← hw1]; exact ⟨by simp [go_sem], by simp [go_sem], by simp [go_sem], by simp [go_sem], by simp [go_sem], by simp [go_sem]⟩
  rw [hsz] at hx hp hs
  exact ⟨hi.keep (hb.block g hi.lt), grown_below2 hgr hb (by omega), hx, hp, hs⟩

set_option maxHeartbeats 3000000 in
theorem vo_own (l : List Da) (d : Nat) (z : Int) (A D : Option Addr) (cap ep e lo g n : Nat) (t : Ty) (p : Pt) (w : World) (hr : RDas w lo A l) (ht : TyOK l t) (hv : RPs e w lo D p.kids) (hc : CkB w lo g A l.length cap n) (hn60 : n ≤ 60) (ho : ¬ OwnOK l t p) : Calls Tryz.prog 120 #[.pointer (some ⟨g, 0, none⟩), .agg #[.int .i64 t.data, .int .i64 t.index], .agg #[.int .i64 p.op, .int .i64 p.ctor, .int .i64 p.n, .int .i64 p.m, .int .i64 p.var, .slice D p.kids.length ep], .int .i64 z] w (VoQ l d t p lo g A cap n w (okP l d t p n)) := by
  have HOK := Lib.hid (okP_own (d := d) (n := n) ho)
  have HD := Lib.hid (dec_f ho)
  clear ho
  have hgw := hc.lt
  have hglo := hc.ge
  have HT := Lib.hid ht
  have HCK := Lib.hid hc
  have hnI : (n : Int) ≤ 60 := by omega
  have HKR : Hid (∀ w', Below lo w w' → RDas w' w'.heap.size A l ∧ RPs e w' w'.heap.size D p.kids) := fun w' hb => ⟨hr.keep (fun q hq => hb.cell hq) (by have := hb.size; omega), hv.keep (fun q hq => hb.cell hq) (by have := hb.size; omega)⟩
  clear hr hv ht hc
  have hcA : w.cell? ⟨g, 1, none⟩ = some (.int .i64 n) := HCK.out.c1
  have hfA : w.frozen? ⟨g, 1, none⟩ = false := HCK.out.f1
  obtain ⟨wa, hwa⟩ : ∃ wa, w.setCell ⟨g, 1, none⟩ (.int .i64 ((n : Int) + 1)) = wa := ⟨_, rfl⟩
  obtain ⟨w1, hw1⟩ : ∃ w1, ((wa.alloc (.cells #[.int .i64 t.data, .int .i64 t.index] 31)).alloc (.cells #[.int .i64 p.op, .int .i64 p.ctor, .int .i64 p.n, .int .i64 p.m, .int .i64 p.var, .slice D p.kids.length ep] 51)) = w1 := ⟨_, rfl⟩
  obtain ⟨hC1, hG1, hX1, hP1, hs1⟩ := vo_start HCK.out hwa hw1
  have HWA := Lib.hid hwa
  have HW1 := Lib.hid hw1
  have HX1 := Lib.hid hX1
  have HP1 := Lib.hid hP1
  have HC1 := Lib.hid hC1
  have HG1 := Lib.hid hG1
  have hlow1 : Below lo w w1 := grown_low hG1 (fun q e => by injection e with e; omega) (by omega)
  have HKS : Hid (∀ w', Below w1.heap.size w1 w' → w'.cell? ⟨g, 0, none⟩ = some (.slice A l.length cap) ∧ w'.cell? ⟨g, 1, none⟩ = some (.int .i64 ((n : Int) + 1)) ∧ w'.cell? ⟨w.heap.size, 0, none⟩ = some (.int .i64 t.data) ∧ w'.cell? ⟨w.heap.size, 1, none⟩ = some (.int .i64 t.index) ∧ w'.cell? ⟨w.heap.size + 1, 0, none⟩ = some (.int .i64 p.op) ∧ w'.cell? ⟨w.heap.size + 1, 1, none⟩ = some (.int .i64 p.ctor) ∧ w'.cell? ⟨w.heap.size + 1, 2, none⟩ = some (.int .i64 p.n) ∧ w'.cell? ⟨w.heap.size + 1, 3, none⟩ = some (.int .i64 p.m) ∧ w'.cell? ⟨w.heap.size + 1, 4, none⟩ = some (.int .i64 p.var) ∧ w'.cell? ⟨w.heap.size + 1, 5, none⟩ = some (.slice D p.kids.length ep)) := fun w' h => ⟨(h.cell (p := ⟨g, 0, none⟩) hC1.lt).trans hC1.c0, (h.cell (p := ⟨g, 1, none⟩) hC1.lt).trans hC1.c1, (hX1.at_ h).1, (hX1.at_ h).2, hP1.at_ h⟩
  have SQ := HKS.out w1.drew (Below.refl _ w1).drew
  clear hw1 hwa hC1 hG1 hX1 hP1
  go_enter Tryz.func120, Tryz.ntmps120
  go_wp2_with fail
  rw [HWA.out, HW1.out]
  clear hcA hfA
  go_region_held3 (fun w' => w'.cell? ⟨g, 0, none⟩ = some (.slice A l.length cap) ∧ w'.cell? ⟨g, 1, none⟩ = some (.int .i64 ((n : Int) + 1)) ∧ w'.cell? ⟨w.heap.size, 0, none⟩ = some (.int .i64 t.data) ∧ w'.cell? ⟨w.heap.size, 1, none⟩ = some (.int .i64 t.index) ∧ w'.cell? ⟨w.heap.size + 1, 0, none⟩ = some (.int .i64 p.op) ∧ w'.cell? ⟨w.heap.size + 1, 1, none⟩ = some (.int .i64 p.ctor) ∧ w'.cell? ⟨w.heap.size + 1, 2, none⟩ = some (.int .i64 p.n) ∧ w'.cell? ⟨w.heap.size + 1, 3, none⟩ = some (.int .i64 p.m) ∧ w'.cell? ⟨w.heap.size + 1, 4, none⟩ = some (.int .i64 p.var) ∧ w'.cell? ⟨w.heap.size + 1, 5, none⟩ = some (.slice D p.kids.length ep)) (with_reducible exact SQ) (first | (go_at_call 152; (with_reducible refine (kt_any A D l cap ep t p w1.drew (HKR.out w1.drew hlow1.drew).1 HT.out).mono ?_); rintro e2 w2 ⟨v2, rfl, hty, hb2'⟩; have hb2 : Below w1.heap.size w1 w2 := ⟨hb2'.os, hb2'.tape, hb2'.output, hb2'.size, hb2'.block⟩; have HTY : Hid (OwnOK l t p → OTys w2 w1.heap.size v2 (tysP l t p) (tysP l t p).length) := hty; have SQ := HKS.out w2 hb2; clear hty hb2'; rw [HD.out]))
  obtain ⟨s0, s1, s2, s3, s4, s5, s6, s7, s8, s9⟩ := SQ
  have HG2 := Lib.hid (grown_below2 HG1.out hb2 (by omega))
  go_wp2_with fail
  go_ret2
  exact VoQ.no HOK.out HG2.out

set_option maxHeartbeats 3000000 in
theorem vo_zero (l : List Da) (A D : Option Addr) (cap ep e lo g n : Nat) (t : Ty) (p : Pt) (w : World) (hr : RDas w lo A l) (ht : TyOK l t) (hv : RPs e w lo D p.kids) (hc : CkB w lo g A l.length cap n) (hn60 : n ≤ 60) (ho : OwnOK l t p) : Calls Tryz.prog 120 #[.pointer (some ⟨g, 0, none⟩), .agg #[.int .i64 t.data, .int .i64 t.index], .agg #[.int .i64 p.op, .int .i64 p.ctor, .int .i64 p.n, .int .i64 p.m, .int .i64 p.var, .slice D p.kids.length ep], .int .i64 0] w (VoQ l 0 t p lo g A cap n w (okP l 0 t p n)) := by
  have HOK := Lib.hid (okP_zero (l := l) (t := t) (p := p) (n := n))
  have HD := Lib.hid (dec_t ho)
  clear ho
  have hgw := hc.lt
  have hglo := hc.ge
  have HT := Lib.hid ht
  have HCK := Lib.hid hc
  have hnI : (n : Int) ≤ 60 := by omega
  have HKR : Hid (∀ w', Below lo w w' → RDas w' w'.heap.size A l ∧ RPs e w' w'.heap.size D p.kids) := fun w' hb => ⟨hr.keep (fun q hq => hb.cell hq) (by have := hb.size; omega), hv.keep (fun q hq => hb.cell hq) (by have := hb.size; omega)⟩
  clear hr hv ht hc
  have hcA : w.cell? ⟨g, 1, none⟩ = some (.int .i64 n) := HCK.out.c1
  have hfA : w.frozen? ⟨g, 1, none⟩ = false := HCK.out.f1
  obtain ⟨wa, hwa⟩ : ∃ wa, w.setCell ⟨g, 1, none⟩ (.int .i64 ((n : Int) + 1)) = wa := ⟨_, rfl⟩
  obtain ⟨w1, hw1⟩ : ∃ w1, ((wa.alloc (.cells #[.int .i64 t.data, .int .i64 t.index] 31)).alloc (.cells #[.int .i64 p.op, .int .i64 p.ctor, .int .i64 p.n, .int .i64 p.m, .int .i64 p.var, .slice D p.kids.length ep] 51)) = w1 := ⟨_, rfl⟩
  obtain ⟨hC1, hG1, hX1, hP1, hs1⟩ := vo_start HCK.out hwa hw1
  have HWA := Lib.hid hwa
  have HW1 := Lib.hid hw1
  have HX1 := Lib.hid hX1
  have HP1 := Lib.hid hP1
  have HC1 := Lib.hid hC1
  have HG1 := Lib.hid hG1
  have hlow1 : Below lo w w1 := grown_low hG1 (fun q e => by injection e with e; omega) (by omega)
  have HKS : Hid (∀ w', Below w1.heap.size w1 w' → w'.cell? ⟨g, 0, none⟩ = some (.slice A l.length cap) ∧ w'.cell? ⟨g, 1, none⟩ = some (.int .i64 ((n : Int) + 1)) ∧ w'.cell? ⟨w.heap.size, 0, none⟩ = some (.int .i64 t.data) ∧ w'.cell? ⟨w.heap.size, 1, none⟩ = some (.int .i64 t.index) ∧ w'.cell? ⟨w.heap.size + 1, 0, none⟩ = some (.int .i64 p.op) ∧ w'.cell? ⟨w.heap.size + 1, 1, none⟩ = some (.int .i64 p.ctor) ∧ w'.cell? ⟨w.heap.size + 1, 2, none⟩ = some (.int .i64 p.n) ∧ w'.cell? ⟨w.heap.size + 1, 3, none⟩ = some (.int .i64 p.m) ∧ w'.cell? ⟨w.heap.size + 1, 4, none⟩ = some (.int .i64 p.var) ∧ w'.cell? ⟨w.heap.size + 1, 5, none⟩ = some (.slice D p.kids.length ep)) := fun w' h => ⟨(h.cell (p := ⟨g, 0, none⟩) hC1.lt).trans hC1.c0, (h.cell (p := ⟨g, 1, none⟩) hC1.lt).trans hC1.c1, (hX1.at_ h).1, (hX1.at_ h).2, hP1.at_ h⟩
  have SQ := HKS.out w1.drew (Below.refl _ w1).drew
  clear hw1 hwa hC1 hG1 hX1 hP1
  go_enter Tryz.func120, Tryz.ntmps120
  go_wp2_with fail
  rw [HWA.out, HW1.out]
  clear hcA hfA
  go_region_held3 (fun w' => w'.cell? ⟨g, 0, none⟩ = some (.slice A l.length cap) ∧ w'.cell? ⟨g, 1, none⟩ = some (.int .i64 ((n : Int) + 1)) ∧ w'.cell? ⟨w.heap.size, 0, none⟩ = some (.int .i64 t.data) ∧ w'.cell? ⟨w.heap.size, 1, none⟩ = some (.int .i64 t.index) ∧ w'.cell? ⟨w.heap.size + 1, 0, none⟩ = some (.int .i64 p.op) ∧ w'.cell? ⟨w.heap.size + 1, 1, none⟩ = some (.int .i64 p.ctor) ∧ w'.cell? ⟨w.heap.size + 1, 2, none⟩ = some (.int .i64 p.n) ∧ w'.cell? ⟨w.heap.size + 1, 3, none⟩ = some (.int .i64 p.m) ∧ w'.cell? ⟨w.heap.size + 1, 4, none⟩ = some (.int .i64 p.var) ∧ w'.cell? ⟨w.heap.size + 1, 5, none⟩ = some (.slice D p.kids.length ep)) (with_reducible exact SQ) (first | (go_at_call 152; (with_reducible refine (kt_any A D l cap ep t p w1.drew (HKR.out w1.drew hlow1.drew).1 HT.out).mono ?_); rintro e2 w2 ⟨v2, rfl, hty, hb2'⟩; have hb2 : Below w1.heap.size w1 w2 := ⟨hb2'.os, hb2'.tape, hb2'.output, hb2'.size, hb2'.block⟩; have HTY : Hid (OwnOK l t p → OTys w2 w1.heap.size v2 (tysP l t p) (tysP l t p).length) := hty; have SQ := HKS.out w2 hb2; clear hty hb2'; rw [HD.out]))
  obtain ⟨s0, s1, s2, s3, s4, s5, s6, s7, s8, s9⟩ := SQ
  have HG2 := Lib.hid (grown_below2 HG1.out hb2 (by omega))
  go_wp2_with fail
  go_ret2
  exact VoQ.no HOK.out HG2.out

set_option maxHeartbeats 3000000 in
theorem vo_big (l : List Da) (d : Nat) (z : Int) (hz : (z == 0) = false) (A D : Option Addr) (cap ep e lo g n : Nat) (t : Ty) (p : Pt) (w : World) (hr : RDas w lo A l) (ht : TyOK l t) (hv : RPs e w lo D p.kids) (hc : CkB w lo g A l.length cap n) (hn60 : n ≤ 60) (ho : OwnOK l t p) (hb : 60 < n + 1) : Calls Tryz.prog 120 #[.pointer (some ⟨g, 0, none⟩), .agg #[.int .i64 t.data, .int .i64 t.index], .agg #[.int .i64 p.op, .int .i64 p.ctor, .int .i64 p.n, .int .i64 p.m, .int .i64 p.var, .slice D p.kids.length ep], .int .i64 z] w (VoQ l d t p lo g A cap n w (okP l d t p n)) := by
  have HOK := Lib.hid (okP_big (l := l) (d := d) (t := t) (p := p) hb)
  have HD := Lib.hid (dec_t ho)
  have hq : decide (60 < (n : Int) + 1) = true := decide_eq_true (by omega)
  have hbI : (60 : Int) < (n : Int) + 1 := by omega
  clear ho hb
  have hgw := hc.lt
  have hglo := hc.ge
  have HT := Lib.hid ht
  have HCK := Lib.hid hc
  have hnI : (n : Int) ≤ 60 := by omega
  have HKR : Hid (∀ w', Below lo w w' → RDas w' w'.heap.size A l ∧ RPs e w' w'.heap.size D p.kids) := fun w' hb => ⟨hr.keep (fun q hq => hb.cell hq) (by have := hb.size; omega), hv.keep (fun q hq => hb.cell hq) (by have := hb.size; omega)⟩
  clear hr hv ht hc
  have hcA : w.cell? ⟨g, 1, none⟩ = some (.int .i64 n) := HCK.out.c1
  have hfA : w.frozen? ⟨g, 1, none⟩ = false := HCK.out.f1
  obtain ⟨wa, hwa⟩ : ∃ wa, w.setCell ⟨g, 1, none⟩ (.int .i64 ((n : Int) + 1)) = wa := ⟨_, rfl⟩
  obtain ⟨w1, hw1⟩ : ∃ w1, ((wa.alloc (.cells #[.int .i64 t.data, .int .i64 t.index] 31)).alloc (.cells #[.int .i64 p.op, .int .i64 p.ctor, .int .i64 p.n, .int .i64 p.m, .int .i64 p.var, .slice D p.kids.length ep] 51)) = w1 := ⟨_, rfl⟩
  obtain ⟨hC1, hG1, hX1, hP1, hs1⟩ := vo_start HCK.out hwa hw1
  have HWA := Lib.hid hwa
  have HW1 := Lib.hid hw1
  have HX1 := Lib.hid hX1
  have HP1 := Lib.hid hP1
  have HC1 := Lib.hid hC1
  have HG1 := Lib.hid hG1
  have hlow1 : Below lo w w1 := grown_low hG1 (fun q e => by injection e with e; omega) (by omega)
  have HKS : Hid (∀ w', Below w1.heap.size w1 w' → w'.cell? ⟨g, 0, none⟩ = some (.slice A l.length cap) ∧ w'.cell? ⟨g, 1, none⟩ = some (.int .i64 ((n : Int) + 1)) ∧ w'.cell? ⟨w.heap.size, 0, none⟩ = some (.int .i64 t.data) ∧ w'.cell? ⟨w.heap.size, 1, none⟩ = some (.int .i64 t.index) ∧ w'.cell? ⟨w.heap.size + 1, 0, none⟩ = some (.int .i64 p.op) ∧ w'.cell? ⟨w.heap.size + 1, 1, none⟩ = some (.int .i64 p.ctor) ∧ w'.cell? ⟨w.heap.size + 1, 2, none⟩ = some (.int .i64 p.n) ∧ w'.cell? ⟨w.heap.size + 1, 3, none⟩ = some (.int .i64 p.m) ∧ w'.cell? ⟨w.heap.size + 1, 4, none⟩ = some (.int .i64 p.var) ∧ w'.cell? ⟨w.heap.size + 1, 5, none⟩ = some (.slice D p.kids.length ep)) := fun w' h => ⟨(h.cell (p := ⟨g, 0, none⟩) hC1.lt).trans hC1.c0, (h.cell (p := ⟨g, 1, none⟩) hC1.lt).trans hC1.c1, (hX1.at_ h).1, (hX1.at_ h).2, hP1.at_ h⟩
  have SQ := HKS.out w1.drew (Below.refl _ w1).drew
  clear hw1 hwa hC1 hG1 hX1 hP1
  go_enter Tryz.func120, Tryz.ntmps120
  go_wp2_with fail
  rw [HWA.out, HW1.out]
  clear hcA hfA
  go_region_held3 (fun w' => w'.cell? ⟨g, 0, none⟩ = some (.slice A l.length cap) ∧ w'.cell? ⟨g, 1, none⟩ = some (.int .i64 ((n : Int) + 1)) ∧ w'.cell? ⟨w.heap.size, 0, none⟩ = some (.int .i64 t.data) ∧ w'.cell? ⟨w.heap.size, 1, none⟩ = some (.int .i64 t.index) ∧ w'.cell? ⟨w.heap.size + 1, 0, none⟩ = some (.int .i64 p.op) ∧ w'.cell? ⟨w.heap.size + 1, 1, none⟩ = some (.int .i64 p.ctor) ∧ w'.cell? ⟨w.heap.size + 1, 2, none⟩ = some (.int .i64 p.n) ∧ w'.cell? ⟨w.heap.size + 1, 3, none⟩ = some (.int .i64 p.m) ∧ w'.cell? ⟨w.heap.size + 1, 4, none⟩ = some (.int .i64 p.var) ∧ w'.cell? ⟨w.heap.size + 1, 5, none⟩ = some (.slice D p.kids.length ep)) (with_reducible exact SQ) (first | (go_at_call 152; (with_reducible refine (kt_any A D l cap ep t p w1.drew (HKR.out w1.drew hlow1.drew).1 HT.out).mono ?_); rintro e2 w2 ⟨v2, rfl, hty, hb2'⟩; have hb2 : Below w1.heap.size w1 w2 := ⟨hb2'.os, hb2'.tape, hb2'.output, hb2'.size, hb2'.block⟩; have HTY : Hid (OwnOK l t p → OTys w2 w1.heap.size v2 (tysP l t p) (tysP l t p).length) := hty; have SQ := HKS.out w2 hb2; clear hty hb2'; rw [HD.out]))
  obtain ⟨s0, s1, s2, s3, s4, s5, s6, s7, s8, s9⟩ := SQ
  have HG2 := Lib.hid (grown_below2 HG1.out hb2 (by omega))
  go_wp2_with fail
  go_ret2
  exact VoQ.no HOK.out HG2.out

set_option maxHeartbeats 3000000 in
theorem vo_len (l : List Da) (d : Nat) (z : Int) (hz : (z == 0) = false) (A D : Option Addr) (cap ep e lo g n : Nat) (t : Ty) (p : Pt) (w : World) (hr : RDas w lo A l) (ht : TyOK l t) (hv : RPs e w lo D p.kids) (hc : CkB w lo g A l.length cap n) (hn60 : n ≤ 60) (ho : OwnOK l t p) (hb : n + 1 ≤ 60) (hl : ¬ p.kids.length = (tysP l t p).length) : Calls Tryz.prog 120 #[.pointer (some ⟨g, 0, none⟩), .agg #[.int .i64 t.data, .int .i64 t.index], .agg #[.int .i64 p.op, .int .i64 p.ctor, .int .i64 p.n, .int .i64 p.m, .int .i64 p.var, .slice D p.kids.length ep], .int .i64 z] w (VoQ l d t p lo g A cap n w (okP l d t p n)) := by
  have HOK := Lib.hid (okP_len (d := d) (n := n) hl)
  have HD := Lib.hid (dec_t ho)
  have HOW := Lib.hid ho
  have hq : decide (60 < (n : Int) + 1) = false := decide_eq_false (by omega)
  have hbI : (n : Int) + 1 ≤ 60 := by omega
  have hlI : (((tysP l t p).length : Int) != (p.kids.length : Int)) = true := by simp; omega
  have HL3 := Lib.hid (tysP_len l t p)
  clear ho hb hl
  have hgw := hc.lt
  have hglo := hc.ge
  have HT := Lib.hid ht
  have HCK := Lib.hid hc
  have hnI : (n : Int) ≤ 60 := by omega
  have HKR : Hid (∀ w', Below lo w w' → RDas w' w'.heap.size A l ∧ RPs e w' w'.heap.size D p.kids) := fun w' hb => ⟨hr.keep (fun q hq => hb.cell hq) (by have := hb.size; omega), hv.keep (fun q hq => hb.cell hq) (by have := hb.size; omega)⟩
  clear hr hv ht hc
  have hcA : w.cell? ⟨g, 1, none⟩ = some (.int .i64 n) := HCK.out.c1
  have hfA : w.frozen? ⟨g, 1, none⟩ = false := HCK.out.f1
  obtain ⟨wa, hwa⟩ : ∃ wa, w.setCell ⟨g, 1, none⟩ (.int .i64 ((n : Int) + 1)) = wa := ⟨_, rfl⟩
  obtain ⟨w1, hw1⟩ : ∃ w1, ((wa.alloc (.cells #[.int .i64 t.data, .int .i64 t.index] 31)).alloc (.cells #[.int .i64 p.op, .int .i64 p.ctor, .int .i64 p.n, .int .i64 p.m, .int .i64 p.var, .slice D p.kids.length ep] 51)) = w1 := ⟨_, rfl⟩
  obtain ⟨hC1, hG1, hX1, hP1, hs1⟩ := vo_start HCK.out hwa hw1
  have HWA := Lib.hid hwa
  have HW1 := Lib.hid hw1
  have HX1 := Lib.hid hX1
  have HP1 := Lib.hid hP1
  have HC1 := Lib.hid hC1
  have HG1 := Lib.hid hG1
  have hlow1 : Below lo w w1 := grown_low hG1 (fun q e => by injection e with e; omega) (by omega)
  have HKS : Hid (∀ w', Below w1.heap.size w1 w' → w'.cell? ⟨g, 0, none⟩ = some (.slice A l.length cap) ∧ w'.cell? ⟨g, 1, none⟩ = some (.int .i64 ((n : Int) + 1)) ∧ w'.cell? ⟨w.heap.size, 0, none⟩ = some (.int .i64 t.data) ∧ w'.cell? ⟨w.heap.size, 1, none⟩ = some (.int .i64 t.index) ∧ w'.cell? ⟨w.heap.size + 1, 0, none⟩ = some (.int .i64 p.op) ∧ w'.cell? ⟨w.heap.size + 1, 1, none⟩ = some (.int .i64 p.ctor) ∧ w'.cell? ⟨w.heap.size + 1, 2, none⟩ = some (.int .i64 p.n) ∧ w'.cell? ⟨w.heap.size + 1, 3, none⟩ = some (.int .i64 p.m) ∧ w'.cell? ⟨w.heap.size + 1, 4, none⟩ = some (.int .i64 p.var) ∧ w'.cell? ⟨w.heap.size + 1, 5, none⟩ = some (.slice D p.kids.length ep)) := fun w' h => ⟨(h.cell (p := ⟨g, 0, none⟩) hC1.lt).trans hC1.c0, (h.cell (p := ⟨g, 1, none⟩) hC1.lt).trans hC1.c1, (hX1.at_ h).1, (hX1.at_ h).2, hP1.at_ h⟩
  have SQ := HKS.out w1.drew (Below.refl _ w1).drew
  clear hw1 hwa hC1 hG1 hX1 hP1
  go_enter Tryz.func120, Tryz.ntmps120
  go_wp2_with fail
  rw [HWA.out, HW1.out]
  clear hcA hfA
  go_region_held3 (fun w' => w'.cell? ⟨g, 0, none⟩ = some (.slice A l.length cap) ∧ w'.cell? ⟨g, 1, none⟩ = some (.int .i64 ((n : Int) + 1)) ∧ w'.cell? ⟨w.heap.size, 0, none⟩ = some (.int .i64 t.data) ∧ w'.cell? ⟨w.heap.size, 1, none⟩ = some (.int .i64 t.index) ∧ w'.cell? ⟨w.heap.size + 1, 0, none⟩ = some (.int .i64 p.op) ∧ w'.cell? ⟨w.heap.size + 1, 1, none⟩ = some (.int .i64 p.ctor) ∧ w'.cell? ⟨w.heap.size + 1, 2, none⟩ = some (.int .i64 p.n) ∧ w'.cell? ⟨w.heap.size + 1, 3, none⟩ = some (.int .i64 p.m) ∧ w'.cell? ⟨w.heap.size + 1, 4, none⟩ = some (.int .i64 p.var) ∧ w'.cell? ⟨w.heap.size + 1, 5, none⟩ = some (.slice D p.kids.length ep)) (with_reducible exact SQ) (first | (go_at_call 152; (with_reducible refine (kt_any A D l cap ep t p w1.drew (HKR.out w1.drew hlow1.drew).1 HT.out).mono ?_); rintro e2 w2 ⟨v2, rfl, hty, hb2'⟩; have hb2 : Below w1.heap.size w1 w2 := ⟨hb2'.os, hb2'.tape, hb2'.output, hb2'.size, hb2'.block⟩; have HTY : Hid (OwnOK l t p → OTys w2 w1.heap.size v2 (tysP l t p) (tysP l t p).length) := hty; have SQ := HKS.out w2 hb2; clear hty hb2'; rw [HD.out]))
  obtain ⟨s0, s1, s2, s3, s4, s5, s6, s7, s8, s9⟩ := SQ
  have HG2 := Lib.hid (grown_below2 HG1.out hb2 (by omega))
  obtain ⟨A2, c2, rfl, hr2⟩ := (HTY.out HOW.out).form (by have := HL3.out; unfold maxLen; omega)
  clear hr2
  go_wp2_with fail
  go_ret2
  exact VoQ.no HOK.out HG2.out
end Go.Proofs.YtphmhlekfmkdkaaGreat
