/-
  Whether some value matches a pattern: the program's method. No statement is proved here.
-/
import Derived.Test.YthecfkdilbfimaaGreatH03
import Derived.Test.YthecfkdilbfimaaGreatG25
import Derived.Test.YthecfkdilbfimaaGreatH07
import Derived.Deep.RegionHeld3
import Derived.Lib.QuietBelow
namespace Go.Proofs.YthecfkdilbfimaaGreat
open Go.RowKit Go.Sort Go.Deep
set_option maxRecDepth 100000
set_option linter.unusedVariables false

/-- What the program's sets lie in: the types and the map of least depths, in a block of their own. -/
def SpB (w : World) (g : Nat) (A : Option Addr) (l : List Da) (cap mb : Nat) : Prop := w.cell? ⟨g, 0, none⟩ = some (.slice A l.length cap) ∧ w.cell? ⟨g, 1, none⟩ = some (.map (some mb))
theorem SpB.at_ {w w' : World} {g : Nat} {A : Option Addr} {l : List Da} {cap mb : Nat} (h : SpB w g A l cap mb) (hb : Below w.heap.size w w') : SpB w' g A l cap mb :=
  ⟨(hb.cell (p := ⟨g, 0, none⟩) (Go.block_lt_of_cell h.1)).trans h.1, (hb.cell (p := ⟨g, 1, none⟩) (Go.block_lt_of_cell h.2)).trans h.2⟩
theorem below_box3 {w w' : World} {o o' o'' : Obj} (h : ((w.alloc o).alloc o').alloc o'' = w') : Below w.heap.size w w' := by
  rw [← h]; exact (((Below.refl _ _).alloc (Nat.le_refl _) _).alloc (by simp) _).alloc (by simp <;> omega) _
def SmI (l : List Da) (d : Nat) : Prop := ∀ (A D : Option Addr) (cap mb ep e : Nat) (t : Ty) (p : Pt) (w : World), RDas w w.heap.size A l → MapTy w mb 400 (ldep l) (Inh l) → TyOK l t → shP l d t p = true → RPs e w w.heap.size D p.kids →
  Calls Tryz.prog 70 #[.agg #[.slice A l.length cap, .map (some mb)], .agg #[.int .i64 t.data, .int .i64 t.index], .agg #[.int .i64 p.op, .int .i64 p.ctor, .int .i64 p.n, .int .i64 p.m, .int .i64 p.var, .slice D p.kids.length ep]] w fun e w' => e = .returned (.bool (!smP l d t p)) ∧ Below w.heap.size w w'
theorem SmI.known {l : List Da} {d : Nat} (h : SmI l d) (A D : Option Addr) (cap mb ep e : Nat) (t : Ty) (p : Pt) (b : Bool) (w : World) (hf : (!smP l d t p) = b) (hr : RDas w w.heap.size A l) (hm : MapTy w mb 400 (ldep l) (Inh l)) (ht : TyOK l t) (hs : shP l d t p = true) (hv : RPs e w w.heap.size D p.kids) :
    Calls Tryz.prog 70 #[.agg #[.slice A l.length cap, .map (some mb)], .agg #[.int .i64 t.data, .int .i64 t.index], .agg #[.int .i64 p.op, .int .i64 p.ctor, .int .i64 p.n, .int .i64 p.m, .int .i64 p.var, .slice D p.kids.length ep]] w fun e w' => e = .returned (.bool b) ∧ Below w.heap.size w w' := by
  rw [← hf]; exact h A D cap mb ep e t p w hr hm ht hs hv
theorem look_ldep {l : List Da} {t : Ty} {w : World} {mb : Nat} (hm : MapTy w mb 400 (ldep l) (Inh l)) (ht : TyOK l t) : (Instr.lookup 108 (.map (some mb)) (.agg #[.int .i64 t.data, .int .i64 t.index]) false).run Tryz.prog w = .ok (.int .i64 (ldep l t)) w := by
  have h := hm.look (tys_mono ht.1.1 (ok_tys ht))
  by_cases hi : Inh l t
  · rw [dec_t hi] at h; exact h
  · rw [dec_f hi] at h; rw [ldep_no (ok_tys ht) hi]; exact h
theorem ldep_zero {l : List Da} {t : Ty} (hw : t ∈ tysN l.length) : (ldep l t == 0) = !dec (Inh l t) := by
  by_cases h : Inh l t
  · rw [dec_t h]; have := ldep_yes h; exact beq_eq_false_iff_ne.2 (by omega)
  · rw [dec_f h, ldep_no hw h]; rfl

set_option maxHeartbeats 1600000 in
theorem smI_1 (l : List Da) (d : Nat) (ih : SmI l d) (A D : Option Addr) (cap mb ep e : Nat) (t : Ty) (p : Pt) (w : World) (hr : RDas w w.heap.size A l) (hmp : MapTy w mb 400 (ldep l) (Inh l)) (ht : TyOK l t) (hs : shP l (d + 1) t p = true) (hv : RPs e w w.heap.size D p.kids) (hop : p.op = 1) :
    Calls Tryz.prog 70 #[.agg #[.slice A l.length cap, .map (some mb)], .agg #[.int .i64 t.data, .int .i64 t.index], .agg #[.int .i64 p.op, .int .i64 p.ctor, .int .i64 p.n, .int .i64 p.m, .int .i64 p.var, .slice D p.kids.length ep]] w fun e w' => e = .returned (.bool (!smP l (d + 1) t p)) ∧ Below w.heap.size w w' := by
  have hl := hv.1
  unfold maxLen at hl
  have Hr := Lib.hid hr
  have HMP := Lib.hid hmp
  have HK := Lib.hid ht
  have HV := Lib.hid hv
  have IH := Lib.hid ih
  have u1 := ieq_t hop
  have u2 : (p.op == 2) = false := ieq_f (by omega)
  have u3 : (p.op == 3) = false := ieq_f (by omega)
  have u4 : (p.op == 4) = false := ieq_f (by omega)
  have u5 : (p.op == 5) = false := ieq_f (by omega)
  have u6 : (p.op == 6) = false := ieq_f (by omega)
  have HF := Lib.hid (smP_any (l := l) (d := d) (t := t) (p := p) (by omega))
  have HD := Lib.hid (ldep_zero (ok_tys ht))
  have hlk : ∀ o1 o2 o3 : Obj, (Instr.lookup 108 (.map (some mb)) (.agg #[.int .i64 t.data, .int .i64 t.index]) false).run Tryz.prog (((w.alloc o1).alloc o2).alloc o3) = .ok (.int .i64 (ldep l t)) (((w.alloc o1).alloc o2).alloc o3) := fun o1 o2 o3 => look_ldep (hmp.at_ (below_box3 rfl)) ht
  generalize hw0 : ((w.alloc (.cells #[.slice A l.length cap, .map (some mb)] 110)).alloc (.cells #[.int .i64 t.data, .int .i64 t.index] 31)).alloc (.cells #[.int .i64 p.op, .int .i64 p.ctor, .int .i64 p.n, .int .i64 p.m, .int .i64 p.var, .slice D p.kids.length ep] 45) = w0
  have hb0 := below_box3 hw0
  have HXS : Hid (SpB w0 w.heap.size A l cap mb) := by rw [← hw0]; exact ⟨by simp [go_sem], by simp [go_sem]⟩
  have HXT : Hid (Bx w0 (w.heap.size + 1) t) := by rw [← hw0]; exact ⟨by simp [go_sem], by simp [go_sem]⟩
  have HXP : Hid (PBx w0 (w.heap.size + 2) p (.slice D p.kids.length ep)) := by rw [← hw0]; exact ⟨by simp [go_sem], by simp [go_sem], by simp [go_sem], by simp [go_sem], by simp [go_sem], by simp [go_sem]⟩
  have HW := Lib.hid hw0
  clear hr hmp ht hs hv ih hop hw0
  obtain ⟨s0, s1⟩ := HXS.out
  obtain ⟨x0, x1⟩ := HXT.out
  obtain ⟨y0, y1, y2, y3, y4, y5⟩ := HXP.out
  go_enter Tryz.func70, Tryz.ntmps70
  go_wp2_with fail
  rw [HW.out]
  go_ret
  exact ⟨ret_bool (by rw [HF.out, ← HD.out]), hb0⟩
set_option maxHeartbeats 1600000 in
theorem smI_2 (l : List Da) (d : Nat) (ih : SmI l d) (A D : Option Addr) (cap mb ep e : Nat) (t : Ty) (p : Pt) (w : World) (hr : RDas w w.heap.size A l) (hmp : MapTy w mb 400 (ldep l) (Inh l)) (ht : TyOK l t) (hs : shP l (d + 1) t p = true) (hv : RPs e w w.heap.size D p.kids) (hop : p.op = 2) :
    Calls Tryz.prog 70 #[.agg #[.slice A l.length cap, .map (some mb)], .agg #[.int .i64 t.data, .int .i64 t.index], .agg #[.int .i64 p.op, .int .i64 p.ctor, .int .i64 p.n, .int .i64 p.m, .int .i64 p.var, .slice D p.kids.length ep]] w fun e w' => e = .returned (.bool (!smP l (d + 1) t p)) ∧ Below w.heap.size w w' := by
  have hl := hv.1
  unfold maxLen at hl
  have Hr := Lib.hid hr
  have HMP := Lib.hid hmp
  have HK := Lib.hid ht
  have HV := Lib.hid hv
  have IH := Lib.hid ih
  have u1 : (p.op == 1) = false := ieq_f (by omega)
  have u2 := ieq_t hop
  have u3 : (p.op == 3) = false := ieq_f (by omega)
  have u4 : (p.op == 4) = false := ieq_f (by omega)
  have u5 : (p.op == 5) = false := ieq_f (by omega)
  have u6 : (p.op == 6) = false := ieq_f (by omega)
  have HF := Lib.hid (smP_any (l := l) (d := d) (t := t) (p := p) (by omega))
  have HD := Lib.hid (ldep_zero (ok_tys ht))
  have hlk : ∀ o1 o2 o3 : Obj, (Instr.lookup 108 (.map (some mb)) (.agg #[.int .i64 t.data, .int .i64 t.index]) false).run Tryz.prog (((w.alloc o1).alloc o2).alloc o3) = .ok (.int .i64 (ldep l t)) (((w.alloc o1).alloc o2).alloc o3) := fun o1 o2 o3 => look_ldep (hmp.at_ (below_box3 rfl)) ht
  generalize hw0 : ((w.alloc (.cells #[.slice A l.length cap, .map (some mb)] 110)).alloc (.cells #[.int .i64 t.data, .int .i64 t.index] 31)).alloc (.cells #[.int .i64 p.op, .int .i64 p.ctor, .int .i64 p.n, .int .i64 p.m, .int .i64 p.var, .slice D p.kids.length ep] 45) = w0
  have hb0 := below_box3 hw0
  have HXS : Hid (SpB w0 w.heap.size A l cap mb) := by rw [← hw0]; exact ⟨by simp [go_sem], by simp [go_sem]⟩
  have HXT : Hid (Bx w0 (w.heap.size + 1) t) := by rw [← hw0]; exact ⟨by simp [go_sem], by simp [go_sem]⟩
  have HXP : Hid (PBx w0 (w.heap.size + 2) p (.slice D p.kids.length ep)) := by rw [← hw0]; exact ⟨by simp [go_sem], by simp [go_sem], by simp [go_sem], by simp [go_sem], by simp [go_sem], by simp [go_sem]⟩
  have HW := Lib.hid hw0
  clear hr hmp ht hs hv ih hop hw0
  obtain ⟨s0, s1⟩ := HXS.out
  obtain ⟨x0, x1⟩ := HXT.out
  obtain ⟨y0, y1, y2, y3, y4, y5⟩ := HXP.out
  go_enter Tryz.func70, Tryz.ntmps70
  go_wp2_with fail
  rw [HW.out]
  go_ret
  exact ⟨ret_bool (by rw [HF.out, ← HD.out]), hb0⟩
set_option maxHeartbeats 1600000 in
theorem smI_3 (l : List Da) (d : Nat) (ih : SmI l d) (A D : Option Addr) (cap mb ep e : Nat) (t : Ty) (p : Pt) (w : World) (hr : RDas w w.heap.size A l) (hmp : MapTy w mb 400 (ldep l) (Inh l)) (ht : TyOK l t) (hs : shP l (d + 1) t p = true) (hv : RPs e w w.heap.size D p.kids) (hop : p.op = 3) :
    Calls Tryz.prog 70 #[.agg #[.slice A l.length cap, .map (some mb)], .agg #[.int .i64 t.data, .int .i64 t.index], .agg #[.int .i64 p.op, .int .i64 p.ctor, .int .i64 p.n, .int .i64 p.m, .int .i64 p.var, .slice D p.kids.length ep]] w fun e w' => e = .returned (.bool (!smP l (d + 1) t p)) ∧ Below w.heap.size w w' := by
  have hl := hv.1
  unfold maxLen at hl
  have Hr := Lib.hid hr
  have HMP := Lib.hid hmp
  have HK := Lib.hid ht
  have HV := Lib.hid hv
  have IH := Lib.hid ih
  have u1 : (p.op == 1) = false := ieq_f (by omega)
  have u2 : (p.op == 2) = false := ieq_f (by omega)
  have u3 := ieq_t hop
  have u4 : (p.op == 4) = false := ieq_f (by omega)
  have u5 : (p.op == 5) = false := ieq_f (by omega)
  have u6 : (p.op == 6) = false := ieq_f (by omega)
  have HF := Lib.hid (smP_int (l := l) (d := d) (t := t) (p := p) hop)
  generalize hw0 : ((w.alloc (.cells #[.slice A l.length cap, .map (some mb)] 110)).alloc (.cells #[.int .i64 t.data, .int .i64 t.index] 31)).alloc (.cells #[.int .i64 p.op, .int .i64 p.ctor, .int .i64 p.n, .int .i64 p.m, .int .i64 p.var, .slice D p.kids.length ep] 45) = w0
  have hb0 := below_box3 hw0
  have HXS : Hid (SpB w0 w.heap.size A l cap mb) := by rw [← hw0]; exact ⟨by simp [go_sem], by simp [go_sem]⟩
  have HXT : Hid (Bx w0 (w.heap.size + 1) t) := by rw [← hw0]; exact ⟨by simp [go_sem], by simp [go_sem]⟩
  have HXP : Hid (PBx w0 (w.heap.size + 2) p (.slice D p.kids.length ep)) := by rw [← hw0]; exact ⟨by simp [go_sem], by simp [go_sem], by simp [go_sem], by simp [go_sem], by simp [go_sem], by simp [go_sem]⟩
  have HW := Lib.hid hw0
  clear hr hmp ht hs hv ih hop hw0
  obtain ⟨s0, s1⟩ := HXS.out
  obtain ⟨x0, x1⟩ := HXT.out
  obtain ⟨y0, y1, y2, y3, y4, y5⟩ := HXP.out
  go_enter Tryz.func70, Tryz.ntmps70
  go_wp2_with fail
  rw [HW.out]
  go_ret
  exact ⟨ret_bool (by rw [HF.out]; rfl), hb0⟩
set_option maxHeartbeats 1600000 in
theorem smI_6 (l : List Da) (d : Nat) (ih : SmI l d) (A D : Option Addr) (cap mb ep e : Nat) (t : Ty) (p : Pt) (w : World) (hr : RDas w w.heap.size A l) (hmp : MapTy w mb 400 (ldep l) (Inh l)) (ht : TyOK l t) (hs : shP l (d + 1) t p = true) (hv : RPs e w w.heap.size D p.kids) (hop : p.op = 6) :
    Calls Tryz.prog 70 #[.agg #[.slice A l.length cap, .map (some mb)], .agg #[.int .i64 t.data, .int .i64 t.index], .agg #[.int .i64 p.op, .int .i64 p.ctor, .int .i64 p.n, .int .i64 p.m, .int .i64 p.var, .slice D p.kids.length ep]] w fun e w' => e = .returned (.bool (!smP l (d + 1) t p)) ∧ Below w.heap.size w w' := by
  have hl := hv.1
  unfold maxLen at hl
  have Hr := Lib.hid hr
  have HMP := Lib.hid hmp
  have HK := Lib.hid ht
  have HV := Lib.hid hv
  have IH := Lib.hid ih
  have u1 : (p.op == 1) = false := ieq_f (by omega)
  have u2 : (p.op == 2) = false := ieq_f (by omega)
  have u3 : (p.op == 3) = false := ieq_f (by omega)
  have u4 : (p.op == 4) = false := ieq_f (by omega)
  have u5 : (p.op == 5) = false := ieq_f (by omega)
  have u6 := ieq_t hop
  obtain ⟨hk1, hs0⟩ := as_partsP hs hop
  have h0k : 0 < p.kids.length := by omega
  have HF := Lib.hid (smP_as (l := l) (d := d) (t := t) hop h0k)
  have HS0 := Lib.hid (hs0 h0k)
  have hi0 : (0 : Int) < (p.kids.length : Int) := by omega
  clear hk1 hs0
  generalize hw0 : ((w.alloc (.cells #[.slice A l.length cap, .map (some mb)] 110)).alloc (.cells #[.int .i64 t.data, .int .i64 t.index] 31)).alloc (.cells #[.int .i64 p.op, .int .i64 p.ctor, .int .i64 p.n, .int .i64 p.m, .int .i64 p.var, .slice D p.kids.length ep] 45) = w0
  have hb0 := below_box3 hw0
  have HXS : Hid (SpB w0 w.heap.size A l cap mb) := by rw [← hw0]; exact ⟨by simp [go_sem], by simp [go_sem]⟩
  have HXT : Hid (Bx w0 (w.heap.size + 1) t) := by rw [← hw0]; exact ⟨by simp [go_sem], by simp [go_sem]⟩
  have HXP : Hid (PBx w0 (w.heap.size + 2) p (.slice D p.kids.length ep)) := by rw [← hw0]; exact ⟨by simp [go_sem], by simp [go_sem], by simp [go_sem], by simp [go_sem], by simp [go_sem], by simp [go_sem]⟩
  have HW := Lib.hid hw0
  clear hr hmp ht hs hv ih hop hw0
  obtain ⟨s0, s1⟩ := HXS.out
  obtain ⟨x0, x1⟩ := HXT.out
  obtain ⟨y0, y1, y2, y3, y4, y5⟩ := HXP.out
  clear s0 s1 x0 x1 y0 y1 y2 y3 y4 y5
  obtain ⟨b, off, rfl, hbB, hvk⟩ := (HV.out.at_ hb0).2 0 h0k
  rw [show off + 0 * 6 = off by omega] at hvk
  obtain ⟨e4, he4, D4, cp4, c0, c1, c2, c3, c4, c5, hm4⟩ := hvk.parts
  have Hm : Hid (RPs e4 w0 w0.heap.size D4 p.kids[0].kids) := hm4
  obtain ⟨s0, s1⟩ := HXS.out
  obtain ⟨x0, x1⟩ := HXT.out
  obtain ⟨y0, y1, y2, y3, y4, y5⟩ := HXP.out
  have g0 := cell_regrown x0
  have g1 := cell_regrown x1
  have g2 := cell_regrown c0
  have g3 := cell_regrown c1
  have g4 := cell_regrown c2
  have g5 := cell_regrown c3
  have g6 := cell_regrown c4
  have g7 := cell_regrown c5
  have g8 := cell_regrown y5
  have g9 := cell_regrown s0
  have ga := cell_regrown s1
  clear c0 c1 c2 c3 c4 c5 hm4 hvk he4
  go_enter Tryz.func70, Tryz.ntmps70
  go_wp2_with fail
  rw [HW.out]
  refine wp_region_quiet_below (by kernel_rfl) (by kernel_rfl) ?_
  repeat (quiet_step (exact Calls.regrown_of (IH.out _ _ _ _ _ _ _ _ _ ((Hr.out.at_ hb0).at_ (below_regrown w0 _ _)) ((HMP.out.at_ hb0).at_ (below_regrown w0 _ _)) HK.out HS0.out (Hm.out.at_ (below_regrown w0 _ _)))))
  refine wpQuiet_nil ?_
  intro w2 hw'
  have hb2 : Below w0.heap.size w0 w2 := by obtain ⟨⟨dq, osq⟩, h⟩ := hw'; subst h; exact below_regrown w0 dq osq
  clear hw'
  have hb2w := below_aft hb0 hb2 hb0.size
  clear g0 g1 g2 g3 g4 g5 g6 g7 g8 g9 ga s0 s1 x0 x1 y0 y1 y2 y3 y4 y5
  go_wp2_with fail
  go_ret
  exact ⟨ret_bool (by rw [HF.out]), hb2w⟩
set_option maxHeartbeats 8000000 in
theorem smI_5 (l : List Da) (d : Nat) (ih : SmI l d) (A D : Option Addr) (cap mb ep e : Nat) (t : Ty) (p : Pt) (w : World) (hr : RDas w w.heap.size A l) (hmp : MapTy w mb 400 (ldep l) (Inh l)) (ht : TyOK l t) (hs : shP l (d + 1) t p = true) (hv : RPs e w w.heap.size D p.kids) (hop : p.op = 5) :
    Calls Tryz.prog 70 #[.agg #[.slice A l.length cap, .map (some mb)], .agg #[.int .i64 t.data, .int .i64 t.index], .agg #[.int .i64 p.op, .int .i64 p.ctor, .int .i64 p.n, .int .i64 p.m, .int .i64 p.var, .slice D p.kids.length ep]] w fun e w' => e = .returned (.bool (!smP l (d + 1) t p)) ∧ Below w.heap.size w w' := by
  have hl := hv.1
  unfold maxLen at hl
  have Hr := Lib.hid hr
  have HMP := Lib.hid hmp
  have HK := Lib.hid ht
  have HV := Lib.hid hv
  have IH := Lib.hid ih
  have u1 : (p.op == 1) = false := ieq_f (by omega)
  have u2 : (p.op == 2) = false := ieq_f (by omega)
  have u3 : (p.op == 3) = false := ieq_f (by omega)
  have u4 : (p.op == 4) = false := ieq_f (by omega)
  have u5 := ieq_t hop
  have u6 : (p.op == 6) = false := ieq_f (by omega)
  obtain ⟨hk2, hs0, hs1⟩ := or_partsP hs hop
  have h0k : 0 < p.kids.length := by omega
  have h1k : 1 < p.kids.length := by omega
  have HF := Lib.hid (smP_or (l := l) (d := d) (t := t) hop h0k h1k)
  have HS0 := Lib.hid (hs0 h0k)
  have HS1 := Lib.hid (hs1 h1k)
  have hi0 : (0 : Int) < (p.kids.length : Int) := by omega
  have hi1 : (1 : Int) < (p.kids.length : Int) := by omega
  clear hk2 hs0 hs1
  generalize hw0 : ((w.alloc (.cells #[.slice A l.length cap, .map (some mb)] 110)).alloc (.cells #[.int .i64 t.data, .int .i64 t.index] 31)).alloc (.cells #[.int .i64 p.op, .int .i64 p.ctor, .int .i64 p.n, .int .i64 p.m, .int .i64 p.var, .slice D p.kids.length ep] 45) = w0
  have hb0 := below_box3 hw0
  have HXS : Hid (SpB w0 w.heap.size A l cap mb) := by rw [← hw0]; exact ⟨by simp [go_sem], by simp [go_sem]⟩
  have HXT : Hid (Bx w0 (w.heap.size + 1) t) := by rw [← hw0]; exact ⟨by simp [go_sem], by simp [go_sem]⟩
  have HXP : Hid (PBx w0 (w.heap.size + 2) p (.slice D p.kids.length ep)) := by rw [← hw0]; exact ⟨by simp [go_sem], by simp [go_sem], by simp [go_sem], by simp [go_sem], by simp [go_sem], by simp [go_sem]⟩
  have HW := Lib.hid hw0
  clear hr hmp ht hs hv ih hop hw0
  obtain ⟨s0, s1⟩ := HXS.out
  obtain ⟨x0, x1⟩ := HXT.out
  obtain ⟨y0, y1, y2, y3, y4, y5⟩ := HXP.out
  clear s0 s1 x0 x1 y0 y1 y2 y3 y4 y5
  obtain ⟨b, off, rfl, hbB, hvk⟩ := (HV.out.at_ hb0).2 0 h0k
  obtain ⟨b2, off2, e2, hbB2, hvk2⟩ := (HV.out.at_ hb0).2 1 h1k
  cases e2
  rw [show off + 0 * 6 = off by omega] at hvk
  rw [show off + 1 * 6 = off + 6 by omega] at hvk2
  obtain ⟨e4, he4, D4, cp4, c0, c1, c2, c3, c4, c5, hm4⟩ := hvk.parts
  obtain ⟨e5, he5, D5, cp5, d0, d1, d2, d3, d4, d5, hm5⟩ := hvk2.parts
  have Hm : Hid (RPs e4 w0 w0.heap.size D4 p.kids[0].kids) := hm4
  have Hm' : Hid (RPs e5 w0 w0.heap.size D5 p.kids[1].kids) := hm5
  obtain ⟨s0, s1⟩ := HXS.out
  obtain ⟨x0, x1⟩ := HXT.out
  obtain ⟨y0, y1, y2, y3, y4, y5⟩ := HXP.out
  have g0 := cell_regrown x0
  have g1 := cell_regrown x1
  have g2 := cell_regrown c0
  have g3 := cell_regrown c1
  have g4 := cell_regrown c2
  have g5 := cell_regrown c3
  have g6 := cell_regrown c4
  have g7 := cell_regrown c5
  have g8 := cell_regrown y5
  have g9 := cell_regrown s0
  have ga := cell_regrown s1
  have j2 := cell_regrown d0
  have j3 := cell_regrown d1
  have j4 := cell_regrown d2
  have j5 := cell_regrown d3
  have j6 := cell_regrown d4
  have j7 := cell_regrown d5
  clear c0 c1 c2 c3 c4 c5 d0 d1 d2 d3 d4 d5 hm4 hm5 hvk hvk2 he4 he5
  by_cases hf : smP l d t p.kids[0] = true
  · have HF0 := Lib.hid hf
    have HG0 : Hid ((!smP l d t p.kids[0]) = false) := by unfold Hid; rw [hf]; rfl
    clear hf
    go_enter Tryz.func70, Tryz.ntmps70
    go_wp2_with fail
    rw [HW.out]
    refine wp_region_quiet_below (by kernel_rfl) (by kernel_rfl) ?_
    repeat (quiet_step (exact Calls.regrown_of (IH.out.known _ _ _ _ _ _ _ _ _ _ HG0.out ((Hr.out.at_ hb0).at_ (below_regrown w0 _ _)) ((HMP.out.at_ hb0).at_ (below_regrown w0 _ _)) HK.out HS0.out (Hm.out.at_ (below_regrown w0 _ _)))))
    refine wpQuiet_nil ?_
    intro w2 hw'
    have hb2 : Below w0.heap.size w0 w2 := by obtain ⟨⟨dq, osq⟩, h⟩ := hw'; subst h; exact below_regrown w0 dq osq
    clear hw'
    have hb2w := below_aft hb0 hb2 hb0.size
    clear g0 g1 g2 g3 g4 g5 g6 g7 g8 g9 ga j2 j3 j4 j5 j6 j7 s0 s1 x0 x1 y0 y1 y2 y3 y4 y5
    go_wp2_with fail
    go_ret
    exact ⟨ret_bool (by rw [HF.out, HF0.out]; rfl), hb2w⟩
  · have HF0 : Hid (smP l d t p.kids[0] = false) := by simpa [Hid] using hf
    have HG0 : Hid ((!smP l d t p.kids[0]) = true) := by unfold Hid; rw [HF0.out]; rfl
    clear hf
    go_enter Tryz.func70, Tryz.ntmps70
    go_wp2_with fail
    rw [HW.out]
    refine wp_region_quiet_below (by kernel_rfl) (by kernel_rfl) ?_
    repeat (quiet_step (first | exact Calls.regrown_of (IH.out.known _ _ _ _ _ _ _ _ _ _ HG0.out ((Hr.out.at_ hb0).at_ (below_regrown w0 _ _)) ((HMP.out.at_ hb0).at_ (below_regrown w0 _ _)) HK.out HS0.out (Hm.out.at_ (below_regrown w0 _ _))) | exact Calls.regrown_of (IH.out _ _ _ _ _ _ _ _ _ ((Hr.out.at_ hb0).at_ (below_regrown w0 _ _)) ((HMP.out.at_ hb0).at_ (below_regrown w0 _ _)) HK.out HS1.out (Hm'.out.at_ (below_regrown w0 _ _)))))
    refine wpQuiet_nil ?_
    intro w2 hw'
    have hb2 : Below w0.heap.size w0 w2 := by obtain ⟨⟨dq, osq⟩, h⟩ := hw'; subst h; exact below_regrown w0 dq osq
    clear hw'
    have hb2w := below_aft hb0 hb2 hb0.size
    clear g0 g1 g2 g3 g4 g5 g6 g7 g8 g9 ga j2 j3 j4 j5 j6 j7 s0 s1 x0 x1 y0 y1 y2 y3 y4 y5
    go_wp2_with fail
    go_ret
    exact ⟨ret_bool (by rw [HF.out, HF0.out]; rfl), hb2w⟩
set_option maxHeartbeats 1600000 in
theorem smI_4 (l : List Da) (d : Nat) (ih : SmI l d) (A D : Option Addr) (cap mb ep e : Nat) (t : Ty) (p : Pt) (w : World) (hr : RDas w w.heap.size A l) (hmp : MapTy w mb 400 (ldep l) (Inh l)) (ht : TyOK l t) (hs : shP l (d + 1) t p = true) (hv : RPs e w w.heap.size D p.kids) (hop : p.op = 4) :
    Calls Tryz.prog 70 #[.agg #[.slice A l.length cap, .map (some mb)], .agg #[.int .i64 t.data, .int .i64 t.index], .agg #[.int .i64 p.op, .int .i64 p.ctor, .int .i64 p.n, .int .i64 p.m, .int .i64 p.var, .slice D p.kids.length ep]] w fun e w' => e = .returned (.bool (!smP l (d + 1) t p)) ∧ Below w.heap.size w w' := by
  have hl := hv.1
  unfold maxLen at hl
  have Hr := Lib.hid hr
  have HMP := Lib.hid hmp
  have HK := Lib.hid ht
  have HV := Lib.hid hv
  have IH := Lib.hid ih
  have u1 : (p.op == 1) = false := ieq_f (by omega)
  have u2 : (p.op == 2) = false := ieq_f (by omega)
  have u3 : (p.op == 3) = false := ieq_f (by omega)
  have u4 := ieq_t hop
  have u5 : (p.op == 5) = false := ieq_f (by omega)
  have u6 : (p.op == 6) = false := ieq_f (by omega)
  obtain ⟨hmem, hkl, hsh⟩ := ctor_partsP hs hop
  have HF := Lib.hid (smP_ctor (l := l) (d := d) (t := t) hop)
  have HC := Lib.hid hmem
  have HKL := Lib.hid hkl
  have HSH := Lib.hid hsh
  have HOK := Lib.hid (fun a (ha : a ∈ agR l t p.ctor) => agR_ok hmem a ha)
  have hm3 := agR_len l t p.ctor
  have HM := Lib.hid (fun (i : Nat) (h : i < (agR l t p.ctor).length) (h' : i < p.kids.length) => kidM_at (l := l) (d := d) h h')
  clear hmem hkl hsh
  generalize hw0 : ((w.alloc (.cells #[.slice A l.length cap, .map (some mb)] 110)).alloc (.cells #[.int .i64 t.data, .int .i64 t.index] 31)).alloc (.cells #[.int .i64 p.op, .int .i64 p.ctor, .int .i64 p.n, .int .i64 p.m, .int .i64 p.var, .slice D p.kids.length ep] 45) = w0
  have hb0 := below_box3 hw0
  have HXS : Hid (SpB w0 w.heap.size A l cap mb) := by rw [← hw0]; exact ⟨by simp [go_sem], by simp [go_sem]⟩
  have HXT : Hid (Bx w0 (w.heap.size + 1) t) := by rw [← hw0]; exact ⟨by simp [go_sem], by simp [go_sem]⟩
  have HXP : Hid (PBx w0 (w.heap.size + 2) p (.slice D p.kids.length ep)) := by rw [← hw0]; exact ⟨by simp [go_sem], by simp [go_sem], by simp [go_sem], by simp [go_sem], by simp [go_sem], by simp [go_sem]⟩
  have HW := Lib.hid hw0
  clear hr hmp ht hs hv ih hop hw0
  obtain ⟨s0, s1⟩ := HXS.out
  obtain ⟨x0, x1⟩ := HXT.out
  obtain ⟨y0, y1, y2, y3, y4, y5⟩ := HXP.out
  go_enter Tryz.func70, Tryz.ntmps70
  go_wp2_with fail
  rw [HW.out]
  refine (argTypes_all A l cap t p.ctor _ (Hr.out.at_ hb0) HC.out).mono ?_
  rintro e3 w3 ⟨v3, rfl, ho3, hb3'⟩
  generalize agR l t p.ctor = ats at *
  obtain ⟨A3, c3, rfl, hr3⟩ := ho3.form (by unfold maxLen; omega)
  have HR3 := Lib.hid hr3
  have HXS3 := Lib.hid (HXS.out.at_ hb3')
  have HXT3 := Lib.hid (HXT.out.at_ hb3')
  have HXP3 := Lib.hid (HXP.out.at_ hb3')
  have hb3 := below_aft hb0 hb3' hb0.size
  clear hr3 ho3 hb3' s0 s1 x0 x1 y0 y1 y2 y3 y4 y5
  go_wp2_with fail
  go_loopw [28] (fun i wr => ∃ k : Nat, k ≤ ats.length ∧ i = .int .i64 k ∧ Hid (upto (kidM l d ats p.kids) k = true) ∧ Below w3.heap.size w3 wr) (fun i _ => ats.length - (intOf i).toNat)
  case atStart => exact ⟨0, by omega, rfl, rfl, Below.refl _ _⟩
  case round =>
    obtain ⟨k, hk, rfl, HU, hbq⟩ := hrel
    by_cases hlt : k < ats.length
    · generalize hwb : wr.alloc (.cells #[.int .i64 ats[k].data, .int .i64 ats[k].index] 31) = wb
      have hbb : Below wr.heap.size wr wb := by rw [← hwb]; exact (Below.refl _ _).alloc (Nat.le_refl _) _
      have HXB : Hid (Bx wb wr.heap.size ats[k]) := by rw [← hwb]; exact Bx.new _ _ _
      have HWB := Lib.hid hwb
      clear hwb
      have hb := below_aft hbq hbb hbq.size
      have hbw : Below w.heap.size w wb := below_aft hb3 hb hb3.size
      obtain ⟨s0, s1⟩ := HXS3.out.at_ hb
      have HXPr := Lib.hid (HXP3.out.at_ hb)
      obtain ⟨f0, f1, f2, f3, f4, f5⟩ := HXPr.out
      obtain ⟨t0, t1⟩ := HXB.out
      have hkl : k < p.kids.length := by rw [HKL.out]; exact hlt
      obtain ⟨g, o, rfl, hgB, q0, q1⟩ := (HR3.out.below hbq (Nat.le_refl _)).2 k hlt
      obtain ⟨b, off, rfl, hbB, hvk⟩ := (HV.out.below hbw (Nat.le_refl _)).2 k hkl
      obtain ⟨e', he', D', cp, c0, c1, c2, c3', c4, c5, hm⟩ := hvk.parts
      have d0 := cell_regrown t0
      have d1 := cell_regrown t1
      have d2 := cell_regrown c0
      have d3 := cell_regrown c1
      have d4 := cell_regrown c2
      have d5 := cell_regrown c3'
      have d6 := cell_regrown c4
      have d7 := cell_regrown c5
      have d8 := cell_regrown f5
      have d9 := cell_regrown s0
      have da := cell_regrown s1
      have Hm : Hid (RPs e' wb wb.heap.size D' p.kids[k].kids) := hm.keep (fun _ _ => rfl) hbw.size
      have Hrr : Hid (RDas wb wb.heap.size A l) := Hr.out.at_ hbw
      have HMr : Hid (MapTy wb mb 400 (ldep l) (Inh l)) := HMP.out.at_ hbw
      have HTk := Lib.hid (HOK.out _ (List.getElem_mem hlt))
      have HMk := Lib.hid (HM.out k hlt hkl)
      have HSk := Lib.hid (HSH.out k hlt hkl)
      have hi : (k : Int) < (ats.length : Int) := by omega
      have hi2 : (k : Int) < (p.kids.length : Int) := by omega
      clear c0 c1 c2 c3' c4 c5 t0 t1 f0 f1 f2 f3 f4 f5 s0 s1 hm hvk he'
      by_cases hf : smP l d ats[k] p.kids[k] = true
      · have HFk := Lib.hid hf
        have HGk : Hid ((!smP l d ats[k] p.kids[k]) = false) := by unfold Hid; rw [hf]; rfl
        have HUk : Hid (upto (kidM l d ats p.kids) (k + 1) = true) := upto_t HU.out (by rw [HMk.out]; exact hf)
        clear hf
        go_wp2_with fail
        rw [HWB.out]
        refine wp_region_quiet_below (by kernel_rfl) (by kernel_rfl) ?_
        repeat (quiet_step (exact Calls.regrown_of (IH.out.known _ _ _ _ _ _ _ _ _ _ HGk.out (Hrr.out.at_ (below_regrown wb _ _)) (HMr.out.at_ (below_regrown wb _ _)) HTk.out HSk.out (Hm.out.at_ (below_regrown wb _ _)))))
        refine wpQuiet_nil ?_
        intro w2 hw'
        have hb2 : Below wb.heap.size wb w2 := by obtain ⟨⟨dq, osq⟩, h⟩ := hw'; subst h; exact below_regrown wb dq osq
        clear hw'
        have hb2' := below_aft hb hb2 hb.size
        clear d0 d1 d2 d3 d4 d5 d6 d7 d8 d9 da
        go_wp2_with fail
        go_roundw
        case rel => exact ⟨k + 1, by omega, by go_num, HUk, hb2'⟩
        case measure => simp [intOf]; omega
      · have hf' : smP l d ats[k] p.kids[k] = false := by simpa using hf
        have HFk := Lib.hid hf'
        have HGk : Hid ((!smP l d ats[k] p.kids[k]) = true) := by unfold Hid; rw [hf']; rfl
        have HUk := Lib.hid (upto_f (f := kidM l d ats p.kids) hlt (by rw [HMk.out]; exact hf'))
        clear hf hf'
        go_wp2_with fail
        rw [HWB.out]
        refine wp_region_quiet_below (by kernel_rfl) (by kernel_rfl) ?_
        repeat (quiet_step (exact Calls.regrown_of (IH.out.known _ _ _ _ _ _ _ _ _ _ HGk.out (Hrr.out.at_ (below_regrown wb _ _)) (HMr.out.at_ (below_regrown wb _ _)) HTk.out HSk.out (Hm.out.at_ (below_regrown wb _ _)))))
        refine wpQuiet_nil ?_
        intro w2 hw'
        have hb2 : Below wb.heap.size wb w2 := by obtain ⟨⟨dq, osq⟩, h⟩ := hw'; subst h; exact below_regrown wb dq osq
        clear hw'
        have hb2' := below_aft hbw hb2 hbw.size
        clear d0 d1 d2 d3 d4 d5 d6 d7 d8 d9 da
        go_wp2_with fail
        go_ret
        exact ⟨ret_bool (by rw [HF.out, HUk.out]; rfl), hb2'⟩
    · have he : k = ats.length := by omega
      have hki : (ats.length : Int) ≤ (k : Int) := by omega
      have HE : Hid (smP l (d + 1) t p = true) := by unfold Hid; rw [HF.out, ← he]; exact HU.out
      clear he
      go_wp2_with fail
      go_ret
      exact ⟨ret_bool (by rw [HE.out]; rfl), below_aft hb3 hbq hb3.size⟩
theorem smI_any (l : List Da) : ∀ d, SmI l d
  | 0 => fun A D cap mb ep e t p w hr hm ht hs hv => by rw [shP_zero] at hs; cases hs
  | d + 1 => fun A D cap mb ep e t p w hr hm ht hs hv => by
    have ih := smI_any l d
    rcases own_ops (shP_parts hs).1 with h | h | h | h | h | h
    · exact smI_1 l d ih A D cap mb ep e t p w hr hm ht hs hv h
    · exact smI_2 l d ih A D cap mb ep e t p w hr hm ht hs hv h
    · exact smI_3 l d ih A D cap mb ep e t p w hr hm ht hs hv h
    · exact smI_4 l d ih A D cap mb ep e t p w hr hm ht hs hv h
    · exact smI_5 l d ih A D cap mb ep e t p w hr hm ht hs hv h
    · exact smI_6 l d ih A D cap mb ep e t p w hr hm ht hs hv h
end Go.Proofs.YthecfkdilbfimaaGreat
