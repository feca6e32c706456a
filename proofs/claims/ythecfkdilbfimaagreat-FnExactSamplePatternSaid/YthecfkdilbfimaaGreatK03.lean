/-
  The sample of a pattern: the program's method. No statement is proved here.
-/
import Derived.Test.YthecfkdilbfimaaGreatK01
import Derived.Test.YthecfkdilbfimaaGreatH08
import Derived.Test.YthecfkdilbfimaaGreatK02
import Derived.Deep.RegionHeld3
import Derived.Deep.DeepCutAuto
import Derived.Lib.QuietBelow
namespace Go.Proofs.YthecfkdilbfimaaGreat
open Go.RowKit Go.Sort Go.Deep
set_option maxRecDepth 100000
set_option linter.unusedVariables false

/-- The sample if all its parts are values, and otherwise nothing. -/
noncomputable def siR (l : List Da) (d : Nat) (t : Ty) (p : Pt) : Vl := if okS l d t p = true then svP l d t p else .mk 0 0 []
theorem siR_yes {l : List Da} {d : Nat} {t : Ty} {p : Pt} (h : okS l d t p = true) : siR l d t p = svP l d t p := if_pos h
theorem siR_no {l : List Da} {d : Nat} {t : Ty} {p : Pt} (h : okS l d t p = false) : siR l d t p = .mk 0 0 [] := if_neg (by rw [h]; simp)
theorem siR_same {l : List Da} {d d' : Nat} {t t' : Ty} {p p' : Pt} (h : okS l d t p = okS l d' t' p') (h2 : svP l d t p = svP l d' t' p') : siR l d t p = siR l d' t' p' := by unfold siR; rw [h, h2]
def SiQ (l : List Da) (d : Nat) (t : Ty) (p : Pt) (w : World) (e : Ending) (w' : World) : Prop := ∃ B c, e = .returned (.tuple #[.agg #[.int .i64 (siR l d t p).ctor, .int .i64 (siR l d t p).n, .slice B (siR l d t p).kids.length c], .bool (okS l d t p)]) ∧ OVs (d + 10) w' (Nw w w') B (siR l d t p).kids ∧ Below w.heap.size w w'
theorem SiQ.put {l : List Da} {d n r c : Nat} {t : Ty} {p : Pt} {b : Bool} {w w1 w' : World} {v : Vl} {B : Option Addr} {P : Nat → Prop} (hv : siR l d t p = v) (hk : okS l d t p = b) (ho : OVs n w1 P B v.kids) (hP : ∀ b, P b → w.heap.size ≤ b ∧ b < w1.heap.size ∧ b ≠ r) (hn : n ≤ d + 10) (hf : Fr (fun b => b = r) w1 w') (hb : Below w.heap.size w w') :
    SiQ l d t p w (.returned (.tuple #[.agg #[.int .i64 v.ctor, .int .i64 v.n, .slice B v.kids.length c], .bool b])) w' := by
  subst hv hk
  exact ⟨B, c, rfl, ((ho.fr _ hf (fun b hq e => (hP b hq).2.2 e)).wide _ (fun b hq => ⟨(hP b hq).1, Nat.lt_of_lt_of_le (hP b hq).2.1 hf.size⟩)).more hn, hb⟩
def SiC (l : List Da) (d : Nat) : Prop := ∀ (A D : Option Addr) (cap mb ep e : Nat) (t : Ty) (p : Pt) (w : World), RDas w w.heap.size A l → MapTy w mb 400 (ldep l) (Inh l) → TyOK l t → shP l d t p = true → RPs e w w.heap.size D p.kids →
  Calls Tryz.prog 75 #[.agg #[.slice A l.length cap, .map (some mb)], .agg #[.int .i64 t.data, .int .i64 t.index], .agg #[.int .i64 p.op, .int .i64 p.ctor, .int .i64 p.n, .int .i64 p.m, .int .i64 p.var, .slice D p.kids.length ep]] w (SiQ l d t p w)
theorem below_set3 {B g : Nat} {w W : World} (h : Below B w W) (hg : B ≤ g) (a b c : Value) : Below B w (((W.setCell ⟨g, 0, none⟩ a).setCell ⟨g, 1, none⟩ b).setCell ⟨g, 2, none⟩ c) :=
  ((h.setCell hg _).setCell hg _).setCell hg _
theorem below_box4 {w w' : World} {o o' o'' o3 : Obj} (h : (((w.alloc o).alloc o').alloc o'').alloc o3 = w') : Below w.heap.size w w' := by
  rw [← h]; exact ((((Below.refl _ _).alloc (Nat.le_refl _) _).alloc (by simp) _).alloc (by simp <;> omega) _).alloc (by simp <;> omega) _
set_option maxHeartbeats 8000000 in
theorem siI_1 (l : List Da) (d : Nat) (ih : SiC l d) (A D : Option Addr) (cap mb ep e : Nat) (t : Ty) (p : Pt) (w : World) (hr : RDas w w.heap.size A l) (hmp : MapTy w mb 400 (ldep l) (Inh l)) (ht : TyOK l t) (hs : shP l (d + 1) t p = true) (hv : RPs e w w.heap.size D p.kids) (hop : p.op = 1) :
    Calls Tryz.prog 75 #[.agg #[.slice A l.length cap, .map (some mb)], .agg #[.int .i64 t.data, .int .i64 t.index], .agg #[.int .i64 p.op, .int .i64 p.ctor, .int .i64 p.n, .int .i64 p.m, .int .i64 p.var, .slice D p.kids.length ep]] w (SiQ l (d + 1) t p w) := by
  have hl := hv.1
  unfold maxLen at hl
  have Hr := Lib.hid hr
  have HMP := Lib.hid hmp
  have HK := Lib.hid ht
  have HWO : Hid (WorldOK l) := ht.1
  have HV := Lib.hid hv
  have IH := Lib.hid ih
  have u1 := ieq_t hop
  have u2 : (p.op == 2) = false := ieq_f (by omega)
  have u3 : (p.op == 3) = false := ieq_f (by omega)
  have u4 : (p.op == 4) = false := ieq_f (by omega)
  have u5 : (p.op == 5) = false := ieq_f (by omega)
  have u6 : (p.op == 6) = false := ieq_f (by omega)
  have HV1 : Hid (siR l (d + 1) t p = lvR l t) := by
    unfold Hid siR lvR
    rw [okS_any (by omega), svP_any (by omega)]
    rfl
  have HK1 := Lib.hid (okS_any (l := l) (d := d) (t := t) (p := p) (by omega))
  generalize hwx : (((w.alloc (.cells #[.slice A l.length cap, .map (some mb)] 110)).alloc (.cells #[.int .i64 t.data, .int .i64 t.index] 31)).alloc (.cells #[.int .i64 p.op, .int .i64 p.ctor, .int .i64 p.n, .int .i64 p.m, .int .i64 p.var, .slice D p.kids.length ep] 45)).alloc (.cells #[.int .i64 0, .int .i64 0, .slice none 0 0] 51) = wx
  have hbx : Below w.heap.size w wx := below_box4 hwx
  have hsx : wx.heap.size = w.heap.size + 4 := by rw [← hwx]; simp
  have HXS : Hid (SpB wx w.heap.size A l cap mb) := by rw [← hwx]; exact ⟨by simp [go_sem], by simp [go_sem]⟩
  have HXT : Hid (Bx wx (w.heap.size + 1) t) := by rw [← hwx]; exact ⟨by simp [go_sem], by simp [go_sem]⟩
  have HXP : Hid (PBx wx (w.heap.size + 2) p (.slice D p.kids.length ep)) := by rw [← hwx]; exact ⟨by simp [go_sem], by simp [go_sem], by simp [go_sem], by simp [go_sem], by simp [go_sem], by simp [go_sem]⟩
  have HXR : Hid (ZbV wx (w.heap.size + 3)) := by
    have h := ZbV.new (((w.alloc (.cells #[.slice A l.length cap, .map (some mb)] 110)).alloc (.cells #[.int .i64 t.data, .int .i64 t.index] 31)).alloc (.cells #[.int .i64 p.op, .int .i64 p.ctor, .int .i64 p.n, .int .i64 p.m, .int .i64 p.var, .slice D p.kids.length ep] 45))
    simp only [World.size_alloc] at h
    unfold Hid; rw [← hwx]; exact h
  have HW := Lib.hid hwx
  clear hr hmp ht hs hv ih hop hwx
  obtain ⟨s0, s1⟩ := HXS.out
  obtain ⟨x0, x1⟩ := HXT.out
  obtain ⟨y0, y1, y2, y3, y4, y5⟩ := HXP.out
  go_enter Tryz.func75, Tryz.ntmps75
  go_wp2_with fail
  rw [HW.out]
  refine (lv_impl A l cap t _ (Hr.out.at_ hbx)).mono ?_
  rintro e1 w1 ⟨B, c, rfl, ho, hb1⟩
  have hbw1 := below_aft hbx hb1 hbx.size
  have HO := Lib.hid ho
  have hrr : w1.heap[w.heap.size + 3]? = some (.cells #[.int .i64 0, .int .i64 0, .slice none 0 0] 51 (0, 0)) := HXR.out.at_ hb1
  have r0 := (cell_of_blk hrr 0).trans rfl
  have r1 := (cell_of_blk hrr 1).trans rfl
  have r2 := (cell_of_blk hrr 2).trans rfl
  have f0 := frozen_of_row w1 (w.heap.size + 3) 0 _ 51 hrr
  have f1 := frozen_of_row w1 (w.heap.size + 3) 1 _ 51 hrr
  have f2 := frozen_of_row w1 (w.heap.size + 3) 2 _ 51 hrr
  clear hrr
  have hs1 := hb1.size
  clear s0 s1 x0 x1 y0 y1 y2 y3 y4 y5
  clear ho hb1
  go_wp2_with fail
  refine bodyPost_ret (v := .tuple #[.agg #[.int .i64 (lvR l t).ctor, .int .i64 (lvR l t).n, .slice B (lvR l t).kids.length c], .bool (lvB l t)]) (by simp [results, Tryz.results75, go_sem, r0, r1, r2]) rfl (SiQ.put HV1.out HK1.out HO.out (fun b h => ⟨by have := h.1; omega, h.2, by have := h.1; omega⟩) (by omega) (((Fr.set (P := fun b => b = w.heap.size + 3) _ _ _ _ rfl).trans (Fr.set _ _ _ _ rfl)).trans (Fr.set _ _ _ _ rfl)) ?_)
  refine Below.setCell (Below.setCell (Below.setCell hbw1 ?_ _) ?_ _) ?_ _ <;> (simp <;> omega)
set_option maxHeartbeats 8000000 in
theorem siI_2 (l : List Da) (d : Nat) (ih : SiC l d) (A D : Option Addr) (cap mb ep e : Nat) (t : Ty) (p : Pt) (w : World) (hr : RDas w w.heap.size A l) (hmp : MapTy w mb 400 (ldep l) (Inh l)) (ht : TyOK l t) (hs : shP l (d + 1) t p = true) (hv : RPs e w w.heap.size D p.kids) (hop : p.op = 2) :
    Calls Tryz.prog 75 #[.agg #[.slice A l.length cap, .map (some mb)], .agg #[.int .i64 t.data, .int .i64 t.index], .agg #[.int .i64 p.op, .int .i64 p.ctor, .int .i64 p.n, .int .i64 p.m, .int .i64 p.var, .slice D p.kids.length ep]] w (SiQ l (d + 1) t p w) := by
  have hl := hv.1
  unfold maxLen at hl
  have Hr := Lib.hid hr
  have HMP := Lib.hid hmp
  have HK := Lib.hid ht
  have HWO : Hid (WorldOK l) := ht.1
  have HV := Lib.hid hv
  have IH := Lib.hid ih
  have u1 : (p.op == 1) = false := ieq_f (by omega)
  have u2 := ieq_t hop
  have u3 : (p.op == 3) = false := ieq_f (by omega)
  have u4 : (p.op == 4) = false := ieq_f (by omega)
  have u5 : (p.op == 5) = false := ieq_f (by omega)
  have u6 : (p.op == 6) = false := ieq_f (by omega)
  have HV1 : Hid (siR l (d + 1) t p = lvR l t) := by
    unfold Hid siR lvR
    rw [okS_any (by omega), svP_any (by omega)]
    rfl
  have HK1 := Lib.hid (okS_any (l := l) (d := d) (t := t) (p := p) (by omega))
  generalize hwx : (((w.alloc (.cells #[.slice A l.length cap, .map (some mb)] 110)).alloc (.cells #[.int .i64 t.data, .int .i64 t.index] 31)).alloc (.cells #[.int .i64 p.op, .int .i64 p.ctor, .int .i64 p.n, .int .i64 p.m, .int .i64 p.var, .slice D p.kids.length ep] 45)).alloc (.cells #[.int .i64 0, .int .i64 0, .slice none 0 0] 51) = wx
  have hbx : Below w.heap.size w wx := below_box4 hwx
  have hsx : wx.heap.size = w.heap.size + 4 := by rw [← hwx]; simp
  have HXS : Hid (SpB wx w.heap.size A l cap mb) := by rw [← hwx]; exact ⟨by simp [go_sem], by simp [go_sem]⟩
  have HXT : Hid (Bx wx (w.heap.size + 1) t) := by rw [← hwx]; exact ⟨by simp [go_sem], by simp [go_sem]⟩
  have HXP : Hid (PBx wx (w.heap.size + 2) p (.slice D p.kids.length ep)) := by rw [← hwx]; exact ⟨by simp [go_sem], by simp [go_sem], by simp [go_sem], by simp [go_sem], by simp [go_sem], by simp [go_sem]⟩
  have HXR : Hid (ZbV wx (w.heap.size + 3)) := by
    have h := ZbV.new (((w.alloc (.cells #[.slice A l.length cap, .map (some mb)] 110)).alloc (.cells #[.int .i64 t.data, .int .i64 t.index] 31)).alloc (.cells #[.int .i64 p.op, .int .i64 p.ctor, .int .i64 p.n, .int .i64 p.m, .int .i64 p.var, .slice D p.kids.length ep] 45))
    simp only [World.size_alloc] at h
    unfold Hid; rw [← hwx]; exact h
  have HW := Lib.hid hwx
  clear hr hmp ht hs hv ih hop hwx
  obtain ⟨s0, s1⟩ := HXS.out
  obtain ⟨x0, x1⟩ := HXT.out
  obtain ⟨y0, y1, y2, y3, y4, y5⟩ := HXP.out
  go_enter Tryz.func75, Tryz.ntmps75
  go_wp2_with fail
  rw [HW.out]
  refine (lv_impl A l cap t _ (Hr.out.at_ hbx)).mono ?_
  rintro e1 w1 ⟨B, c, rfl, ho, hb1⟩
  have hbw1 := below_aft hbx hb1 hbx.size
  have HO := Lib.hid ho
  have hrr : w1.heap[w.heap.size + 3]? = some (.cells #[.int .i64 0, .int .i64 0, .slice none 0 0] 51 (0, 0)) := HXR.out.at_ hb1
  have r0 := (cell_of_blk hrr 0).trans rfl
  have r1 := (cell_of_blk hrr 1).trans rfl
  have r2 := (cell_of_blk hrr 2).trans rfl
  have f0 := frozen_of_row w1 (w.heap.size + 3) 0 _ 51 hrr
  have f1 := frozen_of_row w1 (w.heap.size + 3) 1 _ 51 hrr
  have f2 := frozen_of_row w1 (w.heap.size + 3) 2 _ 51 hrr
  clear hrr
  have hs1 := hb1.size
  clear s0 s1 x0 x1 y0 y1 y2 y3 y4 y5
  clear ho hb1
  go_wp2_with fail
  refine bodyPost_ret (v := .tuple #[.agg #[.int .i64 (lvR l t).ctor, .int .i64 (lvR l t).n, .slice B (lvR l t).kids.length c], .bool (lvB l t)]) (by simp [results, Tryz.results75, go_sem, r0, r1, r2]) rfl (SiQ.put HV1.out HK1.out HO.out (fun b h => ⟨by have := h.1; omega, h.2, by have := h.1; omega⟩) (by omega) (((Fr.set (P := fun b => b = w.heap.size + 3) _ _ _ _ rfl).trans (Fr.set _ _ _ _ rfl)).trans (Fr.set _ _ _ _ rfl)) ?_)
  refine Below.setCell (Below.setCell (Below.setCell hbw1 ?_ _) ?_ _) ?_ _ <;> (simp <;> omega)
set_option maxHeartbeats 8000000 in
theorem siI_3 (l : List Da) (d : Nat) (ih : SiC l d) (A D : Option Addr) (cap mb ep e : Nat) (t : Ty) (p : Pt) (w : World) (hr : RDas w w.heap.size A l) (hmp : MapTy w mb 400 (ldep l) (Inh l)) (ht : TyOK l t) (hs : shP l (d + 1) t p = true) (hv : RPs e w w.heap.size D p.kids) (hop : p.op = 3) :
    Calls Tryz.prog 75 #[.agg #[.slice A l.length cap, .map (some mb)], .agg #[.int .i64 t.data, .int .i64 t.index], .agg #[.int .i64 p.op, .int .i64 p.ctor, .int .i64 p.n, .int .i64 p.m, .int .i64 p.var, .slice D p.kids.length ep]] w (SiQ l (d + 1) t p w) := by
  have hl := hv.1
  unfold maxLen at hl
  have Hr := Lib.hid hr
  have HMP := Lib.hid hmp
  have HK := Lib.hid ht
  have HWO : Hid (WorldOK l) := ht.1
  have HV := Lib.hid hv
  have IH := Lib.hid ih
  have u1 : (p.op == 1) = false := ieq_f (by omega)
  have u2 : (p.op == 2) = false := ieq_f (by omega)
  have u3 := ieq_t hop
  have u4 : (p.op == 4) = false := ieq_f (by omega)
  have u5 : (p.op == 5) = false := ieq_f (by omega)
  have u6 : (p.op == 6) = false := ieq_f (by omega)
  have HF2 : Hid (∀ w', Below w.heap.size w w' → SiQ l (d + 1) t p w (.returned (.tuple #[.agg #[.int .i64 (-1), .int .i64 p.n, .slice none 0 0], .bool true])) w') := fun w' hb => by
    unfold SiQ
    have h1 := okS_int (l := l) (d := d) (t := t) (p := p) hop
    rw [siR_yes h1, h1, svP_int hop]
    exact ⟨none, 0, rfl, OVs.nil _ _ _ _, hb⟩
  clear hr hmp ht hs hv ih hop
  go_enter Tryz.func75, Tryz.ntmps75
  go_wp2_with fail
  refine bodyPost_ret (v := .tuple #[.agg #[.int .i64 (-1), .int .i64 p.n, .slice none 0 0], .bool true]) (by simp [results, Tryz.results75, go_sem]) rfl (HF2.out _ ?_)
  repeat (refine Below.setCell ?_ (by simp <;> omega) _)
  exact below_box4 rfl
set_option maxHeartbeats 8000000 in
theorem siI_6 (l : List Da) (d : Nat) (ih : SiC l d) (A D : Option Addr) (cap mb ep e : Nat) (t : Ty) (p : Pt) (w : World) (hr : RDas w w.heap.size A l) (hmp : MapTy w mb 400 (ldep l) (Inh l)) (ht : TyOK l t) (hs : shP l (d + 1) t p = true) (hv : RPs e w w.heap.size D p.kids) (hop : p.op = 6) :
    Calls Tryz.prog 75 #[.agg #[.slice A l.length cap, .map (some mb)], .agg #[.int .i64 t.data, .int .i64 t.index], .agg #[.int .i64 p.op, .int .i64 p.ctor, .int .i64 p.n, .int .i64 p.m, .int .i64 p.var, .slice D p.kids.length ep]] w (SiQ l (d + 1) t p w) := by
  have hl := hv.1
  unfold maxLen at hl
  have Hr := Lib.hid hr
  have HMP := Lib.hid hmp
  have HK := Lib.hid ht
  have HWO : Hid (WorldOK l) := ht.1
  have HV := Lib.hid hv
  have IH := Lib.hid ih
  have u1 : (p.op == 1) = false := ieq_f (by omega)
  have u2 : (p.op == 2) = false := ieq_f (by omega)
  have u3 : (p.op == 3) = false := ieq_f (by omega)
  have u4 : (p.op == 4) = false := ieq_f (by omega)
  have u5 : (p.op == 5) = false := ieq_f (by omega)
  have u6 := ieq_t hop
  obtain ⟨hk1, hs0⟩ := as_partsP hs hop
  have h0k : 0 < p.kids.length := by omega
  have HK1 := Lib.hid (okS_as (l := l) (d := d) (t := t) hop h0k)
  have HV1 := Lib.hid (siR_same HK1.out (svP_as (l := l) (d := d) (t := t) hop h0k))
  have HS0 := Lib.hid (hs0 h0k)
  have hi0 : (0 : Int) < (p.kids.length : Int) := by omega
  clear hk1 hs0
  generalize hwx : (((w.alloc (.cells #[.slice A l.length cap, .map (some mb)] 110)).alloc (.cells #[.int .i64 t.data, .int .i64 t.index] 31)).alloc (.cells #[.int .i64 p.op, .int .i64 p.ctor, .int .i64 p.n, .int .i64 p.m, .int .i64 p.var, .slice D p.kids.length ep] 45)).alloc (.cells #[.int .i64 0, .int .i64 0, .slice none 0 0] 51) = wx
  have hbx : Below w.heap.size w wx := below_box4 hwx
  have hsx : wx.heap.size = w.heap.size + 4 := by rw [← hwx]; simp
  have HXS : Hid (SpB wx w.heap.size A l cap mb) := by rw [← hwx]; exact ⟨by simp [go_sem], by simp [go_sem]⟩
  have HXT : Hid (Bx wx (w.heap.size + 1) t) := by rw [← hwx]; exact ⟨by simp [go_sem], by simp [go_sem]⟩
  have HXP : Hid (PBx wx (w.heap.size + 2) p (.slice D p.kids.length ep)) := by rw [← hwx]; exact ⟨by simp [go_sem], by simp [go_sem], by simp [go_sem], by simp [go_sem], by simp [go_sem], by simp [go_sem]⟩
  have HXR : Hid (ZbV wx (w.heap.size + 3)) := by
    have h := ZbV.new (((w.alloc (.cells #[.slice A l.length cap, .map (some mb)] 110)).alloc (.cells #[.int .i64 t.data, .int .i64 t.index] 31)).alloc (.cells #[.int .i64 p.op, .int .i64 p.ctor, .int .i64 p.n, .int .i64 p.m, .int .i64 p.var, .slice D p.kids.length ep] 45))
    simp only [World.size_alloc] at h
    unfold Hid; rw [← hwx]; exact h
  have HW := Lib.hid hwx
  clear hr hmp ht hs hv ih hop hwx
  obtain ⟨s0, s1⟩ := HXS.out
  obtain ⟨x0, x1⟩ := HXT.out
  obtain ⟨y0, y1, y2, y3, y4, y5⟩ := HXP.out
  clear s0 s1 x0 x1 y0 y1 y2 y3 y4 y5
  obtain ⟨b, off, rfl, hbB, hvk⟩ := (HV.out.below hbx (Nat.le_refl _)).2 0 h0k
  rw [show off + 0 * 6 = off by omega] at hvk
  obtain ⟨e4, he4, D4, cp4, c0, c1, c2, c3, c4, c5, hm4⟩ := hvk.parts
  have Hm : Hid (RPs e4 wx.drew wx.drew.heap.size D4 p.kids[0].kids) := hm4.keep (fun _ _ => rfl) hbx.size
  obtain ⟨s0, s1⟩ := HXS.out
  obtain ⟨x0, x1⟩ := HXT.out
  obtain ⟨y0, y1, y2, y3, y4, y5⟩ := HXP.out
  have HKS : Hid (∀ w', Below wx.heap.size wx w' → w'.cell? ⟨w.heap.size, 0, none⟩ = some (.slice A l.length cap) ∧ w'.cell? ⟨w.heap.size, 1, none⟩ = some (.map (some mb)) ∧ w'.cell? ⟨w.heap.size + 1, 0, none⟩ = some (.int .i64 t.data) ∧ w'.cell? ⟨w.heap.size + 1, 1, none⟩ = some (.int .i64 t.index) ∧ w'.cell? ⟨w.heap.size + 2, 5, none⟩ = some (.slice (some ⟨b, off, none⟩) p.kids.length ep) ∧ w'.cell? ⟨b, off, none⟩ = some (.int .i64 p.kids[0].op) ∧ w'.cell? ⟨b, off + 1, none⟩ = some (.int .i64 p.kids[0].ctor) ∧ w'.cell? ⟨b, off + 2, none⟩ = some (.int .i64 p.kids[0].n) ∧ w'.cell? ⟨b, off + 3, none⟩ = some (.int .i64 p.kids[0].m) ∧ w'.cell? ⟨b, off + 4, none⟩ = some (.int .i64 p.kids[0].var) ∧ w'.cell? ⟨b, off + 5, none⟩ = some (.slice D4 p.kids[0].kids.length cp4)) := fun w' hW => ⟨(hW.cell (p := ⟨w.heap.size, 0, none⟩) (Go.block_lt_of_cell s0)).trans s0, (hW.cell (p := ⟨w.heap.size, 1, none⟩) (Go.block_lt_of_cell s1)).trans s1, (hW.cell (p := ⟨w.heap.size + 1, 0, none⟩) (Go.block_lt_of_cell x0)).trans x0, (hW.cell (p := ⟨w.heap.size + 1, 1, none⟩) (Go.block_lt_of_cell x1)).trans x1, (hW.cell (p := ⟨w.heap.size + 2, 5, none⟩) (Go.block_lt_of_cell y5)).trans y5, (hW.cell (p := ⟨b, off, none⟩) (Go.block_lt_of_cell c0)).trans c0, (hW.cell (p := ⟨b, off + 1, none⟩) (Go.block_lt_of_cell c1)).trans c1, (hW.cell (p := ⟨b, off + 2, none⟩) (Go.block_lt_of_cell c2)).trans c2, (hW.cell (p := ⟨b, off + 3, none⟩) (Go.block_lt_of_cell c3)).trans c3, (hW.cell (p := ⟨b, off + 4, none⟩) (Go.block_lt_of_cell c4)).trans c4, (hW.cell (p := ⟨b, off + 5, none⟩) (Go.block_lt_of_cell c5)).trans c5⟩
  clear c0 c1 c2 c3 c4 c5 hm4 hvk he4
  go_enter Tryz.func75, Tryz.ntmps75
  go_wp2_with fail
  rw [HW.out]
  clear s0 s1 x0 x1 y0 y1 y2 y3 y4 y5
  have HKT : Hid (∀ w', Below wx.heap.size wx w' → ∀ a' b' c' : Value, (((w'.setCell ⟨w.heap.size + 1 + 1 + 1, 0, none⟩ a').setCell ⟨w.heap.size + 1 + 1 + 1, 1, none⟩ b').setCell ⟨w.heap.size + 1 + 1 + 1, 2, none⟩ c').cell? ⟨w.heap.size, 0, none⟩ = some (.slice A l.length cap) ∧ (((w'.setCell ⟨w.heap.size + 1 + 1 + 1, 0, none⟩ a').setCell ⟨w.heap.size + 1 + 1 + 1, 1, none⟩ b').setCell ⟨w.heap.size + 1 + 1 + 1, 2, none⟩ c').cell? ⟨w.heap.size, 1, none⟩ = some (.map (some mb)) ∧ (((w'.setCell ⟨w.heap.size + 1 + 1 + 1, 0, none⟩ a').setCell ⟨w.heap.size + 1 + 1 + 1, 1, none⟩ b').setCell ⟨w.heap.size + 1 + 1 + 1, 2, none⟩ c').cell? ⟨w.heap.size + 1, 0, none⟩ = some (.int .i64 t.data) ∧ (((w'.setCell ⟨w.heap.size + 1 + 1 + 1, 0, none⟩ a').setCell ⟨w.heap.size + 1 + 1 + 1, 1, none⟩ b').setCell ⟨w.heap.size + 1 + 1 + 1, 2, none⟩ c').cell? ⟨w.heap.size + 1, 1, none⟩ = some (.int .i64 t.index) ∧ (((w'.setCell ⟨w.heap.size + 1 + 1 + 1, 0, none⟩ a').setCell ⟨w.heap.size + 1 + 1 + 1, 1, none⟩ b').setCell ⟨w.heap.size + 1 + 1 + 1, 2, none⟩ c').cell? ⟨w.heap.size + 2, 5, none⟩ = some (.slice (some ⟨b, off, none⟩) p.kids.length ep) ∧ (((w'.setCell ⟨w.heap.size + 1 + 1 + 1, 0, none⟩ a').setCell ⟨w.heap.size + 1 + 1 + 1, 1, none⟩ b').setCell ⟨w.heap.size + 1 + 1 + 1, 2, none⟩ c').cell? ⟨b, off, none⟩ = some (.int .i64 p.kids[0].op) ∧ (((w'.setCell ⟨w.heap.size + 1 + 1 + 1, 0, none⟩ a').setCell ⟨w.heap.size + 1 + 1 + 1, 1, none⟩ b').setCell ⟨w.heap.size + 1 + 1 + 1, 2, none⟩ c').cell? ⟨b, off + 1, none⟩ = some (.int .i64 p.kids[0].ctor) ∧ (((w'.setCell ⟨w.heap.size + 1 + 1 + 1, 0, none⟩ a').setCell ⟨w.heap.size + 1 + 1 + 1, 1, none⟩ b').setCell ⟨w.heap.size + 1 + 1 + 1, 2, none⟩ c').cell? ⟨b, off + 2, none⟩ = some (.int .i64 p.kids[0].n) ∧ (((w'.setCell ⟨w.heap.size + 1 + 1 + 1, 0, none⟩ a').setCell ⟨w.heap.size + 1 + 1 + 1, 1, none⟩ b').setCell ⟨w.heap.size + 1 + 1 + 1, 2, none⟩ c').cell? ⟨b, off + 3, none⟩ = some (.int .i64 p.kids[0].m) ∧ (((w'.setCell ⟨w.heap.size + 1 + 1 + 1, 0, none⟩ a').setCell ⟨w.heap.size + 1 + 1 + 1, 1, none⟩ b').setCell ⟨w.heap.size + 1 + 1 + 1, 2, none⟩ c').cell? ⟨b, off + 4, none⟩ = some (.int .i64 p.kids[0].var) ∧ (((w'.setCell ⟨w.heap.size + 1 + 1 + 1, 0, none⟩ a').setCell ⟨w.heap.size + 1 + 1 + 1, 1, none⟩ b').setCell ⟨w.heap.size + 1 + 1 + 1, 2, none⟩ c').cell? ⟨b, off + 5, none⟩ = some (.slice D4 p.kids[0].kids.length cp4)) := fun w' hW a' b' c' => by
    have hF : Fr (fun q => q = w.heap.size + 3) w' (((w'.setCell ⟨w.heap.size + 1 + 1 + 1, 0, none⟩ a').setCell ⟨w.heap.size + 1 + 1 + 1, 1, none⟩ b').setCell ⟨w.heap.size + 1 + 1 + 1, 2, none⟩ c') := ((Fr.set (P := fun q => q = w.heap.size + 3) _ _ _ _ rfl).trans (Fr.set _ _ _ _ rfl)).trans (Fr.set _ _ _ _ rfl)
    have hz := hW.size
    obtain ⟨z0, z1, z2, z3, z4, z5, z6, z7, z8, z9, z10⟩ := HKS.out w' hW
    have k_s := hF.2.2.2.2 (w.heap.size) (by omega) (by omega)
    have k_s1 := hF.2.2.2.2 (w.heap.size + 1) (by omega) (by omega)
    have k_s2 := hF.2.2.2.2 (w.heap.size + 2) (by omega) (by omega)
    have k_b := hF.2.2.2.2 (b) (by omega) (by omega)
    exact ⟨(World.cell?_of_block (a := ⟨w.heap.size, 0, none⟩) k_s).trans z0, (World.cell?_of_block (a := ⟨w.heap.size, 1, none⟩) k_s).trans z1, (World.cell?_of_block (a := ⟨w.heap.size + 1, 0, none⟩) k_s1).trans z2, (World.cell?_of_block (a := ⟨w.heap.size + 1, 1, none⟩) k_s1).trans z3, (World.cell?_of_block (a := ⟨w.heap.size + 2, 5, none⟩) k_s2).trans z4, (World.cell?_of_block (a := ⟨b, off, none⟩) k_b).trans z5, (World.cell?_of_block (a := ⟨b, off + 1, none⟩) k_b).trans z6, (World.cell?_of_block (a := ⟨b, off + 2, none⟩) k_b).trans z7, (World.cell?_of_block (a := ⟨b, off + 3, none⟩) k_b).trans z8, (World.cell?_of_block (a := ⟨b, off + 4, none⟩) k_b).trans z9, (World.cell?_of_block (a := ⟨b, off + 5, none⟩) k_b).trans z10⟩
  obtain ⟨q0, q1, q2, q3, q4, q5, q6, q7, q8, q9, q10⟩ := HKS.out wx.drew (Below.refl _ wx).drew
  go_region_held3 (fun w' => w'.cell? ⟨w.heap.size, 0, none⟩ = some (.slice A l.length cap) ∧ w'.cell? ⟨w.heap.size, 1, none⟩ = some (.map (some mb)) ∧ w'.cell? ⟨w.heap.size + 1, 0, none⟩ = some (.int .i64 t.data) ∧ w'.cell? ⟨w.heap.size + 1, 1, none⟩ = some (.int .i64 t.index) ∧ w'.cell? ⟨w.heap.size + 2, 5, none⟩ = some (.slice (some ⟨b, off, none⟩) p.kids.length ep) ∧ w'.cell? ⟨b, off, none⟩ = some (.int .i64 p.kids[0].op) ∧ w'.cell? ⟨b, off + 1, none⟩ = some (.int .i64 p.kids[0].ctor) ∧ w'.cell? ⟨b, off + 2, none⟩ = some (.int .i64 p.kids[0].n) ∧ w'.cell? ⟨b, off + 3, none⟩ = some (.int .i64 p.kids[0].m) ∧ w'.cell? ⟨b, off + 4, none⟩ = some (.int .i64 p.kids[0].var) ∧ w'.cell? ⟨b, off + 5, none⟩ = some (.slice D4 p.kids[0].kids.length cp4)) (first | exact ⟨q0, q1, q2, q3, q4, q5, q6, q7, q8, q9, q10⟩ | exact HKS.out w2 HB2.out | exact HKT.out w2 HB2.out _ _ _ | go_keep) (first | (go_at_call 75; refine (IH.out A D4 cap mb cp4 e4 t p.kids[0] wx.drew (by exact Hr.out.at_ hbx.drew) (by exact HMP.out.at_ hbx.drew) HK.out HS0.out (by exact Hm.out)).mono ?_; rintro e2 w2 ⟨B, c, rfl, ho, hb2'⟩; have hb2 : Below wx.heap.size wx w2 := ⟨hb2'.os, hb2'.tape, hb2'.output, hb2'.size, hb2'.block⟩; have HB2 := Lib.hid hb2; have hs2 := hb2.size; have hbw2 := below_aft hbx hb2 hbx.size; have HO := Lib.hid ho; have hrr : w2.heap[w.heap.size + 3]? = some (.cells #[.int .i64 0, .int .i64 0, .slice none 0 0] 51 (0, 0)) := HXR.out.at_ hb2; have r0 := (cell_of_blk hrr 0).trans rfl; have r1 := (cell_of_blk hrr 1).trans rfl; have r2 := (cell_of_blk hrr 2).trans rfl; have f0 := frozen_of_row w2 (w.heap.size + 3) 0 _ 51 hrr; have f1 := frozen_of_row w2 (w.heap.size + 3) 1 _ 51 hrr; have f2 := frozen_of_row w2 (w.heap.size + 3) 2 _ 51 hrr; clear hrr; clear ho hb2' hb2))
  all_goals
    clear q0 q1 q2 q3 q4 q5 q6 q7 q8 q9 q10
    go_wp2_with fail
    refine bodyPost_ret (v := .tuple #[.agg #[.int .i64 (siR l d t p.kids[0]).ctor, .int .i64 (siR l d t p.kids[0]).n, .slice B (siR l d t p.kids[0]).kids.length c], .bool (okS l d t p.kids[0])]) (by simp [results, Tryz.results75, go_sem, r0, r1, r2]) rfl (SiQ.put HV1.out HK1.out HO.out (fun b h => ⟨by have h1 : wx.heap.size ≤ b := h.1; omega, h.2, by have h1 : wx.heap.size ≤ b := h.1; omega⟩) (by omega) (((Fr.set (P := fun b => b = w.heap.size + 3) _ _ _ _ rfl).trans (Fr.set _ _ _ _ rfl)).trans (Fr.set _ _ _ _ rfl)) ?_)
    refine Below.setCell (Below.setCell (Below.setCell hbw2 ?_ _) ?_ _) ?_ _ <;> (simp <;> omega)
set_option maxHeartbeats 8000000 in
theorem siI_50 (l : List Da) (d : Nat) (ih : SiC l d) (A D : Option Addr) (cap mb ep e : Nat) (t : Ty) (p : Pt) (w : World) (hr : RDas w w.heap.size A l) (hmp : MapTy w mb 400 (ldep l) (Inh l)) (ht : TyOK l t) (hs : shP l (d + 1) t p = true) (hv : RPs e w w.heap.size D p.kids) (hc : smP l d t (p.kids.getD 0 default) = true) (hop : p.op = 5) :
    Calls Tryz.prog 75 #[.agg #[.slice A l.length cap, .map (some mb)], .agg #[.int .i64 t.data, .int .i64 t.index], .agg #[.int .i64 p.op, .int .i64 p.ctor, .int .i64 p.n, .int .i64 p.m, .int .i64 p.var, .slice D p.kids.length ep]] w (SiQ l (d + 1) t p w) := by
  have hl := hv.1
  unfold maxLen at hl
  have Hr := Lib.hid hr
  have HMP := Lib.hid hmp
  have HK := Lib.hid ht
  have HWO : Hid (WorldOK l) := ht.1
  have HV := Lib.hid hv
  have IH := Lib.hid ih
  have u1 : (p.op == 1) = false := ieq_f (by omega)
  have u2 : (p.op == 2) = false := ieq_f (by omega)
  have u3 : (p.op == 3) = false := ieq_f (by omega)
  have u4 : (p.op == 4) = false := ieq_f (by omega)
  have u5 := ieq_t hop
  have u6 : (p.op == 6) = false := ieq_f (by omega)
  obtain ⟨hk2, hs0, hs1⟩ := or_partsP hs hop
  have h0k : 0 < p.kids.length := by omega
  have h1k : 1 < p.kids.length := by omega
  rw [getD_kid h0k] at hc
  have HC : Hid ((!smP l d t p.kids[0]) = false) := by unfold Hid; rw [hc]; rfl
  have HK1 := Lib.hid (okS_or0 (l := l) (d := d) (t := t) hop h0k hc)
  have HV1 := Lib.hid (siR_same HK1.out (svP_or0 (l := l) (d := d) (t := t) hop h0k hc))
  have HS0 := Lib.hid (hs0 h0k)
  have HS1 := Lib.hid (hs1 h1k)
  have hi0 : (0 : Int) < (p.kids.length : Int) := by omega
  have hi1 : (1 : Int) < (p.kids.length : Int) := by omega
  have HSO := Lib.hid (smI_any l d)
  clear hk2 hs0 hs1 hc
  generalize hwx : (((w.alloc (.cells #[.slice A l.length cap, .map (some mb)] 110)).alloc (.cells #[.int .i64 t.data, .int .i64 t.index] 31)).alloc (.cells #[.int .i64 p.op, .int .i64 p.ctor, .int .i64 p.n, .int .i64 p.m, .int .i64 p.var, .slice D p.kids.length ep] 45)).alloc (.cells #[.int .i64 0, .int .i64 0, .slice none 0 0] 51) = wx
  have hbx : Below w.heap.size w wx := below_box4 hwx
  have hsx : wx.heap.size = w.heap.size + 4 := by rw [← hwx]; simp
  have HXS : Hid (SpB wx w.heap.size A l cap mb) := by rw [← hwx]; exact ⟨by simp [go_sem], by simp [go_sem]⟩
  have HXT : Hid (Bx wx (w.heap.size + 1) t) := by rw [← hwx]; exact ⟨by simp [go_sem], by simp [go_sem]⟩
  have HXP : Hid (PBx wx (w.heap.size + 2) p (.slice D p.kids.length ep)) := by rw [← hwx]; exact ⟨by simp [go_sem], by simp [go_sem], by simp [go_sem], by simp [go_sem], by simp [go_sem], by simp [go_sem]⟩
  have HXR : Hid (ZbV wx (w.heap.size + 3)) := by
    have h := ZbV.new (((w.alloc (.cells #[.slice A l.length cap, .map (some mb)] 110)).alloc (.cells #[.int .i64 t.data, .int .i64 t.index] 31)).alloc (.cells #[.int .i64 p.op, .int .i64 p.ctor, .int .i64 p.n, .int .i64 p.m, .int .i64 p.var, .slice D p.kids.length ep] 45))
    simp only [World.size_alloc] at h
    unfold Hid; rw [← hwx]; exact h
  have HW := Lib.hid hwx
  clear hr hmp ht hs hv ih hop hwx
  obtain ⟨s0, s1⟩ := HXS.out
  obtain ⟨x0, x1⟩ := HXT.out
  obtain ⟨y0, y1, y2, y3, y4, y5⟩ := HXP.out
  clear s0 s1 x0 x1 y0 y1 y2 y3 y4 y5
  obtain ⟨b, off, rfl, hbB, hvk⟩ := (HV.out.below hbx (Nat.le_refl _)).2 0 h0k
  obtain ⟨b2, off2, e2, hbB2, hvk2⟩ := (HV.out.below hbx (Nat.le_refl _)).2 1 h1k
  cases e2
  rw [show off + 0 * 6 = off by omega] at hvk
  rw [show off + 1 * 6 = off + 6 by omega] at hvk2
  obtain ⟨e4, he4, D4, cp4, c0, c1, c2, c3, c4, c5, hm4⟩ := hvk.parts
  obtain ⟨e5, he5, D5, cp5, d0, d1, d2, d3, d4, d5, hm5⟩ := hvk2.parts
  have Hm : Hid (RPs e4 wx wx.heap.size D4 p.kids[0].kids) := hm4.keep (fun _ _ => rfl) hbx.size
  have Hm' : Hid (RPs e5 wx wx.heap.size D5 p.kids[1].kids) := hm5.keep (fun _ _ => rfl) hbx.size
  obtain ⟨s0, s1⟩ := HXS.out
  obtain ⟨x0, x1⟩ := HXT.out
  obtain ⟨y0, y1, y2, y3, y4, y5⟩ := HXP.out
  have g0 := cell_regrown x0
  have g1 := cell_regrown x1
  have g2 := cell_regrown c0
  have g3 := cell_regrown c1
  have g4 := cell_regrown c2
  have g5 := cell_regrown c3
  have g6 := cell_regrown c4
  have g7 := cell_regrown c5
  have g8 := cell_regrown y5
  have g9 := cell_regrown s0
  have g10 := cell_regrown s1
  have HKS0 : Hid (∀ w', Below wx.heap.size wx w' → w'.cell? ⟨w.heap.size, 0, none⟩ = some (.slice A l.length cap) ∧ w'.cell? ⟨w.heap.size, 1, none⟩ = some (.map (some mb)) ∧ w'.cell? ⟨w.heap.size + 1, 0, none⟩ = some (.int .i64 t.data) ∧ w'.cell? ⟨w.heap.size + 1, 1, none⟩ = some (.int .i64 t.index) ∧ w'.cell? ⟨w.heap.size + 2, 5, none⟩ = some (.slice (some ⟨b, off, none⟩) p.kids.length ep) ∧ w'.cell? ⟨b, off, none⟩ = some (.int .i64 p.kids[0].op) ∧ w'.cell? ⟨b, off + 1, none⟩ = some (.int .i64 p.kids[0].ctor) ∧ w'.cell? ⟨b, off + 2, none⟩ = some (.int .i64 p.kids[0].n) ∧ w'.cell? ⟨b, off + 3, none⟩ = some (.int .i64 p.kids[0].m) ∧ w'.cell? ⟨b, off + 4, none⟩ = some (.int .i64 p.kids[0].var) ∧ w'.cell? ⟨b, off + 5, none⟩ = some (.slice D4 p.kids[0].kids.length cp4)) := fun w' hW => ⟨(hW.cell (p := ⟨w.heap.size, 0, none⟩) (Go.block_lt_of_cell s0)).trans s0, (hW.cell (p := ⟨w.heap.size, 1, none⟩) (Go.block_lt_of_cell s1)).trans s1, (hW.cell (p := ⟨w.heap.size + 1, 0, none⟩) (Go.block_lt_of_cell x0)).trans x0, (hW.cell (p := ⟨w.heap.size + 1, 1, none⟩) (Go.block_lt_of_cell x1)).trans x1, (hW.cell (p := ⟨w.heap.size + 2, 5, none⟩) (Go.block_lt_of_cell y5)).trans y5, (hW.cell (p := ⟨b, off, none⟩) (Go.block_lt_of_cell c0)).trans c0, (hW.cell (p := ⟨b, off + 1, none⟩) (Go.block_lt_of_cell c1)).trans c1, (hW.cell (p := ⟨b, off + 2, none⟩) (Go.block_lt_of_cell c2)).trans c2, (hW.cell (p := ⟨b, off + 3, none⟩) (Go.block_lt_of_cell c3)).trans c3, (hW.cell (p := ⟨b, off + 4, none⟩) (Go.block_lt_of_cell c4)).trans c4, (hW.cell (p := ⟨b, off + 5, none⟩) (Go.block_lt_of_cell c5)).trans c5⟩
  clear c0 c1 c2 c3 c4 c5 d0 d1 d2 d3 d4 d5 hm4 hm5 hvk hvk2 he4 he5
  go_enter Tryz.func75, Tryz.ntmps75
  go_wp2_with fail
  rw [HW.out]
  refine wp_region_quiet_below (by kernel_rfl) (by kernel_rfl) ?_
  repeat (quiet_step (exact Calls.regrown_of (HSO.out.known _ _ _ _ _ _ _ _ _ _ HC.out ((Hr.out.at_ hbx).at_ (below_regrown wx _ _)) ((HMP.out.at_ hbx).at_ (below_regrown wx _ _)) HK.out HS0.out (Hm.out.at_ (below_regrown wx _ _)))))
  refine wpQuiet_nil ?_
  intro wy hw'
  have hby : Below wx.heap.size wx wy := by obtain ⟨⟨dq, osq⟩, h⟩ := hw'; subst h; exact below_regrown wx dq osq
  clear hw'
  clear g0 g1 g2 g3 g4 g5 g6 g7 g8 g9 g10
  clear s0 s1 x0 x1 y0 y1 y2 y3 y4 y5
  have hsy := hby.size
  have hbz := below_aft hbx hby hbx.size
  have HRy : Hid (ZbV wy (w.heap.size + 3)) := HXR.out.at_ hby
  have HKS : Hid (∀ w', Below wy.heap.size wy w' → w'.cell? ⟨w.heap.size, 0, none⟩ = some (.slice A l.length cap) ∧ w'.cell? ⟨w.heap.size, 1, none⟩ = some (.map (some mb)) ∧ w'.cell? ⟨w.heap.size + 1, 0, none⟩ = some (.int .i64 t.data) ∧ w'.cell? ⟨w.heap.size + 1, 1, none⟩ = some (.int .i64 t.index) ∧ w'.cell? ⟨w.heap.size + 2, 5, none⟩ = some (.slice (some ⟨b, off, none⟩) p.kids.length ep) ∧ w'.cell? ⟨b, off, none⟩ = some (.int .i64 p.kids[0].op) ∧ w'.cell? ⟨b, off + 1, none⟩ = some (.int .i64 p.kids[0].ctor) ∧ w'.cell? ⟨b, off + 2, none⟩ = some (.int .i64 p.kids[0].n) ∧ w'.cell? ⟨b, off + 3, none⟩ = some (.int .i64 p.kids[0].m) ∧ w'.cell? ⟨b, off + 4, none⟩ = some (.int .i64 p.kids[0].var) ∧ w'.cell? ⟨b, off + 5, none⟩ = some (.slice D4 p.kids[0].kids.length cp4)) := fun w' hW => HKS0.out w' (below_aft hby hW hby.size)
  have Hy0 : Hid (RPs e4 wy.drew wy.drew.heap.size D4 p.kids[0].kids) := (Hm.out.at_ hby).keep (fun _ _ => rfl) (Nat.le_refl _)
  have Hy1 : Hid (RPs e5 wy.drew wy.drew.heap.size D5 p.kids[1].kids) := (Hm'.out.at_ hby).keep (fun _ _ => rfl) (Nat.le_refl _)
  obtain ⟨q0, q1, q2, q3, q4, q5, q6, q7, q8, q9, q10⟩ := HKS.out wy (Below.refl _ wy)
  go_wp2_with fail
  clear q0 q1 q2 q3 q4 q5 q6 q7 q8 q9 q10
  have HKT : Hid (∀ w', Below wy.heap.size wy w' → ∀ a' b' c' : Value, (((w'.setCell ⟨w.heap.size + 1 + 1 + 1, 0, none⟩ a').setCell ⟨w.heap.size + 1 + 1 + 1, 1, none⟩ b').setCell ⟨w.heap.size + 1 + 1 + 1, 2, none⟩ c').cell? ⟨w.heap.size, 0, none⟩ = some (.slice A l.length cap) ∧ (((w'.setCell ⟨w.heap.size + 1 + 1 + 1, 0, none⟩ a').setCell ⟨w.heap.size + 1 + 1 + 1, 1, none⟩ b').setCell ⟨w.heap.size + 1 + 1 + 1, 2, none⟩ c').cell? ⟨w.heap.size, 1, none⟩ = some (.map (some mb)) ∧ (((w'.setCell ⟨w.heap.size + 1 + 1 + 1, 0, none⟩ a').setCell ⟨w.heap.size + 1 + 1 + 1, 1, none⟩ b').setCell ⟨w.heap.size + 1 + 1 + 1, 2, none⟩ c').cell? ⟨w.heap.size + 1, 0, none⟩ = some (.int .i64 t.data) ∧ (((w'.setCell ⟨w.heap.size + 1 + 1 + 1, 0, none⟩ a').setCell ⟨w.heap.size + 1 + 1 + 1, 1, none⟩ b').setCell ⟨w.heap.size + 1 + 1 + 1, 2, none⟩ c').cell? ⟨w.heap.size + 1, 1, none⟩ = some (.int .i64 t.index) ∧ (((w'.setCell ⟨w.heap.size + 1 + 1 + 1, 0, none⟩ a').setCell ⟨w.heap.size + 1 + 1 + 1, 1, none⟩ b').setCell ⟨w.heap.size + 1 + 1 + 1, 2, none⟩ c').cell? ⟨w.heap.size + 2, 5, none⟩ = some (.slice (some ⟨b, off, none⟩) p.kids.length ep) ∧ (((w'.setCell ⟨w.heap.size + 1 + 1 + 1, 0, none⟩ a').setCell ⟨w.heap.size + 1 + 1 + 1, 1, none⟩ b').setCell ⟨w.heap.size + 1 + 1 + 1, 2, none⟩ c').cell? ⟨b, off, none⟩ = some (.int .i64 p.kids[0].op) ∧ (((w'.setCell ⟨w.heap.size + 1 + 1 + 1, 0, none⟩ a').setCell ⟨w.heap.size + 1 + 1 + 1, 1, none⟩ b').setCell ⟨w.heap.size + 1 + 1 + 1, 2, none⟩ c').cell? ⟨b, off + 1, none⟩ = some (.int .i64 p.kids[0].ctor) ∧ (((w'.setCell ⟨w.heap.size + 1 + 1 + 1, 0, none⟩ a').setCell ⟨w.heap.size + 1 + 1 + 1, 1, none⟩ b').setCell ⟨w.heap.size + 1 + 1 + 1, 2, none⟩ c').cell? ⟨b, off + 2, none⟩ = some (.int .i64 p.kids[0].n) ∧ (((w'.setCell ⟨w.heap.size + 1 + 1 + 1, 0, none⟩ a').setCell ⟨w.heap.size + 1 + 1 + 1, 1, none⟩ b').setCell ⟨w.heap.size + 1 + 1 + 1, 2, none⟩ c').cell? ⟨b, off + 3, none⟩ = some (.int .i64 p.kids[0].m) ∧ (((w'.setCell ⟨w.heap.size + 1 + 1 + 1, 0, none⟩ a').setCell ⟨w.heap.size + 1 + 1 + 1, 1, none⟩ b').setCell ⟨w.heap.size + 1 + 1 + 1, 2, none⟩ c').cell? ⟨b, off + 4, none⟩ = some (.int .i64 p.kids[0].var) ∧ (((w'.setCell ⟨w.heap.size + 1 + 1 + 1, 0, none⟩ a').setCell ⟨w.heap.size + 1 + 1 + 1, 1, none⟩ b').setCell ⟨w.heap.size + 1 + 1 + 1, 2, none⟩ c').cell? ⟨b, off + 5, none⟩ = some (.slice D4 p.kids[0].kids.length cp4)) := fun w' hW a' b' c' => by
    have hF : Fr (fun q => q = w.heap.size + 3) w' (((w'.setCell ⟨w.heap.size + 1 + 1 + 1, 0, none⟩ a').setCell ⟨w.heap.size + 1 + 1 + 1, 1, none⟩ b').setCell ⟨w.heap.size + 1 + 1 + 1, 2, none⟩ c') := ((Fr.set (P := fun q => q = w.heap.size + 3) _ _ _ _ rfl).trans (Fr.set _ _ _ _ rfl)).trans (Fr.set _ _ _ _ rfl)
    have hz := hW.size
    obtain ⟨z0, z1, z2, z3, z4, z5, z6, z7, z8, z9, z10⟩ := HKS.out w' hW
    have k_s := hF.2.2.2.2 (w.heap.size) (by omega) (by omega)
    have k_s1 := hF.2.2.2.2 (w.heap.size + 1) (by omega) (by omega)
    have k_s2 := hF.2.2.2.2 (w.heap.size + 2) (by omega) (by omega)
    have k_b := hF.2.2.2.2 (b) (by omega) (by omega)
    exact ⟨(World.cell?_of_block (a := ⟨w.heap.size, 0, none⟩) k_s).trans z0, (World.cell?_of_block (a := ⟨w.heap.size, 1, none⟩) k_s).trans z1, (World.cell?_of_block (a := ⟨w.heap.size + 1, 0, none⟩) k_s1).trans z2, (World.cell?_of_block (a := ⟨w.heap.size + 1, 1, none⟩) k_s1).trans z3, (World.cell?_of_block (a := ⟨w.heap.size + 2, 5, none⟩) k_s2).trans z4, (World.cell?_of_block (a := ⟨b, off, none⟩) k_b).trans z5, (World.cell?_of_block (a := ⟨b, off + 1, none⟩) k_b).trans z6, (World.cell?_of_block (a := ⟨b, off + 2, none⟩) k_b).trans z7, (World.cell?_of_block (a := ⟨b, off + 3, none⟩) k_b).trans z8, (World.cell?_of_block (a := ⟨b, off + 4, none⟩) k_b).trans z9, (World.cell?_of_block (a := ⟨b, off + 5, none⟩) k_b).trans z10⟩
  obtain ⟨q0, q1, q2, q3, q4, q5, q6, q7, q8, q9, q10⟩ := HKS.out wy.drew (Below.refl _ wy).drew
  go_region_held3 (fun w' => w'.cell? ⟨w.heap.size, 0, none⟩ = some (.slice A l.length cap) ∧ w'.cell? ⟨w.heap.size, 1, none⟩ = some (.map (some mb)) ∧ w'.cell? ⟨w.heap.size + 1, 0, none⟩ = some (.int .i64 t.data) ∧ w'.cell? ⟨w.heap.size + 1, 1, none⟩ = some (.int .i64 t.index) ∧ w'.cell? ⟨w.heap.size + 2, 5, none⟩ = some (.slice (some ⟨b, off, none⟩) p.kids.length ep) ∧ w'.cell? ⟨b, off, none⟩ = some (.int .i64 p.kids[0].op) ∧ w'.cell? ⟨b, off + 1, none⟩ = some (.int .i64 p.kids[0].ctor) ∧ w'.cell? ⟨b, off + 2, none⟩ = some (.int .i64 p.kids[0].n) ∧ w'.cell? ⟨b, off + 3, none⟩ = some (.int .i64 p.kids[0].m) ∧ w'.cell? ⟨b, off + 4, none⟩ = some (.int .i64 p.kids[0].var) ∧ w'.cell? ⟨b, off + 5, none⟩ = some (.slice D4 p.kids[0].kids.length cp4)) (first | exact ⟨q0, q1, q2, q3, q4, q5, q6, q7, q8, q9, q10⟩ | exact HKS.out w2 HB2.out | exact HKT.out w2 HB2.out _ _ _ | go_keep) (first | (go_at_call 75; refine (IH.out A D4 cap mb cp4 e4 t p.kids[0] wy.drew (by exact Hr.out.at_ hbz.drew) (by exact HMP.out.at_ hbz.drew) HK.out HS0.out (by exact Hy0.out)).mono ?_; rintro e2 w2 ⟨B, c, rfl, ho, hb2'⟩; have hb2 : Below wy.heap.size wy w2 := ⟨hb2'.os, hb2'.tape, hb2'.output, hb2'.size, hb2'.block⟩; have HB2 := Lib.hid hb2; have hs2 := hb2.size; have hbw2 := below_aft hbz hb2 hbz.size; have HO := Lib.hid ho; have hrr : w2.heap[w.heap.size + 3]? = some (.cells #[.int .i64 0, .int .i64 0, .slice none 0 0] 51 (0, 0)) := HRy.out.at_ hb2; have r0 := (cell_of_blk hrr 0).trans rfl; have r1 := (cell_of_blk hrr 1).trans rfl; have r2 := (cell_of_blk hrr 2).trans rfl; have f0 := frozen_of_row w2 (w.heap.size + 3) 0 _ 51 hrr; have f1 := frozen_of_row w2 (w.heap.size + 3) 1 _ 51 hrr; have f2 := frozen_of_row w2 (w.heap.size + 3) 2 _ 51 hrr; clear hrr; clear ho hb2' hb2))
  all_goals
    clear q0 q1 q2 q3 q4 q5 q6 q7 q8 q9 q10
    go_wp2_with fail
    refine bodyPost_ret (v := .tuple #[.agg #[.int .i64 (siR l d t p.kids[0]).ctor, .int .i64 (siR l d t p.kids[0]).n, .slice B (siR l d t p.kids[0]).kids.length c], .bool (okS l d t p.kids[0])]) (by simp [results, Tryz.results75, go_sem, r0, r1, r2]) rfl (SiQ.put HV1.out HK1.out HO.out (fun b h => ⟨by have h1 : wy.heap.size ≤ b := h.1; omega, h.2, by have h1 : wy.heap.size ≤ b := h.1; omega⟩) (by omega) (((Fr.set (P := fun b => b = w.heap.size + 3) _ _ _ _ rfl).trans (Fr.set _ _ _ _ rfl)).trans (Fr.set _ _ _ _ rfl)) ?_)
    refine Below.setCell (Below.setCell (Below.setCell hbw2 ?_ _) ?_ _) ?_ _ <;> (simp <;> omega)
set_option maxHeartbeats 8000000 in
theorem siI_51 (l : List Da) (d : Nat) (ih : SiC l d) (A D : Option Addr) (cap mb ep e : Nat) (t : Ty) (p : Pt) (w : World) (hr : RDas w w.heap.size A l) (hmp : MapTy w mb 400 (ldep l) (Inh l)) (ht : TyOK l t) (hs : shP l (d + 1) t p = true) (hv : RPs e w w.heap.size D p.kids) (hc : smP l d t (p.kids.getD 0 default) = false) (hop : p.op = 5) :
    Calls Tryz.prog 75 #[.agg #[.slice A l.length cap, .map (some mb)], .agg #[.int .i64 t.data, .int .i64 t.index], .agg #[.int .i64 p.op, .int .i64 p.ctor, .int .i64 p.n, .int .i64 p.m, .int .i64 p.var, .slice D p.kids.length ep]] w (SiQ l (d + 1) t p w) := by
  have hl := hv.1
  unfold maxLen at hl
  have Hr := Lib.hid hr
  have HMP := Lib.hid hmp
  have HK := Lib.hid ht
  have HWO : Hid (WorldOK l) := ht.1
  have HV := Lib.hid hv
  have IH := Lib.hid ih
  have u1 : (p.op == 1) = false := ieq_f (by omega)
  have u2 : (p.op == 2) = false := ieq_f (by omega)
  have u3 : (p.op == 3) = false := ieq_f (by omega)
  have u4 : (p.op == 4) = false := ieq_f (by omega)
  have u5 := ieq_t hop
  have u6 : (p.op == 6) = false := ieq_f (by omega)
  obtain ⟨hk2, hs0, hs1⟩ := or_partsP hs hop
  have h0k : 0 < p.kids.length := by omega
  have h1k : 1 < p.kids.length := by omega
  rw [getD_kid h0k] at hc
  have HC : Hid ((!smP l d t p.kids[0]) = true) := by unfold Hid; rw [hc]; rfl
  have HK1 := Lib.hid (okS_or1 (l := l) (d := d) (t := t) hop h0k h1k hc)
  have HV1 := Lib.hid (siR_same HK1.out (svP_or1 (l := l) (d := d) (t := t) hop h0k h1k hc))
  have HS0 := Lib.hid (hs0 h0k)
  have HS1 := Lib.hid (hs1 h1k)
  have hi0 : (0 : Int) < (p.kids.length : Int) := by omega
  have hi1 : (1 : Int) < (p.kids.length : Int) := by omega
  have HSO := Lib.hid (smI_any l d)
  clear hk2 hs0 hs1 hc
  generalize hwx : (((w.alloc (.cells #[.slice A l.length cap, .map (some mb)] 110)).alloc (.cells #[.int .i64 t.data, .int .i64 t.index] 31)).alloc (.cells #[.int .i64 p.op, .int .i64 p.ctor, .int .i64 p.n, .int .i64 p.m, .int .i64 p.var, .slice D p.kids.length ep] 45)).alloc (.cells #[.int .i64 0, .int .i64 0, .slice none 0 0] 51) = wx
  have hbx : Below w.heap.size w wx := below_box4 hwx
  have hsx : wx.heap.size = w.heap.size + 4 := by rw [← hwx]; simp
  have HXS : Hid (SpB wx w.heap.size A l cap mb) := by rw [← hwx]; exact ⟨by simp [go_sem], by simp [go_sem]⟩
  have HXT : Hid (Bx wx (w.heap.size + 1) t) := by rw [← hwx]; exact ⟨by simp [go_sem], by simp [go_sem]⟩
  have HXP : Hid (PBx wx (w.heap.size + 2) p (.slice D p.kids.length ep)) := by rw [← hwx]; exact ⟨by simp [go_sem], by simp [go_sem], by simp [go_sem], by simp [go_sem], by simp [go_sem], by simp [go_sem]⟩
  have HXR : Hid (ZbV wx (w.heap.size + 3)) := by
    have h := ZbV.new (((w.alloc (.cells #[.slice A l.length cap, .map (some mb)] 110)).alloc (.cells #[.int .i64 t.data, .int .i64 t.index] 31)).alloc (.cells #[.int .i64 p.op, .int .i64 p.ctor, .int .i64 p.n, .int .i64 p.m, .int .i64 p.var, .slice D p.kids.length ep] 45))
    simp only [World.size_alloc] at h
    unfold Hid; rw [← hwx]; exact h
  have HW := Lib.hid hwx
  clear hr hmp ht hs hv ih hop hwx
  obtain ⟨s0, s1⟩ := HXS.out
  obtain ⟨x0, x1⟩ := HXT.out
  obtain ⟨y0, y1, y2, y3, y4, y5⟩ := HXP.out
  clear s0 s1 x0 x1 y0 y1 y2 y3 y4 y5
  obtain ⟨b, off, rfl, hbB, hvk⟩ := (HV.out.below hbx (Nat.le_refl _)).2 0 h0k
  obtain ⟨b2, off2, e2, hbB2, hvk2⟩ := (HV.out.below hbx (Nat.le_refl _)).2 1 h1k
  cases e2
  rw [show off + 0 * 6 = off by omega] at hvk
  rw [show off + 1 * 6 = off + 6 by omega] at hvk2
  obtain ⟨e4, he4, D4, cp4, c0, c1, c2, c3, c4, c5, hm4⟩ := hvk.parts
  obtain ⟨e5, he5, D5, cp5, d0, d1, d2, d3, d4, d5, hm5⟩ := hvk2.parts
  have Hm : Hid (RPs e4 wx wx.heap.size D4 p.kids[0].kids) := hm4.keep (fun _ _ => rfl) hbx.size
  have Hm' : Hid (RPs e5 wx wx.heap.size D5 p.kids[1].kids) := hm5.keep (fun _ _ => rfl) hbx.size
  obtain ⟨s0, s1⟩ := HXS.out
  obtain ⟨x0, x1⟩ := HXT.out
  obtain ⟨y0, y1, y2, y3, y4, y5⟩ := HXP.out
  have g0 := cell_regrown x0
  have g1 := cell_regrown x1
  have g2 := cell_regrown c0
  have g3 := cell_regrown c1
  have g4 := cell_regrown c2
  have g5 := cell_regrown c3
  have g6 := cell_regrown c4
  have g7 := cell_regrown c5
  have g8 := cell_regrown y5
  have g9 := cell_regrown s0
  have g10 := cell_regrown s1
  have HKS0 : Hid (∀ w', Below wx.heap.size wx w' → w'.cell? ⟨w.heap.size, 0, none⟩ = some (.slice A l.length cap) ∧ w'.cell? ⟨w.heap.size, 1, none⟩ = some (.map (some mb)) ∧ w'.cell? ⟨w.heap.size + 1, 0, none⟩ = some (.int .i64 t.data) ∧ w'.cell? ⟨w.heap.size + 1, 1, none⟩ = some (.int .i64 t.index) ∧ w'.cell? ⟨w.heap.size + 2, 5, none⟩ = some (.slice (some ⟨b, off, none⟩) p.kids.length ep) ∧ w'.cell? ⟨b, off + 6, none⟩ = some (.int .i64 p.kids[1].op) ∧ w'.cell? ⟨b, off + 7, none⟩ = some (.int .i64 p.kids[1].ctor) ∧ w'.cell? ⟨b, off + 8, none⟩ = some (.int .i64 p.kids[1].n) ∧ w'.cell? ⟨b, off + 9, none⟩ = some (.int .i64 p.kids[1].m) ∧ w'.cell? ⟨b, off + 10, none⟩ = some (.int .i64 p.kids[1].var) ∧ w'.cell? ⟨b, off + 11, none⟩ = some (.slice D5 p.kids[1].kids.length cp5)) := fun w' hW => ⟨(hW.cell (p := ⟨w.heap.size, 0, none⟩) (Go.block_lt_of_cell s0)).trans s0, (hW.cell (p := ⟨w.heap.size, 1, none⟩) (Go.block_lt_of_cell s1)).trans s1, (hW.cell (p := ⟨w.heap.size + 1, 0, none⟩) (Go.block_lt_of_cell x0)).trans x0, (hW.cell (p := ⟨w.heap.size + 1, 1, none⟩) (Go.block_lt_of_cell x1)).trans x1, (hW.cell (p := ⟨w.heap.size + 2, 5, none⟩) (Go.block_lt_of_cell y5)).trans y5, (hW.cell (p := ⟨b, off + 6, none⟩) (Go.block_lt_of_cell d0)).trans d0, (hW.cell (p := ⟨b, off + 7, none⟩) (Go.block_lt_of_cell d1)).trans d1, (hW.cell (p := ⟨b, off + 8, none⟩) (Go.block_lt_of_cell d2)).trans d2, (hW.cell (p := ⟨b, off + 9, none⟩) (Go.block_lt_of_cell d3)).trans d3, (hW.cell (p := ⟨b, off + 10, none⟩) (Go.block_lt_of_cell d4)).trans d4, (hW.cell (p := ⟨b, off + 11, none⟩) (Go.block_lt_of_cell d5)).trans d5⟩
  clear c0 c1 c2 c3 c4 c5 d0 d1 d2 d3 d4 d5 hm4 hm5 hvk hvk2 he4 he5
  go_enter Tryz.func75, Tryz.ntmps75
  go_wp2_with fail
  rw [HW.out]
  refine wp_region_quiet_below (by kernel_rfl) (by kernel_rfl) ?_
  repeat (quiet_step (exact Calls.regrown_of (HSO.out.known _ _ _ _ _ _ _ _ _ _ HC.out ((Hr.out.at_ hbx).at_ (below_regrown wx _ _)) ((HMP.out.at_ hbx).at_ (below_regrown wx _ _)) HK.out HS0.out (Hm.out.at_ (below_regrown wx _ _)))))
  refine wpQuiet_nil ?_
  intro wy hw'
  have hby : Below wx.heap.size wx wy := by obtain ⟨⟨dq, osq⟩, h⟩ := hw'; subst h; exact below_regrown wx dq osq
  clear hw'
  clear g0 g1 g2 g3 g4 g5 g6 g7 g8 g9 g10
  clear s0 s1 x0 x1 y0 y1 y2 y3 y4 y5
  have hsy := hby.size
  have hbz := below_aft hbx hby hbx.size
  have HRy : Hid (ZbV wy (w.heap.size + 3)) := HXR.out.at_ hby
  have HKS : Hid (∀ w', Below wy.heap.size wy w' → w'.cell? ⟨w.heap.size, 0, none⟩ = some (.slice A l.length cap) ∧ w'.cell? ⟨w.heap.size, 1, none⟩ = some (.map (some mb)) ∧ w'.cell? ⟨w.heap.size + 1, 0, none⟩ = some (.int .i64 t.data) ∧ w'.cell? ⟨w.heap.size + 1, 1, none⟩ = some (.int .i64 t.index) ∧ w'.cell? ⟨w.heap.size + 2, 5, none⟩ = some (.slice (some ⟨b, off, none⟩) p.kids.length ep) ∧ w'.cell? ⟨b, off + 6, none⟩ = some (.int .i64 p.kids[1].op) ∧ w'.cell? ⟨b, off + 7, none⟩ = some (.int .i64 p.kids[1].ctor) ∧ w'.cell? ⟨b, off + 8, none⟩ = some (.int .i64 p.kids[1].n) ∧ w'.cell? ⟨b, off + 9, none⟩ = some (.int .i64 p.kids[1].m) ∧ w'.cell? ⟨b, off + 10, none⟩ = some (.int .i64 p.kids[1].var) ∧ w'.cell? ⟨b, off + 11, none⟩ = some (.slice D5 p.kids[1].kids.length cp5)) := fun w' hW => HKS0.out w' (below_aft hby hW hby.size)
  have Hy0 : Hid (RPs e4 wy.drew wy.drew.heap.size D4 p.kids[0].kids) := (Hm.out.at_ hby).keep (fun _ _ => rfl) (Nat.le_refl _)
  have Hy1 : Hid (RPs e5 wy.drew wy.drew.heap.size D5 p.kids[1].kids) := (Hm'.out.at_ hby).keep (fun _ _ => rfl) (Nat.le_refl _)
  obtain ⟨q0, q1, q2, q3, q4, q5, q6, q7, q8, q9, q10⟩ := HKS.out wy (Below.refl _ wy)
  go_wp2_with fail
  clear q0 q1 q2 q3 q4 q5 q6 q7 q8 q9 q10
  have HKT : Hid (∀ w', Below wy.heap.size wy w' → ∀ a' b' c' : Value, (((w'.setCell ⟨w.heap.size + 1 + 1 + 1, 0, none⟩ a').setCell ⟨w.heap.size + 1 + 1 + 1, 1, none⟩ b').setCell ⟨w.heap.size + 1 + 1 + 1, 2, none⟩ c').cell? ⟨w.heap.size, 0, none⟩ = some (.slice A l.length cap) ∧ (((w'.setCell ⟨w.heap.size + 1 + 1 + 1, 0, none⟩ a').setCell ⟨w.heap.size + 1 + 1 + 1, 1, none⟩ b').setCell ⟨w.heap.size + 1 + 1 + 1, 2, none⟩ c').cell? ⟨w.heap.size, 1, none⟩ = some (.map (some mb)) ∧ (((w'.setCell ⟨w.heap.size + 1 + 1 + 1, 0, none⟩ a').setCell ⟨w.heap.size + 1 + 1 + 1, 1, none⟩ b').setCell ⟨w.heap.size + 1 + 1 + 1, 2, none⟩ c').cell? ⟨w.heap.size + 1, 0, none⟩ = some (.int .i64 t.data) ∧ (((w'.setCell ⟨w.heap.size + 1 + 1 + 1, 0, none⟩ a').setCell ⟨w.heap.size + 1 + 1 + 1, 1, none⟩ b').setCell ⟨w.heap.size + 1 + 1 + 1, 2, none⟩ c').cell? ⟨w.heap.size + 1, 1, none⟩ = some (.int .i64 t.index) ∧ (((w'.setCell ⟨w.heap.size + 1 + 1 + 1, 0, none⟩ a').setCell ⟨w.heap.size + 1 + 1 + 1, 1, none⟩ b').setCell ⟨w.heap.size + 1 + 1 + 1, 2, none⟩ c').cell? ⟨w.heap.size + 2, 5, none⟩ = some (.slice (some ⟨b, off, none⟩) p.kids.length ep) ∧ (((w'.setCell ⟨w.heap.size + 1 + 1 + 1, 0, none⟩ a').setCell ⟨w.heap.size + 1 + 1 + 1, 1, none⟩ b').setCell ⟨w.heap.size + 1 + 1 + 1, 2, none⟩ c').cell? ⟨b, off + 6, none⟩ = some (.int .i64 p.kids[1].op) ∧ (((w'.setCell ⟨w.heap.size + 1 + 1 + 1, 0, none⟩ a').setCell ⟨w.heap.size + 1 + 1 + 1, 1, none⟩ b').setCell ⟨w.heap.size + 1 + 1 + 1, 2, none⟩ c').cell? ⟨b, off + 7, none⟩ = some (.int .i64 p.kids[1].ctor) ∧ (((w'.setCell ⟨w.heap.size + 1 + 1 + 1, 0, none⟩ a').setCell ⟨w.heap.size + 1 + 1 + 1, 1, none⟩ b').setCell ⟨w.heap.size + 1 + 1 + 1, 2, none⟩ c').cell? ⟨b, off + 8, none⟩ = some (.int .i64 p.kids[1].n) ∧ (((w'.setCell ⟨w.heap.size + 1 + 1 + 1, 0, none⟩ a').setCell ⟨w.heap.size + 1 + 1 + 1, 1, none⟩ b').setCell ⟨w.heap.size + 1 + 1 + 1, 2, none⟩ c').cell? ⟨b, off + 9, none⟩ = some (.int .i64 p.kids[1].m) ∧ (((w'.setCell ⟨w.heap.size + 1 + 1 + 1, 0, none⟩ a').setCell ⟨w.heap.size + 1 + 1 + 1, 1, none⟩ b').setCell ⟨w.heap.size + 1 + 1 + 1, 2, none⟩ c').cell? ⟨b, off + 10, none⟩ = some (.int .i64 p.kids[1].var) ∧ (((w'.setCell ⟨w.heap.size + 1 + 1 + 1, 0, none⟩ a').setCell ⟨w.heap.size + 1 + 1 + 1, 1, none⟩ b').setCell ⟨w.heap.size + 1 + 1 + 1, 2, none⟩ c').cell? ⟨b, off + 11, none⟩ = some (.slice D5 p.kids[1].kids.length cp5)) := fun w' hW a' b' c' => by
    have hF : Fr (fun q => q = w.heap.size + 3) w' (((w'.setCell ⟨w.heap.size + 1 + 1 + 1, 0, none⟩ a').setCell ⟨w.heap.size + 1 + 1 + 1, 1, none⟩ b').setCell ⟨w.heap.size + 1 + 1 + 1, 2, none⟩ c') := ((Fr.set (P := fun q => q = w.heap.size + 3) _ _ _ _ rfl).trans (Fr.set _ _ _ _ rfl)).trans (Fr.set _ _ _ _ rfl)
    have hz := hW.size
    obtain ⟨z0, z1, z2, z3, z4, z5, z6, z7, z8, z9, z10⟩ := HKS.out w' hW
    have k_s := hF.2.2.2.2 (w.heap.size) (by omega) (by omega)
    have k_s1 := hF.2.2.2.2 (w.heap.size + 1) (by omega) (by omega)
    have k_s2 := hF.2.2.2.2 (w.heap.size + 2) (by omega) (by omega)
    have k_b := hF.2.2.2.2 (b) (by omega) (by omega)
    exact ⟨(World.cell?_of_block (a := ⟨w.heap.size, 0, none⟩) k_s).trans z0, (World.cell?_of_block (a := ⟨w.heap.size, 1, none⟩) k_s).trans z1, (World.cell?_of_block (a := ⟨w.heap.size + 1, 0, none⟩) k_s1).trans z2, (World.cell?_of_block (a := ⟨w.heap.size + 1, 1, none⟩) k_s1).trans z3, (World.cell?_of_block (a := ⟨w.heap.size + 2, 5, none⟩) k_s2).trans z4, (World.cell?_of_block (a := ⟨b, off + 6, none⟩) k_b).trans z5, (World.cell?_of_block (a := ⟨b, off + 7, none⟩) k_b).trans z6, (World.cell?_of_block (a := ⟨b, off + 8, none⟩) k_b).trans z7, (World.cell?_of_block (a := ⟨b, off + 9, none⟩) k_b).trans z8, (World.cell?_of_block (a := ⟨b, off + 10, none⟩) k_b).trans z9, (World.cell?_of_block (a := ⟨b, off + 11, none⟩) k_b).trans z10⟩
  obtain ⟨q0, q1, q2, q3, q4, q5, q6, q7, q8, q9, q10⟩ := HKS.out wy.drew (Below.refl _ wy).drew
  go_region_held3 (fun w' => w'.cell? ⟨w.heap.size, 0, none⟩ = some (.slice A l.length cap) ∧ w'.cell? ⟨w.heap.size, 1, none⟩ = some (.map (some mb)) ∧ w'.cell? ⟨w.heap.size + 1, 0, none⟩ = some (.int .i64 t.data) ∧ w'.cell? ⟨w.heap.size + 1, 1, none⟩ = some (.int .i64 t.index) ∧ w'.cell? ⟨w.heap.size + 2, 5, none⟩ = some (.slice (some ⟨b, off, none⟩) p.kids.length ep) ∧ w'.cell? ⟨b, off + 6, none⟩ = some (.int .i64 p.kids[1].op) ∧ w'.cell? ⟨b, off + 7, none⟩ = some (.int .i64 p.kids[1].ctor) ∧ w'.cell? ⟨b, off + 8, none⟩ = some (.int .i64 p.kids[1].n) ∧ w'.cell? ⟨b, off + 9, none⟩ = some (.int .i64 p.kids[1].m) ∧ w'.cell? ⟨b, off + 10, none⟩ = some (.int .i64 p.kids[1].var) ∧ w'.cell? ⟨b, off + 11, none⟩ = some (.slice D5 p.kids[1].kids.length cp5)) (first | exact ⟨q0, q1, q2, q3, q4, q5, q6, q7, q8, q9, q10⟩ | exact HKS.out w2 HB2.out | exact HKT.out w2 HB2.out _ _ _ | go_keep) (first | (go_at_call 75; refine (IH.out A D5 cap mb cp5 e5 t p.kids[1] wy.drew (by exact Hr.out.at_ hbz.drew) (by exact HMP.out.at_ hbz.drew) HK.out HS1.out (by exact Hy1.out)).mono ?_; rintro e2 w2 ⟨B, c, rfl, ho, hb2'⟩; have hb2 : Below wy.heap.size wy w2 := ⟨hb2'.os, hb2'.tape, hb2'.output, hb2'.size, hb2'.block⟩; have HB2 := Lib.hid hb2; have hs2 := hb2.size; have hbw2 := below_aft hbz hb2 hbz.size; have HO := Lib.hid ho; have hrr : w2.heap[w.heap.size + 3]? = some (.cells #[.int .i64 0, .int .i64 0, .slice none 0 0] 51 (0, 0)) := HRy.out.at_ hb2; have r0 := (cell_of_blk hrr 0).trans rfl; have r1 := (cell_of_blk hrr 1).trans rfl; have r2 := (cell_of_blk hrr 2).trans rfl; have f0 := frozen_of_row w2 (w.heap.size + 3) 0 _ 51 hrr; have f1 := frozen_of_row w2 (w.heap.size + 3) 1 _ 51 hrr; have f2 := frozen_of_row w2 (w.heap.size + 3) 2 _ 51 hrr; clear hrr; clear ho hb2' hb2))
  all_goals
    clear q0 q1 q2 q3 q4 q5 q6 q7 q8 q9 q10
    go_wp2_with fail
    refine bodyPost_ret (v := .tuple #[.agg #[.int .i64 (siR l d t p.kids[1]).ctor, .int .i64 (siR l d t p.kids[1]).n, .slice B (siR l d t p.kids[1]).kids.length c], .bool (okS l d t p.kids[1])]) (by simp [results, Tryz.results75, go_sem, r0, r1, r2]) rfl (SiQ.put HV1.out HK1.out HO.out (fun b h => ⟨by have h1 : wy.heap.size ≤ b := h.1; omega, h.2, by have h1 : wy.heap.size ≤ b := h.1; omega⟩) (by omega) (((Fr.set (P := fun b => b = w.heap.size + 3) _ _ _ _ rfl).trans (Fr.set _ _ _ _ rfl)).trans (Fr.set _ _ _ _ rfl)) ?_)
    refine Below.setCell (Below.setCell (Below.setCell hbw2 ?_ _) ?_ _) ?_ _ <;> (simp <;> omega)
set_option maxHeartbeats 8000000 in
theorem siI_4 (l : List Da) (d : Nat) (ih : SiC l d) (A D : Option Addr) (cap mb ep e : Nat) (t : Ty) (p : Pt) (w : World) (hr : RDas w w.heap.size A l) (hmp : MapTy w mb 400 (ldep l) (Inh l)) (ht : TyOK l t) (hs : shP l (d + 1) t p = true) (hv : RPs e w w.heap.size D p.kids) (hop : p.op = 4) :
    Calls Tryz.prog 75 #[.agg #[.slice A l.length cap, .map (some mb)], .agg #[.int .i64 t.data, .int .i64 t.index], .agg #[.int .i64 p.op, .int .i64 p.ctor, .int .i64 p.n, .int .i64 p.m, .int .i64 p.var, .slice D p.kids.length ep]] w (SiQ l (d + 1) t p w) := by
  have hl := hv.1
  unfold maxLen at hl
  have Hr := Lib.hid hr
  have HMP := Lib.hid hmp
  have HK := Lib.hid ht
  have HWO : Hid (WorldOK l) := ht.1
  have HV := Lib.hid hv
  have IH := Lib.hid ih
  have u1 : (p.op == 1) = false := ieq_f (by omega)
  have u2 : (p.op == 2) = false := ieq_f (by omega)
  have u3 : (p.op == 3) = false := ieq_f (by omega)
  have u4 := ieq_t hop
  have u5 : (p.op == 5) = false := ieq_f (by omega)
  have u6 : (p.op == 6) = false := ieq_f (by omega)
  obtain ⟨hmem, hkl0, hsh⟩ := ctor_partsP hs hop
  obtain ⟨KS, hKS⟩ : ∃ KS, kidsS l d (agR l t p.ctor) p.kids = KS := ⟨_, rfl⟩
  have HK1 := Lib.hid (okS_ctor (l := l) (d := d) (t := t) hop)
  have HV1 : Hid (svP l (d + 1) t p = .mk p.ctor 0 KS) := by unfold Hid; rw [← hKS]; exact svP_ctor hop
  have HKL2 : Hid (KS.length = (agR l t p.ctor).length) := by unfold Hid; rw [← hKS]; exact kidsS_len
  have HKA : Hid (∀ k (h : k < (agR l t p.ctor).length) (h' : k < p.kids.length) (h2 : k < KS.length), KS[k] = svP l d (agR l t p.ctor)[k] p.kids[k]) := fun k h h' h2 => by subst hKS; rw [kidsS_at h2, kidS_at h h']
  have HKO := Lib.hid (fun (i : Nat) (h : i < (agR l t p.ctor).length) (h' : i < p.kids.length) => kidO_at (l := l) (d := d) h h')
  have HC := Lib.hid hmem
  have HKL := Lib.hid hkl0
  have HAK : Hid (∀ j (h : j < (agR l t p.ctor).length) (h' : j < p.kids.length), TyOK l (agR l t p.ctor)[j] ∧ shP l d (agR l t p.ctor)[j] p.kids[j] = true) := fun j h h' => ⟨agR_ok hmem _ (List.getElem_mem h), hsh j h h'⟩
  have hm3 := agR_len l t p.ctor
  obtain ⟨i0, hi0, hz0, hz1, hz2⟩ := info_parts infoOV
  clear hmem hkl0 hsh hKS
  generalize hwx : (((w.alloc (.cells #[.slice A l.length cap, .map (some mb)] 110)).alloc (.cells #[.int .i64 t.data, .int .i64 t.index] 31)).alloc (.cells #[.int .i64 p.op, .int .i64 p.ctor, .int .i64 p.n, .int .i64 p.m, .int .i64 p.var, .slice D p.kids.length ep] 45)).alloc (.cells #[.int .i64 0, .int .i64 0, .slice none 0 0] 51) = wx
  have hbx : Below w.heap.size w wx := below_box4 hwx
  have hsx : wx.heap.size = w.heap.size + 4 := by rw [← hwx]; simp
  have HXS : Hid (SpB wx w.heap.size A l cap mb) := by rw [← hwx]; exact ⟨by simp [go_sem], by simp [go_sem]⟩
  have HXT : Hid (Bx wx (w.heap.size + 1) t) := by rw [← hwx]; exact ⟨by simp [go_sem], by simp [go_sem]⟩
  have HXP : Hid (PBx wx (w.heap.size + 2) p (.slice D p.kids.length ep)) := by rw [← hwx]; exact ⟨by simp [go_sem], by simp [go_sem], by simp [go_sem], by simp [go_sem], by simp [go_sem], by simp [go_sem]⟩
  have HXR : Hid (ZbV wx (w.heap.size + 3)) := by
    have h := ZbV.new (((w.alloc (.cells #[.slice A l.length cap, .map (some mb)] 110)).alloc (.cells #[.int .i64 t.data, .int .i64 t.index] 31)).alloc (.cells #[.int .i64 p.op, .int .i64 p.ctor, .int .i64 p.n, .int .i64 p.m, .int .i64 p.var, .slice D p.kids.length ep] 45))
    simp only [World.size_alloc] at h
    unfold Hid; rw [← hwx]; exact h
  have HW := Lib.hid hwx
  clear hr hmp ht hs hv ih hop hwx
  obtain ⟨s0, s1⟩ := HXS.out
  obtain ⟨x0, x1⟩ := HXT.out
  obtain ⟨y0, y1, y2, y3, y4, y5⟩ := HXP.out
  generalize hwl : wx.alloc (.cells #[.int .i64 p.ctor, .int .i64 0, .slice none 0 0] 51) = wl0
  have hbl : Below wx.heap.size wx wl0 := by rw [← hwl]; exact (Below.refl _ _).alloc (Nat.le_refl _) _
  have HG : Hid (wl0.heap[wx.heap.size]? = some (.cells #[.int .i64 p.ctor, .int .i64 0, .slice none 0 0] 51 (0, 0))) := by unfold Hid; rw [← hwl]; exact heap_alloc_new _ _
  have HWL := Lib.hid hwl
  have hb0 := below_aft hbx hbl hbx.size
  clear hwl
  go_enter Tryz.func75, Tryz.ntmps75
  go_wp2_with fail
  rw [HW.out]
  rw [HWL.out]
  rw [show w.heap.size + 1 + 1 + 1 + 1 = wx.heap.size by omega]
  refine (argTypes_all A l cap t p.ctor _ (Hr.out.at_ hb0) HC.out).mono ?_
  rintro e3 w4 ⟨v4, rfl, ho4, hb4⟩
  generalize agR l t p.ctor = ats at *
  have HA3' : Hid (∀ b o n c, v4 = .slice (some ⟨b, o, none⟩) n c → wl0.heap.size ≤ b ∧ b < w4.heap.size) := by
    obtain ⟨_, hro, _⟩ := ho4
    obtain ⟨_, _, _, hob⟩ := own_form hro
    exact fun b o n c e => hob b (by rw [e]; rfl)
  obtain ⟨A3, c3, rfl, hr4⟩ := ho4.form (by unfold maxLen; omega)
  have HR4 := Lib.hid hr4
  have HG4 : Hid (w4.heap[wx.heap.size]? = some (.cells #[.int .i64 p.ctor, .int .i64 0, .slice none 0 0] 51 (0, 0))) := (hb4.block _ (heap_lt HG.out)).trans HG.out
  have HXS4 := Lib.hid ((HXS.out.at_ hbl).at_ hb4)
  have HXP4 := Lib.hid ((HXP.out.at_ hbl).at_ hb4)
  have HXR4 : Hid (ZbV w4 (w.heap.size + 3)) := ZbV.at_ (ZbV.at_ HXR.out hbl) hb4
  have hbw4 := below_aft hb0 hb4 hb0.size
  have hsl := heap_lt HG.out
  have hs4 := hb4.size
  have HA3 : Hid (∀ b o, A3 = some ⟨b, o, none⟩ → wx.heap.size < b ∧ b < w4.heap.size) := fun b o e => by obtain ⟨h1, h2⟩ := HA3'.out b o _ _ (by rw [e]); exact ⟨by omega, h2⟩
  clear s0 s1 x0 x1 y0 y1 y2 y3 y4 y5 ho4 hr4 hb4 HA3'
  generalize hg : wx.heap.size = g at *
  have hgl1 : w.heap.size + 4 ≤ g := by omega
  have hgl2 : g ≤ w.heap.size + 4 := by omega
  clear hsx hg
  generalize w4 = wl at *
  go_wp2_with fail
  go_loopw [70] (fun i wr => ∃ k : Nat, k ≤ ats.length ∧ i = .int .i64 k ∧ Hid (upto (kidO l d ats p.kids) k = true) ∧ Hid (BldV (d + 10) wl wr g p.ctor 0 KS k)) (fun i _ => ats.length - (intOf i).toNat)
  case atStart => exact ⟨0, by omega, rfl, rfl, BldV.zero HG4.out⟩
  case round =>
    obtain ⟨k, hk, rfl, HU, HBd⟩ := hrel
    by_cases hlt : k < ats.length
    · have hkl : k < p.kids.length := by rw [HKL.out]; exact hlt
      have hkI : (k : Int) < (ats.length : Int) := by omega
      have hkI2 : (k : Int) < (p.kids.length : Int) := by omega
      have hf0 := HBd.out.2.1
      have hwr0 := hf0.size
      obtain ⟨b3, o3, rfl, hb3B, p0, p1⟩ := HR4.out.2 k hlt
      obtain ⟨hgb, hbl3⟩ := HA3.out b3 o3 rfl
      have hbe : wr.heap[b3]? = wl.heap[b3]? := hf0.2.2.2.2 b3 hb3B (by omega)
      have p0' := (World.cell?_of_block (a := ⟨b3, o3 + k * 2, none⟩) hbe).trans p0
      have p1' := (World.cell?_of_block (a := ⟨b3, o3 + k * 2 + 1, none⟩) hbe).trans p1
      generalize hwb : wr.alloc (.cells #[.int .i64 ats[k].data, .int .i64 ats[k].index] 31) = wb
      have hbb : Below wr.heap.size wr wb := by rw [← hwb]; exact (Below.refl _ _).alloc (Nat.le_refl _) _
      have HXB : Hid (Bx wb wr.heap.size ats[k]) := by rw [← hwb]; exact Bx.new _ _ _
      have HWB := Lib.hid hwb
      clear hwb
      have HBb : Hid (BldV (d + 10) wl wb g p.ctor 0 KS k) := HBd.out.below hbb
      have hfb := HBb.out.2.1
      have hwbs := hfb.size
      have hbwb : Below w.heap.size w wb := hbw4.trans (hfb.to (by have := hbw4.size; omega) (fun b h => by omega))
      obtain ⟨b, off, rfl, hbB, hvk⟩ := (HV.out.below hbwb (Nat.le_refl _)).2 k hkl
      obtain ⟨e', he', D', cp, c0, c1, c2, c3', c4', c5, hm⟩ := hvk.parts
      have hblk : ∀ q, q < wl.heap.size → q ≠ g → wb.heap[q]? = wl.heap[q]? := fun q h h' => hfb.2.2.2.2 q h h'
      have s0' := (World.cell?_of_block (a := ⟨w.heap.size, 0, none⟩) (hblk w.heap.size (by omega) (by omega))).trans HXS4.out.1
      have s1' := (World.cell?_of_block (a := ⟨w.heap.size, 1, none⟩) (hblk w.heap.size (by omega) (by omega))).trans HXS4.out.2
      have y5' := (World.cell?_of_block (a := ⟨w.heap.size + 2, 5, none⟩) (hblk (w.heap.size + 2) (by omega) (by omega))).trans HXP4.out.2.2.2.2.2
      have Hm : Hid (RPs e' wb wb.heap.size D' p.kids[k].kids) := hm.keep (fun _ _ => rfl) hbwb.size
      obtain ⟨t0, t1⟩ := HXB.out
      have HKP : Hid (∀ w2, Below wb.heap.size wb w2 → w2.cell? ⟨w.heap.size, 0, none⟩ = some (.slice A l.length cap) ∧ w2.cell? ⟨w.heap.size, 1, none⟩ = some (.map (some mb)) ∧ w2.cell? ⟨wr.heap.size, 0, none⟩ = some (.int .i64 ats[k].data) ∧ w2.cell? ⟨wr.heap.size, 1, none⟩ = some (.int .i64 ats[k].index) ∧ w2.cell? ⟨w.heap.size + 2, 5, none⟩ = some (.slice (some ⟨b, off, none⟩) p.kids.length ep) ∧ w2.cell? ⟨b, off + k * 6, none⟩ = some (.int .i64 p.kids[k].op) ∧ w2.cell? ⟨b, off + k * 6 + 1, none⟩ = some (.int .i64 p.kids[k].ctor) ∧ w2.cell? ⟨b, off + k * 6 + 2, none⟩ = some (.int .i64 p.kids[k].n) ∧ w2.cell? ⟨b, off + k * 6 + 3, none⟩ = some (.int .i64 p.kids[k].m) ∧ w2.cell? ⟨b, off + k * 6 + 4, none⟩ = some (.int .i64 p.kids[k].var) ∧ w2.cell? ⟨b, off + k * 6 + 5, none⟩ = some (.slice D' p.kids[k].kids.length cp)) := fun w2 h => ⟨(h.cell (p := ⟨w.heap.size, 0, none⟩) (Go.block_lt_of_cell s0')).trans s0', (h.cell (p := ⟨w.heap.size, 1, none⟩) (Go.block_lt_of_cell s1')).trans s1', (h.cell (p := ⟨wr.heap.size, 0, none⟩) (Go.block_lt_of_cell t0)).trans t0, (h.cell (p := ⟨wr.heap.size, 1, none⟩) (Go.block_lt_of_cell t1)).trans t1, (h.cell (p := ⟨w.heap.size + 2, 5, none⟩) (Go.block_lt_of_cell y5')).trans y5', (h.cell (p := ⟨b, off + k * 6, none⟩) (Go.block_lt_of_cell c0)).trans c0, (h.cell (p := ⟨b, off + k * 6 + 1, none⟩) (Go.block_lt_of_cell c1)).trans c1, (h.cell (p := ⟨b, off + k * 6 + 2, none⟩) (Go.block_lt_of_cell c2)).trans c2, (h.cell (p := ⟨b, off + k * 6 + 3, none⟩) (Go.block_lt_of_cell c3')).trans c3', (h.cell (p := ⟨b, off + k * 6 + 4, none⟩) (Go.block_lt_of_cell c4')).trans c4', (h.cell (p := ⟨b, off + k * 6 + 5, none⟩) (Go.block_lt_of_cell c5)).trans c5⟩
      obtain ⟨ha1, ha2⟩ := HAK.out k hlt hkl
      have HIH : Hid (∀ W, Below wb.heap.size wb W → Calls Tryz.prog 75 #[.agg #[.slice A l.length cap, .map (some mb)], .agg #[.int .i64 ats[k].data, .int .i64 ats[k].index], .agg #[.int .i64 p.kids[k].op, .int .i64 p.kids[k].ctor, .int .i64 p.kids[k].n, .int .i64 p.kids[k].m, .int .i64 p.kids[k].var, .slice D' p.kids[k].kids.length cp]] W (SiQ l d ats[k] p.kids[k] W)) := fun W h => IH.out A D' cap mb cp e' ats[k] p.kids[k] W ((Hr.out.at_ hbwb).at_ h) ((HMP.out.at_ hbwb).at_ h) ha1 ha2 (Hm.out.at_ h)
      have HBZ : Hid (Below wb.heap.size wb ((wb.alloc (.cells #[.int .i64 0, .int .i64 0, .slice none 0 0] 51)).drew)) := ((Below.refl _ wb).alloc (Nat.le_refl _) _).drew
      have HDZ : Hid (((wb.alloc (.cells #[.int .i64 0, .int .i64 0, .slice none 0 0] 51)).drew).heap.size = wb.heap.size + 1) := World.size_alloc _ _
      have hkk := HKO.out k hlt hkl
      have SQ := HKP.out wb.drew (Below.refl _ wb).drew
      have SQ1 := HKP.out ((wb.alloc (.cells #[.int .i64 0, .int .i64 0, .slice none 0 0] 51)).drew) HBZ.out
      generalize hbo : okS l d ats[k] p.kids[k] = bo at hkk HIH
      clear p0 p1 c0 c1 c2 c3' c4' c5 s0' s1' y5' hm hvk he' ha1 ha2 t0 t1 hbe hblk hf0
      go_upto_region 15 with fail
      rw [HWB.out]
      go_cut [11, 12] (fun s6 s7 wx => ∃ g' B c, s6 = .pointer (some ⟨g', 0, none⟩) ∧ s7 = .bool bo ∧ StV (d + 10) wb g' (siR l d ats[k] p.kids[k]) B c wx)
      case first =>
        go_region_held3 (fun w' => w'.cell? ⟨w.heap.size, 0, none⟩ = some (.slice A l.length cap) ∧ w'.cell? ⟨w.heap.size, 1, none⟩ = some (.map (some mb)) ∧ w'.cell? ⟨wr.heap.size, 0, none⟩ = some (.int .i64 ats[k].data) ∧ w'.cell? ⟨wr.heap.size, 1, none⟩ = some (.int .i64 ats[k].index) ∧ w'.cell? ⟨w.heap.size + 2, 5, none⟩ = some (.slice (some ⟨b, off, none⟩) p.kids.length ep) ∧ w'.cell? ⟨b, off + k * 6, none⟩ = some (.int .i64 p.kids[k].op) ∧ w'.cell? ⟨b, off + k * 6 + 1, none⟩ = some (.int .i64 p.kids[k].ctor) ∧ w'.cell? ⟨b, off + k * 6 + 2, none⟩ = some (.int .i64 p.kids[k].n) ∧ w'.cell? ⟨b, off + k * 6 + 3, none⟩ = some (.int .i64 p.kids[k].m) ∧ w'.cell? ⟨b, off + k * 6 + 4, none⟩ = some (.int .i64 p.kids[k].var) ∧ w'.cell? ⟨b, off + k * 6 + 5, none⟩ = some (.slice D' p.kids[k].kids.length cp)) (first | with_reducible exact SQ | with_reducible exact SQ1 | with_reducible exact (HKP.out _ (hbq.alloc hbq.size _)) | with_reducible exact (HKP.out _ (below_set3 hbq hgz _ _ _))) (first
          | (go_at_call 75; (with_reducible refine (HIH.out wb.drew (Below.refl _ wb).drew).mono ?_); rintro e2 w2 ⟨B0, c0, rfl, ho, hb'⟩; have hbq : Below wb.heap.size wb w2 := ⟨hb'.os, hb'.tape, hb'.output, hb'.size, hb'.block⟩; have SQ := HKP.out _ hbq; have O6 := Lib.hid ho; clear ho hb')
          | (go_at_call 75; (with_reducible refine (HIH.out ((wb.alloc (.cells #[.int .i64 0, .int .i64 0, .slice none 0 0] 51)).drew) HBZ.out).mono ?_); rintro e2 w2 ⟨B0, c0, rfl, ho, hb'⟩; have hbq : Below wb.heap.size wb w2 := HBZ.out.trans (hb'.mono (by simp)); have SQ := HKP.out _ hbq; have O6 := Lib.hid ho; have hzd : ZbV w2 wb.heap.size := ZbV.at_ (w := (wb.alloc (.cells #[.int .i64 0, .int .i64 0, .slice none 0 0] 51)).drew) (ZbV.new wb) hb'; have hgz : wb.heap.size ≤ wb.heap.size := Nat.le_refl _; obtain ⟨k0, k1, k2, k3, k4, k5⟩ := hzd.cells; clear ho hb'))
        all_goals
          go_wp2_with fail
          go_meet
          refine ⟨_, B0, c0, rfl, rfl, ?_⟩
          first
          | ((with_reducible refine StV.new hbq O6.out ?_); (intro b h; have h1 : wb.heap.size ≤ b := h.1; have h2 := h.2; exact ⟨h1, h2⟩))
          | ((unfold ZbV at hzd); (with_reducible refine StV.set hbq hzd hgz O6.out ?_); (intro b h; have h1 := h.1; have h2 := h.2; have h0 := HDZ.out; exact ⟨by omega, h2, by omega⟩))
      case rest =>
        clear SQ SQ1
        obtain ⟨g', B, c, rfl, rfl, hst⟩ := hcut
        generalize wc = wv at *
        have hbv := hst.2.1
        have HBv := Lib.hid hbv
        have hgl' : wb.heap.size ≤ g' := hst.1
        have hgv : g' < wv.heap.size := heap_lt hst.2.2.1
        have hbwv := below_aft hbwb hbv hbwb.size
        have hsv := hbv.size
        by_cases hb1 : bo = true
        · subst hb1
          have HSV : Hid ((siR l d ats[k] p.kids[k]) = KS[k]'(by rw [HKL2.out]; exact hlt)) := by unfold Hid; rw [HKA.out k hlt hkl]; exact siR_yes hbo
          have HUk : Hid (upto (kidO l d ats p.kids) (k + 1) = true) := upto_t HU hkk
          have hlk : k < KS.length := by rw [HKL2.out]; exact hlt
          generalize hsi : (siR l d ats[k] p.kids[k]) = sv at hst HSV
          have HS3 := Lib.hid HSV.out
          obtain ⟨e0, e1, e2⟩ := hst.cells
          have HO4 : Hid (OVs (d + 10) wv (Nw wb wv) B sv.kids) := hst.2.2.2.wide _ (fun b h => ⟨h.1, h.2.1⟩)
          have HO5 : Hid (OVs (d + 10) wv (Nw wb wv) B (KS[k]'hlk).kids) := by unfold Hid; rw [← HS3.out]; exact HO4.out
          obtain ⟨hgl, hf, Ak, ck, ys, Q, hgc, hown, hrow⟩ := HBb.out
          obtain ⟨_, _, _, hob⟩ := own_form hown
          have c2w : wb.cell? ⟨g, 2, none⟩ = some (.slice Ak k ck) := (cell_of_blk hgc 2).trans rfl
          have c2x := (hbv.cell (p := ⟨g, 2, none⟩) (Go.block_lt_of_cell c2w)).trans c2w
          have HGL := Lib.hid hgl
          have HFR := Lib.hid hf
          have HGC := Lib.hid hgc
          have HOW := Lib.hid hown
          have HRW := Lib.hid hrow
          have HKB : Hid (∀ (o : Obj), ∀ b, (Value.slice Ak k ck).ownBlock = some b → (wv.alloc o).heap[b]? = wb.heap[b]?) := fun o b e => by
            have := (hob b e).2
            rw [Below.heap_alloc _ _ _ (Nat.lt_of_lt_of_le this hbv.size), hbv.block b this]
          have HC1 := Lib.hid (cell_three_new wv (.int .i64 sv.ctor) (.int .i64 sv.n) (.slice B sv.kids.length c) 51)
          have HC2 : Hid (∀ u ∈ [Value.int .i64 sv.ctor, .int .i64 sv.n, .slice B sv.kids.length c], u.oneCell' = true) := by intro u hu; simp at hu; rcases hu with rfl | rfl | rfl <;> rfl
          have HC3 : Hid (k + 1 ≤ maxLen) := by unfold Hid maxLen; omega
          have HC4 : Hid ((k + 1) * 40 ≤ 140737488355328) := by unfold Hid; omega
          have HC5 : Hid (wl.heap.size ≤ (wv.alloc (.cells #[.int .i64 sv.ctor, .int .i64 sv.n, .slice B sv.kids.length c] 51)).heap.size) := by unfold Hid; simp; omega
          clear hst hgl hf hgc hown hrow hob c2w hbv hsi hbo
          go_wp2_with (at_builtin; refine wpList_append_own_at _ rfl _ _ 49 rfl wl.heap.size 51 i0 (.agg #[.int .i64 0, .int .i64 0, .slice none 0 0]) 3 40 Tryz.underlying49 hi0 hz0 hz1 hz2 rfl (by decide) _ _ _ rfl (own_at HOW.out (HKB.out _)) ⟨wv.heap.size, 0, none⟩ 1 1 [.int .i64 sv.ctor, .int .i64 sv.n, .slice B sv.kids.length c] rfl rfl HC1.out HC2.out HC3.out HC4.out HC5.out ?_)
          intro v4 w4 hown4 hgr4 hnn4 hat4
          obtain ⟨A5, c5, rfl, hg4, hbl4⟩ := BldV.step HGL.out HFR.out HGC.out HOW.out HRW.out hlk HBv.out HO5.out (by rw [← HS3.out]; exact hown4) hgr4 (by rw [World.size_alloc]; exact hat4)
          have c4x := (cell_of_blk hg4 2).trans rfl
          have hfz : w4.frozen? ⟨g, 2, none⟩ = false := frozen_of_row w4 g 2 _ 51 hg4
          have HBL := Lib.hid hbl4
          clear hown4 hgr4 hnn4 hat4 hg4 hbl4 e0 e1 e2 c2x
          go_wp2_with fail
          go_roundw
          case rel => exact ⟨k + 1, by omega, by go_num, HUk.out, HBL.out⟩
          case measure => simp [intOf]; omega
        · have hb0' : bo = false := by simpa using hb1
          subst hb0'
          have HK2 : Hid (okS l (d + 1) t p = false) := by unfold Hid; rw [HK1.out]; exact upto_f (f := kidO l d ats p.kids) hlt hkk
          have hr6 : wb.heap[w.heap.size + 3]? = some (.cells #[.int .i64 0, .int .i64 0, .slice none 0 0] 51 (0, 0)) := HBb.out.2.1.block HXR4.out (by omega)
          have hrr : wv.heap[w.heap.size + 3]? = some (.cells #[.int .i64 0, .int .i64 0, .slice none 0 0] 51 (0, 0)) := (HBv.out.block _ (heap_lt hr6)).trans hr6
          have r0 := (cell_of_blk hrr 0).trans rfl
          have r1 := (cell_of_blk hrr 1).trans rfl
          have r2 := (cell_of_blk hrr 2).trans rfl
          have f0 := frozen_of_row wv (w.heap.size + 3) 0 _ 51 hrr
          have f1 := frozen_of_row wv (w.heap.size + 3) 1 _ 51 hrr
          have f2 := frozen_of_row wv (w.heap.size + 3) 2 _ 51 hrr
          clear hrr
          clear hst hbv hb1 hr6
          go_wp2_with fail
          refine bodyPost_ret (v := .tuple #[.agg #[.int .i64 0, .int .i64 0, .slice none 0 0], .bool false]) (by simp [results, Tryz.results75, go_sem, r0, r1, r2]) rfl (SiQ.put (v := .mk 0 0 []) (n := 1) (P := fun _ => False) (siR_no HK2.out) HK2.out (OVs.nil 0 wv _ none) (fun _ h => h.elim) (by omega) (((Fr.set (P := fun b => b = w.heap.size + 3) _ _ _ _ rfl).trans (Fr.set _ _ _ _ rfl)).trans (Fr.set _ _ _ _ rfl)) ?_)
          refine Below.setCell (Below.setCell (Below.setCell hbwv ?_ _) ?_ _) ?_ _ <;> (simp <;> omega)
    · have hke : k = ats.length := by omega
      have HK2 : Hid (okS l (d + 1) t p = true) := by unfold Hid; rw [HK1.out, ← hke]; exact HU
      obtain ⟨A6, c6, hg6, ho6, hf6⟩ := HBd.out.all (by rw [HKL2.out]; exact hke) (by rw [HKL2.out]; omega)
      have hr6 : wr.heap[w.heap.size + 3]? = some (.cells #[.int .i64 0, .int .i64 0, .slice none 0 0] 51 (0, 0)) := hf6.block HXR4.out (by omega)
      have HO6 := Lib.hid ho6
      have g0 := (cell_of_blk hg6 0).trans rfl
      have g1 := (cell_of_blk hg6 1).trans rfl
      have g2 := (cell_of_blk hg6 2).trans rfl
      have hrr : wr.heap[w.heap.size + 3]? = some (.cells #[.int .i64 0, .int .i64 0, .slice none 0 0] 51 (0, 0)) := hr6
      have r0 := (cell_of_blk hrr 0).trans rfl
      have r1 := (cell_of_blk hrr 1).trans rfl
      have r2 := (cell_of_blk hrr 2).trans rfl
      have f0 := frozen_of_row wr (w.heap.size + 3) 0 _ 51 hrr
      have f1 := frozen_of_row wr (w.heap.size + 3) 1 _ 51 hrr
      have f2 := frozen_of_row wr (w.heap.size + 3) 2 _ 51 hrr
      clear hrr
      have hkI : (ats.length : Int) ≤ (k : Int) := by omega
      have hbwr : Below w.heap.size w wr := hbw4.trans (hf6.to (by have := hbw4.size; omega) (fun b h => by omega))
      clear hke hg6 ho6 hf6 hr6
      go_wp2_with fail
      refine bodyPost_ret (v := .tuple #[.agg #[.int .i64 p.ctor, .int .i64 0, .slice A6 KS.length c6], .bool true]) (by simp [results, Tryz.results75, go_sem, r0, r1, r2]) rfl (SiQ.put (v := .mk p.ctor 0 KS) ((siR_yes HK2.out).trans HV1.out) HK2.out HO6.out (fun b hq => ⟨by have := hq.1; omega, hq.2, by have := hq.1; omega⟩) (by omega) (((Fr.set (P := fun b => b = w.heap.size + 3) _ _ _ _ rfl).trans (Fr.set _ _ _ _ rfl)).trans (Fr.set _ _ _ _ rfl)) ?_)
      refine Below.setCell (Below.setCell (Below.setCell hbwr ?_ _) ?_ _) ?_ _ <;> (simp <;> omega)
theorem siI_any (l : List Da) : ∀ d, SiC l d
  | 0 => fun A D cap mb ep e t p w hr hm ht hs hv => by rw [shP_zero] at hs; cases hs
  | d + 1 => fun A D cap mb ep e t p w hr hm ht hs hv => by
    have ih := siI_any l d
    rcases own_ops (shP_parts hs).1 with h | h | h | h | h | h
    · exact siI_1 l d ih A D cap mb ep e t p w hr hm ht hs hv h
    · exact siI_2 l d ih A D cap mb ep e t p w hr hm ht hs hv h
    · exact siI_3 l d ih A D cap mb ep e t p w hr hm ht hs hv h
    · exact siI_4 l d ih A D cap mb ep e t p w hr hm ht hs hv h
    · by_cases hc : smP l d t (p.kids.getD 0 default) = true
      · exact siI_50 l d ih A D cap mb ep e t p w hr hm ht hs hv hc h
      · exact siI_51 l d ih A D cap mb ep e t p w hr hm ht hs hv (by simpa using hc) h
    · exact siI_6 l d ih A D cap mb ep e t p w hr hm ht hs hv h
end Go.Proofs.YthecfkdilbfimaaGreat
