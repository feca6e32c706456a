/-
  The sample of a pattern: the document's function. No statement is proved here.
-/
import Derived.Test.YthecfkdilbfimaaGreatK00
import Derived.Test.YthecfkdilbfimaaGreatH03
import Derived.Deep.RegionHeld3
import Derived.Lib.QuietBelow
namespace Go.Proofs.YthecfkdilbfimaaGreat
open Go.RowKit Go.Sort Go.Deep
set_option maxRecDepth 100000
set_option linter.unusedVariables false

theorem below_box3' {w w' : World} {o o' o'' : Obj} (h : ((w.alloc o).alloc o').alloc o'' = w') : Below w.heap.size w w' := by
  rw [← h]; exact (((Below.refl _ _).alloc (Nat.le_refl _) _).alloc (by simp) _).alloc (by simp <;> omega) _
/-- What is returned: the sample, in blocks of its own. -/
def SvQ (l : List Da) (d : Nat) (t : Ty) (p : Pt) (w : World) (e : Ending) (w' : World) : Prop := ∃ B c, e = .returned (.agg #[.int .i64 (svP l d t p).ctor, .int .i64 (svP l d t p).n, .slice B (svP l d t p).kids.length c]) ∧ OVs (d + 10) w' (Nw w w') B (svP l d t p).kids ∧ Below w.heap.size w w'
theorem SvQ.put {l : List Da} {d n r c : Nat} {t : Ty} {p : Pt} {w w1 w' : World} {v : Vl} {B : Option Addr} {P : Nat → Prop} (hv : svP l d t p = v) (ho : OVs n w1 P B v.kids) (hP : ∀ b, P b → w.heap.size ≤ b ∧ b < w1.heap.size ∧ b ≠ r) (hn : n ≤ d + 10) (hf : Fr (fun b => b = r) w1 w') (hb : Below w.heap.size w w') :
    SvQ l d t p w (.returned (.agg #[.int .i64 v.ctor, .int .i64 v.n, .slice B v.kids.length c])) w' := by
  subst hv
  exact ⟨B, c, rfl, ((ho.fr _ hf (fun b hq e => (hP b hq).2.2 e)).wide _ (fun b hq => ⟨(hP b hq).1, Nat.lt_of_lt_of_le (hP b hq).2.1 hf.size⟩)).more hn, hb⟩
def SvS (l : List Da) (d : Nat) : Prop := ∀ (A A2 D : Option Addr) (T : List Int) (cap cap2 ep e : Nat) (t : Ty) (p : Pt) (w : World), RDas w w.heap.size A l → RInts w A2 T → St l T (l.length * 4 + 1) 0 0 → TyOK l t → shP l d t p = true → smP l d t p = true → loP l d t p = true → RPs e w w.heap.size D p.kids →
  Calls Tryz.prog 72 #[.slice A l.length cap, .slice A2 (l.length * 4) cap2, .agg #[.int .i64 t.data, .int .i64 t.index], .agg #[.int .i64 p.op, .int .i64 p.ctor, .int .i64 p.n, .int .i64 p.m, .int .i64 p.var, .slice D p.kids.length ep]] w (SvQ l d t p w)
set_option maxHeartbeats 4000000 in
theorem svS_1 (l : List Da) (d : Nat) (ih : SvS l d) (A A2 D : Option Addr) (T : List Int) (cap cap2 ep e : Nat) (t : Ty) (p : Pt) (w : World) (hr : RDas w w.heap.size A l) (hT : RInts w A2 T) (hS : St l T (l.length * 4 + 1) 0 0) (ht : TyOK l t) (hs : shP l (d + 1) t p = true) (hm : smP l (d + 1) t p = true) (hlo : loP l (d + 1) t p = true) (hv : RPs e w w.heap.size D p.kids) (hop : p.op = 1) :
    Calls Tryz.prog 72 #[.slice A l.length cap, .slice A2 (l.length * 4) cap2, .agg #[.int .i64 t.data, .int .i64 t.index], .agg #[.int .i64 p.op, .int .i64 p.ctor, .int .i64 p.n, .int .i64 p.m, .int .i64 p.var, .slice D p.kids.length ep]] w (SvQ l (d + 1) t p w) := by
  have hl := hv.1
  unfold maxLen at hl
  have Hr := Lib.hid hr
  have HTT := Lib.hid hT
  have HS := Lib.hid hS
  have HK := Lib.hid ht
  have HWO : Hid (WorldOK l) := ht.1
  have HV := Lib.hid hv
  have IH := Lib.hid ih
  have u1 := ieq_t hop
  have u2 : (p.op == 2) = false := ieq_f (by omega)
  have u3 : (p.op == 3) = false := ieq_f (by omega)
  have u4 : (p.op == 4) = false := ieq_f (by omega)
  have u5 : (p.op == 5) = false := ieq_f (by omega)
  have u6 : (p.op == 6) = false := ieq_f (by omega)
  have HF := Lib.hid (svP_any (l := l) (d := d) (t := t) (p := p) (by omega))
  rw [smP_any (by omega)] at hm
  rw [loP_any (by omega)] at hlo
  have HI : Hid (Inh l t) := by
    by_cases hi : Inh l t
    · exact hi
    · rw [dec_f hi] at hm; cases hm
  have h10 := of_decide_eq_true hlo
  have H10 : Hid (ldep l t ≤ ((10 : Nat) : Int)) := h10
  clear h10
  have HLS := Lib.hid (lvS_any l ht.1 10)
  generalize hwx : ((w.alloc (.cells #[.int .i64 t.data, .int .i64 t.index] 31)).alloc (.cells #[.int .i64 p.op, .int .i64 p.ctor, .int .i64 p.n, .int .i64 p.m, .int .i64 p.var, .slice D p.kids.length ep] 45)).alloc (.cells #[.int .i64 0, .int .i64 0, .slice none 0 0] 51) = wx
  have hbx : Below w.heap.size w wx := below_box3' hwx
  have hsx : wx.heap.size = w.heap.size + 3 := by rw [← hwx]; simp
  have HXT : Hid (Bx wx w.heap.size t) := by rw [← hwx]; exact ⟨by simp [go_sem], by simp [go_sem]⟩
  have HXP : Hid (PBx wx (w.heap.size + 1) p (.slice D p.kids.length ep)) := by rw [← hwx]; exact ⟨by simp [go_sem], by simp [go_sem], by simp [go_sem], by simp [go_sem], by simp [go_sem], by simp [go_sem]⟩
  have HXR : Hid (ZbV wx (w.heap.size + 2)) := by
    have h := ZbV.new ((w.alloc (.cells #[.int .i64 t.data, .int .i64 t.index] 31)).alloc (.cells #[.int .i64 p.op, .int .i64 p.ctor, .int .i64 p.n, .int .i64 p.m, .int .i64 p.var, .slice D p.kids.length ep] 45))
    simp only [World.size_alloc] at h
    unfold Hid; rw [← hwx]; exact h
  have HW := Lib.hid hwx
  clear hr hT hS ht hs hm hlo hv ih hop hwx
  obtain ⟨x0, x1⟩ := HXT.out
  obtain ⟨y0, y1, y2, y3, y4, y5⟩ := HXP.out
  go_enter Tryz.func72, Tryz.ntmps72
  go_wp2_with fail
  rw [HW.out]
  refine (HLS.out A A2 T cap cap2 t _ (Hr.out.at_ hbx) (HTT.out.at_ hbx) HS.out HK.out HI.out H10.out).mono ?_
  rintro e1 w1 ⟨B, c, rfl, ho, hb1⟩
  have hbw1 := below_aft hbx hb1 hbx.size
  have HO := Lib.hid ho
  have hrr : w1.heap[w.heap.size + 2]? = some (.cells #[.int .i64 0, .int .i64 0, .slice none 0 0] 51 (0, 0)) := HXR.out.at_ hb1
  have r0 := (cell_of_blk hrr 0).trans rfl
  have r1 := (cell_of_blk hrr 1).trans rfl
  have r2 := (cell_of_blk hrr 2).trans rfl
  have f0 := frozen_of_row w1 (w.heap.size + 2) 0 _ 51 hrr
  have f1 := frozen_of_row w1 (w.heap.size + 2) 1 _ 51 hrr
  have f2 := frozen_of_row w1 (w.heap.size + 2) 2 _ 51 hrr
  clear hrr
  have hs1 := hb1.size
  clear x0 x1 y0 y1 y2 y3 y4 y5 ho hb1
  go_wp2_with fail
  refine bodyPost_ret (v := .agg #[.int .i64 (lvA l 10 t).ctor, .int .i64 (lvA l 10 t).n, .slice B (lvA l 10 t).kids.length c]) (by simp [results, Tryz.results72, go_sem, r0, r1, r2]) rfl (SvQ.put HF.out HO.out (fun b h => ⟨by have := h.1; omega, h.2, by have := h.1; omega⟩) (by omega) (((Fr.set (P := fun b => b = w.heap.size + 2) _ _ _ _ rfl).trans (Fr.set _ _ _ _ rfl)).trans (Fr.set _ _ _ _ rfl)) ?_)
  refine Below.setCell (Below.setCell (Below.setCell hbw1 ?_ _) ?_ _) ?_ _ <;> (simp <;> omega)
set_option maxHeartbeats 4000000 in
theorem svS_2 (l : List Da) (d : Nat) (ih : SvS l d) (A A2 D : Option Addr) (T : List Int) (cap cap2 ep e : Nat) (t : Ty) (p : Pt) (w : World) (hr : RDas w w.heap.size A l) (hT : RInts w A2 T) (hS : St l T (l.length * 4 + 1) 0 0) (ht : TyOK l t) (hs : shP l (d + 1) t p = true) (hm : smP l (d + 1) t p = true) (hlo : loP l (d + 1) t p = true) (hv : RPs e w w.heap.size D p.kids) (hop : p.op = 2) :
    Calls Tryz.prog 72 #[.slice A l.length cap, .slice A2 (l.length * 4) cap2, .agg #[.int .i64 t.data, .int .i64 t.index], .agg #[.int .i64 p.op, .int .i64 p.ctor, .int .i64 p.n, .int .i64 p.m, .int .i64 p.var, .slice D p.kids.length ep]] w (SvQ l (d + 1) t p w) := by
  have hl := hv.1
  unfold maxLen at hl
  have Hr := Lib.hid hr
  have HTT := Lib.hid hT
  have HS := Lib.hid hS
  have HK := Lib.hid ht
  have HWO : Hid (WorldOK l) := ht.1
  have HV := Lib.hid hv
  have IH := Lib.hid ih
  have u1 : (p.op == 1) = false := ieq_f (by omega)
  have u2 := ieq_t hop
  have u3 : (p.op == 3) = false := ieq_f (by omega)
  have u4 : (p.op == 4) = false := ieq_f (by omega)
  have u5 : (p.op == 5) = false := ieq_f (by omega)
  have u6 : (p.op == 6) = false := ieq_f (by omega)
  have HF := Lib.hid (svP_any (l := l) (d := d) (t := t) (p := p) (by omega))
  rw [smP_any (by omega)] at hm
  rw [loP_any (by omega)] at hlo
  have HI : Hid (Inh l t) := by
    by_cases hi : Inh l t
    · exact hi
    · rw [dec_f hi] at hm; cases hm
  have h10 := of_decide_eq_true hlo
  have H10 : Hid (ldep l t ≤ ((10 : Nat) : Int)) := h10
  clear h10
  have HLS := Lib.hid (lvS_any l ht.1 10)
  generalize hwx : ((w.alloc (.cells #[.int .i64 t.data, .int .i64 t.index] 31)).alloc (.cells #[.int .i64 p.op, .int .i64 p.ctor, .int .i64 p.n, .int .i64 p.m, .int .i64 p.var, .slice D p.kids.length ep] 45)).alloc (.cells #[.int .i64 0, .int .i64 0, .slice none 0 0] 51) = wx
  have hbx : Below w.heap.size w wx := below_box3' hwx
  have hsx : wx.heap.size = w.heap.size + 3 := by rw [← hwx]; simp
  have HXT : Hid (Bx wx w.heap.size t) := by rw [← hwx]; exact ⟨by simp [go_sem], by simp [go_sem]⟩
  have HXP : Hid (PBx wx (w.heap.size + 1) p (.slice D p.kids.length ep)) := by rw [← hwx]; exact ⟨by simp [go_sem], by simp [go_sem], by simp [go_sem], by simp [go_sem], by simp [go_sem], by simp [go_sem]⟩
  have HXR : Hid (ZbV wx (w.heap.size + 2)) := by
    have h := ZbV.new ((w.alloc (.cells #[.int .i64 t.data, .int .i64 t.index] 31)).alloc (.cells #[.int .i64 p.op, .int .i64 p.ctor, .int .i64 p.n, .int .i64 p.m, .int .i64 p.var, .slice D p.kids.length ep] 45))
    simp only [World.size_alloc] at h
    unfold Hid; rw [← hwx]; exact h
  have HW := Lib.hid hwx
  clear hr hT hS ht hs hm hlo hv ih hop hwx
  obtain ⟨x0, x1⟩ := HXT.out
  obtain ⟨y0, y1, y2, y3, y4, y5⟩ := HXP.out
  go_enter Tryz.func72, Tryz.ntmps72
  go_wp2_with fail
  rw [HW.out]
  refine (HLS.out A A2 T cap cap2 t _ (Hr.out.at_ hbx) (HTT.out.at_ hbx) HS.out HK.out HI.out H10.out).mono ?_
  rintro e1 w1 ⟨B, c, rfl, ho, hb1⟩
  have hbw1 := below_aft hbx hb1 hbx.size
  have HO := Lib.hid ho
  have hrr : w1.heap[w.heap.size + 2]? = some (.cells #[.int .i64 0, .int .i64 0, .slice none 0 0] 51 (0, 0)) := HXR.out.at_ hb1
  have r0 := (cell_of_blk hrr 0).trans rfl
  have r1 := (cell_of_blk hrr 1).trans rfl
  have r2 := (cell_of_blk hrr 2).trans rfl
  have f0 := frozen_of_row w1 (w.heap.size + 2) 0 _ 51 hrr
  have f1 := frozen_of_row w1 (w.heap.size + 2) 1 _ 51 hrr
  have f2 := frozen_of_row w1 (w.heap.size + 2) 2 _ 51 hrr
  clear hrr
  have hs1 := hb1.size
  clear x0 x1 y0 y1 y2 y3 y4 y5 ho hb1
  go_wp2_with fail
  refine bodyPost_ret (v := .agg #[.int .i64 (lvA l 10 t).ctor, .int .i64 (lvA l 10 t).n, .slice B (lvA l 10 t).kids.length c]) (by simp [results, Tryz.results72, go_sem, r0, r1, r2]) rfl (SvQ.put HF.out HO.out (fun b h => ⟨by have := h.1; omega, h.2, by have := h.1; omega⟩) (by omega) (((Fr.set (P := fun b => b = w.heap.size + 2) _ _ _ _ rfl).trans (Fr.set _ _ _ _ rfl)).trans (Fr.set _ _ _ _ rfl)) ?_)
  refine Below.setCell (Below.setCell (Below.setCell hbw1 ?_ _) ?_ _) ?_ _ <;> (simp <;> omega)
set_option maxHeartbeats 4000000 in
theorem svS_3 (l : List Da) (d : Nat) (ih : SvS l d) (A A2 D : Option Addr) (T : List Int) (cap cap2 ep e : Nat) (t : Ty) (p : Pt) (w : World) (hr : RDas w w.heap.size A l) (hT : RInts w A2 T) (hS : St l T (l.length * 4 + 1) 0 0) (ht : TyOK l t) (hs : shP l (d + 1) t p = true) (hm : smP l (d + 1) t p = true) (hlo : loP l (d + 1) t p = true) (hv : RPs e w w.heap.size D p.kids) (hop : p.op = 3) :
    Calls Tryz.prog 72 #[.slice A l.length cap, .slice A2 (l.length * 4) cap2, .agg #[.int .i64 t.data, .int .i64 t.index], .agg #[.int .i64 p.op, .int .i64 p.ctor, .int .i64 p.n, .int .i64 p.m, .int .i64 p.var, .slice D p.kids.length ep]] w (SvQ l (d + 1) t p w) := by
  have hl := hv.1
  unfold maxLen at hl
  have Hr := Lib.hid hr
  have HTT := Lib.hid hT
  have HS := Lib.hid hS
  have HK := Lib.hid ht
  have HWO : Hid (WorldOK l) := ht.1
  have HV := Lib.hid hv
  have IH := Lib.hid ih
  have u1 : (p.op == 1) = false := ieq_f (by omega)
  have u2 : (p.op == 2) = false := ieq_f (by omega)
  have u3 := ieq_t hop
  have u4 : (p.op == 4) = false := ieq_f (by omega)
  have u5 : (p.op == 5) = false := ieq_f (by omega)
  have u6 : (p.op == 6) = false := ieq_f (by omega)
  have HF2 : Hid (∀ w', Below w.heap.size w w' → SvQ l (d + 1) t p w (.returned (.agg #[.int .i64 (-1), .int .i64 p.n, .slice none 0 0])) w') := fun w' hb => by
    unfold SvQ
    rw [svP_int hop]
    exact ⟨none, 0, rfl, OVs.nil _ _ _ _, hb⟩
  clear hr hT hS ht hs hm hlo hv ih hop
  go_enter Tryz.func72, Tryz.ntmps72
  go_wp2_with fail
  refine bodyPost_ret (v := .agg #[.int .i64 (-1), .int .i64 p.n, .slice none 0 0]) (by simp [results, Tryz.results72, go_sem]) rfl (HF2.out _ ?_)
  repeat (refine Below.setCell ?_ (by simp <;> omega) _)
  exact below_box3' rfl
set_option maxHeartbeats 4000000 in
theorem svS_6 (l : List Da) (d : Nat) (ih : SvS l d) (A A2 D : Option Addr) (T : List Int) (cap cap2 ep e : Nat) (t : Ty) (p : Pt) (w : World) (hr : RDas w w.heap.size A l) (hT : RInts w A2 T) (hS : St l T (l.length * 4 + 1) 0 0) (ht : TyOK l t) (hs : shP l (d + 1) t p = true) (hm : smP l (d + 1) t p = true) (hlo : loP l (d + 1) t p = true) (hv : RPs e w w.heap.size D p.kids) (hop : p.op = 6) :
    Calls Tryz.prog 72 #[.slice A l.length cap, .slice A2 (l.length * 4) cap2, .agg #[.int .i64 t.data, .int .i64 t.index], .agg #[.int .i64 p.op, .int .i64 p.ctor, .int .i64 p.n, .int .i64 p.m, .int .i64 p.var, .slice D p.kids.length ep]] w (SvQ l (d + 1) t p w) := by
  have hl := hv.1
  unfold maxLen at hl
  have Hr := Lib.hid hr
  have HTT := Lib.hid hT
  have HS := Lib.hid hS
  have HK := Lib.hid ht
  have HWO : Hid (WorldOK l) := ht.1
  have HV := Lib.hid hv
  have IH := Lib.hid ih
  have u1 : (p.op == 1) = false := ieq_f (by omega)
  have u2 : (p.op == 2) = false := ieq_f (by omega)
  have u3 : (p.op == 3) = false := ieq_f (by omega)
  have u4 : (p.op == 4) = false := ieq_f (by omega)
  have u5 : (p.op == 5) = false := ieq_f (by omega)
  have u6 := ieq_t hop
  obtain ⟨hk1, hs0⟩ := as_partsP hs hop
  have h0k : 0 < p.kids.length := by omega
  have htp : tysP l t p = [t] := by rw [tysP_other (by omega), hop]; rfl
  rw [loP_go (by omega), htp] at hlo
  have l0 := upto_get (k := 0) hlo (by simp)
  rw [kidW_at (by simp) h0k] at l0
  rw [smP_as hop h0k] at hm
  have HF := Lib.hid (svP_as (l := l) (d := d) (t := t) hop h0k)
  have HSM := Lib.hid hm
  have HLO : Hid (loP l d t p.kids[0] = true) := l0
  have HS0 := Lib.hid (hs0 h0k)
  have hi0 : (0 : Int) < (p.kids.length : Int) := by omega
  clear hk1 hs0 htp l0
  generalize hwx : ((w.alloc (.cells #[.int .i64 t.data, .int .i64 t.index] 31)).alloc (.cells #[.int .i64 p.op, .int .i64 p.ctor, .int .i64 p.n, .int .i64 p.m, .int .i64 p.var, .slice D p.kids.length ep] 45)).alloc (.cells #[.int .i64 0, .int .i64 0, .slice none 0 0] 51) = wx
  have hbx : Below w.heap.size w wx := below_box3' hwx
  have hsx : wx.heap.size = w.heap.size + 3 := by rw [← hwx]; simp
  have HXT : Hid (Bx wx w.heap.size t) := by rw [← hwx]; exact ⟨by simp [go_sem], by simp [go_sem]⟩
  have HXP : Hid (PBx wx (w.heap.size + 1) p (.slice D p.kids.length ep)) := by rw [← hwx]; exact ⟨by simp [go_sem], by simp [go_sem], by simp [go_sem], by simp [go_sem], by simp [go_sem], by simp [go_sem]⟩
  have HXR : Hid (ZbV wx (w.heap.size + 2)) := by
    have h := ZbV.new ((w.alloc (.cells #[.int .i64 t.data, .int .i64 t.index] 31)).alloc (.cells #[.int .i64 p.op, .int .i64 p.ctor, .int .i64 p.n, .int .i64 p.m, .int .i64 p.var, .slice D p.kids.length ep] 45))
    simp only [World.size_alloc] at h
    unfold Hid; rw [← hwx]; exact h
  have HW := Lib.hid hwx
  clear hr hT hS ht hs hm hlo hv ih hop hwx
  obtain ⟨x0, x1⟩ := HXT.out
  obtain ⟨y0, y1, y2, y3, y4, y5⟩ := HXP.out
  clear x0 x1 y0 y1 y2 y3 y4 y5
  obtain ⟨b, off, rfl, hbB, hvk⟩ := (HV.out.below hbx (Nat.le_refl _)).2 0 h0k
  rw [show off + 0 * 6 = off by omega] at hvk
  obtain ⟨e4, he4, D4, cp4, c0, c1, c2, c3, c4, c5, hm4⟩ := hvk.parts
  have Hm : Hid (RPs e4 wx.drew wx.drew.heap.size D4 p.kids[0].kids) := hm4.keep (fun _ _ => rfl) hbx.size
  obtain ⟨x0, x1⟩ := HXT.out
  obtain ⟨y0, y1, y2, y3, y4, y5⟩ := HXP.out
  have HKS : Hid (∀ w', Below wx.heap.size wx w' → w'.cell? ⟨w.heap.size, 0, none⟩ = some (.int .i64 t.data) ∧ w'.cell? ⟨w.heap.size, 1, none⟩ = some (.int .i64 t.index) ∧ w'.cell? ⟨w.heap.size + 1, 5, none⟩ = some (.slice (some ⟨b, off, none⟩) p.kids.length ep) ∧ w'.cell? ⟨b, off, none⟩ = some (.int .i64 p.kids[0].op) ∧ w'.cell? ⟨b, off + 1, none⟩ = some (.int .i64 p.kids[0].ctor) ∧ w'.cell? ⟨b, off + 2, none⟩ = some (.int .i64 p.kids[0].n) ∧ w'.cell? ⟨b, off + 3, none⟩ = some (.int .i64 p.kids[0].m) ∧ w'.cell? ⟨b, off + 4, none⟩ = some (.int .i64 p.kids[0].var) ∧ w'.cell? ⟨b, off + 5, none⟩ = some (.slice D4 p.kids[0].kids.length cp4)) := fun w' hW => ⟨(hW.cell (p := ⟨w.heap.size, 0, none⟩) (Go.block_lt_of_cell x0)).trans x0, (hW.cell (p := ⟨w.heap.size, 1, none⟩) (Go.block_lt_of_cell x1)).trans x1, (hW.cell (p := ⟨w.heap.size + 1, 5, none⟩) (Go.block_lt_of_cell y5)).trans y5, (hW.cell (p := ⟨b, off, none⟩) (Go.block_lt_of_cell c0)).trans c0, (hW.cell (p := ⟨b, off + 1, none⟩) (Go.block_lt_of_cell c1)).trans c1, (hW.cell (p := ⟨b, off + 2, none⟩) (Go.block_lt_of_cell c2)).trans c2, (hW.cell (p := ⟨b, off + 3, none⟩) (Go.block_lt_of_cell c3)).trans c3, (hW.cell (p := ⟨b, off + 4, none⟩) (Go.block_lt_of_cell c4)).trans c4, (hW.cell (p := ⟨b, off + 5, none⟩) (Go.block_lt_of_cell c5)).trans c5⟩
  clear c0 c1 c2 c3 c4 c5 hm4 hvk he4
  go_enter Tryz.func72, Tryz.ntmps72
  go_wp2_with fail
  rw [HW.out]
  clear x0 x1 y0 y1 y2 y3 y4 y5
  have HKT : Hid (∀ w', Below wx.heap.size wx w' → ∀ a' b' c' : Value, (((w'.setCell ⟨w.heap.size + 1 + 1, 0, none⟩ a').setCell ⟨w.heap.size + 1 + 1, 1, none⟩ b').setCell ⟨w.heap.size + 1 + 1, 2, none⟩ c').cell? ⟨w.heap.size, 0, none⟩ = some (.int .i64 t.data) ∧ (((w'.setCell ⟨w.heap.size + 1 + 1, 0, none⟩ a').setCell ⟨w.heap.size + 1 + 1, 1, none⟩ b').setCell ⟨w.heap.size + 1 + 1, 2, none⟩ c').cell? ⟨w.heap.size, 1, none⟩ = some (.int .i64 t.index) ∧ (((w'.setCell ⟨w.heap.size + 1 + 1, 0, none⟩ a').setCell ⟨w.heap.size + 1 + 1, 1, none⟩ b').setCell ⟨w.heap.size + 1 + 1, 2, none⟩ c').cell? ⟨w.heap.size + 1, 5, none⟩ = some (.slice (some ⟨b, off, none⟩) p.kids.length ep) ∧ (((w'.setCell ⟨w.heap.size + 1 + 1, 0, none⟩ a').setCell ⟨w.heap.size + 1 + 1, 1, none⟩ b').setCell ⟨w.heap.size + 1 + 1, 2, none⟩ c').cell? ⟨b, off, none⟩ = some (.int .i64 p.kids[0].op) ∧ (((w'.setCell ⟨w.heap.size + 1 + 1, 0, none⟩ a').setCell ⟨w.heap.size + 1 + 1, 1, none⟩ b').setCell ⟨w.heap.size + 1 + 1, 2, none⟩ c').cell? ⟨b, off + 1, none⟩ = some (.int .i64 p.kids[0].ctor) ∧ (((w'.setCell ⟨w.heap.size + 1 + 1, 0, none⟩ a').setCell ⟨w.heap.size + 1 + 1, 1, none⟩ b').setCell ⟨w.heap.size + 1 + 1, 2, none⟩ c').cell? ⟨b, off + 2, none⟩ = some (.int .i64 p.kids[0].n) ∧ (((w'.setCell ⟨w.heap.size + 1 + 1, 0, none⟩ a').setCell ⟨w.heap.size + 1 + 1, 1, none⟩ b').setCell ⟨w.heap.size + 1 + 1, 2, none⟩ c').cell? ⟨b, off + 3, none⟩ = some (.int .i64 p.kids[0].m) ∧ (((w'.setCell ⟨w.heap.size + 1 + 1, 0, none⟩ a').setCell ⟨w.heap.size + 1 + 1, 1, none⟩ b').setCell ⟨w.heap.size + 1 + 1, 2, none⟩ c').cell? ⟨b, off + 4, none⟩ = some (.int .i64 p.kids[0].var) ∧ (((w'.setCell ⟨w.heap.size + 1 + 1, 0, none⟩ a').setCell ⟨w.heap.size + 1 + 1, 1, none⟩ b').setCell ⟨w.heap.size + 1 + 1, 2, none⟩ c').cell? ⟨b, off + 5, none⟩ = some (.slice D4 p.kids[0].kids.length cp4)) := fun w' hW a' b' c' => by
    have hF : Fr (fun q => q = w.heap.size + 2) w' (((w'.setCell ⟨w.heap.size + 1 + 1, 0, none⟩ a').setCell ⟨w.heap.size + 1 + 1, 1, none⟩ b').setCell ⟨w.heap.size + 1 + 1, 2, none⟩ c') := ((Fr.set (P := fun q => q = w.heap.size + 2) _ _ _ _ rfl).trans (Fr.set _ _ _ _ rfl)).trans (Fr.set _ _ _ _ rfl)
    have hz := hW.size
    obtain ⟨z0, z1, z2, z3, z4, z5, z6, z7, z8⟩ := HKS.out w' hW
    have k_s := hF.2.2.2.2 (w.heap.size) (by omega) (by omega)
    have k_s1 := hF.2.2.2.2 (w.heap.size + 1) (by omega) (by omega)
    have k_b := hF.2.2.2.2 (b) (by omega) (by omega)
    exact ⟨(World.cell?_of_block (a := ⟨w.heap.size, 0, none⟩) k_s).trans z0, (World.cell?_of_block (a := ⟨w.heap.size, 1, none⟩) k_s).trans z1, (World.cell?_of_block (a := ⟨w.heap.size + 1, 5, none⟩) k_s1).trans z2, (World.cell?_of_block (a := ⟨b, off, none⟩) k_b).trans z3, (World.cell?_of_block (a := ⟨b, off + 1, none⟩) k_b).trans z4, (World.cell?_of_block (a := ⟨b, off + 2, none⟩) k_b).trans z5, (World.cell?_of_block (a := ⟨b, off + 3, none⟩) k_b).trans z6, (World.cell?_of_block (a := ⟨b, off + 4, none⟩) k_b).trans z7, (World.cell?_of_block (a := ⟨b, off + 5, none⟩) k_b).trans z8⟩
  obtain ⟨q0, q1, q2, q3, q4, q5, q6, q7, q8⟩ := HKS.out wx.drew (Below.refl _ wx).drew
  go_region_held3 (fun w' => w'.cell? ⟨w.heap.size, 0, none⟩ = some (.int .i64 t.data) ∧ w'.cell? ⟨w.heap.size, 1, none⟩ = some (.int .i64 t.index) ∧ w'.cell? ⟨w.heap.size + 1, 5, none⟩ = some (.slice (some ⟨b, off, none⟩) p.kids.length ep) ∧ w'.cell? ⟨b, off, none⟩ = some (.int .i64 p.kids[0].op) ∧ w'.cell? ⟨b, off + 1, none⟩ = some (.int .i64 p.kids[0].ctor) ∧ w'.cell? ⟨b, off + 2, none⟩ = some (.int .i64 p.kids[0].n) ∧ w'.cell? ⟨b, off + 3, none⟩ = some (.int .i64 p.kids[0].m) ∧ w'.cell? ⟨b, off + 4, none⟩ = some (.int .i64 p.kids[0].var) ∧ w'.cell? ⟨b, off + 5, none⟩ = some (.slice D4 p.kids[0].kids.length cp4)) (first | exact ⟨q0, q1, q2, q3, q4, q5, q6, q7, q8⟩ | exact HKS.out w2 HB2.out | exact HKT.out w2 HB2.out _ _ _ | go_keep) (first | (go_at_call 72; refine (IH.out A A2 D4 T cap cap2 cp4 e4 t p.kids[0] wx.drew (by exact Hr.out.at_ hbx.drew) (by exact HTT.out.at_ hbx.drew) HS.out HK.out HS0.out HSM.out HLO.out (by exact Hm.out)).mono ?_; rintro e2 w2 ⟨B, c, rfl, ho, hb2'⟩; have hb2 : Below wx.heap.size wx w2 := ⟨hb2'.os, hb2'.tape, hb2'.output, hb2'.size, hb2'.block⟩; have HB2 := Lib.hid hb2; have hs2 := hb2.size; have hbw2 := below_aft hbx hb2 hbx.size; have HO := Lib.hid ho; have hrr : w2.heap[w.heap.size + 2]? = some (.cells #[.int .i64 0, .int .i64 0, .slice none 0 0] 51 (0, 0)) := HXR.out.at_ hb2; have r0 := (cell_of_blk hrr 0).trans rfl; have r1 := (cell_of_blk hrr 1).trans rfl; have r2 := (cell_of_blk hrr 2).trans rfl; have f0 := frozen_of_row w2 (w.heap.size + 2) 0 _ 51 hrr; have f1 := frozen_of_row w2 (w.heap.size + 2) 1 _ 51 hrr; have f2 := frozen_of_row w2 (w.heap.size + 2) 2 _ 51 hrr; clear hrr ho hb2' hb2))
  all_goals
    clear q0 q1 q2 q3 q4 q5 q6 q7 q8
    go_wp2_with fail
    refine bodyPost_ret (v := .agg #[.int .i64 (svP l d t p.kids[0]).ctor, .int .i64 (svP l d t p.kids[0]).n, .slice B (svP l d t p.kids[0]).kids.length c]) (by simp [results, Tryz.results72, go_sem, r0, r1, r2]) rfl (SvQ.put HF.out HO.out (fun b h => ⟨by have h1 : wx.heap.size ≤ b := h.1; omega, h.2, by have h1 : wx.heap.size ≤ b := h.1; omega⟩) (by omega) (((Fr.set (P := fun b => b = w.heap.size + 2) _ _ _ _ rfl).trans (Fr.set _ _ _ _ rfl)).trans (Fr.set _ _ _ _ rfl)) ?_)
    refine Below.setCell (Below.setCell (Below.setCell hbw2 ?_ _) ?_ _) ?_ _ <;> (simp <;> omega)
set_option maxHeartbeats 4000000 in
theorem svS_50 (l : List Da) (d : Nat) (ih : SvS l d) (A A2 D : Option Addr) (T : List Int) (cap cap2 ep e : Nat) (t : Ty) (p : Pt) (w : World) (hr : RDas w w.heap.size A l) (hT : RInts w A2 T) (hS : St l T (l.length * 4 + 1) 0 0) (ht : TyOK l t) (hs : shP l (d + 1) t p = true) (hm : smP l (d + 1) t p = true) (hlo : loP l (d + 1) t p = true) (hv : RPs e w w.heap.size D p.kids) (hc : smP l d t (p.kids.getD 0 default) = true) (hop : p.op = 5) :
    Calls Tryz.prog 72 #[.slice A l.length cap, .slice A2 (l.length * 4) cap2, .agg #[.int .i64 t.data, .int .i64 t.index], .agg #[.int .i64 p.op, .int .i64 p.ctor, .int .i64 p.n, .int .i64 p.m, .int .i64 p.var, .slice D p.kids.length ep]] w (SvQ l (d + 1) t p w) := by
  have hl := hv.1
  unfold maxLen at hl
  have Hr := Lib.hid hr
  have HTT := Lib.hid hT
  have HS := Lib.hid hS
  have HK := Lib.hid ht
  have HWO : Hid (WorldOK l) := ht.1
  have HV := Lib.hid hv
  have IH := Lib.hid ih
  have u1 : (p.op == 1) = false := ieq_f (by omega)
  have u2 : (p.op == 2) = false := ieq_f (by omega)
  have u3 : (p.op == 3) = false := ieq_f (by omega)
  have u4 : (p.op == 4) = false := ieq_f (by omega)
  have u5 := ieq_t hop
  have u6 : (p.op == 6) = false := ieq_f (by omega)
  obtain ⟨hk2, hs0, hs1⟩ := or_partsP hs hop
  have h0k : 0 < p.kids.length := by omega
  have h1k : 1 < p.kids.length := by omega
  have htp : tysP l t p = [t, t] := by rw [tysP_other (by omega), hop]; rfl
  rw [loP_go (by omega), htp] at hlo
  have l0 := upto_get (k := 0) hlo (by simp)
  have l1 := upto_get (k := 1) hlo (by simp)
  rw [kidW_at (by simp) h0k] at l0
  rw [kidW_at (by simp) h1k] at l1
  rw [smP_or hop h0k h1k] at hm
  have HLO : Hid (loP l d t p.kids[0] = true) := l0
  have HLO1 : Hid (loP l d t p.kids[1] = true) := l1
  have HS0 := Lib.hid (hs0 h0k)
  have HS1 := Lib.hid (hs1 h1k)
  have hi0 : (0 : Int) < (p.kids.length : Int) := by omega
  have hi1 : (1 : Int) < (p.kids.length : Int) := by omega
  have HSO := Lib.hid (smS_any l d)
  clear hk2 hs0 hs1 htp l0 l1
  rw [getD_kid h0k] at hc
  have HC := Lib.hid hc
  have HF := Lib.hid (svP_or0 (l := l) (d := d) (t := t) hop h0k hc)
  clear hc
  generalize hwx : ((w.alloc (.cells #[.int .i64 t.data, .int .i64 t.index] 31)).alloc (.cells #[.int .i64 p.op, .int .i64 p.ctor, .int .i64 p.n, .int .i64 p.m, .int .i64 p.var, .slice D p.kids.length ep] 45)).alloc (.cells #[.int .i64 0, .int .i64 0, .slice none 0 0] 51) = wx
  have hbx : Below w.heap.size w wx := below_box3' hwx
  have hsx : wx.heap.size = w.heap.size + 3 := by rw [← hwx]; simp
  have HXT : Hid (Bx wx w.heap.size t) := by rw [← hwx]; exact ⟨by simp [go_sem], by simp [go_sem]⟩
  have HXP : Hid (PBx wx (w.heap.size + 1) p (.slice D p.kids.length ep)) := by rw [← hwx]; exact ⟨by simp [go_sem], by simp [go_sem], by simp [go_sem], by simp [go_sem], by simp [go_sem], by simp [go_sem]⟩
  have HXR : Hid (ZbV wx (w.heap.size + 2)) := by
    have h := ZbV.new ((w.alloc (.cells #[.int .i64 t.data, .int .i64 t.index] 31)).alloc (.cells #[.int .i64 p.op, .int .i64 p.ctor, .int .i64 p.n, .int .i64 p.m, .int .i64 p.var, .slice D p.kids.length ep] 45))
    simp only [World.size_alloc] at h
    unfold Hid; rw [← hwx]; exact h
  have HW := Lib.hid hwx
  clear hr hT hS ht hs hm hlo hv ih hop hwx
  obtain ⟨x0, x1⟩ := HXT.out
  obtain ⟨y0, y1, y2, y3, y4, y5⟩ := HXP.out
  clear x0 x1 y0 y1 y2 y3 y4 y5
  obtain ⟨b, off, rfl, hbB, hvk⟩ := (HV.out.below hbx (Nat.le_refl _)).2 0 h0k
  obtain ⟨b2, off2, e2, hbB2, hvk2⟩ := (HV.out.below hbx (Nat.le_refl _)).2 1 h1k
  cases e2
  rw [show off + 0 * 6 = off by omega] at hvk
  rw [show off + 1 * 6 = off + 6 by omega] at hvk2
  obtain ⟨e4, he4, D4, cp4, c0, c1, c2, c3, c4, c5, hm4⟩ := hvk.parts
  obtain ⟨e5, he5, D5, cp5, d0, d1, d2, d3, d4, d5, hm5⟩ := hvk2.parts
  have Hm : Hid (RPs e4 wx wx.heap.size D4 p.kids[0].kids) := hm4.keep (fun _ _ => rfl) hbx.size
  have Hm' : Hid (RPs e5 wx wx.heap.size D5 p.kids[1].kids) := hm5.keep (fun _ _ => rfl) hbx.size
  obtain ⟨x0, x1⟩ := HXT.out
  obtain ⟨y0, y1, y2, y3, y4, y5⟩ := HXP.out
  have g0 := cell_regrown x0
  have g1 := cell_regrown x1
  have g2 := cell_regrown c0
  have g3 := cell_regrown c1
  have g4 := cell_regrown c2
  have g5 := cell_regrown c3
  have g6 := cell_regrown c4
  have g7 := cell_regrown c5
  have g8 := cell_regrown y5
  have HKS0 : Hid (∀ w', Below wx.heap.size wx w' → w'.cell? ⟨w.heap.size, 0, none⟩ = some (.int .i64 t.data) ∧ w'.cell? ⟨w.heap.size, 1, none⟩ = some (.int .i64 t.index) ∧ w'.cell? ⟨w.heap.size + 1, 5, none⟩ = some (.slice (some ⟨b, off, none⟩) p.kids.length ep) ∧ w'.cell? ⟨b, off, none⟩ = some (.int .i64 p.kids[0].op) ∧ w'.cell? ⟨b, off + 1, none⟩ = some (.int .i64 p.kids[0].ctor) ∧ w'.cell? ⟨b, off + 2, none⟩ = some (.int .i64 p.kids[0].n) ∧ w'.cell? ⟨b, off + 3, none⟩ = some (.int .i64 p.kids[0].m) ∧ w'.cell? ⟨b, off + 4, none⟩ = some (.int .i64 p.kids[0].var) ∧ w'.cell? ⟨b, off + 5, none⟩ = some (.slice D4 p.kids[0].kids.length cp4)) := fun w' hW => ⟨(hW.cell (p := ⟨w.heap.size, 0, none⟩) (Go.block_lt_of_cell x0)).trans x0, (hW.cell (p := ⟨w.heap.size, 1, none⟩) (Go.block_lt_of_cell x1)).trans x1, (hW.cell (p := ⟨w.heap.size + 1, 5, none⟩) (Go.block_lt_of_cell y5)).trans y5, (hW.cell (p := ⟨b, off, none⟩) (Go.block_lt_of_cell c0)).trans c0, (hW.cell (p := ⟨b, off + 1, none⟩) (Go.block_lt_of_cell c1)).trans c1, (hW.cell (p := ⟨b, off + 2, none⟩) (Go.block_lt_of_cell c2)).trans c2, (hW.cell (p := ⟨b, off + 3, none⟩) (Go.block_lt_of_cell c3)).trans c3, (hW.cell (p := ⟨b, off + 4, none⟩) (Go.block_lt_of_cell c4)).trans c4, (hW.cell (p := ⟨b, off + 5, none⟩) (Go.block_lt_of_cell c5)).trans c5⟩
  clear c0 c1 c2 c3 c4 c5 d0 d1 d2 d3 d4 d5 hm4 hm5 hvk hvk2 he4 he5
  go_enter Tryz.func72, Tryz.ntmps72
  go_wp2_with fail
  rw [HW.out]
  refine wp_region_quiet_below (by kernel_rfl) (by kernel_rfl) ?_
  repeat (quiet_step (exact Calls.regrown_of (HSO.out.known _ _ _ _ _ _ _ _ _ _ _ _ HC.out ((Hr.out.at_ hbx).at_ (below_regrown wx _ _)) ((HTT.out.at_ hbx).at_ (below_regrown wx _ _)) HS.out HK.out HS0.out (Hm.out.at_ (below_regrown wx _ _)))))
  refine wpQuiet_nil ?_
  intro wy hw'
  have hby : Below wx.heap.size wx wy := by obtain ⟨⟨dq, osq⟩, h⟩ := hw'; subst h; exact below_regrown wx dq osq
  clear hw'
  clear g0 g1 g2 g3 g4 g5 g6 g7 g8
  clear x0 x1 y0 y1 y2 y3 y4 y5
  have hsy := hby.size
  have hbz := below_aft hbx hby hbx.size
  have HRy : Hid (ZbV wy (w.heap.size + 2)) := HXR.out.at_ hby
  have HKS : Hid (∀ w', Below wy.heap.size wy w' → w'.cell? ⟨w.heap.size, 0, none⟩ = some (.int .i64 t.data) ∧ w'.cell? ⟨w.heap.size, 1, none⟩ = some (.int .i64 t.index) ∧ w'.cell? ⟨w.heap.size + 1, 5, none⟩ = some (.slice (some ⟨b, off, none⟩) p.kids.length ep) ∧ w'.cell? ⟨b, off, none⟩ = some (.int .i64 p.kids[0].op) ∧ w'.cell? ⟨b, off + 1, none⟩ = some (.int .i64 p.kids[0].ctor) ∧ w'.cell? ⟨b, off + 2, none⟩ = some (.int .i64 p.kids[0].n) ∧ w'.cell? ⟨b, off + 3, none⟩ = some (.int .i64 p.kids[0].m) ∧ w'.cell? ⟨b, off + 4, none⟩ = some (.int .i64 p.kids[0].var) ∧ w'.cell? ⟨b, off + 5, none⟩ = some (.slice D4 p.kids[0].kids.length cp4)) := fun w' hW => HKS0.out w' (below_aft hby hW hby.size)
  have Hy0 : Hid (RPs e4 wy.drew wy.drew.heap.size D4 p.kids[0].kids) := (Hm.out.at_ hby).keep (fun _ _ => rfl) (Nat.le_refl _)
  have Hy1 : Hid (RPs e5 wy.drew wy.drew.heap.size D5 p.kids[1].kids) := (Hm'.out.at_ hby).keep (fun _ _ => rfl) (Nat.le_refl _)
  obtain ⟨q0, q1, q2, q3, q4, q5, q6, q7, q8⟩ := HKS.out wy (Below.refl _ wy)
  go_wp2_with fail
  clear q0 q1 q2 q3 q4 q5 q6 q7 q8
  have HKT : Hid (∀ w', Below wy.heap.size wy w' → ∀ a' b' c' : Value, (((w'.setCell ⟨w.heap.size + 1 + 1, 0, none⟩ a').setCell ⟨w.heap.size + 1 + 1, 1, none⟩ b').setCell ⟨w.heap.size + 1 + 1, 2, none⟩ c').cell? ⟨w.heap.size, 0, none⟩ = some (.int .i64 t.data) ∧ (((w'.setCell ⟨w.heap.size + 1 + 1, 0, none⟩ a').setCell ⟨w.heap.size + 1 + 1, 1, none⟩ b').setCell ⟨w.heap.size + 1 + 1, 2, none⟩ c').cell? ⟨w.heap.size, 1, none⟩ = some (.int .i64 t.index) ∧ (((w'.setCell ⟨w.heap.size + 1 + 1, 0, none⟩ a').setCell ⟨w.heap.size + 1 + 1, 1, none⟩ b').setCell ⟨w.heap.size + 1 + 1, 2, none⟩ c').cell? ⟨w.heap.size + 1, 5, none⟩ = some (.slice (some ⟨b, off, none⟩) p.kids.length ep) ∧ (((w'.setCell ⟨w.heap.size + 1 + 1, 0, none⟩ a').setCell ⟨w.heap.size + 1 + 1, 1, none⟩ b').setCell ⟨w.heap.size + 1 + 1, 2, none⟩ c').cell? ⟨b, off, none⟩ = some (.int .i64 p.kids[0].op) ∧ (((w'.setCell ⟨w.heap.size + 1 + 1, 0, none⟩ a').setCell ⟨w.heap.size + 1 + 1, 1, none⟩ b').setCell ⟨w.heap.size + 1 + 1, 2, none⟩ c').cell? ⟨b, off + 1, none⟩ = some (.int .i64 p.kids[0].ctor) ∧ (((w'.setCell ⟨w.heap.size + 1 + 1, 0, none⟩ a').setCell ⟨w.heap.size + 1 + 1, 1, none⟩ b').setCell ⟨w.heap.size + 1 + 1, 2, none⟩ c').cell? ⟨b, off + 2, none⟩ = some (.int .i64 p.kids[0].n) ∧ (((w'.setCell ⟨w.heap.size + 1 + 1, 0, none⟩ a').setCell ⟨w.heap.size + 1 + 1, 1, none⟩ b').setCell ⟨w.heap.size + 1 + 1, 2, none⟩ c').cell? ⟨b, off + 3, none⟩ = some (.int .i64 p.kids[0].m) ∧ (((w'.setCell ⟨w.heap.size + 1 + 1, 0, none⟩ a').setCell ⟨w.heap.size + 1 + 1, 1, none⟩ b').setCell ⟨w.heap.size + 1 + 1, 2, none⟩ c').cell? ⟨b, off + 4, none⟩ = some (.int .i64 p.kids[0].var) ∧ (((w'.setCell ⟨w.heap.size + 1 + 1, 0, none⟩ a').setCell ⟨w.heap.size + 1 + 1, 1, none⟩ b').setCell ⟨w.heap.size + 1 + 1, 2, none⟩ c').cell? ⟨b, off + 5, none⟩ = some (.slice D4 p.kids[0].kids.length cp4)) := fun w' hW a' b' c' => by
    have hF : Fr (fun q => q = w.heap.size + 2) w' (((w'.setCell ⟨w.heap.size + 1 + 1, 0, none⟩ a').setCell ⟨w.heap.size + 1 + 1, 1, none⟩ b').setCell ⟨w.heap.size + 1 + 1, 2, none⟩ c') := ((Fr.set (P := fun q => q = w.heap.size + 2) _ _ _ _ rfl).trans (Fr.set _ _ _ _ rfl)).trans (Fr.set _ _ _ _ rfl)
    have hz := hW.size
    obtain ⟨z0, z1, z2, z3, z4, z5, z6, z7, z8⟩ := HKS.out w' hW
    have k_s := hF.2.2.2.2 (w.heap.size) (by omega) (by omega)
    have k_s1 := hF.2.2.2.2 (w.heap.size + 1) (by omega) (by omega)
    have k_b := hF.2.2.2.2 (b) (by omega) (by omega)
    exact ⟨(World.cell?_of_block (a := ⟨w.heap.size, 0, none⟩) k_s).trans z0, (World.cell?_of_block (a := ⟨w.heap.size, 1, none⟩) k_s).trans z1, (World.cell?_of_block (a := ⟨w.heap.size + 1, 5, none⟩) k_s1).trans z2, (World.cell?_of_block (a := ⟨b, off, none⟩) k_b).trans z3, (World.cell?_of_block (a := ⟨b, off + 1, none⟩) k_b).trans z4, (World.cell?_of_block (a := ⟨b, off + 2, none⟩) k_b).trans z5, (World.cell?_of_block (a := ⟨b, off + 3, none⟩) k_b).trans z6, (World.cell?_of_block (a := ⟨b, off + 4, none⟩) k_b).trans z7, (World.cell?_of_block (a := ⟨b, off + 5, none⟩) k_b).trans z8⟩
  obtain ⟨q0, q1, q2, q3, q4, q5, q6, q7, q8⟩ := HKS.out wy.drew (Below.refl _ wy).drew
  go_region_held3 (fun w' => w'.cell? ⟨w.heap.size, 0, none⟩ = some (.int .i64 t.data) ∧ w'.cell? ⟨w.heap.size, 1, none⟩ = some (.int .i64 t.index) ∧ w'.cell? ⟨w.heap.size + 1, 5, none⟩ = some (.slice (some ⟨b, off, none⟩) p.kids.length ep) ∧ w'.cell? ⟨b, off, none⟩ = some (.int .i64 p.kids[0].op) ∧ w'.cell? ⟨b, off + 1, none⟩ = some (.int .i64 p.kids[0].ctor) ∧ w'.cell? ⟨b, off + 2, none⟩ = some (.int .i64 p.kids[0].n) ∧ w'.cell? ⟨b, off + 3, none⟩ = some (.int .i64 p.kids[0].m) ∧ w'.cell? ⟨b, off + 4, none⟩ = some (.int .i64 p.kids[0].var) ∧ w'.cell? ⟨b, off + 5, none⟩ = some (.slice D4 p.kids[0].kids.length cp4)) (first | exact ⟨q0, q1, q2, q3, q4, q5, q6, q7, q8⟩ | exact HKS.out w2 HB2.out | exact HKT.out w2 HB2.out _ _ _ | go_keep) (first | (go_at_call 72; refine (IH.out A A2 D4 T cap cap2 cp4 e4 t p.kids[0] wy.drew (by exact Hr.out.at_ hbz.drew) (by exact HTT.out.at_ hbz.drew) HS.out HK.out HS0.out HC.out HLO.out (by exact Hy0.out)).mono ?_; rintro e2 w2 ⟨B, c, rfl, ho, hb2'⟩; have hb2 : Below wy.heap.size wy w2 := ⟨hb2'.os, hb2'.tape, hb2'.output, hb2'.size, hb2'.block⟩; have HB2 := Lib.hid hb2; have hs2 := hb2.size; have hbw2 := below_aft hbz hb2 hbz.size; have HO := Lib.hid ho; have hrr : w2.heap[w.heap.size + 2]? = some (.cells #[.int .i64 0, .int .i64 0, .slice none 0 0] 51 (0, 0)) := HRy.out.at_ hb2; have r0 := (cell_of_blk hrr 0).trans rfl; have r1 := (cell_of_blk hrr 1).trans rfl; have r2 := (cell_of_blk hrr 2).trans rfl; have f0 := frozen_of_row w2 (w.heap.size + 2) 0 _ 51 hrr; have f1 := frozen_of_row w2 (w.heap.size + 2) 1 _ 51 hrr; have f2 := frozen_of_row w2 (w.heap.size + 2) 2 _ 51 hrr; clear hrr ho hb2' hb2))
  all_goals
    clear q0 q1 q2 q3 q4 q5 q6 q7 q8
    go_wp2_with fail
    refine bodyPost_ret (v := .agg #[.int .i64 (svP l d t p.kids[0]).ctor, .int .i64 (svP l d t p.kids[0]).n, .slice B (svP l d t p.kids[0]).kids.length c]) (by simp [results, Tryz.results72, go_sem, r0, r1, r2]) rfl (SvQ.put HF.out HO.out (fun b h => ⟨by have h1 : wy.heap.size ≤ b := h.1; omega, h.2, by have h1 : wy.heap.size ≤ b := h.1; omega⟩) (by omega) (((Fr.set (P := fun b => b = w.heap.size + 2) _ _ _ _ rfl).trans (Fr.set _ _ _ _ rfl)).trans (Fr.set _ _ _ _ rfl)) ?_)
    refine Below.setCell (Below.setCell (Below.setCell hbw2 ?_ _) ?_ _) ?_ _ <;> (simp <;> omega)
set_option maxHeartbeats 4000000 in
theorem svS_51 (l : List Da) (d : Nat) (ih : SvS l d) (A A2 D : Option Addr) (T : List Int) (cap cap2 ep e : Nat) (t : Ty) (p : Pt) (w : World) (hr : RDas w w.heap.size A l) (hT : RInts w A2 T) (hS : St l T (l.length * 4 + 1) 0 0) (ht : TyOK l t) (hs : shP l (d + 1) t p = true) (hm : smP l (d + 1) t p = true) (hlo : loP l (d + 1) t p = true) (hv : RPs e w w.heap.size D p.kids) (hc : smP l d t (p.kids.getD 0 default) = false) (hop : p.op = 5) :
    Calls Tryz.prog 72 #[.slice A l.length cap, .slice A2 (l.length * 4) cap2, .agg #[.int .i64 t.data, .int .i64 t.index], .agg #[.int .i64 p.op, .int .i64 p.ctor, .int .i64 p.n, .int .i64 p.m, .int .i64 p.var, .slice D p.kids.length ep]] w (SvQ l (d + 1) t p w) := by
  have hl := hv.1
  unfold maxLen at hl
  have Hr := Lib.hid hr
  have HTT := Lib.hid hT
  have HS := Lib.hid hS
  have HK := Lib.hid ht
  have HWO : Hid (WorldOK l) := ht.1
  have HV := Lib.hid hv
  have IH := Lib.hid ih
  have u1 : (p.op == 1) = false := ieq_f (by omega)
  have u2 : (p.op == 2) = false := ieq_f (by omega)
  have u3 : (p.op == 3) = false := ieq_f (by omega)
  have u4 : (p.op == 4) = false := ieq_f (by omega)
  have u5 := ieq_t hop
  have u6 : (p.op == 6) = false := ieq_f (by omega)
  obtain ⟨hk2, hs0, hs1⟩ := or_partsP hs hop
  have h0k : 0 < p.kids.length := by omega
  have h1k : 1 < p.kids.length := by omega
  have htp : tysP l t p = [t, t] := by rw [tysP_other (by omega), hop]; rfl
  rw [loP_go (by omega), htp] at hlo
  have l0 := upto_get (k := 0) hlo (by simp)
  have l1 := upto_get (k := 1) hlo (by simp)
  rw [kidW_at (by simp) h0k] at l0
  rw [kidW_at (by simp) h1k] at l1
  rw [smP_or hop h0k h1k] at hm
  have HLO : Hid (loP l d t p.kids[0] = true) := l0
  have HLO1 : Hid (loP l d t p.kids[1] = true) := l1
  have HS0 := Lib.hid (hs0 h0k)
  have HS1 := Lib.hid (hs1 h1k)
  have hi0 : (0 : Int) < (p.kids.length : Int) := by omega
  have hi1 : (1 : Int) < (p.kids.length : Int) := by omega
  have HSO := Lib.hid (smS_any l d)
  clear hk2 hs0 hs1 htp l0 l1
  rw [getD_kid h0k] at hc
  have HC := Lib.hid hc
  have HF := Lib.hid (svP_or1 (l := l) (d := d) (t := t) hop h0k h1k hc)
  rw [hc, Bool.false_or] at hm
  have HSM := Lib.hid hm
  clear hc
  generalize hwx : ((w.alloc (.cells #[.int .i64 t.data, .int .i64 t.index] 31)).alloc (.cells #[.int .i64 p.op, .int .i64 p.ctor, .int .i64 p.n, .int .i64 p.m, .int .i64 p.var, .slice D p.kids.length ep] 45)).alloc (.cells #[.int .i64 0, .int .i64 0, .slice none 0 0] 51) = wx
  have hbx : Below w.heap.size w wx := below_box3' hwx
  have hsx : wx.heap.size = w.heap.size + 3 := by rw [← hwx]; simp
  have HXT : Hid (Bx wx w.heap.size t) := by rw [← hwx]; exact ⟨by simp [go_sem], by simp [go_sem]⟩
  have HXP : Hid (PBx wx (w.heap.size + 1) p (.slice D p.kids.length ep)) := by rw [← hwx]; exact ⟨by simp [go_sem], by simp [go_sem], by simp [go_sem], by simp [go_sem], by simp [go_sem], by simp [go_sem]⟩
  have HXR : Hid (ZbV wx (w.heap.size + 2)) := by
    have h := ZbV.new ((w.alloc (.cells #[.int .i64 t.data, .int .i64 t.index] 31)).alloc (.cells #[.int .i64 p.op, .int .i64 p.ctor, .int .i64 p.n, .int .i64 p.m, .int .i64 p.var, .slice D p.kids.length ep] 45))
    simp only [World.size_alloc] at h
    unfold Hid; rw [← hwx]; exact h
  have HW := Lib.hid hwx
  clear hr hT hS ht hs hm hlo hv ih hop hwx
  obtain ⟨x0, x1⟩ := HXT.out
  obtain ⟨y0, y1, y2, y3, y4, y5⟩ := HXP.out
  clear x0 x1 y0 y1 y2 y3 y4 y5
  obtain ⟨b, off, rfl, hbB, hvk⟩ := (HV.out.below hbx (Nat.le_refl _)).2 0 h0k
  obtain ⟨b2, off2, e2, hbB2, hvk2⟩ := (HV.out.below hbx (Nat.le_refl _)).2 1 h1k
  cases e2
  rw [show off + 0 * 6 = off by omega] at hvk
  rw [show off + 1 * 6 = off + 6 by omega] at hvk2
  obtain ⟨e4, he4, D4, cp4, c0, c1, c2, c3, c4, c5, hm4⟩ := hvk.parts
  obtain ⟨e5, he5, D5, cp5, d0, d1, d2, d3, d4, d5, hm5⟩ := hvk2.parts
  have Hm : Hid (RPs e4 wx wx.heap.size D4 p.kids[0].kids) := hm4.keep (fun _ _ => rfl) hbx.size
  have Hm' : Hid (RPs e5 wx wx.heap.size D5 p.kids[1].kids) := hm5.keep (fun _ _ => rfl) hbx.size
  obtain ⟨x0, x1⟩ := HXT.out
  obtain ⟨y0, y1, y2, y3, y4, y5⟩ := HXP.out
  have g0 := cell_regrown x0
  have g1 := cell_regrown x1
  have g2 := cell_regrown c0
  have g3 := cell_regrown c1
  have g4 := cell_regrown c2
  have g5 := cell_regrown c3
  have g6 := cell_regrown c4
  have g7 := cell_regrown c5
  have g8 := cell_regrown y5
  have HKS0 : Hid (∀ w', Below wx.heap.size wx w' → w'.cell? ⟨w.heap.size, 0, none⟩ = some (.int .i64 t.data) ∧ w'.cell? ⟨w.heap.size, 1, none⟩ = some (.int .i64 t.index) ∧ w'.cell? ⟨w.heap.size + 1, 5, none⟩ = some (.slice (some ⟨b, off, none⟩) p.kids.length ep) ∧ w'.cell? ⟨b, off + 6, none⟩ = some (.int .i64 p.kids[1].op) ∧ w'.cell? ⟨b, off + 7, none⟩ = some (.int .i64 p.kids[1].ctor) ∧ w'.cell? ⟨b, off + 8, none⟩ = some (.int .i64 p.kids[1].n) ∧ w'.cell? ⟨b, off + 9, none⟩ = some (.int .i64 p.kids[1].m) ∧ w'.cell? ⟨b, off + 10, none⟩ = some (.int .i64 p.kids[1].var) ∧ w'.cell? ⟨b, off + 11, none⟩ = some (.slice D5 p.kids[1].kids.length cp5)) := fun w' hW => ⟨(hW.cell (p := ⟨w.heap.size, 0, none⟩) (Go.block_lt_of_cell x0)).trans x0, (hW.cell (p := ⟨w.heap.size, 1, none⟩) (Go.block_lt_of_cell x1)).trans x1, (hW.cell (p := ⟨w.heap.size + 1, 5, none⟩) (Go.block_lt_of_cell y5)).trans y5, (hW.cell (p := ⟨b, off + 6, none⟩) (Go.block_lt_of_cell d0)).trans d0, (hW.cell (p := ⟨b, off + 7, none⟩) (Go.block_lt_of_cell d1)).trans d1, (hW.cell (p := ⟨b, off + 8, none⟩) (Go.block_lt_of_cell d2)).trans d2, (hW.cell (p := ⟨b, off + 9, none⟩) (Go.block_lt_of_cell d3)).trans d3, (hW.cell (p := ⟨b, off + 10, none⟩) (Go.block_lt_of_cell d4)).trans d4, (hW.cell (p := ⟨b, off + 11, none⟩) (Go.block_lt_of_cell d5)).trans d5⟩
  clear c0 c1 c2 c3 c4 c5 d0 d1 d2 d3 d4 d5 hm4 hm5 hvk hvk2 he4 he5
  go_enter Tryz.func72, Tryz.ntmps72
  go_wp2_with fail
  rw [HW.out]
  refine wp_region_quiet_below (by kernel_rfl) (by kernel_rfl) ?_
  repeat (quiet_step (exact Calls.regrown_of (HSO.out.known _ _ _ _ _ _ _ _ _ _ _ _ HC.out ((Hr.out.at_ hbx).at_ (below_regrown wx _ _)) ((HTT.out.at_ hbx).at_ (below_regrown wx _ _)) HS.out HK.out HS0.out (Hm.out.at_ (below_regrown wx _ _)))))
  refine wpQuiet_nil ?_
  intro wy hw'
  have hby : Below wx.heap.size wx wy := by obtain ⟨⟨dq, osq⟩, h⟩ := hw'; subst h; exact below_regrown wx dq osq
  clear hw'
  clear g0 g1 g2 g3 g4 g5 g6 g7 g8
  clear x0 x1 y0 y1 y2 y3 y4 y5
  have hsy := hby.size
  have hbz := below_aft hbx hby hbx.size
  have HRy : Hid (ZbV wy (w.heap.size + 2)) := HXR.out.at_ hby
  have HKS : Hid (∀ w', Below wy.heap.size wy w' → w'.cell? ⟨w.heap.size, 0, none⟩ = some (.int .i64 t.data) ∧ w'.cell? ⟨w.heap.size, 1, none⟩ = some (.int .i64 t.index) ∧ w'.cell? ⟨w.heap.size + 1, 5, none⟩ = some (.slice (some ⟨b, off, none⟩) p.kids.length ep) ∧ w'.cell? ⟨b, off + 6, none⟩ = some (.int .i64 p.kids[1].op) ∧ w'.cell? ⟨b, off + 7, none⟩ = some (.int .i64 p.kids[1].ctor) ∧ w'.cell? ⟨b, off + 8, none⟩ = some (.int .i64 p.kids[1].n) ∧ w'.cell? ⟨b, off + 9, none⟩ = some (.int .i64 p.kids[1].m) ∧ w'.cell? ⟨b, off + 10, none⟩ = some (.int .i64 p.kids[1].var) ∧ w'.cell? ⟨b, off + 11, none⟩ = some (.slice D5 p.kids[1].kids.length cp5)) := fun w' hW => HKS0.out w' (below_aft hby hW hby.size)
  have Hy0 : Hid (RPs e4 wy.drew wy.drew.heap.size D4 p.kids[0].kids) := (Hm.out.at_ hby).keep (fun _ _ => rfl) (Nat.le_refl _)
  have Hy1 : Hid (RPs e5 wy.drew wy.drew.heap.size D5 p.kids[1].kids) := (Hm'.out.at_ hby).keep (fun _ _ => rfl) (Nat.le_refl _)
  obtain ⟨q0, q1, q2, q3, q4, q5, q6, q7, q8⟩ := HKS.out wy (Below.refl _ wy)
  go_wp2_with fail
  clear q0 q1 q2 q3 q4 q5 q6 q7 q8
  have HKT : Hid (∀ w', Below wy.heap.size wy w' → ∀ a' b' c' : Value, (((w'.setCell ⟨w.heap.size + 1 + 1, 0, none⟩ a').setCell ⟨w.heap.size + 1 + 1, 1, none⟩ b').setCell ⟨w.heap.size + 1 + 1, 2, none⟩ c').cell? ⟨w.heap.size, 0, none⟩ = some (.int .i64 t.data) ∧ (((w'.setCell ⟨w.heap.size + 1 + 1, 0, none⟩ a').setCell ⟨w.heap.size + 1 + 1, 1, none⟩ b').setCell ⟨w.heap.size + 1 + 1, 2, none⟩ c').cell? ⟨w.heap.size, 1, none⟩ = some (.int .i64 t.index) ∧ (((w'.setCell ⟨w.heap.size + 1 + 1, 0, none⟩ a').setCell ⟨w.heap.size + 1 + 1, 1, none⟩ b').setCell ⟨w.heap.size + 1 + 1, 2, none⟩ c').cell? ⟨w.heap.size + 1, 5, none⟩ = some (.slice (some ⟨b, off, none⟩) p.kids.length ep) ∧ (((w'.setCell ⟨w.heap.size + 1 + 1, 0, none⟩ a').setCell ⟨w.heap.size + 1 + 1, 1, none⟩ b').setCell ⟨w.heap.size + 1 + 1, 2, none⟩ c').cell? ⟨b, off + 6, none⟩ = some (.int .i64 p.kids[1].op) ∧ (((w'.setCell ⟨w.heap.size + 1 + 1, 0, none⟩ a').setCell ⟨w.heap.size + 1 + 1, 1, none⟩ b').setCell ⟨w.heap.size + 1 + 1, 2, none⟩ c').cell? ⟨b, off + 7, none⟩ = some (.int .i64 p.kids[1].ctor) ∧ (((w'.setCell ⟨w.heap.size + 1 + 1, 0, none⟩ a').setCell ⟨w.heap.size + 1 + 1, 1, none⟩ b').setCell ⟨w.heap.size + 1 + 1, 2, none⟩ c').cell? ⟨b, off + 8, none⟩ = some (.int .i64 p.kids[1].n) ∧ (((w'.setCell ⟨w.heap.size + 1 + 1, 0, none⟩ a').setCell ⟨w.heap.size + 1 + 1, 1, none⟩ b').setCell ⟨w.heap.size + 1 + 1, 2, none⟩ c').cell? ⟨b, off + 9, none⟩ = some (.int .i64 p.kids[1].m) ∧ (((w'.setCell ⟨w.heap.size + 1 + 1, 0, none⟩ a').setCell ⟨w.heap.size + 1 + 1, 1, none⟩ b').setCell ⟨w.heap.size + 1 + 1, 2, none⟩ c').cell? ⟨b, off + 10, none⟩ = some (.int .i64 p.kids[1].var) ∧ (((w'.setCell ⟨w.heap.size + 1 + 1, 0, none⟩ a').setCell ⟨w.heap.size + 1 + 1, 1, none⟩ b').setCell ⟨w.heap.size + 1 + 1, 2, none⟩ c').cell? ⟨b, off + 11, none⟩ = some (.slice D5 p.kids[1].kids.length cp5)) := fun w' hW a' b' c' => by
    have hF : Fr (fun q => q = w.heap.size + 2) w' (((w'.setCell ⟨w.heap.size + 1 + 1, 0, none⟩ a').setCell ⟨w.heap.size + 1 + 1, 1, none⟩ b').setCell ⟨w.heap.size + 1 + 1, 2, none⟩ c') := ((Fr.set (P := fun q => q = w.heap.size + 2) _ _ _ _ rfl).trans (Fr.set _ _ _ _ rfl)).trans (Fr.set _ _ _ _ rfl)
    have hz := hW.size
    obtain ⟨z0, z1, z2, z3, z4, z5, z6, z7, z8⟩ := HKS.out w' hW
    have k_s := hF.2.2.2.2 (w.heap.size) (by omega) (by omega)
    have k_s1 := hF.2.2.2.2 (w.heap.size + 1) (by omega) (by omega)
    have k_b := hF.2.2.2.2 (b) (by omega) (by omega)
    exact ⟨(World.cell?_of_block (a := ⟨w.heap.size, 0, none⟩) k_s).trans z0, (World.cell?_of_block (a := ⟨w.heap.size, 1, none⟩) k_s).trans z1, (World.cell?_of_block (a := ⟨w.heap.size + 1, 5, none⟩) k_s1).trans z2, (World.cell?_of_block (a := ⟨b, off + 6, none⟩) k_b).trans z3, (World.cell?_of_block (a := ⟨b, off + 7, none⟩) k_b).trans z4, (World.cell?_of_block (a := ⟨b, off + 8, none⟩) k_b).trans z5, (World.cell?_of_block (a := ⟨b, off + 9, none⟩) k_b).trans z6, (World.cell?_of_block (a := ⟨b, off + 10, none⟩) k_b).trans z7, (World.cell?_of_block (a := ⟨b, off + 11, none⟩) k_b).trans z8⟩
  obtain ⟨q0, q1, q2, q3, q4, q5, q6, q7, q8⟩ := HKS.out wy.drew (Below.refl _ wy).drew
  go_region_held3 (fun w' => w'.cell? ⟨w.heap.size, 0, none⟩ = some (.int .i64 t.data) ∧ w'.cell? ⟨w.heap.size, 1, none⟩ = some (.int .i64 t.index) ∧ w'.cell? ⟨w.heap.size + 1, 5, none⟩ = some (.slice (some ⟨b, off, none⟩) p.kids.length ep) ∧ w'.cell? ⟨b, off + 6, none⟩ = some (.int .i64 p.kids[1].op) ∧ w'.cell? ⟨b, off + 7, none⟩ = some (.int .i64 p.kids[1].ctor) ∧ w'.cell? ⟨b, off + 8, none⟩ = some (.int .i64 p.kids[1].n) ∧ w'.cell? ⟨b, off + 9, none⟩ = some (.int .i64 p.kids[1].m) ∧ w'.cell? ⟨b, off + 10, none⟩ = some (.int .i64 p.kids[1].var) ∧ w'.cell? ⟨b, off + 11, none⟩ = some (.slice D5 p.kids[1].kids.length cp5)) (first | exact ⟨q0, q1, q2, q3, q4, q5, q6, q7, q8⟩ | exact HKS.out w2 HB2.out | exact HKT.out w2 HB2.out _ _ _ | go_keep) (first | (go_at_call 72; refine (IH.out A A2 D5 T cap cap2 cp5 e5 t p.kids[1] wy.drew (by exact Hr.out.at_ hbz.drew) (by exact HTT.out.at_ hbz.drew) HS.out HK.out HS1.out HSM.out HLO1.out (by exact Hy1.out)).mono ?_; rintro e2 w2 ⟨B, c, rfl, ho, hb2'⟩; have hb2 : Below wy.heap.size wy w2 := ⟨hb2'.os, hb2'.tape, hb2'.output, hb2'.size, hb2'.block⟩; have HB2 := Lib.hid hb2; have hs2 := hb2.size; have hbw2 := below_aft hbz hb2 hbz.size; have HO := Lib.hid ho; have hrr : w2.heap[w.heap.size + 2]? = some (.cells #[.int .i64 0, .int .i64 0, .slice none 0 0] 51 (0, 0)) := HRy.out.at_ hb2; have r0 := (cell_of_blk hrr 0).trans rfl; have r1 := (cell_of_blk hrr 1).trans rfl; have r2 := (cell_of_blk hrr 2).trans rfl; have f0 := frozen_of_row w2 (w.heap.size + 2) 0 _ 51 hrr; have f1 := frozen_of_row w2 (w.heap.size + 2) 1 _ 51 hrr; have f2 := frozen_of_row w2 (w.heap.size + 2) 2 _ 51 hrr; clear hrr ho hb2' hb2))
  all_goals
    clear q0 q1 q2 q3 q4 q5 q6 q7 q8
    go_wp2_with fail
    refine bodyPost_ret (v := .agg #[.int .i64 (svP l d t p.kids[1]).ctor, .int .i64 (svP l d t p.kids[1]).n, .slice B (svP l d t p.kids[1]).kids.length c]) (by simp [results, Tryz.results72, go_sem, r0, r1, r2]) rfl (SvQ.put HF.out HO.out (fun b h => ⟨by have h1 : wy.heap.size ≤ b := h.1; omega, h.2, by have h1 : wy.heap.size ≤ b := h.1; omega⟩) (by omega) (((Fr.set (P := fun b => b = w.heap.size + 2) _ _ _ _ rfl).trans (Fr.set _ _ _ _ rfl)).trans (Fr.set _ _ _ _ rfl)) ?_)
    refine Below.setCell (Below.setCell (Below.setCell hbw2 ?_ _) ?_ _) ?_ _ <;> (simp <;> omega)
set_option maxHeartbeats 4000000 in
theorem svS_4 (l : List Da) (d : Nat) (ih : SvS l d) (A A2 D : Option Addr) (T : List Int) (cap cap2 ep e : Nat) (t : Ty) (p : Pt) (w : World) (hr : RDas w w.heap.size A l) (hT : RInts w A2 T) (hS : St l T (l.length * 4 + 1) 0 0) (ht : TyOK l t) (hs : shP l (d + 1) t p = true) (hm : smP l (d + 1) t p = true) (hlo : loP l (d + 1) t p = true) (hv : RPs e w w.heap.size D p.kids) (hop : p.op = 4) :
    Calls Tryz.prog 72 #[.slice A l.length cap, .slice A2 (l.length * 4) cap2, .agg #[.int .i64 t.data, .int .i64 t.index], .agg #[.int .i64 p.op, .int .i64 p.ctor, .int .i64 p.n, .int .i64 p.m, .int .i64 p.var, .slice D p.kids.length ep]] w (SvQ l (d + 1) t p w) := by
  have hl := hv.1
  unfold maxLen at hl
  have Hr := Lib.hid hr
  have HTT := Lib.hid hT
  have HS := Lib.hid hS
  have HK := Lib.hid ht
  have HWO : Hid (WorldOK l) := ht.1
  have HV := Lib.hid hv
  have IH := Lib.hid ih
  have u1 : (p.op == 1) = false := ieq_f (by omega)
  have u2 : (p.op == 2) = false := ieq_f (by omega)
  have u3 : (p.op == 3) = false := ieq_f (by omega)
  have u4 := ieq_t hop
  have u5 : (p.op == 5) = false := ieq_f (by omega)
  have u6 : (p.op == 6) = false := ieq_f (by omega)
  obtain ⟨hmem, hkl0, hsh⟩ := ctor_partsP hs hop
  have htp := tysP_ctor (l := l) (t := t) hop
  rw [loP_go (by omega), htp] at hlo
  rw [smP_ctor hop] at hm
  obtain ⟨KS, hKS⟩ : ∃ KS, kidsS l d (agR l t p.ctor) p.kids = KS := ⟨_, rfl⟩
  have HF : Hid (svP l (d + 1) t p = .mk p.ctor 0 KS) := by unfold Hid; rw [← hKS]; exact svP_ctor hop
  have HKL2 : Hid (KS.length = (agR l t p.ctor).length) := by unfold Hid; rw [← hKS]; exact kidsS_len
  have HKA : Hid (∀ k (h : k < (agR l t p.ctor).length) (h' : k < p.kids.length) (h2 : k < KS.length), KS[k] = svP l d (agR l t p.ctor)[k] p.kids[k]) := fun k h h' h2 => by subst hKS; rw [kidsS_at h2, kidS_at h h']
  have HC := Lib.hid hmem
  have HKL := Lib.hid hkl0
  have HAK : Hid (∀ j (h : j < (agR l t p.ctor).length) (h' : j < p.kids.length), TyOK l (agR l t p.ctor)[j] ∧ shP l d (agR l t p.ctor)[j] p.kids[j] = true ∧ smP l d (agR l t p.ctor)[j] p.kids[j] = true ∧ loP l d (agR l t p.ctor)[j] p.kids[j] = true) := fun j h h' => ⟨agR_ok hmem _ (List.getElem_mem h), hsh j h h', by rw [← kidM_at h h']; exact upto_get hm h, by rw [← kidW_at h h']; exact upto_get hlo h⟩
  have hm3 := agR_len l t p.ctor
  obtain ⟨i0, hi0, hz0, hz1, hz2⟩ := info_parts infoOV
  clear hmem hkl0 hsh htp hKS
  generalize hwx : ((w.alloc (.cells #[.int .i64 t.data, .int .i64 t.index] 31)).alloc (.cells #[.int .i64 p.op, .int .i64 p.ctor, .int .i64 p.n, .int .i64 p.m, .int .i64 p.var, .slice D p.kids.length ep] 45)).alloc (.cells #[.int .i64 0, .int .i64 0, .slice none 0 0] 51) = wx
  have hbx : Below w.heap.size w wx := below_box3' hwx
  have hsx : wx.heap.size = w.heap.size + 3 := by rw [← hwx]; simp
  have HXT : Hid (Bx wx w.heap.size t) := by rw [← hwx]; exact ⟨by simp [go_sem], by simp [go_sem]⟩
  have HXP : Hid (PBx wx (w.heap.size + 1) p (.slice D p.kids.length ep)) := by rw [← hwx]; exact ⟨by simp [go_sem], by simp [go_sem], by simp [go_sem], by simp [go_sem], by simp [go_sem], by simp [go_sem]⟩
  have HXR : Hid (ZbV wx (w.heap.size + 2)) := by
    have h := ZbV.new ((w.alloc (.cells #[.int .i64 t.data, .int .i64 t.index] 31)).alloc (.cells #[.int .i64 p.op, .int .i64 p.ctor, .int .i64 p.n, .int .i64 p.m, .int .i64 p.var, .slice D p.kids.length ep] 45))
    simp only [World.size_alloc] at h
    unfold Hid; rw [← hwx]; exact h
  have HW := Lib.hid hwx
  clear hr hT hS ht hs hm hlo hv ih hop hwx
  obtain ⟨x0, x1⟩ := HXT.out
  obtain ⟨y0, y1, y2, y3, y4, y5⟩ := HXP.out
  generalize hwl : wx.alloc (.cells #[.int .i64 p.ctor, .int .i64 0, .slice none 0 0] 51) = wl0
  have hbl : Below wx.heap.size wx wl0 := by rw [← hwl]; exact (Below.refl _ _).alloc (Nat.le_refl _) _
  have HG : Hid (wl0.heap[wx.heap.size]? = some (.cells #[.int .i64 p.ctor, .int .i64 0, .slice none 0 0] 51 (0, 0))) := by unfold Hid; rw [← hwl]; exact heap_alloc_new _ _
  have HWL := Lib.hid hwl
  have hb0 := below_aft hbx hbl hbx.size
  obtain ⟨m0, m1⟩ := HXT.out.at_ hbl
  obtain ⟨n0, n1, n2, n3, n4, n5⟩ := HXP.out.at_ hbl
  clear hwl
  go_enter Tryz.func72, Tryz.ntmps72
  go_wp2_with fail
  rw [HW.out]
  rw [HWL.out]
  rw [show w.heap.size + 1 + 1 + 1 = wx.heap.size by omega]
  refine (l1Args_all A l cap t p.ctor _ (Hr.out.at_ hb0) HC.out).mono ?_
  rintro e3 w4 ⟨v4, rfl, ho4, hb4⟩
  generalize agR l t p.ctor = ats at *
  have HA3' : Hid (∀ b o n c, v4 = .slice (some ⟨b, o, none⟩) n c → wl0.heap.size ≤ b ∧ b < w4.heap.size) := by
    obtain ⟨_, hro, _⟩ := ho4
    obtain ⟨_, _, _, hob⟩ := own_form hro
    exact fun b o n c e => hob b (by rw [e]; rfl)
  obtain ⟨A3, c3, rfl, hr4⟩ := ho4.form (by unfold maxLen; omega)
  have HR4 := Lib.hid hr4
  have HG4 : Hid (w4.heap[wx.heap.size]? = some (.cells #[.int .i64 p.ctor, .int .i64 0, .slice none 0 0] 51 (0, 0))) := (hb4.block _ (heap_lt HG.out)).trans HG.out
  have HXP4 := Lib.hid ((HXP.out.at_ hbl).at_ hb4)
  have HXR4 : Hid (ZbV w4 (w.heap.size + 2)) := ZbV.at_ (ZbV.at_ HXR.out hbl) hb4
  have hbw4 := below_aft hb0 hb4 hb0.size
  have hsl := heap_lt HG.out
  have hs4 := hb4.size
  have HA3 : Hid (∀ b o, A3 = some ⟨b, o, none⟩ → wx.heap.size < b ∧ b < w4.heap.size) := fun b o e => by obtain ⟨h1, h2⟩ := HA3'.out b o _ _ (by rw [e]); exact ⟨by omega, h2⟩
  clear x0 x1 y0 y1 y2 y3 y4 y5 m0 m1 n0 n1 n2 n3 n4 n5 ho4 hr4 hb4 HA3'
  generalize hg : wx.heap.size = g at *
  have hgl1 : w.heap.size + 3 ≤ g := by omega
  have hgl2 : g ≤ w.heap.size + 3 := by omega
  clear hsx hg
  generalize w4 = wl at *
  go_wp2_with fail
  go_loopw [11] (fun i wr => ∃ k : Nat, k ≤ ats.length ∧ i = .int .i64 k ∧ Hid (BldV (d + 10) wl wr g p.ctor 0 KS k)) (fun i _ => ats.length - (intOf i).toNat)
  case atStart => exact ⟨0, by omega, rfl, BldV.zero HG4.out⟩
  case round =>
    obtain ⟨k, hk, rfl, HBd⟩ := hrel
    by_cases hlt : k < ats.length
    · have hkl : k < p.kids.length := by rw [HKL.out]; exact hlt
      have hkI : (k : Int) < (ats.length : Int) := by omega
      have hkI2 : (k : Int) < (p.kids.length : Int) := by omega
      obtain ⟨hgl, hf, Ak, ck, ys, Q, hgc, hown, hrow⟩ := HBd.out
      obtain ⟨b3, o3, rfl, hb3B, p0, p1⟩ := HR4.out.2 k hlt
      obtain ⟨hgb, hbl3⟩ := HA3.out b3 o3 rfl
      have hwr := hf.size
      have hbe : wr.heap[b3]? = wl.heap[b3]? := hf.2.2.2.2 b3 hb3B (by omega)
      have p0' := (World.cell?_of_block (a := ⟨b3, o3 + k * 2, none⟩) hbe).trans p0
      have p1' := (World.cell?_of_block (a := ⟨b3, o3 + k * 2 + 1, none⟩) hbe).trans p1
      have hbwr : Below w.heap.size w wr := hbw4.trans (hf.to (by have := hbw4.size; omega) (fun b h => by omega))
      obtain ⟨b, off, rfl, hbB, hvk⟩ := (HV.out.below hbwr (Nat.le_refl _)).2 k hkl
      obtain ⟨e', he', D', cp, c0, c1, c2, c3', c4', c5, hm⟩ := hvk.parts
      have hpe : wr.heap[w.heap.size + 1]? = wl.heap[w.heap.size + 1]? := hf.2.2.2.2 (w.heap.size + 1) (by omega) (by omega)
      have y5' := (World.cell?_of_block (a := ⟨w.heap.size + 1, 5, none⟩) hpe).trans HXP4.out.2.2.2.2.2
      have Hm : Hid (RPs e' wr.drew wr.drew.heap.size D' p.kids[k].kids) := hm.keep (fun _ _ => rfl) hbwr.size
      obtain ⟨_, _, _, hob⟩ := own_form hown
      have HGL := Lib.hid hgl
      have HFR := Lib.hid hf
      have HGC := Lib.hid hgc
      have HOW := Lib.hid hown
      have HRW := Lib.hid hrow
      have c2x : wr.cell? ⟨g, 2, none⟩ = some (.slice Ak k ck) := (cell_of_blk hgc 2).trans rfl
      have HKP : Hid (∀ w2, Below wr.heap.size wr w2 → w2.cell? ⟨g, 2, none⟩ = some (.slice Ak k ck) ∧ w2.cell? ⟨b3, o3 + k * 2, none⟩ = some (.int .i64 ats[k].data) ∧ w2.cell? ⟨b3, o3 + k * 2 + 1, none⟩ = some (.int .i64 ats[k].index) ∧ w2.cell? ⟨w.heap.size + 1, 5, none⟩ = some (.slice (some ⟨b, off, none⟩) p.kids.length ep) ∧ w2.cell? ⟨b, off + k * 6, none⟩ = some (.int .i64 p.kids[k].op) ∧ w2.cell? ⟨b, off + k * 6 + 1, none⟩ = some (.int .i64 p.kids[k].ctor) ∧ w2.cell? ⟨b, off + k * 6 + 2, none⟩ = some (.int .i64 p.kids[k].n) ∧ w2.cell? ⟨b, off + k * 6 + 3, none⟩ = some (.int .i64 p.kids[k].m) ∧ w2.cell? ⟨b, off + k * 6 + 4, none⟩ = some (.int .i64 p.kids[k].var) ∧ w2.cell? ⟨b, off + k * 6 + 5, none⟩ = some (.slice D' p.kids[k].kids.length cp)) := fun w2 h => ⟨(h.cell (p := ⟨g, 2, none⟩) (Go.block_lt_of_cell c2x)).trans c2x, (h.cell (p := ⟨b3, o3 + k * 2, none⟩) (Go.block_lt_of_cell p0')).trans p0', (h.cell (p := ⟨b3, o3 + k * 2 + 1, none⟩) (Go.block_lt_of_cell p1')).trans p1', (h.cell (p := ⟨w.heap.size + 1, 5, none⟩) (Go.block_lt_of_cell y5')).trans y5', (h.cell (p := ⟨b, off + k * 6, none⟩) (Go.block_lt_of_cell c0)).trans c0, (h.cell (p := ⟨b, off + k * 6 + 1, none⟩) (Go.block_lt_of_cell c1)).trans c1, (h.cell (p := ⟨b, off + k * 6 + 2, none⟩) (Go.block_lt_of_cell c2)).trans c2, (h.cell (p := ⟨b, off + k * 6 + 3, none⟩) (Go.block_lt_of_cell c3')).trans c3', (h.cell (p := ⟨b, off + k * 6 + 4, none⟩) (Go.block_lt_of_cell c4')).trans c4', (h.cell (p := ⟨b, off + k * 6 + 5, none⟩) (Go.block_lt_of_cell c5)).trans c5⟩
      have HKB : Hid (∀ (w2 : World) (o : Obj), Below wr.heap.size wr w2 → ∀ b, (Value.slice Ak k ck).ownBlock = some b → (w2.alloc o).heap[b]? = wr.heap[b]?) := fun w2 o h b e => by
        have := (hob b e).2
        rw [Below.heap_alloc _ _ _ (Nat.lt_of_lt_of_le this h.size), h.block b this]
      have HKC : Hid (∀ (w2 w4 : World) (o : Obj), Below wr.heap.size wr w2 → (w2.alloc o).grownBy w4 (Value.slice Ak k ck).ownBlock → w4.cell? ⟨b3, o3 + k * 2, none⟩ = some (.int .i64 ats[k].data) ∧ w4.cell? ⟨b3, o3 + k * 2 + 1, none⟩ = some (.int .i64 ats[k].index) ∧ w4.cell? ⟨w.heap.size + 1, 5, none⟩ = some (.slice (some ⟨b, off, none⟩) p.kids.length ep) ∧ w4.cell? ⟨b, off + k * 6, none⟩ = some (.int .i64 p.kids[k].op) ∧ w4.cell? ⟨b, off + k * 6 + 1, none⟩ = some (.int .i64 p.kids[k].ctor) ∧ w4.cell? ⟨b, off + k * 6 + 2, none⟩ = some (.int .i64 p.kids[k].n) ∧ w4.cell? ⟨b, off + k * 6 + 3, none⟩ = some (.int .i64 p.kids[k].m) ∧ w4.cell? ⟨b, off + k * 6 + 4, none⟩ = some (.int .i64 p.kids[k].var) ∧ w4.cell? ⟨b, off + k * 6 + 5, none⟩ = some (.slice D' p.kids[k].kids.length cp)) := fun w2 w4 o h hg => by
        have key : ∀ q, q < wl.heap.size → w4.heap[q]? = wr.heap[q]? := fun q hq => by
          have hlw : q < w2.heap.size := by have := h.size; omega
          rw [hg.block q (by simp; omega) (fun e => by have := (hob q e.symm).1; omega), Below.heap_alloc _ _ _ hlw, h.block q (by omega)]
        have kb : w4.heap[b]? = wr.heap[b]? := key b (by have := hbw4.size; omega)
        exact ⟨(World.cell?_of_block (a := ⟨b3, o3 + k * 2, none⟩) (key b3 (by omega))).trans p0', (World.cell?_of_block (a := ⟨b3, o3 + k * 2 + 1, none⟩) (key b3 (by omega))).trans p1', (World.cell?_of_block (a := ⟨w.heap.size + 1, 5, none⟩) (key (w.heap.size + 1) (by omega))).trans y5', (World.cell?_of_block (a := ⟨b, off + k * 6, none⟩) kb).trans c0, (World.cell?_of_block (a := ⟨b, off + k * 6 + 1, none⟩) kb).trans c1, (World.cell?_of_block (a := ⟨b, off + k * 6 + 2, none⟩) kb).trans c2, (World.cell?_of_block (a := ⟨b, off + k * 6 + 3, none⟩) kb).trans c3', (World.cell?_of_block (a := ⟨b, off + k * 6 + 4, none⟩) kb).trans c4', (World.cell?_of_block (a := ⟨b, off + k * 6 + 5, none⟩) kb).trans c5⟩
      obtain ⟨ha1, ha2, ha3, ha4⟩ := HAK.out k hlt hkl
      have HIH : Hid (Calls Tryz.prog 72 #[.slice A l.length cap, .slice A2 (l.length * 4) cap2, .agg #[.int .i64 ats[k].data, .int .i64 ats[k].index], .agg #[.int .i64 p.kids[k].op, .int .i64 p.kids[k].ctor, .int .i64 p.kids[k].n, .int .i64 p.kids[k].m, .int .i64 p.kids[k].var, .slice D' p.kids[k].kids.length cp]] wr.drew (SvQ l d ats[k] p.kids[k] wr.drew)) := IH.out A A2 D' T cap cap2 cp e' ats[k] p.kids[k] wr.drew (Hr.out.at_ hbwr.drew) (HTT.out.at_ hbwr.drew) HS.out ha1 ha2 ha3 ha4 Hm.out
      have HS0 : Hid (wr.drew.cell? ⟨g, 2, none⟩ = some (.slice Ak k ck) ∧ wr.drew.cell? ⟨b3, o3 + k * 2, none⟩ = some (.int .i64 ats[k].data) ∧ wr.drew.cell? ⟨b3, o3 + k * 2 + 1, none⟩ = some (.int .i64 ats[k].index) ∧ wr.drew.cell? ⟨w.heap.size + 1, 5, none⟩ = some (.slice (some ⟨b, off, none⟩) p.kids.length ep) ∧ wr.drew.cell? ⟨b, off + k * 6, none⟩ = some (.int .i64 p.kids[k].op) ∧ wr.drew.cell? ⟨b, off + k * 6 + 1, none⟩ = some (.int .i64 p.kids[k].ctor) ∧ wr.drew.cell? ⟨b, off + k * 6 + 2, none⟩ = some (.int .i64 p.kids[k].n) ∧ wr.drew.cell? ⟨b, off + k * 6 + 3, none⟩ = some (.int .i64 p.kids[k].m) ∧ wr.drew.cell? ⟨b, off + k * 6 + 4, none⟩ = some (.int .i64 p.kids[k].var) ∧ wr.drew.cell? ⟨b, off + k * 6 + 5, none⟩ = some (.slice D' p.kids[k].kids.length cp)) := ⟨c2x, p0', p1', y5', c0, c1, c2, c3', c4', c5⟩
      clear hgl hf hgc hown hrow hob hbe p0 p1 p0' p1' ha1 ha2 ha3 ha4 c2x hbwr hb3B c0 c1 c2 c3' c4' c5 y5' hpe hm hvk he'
      go_wp2_with fail
      refine Till.start (S := fun w' => w'.cell? ⟨g, 2, none⟩ = some (.slice Ak k ck) ∧ w'.cell? ⟨b3, o3 + k * 2, none⟩ = some (.int .i64 ats[k].data) ∧ w'.cell? ⟨b3, o3 + k * 2 + 1, none⟩ = some (.int .i64 ats[k].index) ∧ w'.cell? ⟨w.heap.size + 1, 5, none⟩ = some (.slice (some ⟨b, off, none⟩) p.kids.length ep) ∧ w'.cell? ⟨b, off + k * 6, none⟩ = some (.int .i64 p.kids[k].op) ∧ w'.cell? ⟨b, off + k * 6 + 1, none⟩ = some (.int .i64 p.kids[k].ctor) ∧ w'.cell? ⟨b, off + k * 6 + 2, none⟩ = some (.int .i64 p.kids[k].n) ∧ w'.cell? ⟨b, off + k * 6 + 3, none⟩ = some (.int .i64 p.kids[k].m) ∧ w'.cell? ⟨b, off + k * 6 + 4, none⟩ = some (.int .i64 p.kids[k].var) ∧ w'.cell? ⟨b, off + k * 6 + 5, none⟩ = some (.slice D' p.kids[k].kids.length cp)) (z := 17) (by kernel_rfl) ?_
      refine Till.take_ (i := 0) (d := some 76) (v := .pointer (some ⟨g, 2, none⟩)) (ls' := #[true, false, false, false, false, false, false, false, false, false, false, false, false, false, false, false, false, false]) rfl rfl (by kernel_rfl) (by kernel_rfl) (by kernel_rfl) (by kernel_rfl) (fun _ _ _ h => h) HS0.out (Or.inl ⟨by rfl, fun wq hSw => ?_⟩) (by kernel_rfl) ?_
      · obtain ⟨hs0, hs1, hs2, hs3, hs4, hs5, hs6, hs7, hs8, hs9⟩ := hSw
        go_simp
      simp only [Act.put, List.setIfInBounds_toArray, List.set_cons_zero, List.set_cons_succ]
      refine Till.take_ (i := 1) (d := some 77) (v := .slice Ak k ck) (ls' := #[true, true, false, false, false, false, false, false, false, false, false, false, false, false, false, false, false, false]) rfl rfl (by kernel_rfl) (by kernel_rfl) (by kernel_rfl) (by kernel_rfl) (fun _ _ _ h => h) HS0.out (Or.inl ⟨by rfl, fun wq hSw => ?_⟩) (by kernel_rfl) ?_
      · obtain ⟨hs0, hs1, hs2, hs3, hs4, hs5, hs6, hs7, hs8, hs9⟩ := hSw
        go_simp
      simp only [Act.put, List.setIfInBounds_toArray, List.set_cons_zero, List.set_cons_succ]
      refine Till.take_ (i := 2) (d := some 78) (v := .slice A l.length cap) (ls' := #[true, true, true, false, false, false, false, false, false, false, false, false, false, false, false, false, false, false]) rfl rfl (by kernel_rfl) (by kernel_rfl) (by kernel_rfl) (by kernel_rfl) (fun _ _ _ h => h) HS0.out (Or.inl ⟨by rfl, fun wq hSw => ?_⟩) (by kernel_rfl) ?_
      · obtain ⟨hs0, hs1, hs2, hs3, hs4, hs5, hs6, hs7, hs8, hs9⟩ := hSw
        go_simp
      simp only [Act.put, List.setIfInBounds_toArray, List.set_cons_zero, List.set_cons_succ]
      refine Till.take_ (i := 3) (d := some 79) (v := .slice A2 (l.length * 4) cap2) (ls' := #[true, true, true, true, false, false, false, false, false, false, false, false, false, false, false, false, false, false]) rfl rfl (by kernel_rfl) (by kernel_rfl) (by kernel_rfl) (by kernel_rfl) (fun _ _ _ h => h) HS0.out (Or.inl ⟨by rfl, fun wq hSw => ?_⟩) (by kernel_rfl) ?_
      · obtain ⟨hs0, hs1, hs2, hs3, hs4, hs5, hs6, hs7, hs8, hs9⟩ := hSw
        go_simp
      simp only [Act.put, List.setIfInBounds_toArray, List.set_cons_zero, List.set_cons_succ]
      refine Till.take_ (i := 4) (d := some 80) (v := .slice (some ⟨b3, o3, none⟩) ats.length c3) (ls' := #[true, true, true, true, true, false, false, false, false, false, false, false, false, false, false, false, false, false]) rfl rfl (by kernel_rfl) (by kernel_rfl) (by kernel_rfl) (by kernel_rfl) (fun _ _ _ h => h) HS0.out (Or.inl ⟨by rfl, fun wq hSw => ?_⟩) (by kernel_rfl) ?_
      · obtain ⟨hs0, hs1, hs2, hs3, hs4, hs5, hs6, hs7, hs8, hs9⟩ := hSw
        go_simp
      simp only [Act.put, List.setIfInBounds_toArray, List.set_cons_zero, List.set_cons_succ]
      refine Till.take_ (i := 5) (d := some 81) (v := .int .i64 k) (ls' := #[true, true, true, true, true, true, false, false, false, false, false, false, false, false, false, false, false, false]) rfl rfl (by kernel_rfl) (by kernel_rfl) (by kernel_rfl) (by kernel_rfl) (fun _ _ _ h => h) HS0.out (Or.inl ⟨by rfl, fun wq hSw => ?_⟩) (by kernel_rfl) ?_
      · obtain ⟨hs0, hs1, hs2, hs3, hs4, hs5, hs6, hs7, hs8, hs9⟩ := hSw
        go_simp
      simp only [Act.put, List.setIfInBounds_toArray, List.set_cons_zero, List.set_cons_succ]
      refine Till.take_ (i := 6) (d := some 82) (v := .pointer (some ⟨b3, o3 + k * 2, none⟩)) (ls' := #[true, true, true, true, true, true, true, false, false, false, false, false, false, false, false, false, false, false]) rfl rfl (by kernel_rfl) (by kernel_rfl) (by kernel_rfl) (by kernel_rfl) (fun _ _ _ h => h) HS0.out (Or.inl ⟨by rfl, fun wq hSw => ?_⟩) (by kernel_rfl) ?_
      · obtain ⟨hs0, hs1, hs2, hs3, hs4, hs5, hs6, hs7, hs8, hs9⟩ := hSw
        go_simp
      simp only [Act.put, List.setIfInBounds_toArray, List.set_cons_zero, List.set_cons_succ]
      refine Till.take_ (i := 7) (d := some 83) (v := .agg #[.int .i64 ats[k].data, .int .i64 ats[k].index]) (ls' := #[true, true, true, true, true, true, true, true, false, false, false, false, false, false, false, false, false, false]) rfl rfl (by kernel_rfl) (by kernel_rfl) (by kernel_rfl) (by kernel_rfl) (fun _ _ _ h => h) HS0.out (Or.inl ⟨by rfl, fun wq hSw => ?_⟩) (by kernel_rfl) ?_
      · obtain ⟨hs0, hs1, hs2, hs3, hs4, hs5, hs6, hs7, hs8, hs9⟩ := hSw
        go_simp
      simp only [Act.put, List.setIfInBounds_toArray, List.set_cons_zero, List.set_cons_succ]
      refine Till.take_ (i := 8) (d := some 84) (v := .pointer (some ⟨w.heap.size + 1, 5, none⟩)) (ls' := #[true, true, true, true, true, true, true, true, true, false, false, false, false, false, false, false, false, false]) rfl rfl (by kernel_rfl) (by kernel_rfl) (by kernel_rfl) (by kernel_rfl) (fun _ _ _ h => h) HS0.out (Or.inl ⟨by rfl, fun wq hSw => ?_⟩) (by kernel_rfl) ?_
      · obtain ⟨hs0, hs1, hs2, hs3, hs4, hs5, hs6, hs7, hs8, hs9⟩ := hSw
        go_simp
      simp only [Act.put, List.setIfInBounds_toArray, List.set_cons_zero, List.set_cons_succ]
      refine Till.take_ (i := 9) (d := some 85) (v := .slice (some ⟨b, off, none⟩) p.kids.length ep) (ls' := #[true, true, true, true, true, true, true, true, true, true, false, false, false, false, false, false, false, false]) rfl rfl (by kernel_rfl) (by kernel_rfl) (by kernel_rfl) (by kernel_rfl) (fun _ _ _ h => h) HS0.out (Or.inl ⟨by rfl, fun wq hSw => ?_⟩) (by kernel_rfl) ?_
      · obtain ⟨hs0, hs1, hs2, hs3, hs4, hs5, hs6, hs7, hs8, hs9⟩ := hSw
        go_simp
      simp only [Act.put, List.setIfInBounds_toArray, List.set_cons_zero, List.set_cons_succ]
      refine Till.take_ (i := 10) (d := some 86) (v := .int .i64 k) (ls' := #[true, true, true, true, true, true, true, true, true, true, true, false, false, false, false, false, false, false]) rfl rfl (by kernel_rfl) (by kernel_rfl) (by kernel_rfl) (by kernel_rfl) (fun _ _ _ h => h) HS0.out (Or.inl ⟨by rfl, fun wq hSw => ?_⟩) (by kernel_rfl) ?_
      · obtain ⟨hs0, hs1, hs2, hs3, hs4, hs5, hs6, hs7, hs8, hs9⟩ := hSw
        go_simp
      simp only [Act.put, List.setIfInBounds_toArray, List.set_cons_zero, List.set_cons_succ]
      refine Till.take_ (i := 11) (d := some 87) (v := .pointer (some ⟨b, off + k * 6, none⟩)) (ls' := #[true, true, true, true, true, true, true, true, true, true, true, true, false, false, false, false, false, false]) rfl rfl (by kernel_rfl) (by kernel_rfl) (by kernel_rfl) (by kernel_rfl) (fun _ _ _ h => h) HS0.out (Or.inl ⟨by rfl, fun wq hSw => ?_⟩) (by kernel_rfl) ?_
      · obtain ⟨hs0, hs1, hs2, hs3, hs4, hs5, hs6, hs7, hs8, hs9⟩ := hSw
        go_simp
      simp only [Act.put, List.setIfInBounds_toArray, List.set_cons_zero, List.set_cons_succ]
      refine Till.take_ (i := 12) (d := some 88) (v := .agg #[.int .i64 p.kids[k].op, .int .i64 p.kids[k].ctor, .int .i64 p.kids[k].n, .int .i64 p.kids[k].m, .int .i64 p.kids[k].var, .slice D' p.kids[k].kids.length cp]) (ls' := #[true, true, true, true, true, true, true, true, true, true, true, true, true, false, false, false, false, false]) rfl rfl (by kernel_rfl) (by kernel_rfl) (by kernel_rfl) (by kernel_rfl) (fun _ _ _ h => h) HS0.out (Or.inl ⟨by rfl, fun wq hSw => ?_⟩) (by kernel_rfl) ?_
      · obtain ⟨hs0, hs1, hs2, hs3, hs4, hs5, hs6, hs7, hs8, hs9⟩ := hSw
        go_simp
      simp only [Act.put, List.setIfInBounds_toArray, List.set_cons_zero, List.set_cons_succ]
      refine Till.all (rs := [13]) (by kernel_rfl) (by decide) (List.forall_mem_cons.2 ⟨?_, fun _ h => nomatch h⟩)
      refine Till.step rfl (by rfl) ?_
      intro K hK
      go_simp
      go_at_call 72
      with_reducible refine (HIH.out).mono ?_
      rintro e2 w2 ⟨A4, c4, rfl, ho4, hb4'⟩
      have hb4 : Below wr.heap.size wr w2 := ⟨hb4'.os, hb4'.tape, hb4'.output, hb4'.size, hb4'.block⟩
      have HS2 := Lib.hid (HKP.out w2 hb4)
      have HB4 := Lib.hid hb4
      have HO4 : Hid (OVs (d + 10) w2 (Nw wr w2) A4 (KS[k]'(by rw [HKL2.out]; exact hlt)).kids) := by unfold Hid; rw [HKA.out k hlt hkl]; exact ho4
      have hbz : wr.heap.size ≤ w2.heap.size := hb4.size
      clear hb4 hb4' ho4
      go_simp
      refine hK _ _ (fun _ => HS2.out) ?_
      clear hK K
      refine Till.all (rs := [14]) (by kernel_rfl) (by decide) (List.forall_mem_cons.2 ⟨?_, fun _ h => nomatch h⟩)
      refine Till.step rfl (by rfl) ?_
      intro K hK
      go_simp
      refine hK _ _ (fun _ => ⟨by have := HS2.out.1; go_keep, by have := HS2.out.2.1; go_keep, by have := HS2.out.2.2.1; go_keep, by have := HS2.out.2.2.2.1; go_keep, by have := HS2.out.2.2.2.2.1; go_keep, by have := HS2.out.2.2.2.2.2.1; go_keep, by have := HS2.out.2.2.2.2.2.2.1; go_keep, by have := HS2.out.2.2.2.2.2.2.2.1; go_keep, by have := HS2.out.2.2.2.2.2.2.2.2.1; go_keep, by have := HS2.out.2.2.2.2.2.2.2.2.2; go_keep⟩) ?_
      clear hK K
      refine Till.all (rs := [15]) (by kernel_rfl) (by decide) (List.forall_mem_cons.2 ⟨?_, fun _ h => nomatch h⟩)
      refine Till.step rfl (by rfl) ?_
      intro K hK
      refine wp_append_own (.tmp 77) (.tmp 90) 49 (by rfl) wl.heap.size 51 i0 (.agg #[.int .i64 0, .int .i64 0, .slice none 0 0]) 3 40 Tryz.underlying49 hi0 hz0 hz1 hz2 (by rfl) (by decide) (.slice Ak k ck) k ys (by rfl) (own_at HOW.out (HKB.out w2 _ HB4.out)) ⟨w2.heap.size, 0, none⟩ 1 1 [.int .i64 (svP l d ats[k] p.kids[k]).ctor, .int .i64 (svP l d ats[k] p.kids[k]).n, .slice A4 (svP l d ats[k] p.kids[k]).kids.length c4] (by rfl) rfl (cell_three_new _ _ _ _ _) (by intro u hu; simp at hu; rcases hu with rfl | rfl | rfl <;> rfl) (by unfold maxLen; omega) (by omega) (by simp; omega) ?_
      intro v4 w4 hown4 hgr4 hat4
      obtain ⟨A5, c5, rfl, hg4, hbl4⟩ := BldV.step HGL.out HFR.out HGC.out HOW.out HRW.out (by rw [HKL2.out]; exact hlt) HB4.out HO4.out (by rw [HKA.out k hlt hkl]; exact hown4) hgr4 hat4
      have HS4 := Lib.hid (And.intro ((cell_of_blk hg4 2).trans rfl) (HKC.out w2 w4 _ HB4.out hgr4))
      have hfz : w4.frozen? ⟨g, 2, none⟩ = false := frozen_of_row w4 g 2 _ 51 hg4
      have c4x := HS4.out.1
      have HBL := Lib.hid hbl4
      clear hown4 hgr4 hat4 hg4 hbl4
      refine hK _ _ (fun _ => HS4.out) ?_
      clear hK K
      refine Till.all (rs := [16]) (by kernel_rfl) (by decide) (List.forall_mem_cons.2 ⟨?_, fun _ h => nomatch h⟩)
      refine Till.step rfl (by rfl) ?_
      intro K hK
      go_simp
      refine hK _ _ (fun _ => HS4.out) ?_
      clear hK K
      refine Till.all (rs := [17]) (by kernel_rfl) (by decide) (List.forall_mem_cons.2 ⟨?_, fun _ h => nomatch h⟩)
      refine Till.step rfl (by rfl) ?_
      intro K hK
      go_simp
      refine hK _ _ (fun h => absurd rfl h) ?_
      clear hK K
      refine Till.done (by kernel_rfl) ?_ _
      clear c4x hfz HS4 HS2
      go_wp2_with fail
      go_roundw
      case rel => exact ⟨k + 1, by omega, by go_num, HBL.out⟩
      case measure => simp [intOf]; omega
    · have hke : k = ats.length := by omega
      obtain ⟨A6, c6, hg6, ho6, hf6⟩ := HBd.out.all (by rw [HKL2.out]; exact hke) (by rw [HKL2.out]; omega)
      have hr6 : wr.heap[w.heap.size + 2]? = some (.cells #[.int .i64 0, .int .i64 0, .slice none 0 0] 51 (0, 0)) := hf6.block HXR4.out (by omega)
      have hF := Lib.hid hf6
      have HO6 := Lib.hid ho6
      have g0 := (cell_of_blk hg6 0).trans rfl
      have g1 := (cell_of_blk hg6 1).trans rfl
      have g2 := (cell_of_blk hg6 2).trans rfl
      have r0 := (cell_of_blk hr6 0).trans rfl
      have r1 := (cell_of_blk hr6 1).trans rfl
      have r2 := (cell_of_blk hr6 2).trans rfl
      have f0 := frozen_of_row wr (w.heap.size + 2) 0 _ 51 hr6
      have f1 := frozen_of_row wr (w.heap.size + 2) 1 _ 51 hr6
      have f2 := frozen_of_row wr (w.heap.size + 2) 2 _ 51 hr6
      have hkI : (ats.length : Int) ≤ (k : Int) := by omega
      have hbwr : Below w.heap.size w wr := hbw4.trans (hf6.to (by have := hbw4.size; omega) (fun b h => by omega))
      clear hke hg6 ho6 hf6
      go_wp2_with fail
      refine bodyPost_ret (v := .agg #[.int .i64 p.ctor, .int .i64 0, .slice A6 KS.length c6]) (by simp [results, Tryz.results72, go_sem, r0, r1, r2]) rfl (SvQ.put (v := .mk p.ctor 0 KS) HF.out HO6.out (fun b hq => ⟨by have := hq.1; omega, hq.2, by have := hq.1; omega⟩) (by omega) (((Fr.set (P := fun b => b = w.heap.size + 2) _ _ _ _ rfl).trans (Fr.set _ _ _ _ rfl)).trans (Fr.set _ _ _ _ rfl)) ?_)
      refine Below.setCell (Below.setCell (Below.setCell hbwr ?_ _) ?_ _) ?_ _ <;> (simp <;> omega)
theorem svS_any (l : List Da) : ∀ d, SvS l d
  | 0 => fun A A2 D T cap cap2 ep e t p w hr hT hS ht hs hm hlo hv => by rw [shP_zero] at hs; cases hs
  | d + 1 => fun A A2 D T cap cap2 ep e t p w hr hT hS ht hs hm hlo hv => by
    have ih := svS_any l d
    rcases own_ops (shP_parts hs).1 with h | h | h | h | h | h
    · exact svS_1 l d ih A A2 D T cap cap2 ep e t p w hr hT hS ht hs hm hlo hv h
    · exact svS_2 l d ih A A2 D T cap cap2 ep e t p w hr hT hS ht hs hm hlo hv h
    · exact svS_3 l d ih A A2 D T cap cap2 ep e t p w hr hT hS ht hs hm hlo hv h
    · exact svS_4 l d ih A A2 D T cap cap2 ep e t p w hr hT hS ht hs hm hlo hv h
    · by_cases hc : smP l d t (p.kids.getD 0 default) = true
      · exact svS_50 l d ih A A2 D T cap cap2 ep e t p w hr hT hS ht hs hm hlo hv hc h
      · exact svS_51 l d ih A A2 D T cap cap2 ep e t p w hr hT hS ht hs hm hlo hv (by simpa using hc) h
    · exact svS_6 l d ih A A2 D T cap cap2 ep e t p w hr hT hS ht hs hm hlo hv h
end Go.Proofs.YthecfkdilbfimaaGreat
