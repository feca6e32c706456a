/-
  Two patterns are drawn: the document's function. No statement is proved here.
-/
import Derived.Test.YtbeejeialjfdnaaW15
import Derived.Test.YtbeejeialjfdnaaW16
import Derived.Test.YtbeejeialjfdnaaW14
import Derived.Test.YtbeejeialjfdnaaW00
import Derived.Test.YtbeejeialjfdnaaW01
import Derived.Test.YtbeejeialjfdnaaW11
import Derived.Test.YtbeejeialjfdnaaW07
namespace Go.Proofs.Ytbeejeialjfdnaa
open Go.RowKit Go.Sort Go.Deep
set_option maxRecDepth 100000
set_option linter.unusedVariables false
theorem wPs_len (l : List Pt) : l.length ≤ wPs l := by rw [wPs_sum]; omega
/-- Two patterns. -/
def GotPP (w : World) (e : Ending) (w' : World) : Prop := ∃ (p q : Pt) (A A' : Option Addr) (c c' : Nat) (PP QQ : Nat → Prop), e = .returned (.tuple #[.agg #[.int .i64 p.op, .int .i64 p.ctor, .int .i64 p.n, .int .i64 p.m, .int .i64 p.var, .slice A p.kids.length c], .agg #[.int .i64 q.op, .int .i64 q.ctor, .int .i64 q.n, .int .i64 q.m, .int .i64 q.var, .slice A' q.kids.length c']]) ∧ OPs 10 w' PP A p.kids ∧ OPs 10 w' QQ A' q.kids ∧ (∀ b, PP b → b < w'.heap.size) ∧ (∀ b, QQ b → b < w'.heap.size) ∧ wP p ≤ 1000 ∧ wP q ≤ 1000 ∧ Below w.heap.size w w'
def ZPa (w : World) (a : Nat) : Prop := w.heap[a]? = some (.cells #[.int .i64 0, .int .i64 0, .int .i64 0, .int .i64 0, .int .i64 0, .slice none 0 0] 50 (0, 0))
theorem ZPa.frP {w w' : World} {a rb : Nat} (h : ZPa w a) (hf : Fr (fun b => b = rb) w w') (hne : a ≠ rb) : w'.heap[a]? = some (.cells #[.int .i64 0, .int .i64 0, .int .i64 0, .int .i64 0, .int .i64 0, .slice none 0 0] 50 (0, 0)) := hf.block h hne
set_option maxHeartbeats 16000000 in
theorem drawPS_any (n cap : Nat) (A : Option Addr) (w : World) (hn : n ≤ maxLen) (hc : n ≤ cap) (h : RBy w w.heap.size A n) : Calls Try.prog 34 #[.slice A n cap] w (GotPP w) := by
  have HC := Lib.hid hc
  have HNM := Lib.hid hn
  generalize hwx : (w.alloc (.cells #[.int .i64 0, .int .i64 0, .int .i64 0, .int .i64 0, .int .i64 0, .slice none 0 0] 50)).alloc (.cells #[.int .i64 0, .int .i64 0, .int .i64 0, .int .i64 0, .int .i64 0, .slice none 0 0] 50) = wx
  have hbx := below_box2 hwx
  have HBY : Hid (RBy wx w.heap.size A n) := h.below hbx
  have HSX : Hid (wx.heap.size = w.heap.size + 2) := by unfold Hid; rw [← hwx]; simp
  have HZAx : Hid (ZPa wx w.heap.size) := by unfold Hid ZPa; rw [← hwx]; exact (Below.heap_alloc _ _ _ (by simp)).trans (heap_alloc_new w _)
  have HZBx : Hid (ZPa wx (w.heap.size + 1)) := by
    have h := heap_alloc_new (w.alloc (.cells #[.int .i64 0, .int .i64 0, .int .i64 0, .int .i64 0, .int .i64 0, .slice none 0 0] 50)) (.cells #[.int .i64 0, .int .i64 0, .int .i64 0, .int .i64 0, .int .i64 0, .slice none 0 0] 50)
    rw [World.size_alloc] at h
    unfold Hid ZPa; rw [← hwx]; exact h
  have HBX := Lib.hid hbx
  have HWX := Lib.hid hwx
  clear hwx hbx h hc hn
  go_enter Try.func34, Try.ntmps34
  go_wp2_with fail
  rw [HWX.out]
  refine (open_any w.heap.size n cap A wx HNM.out HC.out HBY.out (by have := HSX.out; omega)).mono ?_
  rintro e w1 ⟨rfl, hR1, hb1⟩
  have hsx := HSX.out
  have hs1 := hb1.size
  have hr1l : wx.heap.size < w1.heap.size := hR1.lt
  have HB1 := Lib.hid hb1
  have HR1 := Lib.hid hR1
  clear hb1 hR1
  go_wp2_with fail
  rw [hsx] at HR1 hs1 hr1l
  clear hsx
  generalize hrb : w.heap.size + 2 = rb at HR1 hs1 hr1l ⊢
  have hsx : w.heap.size + 2 ≤ rb := by omega
  have hsx2 : rb ≤ w.heap.size + 2 := by omega
  have HRB := Lib.hid hrb
  clear hrb
  refine (l3Typed_any rb w.heap.size 0 w1 HR1.out (by omega)).mono ?_
  rintro e w2 ⟨l, t, pp, v, Aw, A5, Av, cw, c5, cv, rfl, h7, hod, htok, hinh, hfit, hcap, hov, hisp, hwp, hop, hR2, hf2⟩
  obtain ⟨hw, hl0, _⟩ := h7.ok
  have HW := Lib.hid hw
  have HTOK := Lib.hid htok
  have HWP := Lib.hid hwp
  have hs2 := hf2.size
  generalize hwb : ((w2.alloc (.cells #[.int .i64 t.data, .int .i64 t.index] 25)).alloc (.cells #[.int .i64 pp.op, .int .i64 pp.ctor, .int .i64 pp.n, .int .i64 pp.m, .int .i64 pp.var, .slice A5 pp.kids.length c5] 50)).alloc (.cells #[.int .i64 v.ctor, .int .i64 v.n, .slice Av v.kids.length cv] 28) = wb
  have hbb : Below w2.heap.size w2 wb := by rw [← hwb]; exact (((Below.refl _ _).alloc (Nat.le_refl _) _).alloc (by simp) _).alloc (by simp <;> omega) _
  have HSB : Hid (wb.heap.size = w2.heap.size + 3) := by unfold Hid; rw [← hwb]; simp
  have hTb : wb.heap[w2.heap.size]? = some (.cells #[.int .i64 t.data, .int .i64 t.index] 25 (0, 0)) := by rw [← hwb]; exact (Below.heap_alloc _ _ _ (by simp <;> omega)).trans ((Below.heap_alloc _ _ _ (by simp)).trans (heap_alloc_new w2 _))
  have hVb : wb.heap[w2.heap.size + 1]? = some (.cells #[.int .i64 pp.op, .int .i64 pp.ctor, .int .i64 pp.n, .int .i64 pp.m, .int .i64 pp.var, .slice A5 pp.kids.length c5] 50 (0, 0)) := by
    have h := heap_alloc_new (w2.alloc (.cells #[.int .i64 t.data, .int .i64 t.index] 25)) (.cells #[.int .i64 pp.op, .int .i64 pp.ctor, .int .i64 pp.n, .int .i64 pp.m, .int .i64 pp.var, .slice A5 pp.kids.length c5] 50)
    rw [World.size_alloc] at h
    rw [← hwb]; exact (Below.heap_alloc _ _ _ (by simp)).trans h
  have HODb : Hid (ODas wb w1.heap.size (.slice Aw l.length cw) l) := hod.keepT ((Stays.below hbb).keepT T28)
  have HOPb : Hid (OPs 8 wb (fun b => w1.heap.size ≤ b ∧ b < w2.heap.size) A5 pp.kids) := hop.fr _ (Fr.below (P := fun _ => False) hbb) (fun _ _ h => h)
  have hfx1 : Fr (fun b => b = rb) wx wb := ((Fr.below HB1.out).trans hf2).trans (Fr.below hbb)
  have HFb : Hid (Fr (fun b => b = rb) w wb) := (Fr.below HBX.out).trans hfx1
  have HZAb : Hid (ZPa wb w.heap.size) := HZAx.out.frP hfx1 (by omega)
  have HZBb : Hid (ZPa wb (w.heap.size + 1)) := HZBx.out.frP hfx1 (by omega)
  have HTb := Lib.hid hTb
  have HVb := Lib.hid hVb
  have HRb := Lib.hid (hR2.below hbb)
  have HWB := Lib.hid hwb
  clear h7 hod htok hinh hfit hcap hov hisp hwp hop hR2 hf2 hw hl0 hwb hbb hTb hVb hfx1
  have hsb := HSB.out
  go_wp2_with fail
  rw [HWB.out]
  refine (pick_any rb w.heap.size (0 + 645) 2 wb HRb.out (by omega)).mono ?_
  rintro e wp ⟨k1, rfl, hk1, hRp, hgp⟩
  have hfp : Fr (fun b => b = rb) wb wp := Fr.grown hgp (fun b e => by injection e)
  have HFP : Hid (Fr (fun b => b = rb) w wp) := HFb.out.trans hfp
  have HZA : Hid (ZPa wp w.heap.size) := HZAb.out.frP hfp (by omega)
  have HZB : Hid (ZPa wp (w.heap.size + 1)) := HZBb.out.frP hfp (by omega)
  have HRP := Lib.hid hRp
  have HOP : Hid (OPs 8 wp (fun b => w1.heap.size ≤ b ∧ b < w2.heap.size) A5 pp.kids) := HOPb.out.fr _ hfp (fun b hb e => by have := hb.1; omega)
  have hTp : wp.heap[w2.heap.size]? = some (.cells #[.int .i64 t.data, .int .i64 t.index] 25 (0, 0)) := hfp.block HTb.out (by omega)
  have hVp : wp.heap[w2.heap.size + 1]? = some (.cells #[.int .i64 pp.op, .int .i64 pp.ctor, .int .i64 pp.n, .int .i64 pp.m, .int .i64 pp.var, .slice A5 pp.kids.length c5] 50 (0, 0)) := hfp.block HVb.out (by omega)
  have hsp := hfp.size
  have HKS : Hid (∀ w', Fr (fun b => (¬ b = w2.heap.size ∧ ¬ b = w2.heap.size + 1)) wp w' → w'.cell? ⟨w2.heap.size, 0, none⟩ = some (.int .i64 t.data) ∧ w'.cell? ⟨w2.heap.size, 1, none⟩ = some (.int .i64 t.index) ∧ w'.cell? ⟨w2.heap.size + 1, 0, none⟩ = some (.int .i64 pp.op) ∧ w'.cell? ⟨w2.heap.size + 1, 1, none⟩ = some (.int .i64 pp.ctor) ∧ w'.cell? ⟨w2.heap.size + 1, 2, none⟩ = some (.int .i64 pp.n) ∧ w'.cell? ⟨w2.heap.size + 1, 3, none⟩ = some (.int .i64 pp.m) ∧ w'.cell? ⟨w2.heap.size + 1, 4, none⟩ = some (.int .i64 pp.var) ∧ w'.cell? ⟨w2.heap.size + 1, 5, none⟩ = some (.slice A5 pp.kids.length c5)) := fun w' h => by
    have e1 : w'.heap[w2.heap.size]? = some (.cells #[.int .i64 t.data, .int .i64 t.index] 25 (0, 0)) := h.block hTp (by omega)
    have e2 : w'.heap[w2.heap.size + 1]? = some (.cells #[.int .i64 pp.op, .int .i64 pp.ctor, .int .i64 pp.n, .int .i64 pp.m, .int .i64 pp.var, .slice A5 pp.kids.length c5] 50 (0, 0)) := h.block hVp (by omega)
    obtain ⟨p0, p1, p2, p3, p4, p5, _⟩ := cellsP e2
    exact ⟨(cell_of_blk e1 0).trans rfl, (cell_of_blk e1 1).trans rfl, p0, p1, p2, p3, p4, p5⟩
  have HODp : Hid (ODas wp w1.heap.size (.slice Aw l.length cw) l) := HODb.out.keepT ((Stays.fr hfp (by omega)).keepT T28)
  have SA0 := HKS.out wp (Fr.refl _ _)
  have SB0 : wp.drew.cell? ⟨w2.heap.size, 0, none⟩ = some (.int .i64 t.data) ∧ wp.drew.cell? ⟨w2.heap.size, 1, none⟩ = some (.int .i64 t.index) ∧ wp.drew.cell? ⟨w2.heap.size + 1, 0, none⟩ = some (.int .i64 pp.op) ∧ wp.drew.cell? ⟨w2.heap.size + 1, 1, none⟩ = some (.int .i64 pp.ctor) ∧ wp.drew.cell? ⟨w2.heap.size + 1, 2, none⟩ = some (.int .i64 pp.n) ∧ wp.drew.cell? ⟨w2.heap.size + 1, 3, none⟩ = some (.int .i64 pp.m) ∧ wp.drew.cell? ⟨w2.heap.size + 1, 4, none⟩ = some (.int .i64 pp.var) ∧ wp.drew.cell? ⟨w2.heap.size + 1, 5, none⟩ = some (.slice A5 pp.kids.length c5) := SA0
  clear hRp hgp hfp hTp hVp hk1
  by_cases hk0 : k1 = 0
  · have q0 : ((k1 : Int) == 0) = true := ieq_t (by omega)
    have HROB : Hid (RobW wp w1.heap.size Aw l) := fun w' hs => by
      obtain ⟨A', c', e, hrd⟩ := HODp.out.lies (by have := HW.out.1; unfold maxLen; omega)
      injection e with e1 e2 e3
      subst e1
      exact hrd w' hs
    have HSM : Hid (Calls Try.prog 71 #[.pointer (some ⟨rb, 0, none⟩), .slice Aw l.length cw, .agg #[.int .i64 t.data, .int .i64 t.index]] wp.drew (SomeQ l t w.heap.size rb (0 + 645 + 1) wp.drew)) := sm_any l HW.out Aw cw t w1.heap.size w.heap.size rb (0 + 645 + 1) wp.drew (fun w' hs => HROB.out w' hs) (by omega) HTOK.out HRP.out.drew (by omega)
    go_wp2_with fail
    go_region_held3 (fun w' => w'.cell? ⟨w2.heap.size, 0, none⟩ = some (.int .i64 t.data) ∧ w'.cell? ⟨w2.heap.size, 1, none⟩ = some (.int .i64 t.index) ∧ w'.cell? ⟨w2.heap.size + 1, 0, none⟩ = some (.int .i64 pp.op) ∧ w'.cell? ⟨w2.heap.size + 1, 1, none⟩ = some (.int .i64 pp.ctor) ∧ w'.cell? ⟨w2.heap.size + 1, 2, none⟩ = some (.int .i64 pp.n) ∧ w'.cell? ⟨w2.heap.size + 1, 3, none⟩ = some (.int .i64 pp.m) ∧ w'.cell? ⟨w2.heap.size + 1, 4, none⟩ = some (.int .i64 pp.var) ∧ w'.cell? ⟨w2.heap.size + 1, 5, none⟩ = some (.slice A5 pp.kids.length c5)) (first | with_reducible exact SQ | with_reducible exact SA0 | with_reducible exact SB0 | with_reducible exact SQ1 | with_reducible exact SQ2 | go_keep) (first | (go_at_call 71; (with_reducible refine (HSM.out).mono ?_); rintro e w6 ⟨qq, A6, c6, rfl, hv6, hz6, ho6, hR', hf''⟩; have hf' : Fr (fun b => b = rb) wp w6 := ⟨hf''.1, hf''.2.1, hf''.2.2.1, hf''.2.2.2.1, hf''.2.2.2.2⟩; have HF6 := Lib.hid hf'; have HZ6 := Lib.hid hz6; have HO6 : Hid (OPs 8 w6 (Nw wp w6) A6 qq.kids) := ho6; have hs6 := hf'.size; have hfw : Fr (fun b => (¬ b = w2.heap.size ∧ ¬ b = w2.heap.size + 1)) wp w6 := (hf').wide (fun b hb => by have hb' : b = rb := hb; omega); have SQ := HKS.out _ hfw; have hfw1 : Fr (fun b => (¬ b = w2.heap.size ∧ ¬ b = w2.heap.size + 1)) wp ((((((w6.setCell ⟨w.heap.size, 0, none⟩ (.int .i64 pp.op)).setCell ⟨w.heap.size, 1, none⟩ (.int .i64 pp.ctor)).setCell ⟨w.heap.size, 2, none⟩ (.int .i64 pp.n)).setCell ⟨w.heap.size, 3, none⟩ (.int .i64 pp.m)).setCell ⟨w.heap.size, 4, none⟩ (.int .i64 pp.var)).setCell ⟨w.heap.size, 5, none⟩ (.slice A5 pp.kids.length c5)) := (((((hfw.setOf (by omega)).setOf (by omega)).setOf (by omega)).setOf (by omega)).setOf (by omega)).setOf (by omega); have SQ1 := HKS.out _ hfw1; have SQ2 := HKS.out _ (show Fr (fun b => (¬ b = w2.heap.size ∧ ¬ b = w2.heap.size + 1)) wp ((((((((((((w6.setCell ⟨w.heap.size, 0, none⟩ (.int .i64 pp.op)).setCell ⟨w.heap.size, 1, none⟩ (.int .i64 pp.ctor)).setCell ⟨w.heap.size, 2, none⟩ (.int .i64 pp.n)).setCell ⟨w.heap.size, 3, none⟩ (.int .i64 pp.m)).setCell ⟨w.heap.size, 4, none⟩ (.int .i64 pp.var)).setCell ⟨w.heap.size, 5, none⟩ (.slice A5 pp.kids.length c5)).setCell ⟨w.heap.size + 1, 0, none⟩ (.int .i64 qq.op)).setCell ⟨w.heap.size + 1, 1, none⟩ (.int .i64 qq.ctor)).setCell ⟨w.heap.size + 1, 2, none⟩ (.int .i64 qq.n)).setCell ⟨w.heap.size + 1, 3, none⟩ (.int .i64 qq.m)).setCell ⟨w.heap.size + 1, 4, none⟩ (.int .i64 qq.var)).setCell ⟨w.heap.size + 1, 5, none⟩ (.slice A6 qq.kids.length c6)) from (((((hfw1.setOf (by omega)).setOf (by omega)).setOf (by omega)).setOf (by omega)).setOf (by omega)).setOf (by omega)); have hza := HZA.out.frP (hf') (by omega); have hzb := HZB.out.frP (hf') (by omega); have HZA' := Lib.hid hza; have HZB' := Lib.hid hzb; obtain ⟨a0, a1, a2, a3, a4, a5, a6, a7, a8, a9, a10, a11⟩ := cellsP hza; obtain ⟨b0, b1, b2, b3, b4, b5, b6, b7, b8, b9, b10, b11⟩ := cellsP hzb; clear hfw hfw1 hza hzb; clear hf' hf'' hv6 hz6 ho6 hR'))
    all_goals
      have hfs : Fr (fun b => b = w.heap.size ∨ b = w.heap.size + 1) w6 ((((((((((((w6.setCell ⟨w.heap.size, 0, none⟩ (.int .i64 pp.op)).setCell ⟨w.heap.size, 1, none⟩ (.int .i64 pp.ctor)).setCell ⟨w.heap.size, 2, none⟩ (.int .i64 pp.n)).setCell ⟨w.heap.size, 3, none⟩ (.int .i64 pp.m)).setCell ⟨w.heap.size, 4, none⟩ (.int .i64 pp.var)).setCell ⟨w.heap.size, 5, none⟩ (.slice A5 pp.kids.length c5)).setCell ⟨w.heap.size + 1, 0, none⟩ (.int .i64 qq.op)).setCell ⟨w.heap.size + 1, 1, none⟩ (.int .i64 qq.ctor)).setCell ⟨w.heap.size + 1, 2, none⟩ (.int .i64 qq.n)).setCell ⟨w.heap.size + 1, 3, none⟩ (.int .i64 qq.m)).setCell ⟨w.heap.size + 1, 4, none⟩ (.int .i64 qq.var)).setCell ⟨w.heap.size + 1, 5, none⟩ (.slice A6 qq.kids.length c6)) := ((Fr.six _ _ _ _ _ _ _ _).wide (fun b hb => .inl hb)).trans ((Fr.six _ _ _ _ _ _ _ _).wide (fun b hb => .inr hb))
      have h1 : ((((((((((((w6.setCell ⟨w.heap.size, 0, none⟩ (.int .i64 pp.op)).setCell ⟨w.heap.size, 1, none⟩ (.int .i64 pp.ctor)).setCell ⟨w.heap.size, 2, none⟩ (.int .i64 pp.n)).setCell ⟨w.heap.size, 3, none⟩ (.int .i64 pp.m)).setCell ⟨w.heap.size, 4, none⟩ (.int .i64 pp.var)).setCell ⟨w.heap.size, 5, none⟩ (.slice A5 pp.kids.length c5)).setCell ⟨w.heap.size + 1, 0, none⟩ (.int .i64 qq.op)).setCell ⟨w.heap.size + 1, 1, none⟩ (.int .i64 qq.ctor)).setCell ⟨w.heap.size + 1, 2, none⟩ (.int .i64 qq.n)).setCell ⟨w.heap.size + 1, 3, none⟩ (.int .i64 qq.m)).setCell ⟨w.heap.size + 1, 4, none⟩ (.int .i64 qq.var)).setCell ⟨w.heap.size + 1, 5, none⟩ (.slice A6 qq.kids.length c6)).heap[w.heap.size]? = some (.cells #[.int .i64 pp.op, .int .i64 pp.ctor, .int .i64 pp.n, .int .i64 pp.m, .int .i64 pp.var, .slice A5 pp.kids.length c5] 50 (0, 0)) := (Fr.six _ _ _ _ _ _ _ _).block (ZP.put HZA'.out _ _ _ _ _ _) (by omega)
      have h2 : ((((((((((((w6.setCell ⟨w.heap.size, 0, none⟩ (.int .i64 pp.op)).setCell ⟨w.heap.size, 1, none⟩ (.int .i64 pp.ctor)).setCell ⟨w.heap.size, 2, none⟩ (.int .i64 pp.n)).setCell ⟨w.heap.size, 3, none⟩ (.int .i64 pp.m)).setCell ⟨w.heap.size, 4, none⟩ (.int .i64 pp.var)).setCell ⟨w.heap.size, 5, none⟩ (.slice A5 pp.kids.length c5)).setCell ⟨w.heap.size + 1, 0, none⟩ (.int .i64 qq.op)).setCell ⟨w.heap.size + 1, 1, none⟩ (.int .i64 qq.ctor)).setCell ⟨w.heap.size + 1, 2, none⟩ (.int .i64 qq.n)).setCell ⟨w.heap.size + 1, 3, none⟩ (.int .i64 qq.m)).setCell ⟨w.heap.size + 1, 4, none⟩ (.int .i64 qq.var)).setCell ⟨w.heap.size + 1, 5, none⟩ (.slice A6 qq.kids.length c6)).heap[w.heap.size + 1]? = some (.cells #[.int .i64 qq.op, .int .i64 qq.ctor, .int .i64 qq.n, .int .i64 qq.m, .int .i64 qq.var, .slice A6 qq.kids.length c6] 50 (0, 0)) := ZP.put ((Fr.six _ _ _ _ _ _ _ _).block HZB'.out (by omega)) _ _ _ _ _ _
      generalize ((((((((((((w6.setCell ⟨w.heap.size, 0, none⟩ (.int .i64 pp.op)).setCell ⟨w.heap.size, 1, none⟩ (.int .i64 pp.ctor)).setCell ⟨w.heap.size, 2, none⟩ (.int .i64 pp.n)).setCell ⟨w.heap.size, 3, none⟩ (.int .i64 pp.m)).setCell ⟨w.heap.size, 4, none⟩ (.int .i64 pp.var)).setCell ⟨w.heap.size, 5, none⟩ (.slice A5 pp.kids.length c5)).setCell ⟨w.heap.size + 1, 0, none⟩ (.int .i64 qq.op)).setCell ⟨w.heap.size + 1, 1, none⟩ (.int .i64 qq.ctor)).setCell ⟨w.heap.size + 1, 2, none⟩ (.int .i64 qq.n)).setCell ⟨w.heap.size + 1, 3, none⟩ (.int .i64 qq.m)).setCell ⟨w.heap.size + 1, 4, none⟩ (.int .i64 qq.var)).setCell ⟨w.heap.size + 1, 5, none⟩ (.slice A6 qq.kids.length c6)) = wf at hfs h1 h2 ⊢
      have hsf := hfs.size
      have HFIN : Hid (GotPP w (.returned (.tuple #[.agg #[.int .i64 pp.op, .int .i64 pp.ctor, .int .i64 pp.n, .int .i64 pp.m, .int .i64 pp.var, .slice A5 pp.kids.length c5], .agg #[.int .i64 qq.op, .int .i64 qq.ctor, .int .i64 qq.n, .int .i64 qq.m, .int .i64 qq.var, .slice A6 qq.kids.length c6]])) wf) := by
        have hfr := HF6.out
        have hsr := hfr.size
        have hfp : Fr (fun b => w.heap.size ≤ b) w wf := ((HFP.out.wide (fun b hb => by have hb' : b = rb := hb; show w.heap.size ≤ b; omega)).trans (hfr.wide (fun b hb => by have hb' : b = rb := hb; show w.heap.size ≤ b; omega))).trans (hfs.wide (fun b hb => by show w.heap.size ≤ b; omega))
        refine ⟨pp, qq, A5, A6, c5, c6, (fun b => w1.heap.size ≤ b ∧ b < w2.heap.size), (fun b => w1.heap.size ≤ b ∧ b < w6.heap.size ∧ b ≠ rb), rfl, ((((HOP.out.fr _ hfr (fun b hb e => by have := hb.1; omega)).fr _ hfs (fun b hb e => by have := hb.1; omega)).more (by omega))), (((HO6.out.wide _ (fun b hb => ⟨by have := hb.1; omega, hb.2, by have := hb.1; omega⟩)).more (by omega) : OPs 10 w6 (fun b => w1.heap.size ≤ b ∧ b < w6.heap.size ∧ b ≠ rb) A6 qq.kids)).fr _ hfs (fun b hb e => by have := hb.1; omega), (fun b hb => by have := hb.2; omega), (fun b hb => by have := hb.2.1; omega), by have := HWP.out; omega, by have := HZ6.out; omega, hfp.to (Nat.le_refl _) (fun b hb hc => by have hc' : w.heap.size ≤ b := hc; omega)⟩
      obtain ⟨r0, r1, r2, r3, r4, r5, _⟩ := cellsP h1
      obtain ⟨s0, s1, s2, s3, s4, s5, _⟩ := cellsP h2
      clear hfs h1 h2
      go_wp2_with fail
      exact bodyPost_ret (v := .tuple #[.agg #[.int .i64 pp.op, .int .i64 pp.ctor, .int .i64 pp.n, .int .i64 pp.m, .int .i64 pp.var, .slice A5 pp.kids.length c5], .agg #[.int .i64 qq.op, .int .i64 qq.ctor, .int .i64 qq.n, .int .i64 qq.m, .int .i64 qq.var, .slice A6 qq.kids.length c6]]) (by simp [results, Try.results34, go_sem, r0, r1, r2, r3, r4, r5, s0, s1, s2, s3, s4, s5]) rfl HFIN.out
  · have q0 : ((k1 : Int) == 0) = false := ieq_f (by omega)
    have hkl := wPs_len pp.kids
    have hkw := wP_kids pp
    have HM1 : Hid (Calls Try.prog 69 #[.pointer (some ⟨rb, 0, none⟩), .agg #[.int .i64 pp.op, .int .i64 pp.ctor, .int .i64 pp.n, .int .i64 pp.m, .int .i64 pp.var, .slice A5 pp.kids.length c5]] wp.drew (PmQ 7 (fun b => w1.heap.size ≤ b ∧ b < w2.heap.size) pp w.heap.size rb (0 + 645 + 1) wp.drew)) := pm_any 7 pp A5 c5 (fun b => w1.heap.size ≤ b ∧ b < w2.heap.size) w.heap.size rb (0 + 645 + 1) wp.drew HOP.out (fun b hb => by have h1 := hb.1; have h2 := hb.2; have : wp.drew.heap.size = wp.heap.size := rfl; omega) HRP.out.drew (by omega) (by have := HWP.out; omega)
    clear hkl hkw
    go_wp2_with fail
    go_region_held3 (fun w' => w'.cell? ⟨w2.heap.size, 0, none⟩ = some (.int .i64 t.data) ∧ w'.cell? ⟨w2.heap.size, 1, none⟩ = some (.int .i64 t.index) ∧ w'.cell? ⟨w2.heap.size + 1, 0, none⟩ = some (.int .i64 pp.op) ∧ w'.cell? ⟨w2.heap.size + 1, 1, none⟩ = some (.int .i64 pp.ctor) ∧ w'.cell? ⟨w2.heap.size + 1, 2, none⟩ = some (.int .i64 pp.n) ∧ w'.cell? ⟨w2.heap.size + 1, 3, none⟩ = some (.int .i64 pp.m) ∧ w'.cell? ⟨w2.heap.size + 1, 4, none⟩ = some (.int .i64 pp.var) ∧ w'.cell? ⟨w2.heap.size + 1, 5, none⟩ = some (.slice A5 pp.kids.length c5)) (first | with_reducible exact SQ | with_reducible exact SA0 | with_reducible exact SB0 | with_reducible exact SQ1 | with_reducible exact SQ2 | go_keep) (first | (go_at_call 69; (with_reducible refine (HM2.out).mono ?_); rintro e w7 ⟨qq, A6, c6, rfl, hz7, ho7, hR', hf''⟩; have hf' := HF6.out.trans hf''; have HF7 := Lib.hid hf'; have HZ7 := Lib.hid hz7; have HO7 := Lib.hid ho7; have hs7 := hf''.size; have hfw : Fr (fun b => (¬ b = w2.heap.size ∧ ¬ b = w2.heap.size + 1)) wp w7 := (hf').wide (fun b hb => by have hb' : b = rb := hb; omega); have SQ := HKS.out _ hfw; have hfw1 : Fr (fun b => (¬ b = w2.heap.size ∧ ¬ b = w2.heap.size + 1)) wp ((((((w7.setCell ⟨w.heap.size, 0, none⟩ (.int .i64 pp.op)).setCell ⟨w.heap.size, 1, none⟩ (.int .i64 pp.ctor)).setCell ⟨w.heap.size, 2, none⟩ (.int .i64 pp.n)).setCell ⟨w.heap.size, 3, none⟩ (.int .i64 pp.m)).setCell ⟨w.heap.size, 4, none⟩ (.int .i64 pp.var)).setCell ⟨w.heap.size, 5, none⟩ (.slice A5 pp.kids.length c5)) := (((((hfw.setOf (by omega)).setOf (by omega)).setOf (by omega)).setOf (by omega)).setOf (by omega)).setOf (by omega); have SQ1 := HKS.out _ hfw1; have SQ2 := HKS.out _ (show Fr (fun b => (¬ b = w2.heap.size ∧ ¬ b = w2.heap.size + 1)) wp ((((((((((((w7.setCell ⟨w.heap.size, 0, none⟩ (.int .i64 pp.op)).setCell ⟨w.heap.size, 1, none⟩ (.int .i64 pp.ctor)).setCell ⟨w.heap.size, 2, none⟩ (.int .i64 pp.n)).setCell ⟨w.heap.size, 3, none⟩ (.int .i64 pp.m)).setCell ⟨w.heap.size, 4, none⟩ (.int .i64 pp.var)).setCell ⟨w.heap.size, 5, none⟩ (.slice A5 pp.kids.length c5)).setCell ⟨w.heap.size + 1, 0, none⟩ (.int .i64 qq.op)).setCell ⟨w.heap.size + 1, 1, none⟩ (.int .i64 qq.ctor)).setCell ⟨w.heap.size + 1, 2, none⟩ (.int .i64 qq.n)).setCell ⟨w.heap.size + 1, 3, none⟩ (.int .i64 qq.m)).setCell ⟨w.heap.size + 1, 4, none⟩ (.int .i64 qq.var)).setCell ⟨w.heap.size + 1, 5, none⟩ (.slice A6 qq.kids.length c6)) from (((((hfw1.setOf (by omega)).setOf (by omega)).setOf (by omega)).setOf (by omega)).setOf (by omega)).setOf (by omega)); have hza := HZA.out.frP (hf') (by omega); have hzb := HZB.out.frP (hf') (by omega); have HZA' := Lib.hid hza; have HZB' := Lib.hid hzb; obtain ⟨a0, a1, a2, a3, a4, a5, a6, a7, a8, a9, a10, a11⟩ := cellsP hza; obtain ⟨b0, b1, b2, b3, b4, b5, b6, b7, b8, b9, b10, b11⟩ := cellsP hzb; clear hfw hfw1 hza hzb; clear hf' hf'' hz7 ho7 hR') | (go_at_call 69; (with_reducible refine (HM1.out).mono ?_); rintro e w6 ⟨q1, A7, c7, rfl, hz6, ho6, hR', hf''⟩; have hf' : Fr (fun b => b = rb) wp w6 := ⟨hf''.1, hf''.2.1, hf''.2.2.1, hf''.2.2.2.1, hf''.2.2.2.2⟩; have HF6 := Lib.hid hf'; have HZ6 := Lib.hid hz6; have HO6 : Hid (OPs 9 w6 (fun b => ((w1.heap.size ≤ b ∧ b < w2.heap.size) ∨ wp.heap.size ≤ b) ∧ b < w6.heap.size) A7 q1.kids) := ho6; have hs6 := hf'.size; have hkl := wPs_len q1.kids; have hkw := wP_kids q1; have HM2 := Lib.hid (pm_any 8 q1 A7 c7 (fun b => ((w1.heap.size ≤ b ∧ b < w2.heap.size) ∨ wp.heap.size ≤ b) ∧ b < w6.heap.size) w.heap.size rb (0 + 645 + 1 + 2) w6 HO6.out (fun b hb => by have h1 := hb.1; have h2 := hb.2; omega) hR' (by omega) (by have := HWP.out; omega)); have SQ := HKS.out _ (hf'.wide (fun b hb => by have hb' : b = rb := hb; omega) : Fr (fun b => (¬ b = w2.heap.size ∧ ¬ b = w2.heap.size + 1)) wp w6); clear hf' hf'' hz6 ho6 hR' hkl hkw))
    all_goals
      have hfs : Fr (fun b => b = w.heap.size ∨ b = w.heap.size + 1) w7 ((((((((((((w7.setCell ⟨w.heap.size, 0, none⟩ (.int .i64 pp.op)).setCell ⟨w.heap.size, 1, none⟩ (.int .i64 pp.ctor)).setCell ⟨w.heap.size, 2, none⟩ (.int .i64 pp.n)).setCell ⟨w.heap.size, 3, none⟩ (.int .i64 pp.m)).setCell ⟨w.heap.size, 4, none⟩ (.int .i64 pp.var)).setCell ⟨w.heap.size, 5, none⟩ (.slice A5 pp.kids.length c5)).setCell ⟨w.heap.size + 1, 0, none⟩ (.int .i64 qq.op)).setCell ⟨w.heap.size + 1, 1, none⟩ (.int .i64 qq.ctor)).setCell ⟨w.heap.size + 1, 2, none⟩ (.int .i64 qq.n)).setCell ⟨w.heap.size + 1, 3, none⟩ (.int .i64 qq.m)).setCell ⟨w.heap.size + 1, 4, none⟩ (.int .i64 qq.var)).setCell ⟨w.heap.size + 1, 5, none⟩ (.slice A6 qq.kids.length c6)) := ((Fr.six _ _ _ _ _ _ _ _).wide (fun b hb => .inl hb)).trans ((Fr.six _ _ _ _ _ _ _ _).wide (fun b hb => .inr hb))
      have h1 : ((((((((((((w7.setCell ⟨w.heap.size, 0, none⟩ (.int .i64 pp.op)).setCell ⟨w.heap.size, 1, none⟩ (.int .i64 pp.ctor)).setCell ⟨w.heap.size, 2, none⟩ (.int .i64 pp.n)).setCell ⟨w.heap.size, 3, none⟩ (.int .i64 pp.m)).setCell ⟨w.heap.size, 4, none⟩ (.int .i64 pp.var)).setCell ⟨w.heap.size, 5, none⟩ (.slice A5 pp.kids.length c5)).setCell ⟨w.heap.size + 1, 0, none⟩ (.int .i64 qq.op)).setCell ⟨w.heap.size + 1, 1, none⟩ (.int .i64 qq.ctor)).setCell ⟨w.heap.size + 1, 2, none⟩ (.int .i64 qq.n)).setCell ⟨w.heap.size + 1, 3, none⟩ (.int .i64 qq.m)).setCell ⟨w.heap.size + 1, 4, none⟩ (.int .i64 qq.var)).setCell ⟨w.heap.size + 1, 5, none⟩ (.slice A6 qq.kids.length c6)).heap[w.heap.size]? = some (.cells #[.int .i64 pp.op, .int .i64 pp.ctor, .int .i64 pp.n, .int .i64 pp.m, .int .i64 pp.var, .slice A5 pp.kids.length c5] 50 (0, 0)) := (Fr.six _ _ _ _ _ _ _ _).block (ZP.put HZA'.out _ _ _ _ _ _) (by omega)
      have h2 : ((((((((((((w7.setCell ⟨w.heap.size, 0, none⟩ (.int .i64 pp.op)).setCell ⟨w.heap.size, 1, none⟩ (.int .i64 pp.ctor)).setCell ⟨w.heap.size, 2, none⟩ (.int .i64 pp.n)).setCell ⟨w.heap.size, 3, none⟩ (.int .i64 pp.m)).setCell ⟨w.heap.size, 4, none⟩ (.int .i64 pp.var)).setCell ⟨w.heap.size, 5, none⟩ (.slice A5 pp.kids.length c5)).setCell ⟨w.heap.size + 1, 0, none⟩ (.int .i64 qq.op)).setCell ⟨w.heap.size + 1, 1, none⟩ (.int .i64 qq.ctor)).setCell ⟨w.heap.size + 1, 2, none⟩ (.int .i64 qq.n)).setCell ⟨w.heap.size + 1, 3, none⟩ (.int .i64 qq.m)).setCell ⟨w.heap.size + 1, 4, none⟩ (.int .i64 qq.var)).setCell ⟨w.heap.size + 1, 5, none⟩ (.slice A6 qq.kids.length c6)).heap[w.heap.size + 1]? = some (.cells #[.int .i64 qq.op, .int .i64 qq.ctor, .int .i64 qq.n, .int .i64 qq.m, .int .i64 qq.var, .slice A6 qq.kids.length c6] 50 (0, 0)) := ZP.put ((Fr.six _ _ _ _ _ _ _ _).block HZB'.out (by omega)) _ _ _ _ _ _
      generalize ((((((((((((w7.setCell ⟨w.heap.size, 0, none⟩ (.int .i64 pp.op)).setCell ⟨w.heap.size, 1, none⟩ (.int .i64 pp.ctor)).setCell ⟨w.heap.size, 2, none⟩ (.int .i64 pp.n)).setCell ⟨w.heap.size, 3, none⟩ (.int .i64 pp.m)).setCell ⟨w.heap.size, 4, none⟩ (.int .i64 pp.var)).setCell ⟨w.heap.size, 5, none⟩ (.slice A5 pp.kids.length c5)).setCell ⟨w.heap.size + 1, 0, none⟩ (.int .i64 qq.op)).setCell ⟨w.heap.size + 1, 1, none⟩ (.int .i64 qq.ctor)).setCell ⟨w.heap.size + 1, 2, none⟩ (.int .i64 qq.n)).setCell ⟨w.heap.size + 1, 3, none⟩ (.int .i64 qq.m)).setCell ⟨w.heap.size + 1, 4, none⟩ (.int .i64 qq.var)).setCell ⟨w.heap.size + 1, 5, none⟩ (.slice A6 qq.kids.length c6)) = wf at hfs h1 h2 ⊢
      have hsf := hfs.size
      have HFIN : Hid (GotPP w (.returned (.tuple #[.agg #[.int .i64 pp.op, .int .i64 pp.ctor, .int .i64 pp.n, .int .i64 pp.m, .int .i64 pp.var, .slice A5 pp.kids.length c5], .agg #[.int .i64 qq.op, .int .i64 qq.ctor, .int .i64 qq.n, .int .i64 qq.m, .int .i64 qq.var, .slice A6 qq.kids.length c6]])) wf) := by
        have hfr := HF7.out
        have hsr := hfr.size
        have hfp : Fr (fun b => w.heap.size ≤ b) w wf := ((HFP.out.wide (fun b hb => by have hb' : b = rb := hb; show w.heap.size ≤ b; omega)).trans (hfr.wide (fun b hb => by have hb' : b = rb := hb; show w.heap.size ≤ b; omega))).trans (hfs.wide (fun b hb => by show w.heap.size ≤ b; omega))
        refine ⟨pp, qq, A5, A6, c5, c6, (fun b => w1.heap.size ≤ b ∧ b < w2.heap.size), (fun b => w1.heap.size ≤ b ∧ b < w7.heap.size ∧ b ≠ rb), rfl, ((((HOP.out.fr _ hfr (fun b hb e => by have := hb.1; omega)).fr _ hfs (fun b hb e => by have := hb.1; omega)).more (by omega))), ((HO7.out.wide _ (fun b hb => ⟨by have h1 := hb.1; omega, hb.2, by have h1 := hb.1; omega⟩) : OPs 10 w7 (fun b => w1.heap.size ≤ b ∧ b < w7.heap.size ∧ b ≠ rb) A6 qq.kids)).fr _ hfs (fun b hb e => by have := hb.1; omega), (fun b hb => by have := hb.2; omega), (fun b hb => by have := hb.2.1; omega), by have := HWP.out; omega, by have := HZ7.out; have := HZ6.out; have := HWP.out; omega, hfp.to (Nat.le_refl _) (fun b hb hc => by have hc' : w.heap.size ≤ b := hc; omega)⟩
      obtain ⟨r0, r1, r2, r3, r4, r5, _⟩ := cellsP h1
      obtain ⟨s0, s1, s2, s3, s4, s5, _⟩ := cellsP h2
      clear hfs h1 h2
      go_wp2_with fail
      exact bodyPost_ret (v := .tuple #[.agg #[.int .i64 pp.op, .int .i64 pp.ctor, .int .i64 pp.n, .int .i64 pp.m, .int .i64 pp.var, .slice A5 pp.kids.length c5], .agg #[.int .i64 qq.op, .int .i64 qq.ctor, .int .i64 qq.n, .int .i64 qq.m, .int .i64 qq.var, .slice A6 qq.kids.length c6]]) (by simp [results, Try.results34, go_sem, r0, r1, r2, r3, r4, r5, s0, s1, s2, s3, s4, s5]) rfl HFIN.out
end Go.Proofs.Ytbeejeialjfdnaa
/-
  The fields of a node of a pattern: the program's functions. No statement is proved here.
-/
namespace Go.Proofs.Ytbeejeialjfdnaa
open Go.RowKit Go.Sort Go.Deep
set_option maxRecDepth 100000
set_option linter.unusedVariables false
def SameF (x0 x1 x2 x3 x4 y0 y1 y2 y3 y4 : Int) : Prop := x0 = y0 ∧ x1 = y1 ∧ x2 = y2 ∧ x3 = y3 ∧ x4 = y4
set_option maxHeartbeats 1600000 in
theorem same_any (x0 x1 x2 x3 x4 y0 y1 y2 y3 y4 : Int) (A B : Option Addr) (m n m' n' : Nat) (w : World) : Calls Try.prog 73 #[.agg #[.int .i64 x0, .int .i64 x1, .int .i64 x2, .int .i64 x3, .int .i64 x4, .slice A m n], .agg #[.int .i64 y0, .int .i64 y1, .int .i64 y2, .int .i64 y3, .int .i64 y4, .slice B m' n']] w fun e w' => e = .returned (.bool (dec (SameF x0 x1 x2 x3 x4 y0 y1 y2 y3 y4))) ∧ Below w.heap.size w w' := by
  have HB : Hid (∀ o o' : Obj, Below w.heap.size w ((w.alloc o).alloc o')) := fun o o' => ((Below.refl _ _).alloc (Nat.le_refl _) _).alloc (by simp) _
  by_cases h0 : x0 = y0
  · have q0 := ieq_t h0
    by_cases h1 : x1 = y1
    · have q1 := ieq_t h1
      by_cases h2 : x2 = y2
      · have q2 := ieq_t h2
        by_cases h3 : x3 = y3
        · have q3 := ieq_t h3
          by_cases h4 : x4 = y4
          · have q4 := ieq_t h4
            have HD : Hid (dec (SameF x0 x1 x2 x3 x4 y0 y1 y2 y3 y4) = true) := dec_t (⟨h0, h1, h2, h3, h4⟩)
            clear h0 h1 h2 h3 h4
            go_enter Try.func73, Try.ntmps73
            go_wp2_with fail
            go_ret
            exact ⟨ret_bool HD.out.symm, HB.out _ _⟩
          · have q4 := ieq_f h4
            have HD : Hid (dec (SameF x0 x1 x2 x3 x4 y0 y1 y2 y3 y4) = false) := dec_f (fun h => h4 h.2.2.2.2)
            clear h0 h1 h2 h3 h4
            go_enter Try.func73, Try.ntmps73
            go_wp2_with fail
            go_ret
            exact ⟨ret_bool HD.out.symm, HB.out _ _⟩
        · have q3 := ieq_f h3
          have HD : Hid (dec (SameF x0 x1 x2 x3 x4 y0 y1 y2 y3 y4) = false) := dec_f (fun h => h3 h.2.2.2.1)
          clear h0 h1 h2 h3
          go_enter Try.func73, Try.ntmps73
          go_wp2_with fail
          go_ret
          exact ⟨ret_bool HD.out.symm, HB.out _ _⟩
      · have q2 := ieq_f h2
        have HD : Hid (dec (SameF x0 x1 x2 x3 x4 y0 y1 y2 y3 y4) = false) := dec_f (fun h => h2 h.2.2.1)
        clear h0 h1 h2
        go_enter Try.func73, Try.ntmps73
        go_wp2_with fail
        go_ret
        exact ⟨ret_bool HD.out.symm, HB.out _ _⟩
    · have q1 := ieq_f h1
      have HD : Hid (dec (SameF x0 x1 x2 x3 x4 y0 y1 y2 y3 y4) = false) := dec_f (fun h => h1 h.2.1)
      clear h0 h1
      go_enter Try.func73, Try.ntmps73
      go_wp2_with fail
      go_ret
      exact ⟨ret_bool HD.out.symm, HB.out _ _⟩
  · have q0 := ieq_f h0
    have HD : Hid (dec (SameF x0 x1 x2 x3 x4 y0 y1 y2 y3 y4) = false) := dec_f (fun h => h0 h.1)
    clear h0
    go_enter Try.func73, Try.ntmps73
    go_wp2_with fail
    go_ret
    exact ⟨ret_bool HD.out.symm, HB.out _ _⟩
end Go.Proofs.Ytbeejeialjfdnaa
/-
  PatternSame of the document. No statement is proved here.
-/
namespace Go.Proofs.Ytbeejeialjfdnaa
open Go.RowKit Go.Sort Go.Deep
set_option maxRecDepth 100000
set_option linter.unusedVariables false
theorem ine_t {a b : Int} (h : ¬ a = b) : (a != b) = true := by simp [h]
theorem ine_f {a b : Int} (h : a = b) : (a != b) = false := by simp [h]
def AllK (p q : Pt) (k : Nat) : Prop := ∀ j (h : j < p.kids.length) (h' : j < q.kids.length), j < k → p.kids[j] = q.kids[j]
theorem AllK.zero {p q : Pt} : AllK p q 0 := fun j _ _ h => absurd h (by omega)
theorem AllK.step {p q : Pt} {k : Nat} (h : AllK p q k) (hk : k < p.kids.length) (hk' : k < q.kids.length) (e : p.kids[k] = q.kids[k]) : AllK p q (k + 1) := by
  intro j hj hj' hjk
  by_cases e' : j = k
  · subst e'; exact e
  · exact h j hj hj' (by omega)
theorem same_of {p q : Pt} (h0 : p.op = q.op) (h1 : p.ctor = q.ctor) (h2 : p.n = q.n) (h3 : p.m = q.m) (h4 : p.var = q.var) (h5 : p.kids.length = q.kids.length) (h : AllK p q p.kids.length) : p = q := by
  have hk : p.kids = q.kids := List.ext_getElem h5 (fun i a b => h i a b a)
  cases p; cases q
  simp only [Pt.op, Pt.ctor, Pt.n, Pt.m, Pt.var, Pt.kids] at h0 h1 h2 h3 h4 hk
  subst h0 h1 h2 h3 h4 hk
  rfl
def PsD (d : Nat) : Prop := ∀ (A A' : Option Addr) (p q : Pt) (cap cap' : Nat) (w : World), RPs d w w.heap.size A p.kids → RPs d w w.heap.size A' q.kids → Calls Try.prog 36 #[.agg #[.int .i64 p.op, .int .i64 p.ctor, .int .i64 p.n, .int .i64 p.m, .int .i64 p.var, .slice A p.kids.length cap], .agg #[.int .i64 q.op, .int .i64 q.ctor, .int .i64 q.n, .int .i64 q.m, .int .i64 q.var, .slice A' q.kids.length cap']] w fun e w' => e = .returned (.bool (dec (p = q))) ∧ Below w.heap.size w w'
set_option maxHeartbeats 6400000 in
theorem ps_of (d : Nat) (ih : ∀ d', d = d' + 1 → PsD d') : PsD d := by
  intro A A' p q cap cap' w hr hr'
  have Hr := Lib.hid hr
  have Hr' := Lib.hid hr'
  have hn := hr.1
  have hn' := hr'.1
  unfold maxLen at hn hn'
  have IH := Lib.hid ih
  clear hr hr' ih
  generalize hw0 : (w.alloc (.cells #[.int .i64 p.op, .int .i64 p.ctor, .int .i64 p.n, .int .i64 p.m, .int .i64 p.var, .slice A p.kids.length cap] 50)).alloc (.cells #[.int .i64 q.op, .int .i64 q.ctor, .int .i64 q.n, .int .i64 q.m, .int .i64 q.var, .slice A' q.kids.length cap'] 50) = w0
  have hb0 : Below w.heap.size w w0 := by rw [← hw0]; exact ((Below.refl _ _).alloc (Nat.le_refl _) _).alloc (by simp) _
  have HXP : Hid (PBx w0 w.heap.size p (.slice A p.kids.length cap)) := by rw [← hw0]; exact ⟨by simp [go_sem], by simp [go_sem], by simp [go_sem], by simp [go_sem], by simp [go_sem], by simp [go_sem]⟩
  have HXQ : Hid (PBx w0 (w.heap.size + 1) q (.slice A' q.kids.length cap')) := by rw [← hw0]; exact ⟨by simp [go_sem], by simp [go_sem], by simp [go_sem], by simp [go_sem], by simp [go_sem], by simp [go_sem]⟩
  have HW := Lib.hid hw0
  clear hw0
  obtain ⟨x0, x1, x2, x3, x4, x5⟩ := HXP.out
  obtain ⟨y0, y1, y2, y3, y4, y5⟩ := HXQ.out
  by_cases h0 : p.op = q.op
  · have u0 := ine_f h0
    by_cases h1 : p.ctor = q.ctor
    · have u1 := ine_f h1
      by_cases h2 : p.n = q.n
      · have u2 := ine_f h2
        by_cases h3 : p.m = q.m
        · have u3 := ine_f h3
          by_cases h4 : p.var = q.var
          · have u4 := ine_f h4
            by_cases h5 : (p.kids.length : Int) = (q.kids.length : Int)
            · have u5 := ine_f h5
              have HT : Hid (AllK p q p.kids.length → p = q) := fun h => same_of h0 h1 h2 h3 h4 (by omega) h
              have hlen : p.kids.length = q.kids.length := by omega
              have HL := Lib.hid hlen
              clear h0 h1 h2 h3 h4 h5 hlen
              go_enter Try.func36, Try.ntmps36
              go_wp2_with fail
              (try rw [HW.out])
              clear u0 u1 u2 u3 u4 u5 x0 x1 x2 x3 x4 y0 y1 y2 y3 y4
              go_loopw [5] (fun i wr => ∃ k : Nat, k ≤ p.kids.length ∧ i = .int .i64 k ∧ Hid (AllK p q k) ∧ Below w0.heap.size w0 wr) (fun i _ => p.kids.length - (intOf i).toNat)
              case atStart => exact ⟨0, by omega, rfl, AllK.zero, Below.refl _ _⟩
              case round =>
                obtain ⟨k, hk, rfl, hno, hbr⟩ := hrel
                have hb := below_aft hb0 hbr hb0.size
                obtain ⟨_, _, _, _, _, z5⟩ := HXP.out.at_ hbr
                obtain ⟨_, _, _, _, _, z5q⟩ := HXQ.out.at_ hbr
                clear x5 y5
                by_cases hlt : k < p.kids.length
                · have hlq : k < q.kids.length := by have := HL.out; omega
                  obtain ⟨b, off, rfl, hbB, hv⟩ := (Hr.out.below hb (Nat.le_refl _)).2 k hlt
                  obtain ⟨d', hd, B1, cp, c0, c1, c2, c3, c4, c5, hm⟩ := hv.parts
                  obtain ⟨b', off', rfl, hbB', hv'⟩ := (Hr'.out.below hb (Nat.le_refl _)).2 k hlq
                  obtain ⟨d'', hd', B2, cp', c0q, c1q, c2q, c3q, c4q, c5q, hm'⟩ := hv'.parts
                  obtain rfl : d'' = d' := by omega
                  have d0 := cell_regrown c0
                  have d0q := cell_regrown c0q
                  have d1 := cell_regrown c1
                  have d1q := cell_regrown c1q
                  have d2 := cell_regrown c2
                  have d2q := cell_regrown c2q
                  have d3 := cell_regrown c3
                  have d3q := cell_regrown c3q
                  have d4 := cell_regrown c4
                  have d4q := cell_regrown c4q
                  have d5 := cell_regrown c5
                  have d5q := cell_regrown c5q
                  have e5 := cell_regrown z5
                  have e5q := cell_regrown z5q
                  have Hm := Lib.hid hm
                  have Hm' := Lib.hid hm'
                  have IHd := Lib.hid (IH.out d'' hd)
                  clear c0 c1 c2 c3 c4 c5 c0q c1q c2q c3q c4q c5q hm hm' hv hv' hd hd'
                  have hi : (k : Int) < (p.kids.length : Int) := by omega
                  have hiq : (k : Int) < (q.kids.length : Int) := by omega
                  by_cases hs : p.kids[k] = q.kids[k]
                  · have HD : Hid (dec (p.kids[k] = q.kids[k]) = true) := dec_t hs
                    have HN := Lib.hid (hno.out.step hlt hlq hs)
                    clear hs hno
                    have HC : Hid (∀ dq osq, Calls Try.prog 36 #[.agg #[.int .i64 p.kids[k].op, .int .i64 p.kids[k].ctor, .int .i64 p.kids[k].n, .int .i64 p.kids[k].m, .int .i64 p.kids[k].var, .slice B1 p.kids[k].kids.length cp], .agg #[.int .i64 q.kids[k].op, .int .i64 q.kids[k].ctor, .int .i64 q.kids[k].n, .int .i64 q.kids[k].m, .int .i64 q.kids[k].var, .slice B2 q.kids[k].kids.length cp']] (grow (redrawn wr dq) osq) fun e' w' => e' = .returned (.bool true) ∧ Below (grow (redrawn wr dq) osq).heap.size (grow (redrawn wr dq) osq) w') := fun dq osq => by
                      have h1 := IHd.out B1 B2 p.kids[k] q.kids[k] cp cp' (grow (redrawn wr dq) osq) (Hm.out.keep (fun p hp => (below_regrown wr _ _).cell (Nat.lt_of_lt_of_le hp hb.size)) (Nat.le_trans hb.size (below_regrown wr _ _).size)) (Hm'.out.keep (fun p hp => (below_regrown wr _ _).cell (Nat.lt_of_lt_of_le hp hb.size)) (Nat.le_trans hb.size (below_regrown wr _ _).size))
                      rw [HD.out] at h1
                      exact h1
                    go_wp2_with fail
                    refine wp_region_quiet_below (by kernel_rfl) (by kernel_rfl) ?_
                    repeat (quiet_step (exact Calls.regrown_of (HC.out _ _)))
                    refine wpQuiet_nil ?_
                    intro _ hw'
                    obtain ⟨⟨dq, osq⟩, hw''⟩ := hw'
                    subst hw''
                    have hb2 := hbr.trans ((below_regrown wr dq osq).mono hbr.size)
                    clear d0 d0q d1 d1q d2 d2q d3 d3q d4 d4q d5 d5q e5 e5q z5 z5q
                    go_wp2_with fail
                    go_roundw
                    case rel => exact ⟨k + 1, by omega, by go_num, HN, hb2⟩
                    case measure => simp [intOf]; omega
                  · have HD : Hid (dec (p.kids[k] = q.kids[k]) = false) := dec_f hs
                    have HF : Hid (dec (p = q) = false) := dec_f (fun h => hs (by subst h; rfl))
                    clear hs hno
                    have HC : Hid (∀ dq osq, Calls Try.prog 36 #[.agg #[.int .i64 p.kids[k].op, .int .i64 p.kids[k].ctor, .int .i64 p.kids[k].n, .int .i64 p.kids[k].m, .int .i64 p.kids[k].var, .slice B1 p.kids[k].kids.length cp], .agg #[.int .i64 q.kids[k].op, .int .i64 q.kids[k].ctor, .int .i64 q.kids[k].n, .int .i64 q.kids[k].m, .int .i64 q.kids[k].var, .slice B2 q.kids[k].kids.length cp']] (grow (redrawn wr dq) osq) fun e' w' => e' = .returned (.bool false) ∧ Below (grow (redrawn wr dq) osq).heap.size (grow (redrawn wr dq) osq) w') := fun dq osq => by
                      have h1 := IHd.out B1 B2 p.kids[k] q.kids[k] cp cp' (grow (redrawn wr dq) osq) (Hm.out.keep (fun p hp => (below_regrown wr _ _).cell (Nat.lt_of_lt_of_le hp hb.size)) (Nat.le_trans hb.size (below_regrown wr _ _).size)) (Hm'.out.keep (fun p hp => (below_regrown wr _ _).cell (Nat.lt_of_lt_of_le hp hb.size)) (Nat.le_trans hb.size (below_regrown wr _ _).size))
                      rw [HD.out] at h1
                      exact h1
                    go_wp2_with fail
                    refine wp_region_quiet_below (by kernel_rfl) (by kernel_rfl) ?_
                    repeat (quiet_step (exact Calls.regrown_of (HC.out _ _)))
                    refine wpQuiet_nil ?_
                    intro _ hw'
                    obtain ⟨⟨dq, osq⟩, hw''⟩ := hw'
                    subst hw''
                    have hb2 := hbr.trans ((below_regrown wr dq osq).mono hbr.size)
                    clear d0 d0q d1 d1q d2 d2q d3 d3q d4 d4q d5 d5q e5 e5q z5 z5q
                    go_wp2_with fail
                    go_ret
                    exact ⟨ret_bool HF.out.symm, below_aft hb0 hb2 hb0.size⟩
                · have HF : Hid (dec (p = q) = true) := dec_t (HT.out (fun j h h' hj => hno.out j h h' (by omega)))
                  clear hno
                  go_wp2_with fail
                  go_ret
                  exact ⟨ret_bool HF.out.symm, hb⟩
            · have u5 := ine_t h5
              have HF : Hid (dec (p = q) = false) := dec_f (fun h => h5 (by rw [h]))
              clear h0 h1 h2 h3 h4 h5
              go_enter Try.func36, Try.ntmps36
              go_wp2_with fail
              go_ret
              exact ⟨ret_bool HF.out.symm, by first | exact hb0 | (rw [HW.out]; exact hb0)⟩
          · have u4 := ine_t h4
            have HF : Hid (dec (p = q) = false) := dec_f (fun h => h4 (by rw [h]))
            clear h0 h1 h2 h3 h4
            go_enter Try.func36, Try.ntmps36
            go_wp2_with fail
            go_ret
            exact ⟨ret_bool HF.out.symm, by first | exact hb0 | (rw [HW.out]; exact hb0)⟩
        · have u3 := ine_t h3
          have HF : Hid (dec (p = q) = false) := dec_f (fun h => h3 (by rw [h]))
          clear h0 h1 h2 h3
          go_enter Try.func36, Try.ntmps36
          go_wp2_with fail
          go_ret
          exact ⟨ret_bool HF.out.symm, by first | exact hb0 | (rw [HW.out]; exact hb0)⟩
      · have u2 := ine_t h2
        have HF : Hid (dec (p = q) = false) := dec_f (fun h => h2 (by rw [h]))
        clear h0 h1 h2
        go_enter Try.func36, Try.ntmps36
        go_wp2_with fail
        go_ret
        exact ⟨ret_bool HF.out.symm, by first | exact hb0 | (rw [HW.out]; exact hb0)⟩
    · have u1 := ine_t h1
      have HF : Hid (dec (p = q) = false) := dec_f (fun h => h1 (by rw [h]))
      clear h0 h1
      go_enter Try.func36, Try.ntmps36
      go_wp2_with fail
      go_ret
      exact ⟨ret_bool HF.out.symm, by first | exact hb0 | (rw [HW.out]; exact hb0)⟩
  · have u0 := ine_t h0
    have HF : Hid (dec (p = q) = false) := dec_f (fun h => h0 (by rw [h]))
    clear h0
    go_enter Try.func36, Try.ntmps36
    go_wp2_with fail
    go_ret
    exact ⟨ret_bool HF.out.symm, by first | exact hb0 | (rw [HW.out]; exact hb0)⟩
theorem ps_any : ∀ d, PsD d
  | 0 => ps_of 0 (fun _ h => by omega)
  | d + 1 => ps_of (d + 1) (fun d' h => (Nat.succ.inj h) ▸ ps_any d)
theorem ps_spec (d d' : Nat) (A A' : Option Addr) (p q : Pt) (cap cap' : Nat) (w : World) (hr : RPs d w w.heap.size A p.kids) (hr' : RPs d' w w.heap.size A' q.kids) : Calls Try.prog 36 #[.agg #[.int .i64 p.op, .int .i64 p.ctor, .int .i64 p.n, .int .i64 p.m, .int .i64 p.var, .slice A p.kids.length cap], .agg #[.int .i64 q.op, .int .i64 q.ctor, .int .i64 q.n, .int .i64 q.m, .int .i64 q.var, .slice A' q.kids.length cap']] w fun e w' => e = .returned (.bool (dec (p = q))) ∧ Below w.heap.size w w' :=
  ps_any (max d d') A A' p q cap cap' w (hr.more (Nat.le_max_left _ _)) (hr'.more (Nat.le_max_right _ _))
end Go.Proofs.Ytbeejeialjfdnaa
/-
  Two lists of patterns that have the same fields: the program's EqualFunc with sameFields. No statement is proved here.
-/
namespace Go.Proofs.Ytbeejeialjfdnaa
open Go.RowKit Go.Sort Go.Deep
set_option maxRecDepth 100000
set_option linter.unusedVariables false
def SameQ (p q : Pt) : Prop := SameF p.op p.ctor p.n p.m p.var q.op q.ctor q.n q.m q.var
def AllQ (a b : List Pt) (k : Nat) : Prop := ∀ j (h : j < a.length) (h' : j < b.length), j < k → SameQ a[j] b[j]
theorem AllQ.zero {a b : List Pt} : AllQ a b 0 := fun j _ _ h => absurd h (by omega)
theorem AllQ.step {a b : List Pt} {k : Nat} (h : AllQ a b k) (hk : k < a.length) (hk' : k < b.length) (e : SameQ a[k] b[k]) : AllQ a b (k + 1) := by
  intro j hj hj' hjk
  by_cases e' : j = k
  · subst e'; exact e
  · exact h j hj hj' (by omega)
/-- What EqualFunc answers. -/
def EqfR (a b : List Pt) (r : Bool) : Prop := (r = true ∧ a.length = b.length ∧ AllQ a b a.length) ∨ (r = false ∧ ¬ a = b)
set_option maxHeartbeats 3200000 in
theorem eqf_any (A B : Option Addr) (a b : List Pt) (ca cb d e : Nat) (w : World) (ha : RPs d w w.heap.size A a) (hb0 : RPs e w w.heap.size B b) :
    Calls Try.prog 72 #[.slice A a.length ca, .slice B b.length cb, .func (.func 73) #[] #[]] w fun e w' => ∃ r : Bool, e = .returned (.bool r) ∧ EqfR a b r ∧ Below w.heap.size w w' := by
  have hn := ha.1
  have hn' := hb0.1
  unfold maxLen at hn hn'
  have HA := Lib.hid ha
  have HB := Lib.hid hb0
  clear ha hb0
  by_cases hl : (a.length : Int) = (b.length : Int)
  · have u0 := ine_f hl
    have hll : a.length = b.length := by omega
    have HL := Lib.hid hll
    clear hl
    go_enter Try.func72, Try.ntmps72
    go_wp2_with fail
    go_loopw [17] (fun i wr => ∃ k : Nat, k ≤ a.length ∧ i = .int .i64 k ∧ Hid (AllQ a b k) ∧ Below w.heap.size w wr) (fun i _ => a.length - (intOf i).toNat)
    case atStart => exact ⟨0, by omega, rfl, AllQ.zero, Below.refl _ _⟩
    case round =>
      obtain ⟨k, hk, rfl, hq, hb⟩ := hrel
      by_cases hlt : k < a.length
      · have hltb : k < b.length := by rw [← HL.out]; exact hlt
        obtain ⟨g, off, rfl, hgB, hp⟩ := (HA.out.below hb (Nat.le_refl _)).2 k hlt
        obtain ⟨d', hd, A', cp, c0, c1, c2, c3, c4, c5, hm⟩ := hp.parts
        obtain ⟨g2, off2, rfl, hgB2, hp2⟩ := (HB.out.below hb (Nat.le_refl _)).2 k hltb
        obtain ⟨d2', hd2, A2', cp2, e0, e1, e2, e3, e4, e5, hm2⟩ := hp2.parts
        have hkI : (k : Int) < (a.length : Int) := by omega
        have hkI2 : (k : Int) < (b.length : Int) := by omega
        have hsb := hb.size
        have hg1 : g < wr.heap.size := by omega
        have hg2 : g2 < wr.heap.size := by omega
        clear hp hp2 hm hm2 hd hd2 hll
        by_cases hs : SameQ a[k] b[k]
        · have HD : Hid (dec (SameF a[k].op a[k].ctor a[k].n a[k].m a[k].var b[k].op b[k].ctor b[k].n b[k].m b[k].var) = true) := dec_t hs
          have HN := Lib.hid (hq.out.step hlt hltb hs)
          clear hs hq
          go_wp2_with fail
          refine (same_any _ _ _ _ _ _ _ _ _ _ _ _ _ _ _ _ _).mono ?_
          rw [HD.out]
          rintro e9 w1 ⟨rfl, hb1⟩
          have hb2 : Below w.heap.size w w1 := ((hb.alloc hb.size _).alloc (by rw [World.size_alloc]; have := hb.size; omega) _).trans (hb1.mono (by rw [World.size_alloc, World.size_alloc]; have := hb.size; omega))
          go_wp2_with fail
          go_roundw
          case rel => exact ⟨k + 1, by omega, by go_num, HN, hb2⟩
          case measure => simp [intOf]; omega
        · have HD : Hid (dec (SameF a[k].op a[k].ctor a[k].n a[k].m a[k].var b[k].op b[k].ctor b[k].n b[k].m b[k].var) = false) := dec_f hs
          have HN : Hid (EqfR a b false) := .inr ⟨rfl, fun h => hs (by subst h; exact ⟨rfl, rfl, rfl, rfl, rfl⟩)⟩
          clear hs hq
          go_wp2_with fail
          refine (same_any _ _ _ _ _ _ _ _ _ _ _ _ _ _ _ _ _).mono ?_
          rw [HD.out]
          rintro e9 w1 ⟨rfl, hb1⟩
          have hb2 : Below w.heap.size w w1 := ((hb.alloc hb.size _).alloc (by rw [World.size_alloc]; have := hb.size; omega) _).trans (hb1.mono (by rw [World.size_alloc, World.size_alloc]; have := hb.size; omega))
          go_wp2_with fail
          go_ret
          exact ⟨_, rfl, HN.out, hb2⟩
      · have HN : Hid (EqfR a b true) := .inl ⟨rfl, HL.out, fun j h h' _ => hq.out j h h' (by omega)⟩
        clear hq
        go_wp2_with fail
        go_ret
        exact ⟨_, rfl, HN.out, hb⟩
  · have u0 := ine_t hl
    have HN : Hid (EqfR a b false) := .inr ⟨rfl, fun h => hl (by rw [h])⟩
    clear hl
    go_enter Try.func72, Try.ntmps72
    go_wp2_with fail
    go_ret
    exact ⟨_, rfl, HN.out, Below.refl _ _⟩
end Go.Proofs.Ytbeejeialjfdnaa
