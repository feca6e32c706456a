/-
  A world, a type and a pattern are drawn, sometimes made invalid: the document's function. No statement is proved here.
-/
import Derived.Test.YteoopmogklpnoaaV39
import Derived.Test.YteoopmogklpnoaaV41
import Derived.Test.YteoopmogklpnoaaV42
namespace Go.Proofs.Yteoopmogklpnoaa
open Go.RowKit Go.Sort Go.Deep
set_option maxRecDepth 100000
set_option linter.unusedVariables false
/-- A world, a type and a pattern. -/
def GotPV (w : World) (e : Ending) (w' : World) : Prop := ∃ (l : List Da) (t : Ty) (p : Pt) (Aw A : Option Addr) (cw c : Nat) (PP : Nat → Prop), e = .returned (.tuple #[.slice Aw l.length cw, .agg #[.int .i64 t.data, .int .i64 t.index], .agg #[.int .i64 p.op, .int .i64 p.ctor, .int .i64 p.n, .int .i64 p.m, .int .i64 p.var, .slice A p.kids.length c]]) ∧ Lies w' w.heap.size (.slice Aw l.length cw) l ∧ OPs 10 w' PP A p.kids ∧ (∀ b, PP b → w.heap.size ≤ b ∧ b < w'.heap.size) ∧ wP p ≤ 1000 ∧ Below w.heap.size w w'
def ZTa (w : World) (a : Nat) : Prop := w.heap[a]? = some (.cells #[.int .i64 0, .int .i64 0] 25 (0, 0))
theorem ZTa.frT {w w' : World} {a rb : Nat} (h : ZTa w a) (hf : Fr (fun b => b = rb) w w') (hne : a ≠ rb) : w'.heap[a]? = some (.cells #[.int .i64 0, .int .i64 0] 25 (0, 0)) := hf.block h hne
theorem cellsT {w : World} {b : Nat} {x y : Int} (h : w.heap[b]? = some (.cells #[.int .i64 x, .int .i64 y] 25 (0, 0))) : w.cell? ⟨b, 0, none⟩ = some (.int .i64 x) ∧ w.cell? ⟨b, 1, none⟩ = some (.int .i64 y) ∧ w.frozen? ⟨b, 0, none⟩ = false ∧ w.frozen? ⟨b, 1, none⟩ = false :=
  ⟨(cell_of_blk h 0).trans rfl, (cell_of_blk h 1).trans rfl, free_of_blk h 0, free_of_blk h 1⟩
set_option maxHeartbeats 16000000 in
theorem drawPV_any (n cap : Nat) (A : Option Addr) (w : World) (hn : n ≤ maxLen) (hc : n ≤ cap) (h : RBy w w.heap.size A n) : Calls Try.prog 31 #[.slice A n cap] w (GotPV w) := by
  have HC := Lib.hid hc
  have HNM := Lib.hid hn
  generalize hwx : (w.alloc (.cells #[.int .i64 0, .int .i64 0] 25)).alloc (.cells #[.int .i64 0, .int .i64 0, .int .i64 0, .int .i64 0, .int .i64 0, .slice none 0 0] 50) = wx
  have hbx := below_box2 hwx
  have HBY : Hid (RBy wx w.heap.size A n) := h.below hbx
  have HSX : Hid (wx.heap.size = w.heap.size + 2) := by unfold Hid; rw [← hwx]; simp
  have HZAx : Hid (ZTa wx w.heap.size) := by unfold Hid ZTa; rw [← hwx]; exact (Below.heap_alloc _ _ _ (by simp)).trans (heap_alloc_new w _)
  have HZBx : Hid (ZPa wx (w.heap.size + 1)) := by
    have h := heap_alloc_new (w.alloc (.cells #[.int .i64 0, .int .i64 0] 25)) (.cells #[.int .i64 0, .int .i64 0, .int .i64 0, .int .i64 0, .int .i64 0, .slice none 0 0] 50)
    rw [World.size_alloc] at h
    unfold Hid ZPa; rw [← hwx]; exact h
  have HBX := Lib.hid hbx
  have HWX := Lib.hid hwx
  clear hwx hbx h hc hn
  go_enter Try.func31, Try.ntmps31
  go_wp2_with fail
  rw [HWX.out]
  refine (open_any w.heap.size n cap A wx HNM.out HC.out HBY.out (by have := HSX.out; omega)).mono ?_
  rintro e w1 ⟨rfl, hR1, hb1⟩
  have hsx := HSX.out
  have hs1 := hb1.size
  have hr1l : wx.heap.size < w1.heap.size := hR1.lt
  have HB1 := Lib.hid hb1
  have HR1 := Lib.hid hR1
  clear hb1 hR1
  go_wp2_with fail
  rw [hsx] at HR1 hs1 hr1l
  clear hsx
  generalize hrb : w.heap.size + 2 = rb at HR1 hs1 hr1l ⊢
  have hsx : w.heap.size + 2 ≤ rb := by omega
  have hsx2 : rb ≤ w.heap.size + 2 := by omega
  have HRB := Lib.hid hrb
  clear hrb
  refine (l3Typed_any rb w.heap.size 0 w1 HR1.out (by omega)).mono ?_
  rintro e w2 ⟨l, t, pp, v, Aw, A5, Av, cw, c5, cv, rfl, h7, hod, htok, hinh, hfit, hcap, hov, hisp, hwp, hop, hR2, hf2⟩
  obtain ⟨hw, hl0, _⟩ := h7.ok
  have hxd := hod.x (small_of_ok hw)
  have HLL : Hid (0 < l.length ∧ l.length ≤ maxLen) := ⟨hl0, by have := hw.1; unfold maxLen; omega⟩
  have HWP := Lib.hid hwp
  have hs2 := hf2.size
  generalize hwb : ((w2.alloc (.cells #[.int .i64 t.data, .int .i64 t.index] 25)).alloc (.cells #[.int .i64 pp.op, .int .i64 pp.ctor, .int .i64 pp.n, .int .i64 pp.m, .int .i64 pp.var, .slice A5 pp.kids.length c5] 50)).alloc (.cells #[.int .i64 v.ctor, .int .i64 v.n, .slice Av v.kids.length cv] 28) = wb
  have hbb : Below w2.heap.size w2 wb := by rw [← hwb]; exact (((Below.refl _ _).alloc (Nat.le_refl _) _).alloc (by simp) _).alloc (by simp <;> omega) _
  have HSB : Hid (wb.heap.size = w2.heap.size + 3) := by unfold Hid; rw [← hwb]; simp
  have hTb : wb.heap[w2.heap.size]? = some (.cells #[.int .i64 t.data, .int .i64 t.index] 25 (0, 0)) := by rw [← hwb]; exact (Below.heap_alloc _ _ _ (by simp <;> omega)).trans ((Below.heap_alloc _ _ _ (by simp)).trans (heap_alloc_new w2 _))
  have hVb : wb.heap[w2.heap.size + 1]? = some (.cells #[.int .i64 pp.op, .int .i64 pp.ctor, .int .i64 pp.n, .int .i64 pp.m, .int .i64 pp.var, .slice A5 pp.kids.length c5] 50 (0, 0)) := by
    have h := heap_alloc_new (w2.alloc (.cells #[.int .i64 t.data, .int .i64 t.index] 25)) (.cells #[.int .i64 pp.op, .int .i64 pp.ctor, .int .i64 pp.n, .int .i64 pp.m, .int .i64 pp.var, .slice A5 pp.kids.length c5] 50)
    rw [World.size_alloc] at h
    rw [← hwb]; exact (Below.heap_alloc _ _ _ (by simp)).trans h
  have HXD2 := Lib.hid hxd
  have HF2b : Hid (Fr (fun b => b = rb) w2 wb) := Fr.below hbb
  have HOPb : Hid (OPs 8 wb (fun b => w1.heap.size ≤ b ∧ b < w2.heap.size) A5 pp.kids) := hop.fr _ (Fr.below (P := fun _ => False) hbb) (fun _ _ h => h)
  have hfx1 : Fr (fun b => b = rb) wx wb := ((Fr.below HB1.out).trans hf2).trans (Fr.below hbb)
  have HFb : Hid (Fr (fun b => b = rb) w wb) := (Fr.below HBX.out).trans hfx1
  have HZAb : Hid (ZTa wb w.heap.size) := HZAx.out.frT hfx1 (by omega)
  have HZBb : Hid (ZPa wb (w.heap.size + 1)) := HZBx.out.frP hfx1 (by omega)
  have HTb := Lib.hid hTb
  have HVb := Lib.hid hVb
  have HRb := Lib.hid (hR2.below hbb)
  have HWB := Lib.hid hwb
  clear h7 hod htok hinh hfit hcap hov hisp hwp hop hR2 hf2 hw hl0 hwb hbb hTb hVb hfx1 hxd
  have hsb := HSB.out
  go_wp2_with fail
  rw [HWB.out]
  refine (pick_any rb w.heap.size (0 + 645) 10 wb HRb.out (by omega)).mono ?_
  rintro e wp ⟨k1, rfl, hk1, hRp, hgp⟩
  have hfp : Fr (fun b => b = rb) wb wp := Fr.grown hgp (fun b e => by injection e)
  have HFP : Hid (Fr (fun b => b = rb) w wp) := HFb.out.trans hfp
  have HZA : Hid (ZTa wp w.heap.size) := HZAb.out.frT hfp (by omega)
  have HZB : Hid (ZPa wp (w.heap.size + 1)) := HZBb.out.frP hfp (by omega)
  have HRP := Lib.hid hRp
  have HOP : Hid (OPs 8 wp (fun b => w1.heap.size ≤ b ∧ b < w2.heap.size) A5 pp.kids) := HOPb.out.fr _ hfp (fun b hb e => by have := hb.1; omega)
  have hTp : wp.heap[w2.heap.size]? = some (.cells #[.int .i64 t.data, .int .i64 t.index] 25 (0, 0)) := hfp.block HTb.out (by omega)
  have hVp : wp.heap[w2.heap.size + 1]? = some (.cells #[.int .i64 pp.op, .int .i64 pp.ctor, .int .i64 pp.n, .int .i64 pp.m, .int .i64 pp.var, .slice A5 pp.kids.length c5] 50 (0, 0)) := hfp.block HVb.out (by omega)
  have hsp := hfp.size
  have HF2p : Hid (Fr (fun b => b = rb) w2 wp) := HF2b.out.trans hfp
  have HXDp : Hid (XDas wp w1.heap.size 4 (.slice Aw l.length cw) l.length) := HXD2.out.keepT ((Stays.fr HF2p.out (by omega)).keepT T28) (Nat.le_refl _)
  have HTp := Lib.hid hTp
  have HVp := Lib.hid hVp
  clear hRp hgp hfp hTp hVp hk1
  by_cases hk0 : k1 = 0
  · have q0 : ((k1 : Int) == 0) = true := ieq_t (by omega)
    go_wp2_with fail
    refine (l1Some_any rb w.heap.size (0 + 645 + 1) l.length cw Aw wp HRP.out (by omega) HLL.out.2).mono ?_
    rintro e w3 ⟨t', rfl, hR3, hg3⟩
    have hf3 : Fr (fun b => b = rb) wp w3 := Fr.grown hg3 (fun b e => by injection e)
    have hT3 : w3.heap[w2.heap.size]? = some (.cells #[.int .i64 t.data, .int .i64 t.index] 25 (0, 0)) := hf3.block HTp.out (by omega)
    have hs3 := hf3.size
    have hfz : Fr (fun b => b = w2.heap.size) w3 ((w3.setCell ⟨w2.heap.size, 0, none⟩ (.int .i64 t'.data)).setCell ⟨w2.heap.size, 1, none⟩ (.int .i64 t'.index)) := ((Fr.refl (fun b => b = w2.heap.size) _).setOf rfl).setOf rfl
    have hTz : ((w3.setCell ⟨w2.heap.size, 0, none⟩ (.int .i64 t'.data)).setCell ⟨w2.heap.size, 1, none⟩ (.int .i64 t'.index)).heap[w2.heap.size]? = some (.cells #[.int .i64 t'.data, .int .i64 t'.index] 25 (0, 0)) := heap_setCell_same _ _ 1 _ _ _ (heap_setCell_same _ _ 0 _ _ _ hT3)
    obtain ⟨c0, c1, c2, c3⟩ := cellsT hT3
    obtain ⟨wz, hwz⟩ : ∃ wz, ((w3.setCell ⟨w2.heap.size, 0, none⟩ (.int .i64 t'.data)).setCell ⟨w2.heap.size, 1, none⟩ (.int .i64 t'.index)) = wz := ⟨_, rfl⟩
    rw [hwz] at hfz hTz
    have HWZ := Lib.hid hwz
    have hVz : wz.heap[w2.heap.size + 1]? = some (.cells #[.int .i64 pp.op, .int .i64 pp.ctor, .int .i64 pp.n, .int .i64 pp.m, .int .i64 pp.var, .slice A5 pp.kids.length c5] 50 (0, 0)) := hfz.block (hf3.block HVp.out (by omega)) (by omega)
    have HZT : Hid (ZTa wz w.heap.size) := hfz.block (HZA.out.frT hf3 (by omega)) (by omega)
    have HZP : Hid (ZPa wz (w.heap.size + 1)) := hfz.block (HZB.out.frP hf3 (by omega)) (by omega)
    have HFQ : Hid (Fr (fun b => b = rb) w wz) := (HFP.out.trans hf3).andThen hfz (fun x hx hq => by have hq' : x = w2.heap.size := hq; omega)
    have hszz := hfz.size
    have HRQ : Hid (RRd wz w.heap.size rb 650) := by
      have h := (hR3.fr hfz (fun b hb => by have hb' : b = w2.heap.size := hb; exact ⟨by omega, by omega⟩))
      exact h.more (by omega)
    have HOQ : Hid (OPs 8 wz (fun b => w1.heap.size ≤ b ∧ b < w2.heap.size) A5 pp.kids) := (HOP.out.fr _ hf3 (fun b hb e => by have := hb.1; omega)).fr _ hfz (fun b hb e => by have := hb.2; omega)
    have HXQ : Hid (XDas wz w1.heap.size 4 (.slice Aw l.length cw) l.length) := HXD2.out.keepT ((Stays.fr ((HF2p.out.trans hf3).andThen hfz (fun x hx hq => by have hq' : x = w2.heap.size := hq; omega)) (by omega)).keepT T28) (Nat.le_refl _)
    have HKS : Hid (∀ w', Fr (fun b => (¬ b = w2.heap.size ∧ ¬ b = w2.heap.size + 1)) wz w' → w'.cell? ⟨w2.heap.size, 0, none⟩ = some (.int .i64 t'.data) ∧ w'.cell? ⟨w2.heap.size, 1, none⟩ = some (.int .i64 t'.index) ∧ w'.cell? ⟨w2.heap.size + 1, 0, none⟩ = some (.int .i64 pp.op) ∧ w'.cell? ⟨w2.heap.size + 1, 1, none⟩ = some (.int .i64 pp.ctor) ∧ w'.cell? ⟨w2.heap.size + 1, 2, none⟩ = some (.int .i64 pp.n) ∧ w'.cell? ⟨w2.heap.size + 1, 3, none⟩ = some (.int .i64 pp.m) ∧ w'.cell? ⟨w2.heap.size + 1, 4, none⟩ = some (.int .i64 pp.var) ∧ w'.cell? ⟨w2.heap.size + 1, 5, none⟩ = some (.slice A5 pp.kids.length c5)) := fun w' h => by
      have e1 : w'.heap[w2.heap.size]? = some (.cells #[.int .i64 t'.data, .int .i64 t'.index] 25 (0, 0)) := h.block hTz (by omega)
      have e2 : w'.heap[w2.heap.size + 1]? = some (.cells #[.int .i64 pp.op, .int .i64 pp.ctor, .int .i64 pp.n, .int .i64 pp.m, .int .i64 pp.var, .slice A5 pp.kids.length c5] 50 (0, 0)) := h.block hVz (by omega)
      obtain ⟨p0, p1, p2, p3, p4, p5, _⟩ := cellsP e2
      exact ⟨(cell_of_blk e1 0).trans rfl, (cell_of_blk e1 1).trans rfl, p0, p1, p2, p3, p4, p5⟩
    clear hR3 hg3 hf3 hT3 hfz hTz hwz hVz
    go_wp2_with fail
    rw [HWZ.out]
    clear c0 c1 c2 c3
    have SA0 := HKS.out wz (Fr.refl _ _)
    have SB0 : wz.drew.cell? ⟨w2.heap.size, 0, none⟩ = some (.int .i64 t'.data) ∧ wz.drew.cell? ⟨w2.heap.size, 1, none⟩ = some (.int .i64 t'.index) ∧ wz.drew.cell? ⟨w2.heap.size + 1, 0, none⟩ = some (.int .i64 pp.op) ∧ wz.drew.cell? ⟨w2.heap.size + 1, 1, none⟩ = some (.int .i64 pp.ctor) ∧ wz.drew.cell? ⟨w2.heap.size + 1, 2, none⟩ = some (.int .i64 pp.n) ∧ wz.drew.cell? ⟨w2.heap.size + 1, 3, none⟩ = some (.int .i64 pp.m) ∧ wz.drew.cell? ⟨w2.heap.size + 1, 4, none⟩ = some (.int .i64 pp.var) ∧ wz.drew.cell? ⟨w2.heap.size + 1, 5, none⟩ = some (.slice A5 pp.kids.length c5) := SA0
    have HMU : Hid (Calls Try.prog 44 #[.pointer (some ⟨rb, 0, none⟩), .slice Aw l.length cw] wz.drew (Muted wz.drew w.heap.size rb (650 + 4) (4 + 1))) := l1Mutate_any Aw w.heap.size rb 650 w1.heap.size 4 l.length cw wz.drew (HXQ.out.keepT (KeepT.below _ _ ((Below.refl _ _).drew)) (Nat.le_refl _)) (by omega) HLL.out.1 HRQ.out.drew (by omega)
    go_wp2_with fail
    go_region_held3 (fun w' => w'.cell? ⟨w2.heap.size, 0, none⟩ = some (.int .i64 t'.data) ∧ w'.cell? ⟨w2.heap.size, 1, none⟩ = some (.int .i64 t'.index) ∧ w'.cell? ⟨w2.heap.size + 1, 0, none⟩ = some (.int .i64 pp.op) ∧ w'.cell? ⟨w2.heap.size + 1, 1, none⟩ = some (.int .i64 pp.ctor) ∧ w'.cell? ⟨w2.heap.size + 1, 2, none⟩ = some (.int .i64 pp.n) ∧ w'.cell? ⟨w2.heap.size + 1, 3, none⟩ = some (.int .i64 pp.m) ∧ w'.cell? ⟨w2.heap.size + 1, 4, none⟩ = some (.int .i64 pp.var) ∧ w'.cell? ⟨w2.heap.size + 1, 5, none⟩ = some (.slice A5 pp.kids.length c5)) (first | with_reducible exact SQ | with_reducible exact SA0 | with_reducible exact SB0 | with_reducible exact SQ1 | with_reducible exact SQ2 | go_keep) (first | (go_at_call 44; (with_reducible refine (HMU.out).mono ?_); rintro e w5 ⟨v3, n3, rfl, hx3, hn3, hR5, hg5'⟩; have hg5 := grown_drew hg5'; have hf5 : Fr (fun b => b = rb) wz w5 := Fr.grown hg5 (fun b e => by injection e); have HF5 := Lib.hid hf5; have HX5 := Lib.hid hx3; have hs5 := hf5.size; have HM2 := Lib.hid (pm_any 7 pp A5 c5 (fun b => w1.heap.size ≤ b ∧ b < w2.heap.size) w.heap.size rb 700 w5 (HOQ.out.fr _ hf5 (fun b hb e => by have := hb.1; omega)) (fun b hb => by have h1 := hb.1; have h2 := hb.2; omega) (hR5.more (by omega)) (by omega) (by have := HWP.out; have h1 := wPs_len pp.kids; have h2 := wP_kids pp; omega)); have SQ := HKS.out _ (hf5.wide (fun b hb => by have hb' : b = rb := hb; omega) : Fr (fun b => (¬ b = w2.heap.size ∧ ¬ b = w2.heap.size + 1)) wz w5); clear hg5 hg5' hf5 hx3 hR5) | (go_at_call 69; (with_reducible refine (HM2.out).mono ?_); rintro e w6 ⟨qq, A6, c6, rfl, hz6, ho6, hR6, hf6⟩; have HF6 := Lib.hid hf6; have HZ6 := Lib.hid hz6; have HO6 := Lib.hid ho6; have hs6 := hf6.size; have hfw : Fr (fun b => (¬ b = w2.heap.size ∧ ¬ b = w2.heap.size + 1)) wz w6 := (HF5.out.trans hf6).wide (fun b hb => by have hb' : b = rb := hb; omega); have SQ := HKS.out _ hfw; have hfw1 : Fr (fun b => (¬ b = w2.heap.size ∧ ¬ b = w2.heap.size + 1)) wz ((w6.setCell ⟨w.heap.size, 0, none⟩ (.int .i64 t'.data)).setCell ⟨w.heap.size, 1, none⟩ (.int .i64 t'.index)) := (hfw.setOf (by omega)).setOf (by omega); have SQ1 := HKS.out _ hfw1; have SQ2 := HKS.out _ (show Fr (fun b => (¬ b = w2.heap.size ∧ ¬ b = w2.heap.size + 1)) wz ((((((((w6.setCell ⟨w.heap.size, 0, none⟩ (.int .i64 t'.data)).setCell ⟨w.heap.size, 1, none⟩ (.int .i64 t'.index)).setCell ⟨w.heap.size + 1, 0, none⟩ (.int .i64 qq.op)).setCell ⟨w.heap.size + 1, 1, none⟩ (.int .i64 qq.ctor)).setCell ⟨w.heap.size + 1, 2, none⟩ (.int .i64 qq.n)).setCell ⟨w.heap.size + 1, 3, none⟩ (.int .i64 qq.m)).setCell ⟨w.heap.size + 1, 4, none⟩ (.int .i64 qq.var)).setCell ⟨w.heap.size + 1, 5, none⟩ (.slice A6 qq.kids.length c6)) from (((((hfw1.setOf (by omega)).setOf (by omega)).setOf (by omega)).setOf (by omega)).setOf (by omega)).setOf (by omega)); have hza := HZT.out.frT (HF5.out.trans hf6) (by omega); have hzb := HZP.out.frP (HF5.out.trans hf6) (by omega); have HZA' := Lib.hid hza; have HZB' := Lib.hid hzb; obtain ⟨a0, a1, a2, a3⟩ := cellsT hza; obtain ⟨b0, b1, b2, b3, b4, b5, b6, b7, b8, b9, b10, b11⟩ := cellsP hzb; clear hfw hfw1 hza hzb hf6 hz6 ho6 hR6))
    all_goals
      have hfs : Fr (fun b => b = w.heap.size ∨ b = w.heap.size + 1) w6 ((((((((w6.setCell ⟨w.heap.size, 0, none⟩ (.int .i64 t'.data)).setCell ⟨w.heap.size, 1, none⟩ (.int .i64 t'.index)).setCell ⟨w.heap.size + 1, 0, none⟩ (.int .i64 qq.op)).setCell ⟨w.heap.size + 1, 1, none⟩ (.int .i64 qq.ctor)).setCell ⟨w.heap.size + 1, 2, none⟩ (.int .i64 qq.n)).setCell ⟨w.heap.size + 1, 3, none⟩ (.int .i64 qq.m)).setCell ⟨w.heap.size + 1, 4, none⟩ (.int .i64 qq.var)).setCell ⟨w.heap.size + 1, 5, none⟩ (.slice A6 qq.kids.length c6)) := ((((((((Fr.refl _ _).setOf (.inl rfl)).setOf (.inl rfl)).setOf (.inr rfl)).setOf (.inr rfl)).setOf (.inr rfl)).setOf (.inr rfl)).setOf (.inr rfl)).setOf (.inr rfl)
      have h1 : ((((((((w6.setCell ⟨w.heap.size, 0, none⟩ (.int .i64 t'.data)).setCell ⟨w.heap.size, 1, none⟩ (.int .i64 t'.index)).setCell ⟨w.heap.size + 1, 0, none⟩ (.int .i64 qq.op)).setCell ⟨w.heap.size + 1, 1, none⟩ (.int .i64 qq.ctor)).setCell ⟨w.heap.size + 1, 2, none⟩ (.int .i64 qq.n)).setCell ⟨w.heap.size + 1, 3, none⟩ (.int .i64 qq.m)).setCell ⟨w.heap.size + 1, 4, none⟩ (.int .i64 qq.var)).setCell ⟨w.heap.size + 1, 5, none⟩ (.slice A6 qq.kids.length c6)).heap[w.heap.size]? = some (.cells #[.int .i64 t'.data, .int .i64 t'.index] 25 (0, 0)) := (Fr.six _ _ _ _ _ _ _ _).block (heap_setCell_same _ _ 1 _ _ _ (heap_setCell_same _ _ 0 _ _ _ HZA'.out)) (by omega)
      have hf2 : Fr (fun b => b = w.heap.size) w6 ((w6.setCell ⟨w.heap.size, 0, none⟩ (.int .i64 t'.data)).setCell ⟨w.heap.size, 1, none⟩ (.int .i64 t'.index)) := ((Fr.refl (fun b => b = w.heap.size) _).setOf rfl).setOf rfl
      have h2 : ((((((((w6.setCell ⟨w.heap.size, 0, none⟩ (.int .i64 t'.data)).setCell ⟨w.heap.size, 1, none⟩ (.int .i64 t'.index)).setCell ⟨w.heap.size + 1, 0, none⟩ (.int .i64 qq.op)).setCell ⟨w.heap.size + 1, 1, none⟩ (.int .i64 qq.ctor)).setCell ⟨w.heap.size + 1, 2, none⟩ (.int .i64 qq.n)).setCell ⟨w.heap.size + 1, 3, none⟩ (.int .i64 qq.m)).setCell ⟨w.heap.size + 1, 4, none⟩ (.int .i64 qq.var)).setCell ⟨w.heap.size + 1, 5, none⟩ (.slice A6 qq.kids.length c6)).heap[w.heap.size + 1]? = some (.cells #[.int .i64 qq.op, .int .i64 qq.ctor, .int .i64 qq.n, .int .i64 qq.m, .int .i64 qq.var, .slice A6 qq.kids.length c6] 50 (0, 0)) := ZP.put (hf2.block HZB'.out (by omega)) _ _ _ _ _ _
      generalize ((((((((w6.setCell ⟨w.heap.size, 0, none⟩ (.int .i64 t'.data)).setCell ⟨w.heap.size, 1, none⟩ (.int .i64 t'.index)).setCell ⟨w.heap.size + 1, 0, none⟩ (.int .i64 qq.op)).setCell ⟨w.heap.size + 1, 1, none⟩ (.int .i64 qq.ctor)).setCell ⟨w.heap.size + 1, 2, none⟩ (.int .i64 qq.n)).setCell ⟨w.heap.size + 1, 3, none⟩ (.int .i64 qq.m)).setCell ⟨w.heap.size + 1, 4, none⟩ (.int .i64 qq.var)).setCell ⟨w.heap.size + 1, 5, none⟩ (.slice A6 qq.kids.length c6)) = wf at hfs h1 h2 ⊢
      have hsf := hfs.size
      obtain ⟨L, hL, hli, _⟩ := HX5.out.lies (by unfold maxLen; omega)
      have hst : Stays wz.drew.heap.size w5 wf := (Stays.fr HF6.out (by show rb < wz.heap.size; omega)).trans ⟨hfs.size, fun b hb hlt => hfs.2.2.2.2 b hlt (by have hb2 : wz.heap.size ≤ b := hb; omega)⟩
      have hrd := (hli.at_ hst).lower (lo' := w.heap.size) (by show w.heap.size ≤ wz.heap.size; omega)
      obtain ⟨A3, c3, rfl, _⟩ := hrd.form
      have HFIN : Hid (GotPV w (.returned (.tuple #[.slice A3 L.length c3, .agg #[.int .i64 t'.data, .int .i64 t'.index], .agg #[.int .i64 qq.op, .int .i64 qq.ctor, .int .i64 qq.n, .int .i64 qq.m, .int .i64 qq.var, .slice A6 qq.kids.length c6]])) wf) := by
        have hfp : Fr (fun b => w.heap.size ≤ b) w wf := (((HFQ.out.wide (fun b hb => by have hb' : b = rb := hb; show w.heap.size ≤ b; omega)).trans (HF5.out.wide (fun b hb => by have hb' : b = rb := hb; show w.heap.size ≤ b; omega))).trans (HF6.out.wide (fun b hb => by have hb' : b = rb := hb; show w.heap.size ≤ b; omega))).trans (hfs.wide (fun b hb => by show w.heap.size ≤ b; omega))
        refine ⟨L, t', qq, A3, A6, c3, c6, _, rfl, hrd, (HO6.out.fr _ hfs (fun b hb e => by rcases hb.1 with h | h <;> omega)).more (by omega), (fun b hb => ⟨by rcases hb.1 with h | h <;> omega, by have := hb.2; omega⟩), by have := HZ6.out; have := HWP.out; omega, hfp.to (Nat.le_refl _) (fun b hb hc => by have hc' : w.heap.size ≤ b := hc; omega)⟩
      obtain ⟨r0, r1, _⟩ := cellsT h1
      obtain ⟨s0, s1, s2, s3, s4, s5, _⟩ := cellsP h2
      clear hfs h1 h2 hf2 hli hst hrd
      go_wp2_with fail
      exact bodyPost_ret (v := .tuple #[.slice A3 L.length c3, .agg #[.int .i64 t'.data, .int .i64 t'.index], .agg #[.int .i64 qq.op, .int .i64 qq.ctor, .int .i64 qq.n, .int .i64 qq.m, .int .i64 qq.var, .slice A6 qq.kids.length c6]]) (by simp [results, Try.results31, go_sem, r0, r1, s0, s1, s2, s3, s4, s5]) rfl HFIN.out
  · have q0 : ((k1 : Int) == 0) = false := ieq_f (by omega)
    have HZT := HZA
    have HZP := HZB
    have HFQ := HFP
    have HRQ : Hid (RRd wp w.heap.size rb 650) := HRP.out.more (by omega)
    have HOQ := HOP
    have HXQ := HXDp
    have HKS : Hid (∀ w', Fr (fun b => (¬ b = w2.heap.size ∧ ¬ b = w2.heap.size + 1)) wp w' → w'.cell? ⟨w2.heap.size, 0, none⟩ = some (.int .i64 t.data) ∧ w'.cell? ⟨w2.heap.size, 1, none⟩ = some (.int .i64 t.index) ∧ w'.cell? ⟨w2.heap.size + 1, 0, none⟩ = some (.int .i64 pp.op) ∧ w'.cell? ⟨w2.heap.size + 1, 1, none⟩ = some (.int .i64 pp.ctor) ∧ w'.cell? ⟨w2.heap.size + 1, 2, none⟩ = some (.int .i64 pp.n) ∧ w'.cell? ⟨w2.heap.size + 1, 3, none⟩ = some (.int .i64 pp.m) ∧ w'.cell? ⟨w2.heap.size + 1, 4, none⟩ = some (.int .i64 pp.var) ∧ w'.cell? ⟨w2.heap.size + 1, 5, none⟩ = some (.slice A5 pp.kids.length c5)) := fun w' h => by
      have e1 : w'.heap[w2.heap.size]? = some (.cells #[.int .i64 t.data, .int .i64 t.index] 25 (0, 0)) := h.block HTp.out (by omega)
      have e2 : w'.heap[w2.heap.size + 1]? = some (.cells #[.int .i64 pp.op, .int .i64 pp.ctor, .int .i64 pp.n, .int .i64 pp.m, .int .i64 pp.var, .slice A5 pp.kids.length c5] 50 (0, 0)) := h.block HVp.out (by omega)
      obtain ⟨p0, p1, p2, p3, p4, p5, _⟩ := cellsP e2
      exact ⟨(cell_of_blk e1 0).trans rfl, (cell_of_blk e1 1).trans rfl, p0, p1, p2, p3, p4, p5⟩
    have SA0 := HKS.out wp (Fr.refl _ _)
    have SB0 : wp.drew.cell? ⟨w2.heap.size, 0, none⟩ = some (.int .i64 t.data) ∧ wp.drew.cell? ⟨w2.heap.size, 1, none⟩ = some (.int .i64 t.index) ∧ wp.drew.cell? ⟨w2.heap.size + 1, 0, none⟩ = some (.int .i64 pp.op) ∧ wp.drew.cell? ⟨w2.heap.size + 1, 1, none⟩ = some (.int .i64 pp.ctor) ∧ wp.drew.cell? ⟨w2.heap.size + 1, 2, none⟩ = some (.int .i64 pp.n) ∧ wp.drew.cell? ⟨w2.heap.size + 1, 3, none⟩ = some (.int .i64 pp.m) ∧ wp.drew.cell? ⟨w2.heap.size + 1, 4, none⟩ = some (.int .i64 pp.var) ∧ wp.drew.cell? ⟨w2.heap.size + 1, 5, none⟩ = some (.slice A5 pp.kids.length c5) := SA0
    have HMU : Hid (Calls Try.prog 44 #[.pointer (some ⟨rb, 0, none⟩), .slice Aw l.length cw] wp.drew (Muted wp.drew w.heap.size rb (650 + 4) (4 + 1))) := l1Mutate_any Aw w.heap.size rb 650 w1.heap.size 4 l.length cw wp.drew (HXQ.out.keepT (KeepT.below _ _ ((Below.refl _ _).drew)) (Nat.le_refl _)) (by omega) HLL.out.1 HRQ.out.drew (by omega)
    go_wp2_with fail
    go_region_held3 (fun w' => w'.cell? ⟨w2.heap.size, 0, none⟩ = some (.int .i64 t.data) ∧ w'.cell? ⟨w2.heap.size, 1, none⟩ = some (.int .i64 t.index) ∧ w'.cell? ⟨w2.heap.size + 1, 0, none⟩ = some (.int .i64 pp.op) ∧ w'.cell? ⟨w2.heap.size + 1, 1, none⟩ = some (.int .i64 pp.ctor) ∧ w'.cell? ⟨w2.heap.size + 1, 2, none⟩ = some (.int .i64 pp.n) ∧ w'.cell? ⟨w2.heap.size + 1, 3, none⟩ = some (.int .i64 pp.m) ∧ w'.cell? ⟨w2.heap.size + 1, 4, none⟩ = some (.int .i64 pp.var) ∧ w'.cell? ⟨w2.heap.size + 1, 5, none⟩ = some (.slice A5 pp.kids.length c5)) (first | with_reducible exact SQ | with_reducible exact SA0 | with_reducible exact SB0 | with_reducible exact SQ1 | with_reducible exact SQ2 | go_keep) (first | (go_at_call 44; (with_reducible refine (HMU.out).mono ?_); rintro e w5 ⟨v3, n3, rfl, hx3, hn3, hR5, hg5'⟩; have hg5 := grown_drew hg5'; have hf5 : Fr (fun b => b = rb) wp w5 := Fr.grown hg5 (fun b e => by injection e); have HF5 := Lib.hid hf5; have HX5 := Lib.hid hx3; have hs5 := hf5.size; have HM2 := Lib.hid (pm_any 7 pp A5 c5 (fun b => w1.heap.size ≤ b ∧ b < w2.heap.size) w.heap.size rb 700 w5 (HOQ.out.fr _ hf5 (fun b hb e => by have := hb.1; omega)) (fun b hb => by have h1 := hb.1; have h2 := hb.2; omega) (hR5.more (by omega)) (by omega) (by have := HWP.out; have h1 := wPs_len pp.kids; have h2 := wP_kids pp; omega)); have SQ := HKS.out _ (hf5.wide (fun b hb => by have hb' : b = rb := hb; omega) : Fr (fun b => (¬ b = w2.heap.size ∧ ¬ b = w2.heap.size + 1)) wp w5); clear hg5 hg5' hf5 hx3 hR5) | (go_at_call 69; (with_reducible refine (HM2.out).mono ?_); rintro e w6 ⟨qq, A6, c6, rfl, hz6, ho6, hR6, hf6⟩; have HF6 := Lib.hid hf6; have HZ6 := Lib.hid hz6; have HO6 := Lib.hid ho6; have hs6 := hf6.size; have hfw : Fr (fun b => (¬ b = w2.heap.size ∧ ¬ b = w2.heap.size + 1)) wp w6 := (HF5.out.trans hf6).wide (fun b hb => by have hb' : b = rb := hb; omega); have SQ := HKS.out _ hfw; have hfw1 : Fr (fun b => (¬ b = w2.heap.size ∧ ¬ b = w2.heap.size + 1)) wp ((w6.setCell ⟨w.heap.size, 0, none⟩ (.int .i64 t.data)).setCell ⟨w.heap.size, 1, none⟩ (.int .i64 t.index)) := (hfw.setOf (by omega)).setOf (by omega); have SQ1 := HKS.out _ hfw1; have SQ2 := HKS.out _ (show Fr (fun b => (¬ b = w2.heap.size ∧ ¬ b = w2.heap.size + 1)) wp ((((((((w6.setCell ⟨w.heap.size, 0, none⟩ (.int .i64 t.data)).setCell ⟨w.heap.size, 1, none⟩ (.int .i64 t.index)).setCell ⟨w.heap.size + 1, 0, none⟩ (.int .i64 qq.op)).setCell ⟨w.heap.size + 1, 1, none⟩ (.int .i64 qq.ctor)).setCell ⟨w.heap.size + 1, 2, none⟩ (.int .i64 qq.n)).setCell ⟨w.heap.size + 1, 3, none⟩ (.int .i64 qq.m)).setCell ⟨w.heap.size + 1, 4, none⟩ (.int .i64 qq.var)).setCell ⟨w.heap.size + 1, 5, none⟩ (.slice A6 qq.kids.length c6)) from (((((hfw1.setOf (by omega)).setOf (by omega)).setOf (by omega)).setOf (by omega)).setOf (by omega)).setOf (by omega)); have hza := HZT.out.frT (HF5.out.trans hf6) (by omega); have hzb := HZP.out.frP (HF5.out.trans hf6) (by omega); have HZA' := Lib.hid hza; have HZB' := Lib.hid hzb; obtain ⟨a0, a1, a2, a3⟩ := cellsT hza; obtain ⟨b0, b1, b2, b3, b4, b5, b6, b7, b8, b9, b10, b11⟩ := cellsP hzb; clear hfw hfw1 hza hzb hf6 hz6 ho6 hR6))
    all_goals
      have hfs : Fr (fun b => b = w.heap.size ∨ b = w.heap.size + 1) w6 ((((((((w6.setCell ⟨w.heap.size, 0, none⟩ (.int .i64 t.data)).setCell ⟨w.heap.size, 1, none⟩ (.int .i64 t.index)).setCell ⟨w.heap.size + 1, 0, none⟩ (.int .i64 qq.op)).setCell ⟨w.heap.size + 1, 1, none⟩ (.int .i64 qq.ctor)).setCell ⟨w.heap.size + 1, 2, none⟩ (.int .i64 qq.n)).setCell ⟨w.heap.size + 1, 3, none⟩ (.int .i64 qq.m)).setCell ⟨w.heap.size + 1, 4, none⟩ (.int .i64 qq.var)).setCell ⟨w.heap.size + 1, 5, none⟩ (.slice A6 qq.kids.length c6)) := ((((((((Fr.refl _ _).setOf (.inl rfl)).setOf (.inl rfl)).setOf (.inr rfl)).setOf (.inr rfl)).setOf (.inr rfl)).setOf (.inr rfl)).setOf (.inr rfl)).setOf (.inr rfl)
      have h1 : ((((((((w6.setCell ⟨w.heap.size, 0, none⟩ (.int .i64 t.data)).setCell ⟨w.heap.size, 1, none⟩ (.int .i64 t.index)).setCell ⟨w.heap.size + 1, 0, none⟩ (.int .i64 qq.op)).setCell ⟨w.heap.size + 1, 1, none⟩ (.int .i64 qq.ctor)).setCell ⟨w.heap.size + 1, 2, none⟩ (.int .i64 qq.n)).setCell ⟨w.heap.size + 1, 3, none⟩ (.int .i64 qq.m)).setCell ⟨w.heap.size + 1, 4, none⟩ (.int .i64 qq.var)).setCell ⟨w.heap.size + 1, 5, none⟩ (.slice A6 qq.kids.length c6)).heap[w.heap.size]? = some (.cells #[.int .i64 t.data, .int .i64 t.index] 25 (0, 0)) := (Fr.six _ _ _ _ _ _ _ _).block (heap_setCell_same _ _ 1 _ _ _ (heap_setCell_same _ _ 0 _ _ _ HZA'.out)) (by omega)
      have hf2 : Fr (fun b => b = w.heap.size) w6 ((w6.setCell ⟨w.heap.size, 0, none⟩ (.int .i64 t.data)).setCell ⟨w.heap.size, 1, none⟩ (.int .i64 t.index)) := ((Fr.refl (fun b => b = w.heap.size) _).setOf rfl).setOf rfl
      have h2 : ((((((((w6.setCell ⟨w.heap.size, 0, none⟩ (.int .i64 t.data)).setCell ⟨w.heap.size, 1, none⟩ (.int .i64 t.index)).setCell ⟨w.heap.size + 1, 0, none⟩ (.int .i64 qq.op)).setCell ⟨w.heap.size + 1, 1, none⟩ (.int .i64 qq.ctor)).setCell ⟨w.heap.size + 1, 2, none⟩ (.int .i64 qq.n)).setCell ⟨w.heap.size + 1, 3, none⟩ (.int .i64 qq.m)).setCell ⟨w.heap.size + 1, 4, none⟩ (.int .i64 qq.var)).setCell ⟨w.heap.size + 1, 5, none⟩ (.slice A6 qq.kids.length c6)).heap[w.heap.size + 1]? = some (.cells #[.int .i64 qq.op, .int .i64 qq.ctor, .int .i64 qq.n, .int .i64 qq.m, .int .i64 qq.var, .slice A6 qq.kids.length c6] 50 (0, 0)) := ZP.put (hf2.block HZB'.out (by omega)) _ _ _ _ _ _
      generalize ((((((((w6.setCell ⟨w.heap.size, 0, none⟩ (.int .i64 t.data)).setCell ⟨w.heap.size, 1, none⟩ (.int .i64 t.index)).setCell ⟨w.heap.size + 1, 0, none⟩ (.int .i64 qq.op)).setCell ⟨w.heap.size + 1, 1, none⟩ (.int .i64 qq.ctor)).setCell ⟨w.heap.size + 1, 2, none⟩ (.int .i64 qq.n)).setCell ⟨w.heap.size + 1, 3, none⟩ (.int .i64 qq.m)).setCell ⟨w.heap.size + 1, 4, none⟩ (.int .i64 qq.var)).setCell ⟨w.heap.size + 1, 5, none⟩ (.slice A6 qq.kids.length c6)) = wf at hfs h1 h2 ⊢
      have hsf := hfs.size
      obtain ⟨L, hL, hli, _⟩ := HX5.out.lies (by unfold maxLen; omega)
      have hst : Stays wp.drew.heap.size w5 wf := (Stays.fr HF6.out (by show rb < wp.heap.size; omega)).trans ⟨hfs.size, fun b hb hlt => hfs.2.2.2.2 b hlt (by have hb2 : wp.heap.size ≤ b := hb; omega)⟩
      have hrd := (hli.at_ hst).lower (lo' := w.heap.size) (by show w.heap.size ≤ wp.heap.size; omega)
      obtain ⟨A3, c3, rfl, _⟩ := hrd.form
      have HFIN : Hid (GotPV w (.returned (.tuple #[.slice A3 L.length c3, .agg #[.int .i64 t.data, .int .i64 t.index], .agg #[.int .i64 qq.op, .int .i64 qq.ctor, .int .i64 qq.n, .int .i64 qq.m, .int .i64 qq.var, .slice A6 qq.kids.length c6]])) wf) := by
        have hfp : Fr (fun b => w.heap.size ≤ b) w wf := (((HFQ.out.wide (fun b hb => by have hb' : b = rb := hb; show w.heap.size ≤ b; omega)).trans (HF5.out.wide (fun b hb => by have hb' : b = rb := hb; show w.heap.size ≤ b; omega))).trans (HF6.out.wide (fun b hb => by have hb' : b = rb := hb; show w.heap.size ≤ b; omega))).trans (hfs.wide (fun b hb => by show w.heap.size ≤ b; omega))
        refine ⟨L, t, qq, A3, A6, c3, c6, _, rfl, hrd, (HO6.out.fr _ hfs (fun b hb e => by rcases hb.1 with h | h <;> omega)).more (by omega), (fun b hb => ⟨by rcases hb.1 with h | h <;> omega, by have := hb.2; omega⟩), by have := HZ6.out; have := HWP.out; omega, hfp.to (Nat.le_refl _) (fun b hb hc => by have hc' : w.heap.size ≤ b := hc; omega)⟩
      obtain ⟨r0, r1, _⟩ := cellsT h1
      obtain ⟨s0, s1, s2, s3, s4, s5, _⟩ := cellsP h2
      clear hfs h1 h2 hf2 hli hst hrd
      go_wp2_with fail
      exact bodyPost_ret (v := .tuple #[.slice A3 L.length c3, .agg #[.int .i64 t.data, .int .i64 t.index], .agg #[.int .i64 qq.op, .int .i64 qq.ctor, .int .i64 qq.n, .int .i64 qq.m, .int .i64 qq.var, .slice A6 qq.kids.length c6]]) (by simp [results, Try.results31, go_sem, r0, r1, s0, s1, s2, s3, s4, s5]) rfl HFIN.out
end Go.Proofs.Yteoopmogklpnoaa
