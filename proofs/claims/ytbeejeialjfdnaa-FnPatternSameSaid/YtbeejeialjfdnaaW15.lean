/-
  A world, a type, a pattern and a value are drawn: the document's function. No statement is proved here.
-/
import Derived.Test.YtbeejeialjfdnaaW14
import Derived.Test.YtbeejeialjfdnaaW00
import Derived.Laws.OwnMore
import Derived.Maps.AppendAt
import Derived.Tactics
namespace Go.Proofs.Ytbeejeialjfdnaa
open Go.RowKit Go.Sort Go.Deep
set_option maxRecDepth 100000
set_option linter.unusedVariables false
def Typed3 (w : World) (B rb N : Nat) (e : Ending) (w' : World) : Prop := ∃ (l : List Da) (t : Ty) (pp : Pt) (v : Vl) (Aw A5 A : Option Addr) (cw c5 c : Nat), e = .returned (.tuple #[.slice Aw l.length cw, .agg #[.int .i64 t.data, .int .i64 t.index], .agg #[.int .i64 pp.op, .int .i64 pp.ctor, .int .i64 pp.n, .int .i64 pp.m, .int .i64 pp.var, .slice A5 pp.kids.length c5], .agg #[.int .i64 v.ctor, .int .i64 v.n, .slice A v.kids.length c]]) ∧ Seven l ∧ ODas w' w.heap.size (.slice Aw l.length cw) l ∧ TyOK l t ∧ Inh l t ∧ fitV l 4 t v = true ∧ (v.kids.length ≤ c ∧ c ≤ maxLen) ∧ OVc 4 w' (Nw w w') A v.kids ∧ (isP l t pp = true ∨ pp = .mk 1 0 0 0 0 []) ∧ wP pp ≤ 400 ∧ OPs 8 w' (Nw w w') A5 pp.kids ∧ RRd w' B rb (N + 645) ∧ Fr (fun b => b = rb) w w'
/-- Empty results: a type, a pattern and a value in three blocks. -/
def ZTPV (w : World) (a : Nat) : Prop := w.heap[a]? = some (.cells #[.int .i64 0, .int .i64 0] 25 (0, 0)) ∧ w.heap[a + 1]? = some (.cells #[.int .i64 0, .int .i64 0, .int .i64 0, .int .i64 0, .int .i64 0, .slice none 0 0] 50 (0, 0)) ∧ w.heap[a + 2]? = some (.cells #[.int .i64 0, .int .i64 0, .slice none 0 0] 28 (0, 0))
theorem ZTPV.new (w : World) : ZTPV (((w.alloc (.cells #[.int .i64 0, .int .i64 0] 25)).alloc (.cells #[.int .i64 0, .int .i64 0, .int .i64 0, .int .i64 0, .int .i64 0, .slice none 0 0] 50)).alloc (.cells #[.int .i64 0, .int .i64 0, .slice none 0 0] 28)) w.heap.size := by
  have h1 := heap_alloc_new (w.alloc (.cells #[.int .i64 0, .int .i64 0] 25)) (.cells #[.int .i64 0, .int .i64 0, .int .i64 0, .int .i64 0, .int .i64 0, .slice none 0 0] 50)
  have h2 := heap_alloc_new ((w.alloc (.cells #[.int .i64 0, .int .i64 0] 25)).alloc (.cells #[.int .i64 0, .int .i64 0, .int .i64 0, .int .i64 0, .int .i64 0, .slice none 0 0] 50)) (.cells #[.int .i64 0, .int .i64 0, .slice none 0 0] 28)
  rw [World.size_alloc] at h1
  rw [World.size_alloc, World.size_alloc] at h2
  exact ⟨(Below.heap_alloc _ _ _ (by simp <;> omega)).trans ((Below.heap_alloc _ _ _ (by simp)).trans (heap_alloc_new w _)), (Below.heap_alloc _ _ _ (by simp)).trans h1, h2⟩
theorem ZTPV.fr {w w' : World} {a : Nat} {P : Nat → Prop} (h : ZTPV w a) (hf : Fr P w w') (h0 : ¬ P a) (h1 : ¬ P (a + 1)) (h2 : ¬ P (a + 2)) : ZTPV w' a := ⟨hf.block h.1 h0, hf.block h.2.1 h1, hf.block h.2.2 h2⟩
set_option maxHeartbeats 16000000 in
theorem l3Typed_any (rb B N : Nat) (w : World) (h : RRd w B rb N) (hN : N ≤ 70000) : Calls Try.prog 68 #[.pointer (some ⟨rb, 0, none⟩)] w (Typed3 w B rb N) := by
  have hrl := h.lt
  have hrg := h.ge
  have HNN := Lib.hid hN
  generalize hwx : ((w.alloc (.cells #[.int .i64 0, .int .i64 0] 25)).alloc (.cells #[.int .i64 0, .int .i64 0, .int .i64 0, .int .i64 0, .int .i64 0, .slice none 0 0] 50)).alloc (.cells #[.int .i64 0, .int .i64 0, .slice none 0 0] 28) = wx
  have hbx : Below w.heap.size w wx := by rw [← hwx]; exact (((Below.refl _ _).alloc (Nat.le_refl _) _).alloc (by simp) _).alloc (by simp <;> omega) _
  have HZX : Hid (ZTPV wx w.heap.size) := by unfold Hid; rw [← hwx]; exact ZTPV.new w
  have HRX := Lib.hid (h.below hbx)
  have HSX : Hid (wx.heap.size = w.heap.size + 3) := by unfold Hid; rw [← hwx]; simp
  have HBX := Lib.hid hbx
  have HWX := Lib.hid hwx
  clear hwx h hbx hN
  go_enter Try.func68, Try.ntmps68
  go_wp2_with fail
  rw [HWX.out]
  refine (l2Typed_any rb B N _ HRX.out (by have := HNN.out; omega)).mono ?_
  rintro e w1 ⟨l, t, v, Aw, A, cw, c, rfl, h7, hod, htok, hinh, hfit, hcap, hov, hR1, hf1⟩
  have H7 := Lib.hid h7
  obtain ⟨hw, hl0, _⟩ := h7.ok
  have HW := Lib.hid hw
  have HTOK := Lib.hid htok
  have HINH := Lib.hid hinh
  have HFIT := Lib.hid hfit
  have HCAP := Lib.hid hcap
  have hsx := HSX.out
  have hs1 := hf1.size
  generalize hwb : (w1.alloc (.cells #[.int .i64 t.data, .int .i64 t.index] 25)).alloc (.cells #[.int .i64 v.ctor, .int .i64 v.n, .slice A v.kids.length c] 28) = wb
  have hbb := below_box2 hwb
  have HSB : Hid (wb.heap.size = w1.heap.size + 2) := by unfold Hid; rw [← hwb]; simp
  have hTb : wb.heap[w1.heap.size]? = some (.cells #[.int .i64 t.data, .int .i64 t.index] 25 (0, 0)) := by rw [← hwb]; exact (Below.heap_alloc _ _ _ (by simp)).trans (heap_alloc_new w1 _)
  have hVb : wb.heap[w1.heap.size + 1]? = some (.cells #[.int .i64 v.ctor, .int .i64 v.n, .slice A v.kids.length c] 28 (0, 0)) := by
    have h := heap_alloc_new (w1.alloc (.cells #[.int .i64 t.data, .int .i64 t.index] 25)) (.cells #[.int .i64 v.ctor, .int .i64 v.n, .slice A v.kids.length c] 28)
    rw [World.size_alloc] at h
    rw [← hwb]; exact h
  have HKS : Hid (∀ w', Fr (fun b => ¬ b = w1.heap.size ∧ ¬ b = w1.heap.size + 1) wb w' → w'.cell? ⟨w1.heap.size, 0, none⟩ = some (.int .i64 t.data) ∧ w'.cell? ⟨w1.heap.size, 1, none⟩ = some (.int .i64 t.index) ∧ w'.cell? ⟨w1.heap.size + 1, 0, none⟩ = some (.int .i64 v.ctor) ∧ w'.cell? ⟨w1.heap.size + 1, 1, none⟩ = some (.int .i64 v.n) ∧ w'.cell? ⟨w1.heap.size + 1, 2, none⟩ = some (.slice A v.kids.length c)) := fun w' h =>
    have e1 : w'.heap[w1.heap.size]? = some (.cells #[.int .i64 t.data, .int .i64 t.index] 25 (0, 0)) := h.block hTb (by omega)
    have e2 : w'.heap[w1.heap.size + 1]? = some (.cells #[.int .i64 v.ctor, .int .i64 v.n, .slice A v.kids.length c] 28 (0, 0)) := h.block hVb (by omega)
    ⟨(cell_of_blk e1 0).trans rfl, (cell_of_blk e1 1).trans rfl, (cell_of_blk e2 0).trans rfl, (cell_of_blk e2 1).trans rfl, (cell_of_blk e2 2).trans rfl⟩
  have HODb : Hid (ODas wb wx.heap.size (.slice Aw l.length cw) l) := hod.keepT ((Stays.below hbb).keepT T28)
  have HOVb : Hid (OVc 4 wb (fun b => wx.heap.size ≤ b ∧ b < w1.heap.size) A v.kids) := hov.fr _ (Fr.below (P := fun _ => False) hbb) (fun _ _ h => h)
  have HFb : Hid (Fr (fun b => b = rb) w wb) := ((Fr.below HBX.out).trans hf1).trans (Fr.below hbb)
  have HZb : Hid (ZTPV wb w.heap.size) := (HZX.out.fr hf1 (by omega) (by omega) (by omega)).fr (P := fun _ => False) (Fr.below hbb) (fun h => h) (fun h => h) (fun h => h)
  have HRb := Lib.hid (hR1.below hbb)
  have HROB : Hid (RobW wb wx.heap.size Aw l) := fun w' hs => by
    obtain ⟨A', c', e, hrd⟩ := HODb.out.lies (by have := hw.1; unfold maxLen; omega)
    injection e with e1 e2 e3
    subst e1
    exact hrd w' hs
  have HWB := Lib.hid hwb
  have HSM : Hid (Calls Try.prog 71 #[.pointer (some ⟨rb, 0, none⟩), .slice Aw l.length cw, .agg #[.int .i64 t.data, .int .i64 t.index]] wb.drew (SomeQ l t B rb (N + 45) wb.drew)) := sm_any l HW.out Aw cw t wx.heap.size B rb (N + 45) wb.drew (fun w' hs => HROB.out w' hs) (by omega) HTOK.out HRb.out.drew (by have := HNN.out; omega)
  have SA0 := HKS.out wb (Fr.refl _ _)
  have SB0 : wb.drew.cell? ⟨w1.heap.size, 0, none⟩ = some (.int .i64 t.data) ∧ wb.drew.cell? ⟨w1.heap.size, 1, none⟩ = some (.int .i64 t.index) ∧ wb.drew.cell? ⟨w1.heap.size + 1, 0, none⟩ = some (.int .i64 v.ctor) ∧ wb.drew.cell? ⟨w1.heap.size + 1, 1, none⟩ = some (.int .i64 v.n) ∧ wb.drew.cell? ⟨w1.heap.size + 1, 2, none⟩ = some (.slice A v.kids.length c) := SA0
  have hsb := HSB.out
  clear h7 hod htok hinh hfit hcap hov hR1 hf1 hw hl0 hwb hbb hTb hVb
  go_wp2_with fail
  rw [HWB.out]
  go_region_held3 (fun w' => w'.cell? ⟨w1.heap.size, 0, none⟩ = some (.int .i64 t.data) ∧ w'.cell? ⟨w1.heap.size, 1, none⟩ = some (.int .i64 t.index) ∧ w'.cell? ⟨w1.heap.size + 1, 0, none⟩ = some (.int .i64 v.ctor) ∧ w'.cell? ⟨w1.heap.size + 1, 1, none⟩ = some (.int .i64 v.n) ∧ w'.cell? ⟨w1.heap.size + 1, 2, none⟩ = some (.slice A v.kids.length c)) (first | with_reducible exact SQ | with_reducible exact SA0 | with_reducible exact SB0 | with_reducible exact SQ1 | with_reducible exact SQ2 | with_reducible exact SQ3 | go_keep) (first | (go_at_call 71; (with_reducible refine (HSM.out).mono ?_); rintro e w5 ⟨pp, A5, c5, rfl, hv5, hz5, ho5, hR', hf''⟩; have hf' : Fr (fun b => b = rb) wb w5 := ⟨hf''.1, hf''.2.1, hf''.2.2.1, hf''.2.2.2.1, hf''.2.2.2.2⟩; have HF5 := Lib.hid hf'; have HV5 := Lib.hid hv5; have HZ5 := Lib.hid hz5; have HO5 : Hid (OPs 8 w5 (Nw wb w5) A5 pp.kids) := ho5; have HR5 := Lib.hid hR'; have hs5 := hf'.size; have hfw : Fr (fun b => ¬ b = w1.heap.size ∧ ¬ b = w1.heap.size + 1) wb w5 := hf'.wide (fun b hb => by have hb' : b = rb := hb; omega); have SQ := HKS.out _ hfw; have hfw1 : Fr (fun b => ¬ b = w1.heap.size ∧ ¬ b = w1.heap.size + 1) wb ((w5.setCell ⟨w.heap.size, 0, none⟩ (.int .i64 t.data)).setCell ⟨w.heap.size, 1, none⟩ (.int .i64 t.index)) := (hfw.setOf (by omega)).setOf (by omega); have SQ1 := HKS.out _ hfw1; have hfw2 : Fr (fun b => ¬ b = w1.heap.size ∧ ¬ b = w1.heap.size + 1) wb ((((((((w5.setCell ⟨w.heap.size, 0, none⟩ (.int .i64 t.data)).setCell ⟨w.heap.size, 1, none⟩ (.int .i64 t.index)).setCell ⟨w.heap.size + 1, 0, none⟩ (.int .i64 pp.op)).setCell ⟨w.heap.size + 1, 1, none⟩ (.int .i64 pp.ctor)).setCell ⟨w.heap.size + 1, 2, none⟩ (.int .i64 pp.n)).setCell ⟨w.heap.size + 1, 3, none⟩ (.int .i64 pp.m)).setCell ⟨w.heap.size + 1, 4, none⟩ (.int .i64 pp.var)).setCell ⟨w.heap.size + 1, 5, none⟩ (.slice A5 pp.kids.length c5)) := (((((hfw1.setOf (by omega)).setOf (by omega)).setOf (by omega)).setOf (by omega)).setOf (by omega)).setOf (by omega); have SQ2 := HKS.out _ hfw2; have SQ3 := HKS.out _ (show Fr (fun b => ¬ b = w1.heap.size ∧ ¬ b = w1.heap.size + 1) wb (((((((((((w5.setCell ⟨w.heap.size, 0, none⟩ (.int .i64 t.data)).setCell ⟨w.heap.size, 1, none⟩ (.int .i64 t.index)).setCell ⟨w.heap.size + 1, 0, none⟩ (.int .i64 pp.op)).setCell ⟨w.heap.size + 1, 1, none⟩ (.int .i64 pp.ctor)).setCell ⟨w.heap.size + 1, 2, none⟩ (.int .i64 pp.n)).setCell ⟨w.heap.size + 1, 3, none⟩ (.int .i64 pp.m)).setCell ⟨w.heap.size + 1, 4, none⟩ (.int .i64 pp.var)).setCell ⟨w.heap.size + 1, 5, none⟩ (.slice A5 pp.kids.length c5)).setCell ⟨w.heap.size + 2, 0, none⟩ (.int .i64 v.ctor)).setCell ⟨w.heap.size + 2, 1, none⟩ (.int .i64 v.n)).setCell ⟨w.heap.size + 2, 2, none⟩ (.slice A v.kids.length c)) from ((hfw2.setOf (by omega)).setOf (by omega)).setOf (by omega)); have hzt := HZb.out.fr hf' (by omega) (by omega) (by omega); have HZT := Lib.hid hzt; have a0 := (cell_of_blk hzt.1 0).trans rfl; have a1 := (cell_of_blk hzt.1 1).trans rfl; have af0 := frozen_of_row w5 w.heap.size 0 _ 25 hzt.1; have af1 := frozen_of_row w5 w.heap.size 1 _ 25 hzt.1; obtain ⟨b0, b1, b2, b3, b4, b5, b6, b7, b8, b9, b10, b11⟩ := cellsP hzt.2.1; have c0 := (cell_of_blk hzt.2.2 0).trans rfl; have c1 := (cell_of_blk hzt.2.2 1).trans rfl; have c2 := (cell_of_blk hzt.2.2 2).trans rfl; have cf0 := frozen_of_row w5 (w.heap.size + 2) 0 _ 28 hzt.2.2; have cf1 := frozen_of_row w5 (w.heap.size + 2) 1 _ 28 hzt.2.2; have cf2 := frozen_of_row w5 (w.heap.size + 2) 2 _ 28 hzt.2.2; clear hf' hf'' hv5 hz5 ho5 hR' hfw hfw1 hfw2 hzt))
  all_goals
    have hfs : Fr (fun b => b = w.heap.size ∨ b = w.heap.size + 1 ∨ b = w.heap.size + 2) w5 (((((((((((w5.setCell ⟨w.heap.size, 0, none⟩ (.int .i64 t.data)).setCell ⟨w.heap.size, 1, none⟩ (.int .i64 t.index)).setCell ⟨w.heap.size + 1, 0, none⟩ (.int .i64 pp.op)).setCell ⟨w.heap.size + 1, 1, none⟩ (.int .i64 pp.ctor)).setCell ⟨w.heap.size + 1, 2, none⟩ (.int .i64 pp.n)).setCell ⟨w.heap.size + 1, 3, none⟩ (.int .i64 pp.m)).setCell ⟨w.heap.size + 1, 4, none⟩ (.int .i64 pp.var)).setCell ⟨w.heap.size + 1, 5, none⟩ (.slice A5 pp.kids.length c5)).setCell ⟨w.heap.size + 2, 0, none⟩ (.int .i64 v.ctor)).setCell ⟨w.heap.size + 2, 1, none⟩ (.int .i64 v.n)).setCell ⟨w.heap.size + 2, 2, none⟩ (.slice A v.kids.length c)) := (((((((((((Fr.refl (fun b => b = w.heap.size ∨ b = w.heap.size + 1 ∨ b = w.heap.size + 2) w5).setOf (.inl rfl)).setOf (.inl rfl)).setOf (.inr (.inl rfl))).setOf (.inr (.inl rfl))).setOf (.inr (.inl rfl))).setOf (.inr (.inl rfl))).setOf (.inr (.inl rfl))).setOf (.inr (.inl rfl))).setOf (.inr (.inr rfl))).setOf (.inr (.inr rfl))).setOf (.inr (.inr rfl))
    have e1 : ((w5.setCell ⟨w.heap.size, 0, none⟩ (.int .i64 t.data)).setCell ⟨w.heap.size, 1, none⟩ (.int .i64 t.index)).heap[w.heap.size]? = some (.cells #[.int .i64 t.data, .int .i64 t.index] 25 (0, 0)) := heap_setCell_same _ _ 1 _ _ _ (heap_setCell_same _ _ 0 _ _ _ HZT.out.1)
    have g1 : ((((((((w5.setCell ⟨w.heap.size, 0, none⟩ (.int .i64 t.data)).setCell ⟨w.heap.size, 1, none⟩ (.int .i64 t.index)).setCell ⟨w.heap.size + 1, 0, none⟩ (.int .i64 pp.op)).setCell ⟨w.heap.size + 1, 1, none⟩ (.int .i64 pp.ctor)).setCell ⟨w.heap.size + 1, 2, none⟩ (.int .i64 pp.n)).setCell ⟨w.heap.size + 1, 3, none⟩ (.int .i64 pp.m)).setCell ⟨w.heap.size + 1, 4, none⟩ (.int .i64 pp.var)).setCell ⟨w.heap.size + 1, 5, none⟩ (.slice A5 pp.kids.length c5)).heap[w.heap.size]? = some (.cells #[.int .i64 t.data, .int .i64 t.index] 25 (0, 0)) := (Fr.six _ _ _ _ _ _ _ _).block e1 (by omega)
    have g2 : ((((((((w5.setCell ⟨w.heap.size, 0, none⟩ (.int .i64 t.data)).setCell ⟨w.heap.size, 1, none⟩ (.int .i64 t.index)).setCell ⟨w.heap.size + 1, 0, none⟩ (.int .i64 pp.op)).setCell ⟨w.heap.size + 1, 1, none⟩ (.int .i64 pp.ctor)).setCell ⟨w.heap.size + 1, 2, none⟩ (.int .i64 pp.n)).setCell ⟨w.heap.size + 1, 3, none⟩ (.int .i64 pp.m)).setCell ⟨w.heap.size + 1, 4, none⟩ (.int .i64 pp.var)).setCell ⟨w.heap.size + 1, 5, none⟩ (.slice A5 pp.kids.length c5)).heap[w.heap.size + 1]? = some (.cells #[.int .i64 pp.op, .int .i64 pp.ctor, .int .i64 pp.n, .int .i64 pp.m, .int .i64 pp.var, .slice A5 pp.kids.length c5] 50 (0, 0)) := ZP.put (((((Fr.refl (fun b => b = w.heap.size) w5).setOf rfl).setOf rfl : Fr (fun b => b = w.heap.size) w5 ((w5.setCell ⟨w.heap.size, 0, none⟩ (.int .i64 t.data)).setCell ⟨w.heap.size, 1, none⟩ (.int .i64 t.index)))).block HZT.out.2.1 (by omega)) _ _ _ _ _ _
    have g3 : ((((((((w5.setCell ⟨w.heap.size, 0, none⟩ (.int .i64 t.data)).setCell ⟨w.heap.size, 1, none⟩ (.int .i64 t.index)).setCell ⟨w.heap.size + 1, 0, none⟩ (.int .i64 pp.op)).setCell ⟨w.heap.size + 1, 1, none⟩ (.int .i64 pp.ctor)).setCell ⟨w.heap.size + 1, 2, none⟩ (.int .i64 pp.n)).setCell ⟨w.heap.size + 1, 3, none⟩ (.int .i64 pp.m)).setCell ⟨w.heap.size + 1, 4, none⟩ (.int .i64 pp.var)).setCell ⟨w.heap.size + 1, 5, none⟩ (.slice A5 pp.kids.length c5)).heap[w.heap.size + 2]? = some (.cells #[.int .i64 0, .int .i64 0, .slice none 0 0] 28 (0, 0)) := (Fr.six _ _ _ _ _ _ _ _).block (((((Fr.refl (fun b => b = w.heap.size) w5).setOf rfl).setOf rfl : Fr (fun b => b = w.heap.size) w5 ((w5.setCell ⟨w.heap.size, 0, none⟩ (.int .i64 t.data)).setCell ⟨w.heap.size, 1, none⟩ (.int .i64 t.index)))).block HZT.out.2.2 (by omega)) (by omega)
    have h1 : (((((((((((w5.setCell ⟨w.heap.size, 0, none⟩ (.int .i64 t.data)).setCell ⟨w.heap.size, 1, none⟩ (.int .i64 t.index)).setCell ⟨w.heap.size + 1, 0, none⟩ (.int .i64 pp.op)).setCell ⟨w.heap.size + 1, 1, none⟩ (.int .i64 pp.ctor)).setCell ⟨w.heap.size + 1, 2, none⟩ (.int .i64 pp.n)).setCell ⟨w.heap.size + 1, 3, none⟩ (.int .i64 pp.m)).setCell ⟨w.heap.size + 1, 4, none⟩ (.int .i64 pp.var)).setCell ⟨w.heap.size + 1, 5, none⟩ (.slice A5 pp.kids.length c5)).setCell ⟨w.heap.size + 2, 0, none⟩ (.int .i64 v.ctor)).setCell ⟨w.heap.size + 2, 1, none⟩ (.int .i64 v.n)).setCell ⟨w.heap.size + 2, 2, none⟩ (.slice A v.kids.length c)).heap[w.heap.size]? = some (.cells #[.int .i64 t.data, .int .i64 t.index] 25 (0, 0)) := ((((Fr.refl (fun b => b = w.heap.size + 2) ((((((((w5.setCell ⟨w.heap.size, 0, none⟩ (.int .i64 t.data)).setCell ⟨w.heap.size, 1, none⟩ (.int .i64 t.index)).setCell ⟨w.heap.size + 1, 0, none⟩ (.int .i64 pp.op)).setCell ⟨w.heap.size + 1, 1, none⟩ (.int .i64 pp.ctor)).setCell ⟨w.heap.size + 1, 2, none⟩ (.int .i64 pp.n)).setCell ⟨w.heap.size + 1, 3, none⟩ (.int .i64 pp.m)).setCell ⟨w.heap.size + 1, 4, none⟩ (.int .i64 pp.var)).setCell ⟨w.heap.size + 1, 5, none⟩ (.slice A5 pp.kids.length c5))).setOf rfl).setOf rfl).setOf rfl : Fr (fun b => b = w.heap.size + 2) ((((((((w5.setCell ⟨w.heap.size, 0, none⟩ (.int .i64 t.data)).setCell ⟨w.heap.size, 1, none⟩ (.int .i64 t.index)).setCell ⟨w.heap.size + 1, 0, none⟩ (.int .i64 pp.op)).setCell ⟨w.heap.size + 1, 1, none⟩ (.int .i64 pp.ctor)).setCell ⟨w.heap.size + 1, 2, none⟩ (.int .i64 pp.n)).setCell ⟨w.heap.size + 1, 3, none⟩ (.int .i64 pp.m)).setCell ⟨w.heap.size + 1, 4, none⟩ (.int .i64 pp.var)).setCell ⟨w.heap.size + 1, 5, none⟩ (.slice A5 pp.kids.length c5)) (((((((((((w5.setCell ⟨w.heap.size, 0, none⟩ (.int .i64 t.data)).setCell ⟨w.heap.size, 1, none⟩ (.int .i64 t.index)).setCell ⟨w.heap.size + 1, 0, none⟩ (.int .i64 pp.op)).setCell ⟨w.heap.size + 1, 1, none⟩ (.int .i64 pp.ctor)).setCell ⟨w.heap.size + 1, 2, none⟩ (.int .i64 pp.n)).setCell ⟨w.heap.size + 1, 3, none⟩ (.int .i64 pp.m)).setCell ⟨w.heap.size + 1, 4, none⟩ (.int .i64 pp.var)).setCell ⟨w.heap.size + 1, 5, none⟩ (.slice A5 pp.kids.length c5)).setCell ⟨w.heap.size + 2, 0, none⟩ (.int .i64 v.ctor)).setCell ⟨w.heap.size + 2, 1, none⟩ (.int .i64 v.n)).setCell ⟨w.heap.size + 2, 2, none⟩ (.slice A v.kids.length c))).block g1 (by omega)
    have h2 : (((((((((((w5.setCell ⟨w.heap.size, 0, none⟩ (.int .i64 t.data)).setCell ⟨w.heap.size, 1, none⟩ (.int .i64 t.index)).setCell ⟨w.heap.size + 1, 0, none⟩ (.int .i64 pp.op)).setCell ⟨w.heap.size + 1, 1, none⟩ (.int .i64 pp.ctor)).setCell ⟨w.heap.size + 1, 2, none⟩ (.int .i64 pp.n)).setCell ⟨w.heap.size + 1, 3, none⟩ (.int .i64 pp.m)).setCell ⟨w.heap.size + 1, 4, none⟩ (.int .i64 pp.var)).setCell ⟨w.heap.size + 1, 5, none⟩ (.slice A5 pp.kids.length c5)).setCell ⟨w.heap.size + 2, 0, none⟩ (.int .i64 v.ctor)).setCell ⟨w.heap.size + 2, 1, none⟩ (.int .i64 v.n)).setCell ⟨w.heap.size + 2, 2, none⟩ (.slice A v.kids.length c)).heap[w.heap.size + 1]? = some (.cells #[.int .i64 pp.op, .int .i64 pp.ctor, .int .i64 pp.n, .int .i64 pp.m, .int .i64 pp.var, .slice A5 pp.kids.length c5] 50 (0, 0)) := ((((Fr.refl (fun b => b = w.heap.size + 2) ((((((((w5.setCell ⟨w.heap.size, 0, none⟩ (.int .i64 t.data)).setCell ⟨w.heap.size, 1, none⟩ (.int .i64 t.index)).setCell ⟨w.heap.size + 1, 0, none⟩ (.int .i64 pp.op)).setCell ⟨w.heap.size + 1, 1, none⟩ (.int .i64 pp.ctor)).setCell ⟨w.heap.size + 1, 2, none⟩ (.int .i64 pp.n)).setCell ⟨w.heap.size + 1, 3, none⟩ (.int .i64 pp.m)).setCell ⟨w.heap.size + 1, 4, none⟩ (.int .i64 pp.var)).setCell ⟨w.heap.size + 1, 5, none⟩ (.slice A5 pp.kids.length c5))).setOf rfl).setOf rfl).setOf rfl : Fr (fun b => b = w.heap.size + 2) ((((((((w5.setCell ⟨w.heap.size, 0, none⟩ (.int .i64 t.data)).setCell ⟨w.heap.size, 1, none⟩ (.int .i64 t.index)).setCell ⟨w.heap.size + 1, 0, none⟩ (.int .i64 pp.op)).setCell ⟨w.heap.size + 1, 1, none⟩ (.int .i64 pp.ctor)).setCell ⟨w.heap.size + 1, 2, none⟩ (.int .i64 pp.n)).setCell ⟨w.heap.size + 1, 3, none⟩ (.int .i64 pp.m)).setCell ⟨w.heap.size + 1, 4, none⟩ (.int .i64 pp.var)).setCell ⟨w.heap.size + 1, 5, none⟩ (.slice A5 pp.kids.length c5)) (((((((((((w5.setCell ⟨w.heap.size, 0, none⟩ (.int .i64 t.data)).setCell ⟨w.heap.size, 1, none⟩ (.int .i64 t.index)).setCell ⟨w.heap.size + 1, 0, none⟩ (.int .i64 pp.op)).setCell ⟨w.heap.size + 1, 1, none⟩ (.int .i64 pp.ctor)).setCell ⟨w.heap.size + 1, 2, none⟩ (.int .i64 pp.n)).setCell ⟨w.heap.size + 1, 3, none⟩ (.int .i64 pp.m)).setCell ⟨w.heap.size + 1, 4, none⟩ (.int .i64 pp.var)).setCell ⟨w.heap.size + 1, 5, none⟩ (.slice A5 pp.kids.length c5)).setCell ⟨w.heap.size + 2, 0, none⟩ (.int .i64 v.ctor)).setCell ⟨w.heap.size + 2, 1, none⟩ (.int .i64 v.n)).setCell ⟨w.heap.size + 2, 2, none⟩ (.slice A v.kids.length c))).block g2 (by omega)
    have h3 : (((((((((((w5.setCell ⟨w.heap.size, 0, none⟩ (.int .i64 t.data)).setCell ⟨w.heap.size, 1, none⟩ (.int .i64 t.index)).setCell ⟨w.heap.size + 1, 0, none⟩ (.int .i64 pp.op)).setCell ⟨w.heap.size + 1, 1, none⟩ (.int .i64 pp.ctor)).setCell ⟨w.heap.size + 1, 2, none⟩ (.int .i64 pp.n)).setCell ⟨w.heap.size + 1, 3, none⟩ (.int .i64 pp.m)).setCell ⟨w.heap.size + 1, 4, none⟩ (.int .i64 pp.var)).setCell ⟨w.heap.size + 1, 5, none⟩ (.slice A5 pp.kids.length c5)).setCell ⟨w.heap.size + 2, 0, none⟩ (.int .i64 v.ctor)).setCell ⟨w.heap.size + 2, 1, none⟩ (.int .i64 v.n)).setCell ⟨w.heap.size + 2, 2, none⟩ (.slice A v.kids.length c)).heap[w.heap.size + 2]? = some (.cells #[.int .i64 v.ctor, .int .i64 v.n, .slice A v.kids.length c] 28 (0, 0)) := (heap_setCell_same _ _ 2 _ _ _ (heap_setCell_same _ _ 1 _ _ _ (heap_setCell_same _ _ 0 _ _ _ g3))).trans rfl
    generalize (((((((((((w5.setCell ⟨w.heap.size, 0, none⟩ (.int .i64 t.data)).setCell ⟨w.heap.size, 1, none⟩ (.int .i64 t.index)).setCell ⟨w.heap.size + 1, 0, none⟩ (.int .i64 pp.op)).setCell ⟨w.heap.size + 1, 1, none⟩ (.int .i64 pp.ctor)).setCell ⟨w.heap.size + 1, 2, none⟩ (.int .i64 pp.n)).setCell ⟨w.heap.size + 1, 3, none⟩ (.int .i64 pp.m)).setCell ⟨w.heap.size + 1, 4, none⟩ (.int .i64 pp.var)).setCell ⟨w.heap.size + 1, 5, none⟩ (.slice A5 pp.kids.length c5)).setCell ⟨w.heap.size + 2, 0, none⟩ (.int .i64 v.ctor)).setCell ⟨w.heap.size + 2, 1, none⟩ (.int .i64 v.n)).setCell ⟨w.heap.size + 2, 2, none⟩ (.slice A v.kids.length c)) = wf at hfs h1 h2 h3 ⊢
    have HFIN : Hid (Typed3 w B rb N (.returned (.tuple #[.slice Aw l.length cw, .agg #[.int .i64 t.data, .int .i64 t.index], .agg #[.int .i64 pp.op, .int .i64 pp.ctor, .int .i64 pp.n, .int .i64 pp.m, .int .i64 pp.var, .slice A5 pp.kids.length c5], .agg #[.int .i64 v.ctor, .int .i64 v.n, .slice A v.kids.length c]])) wf) := by
      have hst : Stays wx.heap.size wb wf := (Stays.fr HF5.out (by omega)).trans ⟨hfs.size, fun b hb1 hb2 => hfs.2.2.2.2 b hb2 (by omega)⟩
      have hsf := hfs.size
      exact ⟨l, t, pp, v, Aw, A5, A, cw, c5, c, rfl, H7.out, (HODb.out.keepT (hst.keepT T28)).lower (by omega), HTOK.out, HINH.out, HFIT.out, HCAP.out, ((HOVb.out.fr _ HF5.out (fun b hb e => by have := hb.1; omega)).fr _ hfs (fun b hb e => by have := hb.1; omega)).wide _ (fun b hb => ⟨by have := hb.1; omega, by have := hb.2; omega⟩), HV5.out, HZ5.out, (HO5.out.fr _ hfs (fun b hb e => by have := hb.1; omega)).wide _ (fun b hb => ⟨by have := hb.1; omega, by have := hb.2; omega⟩), (HR5.out.fr hfs (fun b hb => by omega)).more (by omega), (HFb.out.trans HF5.out).andThen hfs (fun x hx e => by omega)⟩
    have r0 := (cell_of_blk h1 0).trans rfl
    have r1 := (cell_of_blk h1 1).trans rfl
    obtain ⟨r2, r3, r4, r5, r6, r7, _⟩ := cellsP h2
    have r8 := (cell_of_blk h3 0).trans rfl
    have r9 := (cell_of_blk h3 1).trans rfl
    have r10 := (cell_of_blk h3 2).trans rfl
    clear hfs e1 g1 g2 g3 h1 h2 h3
    go_wp2_with fail
    exact bodyPost_ret (v := .tuple #[.slice Aw l.length cw, .agg #[.int .i64 t.data, .int .i64 t.index], .agg #[.int .i64 pp.op, .int .i64 pp.ctor, .int .i64 pp.n, .int .i64 pp.m, .int .i64 pp.var, .slice A5 pp.kids.length c5], .agg #[.int .i64 v.ctor, .int .i64 v.n, .slice A v.kids.length c]]) (by simp [results, Try.results68, go_sem, r0, r1, r2, r3, r4, r5, r6, r7, r8, r9, r10]) rfl HFIN.out
end Go.Proofs.Ytbeejeialjfdnaa
/-
  An append of no elements to a row of the call's own. No statement is proved here.
-/
namespace Go.Proofs.Ytbeejeialjfdnaa
open Go.RowKit
set_option maxRecDepth 100000
set_option linter.unusedVariables false
theorem run_append_owned_zero {P : Program} {w : World} (base : Nat) (t ty e : TypeId) (i : TypeInfo) (size : Nat) (ht : P.underlying t = some (.slice e)) (hi : P.info? e = some i) (v : Value) (n : Nat) (xs : List Value) (hown : w.ownsRow base e size v n xs) (A : Option Addr) (c : Nat) :
    (Builtin.append_ #[t, t] ty #[v, .slice A 0 c]).run P w = .ok v w := by
  rcases hown.2 with ⟨rfl, rfl⟩ | ⟨g, cap, cur, rfl, _, _, hnc, _⟩
  · cases A <;> simp [Builtin.append_, run_underlying ht, sizeOf, typeInfo, hi, Builtin.lenOf, Builtin.firstCells, loadCells, loadCellsFrom]
  · cases A <;> simp [Builtin.append_, run_underlying ht, sizeOf, typeInfo, hi, Builtin.lenOf, Builtin.firstCells, hnc, storeCells, loadCells, loadCellsFrom]
theorem wpList_append_own_zero {P : Program} {w : World} {ops : Array Oper} {rest : List Oper} {o : Oper} {a : Act} {Q : Exit → Act → World → Prop} (hgd : o.guard = none) (s x : Operand) (t : TypeId)
    (ho : o.op = .call { callee := .builtin .append, args := #[s, x], argTypes := #[t, t] })
    (base : Nat) (e : TypeId) (i : TypeInfo) (size : Nat) (ht : P.underlying t = some (.slice e)) (hi : P.info? e = some i)
    (v : Value) (n : Nat) (xs : List Value) (hs : a.eval s = v) (hown : w.ownsRow base e size v n xs) (A : Option Addr) (c : Nat) (hx : a.eval x = .slice A 0 c)
    (h : wpList P ops Q rest (a.put o.dst v) w) : wpList P ops Q (o :: rest) a w := by
  refine wpList_plain hgd fun K hK => ?_
  have hrun := run_append_owned_zero (P := P) (w := w) base t o.type e i size ht hi v n xs hown A c
  unfold Oper.wp
  simp [execOp, ho, resolve, invoke, builtin, hs, hx, hrun, Result.andThen]
  exact hK _ _ h
theorem wpList_append_own_any {P : Program} {w : World} {ops : Array Oper} {rest : List Oper} {o : Oper} {a : Act} {Q : Exit → Act → World → Prop} (hgd : o.guard = none) (s x : Operand) (t : TypeId)
    (ho : o.op = .call { callee := .builtin .append, args := #[s, x], argTypes := #[t, t] })
    (base : Nat) (e : TypeId) (i : TypeInfo) (z : Value) (size bytes : Nat) (ht : P.underlying t = some (.slice e)) (hi : P.info? e = some i) (hz : i.zero = some z)
    (hsize : i.size = size) (hby : i.bytes = bytes) (hzs : z.cells.size = size) (hsz : 0 < size)
    (v : Value) (n : Nat) (xs : List Value) (hs : a.eval s = v) (hown : w.ownsRow base e size v n xs)
    (A : Option Addr) (m c : Nat) (news : List Value) (hx : a.eval x = .slice A m c) (hl : news.length = m * size) (hnews : 0 < m → ∃ ad, A = some ad ∧ ∀ j u, news[j]? = some u → w.cell? (ad.add j) = some u) (h1 : ∀ u ∈ news, u.oneCell' = true)
    (h63 : n + m ≤ maxLen) (hbytes : (n + m) * bytes ≤ 140737488355328) (hbase : base ≤ w.heap.size)
    (h : ∀ v' w', w'.ownsRow base e size v' (n + m) (xs ++ news) → w.grownBy w' v.ownBlock → (v'.ownBlock = v.ownBlock ∨ v'.ownBlock = some w.heap.size) → wpList P ops Q rest (a.put o.dst v') w') : wpList P ops Q (o :: rest) a w := by
  by_cases hm : 0 < m
  · obtain ⟨ad, rfl, hc⟩ := hnews hm
    exact wpList_append_own_at w hgd s x t ho base e i z size bytes ht hi hz hsize hby hzs hsz v n xs hs hown ad m c news hx hl hc h1 h63 hbytes hbase (fun v' w' a1 a2 _ a4 => h v' w' a1 a2 a4)
  · obtain rfl : m = 0 := by omega
    have hn : news = [] := List.eq_nil_of_length_eq_zero (by omega)
    subst hn
    refine wpList_append_own_zero hgd s x t ho base e i size ht hi v n xs hs hown A c hx (h v w ?_ (World.grownBy.refl _ _) (.inl rfl))
    simpa using hown
end Go.Proofs.Ytbeejeialjfdnaa
