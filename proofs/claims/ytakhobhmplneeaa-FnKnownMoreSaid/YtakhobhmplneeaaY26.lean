/-
  A world, a type with values and a value of it are drawn: the document's function. No statement is proved here.
-/
import Derived.Test.YtakhobhmplneeaaY23
import Derived.Test.YtakhobhmplneeaaY25
import Derived.Deep.RegionHeld3
namespace Go.Proofs.Ytakhobhmplneeaa
open Go.RowKit Go.Sort Go.Deep
set_option maxRecDepth 100000
set_option linter.unusedVariables false
/-- One of the seven worlds was drawn. -/
def Drawn7 (w : World) (B rb N lo : Nat) (e : Ending) (w' : World) : Prop := ∃ v l, e = .returned v ∧ ODas w' lo v l ∧ Seven l ∧ RRd w' B rb (N + 1) ∧ w.grownBy w' (some rb)
set_option maxHeartbeats 1600000 in
theorem l1World7_any (rb B N : Nat) (w : World) (h : RRd w B rb N) (hN : N ≤ 10000000) : Calls Try.prog 30 #[.pointer (some ⟨rb, 0, none⟩)] w (Drawn7 w B rb N w.heap.size) := by
  have H := Lib.hid h
  have hlt := h.lt
  clear h
  go_enter Try.func30, Try.ntmps30
  go_wp2_with fail
  refine (l1Texts_any _).mono ?_
  rintro e w1 ⟨rfl, hr, hb⟩
  have HR := Lib.hid hr
  have HB := Lib.hid hb
  have H1 := Lib.hid (H.out.below hb)
  clear hr hb
  go_wp2_with fail
  refine (pick_any rb B N 7 _ H1.out hN).mono ?_
  rintro e w2 ⟨k, rfl, hk, hR, hg⟩
  have hk7 : k < 7 := by omega
  obtain ⟨hkl, hgood, hlen, hsz, hne⟩ := text_good hk7
  have hkI : (k : Int) < 8 := by omega
  obtain ⟨b, off, e1, hbB, hc⟩ := HR.out.2 k hkl
  injection e1 with e1
  injection e1 with e1 e2
  subst e1 e2
  have hc2 : w2.cell? ⟨w.heap.size, 0 + k, none⟩ = some (.string texts[k]) := hg.cell hc (fun e => by injection e with e; simp at e; omega)
  rw [Nat.zero_add] at hc2
  have HG := Lib.hid hg
  have HRR := Lib.hid hR
  have HGD := Lib.hid hgood
  have HSV : Hid (Seven (outW texts[k])) := ⟨k, hkl, hk7, rfl⟩
  generalize texts[k] = s at hc2 HGD hsz hlen hne HSV
  have HNE := Lib.hid hne
  clear hg hR hk hc hgood hne hlen
  go_wp2_with fail
  refine (parseWorld_some s _ (by omega) HNE.out).mono ?_
  rintro e w3 ⟨v, rfl, ho, hb3⟩
  have HF : Hid (Drawn7 w B rb N w.heap.size (.returned v) w3) := by
    rw [pwR_yes HGD.out] at ho
    have hz : w.heap.size ≤ w2.heap.size := Nat.le_trans HB.out.size HG.out.size
    exact ⟨v, _, rfl, ho.lower hz, HSV.out, HRR.out.below hb3, ((grown_of_below HB.out _).trans HG.out).trans (grown_of_below hb3 _)⟩
  rw [dec_t HGD.out]
  clear ho hb3
  go_wp2_with fail
  go_ret
  exact HF.out
/-- Empty results: a type in block a, a value in block b. -/
def ZTV (w : World) (a b : Nat) : Prop := w.heap[a]? = some (.cells #[.int .i64 0, .int .i64 0] 25 (0, 0)) ∧ w.heap[b]? = some (.cells #[.int .i64 0, .int .i64 0, .slice none 0 0] 28 (0, 0))
theorem ZTV.new (w : World) : ZTV ((w.alloc (.cells #[.int .i64 0, .int .i64 0] 25)).alloc (.cells #[.int .i64 0, .int .i64 0, .slice none 0 0] 28)) w.heap.size (w.heap.size + 1) := by
  refine ⟨(Below.heap_alloc _ _ _ (by simp)).trans (heap_alloc_new w _), ?_⟩
  have h := heap_alloc_new (w.alloc (.cells #[.int .i64 0, .int .i64 0] 25)) (.cells #[.int .i64 0, .int .i64 0, .slice none 0 0] 28)
  simpa using h
theorem ZTV.fr {w w' : World} {a b : Nat} {P : Nat → Prop} (h : ZTV w a b) (hf : Fr P w w') (ha : ¬ P a) (hb : ¬ P b) : ZTV w' a b := ⟨hf.block h.1 ha, hf.block h.2 hb⟩
theorem ZTV.cells {w : World} {a b : Nat} (h : ZTV w a b) : w.cell? ⟨a, 0, none⟩ = some (.int .i64 0) ∧ w.cell? ⟨a, 1, none⟩ = some (.int .i64 0) ∧ w.cell? ⟨b, 0, none⟩ = some (.int .i64 0) ∧ w.cell? ⟨b, 1, none⟩ = some (.int .i64 0) ∧ w.cell? ⟨b, 2, none⟩ = some (.slice none 0 0) ∧ w.frozen? ⟨a, 0, none⟩ = false ∧ w.frozen? ⟨a, 1, none⟩ = false ∧ w.frozen? ⟨b, 0, none⟩ = false ∧ w.frozen? ⟨b, 1, none⟩ = false ∧ w.frozen? ⟨b, 2, none⟩ = false :=
  ⟨(cell_of_blk h.1 0).trans rfl, (cell_of_blk h.1 1).trans rfl, (cell_of_blk h.2 0).trans rfl, (cell_of_blk h.2 1).trans rfl, (cell_of_blk h.2 2).trans rfl, frozen_of_row w a 0 _ 25 h.1, frozen_of_row w a 1 _ 25 h.1, frozen_of_row w b 0 _ 28 h.2, frozen_of_row w b 1 _ 28 h.2, frozen_of_row w b 2 _ 28 h.2⟩
/-- Both are written. -/
theorem ZTV.put {w : World} {a b : Nat} (h : ZTV w a b) (hne : a ≠ b) (x y u v : Int) (s : Value) :
    (((((w.setCell ⟨a, 0, none⟩ (.int .i64 x)).setCell ⟨a, 1, none⟩ (.int .i64 y)).setCell ⟨b, 0, none⟩ (.int .i64 u)).setCell ⟨b, 1, none⟩ (.int .i64 v)).setCell ⟨b, 2, none⟩ s).heap[a]? = some (.cells #[.int .i64 x, .int .i64 y] 25 (0, 0)) ∧
    (((((w.setCell ⟨a, 0, none⟩ (.int .i64 x)).setCell ⟨a, 1, none⟩ (.int .i64 y)).setCell ⟨b, 0, none⟩ (.int .i64 u)).setCell ⟨b, 1, none⟩ (.int .i64 v)).setCell ⟨b, 2, none⟩ s).heap[b]? = some (.cells #[.int .i64 u, .int .i64 v, s] 28 (0, 0)) := by
  have h1 : ((w.setCell ⟨a, 0, none⟩ (.int .i64 x)).setCell ⟨a, 1, none⟩ (.int .i64 y)).heap[a]? = some (.cells #[.int .i64 x, .int .i64 y] 25 (0, 0)) := heap_setCell_same _ a 1 _ _ _ (heap_setCell_same _ a 0 _ _ _ h.1)
  have h2 : ((w.setCell ⟨a, 0, none⟩ (.int .i64 x)).setCell ⟨a, 1, none⟩ (.int .i64 y)).heap[b]? = some (.cells #[.int .i64 0, .int .i64 0, .slice none 0 0] 28 (0, 0)) :=
    (Below.heap_setCell _ _ _ _ (by simp only; omega)).trans ((Below.heap_setCell _ _ _ _ (by simp only; omega)).trans h.2)
  exact ⟨(Below.heap_setCell _ _ _ _ (by simp only; omega)).trans ((Below.heap_setCell _ _ _ _ (by simp only; omega)).trans ((Below.heap_setCell _ _ _ _ (by simp only; omega)).trans h1)),
    (heap_setCell_same _ b 2 _ _ _ (heap_setCell_same _ b 1 _ _ _ (heap_setCell_same _ b 0 _ _ _ h2))).trans rfl⟩
theorem Fr.put {P : Nat → Prop} {w w1 : World} (h : Fr P w w1) {a b : Nat} (ha : w.heap.size ≤ a) (hb : w.heap.size ≤ b) (x y u v s : Value) : Fr P w (((((w1.setCell ⟨a, 0, none⟩ x).setCell ⟨a, 1, none⟩ y).setCell ⟨b, 0, none⟩ u).setCell ⟨b, 1, none⟩ v).setCell ⟨b, 2, none⟩ s) :=
  ((((h.setNew ha).setNew ha).setNew hb).setNew hb).setNew hb
theorem RInts.stays {lo g : Nat} {w w' : World} {T : List Int} (h : RInts w (some ⟨g, 0, none⟩) T) (hs : Stays lo w w') (hg : lo ≤ g) : RInts w' (some ⟨g, 0, none⟩) T :=
  ⟨h.1, fun k hk => by
    obtain ⟨b, off, e, hb, hc⟩ := h.2 k hk
    injection e with e1
    injection e1 with e1 e2
    subst e1 e2
    exact ⟨_, _, rfl, Nat.lt_of_lt_of_le hb hs.1, (World.cell?_of_block (hs.2 _ hg hb)).trans hc⟩⟩
theorem three_far {w : World} {b c i j k o : Nat} {u x y v : Value} (hne : b ≠ c) (h : w.cell? ⟨c, o, none⟩ = some v) : (((w.setCell ⟨b, i, none⟩ u).setCell ⟨b, j, none⟩ x).setCell ⟨b, k, none⟩ y).cell? ⟨c, o, none⟩ = some v :=
  (World.cell?_setCell_other _ _ _ _ (fun e => hne (by injection e))).trans (two_far hne h)
/-- A world, a type and a value of it, the world's rows from lo on. -/
def Typed (w : World) (B rb N : Nat) (e : Ending) (w' : World) : Prop := ∃ (l : List Da) (t : Ty) (v : Vl) (Aw A : Option Addr) (cw c : Nat), e = .returned (.tuple #[.slice Aw l.length cw, .agg #[.int .i64 t.data, .int .i64 t.index], .agg #[.int .i64 v.ctor, .int .i64 v.n, .slice A v.kids.length c]]) ∧ Seven l ∧ ODas w' w.heap.size (.slice Aw l.length cw) l ∧ TyOK l t ∧ Inh l t ∧ fitV l 4 t v = true ∧ (v.kids.length ≤ c ∧ c ≤ maxLen) ∧ OVc 4 w' (Nw w w') A v.kids ∧ RRd w' B rb (N + 45) ∧ Fr (fun b => b = rb) w w'
theorem mem_ix {α : Type} {l : List α} {k : Nat} (h : k < l.length) : l[k] ∈ l := List.getElem_mem h
set_option maxHeartbeats 8000000 in
theorem l2Typed_any (rb B N : Nat) (w : World) (h : RRd w B rb N) (hN : N ≤ 80000) : Calls Try.prog 17 #[.pointer (some ⟨rb, 0, none⟩)] w (Typed w B rb N) := by
  have hrl := h.lt
  have hrg := h.ge
  have HNN := Lib.hid hN
  generalize hwx : (w.alloc (.cells #[.int .i64 0, .int .i64 0] 25)).alloc (.cells #[.int .i64 0, .int .i64 0, .slice none 0 0] 28) = wx
  have hbx := below_box2 hwx
  have HZX : Hid (ZTV wx w.heap.size (w.heap.size + 1)) := by unfold Hid; rw [← hwx]; exact ZTV.new w
  have HRX := Lib.hid (h.below hbx)
  have HSX : Hid (wx.heap.size = w.heap.size + 2) := by unfold Hid; rw [← hwx]; simp
  have HBX := Lib.hid hbx
  have HWX := Lib.hid hwx
  clear hwx h hbx hN
  go_enter Try.func17, Try.ntmps17
  go_wp2_with fail
  rw [HWX.out]
  refine (l1World7_any rb B N _ HRX.out (by have := HNN.out; omega)).mono ?_
  rintro e w1 ⟨v1, l, rfl, ho1, hs7, hR1, hg1⟩
  obtain ⟨hw, hl0, _⟩ := hs7.ok
  have HW := Lib.hid hw
  have H7 := Lib.hid hs7
  have hl4 := hw.1
  obtain ⟨Aw, cw, rfl, hrd1⟩ := ho1.form (by unfold maxLen; omega)
  have HO1 := Lib.hid ho1
  have HRD1 := Lib.hid hrd1
  have HR1 := Lib.hid hR1
  have HF1 : Hid (Fr (fun b => b = rb) wx w1) := Fr.grown hg1 (fun b e => by injection e)
  clear ho1 hs7 hrd1 hR1 hg1 hw
  go_wp2_with fail
  refine (table_any Aw l cw _ HRD1.out HW.out).mono ?_
  rintro e w2 ⟨T, rfl, hT, hS, hb2⟩
  have HS := Lib.hid hS
  have hz1 := HF1.out.size
  have hzx := HSX.out
  have hTR := hT.reads hS.len (by omega)
  have HLO : Hid (rb < wx.heap.size) := by unfold Hid; omega
  have HO2 : Hid (ODas w2 wx.heap.size (.slice Aw l.length cw) l) := HO1.out.keepT ((Stays.below hb2).keepT T28)
  have HROB : Hid (Rob w2 wx.heap.size Aw l (some ⟨w1.heap.size, 0, none⟩) T) := fun w' hs => by
    obtain ⟨A', c', e, hrd⟩ := HO2.out.lies (by unfold maxLen; omega)
    injection e with e1 e2 e3
    subst e1
    exact ⟨hrd w' hs, hTR.stays hs hz1⟩
  have HF2 : Hid (Fr (fun b => b = rb) w w2) := ((Fr.below HBX.out).trans HF1.out).trans (Fr.below hb2)
  have HZ2 : Hid (ZTV w2 w.heap.size (w.heap.size + 1)) := (HZX.out.fr HF1.out (by omega) (by omega)).fr (P := fun _ => False) (Fr.below hb2) (fun h => h) (fun h => h)
  have HR2 := Lib.hid (HR1.out.below hb2)
  have hz2 := hb2.size
  clear hT hS hb2 hTR HO1 HRD1 HR1 HF1 HZX HRX
  go_wp2_with fail
  refine (pick_any rb B (N + 1) l.length _ HR2.out (by have := HNN.out; omega)).mono ?_
  rintro e w3 ⟨k, rfl, hk, hR3, hg3⟩
  have hkl : k < l.length := by omega
  have HKL := Lib.hid hkl
  have HF3 : Hid (Fr (fun b => b = rb) w2 w3) := Fr.grown hg3 (fun b e => by injection e)
  have HR3 := Lib.hid hR3
  have hz3 := hg3.size
  clear hR3 hg3 hk hkl HR2
  go_wp2_with fail
  refine (num_n rb B (N + 1 + 1) 4 [0, 0, 1, 2] rfl _ 4 _ (HR3.out.alloc _) (by have := HNN.out; omega) (by decide) (RInts.lit _ _ _ rfl (by decide)) (fun b o e => by injection e with e; injection e with e; omega)).mono ?_
  rintro e w4 ⟨j, hj, rfl, hR4, hg4⟩
  have HJ : Hid (([0, 0, 1, 2] : List Int)[j] = 0 ∨ ([0, 0, 1, 2] : List Int)[j] = 1 ∨ ([0, 0, 1, 2] : List Int)[j] = 2) := by
    have := mem_ix hj
    simp only [List.mem_cons, List.not_mem_nil, or_false] at this
    unfold Hid
    omega
  generalize ([0, 0, 1, 2] : List Int)[j] = ix at HJ
  have HF4 : Hid (Fr (fun b => b = rb) w2 w4) := (HF3.out.trans (Fr.below ((Below.refl _ w3).alloc (Nat.le_refl _) _))).trans (Fr.grown hg4 (fun b e => by injection e))
  have HR4 := Lib.hid hR4
  have hz4 := HF4.out.size
  clear hR4 hg4 HF3 HR3 hj
  have HBT : Hid (BoxT (w4.alloc (.cells #[.int .i64 k, .int .i64 ix] 25)) w4.heap.size ⟨k, ix⟩) := heap_alloc_new w4 _
  have HF5 : Hid (Fr (fun b => b = rb) w2 (w4.alloc (.cells #[.int .i64 k, .int .i64 ix] 25))) := HF4.out.trans (Fr.below ((Below.refl _ _).alloc (Nat.le_refl _) _))
  have HR5 : Hid (RRd (w4.alloc (.cells #[.int .i64 k, .int .i64 ix] 25)) B rb (N + 1 + 1 + 1)) := HR4.out.alloc _
  clear HF4 HR4
  go_wp2_with fail
  generalize (w4.alloc (.cells #[.int .i64 k, .int .i64 ix] 25)) = w5 at HBT HF5 HR5 ⊢
  have HTN : Hid ((⟨k, ix⟩ : Ty) ∈ tysN l.length) := mem_tys.2 (.inr ⟨by simp only; omega, by simp only; have := HKL.out; omega, by simp only; have := HJ.out; omega, by simp only; have := HJ.out; omega⟩)
  refine (depth_l _ l T _ _ ⟨k, ix⟩ HS.out.len _ (HROB.out _ (Stays.fr HF5.out HLO.out)).2 HW.out HS.out HTN.out).mono ?_
  rintro e w6 ⟨rfl, hb6⟩
  have HBT6 : Hid (BoxT w6 w4.heap.size ⟨k, ix⟩) := (hb6.block _ HBT.out.lt).trans HBT.out
  have HF6 : Hid (Fr (fun b => b = rb) w2 w6) := HF5.out.trans (Fr.below hb6)
  have HR6 := Lib.hid (HR5.out.below hb6)
  have hbl := HBT6.out.lt
  clear hb6 HBT HF5 HR5
  by_cases hd : ldep l ⟨k, ix⟩ = 0
  · have qd := ieq_t hd
    have b0 := HBT6.out.c0
    have b1 := HBT6.out.c1
    have bf := HBT6.out.fz
    have HBTs : Hid (BoxT ((w6.setCell ⟨w4.heap.size, 0, none⟩ (.int .i64 (-1))).setCell ⟨w4.heap.size, 1, none⟩ (.int .i64 0)) w4.heap.size ⟨-1, 0⟩) := heap_setCell_same _ _ 1 _ _ _ (heap_setCell_same _ _ 0 _ _ _ HBT6.out)
    have HFs : Hid (Fr (fun b => b = rb) w2 ((w6.setCell ⟨w4.heap.size, 0, none⟩ (.int .i64 (-1))).setCell ⟨w4.heap.size, 1, none⟩ (.int .i64 0))) := (HF6.out.setNew hz4).setNew hz4
    have HRs : Hid (RRd ((w6.setCell ⟨w4.heap.size, 0, none⟩ (.int .i64 (-1))).setCell ⟨w4.heap.size, 1, none⟩ (.int .i64 0)) B rb (N + 1 + 1 + 1)) := (HR6.out.setCell (by omega) (by omega)).setCell (by omega) (by omega)
    have HSs : Hid (w4.heap.size < ((w6.setCell ⟨w4.heap.size, 0, none⟩ (.int .i64 (-1))).setCell ⟨w4.heap.size, 1, none⟩ (.int .i64 0)).heap.size) := HBTs.out.lt
    have HTOK : Hid (TyOK l ⟨-1, 0⟩) := tys_ok HW.out (mem_tys.2 (.inl rfl))
    have HINH : Hid (Inh l ⟨-1, 0⟩) := ⟨mem_tys.2 (.inl rfl), 1, .inl rfl⟩
    clear HBT6 HF6 HR6 hd
    go_wp2_with fail
    generalize ((w6.setCell ⟨w4.heap.size, 0, none⟩ (.int .i64 (-1))).setCell ⟨w4.heap.size, 1, none⟩ (.int .i64 0)) = wa at HBTs HFs HRs HSs ⊢
    clear b0 b1 bf qd
    have HTT : Hid ((⟨-1, 0⟩ : Ty) = ⟨(-1 : Int), (0 : Int)⟩) := rfl
    have s0 := HBTs.out.c0
    have s1 := HBTs.out.c1
    have HLA : Hid (w4.heap.size < wa.heap.size ∧ w2.heap.size ≤ wa.heap.size) := ⟨HSs.out, HFs.out.size⟩
    have hla := HLA.out
    have hna : w.heap.size ≠ w4.heap.size := by omega
    have hnb : w.heap.size + 1 ≠ w4.heap.size := by omega
    have HNM : Hid (Calls Try.prog 28 #[.pointer (some ⟨rb, 0, none⟩), .slice (some ⟨wa.heap.size, 0, none⟩) 4 4] (wa.alloc (.cells #[.int .i64 3, .int .i64 2, .int .i64 4, .int .i64 1] 3)).drew (PickedI (wa.alloc (.cells #[.int .i64 3, .int .i64 2, .int .i64 4, .int .i64 1] 3)).drew B rb (N + 1 + 1 + 1) [3, 2, 4, 1])) := num_n rb B (N + 1 + 1 + 1) 4 [3, 2, 4, 1] rfl _ 4 _ ((HRs.out.alloc _).drew) (by have := HNN.out; omega) (by decide) (RInts.lit2 _ _ _ rfl (by decide)) (fun b o e => by injection e with e; injection e with e; omega)
    go_region_held3 (fun w' => w'.cell? ⟨w4.heap.size, 0, none⟩ = some (.int .i64 (-1)) ∧ w'.cell? ⟨w4.heap.size, 1, none⟩ = some (.int .i64 0)) (first | (with_reducible exact ⟨s0, s1⟩) | (with_reducible exact ⟨p0, p1⟩) | (with_reducible exact ⟨m0, m1⟩) | (with_reducible exact ⟨two_far hna m0, two_far hna m1⟩) | (with_reducible exact ⟨three_far hnb (two_far hna m0), three_far hnb (two_far hna m1)⟩) | go_keep) (first | (go_at_call 33; (with_reducible refine (HDW.out).mono ?_); rintro e w8 ⟨v, A8, c8, rfl, hfit, hc8, ho8, hR8, hf8⟩; have HF8 := Lib.hid hf8; have HFIT := Lib.hid hfit; have HC8 := Lib.hid hc8; have HO8 := Lib.hid ho8; have HR8 := Lib.hid hR8; have HZ8 := Lib.hid (HZ7.out.fr hf8 (by omega) (by omega)); obtain ⟨k0, k1, k2, k3, k4, k5, k6, k7, k8, k9⟩ := HZ8.out.cells; have m0 := (BoxT.keep HB7.out (hf8.2.2.2.2 _ HB7.out.lt (by omega))).c0; have m1 := (BoxT.keep HB7.out (hf8.2.2.2.2 _ HB7.out.lt (by omega))).c1; clear hf8 hfit hc8 ho8 hR8) | (go_at_call 28; (with_reducible refine (HNM.out).mono ?_); rintro e w7 ⟨j7, hj7, rfl, hR7, hg7⟩; have hf7 : Fr (fun b => b = rb) w2 w7 := (HFs.out.trans (Fr.below ((Below.refl _ wa).alloc (Nat.le_refl _) (.cells #[.int .i64 3, .int .i64 2, .int .i64 4, .int .i64 1] 3)))).trans (Fr.grown (⟨hg7.os, hg7.tape, hg7.output, hg7.size, hg7.block⟩ : (wa.alloc (.cells #[.int .i64 3, .int .i64 2, .int .i64 4, .int .i64 1] 3)).grownBy w7 (some rb)) (fun b e => by injection e)); have HF7 := Lib.hid hf7; have HR7 := Lib.hid hR7; have HZ7 := Lib.hid (HZ2.out.fr hf7 (by omega) (by omega)); have HB7 : Hid (BoxT w7 w4.heap.size ⟨(-1), 0⟩) := BoxT.keep (HBTs.out.alloc (.cells #[.int .i64 3, .int .i64 2, .int .i64 4, .int .i64 1] 3)) (hg7.block _ (by have := HLA.out; show _ < (wa.alloc _).heap.size; simp; omega) (fun e => by injection e with e; have := HLA.out; omega)); have p0 := HB7.out.c0; have p1 := HB7.out.c1; have HJ7 : Hid (1 ≤ ([3, 2, 4, 1] : List Int)[j7] ∧ ([3, 2, 4, 1] : List Int)[j7] ≤ 4) := (by have := mem_ix hj7; simp only [List.mem_cons, List.not_mem_nil, or_false] at this; unfold Hid; omega); (generalize ([3, 2, 4, 1] : List Int)[j7] = dp at HJ7); have HDW := Lib.hid (dw_any l HW.out 4 Aw (some ⟨w1.heap.size, 0, none⟩) T cw (l.length * 4) ⟨(-1), 0⟩ dp wx.heap.size B rb _ w7 (HROB.out.at_ (Stays.fr hf7 HLO.out)) HLO.out HS.out HTOK.out HINH.out (by have := H7.out.dep HINH.out; omega) (by have := HJ7.out; omega) (by have := HJ7.out; omega) (by have := HJ7.out; omega) HR7.out (by have := HNN.out; simp only [pk]; omega)); clear hf7 hR7 hg7 hj7))
    all_goals
      have hz7 := HF7.out.size
      have HP := HZ8.out.put (by omega) (-1) 0 v.ctor v.n (.slice A8 v.kids.length c8)
      have HF : Hid (Typed w B rb N (.returned (.tuple #[.slice Aw l.length cw, .agg #[.int .i64 (-1), .int .i64 0], .agg #[.int .i64 v.ctor, .int .i64 v.n, .slice A8 v.kids.length c8]])) (((((w8.setCell ⟨w.heap.size, 0, none⟩ (.int .i64 (-1))).setCell ⟨w.heap.size, 1, none⟩ (.int .i64 0)).setCell ⟨w.heap.size + 1, 0, none⟩ (.int .i64 v.ctor)).setCell ⟨w.heap.size + 1, 1, none⟩ (.int .i64 v.n)).setCell ⟨w.heap.size + 1, 2, none⟩ (.slice A8 v.kids.length c8))) := by
        have hfa : Fr (fun b => b = rb) w2 w8 := HF7.out.trans HF8.out
        have hfw : Fr (fun b => b = w.heap.size ∨ b = w.heap.size + 1) w8 (((((w8.setCell ⟨w.heap.size, 0, none⟩ (.int .i64 (-1))).setCell ⟨w.heap.size, 1, none⟩ (.int .i64 0)).setCell ⟨w.heap.size + 1, 0, none⟩ (.int .i64 v.ctor)).setCell ⟨w.heap.size + 1, 1, none⟩ (.int .i64 v.n)).setCell ⟨w.heap.size + 1, 2, none⟩ (.slice A8 v.kids.length c8)) := ((((Fr.set _ _ _ _ (.inl rfl)).trans (Fr.set _ _ _ _ (.inl rfl))).trans (Fr.set _ _ _ _ (.inr rfl))).trans (Fr.set _ _ _ _ (.inr rfl))).trans (Fr.set _ _ _ _ (.inr rfl))
        have hst : Stays wx.heap.size w2 (((((w8.setCell ⟨w.heap.size, 0, none⟩ (.int .i64 (-1))).setCell ⟨w.heap.size, 1, none⟩ (.int .i64 0)).setCell ⟨w.heap.size + 1, 0, none⟩ (.int .i64 v.ctor)).setCell ⟨w.heap.size + 1, 1, none⟩ (.int .i64 v.n)).setCell ⟨w.heap.size + 1, 2, none⟩ (.slice A8 v.kids.length c8)) := (Stays.fr hfa HLO.out).trans ⟨hfw.size, fun b h1 h2 => hfw.2.2.2.2 b h2 (by omega)⟩
        refine ⟨l, ⟨(-1), 0⟩, v, Aw, A8, cw, c8, rfl, H7.out, (HO2.out.keepT (hst.keepT T28)).lower (by omega), HTOK.out, HINH.out, HFIT.out, HC8.out, ((HO8.out.fr _ hfw (fun b hb e => by have := hb.1; omega)).wide _ (fun b hb => ⟨by have := hb.1; omega, Nat.lt_of_lt_of_le hb.2 hfw.size⟩)), ?_, (HF2.out.trans hfa).put (Nat.le_refl _) (by omega) _ _ _ _ _⟩
        exact (HR8.out.fr hfw (fun b hb => by omega)).more (by simp only [pk]; omega)
      obtain ⟨hp1, hp2⟩ := HP
      generalize hwf : (((((w8.setCell ⟨w.heap.size, 0, none⟩ (.int .i64 (-1))).setCell ⟨w.heap.size, 1, none⟩ (.int .i64 0)).setCell ⟨w.heap.size + 1, 0, none⟩ (.int .i64 v.ctor)).setCell ⟨w.heap.size + 1, 1, none⟩ (.int .i64 v.n)).setCell ⟨w.heap.size + 1, 2, none⟩ (.slice A8 v.kids.length c8)) = wf at HF hp1 hp2 ⊢
      have r0 := (cell_of_blk hp1 0).trans rfl
      have r1 := (cell_of_blk hp1 1).trans rfl
      have r2 := (cell_of_blk hp2 0).trans rfl
      have r3 := (cell_of_blk hp2 1).trans rfl
      have r4 := (cell_of_blk hp2 2).trans rfl
      go_wp2_with fail
      exact bodyPost_ret (v := .tuple #[.slice Aw l.length cw, .agg #[.int .i64 (-1), .int .i64 0], .agg #[.int .i64 v.ctor, .int .i64 v.n, .slice A8 v.kids.length c8]]) (by simp [results, Try.results17, go_sem, r0, r1, r2, r3, r4]) rfl HF.out
  · have qd := ieq_f hd
    have HTOK : Hid (TyOK l ⟨k, ix⟩) := tys_ok HW.out HTN.out
    have HINH : Hid (Inh l ⟨k, ix⟩) := Classical.byContradiction fun hc => hd (ldep_no HTN.out hc)
    have HBTs := HBT6
    have HFs := HF6
    have HRs := HR6
    have HSs := Lib.hid hbl
    clear HBT6 HF6 HR6 hd
    go_wp2_with fail
    clear qd
    have s0 := HBTs.out.c0
    have s1 := HBTs.out.c1
    have HLA : Hid (w4.heap.size < w6.heap.size ∧ w2.heap.size ≤ w6.heap.size) := ⟨HSs.out, HFs.out.size⟩
    have hla := HLA.out
    have hna : w.heap.size ≠ w4.heap.size := by omega
    have hnb : w.heap.size + 1 ≠ w4.heap.size := by omega
    have HNM : Hid (Calls Try.prog 28 #[.pointer (some ⟨rb, 0, none⟩), .slice (some ⟨w6.heap.size, 0, none⟩) 4 4] (w6.alloc (.cells #[.int .i64 3, .int .i64 2, .int .i64 4, .int .i64 1] 3)).drew (PickedI (w6.alloc (.cells #[.int .i64 3, .int .i64 2, .int .i64 4, .int .i64 1] 3)).drew B rb (N + 1 + 1 + 1) [3, 2, 4, 1])) := num_n rb B (N + 1 + 1 + 1) 4 [3, 2, 4, 1] rfl _ 4 _ ((HRs.out.alloc _).drew) (by have := HNN.out; omega) (by decide) (RInts.lit2 _ _ _ rfl (by decide)) (fun b o e => by injection e with e; injection e with e; omega)
    go_region_held3 (fun w' => w'.cell? ⟨w4.heap.size, 0, none⟩ = some (.int .i64 k) ∧ w'.cell? ⟨w4.heap.size, 1, none⟩ = some (.int .i64 ix)) (first | (with_reducible exact ⟨s0, s1⟩) | (with_reducible exact ⟨p0, p1⟩) | (with_reducible exact ⟨m0, m1⟩) | (with_reducible exact ⟨two_far hna m0, two_far hna m1⟩) | (with_reducible exact ⟨three_far hnb (two_far hna m0), three_far hnb (two_far hna m1)⟩) | go_keep) (first | (go_at_call 33; (with_reducible refine (HDW.out).mono ?_); rintro e w8 ⟨v, A8, c8, rfl, hfit, hc8, ho8, hR8, hf8⟩; have HF8 := Lib.hid hf8; have HFIT := Lib.hid hfit; have HC8 := Lib.hid hc8; have HO8 := Lib.hid ho8; have HR8 := Lib.hid hR8; have HZ8 := Lib.hid (HZ7.out.fr hf8 (by omega) (by omega)); obtain ⟨k0, k1, k2, k3, k4, k5, k6, k7, k8, k9⟩ := HZ8.out.cells; have m0 := (BoxT.keep HB7.out (hf8.2.2.2.2 _ HB7.out.lt (by omega))).c0; have m1 := (BoxT.keep HB7.out (hf8.2.2.2.2 _ HB7.out.lt (by omega))).c1; clear hf8 hfit hc8 ho8 hR8) | (go_at_call 28; (with_reducible refine (HNM.out).mono ?_); rintro e w7 ⟨j7, hj7, rfl, hR7, hg7⟩; have hf7 : Fr (fun b => b = rb) w2 w7 := (HFs.out.trans (Fr.below ((Below.refl _ w6).alloc (Nat.le_refl _) (.cells #[.int .i64 3, .int .i64 2, .int .i64 4, .int .i64 1] 3)))).trans (Fr.grown (⟨hg7.os, hg7.tape, hg7.output, hg7.size, hg7.block⟩ : (w6.alloc (.cells #[.int .i64 3, .int .i64 2, .int .i64 4, .int .i64 1] 3)).grownBy w7 (some rb)) (fun b e => by injection e)); have HF7 := Lib.hid hf7; have HR7 := Lib.hid hR7; have HZ7 := Lib.hid (HZ2.out.fr hf7 (by omega) (by omega)); have HB7 : Hid (BoxT w7 w4.heap.size ⟨k, ix⟩) := BoxT.keep (HBTs.out.alloc (.cells #[.int .i64 3, .int .i64 2, .int .i64 4, .int .i64 1] 3)) (hg7.block _ (by have := HLA.out; show _ < (w6.alloc _).heap.size; simp; omega) (fun e => by injection e with e; have := HLA.out; omega)); have p0 := HB7.out.c0; have p1 := HB7.out.c1; have HJ7 : Hid (1 ≤ ([3, 2, 4, 1] : List Int)[j7] ∧ ([3, 2, 4, 1] : List Int)[j7] ≤ 4) := (by have := mem_ix hj7; simp only [List.mem_cons, List.not_mem_nil, or_false] at this; unfold Hid; omega); (generalize ([3, 2, 4, 1] : List Int)[j7] = dp at HJ7); have HDW := Lib.hid (dw_any l HW.out 4 Aw (some ⟨w1.heap.size, 0, none⟩) T cw (l.length * 4) ⟨k, ix⟩ dp wx.heap.size B rb _ w7 (HROB.out.at_ (Stays.fr hf7 HLO.out)) HLO.out HS.out HTOK.out HINH.out (by have := H7.out.dep HINH.out; omega) (by have := HJ7.out; omega) (by have := HJ7.out; omega) (by have := HJ7.out; omega) HR7.out (by have := HNN.out; simp only [pk]; omega)); clear hf7 hR7 hg7 hj7))
    all_goals
      have hz7 := HF7.out.size
      have HP := HZ8.out.put (by omega) k ix v.ctor v.n (.slice A8 v.kids.length c8)
      have HF : Hid (Typed w B rb N (.returned (.tuple #[.slice Aw l.length cw, .agg #[.int .i64 k, .int .i64 ix], .agg #[.int .i64 v.ctor, .int .i64 v.n, .slice A8 v.kids.length c8]])) (((((w8.setCell ⟨w.heap.size, 0, none⟩ (.int .i64 k)).setCell ⟨w.heap.size, 1, none⟩ (.int .i64 ix)).setCell ⟨w.heap.size + 1, 0, none⟩ (.int .i64 v.ctor)).setCell ⟨w.heap.size + 1, 1, none⟩ (.int .i64 v.n)).setCell ⟨w.heap.size + 1, 2, none⟩ (.slice A8 v.kids.length c8))) := by
        have hfa : Fr (fun b => b = rb) w2 w8 := HF7.out.trans HF8.out
        have hfw : Fr (fun b => b = w.heap.size ∨ b = w.heap.size + 1) w8 (((((w8.setCell ⟨w.heap.size, 0, none⟩ (.int .i64 k)).setCell ⟨w.heap.size, 1, none⟩ (.int .i64 ix)).setCell ⟨w.heap.size + 1, 0, none⟩ (.int .i64 v.ctor)).setCell ⟨w.heap.size + 1, 1, none⟩ (.int .i64 v.n)).setCell ⟨w.heap.size + 1, 2, none⟩ (.slice A8 v.kids.length c8)) := ((((Fr.set _ _ _ _ (.inl rfl)).trans (Fr.set _ _ _ _ (.inl rfl))).trans (Fr.set _ _ _ _ (.inr rfl))).trans (Fr.set _ _ _ _ (.inr rfl))).trans (Fr.set _ _ _ _ (.inr rfl))
        have hst : Stays wx.heap.size w2 (((((w8.setCell ⟨w.heap.size, 0, none⟩ (.int .i64 k)).setCell ⟨w.heap.size, 1, none⟩ (.int .i64 ix)).setCell ⟨w.heap.size + 1, 0, none⟩ (.int .i64 v.ctor)).setCell ⟨w.heap.size + 1, 1, none⟩ (.int .i64 v.n)).setCell ⟨w.heap.size + 1, 2, none⟩ (.slice A8 v.kids.length c8)) := (Stays.fr hfa HLO.out).trans ⟨hfw.size, fun b h1 h2 => hfw.2.2.2.2 b h2 (by omega)⟩
        refine ⟨l, ⟨k, ix⟩, v, Aw, A8, cw, c8, rfl, H7.out, (HO2.out.keepT (hst.keepT T28)).lower (by omega), HTOK.out, HINH.out, HFIT.out, HC8.out, ((HO8.out.fr _ hfw (fun b hb e => by have := hb.1; omega)).wide _ (fun b hb => ⟨by have := hb.1; omega, Nat.lt_of_lt_of_le hb.2 hfw.size⟩)), ?_, (HF2.out.trans hfa).put (Nat.le_refl _) (by omega) _ _ _ _ _⟩
        exact (HR8.out.fr hfw (fun b hb => by omega)).more (by simp only [pk]; omega)
      obtain ⟨hp1, hp2⟩ := HP
      generalize hwf : (((((w8.setCell ⟨w.heap.size, 0, none⟩ (.int .i64 k)).setCell ⟨w.heap.size, 1, none⟩ (.int .i64 ix)).setCell ⟨w.heap.size + 1, 0, none⟩ (.int .i64 v.ctor)).setCell ⟨w.heap.size + 1, 1, none⟩ (.int .i64 v.n)).setCell ⟨w.heap.size + 1, 2, none⟩ (.slice A8 v.kids.length c8)) = wf at HF hp1 hp2 ⊢
      have r0 := (cell_of_blk hp1 0).trans rfl
      have r1 := (cell_of_blk hp1 1).trans rfl
      have r2 := (cell_of_blk hp2 0).trans rfl
      have r3 := (cell_of_blk hp2 1).trans rfl
      have r4 := (cell_of_blk hp2 2).trans rfl
      go_wp2_with fail
      exact bodyPost_ret (v := .tuple #[.slice Aw l.length cw, .agg #[.int .i64 k, .int .i64 ix], .agg #[.int .i64 v.ctor, .int .i64 v.n, .slice A8 v.kids.length c8]]) (by simp [results, Try.results17, go_sem, r0, r1, r2, r3, r4]) rfl HF.out
end Go.Proofs.Ytakhobhmplneeaa
