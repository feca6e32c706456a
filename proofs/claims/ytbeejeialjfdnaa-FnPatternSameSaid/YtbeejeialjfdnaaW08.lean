/-
  A world, a type with values and a value of it are drawn: the document's function. No statement is proved here.
-/
import Derived.Test.YtbeejeialjfdnaaW07
import Derived.Test.YtbeejeialjfdnaaW00
import Derived.Deep.RegionHeld3
namespace Go.Proofs.Ytbeejeialjfdnaa
open Go.RowKit Go.Sort Go.Deep
set_option maxRecDepth 100000
set_option linter.unusedVariables false
/-- One of the seven worlds was drawn. -/
def Drawn7 (w : World) (B rb N lo : Nat) (e : Ending) (w' : World) : Prop := ∃ v l, e = .returned v ∧ ODas w' lo v l ∧ Seven l ∧ RRd w' B rb (N + 1) ∧ w.grownBy w' (some rb)
set_option maxHeartbeats 1600000 in
theorem l1World7_any (rb B N : Nat) (w : World) (h : RRd w B rb N) (hN : N ≤ 10000000) : Calls Try.prog 81 #[.pointer (some ⟨rb, 0, none⟩)] w (Drawn7 w B rb N w.heap.size) := by
  have H := Lib.hid h
  have hlt := h.lt
  clear h
  go_enter Try.func81, Try.ntmps81
  go_wp2_with fail
  refine (l1Texts_any _).mono ?_
  rintro e w1 ⟨rfl, hr, hb⟩
  have HR := Lib.hid hr
  have HB := Lib.hid hb
  have H1 := Lib.hid (H.out.below hb)
  clear hr hb
  go_wp2_with fail
  refine (pick_any rb B N 7 _ H1.out hN).mono ?_
  rintro e w2 ⟨k, rfl, hk, hR, hg⟩
  have hk7 : k < 7 := by omega
  obtain ⟨hkl, hgood, hlen, hsz, hne⟩ := text_good hk7
  have hkI : (k : Int) < 8 := by omega
  obtain ⟨b, off, e1, hbB, hc⟩ := HR.out.2 k hkl
  injection e1 with e1
  injection e1 with e1 e2
  subst e1 e2
  have hc2 : w2.cell? ⟨w.heap.size, 0 + k, none⟩ = some (.string texts[k]) := hg.cell hc (fun e => by injection e with e; simp at e; omega)
  rw [Nat.zero_add] at hc2
  have HG := Lib.hid hg
  have HRR := Lib.hid hR
  have HGD := Lib.hid hgood
  have HSV : Hid (Seven (outW texts[k])) := ⟨k, hkl, hk7, rfl⟩
  generalize texts[k] = s at hc2 HGD hsz hlen hne HSV
  have HNE := Lib.hid hne
  clear hg hR hk hc hgood hne hlen
  go_wp2_with fail
  refine (parseWorld_some s _ (by omega) HNE.out).mono ?_
  rintro e w3 ⟨v, rfl, ho, hb3⟩
  have HF : Hid (Drawn7 w B rb N w.heap.size (.returned v) w3) := by
    rw [pwR_yes HGD.out] at ho
    have hz : w.heap.size ≤ w2.heap.size := Nat.le_trans HB.out.size HG.out.size
    exact ⟨v, _, rfl, ho.lower hz, HSV.out, HRR.out.below hb3, ((grown_of_below HB.out _).trans HG.out).trans (grown_of_below hb3 _)⟩
  rw [dec_t HGD.out]
  clear ho hb3
  go_wp2_with fail
  go_ret
  exact HF.out
/-- Empty results: a type in block a, a value in block b. -/
def ZTV (w : World) (a b : Nat) : Prop := w.heap[a]? = some (.cells #[.int .i64 0, .int .i64 0] 25 (0, 0)) ∧ w.heap[b]? = some (.cells #[.int .i64 0, .int .i64 0, .slice none 0 0] 28 (0, 0))
theorem ZTV.new (w : World) : ZTV ((w.alloc (.cells #[.int .i64 0, .int .i64 0] 25)).alloc (.cells #[.int .i64 0, .int .i64 0, .slice none 0 0] 28)) w.heap.size (w.heap.size + 1) := by
  refine ⟨(Below.heap_alloc _ _ _ (by simp)).trans (heap_alloc_new w _), ?_⟩
  have h := heap_alloc_new (w.alloc (.cells #[.int .i64 0, .int .i64 0] 25)) (.cells #[.int .i64 0, .int .i64 0, .slice none 0 0] 28)
  simpa using h
theorem ZTV.fr {w w' : World} {a b : Nat} {P : Nat → Prop} (h : ZTV w a b) (hf : Fr P w w') (ha : ¬ P a) (hb : ¬ P b) : ZTV w' a b := ⟨hf.block h.1 ha, hf.block h.2 hb⟩
theorem ZTV.cells {w : World} {a b : Nat} (h : ZTV w a b) : w.cell? ⟨a, 0, none⟩ = some (.int .i64 0) ∧ w.cell? ⟨a, 1, none⟩ = some (.int .i64 0) ∧ w.cell? ⟨b, 0, none⟩ = some (.int .i64 0) ∧ w.cell? ⟨b, 1, none⟩ = some (.int .i64 0) ∧ w.cell? ⟨b, 2, none⟩ = some (.slice none 0 0) ∧ w.frozen? ⟨a, 0, none⟩ = false ∧ w.frozen? ⟨a, 1, none⟩ = false ∧ w.frozen? ⟨b, 0, none⟩ = false ∧ w.frozen? ⟨b, 1, none⟩ = false ∧ w.frozen? ⟨b, 2, none⟩ = false :=
  ⟨(cell_of_blk h.1 0).trans rfl, (cell_of_blk h.1 1).trans rfl, (cell_of_blk h.2 0).trans rfl, (cell_of_blk h.2 1).trans rfl, (cell_of_blk h.2 2).trans rfl, frozen_of_row w a 0 _ 25 h.1, frozen_of_row w a 1 _ 25 h.1, frozen_of_row w b 0 _ 28 h.2, frozen_of_row w b 1 _ 28 h.2, frozen_of_row w b 2 _ 28 h.2⟩
/-- Both are written. -/
theorem ZTV.put {w : World} {a b : Nat} (h : ZTV w a b) (hne : a ≠ b) (x y u v : Int) (s : Value) :
    (((((w.setCell ⟨a, 0, none⟩ (.int .i64 x)).setCell ⟨a, 1, none⟩ (.int .i64 y)).setCell ⟨b, 0, none⟩ (.int .i64 u)).setCell ⟨b, 1, none⟩ (.int .i64 v)).setCell ⟨b, 2, none⟩ s).heap[a]? = some (.cells #[.int .i64 x, .int .i64 y] 25 (0, 0)) ∧
    (((((w.setCell ⟨a, 0, none⟩ (.int .i64 x)).setCell ⟨a, 1, none⟩ (.int .i64 y)).setCell ⟨b, 0, none⟩ (.int .i64 u)).setCell ⟨b, 1, none⟩ (.int .i64 v)).setCell ⟨b, 2, none⟩ s).heap[b]? = some (.cells #[.int .i64 u, .int .i64 v, s] 28 (0, 0)) := by
  have h1 : ((w.setCell ⟨a, 0, none⟩ (.int .i64 x)).setCell ⟨a, 1, none⟩ (.int .i64 y)).heap[a]? = some (.cells #[.int .i64 x, .int .i64 y] 25 (0, 0)) := heap_setCell_same _ a 1 _ _ _ (heap_setCell_same _ a 0 _ _ _ h.1)
  have h2 : ((w.setCell ⟨a, 0, none⟩ (.int .i64 x)).setCell ⟨a, 1, none⟩ (.int .i64 y)).heap[b]? = some (.cells #[.int .i64 0, .int .i64 0, .slice none 0 0] 28 (0, 0)) :=
    (Below.heap_setCell _ _ _ _ (by simp only; omega)).trans ((Below.heap_setCell _ _ _ _ (by simp only; omega)).trans h.2)
  exact ⟨(Below.heap_setCell _ _ _ _ (by simp only; omega)).trans ((Below.heap_setCell _ _ _ _ (by simp only; omega)).trans ((Below.heap_setCell _ _ _ _ (by simp only; omega)).trans h1)),
    (heap_setCell_same _ b 2 _ _ _ (heap_setCell_same _ b 1 _ _ _ (heap_setCell_same _ b 0 _ _ _ h2))).trans rfl⟩
theorem Fr.put {P : Nat → Prop} {w w1 : World} (h : Fr P w w1) {a b : Nat} (ha : w.heap.size ≤ a) (hb : w.heap.size ≤ b) (x y u v s : Value) : Fr P w (((((w1.setCell ⟨a, 0, none⟩ x).setCell ⟨a, 1, none⟩ y).setCell ⟨b, 0, none⟩ u).setCell ⟨b, 1, none⟩ v).setCell ⟨b, 2, none⟩ s) :=
  ((((h.setNew ha).setNew ha).setNew hb).setNew hb).setNew hb
theorem RInts.stays {lo g : Nat} {w w' : World} {T : List Int} (h : RInts w (some ⟨g, 0, none⟩) T) (hs : Stays lo w w') (hg : lo ≤ g) : RInts w' (some ⟨g, 0, none⟩) T :=
  ⟨h.1, fun k hk => by
    obtain ⟨b, off, e, hb, hc⟩ := h.2 k hk
    injection e with e1
    injection e1 with e1 e2
    subst e1 e2
    exact ⟨_, _, rfl, Nat.lt_of_lt_of_le hb hs.1, (World.cell?_of_block (hs.2 _ hg hb)).trans hc⟩⟩
theorem three_far {w : World} {b c i j k o : Nat} {u x y v : Value} (hne : b ≠ c) (h : w.cell? ⟨c, o, none⟩ = some v) : (((w.setCell ⟨b, i, none⟩ u).setCell ⟨b, j, none⟩ x).setCell ⟨b, k, none⟩ y).cell? ⟨c, o, none⟩ = some v :=
  (World.cell?_setCell_other _ _ _ _ (fun e => hne (by injection e))).trans (two_far hne h)
/-- A world, a type and a value of it, the world's rows from lo on. -/
def Typed (w : World) (B rb N : Nat) (e : Ending) (w' : World) : Prop := ∃ (l : List Da) (t : Ty) (v : Vl) (Aw A : Option Addr) (cw c : Nat), e = .returned (.tuple #[.slice Aw l.length cw, .agg #[.int .i64 t.data, .int .i64 t.index], .agg #[.int .i64 v.ctor, .int .i64 v.n, .slice A v.kids.length c]]) ∧ Seven l ∧ ODas w' w.heap.size (.slice Aw l.length cw) l ∧ TyOK l t ∧ Inh l t ∧ fitV l 4 t v = true ∧ (v.kids.length ≤ c ∧ c ≤ maxLen) ∧ OVc 4 w' (Nw w w') A v.kids ∧ RRd w' B rb (N + 45) ∧ Fr (fun b => b = rb) w w'
theorem mem_ix {α : Type} {l : List α} {k : Nat} (h : k < l.length) : l[k] ∈ l := List.getElem_mem h
set_option maxHeartbeats 8000000 in
theorem l2Typed_any (rb B N : Nat) (w : World) (h : RRd w B rb N) (hN : N ≤ 80000) : Calls Try.prog 41 #[.pointer (some ⟨rb, 0, none⟩)] w (Typed w B rb N) := by
  have hrl := h.lt
  have hrg := h.ge
  have HNN := Lib.hid hN
  generalize hwx : (w.alloc (.cells #[.int .i64 0, .int .i64 0] 25)).alloc (.cells #[.int .i64 0, .int .i64 0, .slice none 0 0] 28) = wx
  have hbx := below_box2 hwx
  have HZX : Hid (ZTV wx w.heap.size (w.heap.size + 1)) := by unfold Hid; rw [← hwx]; exact ZTV.new w
  have HRX := Lib.hid (h.below hbx)
  have HSX : Hid (wx.heap.size = w.heap.size + 2) := by unfold Hid; rw [← hwx]; simp
  have HBX := Lib.hid hbx
  have HWX := Lib.hid hwx
  clear hwx h hbx hN
  go_enter Try.func41, Try.ntmps41
  go_wp2_with fail
  rw [HWX.out]
  refine (l1World7_any rb B N _ HRX.out (by have := HNN.out; omega)).mono ?_
  rintro e w1 ⟨v1, l, rfl, ho1, hs7, hR1, hg1⟩
  obtain ⟨hw, hl0, _⟩ := hs7.ok
  have HW := Lib.hid hw
  have H7 := Lib.hid hs7
  have hl4 := hw.1
  obtain ⟨Aw, cw, rfl, hrd1⟩ := ho1.form (by unfold maxLen; omega)
  have HO1 := Lib.hid ho1
  have HRD1 := Lib.hid hrd1
  have HR1 := Lib.hid hR1
  have HF1 : Hid (Fr (fun b => b = rb) wx w1) := Fr.grown hg1 (fun b e => by injection e)
  clear ho1 hs7 hrd1 hR1 hg1 hw
  go_wp2_with fail
  refine (table_any Aw l cw _ HRD1.out HW.out).mono ?_
  rintro e w2 ⟨T, rfl, hT, hS, hb2⟩
  have HS := Lib.hid hS
  have hz1 := HF1.out.size
  have hzx := HSX.out
  have hTR := hT.reads hS.len (by omega)
  have HLO : Hid (rb < wx.heap.size) := by unfold Hid; omega
  have HO2 : Hid (ODas w2 wx.heap.size (.slice Aw l.length cw) l) := HO1.out.keepT ((Stays.below hb2).keepT T28)
  have HROB : Hid (Rob w2 wx.heap.size Aw l (some ⟨w1.heap.size, 0, none⟩) T) := fun w' hs => by
    obtain ⟨A', c', e, hrd⟩ := HO2.out.lies (by unfold maxLen; omega)
    injection e with e1 e2 e3
    subst e1
    exact ⟨hrd w' hs, hTR.stays hs hz1⟩
  have HF2 : Hid (Fr (fun b => b = rb) w w2) := ((Fr.below HBX.out).trans HF1.out).trans (Fr.below hb2)
  have HZ2 : Hid (ZTV w2 w.heap.size (w.heap.size + 1)) := (HZX.out.fr HF1.out (by omega) (by omega)).fr (P := fun _ => False) (Fr.below hb2) (fun h => h) (fun h => h)
  have HR2 := Lib.hid (HR1.out.below hb2)
  have hz2 := hb2.size
  clear hT hS hb2 hTR HO1 HRD1 HR1 HF1 HZX HRX
  go_wp2_with fail
  refine (pick_any rb B (N + 1) l.length _ HR2.out (by have := HNN.out; omega)).mono ?_
  rintro e w3 ⟨k, rfl, hk, hR3, hg3⟩
  have hkl : k < l.length := by omega
  have HKL := Lib.hid hkl
  have HF3 : Hid (Fr (fun b => b = rb) w2 w3) := Fr.grown hg3 (fun b e => by injection e)
  have HR3 := Lib.hid hR3
  have hz3 := hg3.size
  clear hR3 hg3 hk hkl HR2
  go_wp2_with fail
  refine (num_n rb B (N + 1 + 1) 4 [0, 0, 1, 2] rfl _ 4 _ (HR3.out.alloc _) (by have := HNN.out; omega) (by decide) (RInts.lit _ _ _ rfl (by decide)) (fun b o e => by injection e with e; injection e with e; omega)).mono ?_
  rintro e w4 ⟨j, hj, rfl, hR4, hg4⟩
  have HJ : Hid (([0, 0, 1, 2] : List Int)[j] = 0 ∨ ([0, 0, 1, 2] : List Int)[j] = 1 ∨ ([0, 0, 1, 2] : List Int)[j] = 2) := by
    have := mem_ix hj
    simp only [List.mem_cons, List.not_mem_nil, or_false] at this
    unfold Hid
    omega
  generalize ([0, 0, 1, 2] : List Int)[j] = ix at HJ
  have HF4 : Hid (Fr (fun b => b = rb) w2 w4) := (HF3.out.trans (Fr.below ((Below.refl _ w3).alloc (Nat.le_refl _) _))).trans (Fr.grown hg4 (fun b e => by injection e))
  have HR4 := Lib.hid hR4
  have hz4 := HF4.out.size
  clear hR4 hg4 HF3 HR3 hj
  have HBT : Hid (BoxT (w4.alloc (.cells #[.int .i64 k, .int .i64 ix] 25)) w4.heap.size ⟨k, ix⟩) := heap_alloc_new w4 _
  have HF5 : Hid (Fr (fun b => b = rb) w2 (w4.alloc (.cells #[.int .i64 k, .int .i64 ix] 25))) := HF4.out.trans (Fr.below ((Below.refl _ _).alloc (Nat.le_refl _) _))
  have HR5 : Hid (RRd (w4.alloc (.cells #[.int .i64 k, .int .i64 ix] 25)) B rb (N + 1 + 1 + 1)) := HR4.out.alloc _
  clear HF4 HR4
  go_wp2_with fail
  generalize (w4.alloc (.cells #[.int .i64 k, .int .i64 ix] 25)) = w5 at HBT HF5 HR5 ⊢
  have HTN : Hid ((⟨k, ix⟩ : Ty) ∈ tysN l.length) := mem_tys.2 (.inr ⟨by simp only; omega, by simp only; have := HKL.out; omega, by simp only; have := HJ.out; omega, by simp only; have := HJ.out; omega⟩)
  refine (depth_l _ l T _ _ ⟨k, ix⟩ HS.out.len _ (HROB.out _ (Stays.fr HF5.out HLO.out)).2 HW.out HS.out HTN.out).mono ?_
  rintro e w6 ⟨rfl, hb6⟩
  have HBT6 : Hid (BoxT w6 w4.heap.size ⟨k, ix⟩) := (hb6.block _ HBT.out.lt).trans HBT.out
  have HF6 : Hid (Fr (fun b => b = rb) w2 w6) := HF5.out.trans (Fr.below hb6)
  have HR6 := Lib.hid (HR5.out.below hb6)
  have hbl := HBT6.out.lt
  clear hb6 HBT HF5 HR5
  by_cases hd : ldep l ⟨k, ix⟩ = 0
  · have qd := ieq_t hd
    have b0 := HBT6.out.c0
    have b1 := HBT6.out.c1
    have bf := HBT6.out.fz
    have HBTs : Hid (BoxT ((w6.setCell ⟨w4.heap.size, 0, none⟩ (.int .i64 (-1))).setCell ⟨w4.heap.size, 1, none⟩ (.int .i64 0)) w4.heap.size ⟨-1, 0⟩) := heap_setCell_same _ _ 1 _ _ _ (heap_setCell_same _ _ 0 _ _ _ HBT6.out)
    have HFs : Hid (Fr (fun b => b = rb) w2 ((w6.setCell ⟨w4.heap.size, 0, none⟩ (.int .i64 (-1))).setCell ⟨w4.heap.size, 1, none⟩ (.int .i64 0))) := (HF6.out.setNew hz4).setNew hz4
    have HRs : Hid (RRd ((w6.setCell ⟨w4.heap.size, 0, none⟩ (.int .i64 (-1))).setCell ⟨w4.heap.size, 1, none⟩ (.int .i64 0)) B rb (N + 1 + 1 + 1)) := (HR6.out.setCell (by omega) (by omega)).setCell (by omega) (by omega)
    have HSs : Hid (w4.heap.size < ((w6.setCell ⟨w4.heap.size, 0, none⟩ (.int .i64 (-1))).setCell ⟨w4.heap.size, 1, none⟩ (.int .i64 0)).heap.size) := HBTs.out.lt
    have HTOK : Hid (TyOK l ⟨-1, 0⟩) := tys_ok HW.out (mem_tys.2 (.inl rfl))
    have HINH : Hid (Inh l ⟨-1, 0⟩) := ⟨mem_tys.2 (.inl rfl), 1, .inl rfl⟩
    clear HBT6 HF6 HR6 hd
    go_wp2_with fail
    generalize ((w6.setCell ⟨w4.heap.size, 0, none⟩ (.int .i64 (-1))).setCell ⟨w4.heap.size, 1, none⟩ (.int .i64 0)) = wa at HBTs HFs HRs HSs ⊢
    clear b0 b1 bf qd
    have HTT : Hid ((⟨-1, 0⟩ : Ty) = ⟨(-1 : Int), (0 : Int)⟩) := rfl
    have s0 := HBTs.out.c0
    have s1 := HBTs.out.c1
    have HLA : Hid (w4.heap.size < wa.heap.size ∧ w2.heap.size ≤ wa.heap.size) := ⟨HSs.out, HFs.out.size⟩
    have hla := HLA.out
    have hna : w.heap.size ≠ w4.heap.size := by omega
    have hnb : w.heap.size + 1 ≠ w4.heap.size := by omega
    have HNM : Hid (Calls Try.prog 76 #[.pointer (some ⟨rb, 0, none⟩), .slice (some ⟨wa.heap.size, 0, none⟩) 4 4] (wa.alloc (.cells #[.int .i64 3, .int .i64 2, .int .i64 4, .int .i64 1] 3)).drew (PickedI (wa.alloc (.cells #[.int .i64 3, .int .i64 2, .int .i64 4, .int .i64 1] 3)).drew B rb (N + 1 + 1 + 1) [3, 2, 4, 1])) := num_n rb B (N + 1 + 1 + 1) 4 [3, 2, 4, 1] rfl _ 4 _ ((HRs.out.alloc _).drew) (by have := HNN.out; omega) (by decide) (RInts.lit2 _ _ _ rfl (by decide)) (fun b o e => by injection e with e; injection e with e; omega)
    go_region_held3 (fun w' => w'.cell? ⟨w4.heap.size, 0, none⟩ = some (.int .i64 (-1)) ∧ w'.cell? ⟨w4.heap.size, 1, none⟩ = some (.int .i64 0)) (first | (with_reducible exact ⟨s0, s1⟩) | (with_reducible exact ⟨p0, p1⟩) | (with_reducible exact ⟨m0, m1⟩) | (with_reducible exact ⟨two_far hna m0, two_far hna m1⟩) | (with_reducible exact ⟨three_far hnb (two_far hna m0), three_far hnb (two_far hna m1)⟩) | go_keep) (first | (go_at_call 83; (with_reducible refine (HDW.out).mono ?_); rintro e w8 ⟨v, A8, c8, rfl, hfit, hc8, ho8, hR8, hf8⟩; have HF8 := Lib.hid hf8; have HFIT := Lib.hid hfit; have HC8 := Lib.hid hc8; have HO8 := Lib.hid ho8; have HR8 := Lib.hid hR8; have HZ8 := Lib.hid (HZ7.out.fr hf8 (by omega) (by omega)); obtain ⟨k0, k1, k2, k3, k4, k5, k6, k7, k8, k9⟩ := HZ8.out.cells; have m0 := (BoxT.keep HB7.out (hf8.2.2.2.2 _ HB7.out.lt (by omega))).c0; have m1 := (BoxT.keep HB7.out (hf8.2.2.2.2 _ HB7.out.lt (by omega))).c1; clear hf8 hfit hc8 ho8 hR8) | (go_at_call 76; (with_reducible refine (HNM.out).mono ?_); rintro e w7 ⟨j7, hj7, rfl, hR7, hg7⟩; have hf7 : Fr (fun b => b = rb) w2 w7 := (HFs.out.trans (Fr.below ((Below.refl _ wa).alloc (Nat.le_refl _) (.cells #[.int .i64 3, .int .i64 2, .int .i64 4, .int .i64 1] 3)))).trans (Fr.grown (⟨hg7.os, hg7.tape, hg7.output, hg7.size, hg7.block⟩ : (wa.alloc (.cells #[.int .i64 3, .int .i64 2, .int .i64 4, .int .i64 1] 3)).grownBy w7 (some rb)) (fun b e => by injection e)); have HF7 := Lib.hid hf7; have HR7 := Lib.hid hR7; have HZ7 := Lib.hid (HZ2.out.fr hf7 (by omega) (by omega)); have HB7 : Hid (BoxT w7 w4.heap.size ⟨(-1), 0⟩) := BoxT.keep (HBTs.out.alloc (.cells #[.int .i64 3, .int .i64 2, .int .i64 4, .int .i64 1] 3)) (hg7.block _ (by have := HLA.out; show _ < (wa.alloc _).heap.size; simp; omega) (fun e => by injection e with e; have := HLA.out; omega)); have p0 := HB7.out.c0; have p1 := HB7.out.c1; have HJ7 : Hid (1 ≤ ([3, 2, 4, 1] : List Int)[j7] ∧ ([3, 2, 4, 1] : List Int)[j7] ≤ 4) := (by have := mem_ix hj7; simp only [List.mem_cons, List.not_mem_nil, or_false] at this; unfold Hid; omega); (generalize ([3, 2, 4, 1] : List Int)[j7] = dp at HJ7); have HDW := Lib.hid (dw_any l HW.out 4 Aw (some ⟨w1.heap.size, 0, none⟩) T cw (l.length * 4) ⟨(-1), 0⟩ dp wx.heap.size B rb _ w7 (HROB.out.at_ (Stays.fr hf7 HLO.out)) HLO.out HS.out HTOK.out HINH.out (by have := H7.out.dep HINH.out; omega) (by have := HJ7.out; omega) (by have := HJ7.out; omega) (by have := HJ7.out; omega) HR7.out (by have := HNN.out; simp only [pk]; omega)); clear hf7 hR7 hg7 hj7))
    all_goals
      have hz7 := HF7.out.size
      have HP := HZ8.out.put (by omega) (-1) 0 v.ctor v.n (.slice A8 v.kids.length c8)
      have HF : Hid (Typed w B rb N (.returned (.tuple #[.slice Aw l.length cw, .agg #[.int .i64 (-1), .int .i64 0], .agg #[.int .i64 v.ctor, .int .i64 v.n, .slice A8 v.kids.length c8]])) (((((w8.setCell ⟨w.heap.size, 0, none⟩ (.int .i64 (-1))).setCell ⟨w.heap.size, 1, none⟩ (.int .i64 0)).setCell ⟨w.heap.size + 1, 0, none⟩ (.int .i64 v.ctor)).setCell ⟨w.heap.size + 1, 1, none⟩ (.int .i64 v.n)).setCell ⟨w.heap.size + 1, 2, none⟩ (.slice A8 v.kids.length c8))) := by
        have hfa : Fr (fun b => b = rb) w2 w8 := HF7.out.trans HF8.out
        have hfw : Fr (fun b => b = w.heap.size ∨ b = w.heap.size + 1) w8 (((((w8.setCell ⟨w.heap.size, 0, none⟩ (.int .i64 (-1))).setCell ⟨w.heap.size, 1, none⟩ (.int .i64 0)).setCell ⟨w.heap.size + 1, 0, none⟩ (.int .i64 v.ctor)).setCell ⟨w.heap.size + 1, 1, none⟩ (.int .i64 v.n)).setCell ⟨w.heap.size + 1, 2, none⟩ (.slice A8 v.kids.length c8)) := ((((Fr.set _ _ _ _ (.inl rfl)).trans (Fr.set _ _ _ _ (.inl rfl))).trans (Fr.set _ _ _ _ (.inr rfl))).trans (Fr.set _ _ _ _ (.inr rfl))).trans (Fr.set _ _ _ _ (.inr rfl))
        have hst : Stays wx.heap.size w2 (((((w8.setCell ⟨w.heap.size, 0, none⟩ (.int .i64 (-1))).setCell ⟨w.heap.size, 1, none⟩ (.int .i64 0)).setCell ⟨w.heap.size + 1, 0, none⟩ (.int .i64 v.ctor)).setCell ⟨w.heap.size + 1, 1, none⟩ (.int .i64 v.n)).setCell ⟨w.heap.size + 1, 2, none⟩ (.slice A8 v.kids.length c8)) := (Stays.fr hfa HLO.out).trans ⟨hfw.size, fun b h1 h2 => hfw.2.2.2.2 b h2 (by omega)⟩
        refine ⟨l, ⟨(-1), 0⟩, v, Aw, A8, cw, c8, rfl, H7.out, (HO2.out.keepT (hst.keepT T28)).lower (by omega), HTOK.out, HINH.out, HFIT.out, HC8.out, ((HO8.out.fr _ hfw (fun b hb e => by have := hb.1; omega)).wide _ (fun b hb => ⟨by have := hb.1; omega, Nat.lt_of_lt_of_le hb.2 hfw.size⟩)), ?_, (HF2.out.trans hfa).put (Nat.le_refl _) (by omega) _ _ _ _ _⟩
        exact (HR8.out.fr hfw (fun b hb => by omega)).more (by simp only [pk]; omega)
      obtain ⟨hp1, hp2⟩ := HP
      generalize hwf : (((((w8.setCell ⟨w.heap.size, 0, none⟩ (.int .i64 (-1))).setCell ⟨w.heap.size, 1, none⟩ (.int .i64 0)).setCell ⟨w.heap.size + 1, 0, none⟩ (.int .i64 v.ctor)).setCell ⟨w.heap.size + 1, 1, none⟩ (.int .i64 v.n)).setCell ⟨w.heap.size + 1, 2, none⟩ (.slice A8 v.kids.length c8)) = wf at HF hp1 hp2 ⊢
      have r0 := (cell_of_blk hp1 0).trans rfl
      have r1 := (cell_of_blk hp1 1).trans rfl
      have r2 := (cell_of_blk hp2 0).trans rfl
      have r3 := (cell_of_blk hp2 1).trans rfl
      have r4 := (cell_of_blk hp2 2).trans rfl
      go_wp2_with fail
      exact bodyPost_ret (v := .tuple #[.slice Aw l.length cw, .agg #[.int .i64 (-1), .int .i64 0], .agg #[.int .i64 v.ctor, .int .i64 v.n, .slice A8 v.kids.length c8]]) (by simp [results, Try.results41, go_sem, r0, r1, r2, r3, r4]) rfl HF.out
  · have qd := ieq_f hd
    have HTOK : Hid (TyOK l ⟨k, ix⟩) := tys_ok HW.out HTN.out
    have HINH : Hid (Inh l ⟨k, ix⟩) := Classical.byContradiction fun hc => hd (ldep_no HTN.out hc)
    have HBTs := HBT6
    have HFs := HF6
    have HRs := HR6
    have HSs := Lib.hid hbl
    clear HBT6 HF6 HR6 hd
    go_wp2_with fail
    clear qd
    have s0 := HBTs.out.c0
    have s1 := HBTs.out.c1
    have HLA : Hid (w4.heap.size < w6.heap.size ∧ w2.heap.size ≤ w6.heap.size) := ⟨HSs.out, HFs.out.size⟩
    have hla := HLA.out
    have hna : w.heap.size ≠ w4.heap.size := by omega
    have hnb : w.heap.size + 1 ≠ w4.heap.size := by omega
    have HNM : Hid (Calls Try.prog 76 #[.pointer (some ⟨rb, 0, none⟩), .slice (some ⟨w6.heap.size, 0, none⟩) 4 4] (w6.alloc (.cells #[.int .i64 3, .int .i64 2, .int .i64 4, .int .i64 1] 3)).drew (PickedI (w6.alloc (.cells #[.int .i64 3, .int .i64 2, .int .i64 4, .int .i64 1] 3)).drew B rb (N + 1 + 1 + 1) [3, 2, 4, 1])) := num_n rb B (N + 1 + 1 + 1) 4 [3, 2, 4, 1] rfl _ 4 _ ((HRs.out.alloc _).drew) (by have := HNN.out; omega) (by decide) (RInts.lit2 _ _ _ rfl (by decide)) (fun b o e => by injection e with e; injection e with e; omega)
    go_region_held3 (fun w' => w'.cell? ⟨w4.heap.size, 0, none⟩ = some (.int .i64 k) ∧ w'.cell? ⟨w4.heap.size, 1, none⟩ = some (.int .i64 ix)) (first | (with_reducible exact ⟨s0, s1⟩) | (with_reducible exact ⟨p0, p1⟩) | (with_reducible exact ⟨m0, m1⟩) | (with_reducible exact ⟨two_far hna m0, two_far hna m1⟩) | (with_reducible exact ⟨three_far hnb (two_far hna m0), three_far hnb (two_far hna m1)⟩) | go_keep) (first | (go_at_call 83; (with_reducible refine (HDW.out).mono ?_); rintro e w8 ⟨v, A8, c8, rfl, hfit, hc8, ho8, hR8, hf8⟩; have HF8 := Lib.hid hf8; have HFIT := Lib.hid hfit; have HC8 := Lib.hid hc8; have HO8 := Lib.hid ho8; have HR8 := Lib.hid hR8; have HZ8 := Lib.hid (HZ7.out.fr hf8 (by omega) (by omega)); obtain ⟨k0, k1, k2, k3, k4, k5, k6, k7, k8, k9⟩ := HZ8.out.cells; have m0 := (BoxT.keep HB7.out (hf8.2.2.2.2 _ HB7.out.lt (by omega))).c0; have m1 := (BoxT.keep HB7.out (hf8.2.2.2.2 _ HB7.out.lt (by omega))).c1; clear hf8 hfit hc8 ho8 hR8) | (go_at_call 76; (with_reducible refine (HNM.out).mono ?_); rintro e w7 ⟨j7, hj7, rfl, hR7, hg7⟩; have hf7 : Fr (fun b => b = rb) w2 w7 := (HFs.out.trans (Fr.below ((Below.refl _ w6).alloc (Nat.le_refl _) (.cells #[.int .i64 3, .int .i64 2, .int .i64 4, .int .i64 1] 3)))).trans (Fr.grown (⟨hg7.os, hg7.tape, hg7.output, hg7.size, hg7.block⟩ : (w6.alloc (.cells #[.int .i64 3, .int .i64 2, .int .i64 4, .int .i64 1] 3)).grownBy w7 (some rb)) (fun b e => by injection e)); have HF7 := Lib.hid hf7; have HR7 := Lib.hid hR7; have HZ7 := Lib.hid (HZ2.out.fr hf7 (by omega) (by omega)); have HB7 : Hid (BoxT w7 w4.heap.size ⟨k, ix⟩) := BoxT.keep (HBTs.out.alloc (.cells #[.int .i64 3, .int .i64 2, .int .i64 4, .int .i64 1] 3)) (hg7.block _ (by have := HLA.out; show _ < (w6.alloc _).heap.size; simp; omega) (fun e => by injection e with e; have := HLA.out; omega)); have p0 := HB7.out.c0; have p1 := HB7.out.c1; have HJ7 : Hid (1 ≤ ([3, 2, 4, 1] : List Int)[j7] ∧ ([3, 2, 4, 1] : List Int)[j7] ≤ 4) := (by have := mem_ix hj7; simp only [List.mem_cons, List.not_mem_nil, or_false] at this; unfold Hid; omega); (generalize ([3, 2, 4, 1] : List Int)[j7] = dp at HJ7); have HDW := Lib.hid (dw_any l HW.out 4 Aw (some ⟨w1.heap.size, 0, none⟩) T cw (l.length * 4) ⟨k, ix⟩ dp wx.heap.size B rb _ w7 (HROB.out.at_ (Stays.fr hf7 HLO.out)) HLO.out HS.out HTOK.out HINH.out (by have := H7.out.dep HINH.out; omega) (by have := HJ7.out; omega) (by have := HJ7.out; omega) (by have := HJ7.out; omega) HR7.out (by have := HNN.out; simp only [pk]; omega)); clear hf7 hR7 hg7 hj7))
    all_goals
      have hz7 := HF7.out.size
      have HP := HZ8.out.put (by omega) k ix v.ctor v.n (.slice A8 v.kids.length c8)
      have HF : Hid (Typed w B rb N (.returned (.tuple #[.slice Aw l.length cw, .agg #[.int .i64 k, .int .i64 ix], .agg #[.int .i64 v.ctor, .int .i64 v.n, .slice A8 v.kids.length c8]])) (((((w8.setCell ⟨w.heap.size, 0, none⟩ (.int .i64 k)).setCell ⟨w.heap.size, 1, none⟩ (.int .i64 ix)).setCell ⟨w.heap.size + 1, 0, none⟩ (.int .i64 v.ctor)).setCell ⟨w.heap.size + 1, 1, none⟩ (.int .i64 v.n)).setCell ⟨w.heap.size + 1, 2, none⟩ (.slice A8 v.kids.length c8))) := by
        have hfa : Fr (fun b => b = rb) w2 w8 := HF7.out.trans HF8.out
        have hfw : Fr (fun b => b = w.heap.size ∨ b = w.heap.size + 1) w8 (((((w8.setCell ⟨w.heap.size, 0, none⟩ (.int .i64 k)).setCell ⟨w.heap.size, 1, none⟩ (.int .i64 ix)).setCell ⟨w.heap.size + 1, 0, none⟩ (.int .i64 v.ctor)).setCell ⟨w.heap.size + 1, 1, none⟩ (.int .i64 v.n)).setCell ⟨w.heap.size + 1, 2, none⟩ (.slice A8 v.kids.length c8)) := ((((Fr.set _ _ _ _ (.inl rfl)).trans (Fr.set _ _ _ _ (.inl rfl))).trans (Fr.set _ _ _ _ (.inr rfl))).trans (Fr.set _ _ _ _ (.inr rfl))).trans (Fr.set _ _ _ _ (.inr rfl))
        have hst : Stays wx.heap.size w2 (((((w8.setCell ⟨w.heap.size, 0, none⟩ (.int .i64 k)).setCell ⟨w.heap.size, 1, none⟩ (.int .i64 ix)).setCell ⟨w.heap.size + 1, 0, none⟩ (.int .i64 v.ctor)).setCell ⟨w.heap.size + 1, 1, none⟩ (.int .i64 v.n)).setCell ⟨w.heap.size + 1, 2, none⟩ (.slice A8 v.kids.length c8)) := (Stays.fr hfa HLO.out).trans ⟨hfw.size, fun b h1 h2 => hfw.2.2.2.2 b h2 (by omega)⟩
        refine ⟨l, ⟨k, ix⟩, v, Aw, A8, cw, c8, rfl, H7.out, (HO2.out.keepT (hst.keepT T28)).lower (by omega), HTOK.out, HINH.out, HFIT.out, HC8.out, ((HO8.out.fr _ hfw (fun b hb e => by have := hb.1; omega)).wide _ (fun b hb => ⟨by have := hb.1; omega, Nat.lt_of_lt_of_le hb.2 hfw.size⟩)), ?_, (HF2.out.trans hfa).put (Nat.le_refl _) (by omega) _ _ _ _ _⟩
        exact (HR8.out.fr hfw (fun b hb => by omega)).more (by simp only [pk]; omega)
      obtain ⟨hp1, hp2⟩ := HP
      generalize hwf : (((((w8.setCell ⟨w.heap.size, 0, none⟩ (.int .i64 k)).setCell ⟨w.heap.size, 1, none⟩ (.int .i64 ix)).setCell ⟨w.heap.size + 1, 0, none⟩ (.int .i64 v.ctor)).setCell ⟨w.heap.size + 1, 1, none⟩ (.int .i64 v.n)).setCell ⟨w.heap.size + 1, 2, none⟩ (.slice A8 v.kids.length c8)) = wf at HF hp1 hp2 ⊢
      have r0 := (cell_of_blk hp1 0).trans rfl
      have r1 := (cell_of_blk hp1 1).trans rfl
      have r2 := (cell_of_blk hp2 0).trans rfl
      have r3 := (cell_of_blk hp2 1).trans rfl
      have r4 := (cell_of_blk hp2 2).trans rfl
      go_wp2_with fail
      exact bodyPost_ret (v := .tuple #[.slice Aw l.length cw, .agg #[.int .i64 k, .int .i64 ix], .agg #[.int .i64 v.ctor, .int .i64 v.n, .slice A8 v.kids.length c8]]) (by simp [results, Try.results41, go_sem, r0, r1, r2, r3, r4]) rfl HF.out
end Go.Proofs.Ytbeejeialjfdnaa
/-
  A pattern that is made part by part while a source of numbers turns; parts may lie in older blocks. No statement is proved here.
-/
namespace Go.Proofs.Ytbeejeialjfdnaa
open Go.RowKit
set_option maxRecDepth 100000
set_option linter.unusedVariables false
/-- The row of a list of which k parts are made, in blocks of Z. -/
def RowG (d : Nat) (w : World) (og : Option Nat) (Z : Nat → Prop) (Q : Nat → Nat → Prop) (l : List Pt) (xs : List Value) : Prop := ∀ j (h : j < l.length), (∀ b, Q j b → Z b ∧ b < w.heap.size ∧ some b ≠ og ∧ ∀ i, i < l.length → i ≠ j → ¬ Q i b) ∧ ∃ A' cap, xs[j * 6]? = some (.int .i64 l[j].op) ∧ xs[j * 6 + 1]? = some (.int .i64 l[j].ctor) ∧ xs[j * 6 + 2]? = some (.int .i64 l[j].n) ∧ xs[j * 6 + 3]? = some (.int .i64 l[j].m) ∧ xs[j * 6 + 4]? = some (.int .i64 l[j].var) ∧ xs[j * 6 + 5]? = some (.slice A' l[j].kids.length cap) ∧ OPs d w (Q j) A' l[j].kids
theorem RowG.fr {d : Nat} {w w' : World} {og og' : Option Nat} {Z : Nat → Prop} {Q : Nat → Nat → Prop} {l : List Pt} {xs : List Value} {P' : Nat → Prop} (h : RowG d w og Z Q l xs) (hf : Fr P' w w') (hp : ∀ b, Z b → some b ≠ og → b < w.heap.size → ¬ P' b ∧ some b ≠ og') : RowG d w' og' Z Q l xs := fun j hj => by
  obtain ⟨h1, A', cap, e0, e1, e2, e3, e4, e8, e9⟩ := h j hj
  refine ⟨fun b hb => ?_, A', cap, e0, e1, e2, e3, e4, e8, e9.fr d hf (fun b hb => ?_)⟩
  · obtain ⟨a1, a2, a3, a4⟩ := h1 b hb
    exact ⟨a1, Nat.lt_of_lt_of_le a2 hf.size, (hp b a1 a3 a2).2, a4⟩
  · obtain ⟨a1, a2, a3, a4⟩ := h1 b hb
    exact (hp b a1 a3 a2).1
theorem RowG.snoc {d : Nat} {w : World} {og : Option Nat} {Z : Nat → Prop} {Q : Nat → Nat → Prop} {K : Nat → Prop} {l : List Pt} {v : Pt} {xs ys : List Value} {A' : Option Addr} {cap : Nat} (h : RowG d w og Z Q l xs) (hx : xs.length = l.length * 6) (hK : ∀ b, K b → Z b ∧ b < w.heap.size ∧ some b ≠ og ∧ ∀ j, j < l.length → ¬ Q j b) (ho : OPs d w K A' v.kids)
    (hy : ys = [.int .i64 v.op, .int .i64 v.ctor, .int .i64 v.n, .int .i64 v.m, .int .i64 v.var, .slice A' v.kids.length cap]) : RowG d w og Z (fun i => if i = l.length then K else Q i) (l ++ [v]) (xs ++ ys) := by
  subst hy
  intro j hj
  have hll : (l ++ [v]).length = l.length + 1 := by simp
  by_cases e : j = l.length
  · subst e
    have e1 : (l ++ [v])[l.length]'hj = v := by simp
    rw [e1]
    refine ⟨fun b hq => ?_, A', cap, ?_, ?_, ?_, ?_, ?_, ?_, ?_⟩
    · replace hq : (if l.length = l.length then K else Q l.length) b := hq
      rw [if_pos rfl] at hq
      obtain ⟨a1, a2, a3, a4⟩ := hK b hq
      refine ⟨a1, a2, a3, fun i hi hij hqi => ?_⟩
      replace hqi : (if i = l.length then K else Q i) b := hqi
      rw [if_neg hij] at hqi
      exact a4 i (by omega) hqi
    · rw [List.getElem?_append_right (by omega), show l.length * 6 - xs.length = 0 by omega]; rfl
    · rw [List.getElem?_append_right (by omega), show l.length * 6 + 1 - xs.length = 1 by omega]; rfl
    · rw [List.getElem?_append_right (by omega), show l.length * 6 + 2 - xs.length = 2 by omega]; rfl
    · rw [List.getElem?_append_right (by omega), show l.length * 6 + 3 - xs.length = 3 by omega]; rfl
    · rw [List.getElem?_append_right (by omega), show l.length * 6 + 4 - xs.length = 4 by omega]; rfl
    · rw [List.getElem?_append_right (by omega), show l.length * 6 + 5 - xs.length = 5 by omega]; rfl
    · show OPs d w (if l.length = l.length then K else Q l.length) A' v.kids
      rw [if_pos rfl]; exact ho
  · have hj' : j < l.length := by omega
    have e1 : (l ++ [v])[j]'hj = l[j] := List.getElem_append_left hj'
    rw [e1]
    obtain ⟨h1, A2, c2, f0, f1, f2, f3, f4, f8, f9⟩ := h j hj'
    have hx' : ∀ c, c < 6 → (xs ++ [Value.int .i64 v.op, .int .i64 v.ctor, .int .i64 v.n, .int .i64 v.m, .int .i64 v.var, .slice A' v.kids.length cap])[j * 6 + c]? = xs[j * 6 + c]? := fun c hc => List.getElem?_append_left (by omega)
    refine ⟨fun b hq => ?_, A2, c2, (hx' 0 (by omega)).trans f0, (hx' 1 (by omega)).trans f1, (hx' 2 (by omega)).trans f2, (hx' 3 (by omega)).trans f3, (hx' 4 (by omega)).trans f4, (hx' 5 (by omega)).trans f8, ?_⟩
    · replace hq : (if j = l.length then K else Q j) b := hq
      rw [if_neg e] at hq
      obtain ⟨a1, a2, a3, a4⟩ := h1 b hq
      refine ⟨a1, a2, a3, fun i hi hij hqi => ?_⟩
      replace hqi : (if i = l.length then K else Q i) b := hqi
      by_cases e2 : i = l.length
      · rw [if_pos e2] at hqi
        exact (hK b hqi).2.2.2 j hj' hq
      · rw [if_neg e2] at hqi
        exact a4 i (by omega) hij hqi
    · show OPs d w (if j = l.length then K else Q j) A2 l[j].kids
      rw [if_neg e]; exact f9
theorem OPs.of_rowG {d : Nat} {w : World} {lo : Nat} {v : Value} {l : List Pt} {xs : List Value} {Z : Nat → Prop} {Q : Nat → Nat → Prop} (h : w.ownsRow lo 50 6 v l.length xs) (hx : RowG d w v.ownBlock Z Q l xs) (hn : l.length ≤ 1048576) : ∃ A cap, v = .slice A l.length cap ∧ OPs (d + 1) w (fun b => (Z b ∨ lo ≤ b) ∧ b < w.heap.size) A l := by
  rcases h.2 with ⟨h', h0⟩ | ⟨g, cap, cur, h', hb, hg, hnc, hcm, hcs, htake⟩
  · refine ⟨none, 0, by rw [h0]; exact h', by unfold maxLen; omega, fun hl => absurd hl (by omega)⟩
  · subst h'
    refine ⟨_, cap, rfl, by unfold maxLen; omega, fun _ => ⟨g, cur, Q, rfl, ⟨.inr hb, heap_lt hg⟩, hg, fun k b hk hq => ?_, fun k hk => ?_⟩⟩
    · obtain ⟨a1, a2, a3, a4⟩ := (hx k hk).1 b hq
      exact ⟨⟨.inl a1, a2⟩, fun e => a3 (by rw [e]; rfl), a4⟩
    · obtain ⟨_, A', c', e0, e1, e2, e3, e4, e8, e9⟩ := hx k hk
      have hat : ∀ i, i < l.length * 6 → cur[i]? = xs[i]? := fun i hi => by
        rw [← htake, List.getElem?_take_of_lt hi, Array.getElem?_toList]
      exact ⟨A', c', (hat _ (by omega)).trans e0, (hat _ (by omega)).trans e1, (hat _ (by omega)).trans e2, (hat _ (by omega)).trans e3, (hat _ (by omega)).trans e4, (hat _ (by omega)).trans e8, e9⟩
/-- A node in block g whose parts so far are l; the source lies in block rb. -/
def BldG (d : Nat) (w0 wr : World) (g rb : Nat) (Z : Nat → Prop) (x0 x1 x2 x3 x4 : Int) (l : List Pt) (Q : Nat → Nat → Prop) : Prop := g < w0.heap.size ∧ rb < w0.heap.size ∧ g ≠ rb ∧ Fr (fun b => b = g ∨ b = rb) w0 wr ∧ ∃ A c ys, wr.heap[g]? = some (.cells #[.int .i64 x0, .int .i64 x1, .int .i64 x2, .int .i64 x3, .int .i64 x4, .slice A l.length c] 50 (0, 0)) ∧ wr.ownsRow w0.heap.size 50 6 (.slice A l.length c) l.length ys ∧ RowG d wr (Value.slice A l.length c).ownBlock Z Q l ys
theorem BldG.zero {d : Nat} {w0 : World} {g rb : Nat} {Z : Nat → Prop} {x0 x1 x2 x3 x4 : Int} (Q : Nat → Nat → Prop) (h : w0.heap[g]? = some (.cells #[.int .i64 x0, .int .i64 x1, .int .i64 x2, .int .i64 x3, .int .i64 x4, .slice none 0 0] 50 (0, 0))) (hrb : rb < w0.heap.size) (hne : g ≠ rb) : BldG d w0 w0 g rb Z x0 x1 x2 x3 x4 [] Q :=
  ⟨heap_lt h, hrb, hne, Fr.refl _ _, none, 0, [], h, World.ownsRow_nil _ _ _ _, fun j hj => absurd hj (by simp)⟩
theorem BldG.step {d : Nat} {w0 wr w2 w4 : World} {g rb : Nat} {Z K : Nat → Prop} {x0 x1 x2 x3 x4 : Int} {l : List Pt} {v : Pt} {c c2 : Nat} {A A2 : Option Addr} {ys : List Value} {Q : Nat → Nat → Prop} {v' : Value} {box : Obj}
    (hgl : g < w0.heap.size) (hrb : rb < w0.heap.size) (hne : g ≠ rb) (hf : Fr (fun b => b = g ∨ b = rb) w0 wr) (hg : wr.heap[g]? = some (.cells #[.int .i64 x0, .int .i64 x1, .int .i64 x2, .int .i64 x3, .int .i64 x4, .slice A l.length c] 50 (0, 0))) (ho : wr.ownsRow w0.heap.size 50 6 (.slice A l.length c) l.length ys) (hrow : RowG d wr (Value.slice A l.length c).ownBlock Z Q l ys)
    (hZ : ∀ b, Z b → b ≠ g ∧ b ≠ rb) (hb : Fr (fun b => b = rb) wr w2) (hkid : OPs d w2 K A2 v.kids) (hK : ∀ b, K b → Z b ∧ b < w2.heap.size ∧ some b ≠ (Value.slice A l.length c).ownBlock ∧ ∀ j, j < l.length → ¬ Q j b) (hown : w4.ownsRow w0.heap.size 50 6 v' (l.length + 1) (ys ++ [.int .i64 v.op, .int .i64 v.ctor, .int .i64 v.n, .int .i64 v.m, .int .i64 v.var, .slice A2 v.kids.length c2])) (hgr : (w2.alloc box).grownBy w4 (Value.slice A l.length c).ownBlock)
    (hat : v'.ownBlock = (Value.slice A l.length c).ownBlock ∨ v'.ownBlock = some (w2.alloc box).heap.size) :
    ∃ A' c', v' = .slice A' (l.length + 1) c' ∧ w4.heap[g]? = some (.cells #[.int .i64 x0, .int .i64 x1, .int .i64 x2, .int .i64 x3, .int .i64 x4, .slice A l.length c] 50 (0, 0)) ∧ BldG d w0 (w4.setCell ⟨g, 5, none⟩ v') g rb Z x0 x1 x2 x3 x4 (l ++ [v]) (fun i => if i = l.length then K else Q i) := by
  have hys := ho.1
  obtain ⟨_, _, _, hob⟩ := own_form ho
  obtain ⟨A', c', hv, hnb⟩ := own_form hown
  have hgw := heap_lt hg
  have hb2 := hb.size
  have hz : (w2.alloc box).heap.size = w2.heap.size + 1 := by simp
  have hng : ¬ some g = (Value.slice A l.length c).ownBlock := fun e => by have := (hob g e.symm).1; omega
  have hg4 : w4.heap[g]? = some (.cells #[.int .i64 x0, .int .i64 x1, .int .i64 x2, .int .i64 x3, .int .i64 x4, .slice A l.length c] 50 (0, 0)) := by
    rw [hgr.block g (by omega) hng, Below.heap_alloc _ _ _ (by omega), hb.2.2.2.2 g hgw hne]; exact hg
  have hF : Fr (fun b => some b = (Value.slice A l.length c).ownBlock ∨ b = g) w2 (w4.setCell ⟨g, 5, none⟩ v') :=
    ((Fr.below ((Below.refl _ w2).alloc (Nat.le_refl _) box)).trans (Fr.grown hgr (fun b e => .inl e))).trans (Fr.set _ _ _ _ (.inr rfl))
  have hr1 : RowG d w2 (Value.slice A l.length c).ownBlock Z Q l ys := hrow.fr hb (fun b h1 h2 h3 => ⟨(hZ b h1).2, h2⟩)
  have hr2 := hr1.snoc (v := v) (by omega) hK hkid rfl (cap := c2)
  have hr3 := hr2.fr (og' := v'.ownBlock) hF (fun b h1 h2 h3 => ⟨fun h => by
    rcases h with h | h
    · exact h2 h
    · exact (hZ b h1).1 h, fun e => by
    rcases hat with h | h
    · exact h2 (e.trans h)
    · rw [h] at e; injection e with e; omega⟩)
  have hF0 : Fr (fun b => b = g ∨ b = rb) w0 (w4.setCell ⟨g, 5, none⟩ v') := by
    refine ⟨?_, ?_, ?_, ?_, fun b hb0 hne' => ?_⟩
    · exact hF.1.trans (hb.1.trans hf.1)
    · exact hF.2.1.trans (hb.2.1.trans hf.2.1)
    · exact hF.2.2.1.trans (hb.2.2.1.trans hf.2.2.1)
    · exact Nat.le_trans hf.size (Nat.le_trans hb2 hF.size)
    · have h0 := hf.size
      rw [hF.2.2.2.2 b (by omega) (fun h => by
        rcases h with h | h
        · have := (hob b h.symm).1; omega
        · exact hne' (.inl h)), hb.2.2.2.2 b (by omega) (fun h => hne' (.inr h))]
      exact hf.2.2.2.2 b hb0 hne'
  refine ⟨A', c', hv, hg4, ?_⟩
  subst hv
  have hll : (l ++ [v]).length = l.length + 1 := by simp
  refine ⟨hgl, hrb, hne, hF0, A', c', ys ++ [.int .i64 v.op, .int .i64 v.ctor, .int .i64 v.n, .int .i64 v.m, .int .i64 v.var, .slice A2 v.kids.length c2], ?_, ?_, ?_⟩
  · have := heap_setCell_same w4 g 5 _ _ (.slice A' (l.length + 1) c') hg4
    rw [this, hll]
    rfl
  · rw [hll]
    exact own_at hown (fun b e => Below.heap_setCell _ _ _ _ (fun h => by have := (hnb b e).1; simp only at h; omega))
  · rw [hll]; exact hr3
theorem BldG.all {d : Nat} {w0 wr : World} {g rb : Nat} {Z : Nat → Prop} {x0 x1 x2 x3 x4 : Int} {l : List Pt} {Q : Nat → Nat → Prop} (h : BldG d w0 wr g rb Z x0 x1 x2 x3 x4 l Q) (hn : l.length ≤ 1048576) :
    ∃ A c, wr.heap[g]? = some (.cells #[.int .i64 x0, .int .i64 x1, .int .i64 x2, .int .i64 x3, .int .i64 x4, .slice A l.length c] 50 (0, 0)) ∧ OPs (d + 1) wr (fun b => (Z b ∨ w0.heap.size ≤ b) ∧ b < wr.heap.size) A l ∧ Fr (fun b => b = g ∨ b = rb) w0 wr := by
  obtain ⟨_, _, _, hf, A, c, ys, hg, ho, hrow⟩ := h
  obtain ⟨A', c', e, hO⟩ := OPs.of_rowG ho hrow hn
  injection e with e1 e2 e3
  subst e1
  exact ⟨A, c, hg, hO, hf⟩
/-- How many numbers a pattern of n levels draws at most. -/
def pkP : Nat → Nat
  | 0 => 0
  | n + 1 => 5 + 3 * pkP n
theorem ZP.put {w : World} {b : Nat} {x0 x1 x2 x3 x4 : Int} {s0 : Value} (h : w.heap[b]? = some (.cells #[.int .i64 x0, .int .i64 x1, .int .i64 x2, .int .i64 x3, .int .i64 x4, s0] 50 (0, 0))) (y0 y1 y2 y3 y4 : Int) (s : Value) :
    ((((((w.setCell ⟨b, 0, none⟩ (.int .i64 y0)).setCell ⟨b, 1, none⟩ (.int .i64 y1)).setCell ⟨b, 2, none⟩ (.int .i64 y2)).setCell ⟨b, 3, none⟩ (.int .i64 y3)).setCell ⟨b, 4, none⟩ (.int .i64 y4)).setCell ⟨b, 5, none⟩ s).heap[b]? = some (.cells #[.int .i64 y0, .int .i64 y1, .int .i64 y2, .int .i64 y3, .int .i64 y4, s] 50 (0, 0)) :=
  (heap_setCell_same _ b 5 _ _ _ (heap_setCell_same _ b 4 _ _ _ (heap_setCell_same _ b 3 _ _ _ (heap_setCell_same _ b 2 _ _ _ (heap_setCell_same _ b 1 _ _ _ (heap_setCell_same _ b 0 _ _ _ h)))))).trans rfl
/-- The six cells of a pattern in block b: read and free. -/
theorem cellsP {w : World} {b : Nat} {x0 x1 x2 x3 x4 : Int} {s : Value} (h : w.heap[b]? = some (.cells #[.int .i64 x0, .int .i64 x1, .int .i64 x2, .int .i64 x3, .int .i64 x4, s] 50 (0, 0))) : w.cell? ⟨b, 0, none⟩ = some (.int .i64 x0) ∧ w.cell? ⟨b, 1, none⟩ = some (.int .i64 x1) ∧ w.cell? ⟨b, 2, none⟩ = some (.int .i64 x2) ∧ w.cell? ⟨b, 3, none⟩ = some (.int .i64 x3) ∧ w.cell? ⟨b, 4, none⟩ = some (.int .i64 x4) ∧ w.cell? ⟨b, 5, none⟩ = some s ∧ w.frozen? ⟨b, 0, none⟩ = false ∧ w.frozen? ⟨b, 1, none⟩ = false ∧ w.frozen? ⟨b, 2, none⟩ = false ∧ w.frozen? ⟨b, 3, none⟩ = false ∧ w.frozen? ⟨b, 4, none⟩ = false ∧ w.frozen? ⟨b, 5, none⟩ = false :=
  ⟨(cell_of_blk h 0).trans rfl, (cell_of_blk h 1).trans rfl, (cell_of_blk h 2).trans rfl, (cell_of_blk h 3).trans rfl, (cell_of_blk h 4).trans rfl, (cell_of_blk h 5).trans rfl, frozen_of_row w b 0 _ 50 h, frozen_of_row w b 1 _ 50 h, frozen_of_row w b 2 _ 50 h, frozen_of_row w b 3 _ 50 h, frozen_of_row w b 4 _ 50 h, frozen_of_row w b 5 _ 50 h⟩
theorem Fr.put6 {P : Nat → Prop} {w w1 : World} (h : Fr P w w1) {b : Nat} (hb : w.heap.size ≤ b) (y0 y1 y2 y3 y4 s : Value) : Fr P w ((((((w1.setCell ⟨b, 0, none⟩ y0).setCell ⟨b, 1, none⟩ y1).setCell ⟨b, 2, none⟩ y2).setCell ⟨b, 3, none⟩ y3).setCell ⟨b, 4, none⟩ y4).setCell ⟨b, 5, none⟩ s) :=
  (((((h.setNew hb).setNew hb).setNew hb).setNew hb).setNew hb).setNew hb
theorem Fr.setOf {P : Nat → Prop} {a w : World} (h : Fr P a w) {b i : Nat} {u : Value} (hp : P b) : Fr P a (w.setCell ⟨b, i, none⟩ u) := h.trans (Fr.set _ _ _ _ hp)
theorem Fr.six (w : World) (b : Nat) (y0 y1 y2 y3 y4 s : Value) : Fr (fun x => x = b) w ((((((w.setCell ⟨b, 0, none⟩ y0).setCell ⟨b, 1, none⟩ y1).setCell ⟨b, 2, none⟩ y2).setCell ⟨b, 3, none⟩ y3).setCell ⟨b, 4, none⟩ y4).setCell ⟨b, 5, none⟩ s) :=
  ((((((Fr.refl (fun x => x = b) w).setOf rfl).setOf rfl).setOf rfl).setOf rfl).setOf rfl).setOf rfl
end Go.Proofs.Ytbeejeialjfdnaa
/-
  How many nodes a value has, up to a number, and when it is one within the limits: the document's functions. No statement is proved here.
-/
namespace Go.Proofs.Ytbeejeialjfdnaa
open Go.RowKit Go.Sort Go.Deep
set_option maxRecDepth 100000
set_option linter.unusedVariables false
/-- A count up to a number. -/
def CntOK (N : Nat) (most r : Int) : Prop := ((N : Int) ≤ most → r = N) ∧ (most < N → most < r) ∧ r ≤ N ∧ 1 ≤ r
def CntP (N : Nat) (most : Int) (w : World) (e : Ending) (w' : World) : Prop := ∃ r : Int, e = .returned (.int .i64 r) ∧ CntOK N most r ∧ Below w.heap.size w w'
theorem CntOK.one {most : Int} (h : 0 ≤ most) : CntOK 1 most 1 := ⟨fun _ => rfl, fun h' => by omega, by omega, by omega⟩
theorem CntOK.step {N M : Nat} {most q r : Int} (h : CntOK N most q) (hq : q ≤ most) (hr : CntOK M (most - q) r) : CntOK (N + M) most (q + r) := by
  obtain ⟨a, b, c, d⟩ := h
  obtain ⟨a', b', c', d'⟩ := hr
  have hN : q = N := by
    by_cases e : (N : Int) ≤ most
    · exact a e
    · have := b (by omega); omega
  refine ⟨fun h => ?_, fun h => ?_, ?_, ?_⟩
  · have := a' (by push_cast at h; omega); push_cast; omega
  · have := b' (by push_cast at h; omega); omega
  · push_cast; omega
  · omega
theorem CntOK.over {N M : Nat} {most q : Int} (h : CntOK N most q) (hq : most < q) (hM : N ≤ M) : CntOK M most q := by
  obtain ⟨a, b, c, d⟩ := h
  exact ⟨fun h => by omega, fun _ => hq, by omega, d⟩
end Go.Proofs.Ytbeejeialjfdnaa
/-
  The pattern that only one value matches: the document's function. No statement is proved here.
-/
namespace Go.Proofs.Ytbeejeialjfdnaa
open Go.RowKit Go.Sort Go.Deep
set_option maxRecDepth 100000
set_option linter.unusedVariables false
theorem cell_six_new (w : World) (a b c d e f : Value) (t : TypeId) : ∀ j u, [a, b, c, d, e, f][j]? = some u → (w.alloc (.cells #[a, b, c, d, e, f] t)).cell? ((⟨w.heap.size, 0, none⟩ : Addr).add j) = some u := by
  intro j u hj
  match j, hj with
  | 0, hj => simp at hj; subst hj; simp [Addr.add, go_sem]
  | 1, hj => simp at hj; subst hj; simp [Addr.add, go_sem]
  | 2, hj => simp at hj; subst hj; simp [Addr.add, go_sem]
  | 3, hj => simp at hj; subst hj; simp [Addr.add, go_sem]
  | 4, hj => simp at hj; subst hj; simp [Addr.add, go_sem]
  | 5, hj => simp at hj; subst hj; simp [Addr.add, go_sem]
end Go.Proofs.Ytbeejeialjfdnaa
