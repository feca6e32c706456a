/-
  The arguments of KnownMore are drawn: the document's function. No statement is proved here.
-/
import Derived.Test.YtakhobhmplneeaaY25
import Derived.Test.YtakhobhmplneeaaY26
import Derived.Deep.RegionHeld3
namespace Go.Proofs.Ytakhobhmplneeaa
open Go.RowKit Go.Sort Go.Deep
set_option maxRecDepth 100000
set_option linter.unusedVariables false
def GotKM (w : World) (e : Ending) (w' : World) : Prop := ∃ (l : List Da) (t : Ty) (a b : Vl) (Aw Aa Ab : Option Addr) (cw ca cb : Nat) (Pa Pb : Nat → Prop), e = .returned (.tuple #[.slice Aw l.length cw, .agg #[.int .i64 t.data, .int .i64 t.index], .agg #[.int .i64 a.ctor, .int .i64 a.n, .slice Aa a.kids.length ca], .agg #[.int .i64 b.ctor, .int .i64 b.n, .slice Ab b.kids.length cb]]) ∧ RDas w' w'.heap.size Aw l ∧ (a.kids.length ≤ ca ∧ ca ≤ maxLen) ∧ (b.kids.length ≤ cb ∧ cb ≤ maxLen) ∧ OVc 4 w' Pa Aa a.kids ∧ OVc 4 w' Pb Ab b.kids ∧ (∀ x, Pa x → x < w'.heap.size) ∧ (∀ x, Pb x → x < w'.heap.size) ∧ wV a ≤ 200 ∧ wV b ≤ 200 ∧ Below w.heap.size w w'
def ZT3 (w : World) (p : Nat) : Prop := w.heap[p]? = some (.cells #[.int .i64 0, .int .i64 0] 25 (0, 0)) ∧ w.heap[p + 1]? = some (.cells #[.int .i64 0, .int .i64 0, .slice none 0 0] 28 (0, 0)) ∧ w.heap[p + 2]? = some (.cells #[.int .i64 0, .int .i64 0, .slice none 0 0] 28 (0, 0))
theorem ZT3.new (w : World) : ZT3 (((w.alloc (.cells #[.int .i64 0, .int .i64 0] 25)).alloc (.cells #[.int .i64 0, .int .i64 0, .slice none 0 0] 28)).alloc (.cells #[.int .i64 0, .int .i64 0, .slice none 0 0] 28)) w.heap.size := by
  refine ⟨(Below.heap_alloc _ _ _ (by simp <;> omega)).trans ((Below.heap_alloc _ _ _ (by simp)).trans (heap_alloc_new w _)), ?_, ?_⟩
  · have h := heap_alloc_new (w.alloc (.cells #[.int .i64 0, .int .i64 0] 25)) (.cells #[.int .i64 0, .int .i64 0, .slice none 0 0] 28)
    rw [World.size_alloc] at h
    exact (Below.heap_alloc _ _ _ (by simp)).trans h
  · have h := heap_alloc_new ((w.alloc (.cells #[.int .i64 0, .int .i64 0] 25)).alloc (.cells #[.int .i64 0, .int .i64 0, .slice none 0 0] 28)) (.cells #[.int .i64 0, .int .i64 0, .slice none 0 0] 28)
    rw [World.size_alloc, World.size_alloc] at h
    exact h
theorem ZT3.fr {w w' : World} {p : Nat} {P : Nat → Prop} (h : ZT3 w p) (hf : Fr P w w') (h0 : ¬ P p) (h1 : ¬ P (p + 1)) (h2 : ¬ P (p + 2)) : ZT3 w' p := ⟨hf.block h.1 h0, hf.block h.2.1 h1, hf.block h.2.2 h2⟩
theorem ZT3.cells {w : World} {p : Nat} (h : ZT3 w p) : (w.cell? ⟨p, 0, none⟩ = some (.int .i64 0) ∧ w.cell? ⟨p, 1, none⟩ = some (.int .i64 0) ∧ w.frozen? ⟨p, 0, none⟩ = false ∧ w.frozen? ⟨p, 1, none⟩ = false) ∧ (w.cell? ⟨p + 1, 0, none⟩ = some (.int .i64 0) ∧ w.cell? ⟨p + 1, 1, none⟩ = some (.int .i64 0) ∧ w.cell? ⟨p + 1, 2, none⟩ = some (.slice none 0 0) ∧ w.frozen? ⟨p + 1, 0, none⟩ = false ∧ w.frozen? ⟨p + 1, 1, none⟩ = false ∧ w.frozen? ⟨p + 1, 2, none⟩ = false) ∧ (w.cell? ⟨p + 2, 0, none⟩ = some (.int .i64 0) ∧ w.cell? ⟨p + 2, 1, none⟩ = some (.int .i64 0) ∧ w.cell? ⟨p + 2, 2, none⟩ = some (.slice none 0 0) ∧ w.frozen? ⟨p + 2, 0, none⟩ = false ∧ w.frozen? ⟨p + 2, 1, none⟩ = false ∧ w.frozen? ⟨p + 2, 2, none⟩ = false) :=
  ⟨⟨(cell_of_blk h.1 0).trans rfl, (cell_of_blk h.1 1).trans rfl, frozen_of_row w p 0 _ 25 h.1, frozen_of_row w p 1 _ 25 h.1⟩, ⟨(cell_of_blk h.2.1 0).trans rfl, (cell_of_blk h.2.1 1).trans rfl, (cell_of_blk h.2.1 2).trans rfl, frozen_of_row w (p + 1) 0 _ 28 h.2.1, frozen_of_row w (p + 1) 1 _ 28 h.2.1, frozen_of_row w (p + 1) 2 _ 28 h.2.1⟩, ⟨(cell_of_blk h.2.2 0).trans rfl, (cell_of_blk h.2.2 1).trans rfl, (cell_of_blk h.2.2 2).trans rfl, frozen_of_row w (p + 2) 0 _ 28 h.2.2, frozen_of_row w (p + 2) 1 _ 28 h.2.2, frozen_of_row w (p + 2) 2 _ 28 h.2.2⟩⟩
theorem ZT3.put {w : World} {p : Nat} (h : ZT3 w p) (x y a1 a2 a3 b1 b2 b3 : Value) : ∀ W, W = ((((((((w.setCell ⟨p, 0, none⟩ x).setCell ⟨p, 1, none⟩ y).setCell ⟨p + 1, 0, none⟩ a1).setCell ⟨p + 1, 1, none⟩ a2).setCell ⟨p + 1, 2, none⟩ a3).setCell ⟨p + 2, 0, none⟩ b1).setCell ⟨p + 2, 1, none⟩ b2).setCell ⟨p + 2, 2, none⟩ b3) →
    W.heap[p]? = some (.cells #[x, y] 25 (0, 0)) ∧ W.heap[p + 1]? = some (.cells #[a1, a2, a3] 28 (0, 0)) ∧ W.heap[p + 2]? = some (.cells #[b1, b2, b3] 28 (0, 0)) ∧ Fr (fun b => b = p ∨ b = p + 1 ∨ b = p + 2) w W := by
  rintro W rfl
  have f1 : ∀ (w : World) (g i : Nat) (u : Value), Fr (fun b => b = g) w (w.setCell ⟨g, i, none⟩ u) := fun w g i u => Fr.set (P := fun b => b = g) w g i u rfl
  have fT : Fr (fun b => b = p) w ((w.setCell ⟨p, 0, none⟩ x).setCell ⟨p, 1, none⟩ y) := (f1 _ _ _ _).trans (f1 _ _ _ _)
  have hT : ((w.setCell ⟨p, 0, none⟩ x).setCell ⟨p, 1, none⟩ y).heap[p]? = some (.cells #[x, y] 25 (0, 0)) := heap_setCell_same _ _ 1 _ _ _ (heap_setCell_same _ _ 0 _ _ _ h.1)
  have hA0 := fT.block h.2.1 (by omega)
  have hB0 := fT.block h.2.2 (by omega)
  generalize (w.setCell ⟨p, 0, none⟩ x).setCell ⟨p, 1, none⟩ y = u1 at *
  have fA : Fr (fun b => b = p + 1) u1 (((u1.setCell ⟨p + 1, 0, none⟩ a1).setCell ⟨p + 1, 1, none⟩ a2).setCell ⟨p + 1, 2, none⟩ a3) := ((f1 _ _ _ _).trans (f1 _ _ _ _)).trans (f1 _ _ _ _)
  have hA : (((u1.setCell ⟨p + 1, 0, none⟩ a1).setCell ⟨p + 1, 1, none⟩ a2).setCell ⟨p + 1, 2, none⟩ a3).heap[p + 1]? = some (.cells #[a1, a2, a3] 28 (0, 0)) := heap_setCell_same _ _ 2 _ _ _ (heap_setCell_same _ _ 1 _ _ _ (heap_setCell_same _ _ 0 _ _ _ hA0))
  have hT2 := fA.block hT (by omega)
  have hB1 := fA.block hB0 (by omega)
  generalize ((u1.setCell ⟨p + 1, 0, none⟩ a1).setCell ⟨p + 1, 1, none⟩ a2).setCell ⟨p + 1, 2, none⟩ a3 = u2 at *
  have fB : Fr (fun b => b = p + 2) u2 (((u2.setCell ⟨p + 2, 0, none⟩ b1).setCell ⟨p + 2, 1, none⟩ b2).setCell ⟨p + 2, 2, none⟩ b3) := ((f1 _ _ _ _).trans (f1 _ _ _ _)).trans (f1 _ _ _ _)
  have hB : (((u2.setCell ⟨p + 2, 0, none⟩ b1).setCell ⟨p + 2, 1, none⟩ b2).setCell ⟨p + 2, 2, none⟩ b3).heap[p + 2]? = some (.cells #[b1, b2, b3] 28 (0, 0)) := heap_setCell_same _ _ 2 _ _ _ (heap_setCell_same _ _ 1 _ _ _ (heap_setCell_same _ _ 0 _ _ _ hB1))
  exact ⟨fB.block hT2 (by omega), fB.block hA (by omega), hB, ((fT.wide (fun b e => .inl e)).trans (fA.wide (fun b e => .inr (.inl e)))).trans (fB.wide (fun b e => .inr (.inr e)))⟩
set_option maxHeartbeats 4000000 in
theorem drawKM_any (n cap : Nat) (A : Option Addr) (w : World) (hn : n ≤ maxLen) (hc : n ≤ cap) (h : RBy w w.heap.size A n) : Calls Try.prog 7 #[.slice A n cap] w (GotKM w) := by
  have HC := Lib.hid hc
  have HNM := Lib.hid hn
  generalize hwx : ((w.alloc (.cells #[.int .i64 0, .int .i64 0] 25)).alloc (.cells #[.int .i64 0, .int .i64 0, .slice none 0 0] 28)).alloc (.cells #[.int .i64 0, .int .i64 0, .slice none 0 0] 28) = wx
  have hbx : Below w.heap.size w wx := by rw [← hwx]; exact (((Below.refl _ _).alloc (Nat.le_refl _) _).alloc (by simp) _).alloc (by simp <;> omega) _
  have HBY : Hid (RBy wx w.heap.size A n) := h.below hbx
  have HSX : Hid (wx.heap.size = w.heap.size + 3) := by unfold Hid; rw [← hwx]; simp
  have HZX : Hid (ZT3 wx w.heap.size) := by unfold Hid; rw [← hwx]; exact ZT3.new w
  have HBX := Lib.hid hbx
  have HWX := Lib.hid hwx
  clear hwx hbx h hc hn
  go_enter Try.func7, Try.ntmps7
  go_wp2_with fail
  rw [HWX.out]
  refine (open_any w.heap.size n cap A wx HNM.out HC.out HBY.out (by have := HSX.out; omega)).mono ?_
  rintro e w1 ⟨rfl, hR1, hb1⟩
  have hsx := HSX.out
  have hs1 := hb1.size
  have hr1l : wx.heap.size < w1.heap.size := hR1.lt
  have HB1 := Lib.hid hb1
  have HR1 := Lib.hid hR1
  have HZ1 : Hid (ZT3 w1 w.heap.size) := HZX.out.fr (Fr.below (P := fun _ => False) hb1) id id id
  clear hb1 hR1
  go_wp2_with fail
  rw [hsx] at HR1 hs1 hr1l
  clear hsx
  generalize hrb : w.heap.size + 3 = rb at HR1 hs1 hr1l ⊢
  have hsx : w.heap.size + 3 ≤ rb := by omega
  have HRB := Lib.hid hrb
  clear hrb
  refine (l2Typed_any rb w.heap.size 0 w1 HR1.out (by omega)).mono ?_
  rintro e w2 ⟨l, t, v, Aw, A5, cw, c5, rfl, h7, hod, htok, hinh, hfit, hcap, hov, hR2, hf2⟩
  obtain ⟨hw, hl0, _⟩ := h7.ok
  have HLI : Hid (Lies w2 w1.heap.size (.slice Aw l.length cw) l) := hod.lies (by have := hw.1; unfold maxLen; omega)
  have hwv : wV v ≤ 160 := by have := fit_w 4 hfit; omega
  have hs2 := hf2.size
  generalize hwb : (w2.alloc (.cells #[.int .i64 t.data, .int .i64 t.index] 25)).alloc (.cells #[.int .i64 v.ctor, .int .i64 v.n, .slice A5 v.kids.length c5] 28) = wb
  have hbb : Below w2.heap.size w2 wb := by rw [← hwb]; exact ((Below.refl _ _).alloc (Nat.le_refl _) _).alloc (by simp) _
  have HTB : Hid (wb.heap[w2.heap.size]? = some (.cells #[.int .i64 t.data, .int .i64 t.index] 25 (0, 0))) := by
    unfold Hid; rw [← hwb]; exact (Below.heap_alloc _ _ _ (by simp)).trans (heap_alloc_new w2 _)
  have HVB : Hid (wb.heap[w2.heap.size + 1]? = some (.cells #[.int .i64 v.ctor, .int .i64 v.n, .slice A5 v.kids.length c5] 28 (0, 0))) := by
    have h := heap_alloc_new (w2.alloc (.cells #[.int .i64 t.data, .int .i64 t.index] 25)) (.cells #[.int .i64 v.ctor, .int .i64 v.n, .slice A5 v.kids.length c5] 28)
    rw [World.size_alloc] at h
    unfold Hid; rw [← hwb]; exact h
  have hsb : w2.heap.size + 2 ≤ wb.heap.size := by rw [← hwb]; simp
  have HWB := Lib.hid hwb
  have HFB : Hid (Fr (fun b => b = rb) w1 wb) := hf2.trans (Fr.below hbb)
  have HZB : Hid (ZT3 wb w.heap.size) := HZ1.out.fr HFB.out (by omega) (by omega) (by omega)
  have HOB : Hid (OVc 4 wb (Nw w1 w2) A5 v.kids) := hov.fr _ (Fr.below (P := fun _ => False) hbb) (fun _ _ h => h)
  have HRB2 : Hid (RRd wb w.heap.size rb 45) := hR2.below hbb
  have HLB := Lib.hid (HLI.out.at_ (Stays.below hbb))
  clear hwb hbb hod hov hR2 hf2 h7 htok hinh hfit hw hl0
  go_wp2_with fail
  rw [HWB.out]
  refine (sm10_any 4 A5 c5 v (Nw w1 w2) w.heap.size rb 45 wb HOB.out (fun h => by have := h.1; omega) (fun b h => by have := h.2; omega) HRB2.out (by omega) (by omega)).mono ?_
  rintro e w3 ⟨a, Aa, ca, rfl, hwa, hca, hoa, hR3, hf3⟩
  have hs3 := hf3.size
  generalize hwc : w3.alloc (.cells #[.int .i64 a.ctor, .int .i64 a.n, .slice Aa a.kids.length ca] 28) = wc
  have hbc : Below w3.heap.size w3 wc := by rw [← hwc]; exact (Below.refl _ _).alloc (Nat.le_refl _) _
  have HAC : Hid (wc.heap[w3.heap.size]? = some (.cells #[.int .i64 a.ctor, .int .i64 a.n, .slice Aa a.kids.length ca] 28 (0, 0))) := by unfold Hid; rw [← hwc]; exact heap_alloc_new _ _
  have hsc : w3.heap.size < wc.heap.size := heap_lt HAC.out
  have HFC : Hid (Fr (fun b => b = rb) wb wc) := hf3.trans (Fr.below hbc)
  have HWC := Lib.hid hwc
  have HR3 : Hid (RRd wc w.heap.size rb (45 + (1 + wV v))) := hR3.below hbc
  have HOA : Hid (OVc 4 wc (Nw wb w3) Aa a.kids) := hoa.fr _ (Fr.below (P := fun _ => False) hbc) (fun _ _ h => h)
  have HCA := Lib.hid hca
  clear hwc hbc hoa hR3 hf3 hca
  go_wp2_with fail
  rw [HWC.out]
  refine (pick_any rb w.heap.size _ 3 wc HR3.out (by omega)).mono ?_
  rintro e w4 ⟨k, rfl, hk, hR4, hg4⟩
  have hf4 : Fr (fun b => b = rb) wc w4 := Fr.grown hg4 (fun b e => by injection e)
  have HFD : Hid (Fr (fun b => b = rb) wb w4) := HFC.out.trans hf4
  have hs4 := hf4.size
  have HTD : Hid (w4.heap[w2.heap.size]? = some (.cells #[.int .i64 t.data, .int .i64 t.index] 25 (0, 0))) := HFD.out.block HTB.out (by omega)
  have HVD : Hid (w4.heap[w2.heap.size + 1]? = some (.cells #[.int .i64 v.ctor, .int .i64 v.n, .slice A5 v.kids.length c5] 28 (0, 0))) := HFD.out.block HVB.out (by omega)
  have HAD : Hid (w4.heap[w3.heap.size]? = some (.cells #[.int .i64 a.ctor, .int .i64 a.n, .slice Aa a.kids.length ca] 28 (0, 0))) := hf4.block HAC.out (by omega)
  have HZD : Hid (ZT3 w4 w.heap.size) := HZB.out.fr HFD.out (by omega) (by omega) (by omega)
  have HOD : Hid (OVc 4 w4 (Nw w1 w2) A5 v.kids) := HOB.out.fr _ HFD.out (fun b h e => by have := h.1; omega)
  have HAO : Hid (OVc 4 w4 (Nw wb w3) Aa a.kids) := HOA.out.fr _ hf4 (fun b h e => by have := h.1; omega)
  have HR4 := Lib.hid hR4
  have HLD := Lib.hid (HLB.out.at_ (Stays.fr HFD.out (by omega)))
  have HFW : Hid (Fr (fun b => w.heap.size ≤ b) w w4) := ((Fr.below HBX.out).trans (Fr.below HB1.out)).trans ((HFB.out.trans HFD.out).wide (fun b e => by have e' : b = rb := e; show w.heap.size ≤ b; omega))
  have HKS : Hid (∀ w', Fr (fun b => b = rb ∨ b = w.heap.size ∨ b = w.heap.size + 1 ∨ b = w.heap.size + 2) w4 w' → w'.cell? ⟨w2.heap.size, 0, none⟩ = some (.int .i64 t.data) ∧ w'.cell? ⟨w2.heap.size, 1, none⟩ = some (.int .i64 t.index) ∧ w'.cell? ⟨w2.heap.size + 1, 0, none⟩ = some (.int .i64 v.ctor) ∧ w'.cell? ⟨w2.heap.size + 1, 1, none⟩ = some (.int .i64 v.n) ∧ w'.cell? ⟨w2.heap.size + 1, 2, none⟩ = some (.slice A5 v.kids.length c5) ∧ w'.cell? ⟨w3.heap.size, 0, none⟩ = some (.int .i64 a.ctor) ∧ w'.cell? ⟨w3.heap.size, 1, none⟩ = some (.int .i64 a.n) ∧ w'.cell? ⟨w3.heap.size, 2, none⟩ = some (.slice Aa a.kids.length ca)) := fun w' h => by
    have e1 := h.block HTD.out (by omega)
    have e2 := h.block HVD.out (by omega)
    have e3 := h.block HAD.out (by omega)
    exact ⟨(cell_of_blk e1 0).trans rfl, (cell_of_blk e1 1).trans rfl, (cell_of_blk e2 0).trans rfl, (cell_of_blk e2 1).trans rfl, (cell_of_blk e2 2).trans rfl, (cell_of_blk e3 0).trans rfl, (cell_of_blk e3 1).trans rfl, (cell_of_blk e3 2).trans rfl⟩
  have SA0 := HKS.out w4 (Fr.refl _ _)
  have SB0 : w4.drew.cell? ⟨w2.heap.size, 0, none⟩ = some (.int .i64 t.data) ∧ w4.drew.cell? ⟨w2.heap.size, 1, none⟩ = some (.int .i64 t.index) ∧ w4.drew.cell? ⟨w2.heap.size + 1, 0, none⟩ = some (.int .i64 v.ctor) ∧ w4.drew.cell? ⟨w2.heap.size + 1, 1, none⟩ = some (.int .i64 v.n) ∧ w4.drew.cell? ⟨w2.heap.size + 1, 2, none⟩ = some (.slice A5 v.kids.length c5) ∧ w4.drew.cell? ⟨w3.heap.size, 0, none⟩ = some (.int .i64 a.ctor) ∧ w4.drew.cell? ⟨w3.heap.size, 1, none⟩ = some (.int .i64 a.n) ∧ w4.drew.cell? ⟨w3.heap.size, 2, none⟩ = some (.slice Aa a.kids.length ca) := SA0
  clear hR4 hg4 hf4
  by_cases hk0 : k = 0
  · have q0 : ((k : Int) == 0) = true := ieq_t (by omega)
    clear hk hk0
    have HSM : Hid (Calls Try.prog 18 #[.pointer (some ⟨rb, 0, none⟩), .agg #[.int .i64 v.ctor, .int .i64 v.n, .slice A5 v.kids.length c5]] w4.drew (Sm10Q 4 v w.heap.size rb (45 + (1 + wV v) + 1) w4.drew)) := sm10_any 4 A5 c5 v (Nw w1 w2) w.heap.size rb (45 + (1 + wV v) + 1) w4.drew (HOD.out.fr _ (Fr.below (P := fun _ => False) ((Below.refl w4.heap.size w4).drew)) (fun _ _ h => h)) (fun h => by have := h.1; omega) (fun b h => by have := h.2; show b < w4.heap.size; omega) HR4.out.drew (by omega) (by omega)
    go_wp2_with fail
    go_region_held3 (fun w' => w'.cell? ⟨w2.heap.size, 0, none⟩ = some (.int .i64 t.data) ∧ w'.cell? ⟨w2.heap.size, 1, none⟩ = some (.int .i64 t.index) ∧ w'.cell? ⟨w2.heap.size + 1, 0, none⟩ = some (.int .i64 v.ctor) ∧ w'.cell? ⟨w2.heap.size + 1, 1, none⟩ = some (.int .i64 v.n) ∧ w'.cell? ⟨w2.heap.size + 1, 2, none⟩ = some (.slice A5 v.kids.length c5) ∧ w'.cell? ⟨w3.heap.size, 0, none⟩ = some (.int .i64 a.ctor) ∧ w'.cell? ⟨w3.heap.size, 1, none⟩ = some (.int .i64 a.n) ∧ w'.cell? ⟨w3.heap.size, 2, none⟩ = some (.slice Aa a.kids.length ca)) (first | with_reducible exact SQ | with_reducible exact SA0 | with_reducible exact SB0 | with_reducible exact SQ1 | with_reducible exact SQ2 | with_reducible exact SQ3 | go_keep) (first | (go_at_call 18; (with_reducible refine (HSM.out).mono ?_); rintro e w5 ⟨b, Ab, cb, rfl, hwb, hcb, hob, hR5, hf5'⟩; have hf5 : Fr (fun b => b = rb) w4 w5 := ⟨hf5'.1, hf5'.2.1, hf5'.2.2.1, hf5'.2.2.2.1, hf5'.2.2.2.2⟩; have HF5 := Lib.hid hf5; have HO5 : Hid (OVc 4 w5 (Nw w4 w5) Ab b.kids) := hob; have HCB := Lib.hid hcb; have h0 : Fr (fun b => b = rb ∨ b = w.heap.size ∨ b = w.heap.size + 1 ∨ b = w.heap.size + 2) w4 w5 := hf5.wide (fun b hb => .inl hb); have SQ := HKS.out _ h0; have h1 := (h0.trans (Fr.set _ w.heap.size 0 (.int .i64 t.data) (.inr (.inl rfl)))).trans (Fr.set _ w.heap.size 1 (.int .i64 t.index) (.inr (.inl rfl))); have SQ1 := HKS.out _ h1; have h2 := ((h1.trans (Fr.set _ (w.heap.size + 1) 0 (.int .i64 a.ctor) (.inr (.inr (.inl rfl))))).trans (Fr.set _ (w.heap.size + 1) 1 (.int .i64 a.n) (.inr (.inr (.inl rfl))))).trans (Fr.set _ (w.heap.size + 1) 2 (.slice Aa a.kids.length ca) (.inr (.inr (.inl rfl)))); have SQ2 := HKS.out _ h2; have h3 := ((h2.trans (Fr.set _ (w.heap.size + 2) 0 (.int .i64 b.ctor) (.inr (.inr (.inr rfl))))).trans (Fr.set _ (w.heap.size + 2) 1 (.int .i64 b.n) (.inr (.inr (.inr rfl))))).trans (Fr.set _ (w.heap.size + 2) 2 (.slice Ab b.kids.length cb) (.inr (.inr (.inr rfl)))); have SQ3 := HKS.out _ h3; clear h0 h1 h2 h3; have HZ5 : Hid (ZT3 w5 w.heap.size) := HZD.out.fr hf5 (by omega) (by omega) (by omega); have hs5 := hf5.size; obtain ⟨⟨u0, u1, u2, u3⟩, ⟨x0, x1, x2, x3, x4, x5⟩, ⟨z0, z1, z2, z3, z4, z5⟩⟩ := HZ5.out.cells; clear hf5 hf5' hob hcb hR5))
    all_goals
      obtain ⟨wf, hwf⟩ : ∃ wf, wf = ((((((((w5.setCell ⟨w.heap.size, 0, none⟩ (.int .i64 t.data)).setCell ⟨w.heap.size, 1, none⟩ (.int .i64 t.index)).setCell ⟨w.heap.size + 1, 0, none⟩ (.int .i64 a.ctor)).setCell ⟨w.heap.size + 1, 1, none⟩ (.int .i64 a.n)).setCell ⟨w.heap.size + 1, 2, none⟩ (.slice Aa a.kids.length ca)).setCell ⟨w.heap.size + 2, 0, none⟩ (.int .i64 b.ctor)).setCell ⟨w.heap.size + 2, 1, none⟩ (.int .i64 b.n)).setCell ⟨w.heap.size + 2, 2, none⟩ (.slice Ab b.kids.length cb)) := ⟨_, rfl⟩
      obtain ⟨p1, p2, p3, hfs⟩ := HZ5.out.put (.int .i64 t.data) (.int .i64 t.index) (.int .i64 a.ctor) (.int .i64 a.n) (.slice Aa a.kids.length ca) (.int .i64 b.ctor) (.int .i64 b.n) (.slice Ab b.kids.length cb) wf hwf
      rw [← hwf]
      clear hwf
      have hsf := hfs.size
      have HFIN : Hid (GotKM w (.returned (.tuple #[.slice Aw l.length cw, .agg #[.int .i64 t.data, .int .i64 t.index], .agg #[.int .i64 a.ctor, .int .i64 a.n, .slice Aa a.kids.length ca], .agg #[.int .i64 b.ctor, .int .i64 b.n, .slice Ab b.kids.length cb]])) wf) := by
        have hli := HLD.out.at_ ((Stays.fr HF5.out (by omega)).trans (⟨hfs.size, fun b hb hlt => hfs.2.2.2.2 b hlt (by omega)⟩ : Stays w1.heap.size w5 wf))
        obtain ⟨A', c', he, hrd⟩ := hli.form
        injection he with he1 he2 he3
        subst he1
        refine ⟨l, t, a, b, Aw, Aa, Ab, cw, ca, cb, _, _, rfl, hrd, HCA.out, HCB.out, (HAO.out.fr _ HF5.out (fun b h e => by have := h.1; omega)).fr _ hfs (fun b h e => by have := h.1; omega), HO5.out.fr _ hfs (fun b h e => by have := h.1; omega), fun b h => by have := h.2; omega, fun b h => by have := h.2; omega, by omega, by omega, ?_⟩
        exact ((HFW.out.trans (HF5.out.wide (fun b e => by have e' : b = rb := e; show w.heap.size ≤ b; omega))).trans (hfs.wide (fun b e => by show w.heap.size ≤ b; omega))).to (Nat.le_refl _) (fun b hb hc => by have hc' : w.heap.size ≤ b := hc; omega)
      have r0 := (cell_of_blk p1 0).trans rfl
      have r1 := (cell_of_blk p1 1).trans rfl
      have s0 := (cell_of_blk p2 0).trans rfl
      have s1 := (cell_of_blk p2 1).trans rfl
      have s2 := (cell_of_blk p2 2).trans rfl
      have t0 := (cell_of_blk p3 0).trans rfl
      have t1 := (cell_of_blk p3 1).trans rfl
      have t2 := (cell_of_blk p3 2).trans rfl
      clear p1 p2 p3 hfs
      go_wp2_with fail
      exact bodyPost_ret (v := .tuple #[.slice Aw l.length cw, .agg #[.int .i64 t.data, .int .i64 t.index], .agg #[.int .i64 a.ctor, .int .i64 a.n, .slice Aa a.kids.length ca], .agg #[.int .i64 b.ctor, .int .i64 b.n, .slice Ab b.kids.length cb]]) (by simp [results, Try.results7, go_sem, r0, r1, s0, s1, s2, t0, t1, t2]) rfl HFIN.out
  · have q0 : ((k : Int) == 0) = false := ieq_f (by omega)
    clear hk hk0
    have HSM : Hid (Calls Try.prog 18 #[.pointer (some ⟨rb, 0, none⟩), .agg #[.int .i64 a.ctor, .int .i64 a.n, .slice Aa a.kids.length ca]] w4.drew (Sm10Q 4 a w.heap.size rb (45 + (1 + wV v) + 1) w4.drew)) := sm10_any 4 Aa ca a (Nw wb w3) w.heap.size rb (45 + (1 + wV v) + 1) w4.drew (HAO.out.fr _ (Fr.below (P := fun _ => False) ((Below.refl w4.heap.size w4).drew)) (fun _ _ h => h)) (fun h => by have := h.1; omega) (fun b h => by have := h.2; show b < w4.heap.size; omega) HR4.out.drew (by omega) (by omega)
    go_wp2_with fail
    go_region_held3 (fun w' => w'.cell? ⟨w2.heap.size, 0, none⟩ = some (.int .i64 t.data) ∧ w'.cell? ⟨w2.heap.size, 1, none⟩ = some (.int .i64 t.index) ∧ w'.cell? ⟨w2.heap.size + 1, 0, none⟩ = some (.int .i64 v.ctor) ∧ w'.cell? ⟨w2.heap.size + 1, 1, none⟩ = some (.int .i64 v.n) ∧ w'.cell? ⟨w2.heap.size + 1, 2, none⟩ = some (.slice A5 v.kids.length c5) ∧ w'.cell? ⟨w3.heap.size, 0, none⟩ = some (.int .i64 a.ctor) ∧ w'.cell? ⟨w3.heap.size, 1, none⟩ = some (.int .i64 a.n) ∧ w'.cell? ⟨w3.heap.size, 2, none⟩ = some (.slice Aa a.kids.length ca)) (first | with_reducible exact SQ | with_reducible exact SA0 | with_reducible exact SB0 | with_reducible exact SQ1 | with_reducible exact SQ2 | with_reducible exact SQ3 | go_keep) (first | (go_at_call 18; (with_reducible refine (HSM.out).mono ?_); rintro e w5 ⟨b, Ab, cb, rfl, hwb, hcb, hob, hR5, hf5'⟩; have hf5 : Fr (fun b => b = rb) w4 w5 := ⟨hf5'.1, hf5'.2.1, hf5'.2.2.1, hf5'.2.2.2.1, hf5'.2.2.2.2⟩; have HF5 := Lib.hid hf5; have HO5 : Hid (OVc 4 w5 (Nw w4 w5) Ab b.kids) := hob; have HCB := Lib.hid hcb; have h0 : Fr (fun b => b = rb ∨ b = w.heap.size ∨ b = w.heap.size + 1 ∨ b = w.heap.size + 2) w4 w5 := hf5.wide (fun b hb => .inl hb); have SQ := HKS.out _ h0; have h1 := (h0.trans (Fr.set _ w.heap.size 0 (.int .i64 t.data) (.inr (.inl rfl)))).trans (Fr.set _ w.heap.size 1 (.int .i64 t.index) (.inr (.inl rfl))); have SQ1 := HKS.out _ h1; have h2 := ((h1.trans (Fr.set _ (w.heap.size + 1) 0 (.int .i64 a.ctor) (.inr (.inr (.inl rfl))))).trans (Fr.set _ (w.heap.size + 1) 1 (.int .i64 a.n) (.inr (.inr (.inl rfl))))).trans (Fr.set _ (w.heap.size + 1) 2 (.slice Aa a.kids.length ca) (.inr (.inr (.inl rfl)))); have SQ2 := HKS.out _ h2; have h3 := ((h2.trans (Fr.set _ (w.heap.size + 2) 0 (.int .i64 b.ctor) (.inr (.inr (.inr rfl))))).trans (Fr.set _ (w.heap.size + 2) 1 (.int .i64 b.n) (.inr (.inr (.inr rfl))))).trans (Fr.set _ (w.heap.size + 2) 2 (.slice Ab b.kids.length cb) (.inr (.inr (.inr rfl)))); have SQ3 := HKS.out _ h3; clear h0 h1 h2 h3; have HZ5 : Hid (ZT3 w5 w.heap.size) := HZD.out.fr hf5 (by omega) (by omega) (by omega); have hs5 := hf5.size; obtain ⟨⟨u0, u1, u2, u3⟩, ⟨x0, x1, x2, x3, x4, x5⟩, ⟨z0, z1, z2, z3, z4, z5⟩⟩ := HZ5.out.cells; clear hf5 hf5' hob hcb hR5))
    all_goals
      obtain ⟨wf, hwf⟩ : ∃ wf, wf = ((((((((w5.setCell ⟨w.heap.size, 0, none⟩ (.int .i64 t.data)).setCell ⟨w.heap.size, 1, none⟩ (.int .i64 t.index)).setCell ⟨w.heap.size + 1, 0, none⟩ (.int .i64 a.ctor)).setCell ⟨w.heap.size + 1, 1, none⟩ (.int .i64 a.n)).setCell ⟨w.heap.size + 1, 2, none⟩ (.slice Aa a.kids.length ca)).setCell ⟨w.heap.size + 2, 0, none⟩ (.int .i64 b.ctor)).setCell ⟨w.heap.size + 2, 1, none⟩ (.int .i64 b.n)).setCell ⟨w.heap.size + 2, 2, none⟩ (.slice Ab b.kids.length cb)) := ⟨_, rfl⟩
      obtain ⟨p1, p2, p3, hfs⟩ := HZ5.out.put (.int .i64 t.data) (.int .i64 t.index) (.int .i64 a.ctor) (.int .i64 a.n) (.slice Aa a.kids.length ca) (.int .i64 b.ctor) (.int .i64 b.n) (.slice Ab b.kids.length cb) wf hwf
      rw [← hwf]
      clear hwf
      have hsf := hfs.size
      have HFIN : Hid (GotKM w (.returned (.tuple #[.slice Aw l.length cw, .agg #[.int .i64 t.data, .int .i64 t.index], .agg #[.int .i64 a.ctor, .int .i64 a.n, .slice Aa a.kids.length ca], .agg #[.int .i64 b.ctor, .int .i64 b.n, .slice Ab b.kids.length cb]])) wf) := by
        have hli := HLD.out.at_ ((Stays.fr HF5.out (by omega)).trans (⟨hfs.size, fun b hb hlt => hfs.2.2.2.2 b hlt (by omega)⟩ : Stays w1.heap.size w5 wf))
        obtain ⟨A', c', he, hrd⟩ := hli.form
        injection he with he1 he2 he3
        subst he1
        refine ⟨l, t, a, b, Aw, Aa, Ab, cw, ca, cb, _, _, rfl, hrd, HCA.out, HCB.out, (HAO.out.fr _ HF5.out (fun b h e => by have := h.1; omega)).fr _ hfs (fun b h e => by have := h.1; omega), HO5.out.fr _ hfs (fun b h e => by have := h.1; omega), fun b h => by have := h.2; omega, fun b h => by have := h.2; omega, by omega, by omega, ?_⟩
        exact ((HFW.out.trans (HF5.out.wide (fun b e => by have e' : b = rb := e; show w.heap.size ≤ b; omega))).trans (hfs.wide (fun b e => by show w.heap.size ≤ b; omega))).to (Nat.le_refl _) (fun b hb hc => by have hc' : w.heap.size ≤ b := hc; omega)
      have r0 := (cell_of_blk p1 0).trans rfl
      have r1 := (cell_of_blk p1 1).trans rfl
      have s0 := (cell_of_blk p2 0).trans rfl
      have s1 := (cell_of_blk p2 1).trans rfl
      have s2 := (cell_of_blk p2 2).trans rfl
      have t0 := (cell_of_blk p3 0).trans rfl
      have t1 := (cell_of_blk p3 1).trans rfl
      have t2 := (cell_of_blk p3 2).trans rfl
      clear p1 p2 p3 hfs
      go_wp2_with fail
      exact bodyPost_ret (v := .tuple #[.slice Aw l.length cw, .agg #[.int .i64 t.data, .int .i64 t.index], .agg #[.int .i64 a.ctor, .int .i64 a.n, .slice Aa a.kids.length ca], .agg #[.int .i64 b.ctor, .int .i64 b.n, .slice Ab b.kids.length cb]]) (by simp [results, Try.results7, go_sem, r0, r1, s0, s1, s2, t0, t1, t2]) rfl HFIN.out
end Go.Proofs.Ytakhobhmplneeaa
