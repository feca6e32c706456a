/-
  MaskValue of the program and of the document. No statement is proved here.
-/
import Derived.Test.YtnfjjabeobcenaaU09
import Derived.Test.YtnfjjabeobcenaaU14
import Derived.Test.YtnfjjabeobcenaaU04
import Derived.Test.YtnfjjabeobcenaaU05
import Derived.Test.YtnfjjabeobcenaaU07
import Derived.Test.YtnfjjabeobcenaaU00
namespace Go.Proofs.Ytnfjjabeobcenaa
open Go.RowKit Go.Sort Go.Deep
set_option maxRecDepth 100000
set_option linter.unusedVariables false
theorem below_box3m {w w' : World} {o o' o'' : Obj} (h : ((w.alloc o).alloc o').alloc o'' = w') : Below w.heap.size w w' := by
  rw [← h]; exact (((Below.refl _ _).alloc (Nat.le_refl _) _).alloc (by simp) _).alloc (by simp <;> omega) _
noncomputable def mvR (e : Nat) (l : List Da) (t : Ty) (v : Vl) (qs : List (List Int)) : Vl := if paT l t v then msV (e + 1) qs [] v else .mk 0 0 []
theorem mvR_w (e : Nat) (l : List Da) (t : Ty) (v : Vl) (qs : List (List Int)) : wV (mvR e l t v qs) ≤ wV v := by
  unfold mvR
  split
  · exact ms_w _ _ _ _
  · rw [wV, wVs]; omega
def MvT (e : Nat) (l : List Da) (t : Ty) (v : Vl) (qs : List (List Int)) (w : World) (e' : Ending) (w' : World) : Prop := ∃ B c, e' = .returned (.tuple #[.agg #[.int .i64 (mvR e l t v qs).ctor, .int .i64 (mvR e l t v qs).n, .slice B (mvR e l t v qs).kids.length c], .bool (paT l t v)]) ∧ OVs (e + 1) w' (Nw w w') B (mvR e l t v qs).kids ∧ Below w.heap.size w w'
theorem MvT.no {e : Nat} {l : List Da} {t : Ty} {v : Vl} {qs : List (List Int)} {w w' : World} (h : paT l t v = false) (hb : Below w.heap.size w w') : MvT e l t v qs w (.returned (.tuple #[.agg #[.int .i64 0, .int .i64 0, .slice none 0 0], .bool false])) w' := by
  have h2 : mvR e l t v qs = .mk 0 0 [] := by unfold mvR; rw [h]; rfl
  unfold MvT; rw [h, h2]; exact ⟨none, 0, rfl, OVs.nil _ _ _ _, hb⟩
theorem MvT.yes {e : Nat} {l : List Da} {t : Ty} {v u : Vl} {qs : List (List Int)} {w w' : World} {B : Option Addr} {c : Nat} (h : paT l t v = true) (hu : msV (e + 1) qs [] v = u) (hb : Below w.heap.size w w') (ho : OVs (e + 1) w' (Nw w w') B u.kids) : MvT e l t v qs w (.returned (.tuple #[.agg #[.int .i64 u.ctor, .int .i64 u.n, .slice B u.kids.length c], .bool true])) w' := by
  have h2 : mvR e l t v qs = u := by unfold mvR; rw [h]; exact hu
  unfold MvT; rw [h, h2]; exact ⟨B, c, rfl, ho, hb⟩
set_option maxHeartbeats 1600000 in
theorem mv_spec (A D Z : Option Addr) (l : List Da) (cap ep cz e : Nat) (t : Ty) (v : Vl) (qs : List (List Int)) (w : World) (hr : RDas w w.heap.size A l) (hv : RVs e w w.heap.size D v.kids) (hq : RIss w w.heap.size Z qs) (hn : wV v ≤ 1048576) :
    Calls Try.prog 21 #[.slice A l.length cap, .agg #[.int .i64 t.data, .int .i64 t.index], .agg #[.int .i64 v.ctor, .int .i64 v.n, .slice D v.kids.length ep], .slice Z qs.length cz] w (MvT e l t v qs w) := by
  have Hr := Lib.hid hr
  have HV := Lib.hid hv
  have HQ := Lib.hid hq
  clear hr hv hq
  generalize hwx : ((w.alloc (.cells #[.int .i64 t.data, .int .i64 t.index] 33)).alloc (.cells #[.int .i64 v.ctor, .int .i64 v.n, .slice D v.kids.length ep] 37)).alloc (.cells #[.int .i64 0, .int .i64 0, .slice none 0 0] 37) = wx
  have hbx : Below w.heap.size w wx := below_box3m hwx
  have hsx1 : w.heap.size + 3 ≤ wx.heap.size := by rw [← hwx]; simp
  have HXT : Hid (Bx wx w.heap.size t) := by rw [← hwx]; exact ⟨by simp [go_sem], by simp [go_sem]⟩
  have HXP : Hid (VBx wx (w.heap.size + 1) v.ctor v.n (.slice D v.kids.length ep)) := by rw [← hwx]; exact ⟨by simp [go_sem], by simp [go_sem], by simp [go_sem]⟩
  have HXR : Hid (ZbV wx (w.heap.size + 2)) := by
    have h := ZbV.new ((w.alloc (.cells #[.int .i64 t.data, .int .i64 t.index] 33)).alloc (.cells #[.int .i64 v.ctor, .int .i64 v.n, .slice D v.kids.length ep] 37))
    simp only [World.size_alloc] at h
    unfold Hid; rw [← hwx]; exact h
  have HW := Lib.hid hwx
  clear hwx
  cases hpa : paT l t v
  · have HPA := Lib.hid hpa
    clear hpa
    go_enter Try.func21, Try.ntmps21
    go_wp2_with (go_at_call 16; rw [HW.out]; refine (pa_spec A D l cap ep e t v _ (Hr.out.at_ hbx) (HV.out.at_ hbx) (by omega)).mono ?_; rw [HPA.out]; rintro e1 w1 ⟨rfl, hb1⟩; have hb1w := below_aft hbx hb1 hbx.size; have hr6 : w1.heap[w.heap.size + 2]? = some (.cells #[.int .i64 0, .int .i64 0, .slice none 0 0] 37 (0, 0)) := HXR.out.at_ hb1; have r0 := (cell_of_blk hr6 0).trans rfl; have r1 := (cell_of_blk hr6 1).trans rfl; have r2 := (cell_of_blk hr6 2).trans rfl; have f0 := frozen_of_row w1 (w.heap.size + 2) 0 _ 37 hr6; have f1 := frozen_of_row w1 (w.heap.size + 2) 1 _ 37 hr6; have f2 := frozen_of_row w1 (w.heap.size + 2) 2 _ 37 hr6; clear hr6)
    refine bodyPost_ret (v := .tuple #[.agg #[.int .i64 0, .int .i64 0, .slice none 0 0], .bool false]) (by simp [results, Try.results21, go_sem, r0, r1, r2]) rfl (MvT.no HPA.out ?_)
    refine Below.setCell (Below.setCell (Below.setCell hb1w ?_ _) ?_ _) ?_ _ <;> (simp <;> omega)
  · have HPA := Lib.hid hpa
    clear hpa
    have HMS : Hid (∀ (w1 : World), Below w.heap.size w w1 → Calls Try.prog 44 #[.agg #[.int .i64 v.ctor, .int .i64 v.n, .slice D v.kids.length ep], .slice Z qs.length cz, .slice none 0 0] w1 (MkQ e (msV (e + 1) qs [] v) w1)) := fun w1 h => msS_any e D Z none ep cz 0 v qs [] w1 (HV.out.at_ h) (HQ.out.at_ h) RIs.nil hn (by simp; omega)
    have HU : Hid (∃ u, msV (e + 1) qs [] v = u) := ⟨_, rfl⟩
    obtain ⟨u, hu⟩ := HU.out
    rw [hu] at HMS
    have HUU := Lib.hid hu
    clear hu HU
    go_enter Try.func21, Try.ntmps21
    go_wp2_with (first | (go_at_call 44; refine (HMS.out w1 hb1w).mono ?_; rintro e2 w2 ⟨B, c, rfl, ho, hb2⟩; have HO := Lib.hid ho; have hb2w := below_aft hb1w hb2 hb1w.size; have hs2 := hb2.size; clear ho y0 y1 y2; have hr6 : w2.heap[w.heap.size + 2]? = some (.cells #[.int .i64 0, .int .i64 0, .slice none 0 0] 37 (0, 0)) := ZbV.at_ (HXR.out.at_ hb1) hb2; have r0 := (cell_of_blk hr6 0).trans rfl; have r1 := (cell_of_blk hr6 1).trans rfl; have r2 := (cell_of_blk hr6 2).trans rfl; have f0 := frozen_of_row w2 (w.heap.size + 2) 0 _ 37 hr6; have f1 := frozen_of_row w2 (w.heap.size + 2) 1 _ 37 hr6; have f2 := frozen_of_row w2 (w.heap.size + 2) 2 _ 37 hr6; clear hr6) | (go_at_call 16; rw [HW.out]; refine (pa_spec A D l cap ep e t v _ (Hr.out.at_ hbx) (HV.out.at_ hbx) (by omega)).mono ?_; rw [HPA.out]; rintro e1 w1 ⟨rfl, hb1⟩; have hb1w := below_aft hbx hb1 hbx.size; have hs1 := hb1.size; obtain ⟨y0, y1, y2⟩ := HXP.out.at_ hb1))
    refine bodyPost_ret (v := .tuple #[.agg #[.int .i64 u.ctor, .int .i64 u.n, .slice B u.kids.length c], .bool true]) (by simp [results, Try.results21, go_sem, r0, r1, r2]) rfl (MvT.yes HPA.out HUU.out ?_ ?_)
    · refine Below.setCell (Below.setCell (Below.setCell hb2w ?_ _) ?_ _) ?_ _ <;> (simp <;> omega)
    · exact (HO.out.fr _ (((Fr.set (P := fun b => b = w.heap.size + 2) _ _ _ _ rfl).trans (Fr.set _ _ _ _ rfl)).trans (Fr.set _ _ _ _ rfl)) (fun b hq e => by have := hq.1; omega)).wide _ (fun b hq => ⟨by have := hq.1; omega, by have h2 := hq.2; simpa [World.setCell] using h2⟩)
set_option maxHeartbeats 1600000 in
theorem mv_impl (A D Z : Option Addr) (l : List Da) (cap ep cz e : Nat) (t : Ty) (v : Vl) (qs : List (List Int)) (w : World) (hr : RDas w w.heap.size A l) (hv : RVs e w w.heap.size D v.kids) (hq : RIss w w.heap.size Z qs) (hn : wV v ≤ 1048576) :
    Calls Try.prog 23 #[.slice A l.length cap, .agg #[.int .i64 t.data, .int .i64 t.index], .agg #[.int .i64 v.ctor, .int .i64 v.n, .slice D v.kids.length ep], .slice Z qs.length cz] w (MvT e l t v qs w) := by
  have Hr := Lib.hid hr
  have HV := Lib.hid hv
  have HQ := Lib.hid hq
  clear hr hv hq
  generalize hwx : ((w.alloc (.cells #[.int .i64 t.data, .int .i64 t.index] 33)).alloc (.cells #[.int .i64 v.ctor, .int .i64 v.n, .slice D v.kids.length ep] 37)).alloc (.cells #[.int .i64 0, .int .i64 0, .slice none 0 0] 37) = wx
  have hbx : Below w.heap.size w wx := below_box3m hwx
  have hsx1 : w.heap.size + 3 ≤ wx.heap.size := by rw [← hwx]; simp
  have HXT : Hid (Bx wx w.heap.size t) := by rw [← hwx]; exact ⟨by simp [go_sem], by simp [go_sem]⟩
  have HXP : Hid (VBx wx (w.heap.size + 1) v.ctor v.n (.slice D v.kids.length ep)) := by rw [← hwx]; exact ⟨by simp [go_sem], by simp [go_sem], by simp [go_sem]⟩
  have HXR : Hid (ZbV wx (w.heap.size + 2)) := by
    have h := ZbV.new ((w.alloc (.cells #[.int .i64 t.data, .int .i64 t.index] 33)).alloc (.cells #[.int .i64 v.ctor, .int .i64 v.n, .slice D v.kids.length ep] 37))
    simp only [World.size_alloc] at h
    unfold Hid; rw [← hwx]; exact h
  have HW := Lib.hid hwx
  clear hwx
  cases hpa : paT l t v
  · have HPA := Lib.hid hpa
    clear hpa
    go_enter Try.func23, Try.ntmps23
    go_wp2_with (go_at_call 17; rw [HW.out]; refine (pa_impl A D l cap ep e t v _ (Hr.out.at_ hbx) (HV.out.at_ hbx) (by omega)).mono ?_; rw [HPA.out]; rintro e1 w1 ⟨rfl, hb1⟩; have hb1w := below_aft hbx hb1 hbx.size; have hr6 : w1.heap[w.heap.size + 2]? = some (.cells #[.int .i64 0, .int .i64 0, .slice none 0 0] 37 (0, 0)) := HXR.out.at_ hb1; have r0 := (cell_of_blk hr6 0).trans rfl; have r1 := (cell_of_blk hr6 1).trans rfl; have r2 := (cell_of_blk hr6 2).trans rfl; have f0 := frozen_of_row w1 (w.heap.size + 2) 0 _ 37 hr6; have f1 := frozen_of_row w1 (w.heap.size + 2) 1 _ 37 hr6; have f2 := frozen_of_row w1 (w.heap.size + 2) 2 _ 37 hr6; clear hr6)
    refine bodyPost_ret (v := .tuple #[.agg #[.int .i64 0, .int .i64 0, .slice none 0 0], .bool false]) (by simp [results, Try.results23, go_sem, r0, r1, r2]) rfl (MvT.no HPA.out ?_)
    refine Below.setCell (Below.setCell (Below.setCell hb1w ?_ _) ?_ _) ?_ _ <;> (simp <;> omega)
  · have HPA := Lib.hid hpa
    clear hpa
    have HMS : Hid (∀ (w1 : World), Below w.heap.size w w1 → Calls Try.prog 46 #[.agg #[.int .i64 v.ctor, .int .i64 v.n, .slice D v.kids.length ep], .slice none 0 0, .slice Z qs.length cz] w1 (MkQ e (msV (e + 1) qs [] v) w1)) := fun w1 h => miS_any e D Z none ep cz 0 v qs [] w1 (HV.out.at_ h) (HQ.out.at_ h) RIs.nil hn (by simp; omega)
    have HU : Hid (∃ u, msV (e + 1) qs [] v = u) := ⟨_, rfl⟩
    obtain ⟨u, hu⟩ := HU.out
    rw [hu] at HMS
    have HUU := Lib.hid hu
    clear hu HU
    go_enter Try.func23, Try.ntmps23
    go_wp2_with (first | (go_at_call 46; refine (HMS.out w1 hb1w).mono ?_; rintro e2 w2 ⟨B, c, rfl, ho, hb2⟩; have HO := Lib.hid ho; have hb2w := below_aft hb1w hb2 hb1w.size; have hs2 := hb2.size; clear ho y0 y1 y2; have hr6 : w2.heap[w.heap.size + 2]? = some (.cells #[.int .i64 0, .int .i64 0, .slice none 0 0] 37 (0, 0)) := ZbV.at_ (HXR.out.at_ hb1) hb2; have r0 := (cell_of_blk hr6 0).trans rfl; have r1 := (cell_of_blk hr6 1).trans rfl; have r2 := (cell_of_blk hr6 2).trans rfl; have f0 := frozen_of_row w2 (w.heap.size + 2) 0 _ 37 hr6; have f1 := frozen_of_row w2 (w.heap.size + 2) 1 _ 37 hr6; have f2 := frozen_of_row w2 (w.heap.size + 2) 2 _ 37 hr6; clear hr6) | (go_at_call 17; rw [HW.out]; refine (pa_impl A D l cap ep e t v _ (Hr.out.at_ hbx) (HV.out.at_ hbx) (by omega)).mono ?_; rw [HPA.out]; rintro e1 w1 ⟨rfl, hb1⟩; have hb1w := below_aft hbx hb1 hbx.size; have hs1 := hb1.size; obtain ⟨y0, y1, y2⟩ := HXP.out.at_ hb1))
    refine bodyPost_ret (v := .tuple #[.agg #[.int .i64 u.ctor, .int .i64 u.n, .slice B u.kids.length c], .bool true]) (by simp [results, Try.results23, go_sem, r0, r1, r2]) rfl (MvT.yes HPA.out HUU.out ?_ ?_)
    · refine Below.setCell (Below.setCell (Below.setCell hb2w ?_ _) ?_ _) ?_ _ <;> (simp <;> omega)
    · exact (HO.out.fr _ (((Fr.set (P := fun b => b = w.heap.size + 2) _ _ _ _ rfl).trans (Fr.set _ _ _ _ rfl)).trans (Fr.set _ _ _ _ rfl)) (fun b hq e => by have := hq.1; omega)).wide _ (fun b hq => ⟨by have := hq.1; omega, by have h2 := hq.2; simpa [World.setCell] using h2⟩)
end Go.Proofs.Ytnfjjabeobcenaa
/-
  The function FnExactCtorsOf returns true for every list of data types and every type, and both read behind the call as they read before. No condition.
-/
namespace Go.Proofs.Ytnfjjabeobcenaa
open Go.RowKit Go.Deep
open Go.ChangeShapes Go.WideShapes Go.ChangeAt
set_option maxRecDepth 100000
set_option linter.unusedVariables false
theorem sum_ge {α : Type} (f : α → Nat) (l : List α) (i : Nat) (h : i < l.length) : f l[i] ≤ (l.map f).sum := by
  have h1 := sum_take_succ f l i h
  have h2 := sum_take_le f l (i + 1)
  omega
theorem mC_le (cs : List Ct) : (cs.map mC).sum ≤ 2 * wCts cs := by
  unfold wCts
  induction cs with
  | nil => simp
  | cons c cs ih =>
    simp only [List.map_cons, List.sum_cons, List.length_cons]
    have : mC c ≤ 2 + 2 * wCt c := by unfold mC wCt; omega
    omega
theorem mD_le (l : List Da) : (l.map mD).sum ≤ 2 * wDas l := by
  unfold wDas
  induction l with
  | nil => simp
  | cons d l ih =>
    simp only [List.map_cons, List.sum_cons, List.length_cons]
    have h1 := mC_le d.ctors
    have : mD d ≤ 1 + 2 * wDa d := by unfold mD wDa; omega
    omega
theorem lens_le {l : List Da} {N : Nat} (h : wDas l ≤ N) : l.length ≤ N ∧ ∀ i (h : i < l.length), l[i].ctors.length ≤ N ∧ ∀ m (h' : m < l[i].ctors.length), l[i].ctors[m].args.length ≤ N := by
  unfold wDas at h
  refine ⟨by omega, fun i hi => ?_⟩
  have h1 := sum_ge wDa l i hi
  have h2 : wDa l[i] = l[i].name.size + wCts l[i].ctors := rfl
  have h3 : wCts l[i].ctors = l[i].ctors.length + (l[i].ctors.map wCt).sum := rfl
  refine ⟨by omega, fun m hm => ?_⟩
  have h4 := sum_ge wCt l[i].ctors m hm
  have h5 : wCt l[i].ctors[m] = l[i].ctors[m].name.size + l[i].ctors[m].args.length := rfl
  omega
/-- Integers stay where nothing of theirs is written. -/
theorem RInts.kept {w w' : World} {A : Option Addr} {l : List Int} (h : RInts w A l) (hk : ∀ g o, A = some ⟨g, o, none⟩ → w'.heap[g]? = w.heap[g]?) : RInts w' A l :=
  ⟨h.1, fun k hkl => by
    obtain ⟨b, off, e, hbl, h1⟩ := h.2 k hkl
    have h2 := (World.cell?_of_block (w := w) (w' := w') (a := ⟨b, off + k, none⟩) (hk b off e)).trans h1
    exact ⟨b, off, e, Go.block_lt_of_cell h2, h2⟩⟩
theorem RInts.nil (w : World) (A : Option Addr) : RInts w A [] := ⟨by simp, fun k hk => absurd hk (by simp)⟩
end Go.Proofs.Ytnfjjabeobcenaa
/-
  The functions that count how much values hold. No statement is proved here.
-/
namespace Go.Proofs.Ytnfjjabeobcenaa
open Go.RowKit
set_option maxRecDepth 100000
set_option linter.unusedVariables false
def SzS (d : Nat) : Prop := ∀ (A : Option Addr) (l : List Vl) (cap : Nat) (q : Int) (w : World), RVs d w w.heap.size A l → 0 ≤ q → q ≤ 1048576 →
  Calls Try.prog 30 #[.slice A l.length cap, .int .i64 q] w fun e w' => e = .returned (.int .i64 (left q (wVs l))) ∧ Below w.heap.size w w'
theorem szV_of {d : Nat} (ih : SzS d) (A : Option Addr) (l : List Vl) (cap : Nat) (c n q : Int) (w : World) (hr : RVs d w w.heap.size A l) (h0 : 0 ≤ q) (h1 : q ≤ 1048576) :
    Calls Try.prog 8 #[.agg #[.int .i64 c, .int .i64 n, .slice A l.length cap], .int .i64 q] w fun e w' => e = .returned (.int .i64 (left q (wVs l))) ∧ Below w.heap.size w w' := by
  have Hr := Lib.hid hr
  have IH := Lib.hid ih
  clear hr ih
  by_cases hc2 : (wVs l : Int) ≤ q
  · have H2 := Lib.hid (left_ok hc2)
    go_enter Try.func8, Try.ntmps8
    go_wp2_with (go_at_call 30; refine (IH.out _ _ _ _ _ (by exact Hr.out.keep (fun p hp => World.cell?_alloc_lt _ _ _ hp) (by simp)) h0 h1).mono ?_; rw [H2.out]; rintro e w' ⟨rfl, hb⟩)
    go_ret
    exact ⟨ret_i64 (by rw [H2.out]), ((Below.refl _ _).alloc (Nat.le_refl _) _).trans (hb.mono (by simp))⟩
  · have H2 := Lib.hid (left_no hc2)
    go_enter Try.func8, Try.ntmps8
    go_wp2_with (go_at_call 30; refine (IH.out _ _ _ _ _ (by exact Hr.out.keep (fun p hp => World.cell?_alloc_lt _ _ _ hp) (by simp)) h0 h1).mono ?_; rw [H2.out]; rintro e w' ⟨rfl, hb⟩)
    go_ret
    exact ⟨ret_i64 (by rw [H2.out]), ((Below.refl _ _).alloc (Nat.le_refl _) _).trans (hb.mono (by simp))⟩
set_option maxHeartbeats 400000 in
theorem szS_of (d : Nat) (ih : ∀ d', d = d' + 1 → SzS d') : SzS d := by
  intro A l cap q0 w hr h0 h1
  have hn := hr.1
  unfold maxLen at hn
  have Hr := Lib.hid hr
  have IH := Lib.hid ih
  have HSum := Lib.hid (wVs_sum l)
  clear hr ih
  by_cases hc : (l.length : Int) ≤ q0
  · go_enter Try.func30, Try.ntmps30
    go_wp2_with fail
    go_loopw [1, 5] (fun t i wr => ∃ k : Nat, k ≤ l.length ∧ i = .int .i64 k ∧ ∃ q : Int, 0 ≤ q ∧ q ≤ 1048576 ∧ t = .int .i64 q ∧ Hid (q = q0 - (l.length + ((l.take k).map wV).sum : Nat)) ∧ Below w.heap.size w wr) (fun _ i _ => l.length - (intOf i).toNat)
    case atStart => exact ⟨0, by omega, rfl, _, by omega, by omega, rfl, by unfold Hid; simp, Below.refl _ _⟩
    case round =>
      obtain ⟨k, hk, rfl, q, hq0, hq1, rfl, HQ, hb⟩ := hrel
      by_cases hlt : k < l.length
      · obtain ⟨b, off, rfl, hbB, hv⟩ := (Hr.out.below hb (Nat.le_refl _)).2 k hlt
        obtain ⟨d', hd, A', cp, c0, c1, c2, hm⟩ := hv.parts
        have HS := Lib.hid (sum_take_succ wV l k hlt)
        have HL := Lib.hid (sum_take_le wV l (k + 1))
        have HW := Lib.hid (wV_kids l[k])
        have Hm := Lib.hid (hm.keep (fun _ _ => rfl) hb.size)
        have IHd := Lib.hid (IH.out d' hd)
        clear hm hv hd
        by_cases hc2 : (wVs l[k].kids : Int) ≤ q
        · have H2 := Lib.hid (left_ok hc2)
          go_wp2_with (go_at_call 8; refine (szV_of IHd.out _ _ _ _ _ _ _ Hm.out (by omega) (by omega)).mono ?_; rw [H2.out]; rintro e w' ⟨rfl, hb'⟩)
          have hb2 := hb.trans (hb'.mono hb.size)
          go_roundw
          case rel => exact ⟨k + 1, by omega, by go_num, _, by omega, by omega, rfl, by unfold Hid; rw [HS.out, HW.out, HQ.out]; omega, hb2⟩
          case measure => simp [intOf]; omega
        · have H2 := Lib.hid (left_no hc2)
          have H := Lib.hid (left_no (l := q0) (n := wVs l) (by rw [HSum.out]; rw [HQ.out] at hc2; rw [HS.out, HW.out] at HL; have := HL.out; omega))
          go_wp2_with (go_at_call 8; refine (szV_of IHd.out _ _ _ _ _ _ _ Hm.out (by omega) (by omega)).mono ?_; rw [H2.out]; rintro e w' ⟨rfl, hb'⟩)
          have hb2 := hb.trans (hb'.mono hb.size)
          go_ret
          exact ⟨ret_i64 (by rw [H.out]), hb2⟩
      · go_wp2_with fail
        go_ret
        refine ⟨ret_i64 ?_, hb⟩
        have h2 := HQ.out
        rw [List.take_of_length_le (by omega), ← HSum.out] at h2
        rw [left_ok (by omega)]
        exact h2
  · have H := Lib.hid (left_no (l := q0) (n := wVs l) (by rw [HSum.out]; omega))
    go_enter Try.func30, Try.ntmps30
    go_wp2_with fail
    go_ret
    exact ⟨ret_i64 (by rw [H.out]), Below.refl _ _⟩
theorem szS_any : ∀ d, SzS d
  | 0 => szS_of 0 (fun _ h => by omega)
  | d + 1 => szS_of (d + 1) (fun d' h => (Nat.succ.inj h) ▸ szS_any d)
theorem szV_any (d : Nat) (A : Option Addr) (l : List Vl) (cap : Nat) (c n q : Int) (w : World) (hr : RVs d w w.heap.size A l) (h0 : 0 ≤ q) (h1 : q ≤ 1048576) :
    Calls Try.prog 8 #[.agg #[.int .i64 c, .int .i64 n, .slice A l.length cap], .int .i64 q] w fun e w' => e = .returned (.int .i64 (left q (wVs l))) ∧ Below w.heap.size w w' := szV_of (szS_any d) A l cap c n q w hr h0 h1
end Go.Proofs.Ytnfjjabeobcenaa
/-
  Vl trees that are marked where they lie, and looked at again. No statement is proved here.
-/
namespace Go.Proofs.Ytnfjjabeobcenaa
open Go.RowKit
set_option maxRecDepth 100000
set_option linter.unusedVariables false
mutual
/-- The tree that marking leaves. -/
def numV : Int → Vl → Vl | k, .mk _ _ ks => .mk k (k + 1) (numVs (k + 2) ks)
def numVs : Int → List Vl → List Vl | _, [] => [] | k, v :: vs => numV k v :: numVs (k + 2 * ((1 + wV v : Nat) : Int)) vs
end
theorem numV_kids (k : Int) (v : Vl) : (numV k v).kids = numVs (k + 2) v.kids := by cases v; rw [numV]; rfl
theorem numV_ctor (k : Int) (v : Vl) : (numV k v).ctor = k := by cases v; rw [numV]; rfl
theorem numV_n (k : Int) (v : Vl) : (numV k v).n = k + 1 := by cases v; rw [numV]; rfl
theorem numVs_len : ∀ (k : Int) (l : List Vl), (numVs k l).length = l.length
  | _, [] => by rw [numVs]
  | k, v :: vs => by rw [numVs, List.length_cons, numVs_len, List.length_cons]
theorem numVs_at : ∀ (k : Int) (l : List Vl) (j : Nat) (h : j < (numVs k l).length) (h' : j < l.length), (numVs k l)[j] = numV (k + 2 * ((j + ((l.take j).map wV).sum : Nat) : Int)) l[j]
  | _, [], j, _, h' => absurd h' (Nat.not_lt_zero _)
  | k, v :: vs, 0, h, h' => by
    simp only [numVs, List.getElem_cons_zero, List.take_zero, List.map_nil, List.sum_nil]
    congr 1
    omega
  | k, v :: vs, j + 1, h, h' => by
    have h2 : j < (numVs (k + 2 * ((1 + wV v : Nat) : Int)) vs).length := by rw [numVs_len]; simpa using h'
    simp only [numVs, List.getElem_cons_succ]
    rw [numVs_at _ vs j h2 (by simpa using h')]
    congr 1
    simp only [List.take_succ_cons, List.map_cons, List.sum_cons]
    omega
/-- Marked up to the element j. -/
def HalfV (d : Nat) (P : Nat → Prop) (A : Option Addr) (l : List Vl) (k : Int) (j : Nat) (w wr : World) : Prop := Fr P w wr ∧ ∃ m : List Vl, m.length = l.length ∧ (∀ i (h : i < m.length) (h' : i < (numVs k l).length), i < j → m[i] = (numVs k l)[i]) ∧ (∀ i (h : i < m.length) (h' : i < l.length), j ≤ i → m[i] = l[i]) ∧ OVs (d + 1) wr P A m
theorem HalfV.zero {d : Nat} {P : Nat → Prop} {A : Option Addr} {l : List Vl} {k : Int} {w : World} (h : OVs (d + 1) w P A l) : HalfV d P A l k 0 w w := ⟨Fr.refl _ _, l, rfl, fun _ _ _ h => absurd h (Nat.not_lt_zero _), fun _ _ _ _ => rfl, h⟩
theorem HalfV.all {d : Nat} {P : Nat → Prop} {A : Option Addr} {l : List Vl} {k : Int} {j : Nat} {w wr : World} (h : HalfV d P A l k j w wr) (hj : l.length ≤ j) : OVs (d + 1) wr P A (numVs k l) := by
  obtain ⟨_, m, hm, h1, _, h3⟩ := h
  have e : m = numVs k l := List.ext_getElem (by rw [hm, numVs_len]) (fun i a b => h1 i a b (by omega))
  rw [← e]; exact h3
theorem HalfV.at_ {d : Nat} {P : Nat → Prop} {A : Option Addr} {l : List Vl} {k S : Int} {j : Nat} {w wr : World} (h : HalfV d P A l k j w wr) (hj : j < l.length) (hS : S = 2 * ((j + ((l.take j).map wV).sum : Nat) : Int)) :
    ∃ (g : Nat) (cs : Array Value) (Q : Nat → Prop) (A' : Option Addr) (cap : Nat), A = some ⟨g, 0, none⟩ ∧ wr.heap[g]? = some (.cells cs 37 (0, 0)) ∧ cs[j * 3]? = some (.int .i64 l[j].ctor) ∧ cs[j * 3 + 1]? = some (.int .i64 l[j].n) ∧ cs[j * 3 + 2]? = some (.slice A' l[j].kids.length cap) ∧ OVs d wr Q A' l[j].kids ∧ ¬ Q g ∧
      ∀ (w3 : World) (cs3 : Array Value), w3.heap[g]? = some (.cells cs3 37 (0, 0)) → (∀ i c, i ≠ j → c < 3 → cs3[i * 3 + c]? = cs[i * 3 + c]?) → cs3[j * 3]? = some (.int .i64 (k + S)) → cs3[j * 3 + 1]? = some (.int .i64 (k + S + 1)) → cs3[j * 3 + 2]? = some (.slice A' l[j].kids.length cap) → OVs d w3 Q A' (numVs (k + S + 2) l[j].kids) → Fr (fun b => Q b ∨ b = g) wr w3 → HalfV d P A l k (j + 1) w w3 := by
  obtain ⟨hf, m, hm, h1, h2, h3⟩ := h
  obtain ⟨hl, hp⟩ := h3
  obtain ⟨g, cs, Q, rfl, hg, hh, hq, hc⟩ := hp (by omega)
  have hc' := hc
  obtain ⟨A', cap, e0, e1, e8, e9⟩ := hc j (by omega)
  have hmj : m[j]'(by omega) = l[j] := h2 j (by omega) hj (Nat.le_refl _)
  simp only [hmj] at e0 e1 e8 e9
  refine ⟨g, cs, Q j, A', cap, rfl, hh, e0, e1, e8, e9, fun hqg => (hq j g (by omega) hqg).2.1 rfl, ?_⟩
  intro w3 cs3 hg3 hsame f0 f1 f8 ho3 hf3
  have hnj : (numVs k l)[j]'(by rw [numVs_len]; exact hj) = numV (k + S) l[j] := by rw [numVs_at _ _ _ _ hj, hS]
  refine ⟨hf.trans (hf3.wide (fun b hb => ?_)), m.set j (numV (k + S) l[j]), by simp [hm], fun i h h' hij => ?_, fun i h h' hij => ?_, by simpa using hl, fun _ => ⟨g, cs3, Q, rfl, hg, hg3, fun i b hi hb => ?_, fun i hi => ?_⟩⟩
  · rcases hb with hb | hb
    · exact (hq j b (by omega) hb).1
    · rw [hb]; exact hg
  · by_cases e : i = j
    · subst e
      simp only [List.getElem_set_self]
      exact hnj.symm
    · rw [List.getElem_set_ne (by omega)]
      exact h1 i (by simpa using h) h' (by omega)
  · rw [List.getElem_set_ne (by omega)]
    exact h2 i (by simpa using h) h' (by omega)
  · simp only [List.length_set] at hi
    obtain ⟨a1, a2, a3⟩ := hq i b hi hb
    exact ⟨a1, a2, fun i' hi' => a3 i' (by simpa using hi')⟩
  · simp only [List.length_set] at hi
    by_cases e : i = j
    · subst e
      simp only [List.getElem_set_self, numV_ctor, numV_n, numV_kids, numVs_len]
      exact ⟨A', cap, f0, f1, f8, ho3⟩
    · rw [List.getElem_set_ne (by omega)]
      obtain ⟨A2, c2, q0, q1, q8, q9⟩ := hc' i hi
      refine ⟨A2, c2, (hsame i 0 e (by omega)).trans q0, (hsame i 1 e (by omega)).trans q1, (hsame i 2 e (by omega)).trans q8, q9.fr d hf3 (fun b hb => ?_)⟩
      rintro (hb' | hb')
      · exact (hq i b hi hb).2.2 j (by omega) (by omega) hb'
      · exact (hq i b hi hb).2.1 hb'
def MkV (d : Nat) : Prop := ∀ (P : Nat → Prop) (A : Option Addr) (l : List Vl) (cap : Nat) (k : Int) (w : World), OVs d w P A l → wVs l ≤ 1048576 → 0 ≤ k → k + 2 * (wVs l : Int) ≤ 16777216 →
  Calls Try.prog 50 #[.slice A l.length cap, .int .i64 k] w fun e w' => e = .returned (.int .i64 (k + 2 * (wVs l : Nat))) ∧ OVs d w' P A (numVs k l) ∧ Fr P w w'
set_option maxHeartbeats 1600000 in
theorem mkV_of (d : Nat) (ih : ∀ d', d = d' + 1 → MkV d') : MkV d := by
  intro P A l cap k w hr hn h0 h1
  obtain ⟨d', hd, _⟩ := hr.parts
  have IH := Lib.hid (ih d' hd)
  subst hd
  have HSum := Lib.hid (wVs_sum l)
  have hlb : l.length ≤ 1048576 := by have := wVs_sum l; omega
  have HZ := Lib.hid (HalfV.zero (k := k) hr)
  clear hr ih
  go_enter Try.func50, Try.ntmps50
  go_wp2_with fail
  go_loopw [1, 5] (fun q i wr => ∃ j : Nat, j ≤ l.length ∧ i = .int .i64 j ∧ ∃ S : Nat, q = .int .i64 (k + S) ∧ Hid ((S : Int) = 2 * ((j + ((l.take j).map wV).sum : Nat) : Int)) ∧ Hid (HalfV d' P A l k j w wr)) (fun _ i _ => l.length - (intOf i).toNat)
  case atStart => exact ⟨0, by omega, rfl, 0, by simp, by unfold Hid; simp, HZ⟩
  case round =>
    obtain ⟨j, hj, rfl, S, rfl, HS, HH⟩ := hrel
    clear HZ
    by_cases hlt : j < l.length
    · have HT := Lib.hid (sum_take_succ wV l j hlt)
      have HL := Lib.hid (sum_take_le wV l (j + 1))
      have hwk : wV l[j] = wVs l[j].kids := wV_kids l[j]
      have hSb : k + (S : Int) + 2 * (1 + (wVs l[j].kids : Int)) ≤ 16777216 ∧ wVs l[j].kids ≤ 1048576 := by
        have a1 := HT.out; have a2 := HL.out; have a3 := HSum.out; have a4 := HS.out; omega
      have HWK := Lib.hid hwk
      obtain ⟨hSb, hwb⟩ := hSb
      clear hwk
      obtain ⟨g, cs, Q, A', cp, rfl, hg, e0, e1, e8, ho, hQg, hnext⟩ := HH.out.at_ hlt HS.out
      have c0 := (cell_of_blk hg (j * 3)).trans e0
      have c1 := (cell_of_blk hg (j * 3 + 1)).trans e1
      have c8 := (cell_of_blk hg (j * 3 + 2)).trans e8
      have z0 := frozen_of_row wr g (j * 3) cs 37 hg
      have z1 := frozen_of_row wr g (j * 3 + 1) cs 37 hg
      obtain ⟨w2, hw2⟩ : ∃ w2, w2 = ((wr.setCell ⟨g, j * 3, none⟩ (.int .i64 (k + S))).setCell ⟨g, j * 3 + 1, none⟩ (.int .i64 (k + S + 1))) := ⟨_, rfl⟩
      have F2 : Fr (fun b => b = g) wr w2 := by rw [hw2]; exact ((Fr.set (P := fun b => b = g) _ _ _ _ rfl).trans (Fr.set _ _ _ _ rfl))
      have G2 : Hid (w2.heap[g]? = some (.cells ((cs.setIfInBounds (j * 3) (.int .i64 (k + S))).setIfInBounds (j * 3 + 1) (.int .i64 (k + S + 1))) 37 (0, 0))) := by
        rw [hw2]
        unfold Hid
        refine heap_setCell_same _ g _ _ _ _ ?_
        refine heap_setCell_same _ g _ _ _ _ ?_
        exact hg
      have O2 := Lib.hid (ho.fr _ F2 (fun b hb e => hQg (e ▸ hb)))
      have HF2 := Lib.hid F2
      have HQg := Lib.hid hQg
      have HN := Lib.hid hnext
      have HW2 := Lib.hid hw2
      clear hw2 F2 hQg hnext ho
      go_wp2_with fail
      rw [← HW2.out]
      refine (IH.out Q A' l[j].kids cp _ w2 O2.out hwb (by omega) (by omega)).mono ?_
      rintro e w3 ⟨rfl, ho3, hf3⟩
      have hk2 : k + S + 1 + 1 = k + S + 2 := by omega
      have ho3' : OVs d' w3 Q A' (numVs (k + S + 2) l[j].kids) := by rw [← hk2]; exact ho3
      have HH3 : Hid (HalfV d' P (some ⟨g, 0, none⟩) l k (j + 1) w w3) := by
        refine HN.out w3 _ (hf3.block G2.out HQg.out) (fun i c hi hc => ?_) ?_ ?_ ?_ ho3' ((HF2.out.wide (fun b hb => .inr hb)).trans (hf3.wide (fun b hb => .inl hb)))
        · have h1 : i * 3 + c ≠ j * 3 ∧ i * 3 + c ≠ j * 3 + 1 := by omega
          simp only [Array.getElem?_setIfInBounds_ne (Ne.symm h1.1), Array.getElem?_setIfInBounds_ne (Ne.symm h1.2)]
        · have hz : j * 3 + 2 < cs.size := (Array.getElem?_eq_some_iff.1 e8).1
          simp [show j * 3 < cs.size by omega]
        · have hz : j * 3 + 2 < cs.size := (Array.getElem?_eq_some_iff.1 e8).1
          simp [show j * 3 + 1 < cs.size by omega]
        · simpa using e8
      clear c0 c1 c8 z0 z1
      go_wp2_with fail
      go_roundw
      case rel => exact ⟨j + 1, by omega, by go_num, S + 2 * (1 + wVs l[j].kids), by congr 1; push_cast; omega, by unfold Hid; have a1 := HT.out; have a2 := HS.out; have a3 := HWK.out; omega, HH3⟩
      case measure => simp [intOf]; omega
    · have HE : Hid ((S : Int) = 2 * (wVs l : Int)) := by unfold Hid; rw [HS.out, HSum.out, List.take_of_length_le (by omega), show j = l.length by omega]
      have HA := Lib.hid (HH.out.all (by omega))
      go_wp2_with fail
      go_ret
      exact ⟨ret_i64 (by rw [HE.out]), HA.out, HH.out.1⟩
theorem mkV_any : ∀ d, MkV d
  | 0 => mkV_of 0 (fun _ h => by omega)
  | d + 1 => mkV_of (d + 1) (fun d' h => (Nat.succ.inj h) ▸ mkV_any d)
theorem markV_any (d : Nat) (P : Nat → Prop) (A : Option Addr) (l : List Vl) (cap : Nat) (x0 x1 k : Int) (w : World) (hr : OVs d w P A l) (hP : ∀ b, P b → b < w.heap.size) (hn : wVs l ≤ 1048576) (h0 : 0 ≤ k) (h1 : k + 2 * (wVs l : Int) ≤ 16777216) :
    Calls Try.prog 26 #[.agg #[.int .i64 x0, .int .i64 x1, .slice A l.length cap], .int .i64 k] w fun e w' => e = .returned (.int .i64 (k + 2 * (wVs l : Nat))) ∧ OVs d w' P A (numVs k l) ∧ Fr P w w' := by
  have Hr := Lib.hid (hr.fr _ (Fr.below (P := fun _ => False) ((Below.refl _ w).alloc (Nat.le_refl _) (.cells #[.int .i64 x0, .int .i64 x1, .slice A l.length cap] 37))) (fun _ _ h => h))
  clear hr
  go_enter Try.func26, Try.ntmps26
  go_wp2_with (go_at_call 50; refine (mkV_any _ P _ _ _ _ _ Hr.out hn h0 h1).mono ?_; rintro e w1 ⟨rfl, ho, hf⟩)
  go_ret
  exact ⟨rfl, ho, (Fr.below ((Below.refl _ _).alloc (Nat.le_refl _) _)).trans hf⟩
end Go.Proofs.Ytnfjjabeobcenaa
/-
  Vl trees that are looked at behind the marking. No statement is proved here.
-/
namespace Go.Proofs.Ytnfjjabeobcenaa
open Go.RowKit
set_option maxRecDepth 100000
set_option linter.unusedVariables false
def HdV (d : Nat) : Prop := ∀ (A : Option Addr) (l : List Vl) (cap : Nat) (k : Int) (w : World), RVs d w w.heap.size A (numVs k l) → wVs l ≤ 1048576 → 0 ≤ k → k + 2 * (wVs l : Int) ≤ 16777216 →
  Calls Try.prog 52 #[.slice A l.length cap, .int .i64 k] w fun e w' => e = .returned (.int .i64 (k + 2 * (wVs l : Nat))) ∧ w = w'
set_option maxHeartbeats 1600000 in
theorem hdV_of (d : Nat) (ih : ∀ d', d = d' + 1 → HdV d') : HdV d := by
  intro A l cap k w hr hn h0 h1
  have IH := Lib.hid ih
  have HSum := Lib.hid (wVs_sum l)
  have hlb : l.length ≤ 1048576 := by have := wVs_sum l; omega
  have Hr := Lib.hid hr
  clear hr ih
  go_enter Try.func52, Try.ntmps52
  go_wp2_with fail
  go_loopw [1, 5] (fun q i wr => ∃ j : Nat, j ≤ l.length ∧ i = .int .i64 j ∧ ∃ S : Nat, q = .int .i64 (k + S) ∧ Hid ((S : Int) = 2 * ((j + ((l.take j).map wV).sum : Nat) : Int)) ∧ w = wr) (fun _ i _ => l.length - (intOf i).toNat)
  case atStart => exact ⟨0, by omega, rfl, 0, by simp, by unfold Hid; simp, rfl⟩
  case round =>
    obtain ⟨j, hj, rfl, S, rfl, HS, rfl⟩ := hrel
    by_cases hlt : j < l.length
    · have HT := Lib.hid (sum_take_succ wV l j hlt)
      have HL := Lib.hid (sum_take_le wV l (j + 1))
      have hwk : wV l[j] = wVs l[j].kids := wV_kids l[j]
      have hSb : k + (S : Int) + 2 * (1 + (wVs l[j].kids : Int)) ≤ 16777216 ∧ wVs l[j].kids ≤ 1048576 := by
        have a1 := HT.out; have a2 := HL.out; have a3 := HSum.out; have a4 := HS.out; omega
      have HWK := Lib.hid hwk
      obtain ⟨hSb, hwb⟩ := hSb
      clear hwk
      obtain ⟨b, off, rfl, hbB, hv⟩ := Hr.out.2 j (by rw [numVs_len]; exact hlt)
      rw [numVs_at _ _ _ _ hlt, ← HS.out] at hv
      obtain ⟨d', hd, A', cp, c0, c1, c8, hm⟩ := hv.parts
      rw [numV_kids, numVs_len] at c8
      rw [numV_kids] at hm
      simp only [numV_ctor, numV_n] at c0 c1
      have Hm : Hid (RVs d' w w.heap.size A' (numVs (k + (S : Int) + 1 + 1) l[j].kids)) := by unfold Hid; rw [show k + (S : Int) + 1 + 1 = k + (S : Int) + 2 by omega]; exact hm
      have IHd := Lib.hid (IH.out d' hd)
      clear hm hv hd
      go_wp2_with (go_at_call 52; refine (IHd.out A' l[j].kids cp (k + (S : Int) + 1 + 1) _ Hm.out hwb (by omega) (by omega)).mono ?_; rintro e w3 ⟨rfl, rfl⟩)
      go_roundw
      case rel => exact ⟨j + 1, by omega, by go_num, S + 2 * (1 + wVs l[j].kids), by congr 1; push_cast; omega, by unfold Hid; have a1 := HT.out; have a2 := HS.out; have a3 := HWK.out; omega, by first | rfl | trivial⟩
      case measure => simp [intOf]; omega
    · have HE : Hid ((S : Int) = 2 * (wVs l : Int)) := by unfold Hid; rw [HS.out, HSum.out, List.take_of_length_le (by omega), show j = l.length by omega]
      go_wp2_with fail
      go_ret
      exact ⟨ret_i64 (by rw [HE.out]), rfl⟩
theorem hdV_any : ∀ d, HdV d
  | 0 => hdV_of 0 (fun _ h => by omega)
  | d + 1 => hdV_of (d + 1) (fun d' h => (Nat.succ.inj h) ▸ hdV_any d)
theorem heldV_any (d : Nat) (A : Option Addr) (l : List Vl) (cap : Nat) (x0 x1 k : Int) (w : World) (hr : RVs d w w.heap.size A (numVs k l)) (hn : wVs l ≤ 1048576) (h0 : 0 ≤ k) (h1 : k + 2 * (wVs l : Int) ≤ 16777216) :
    Calls Try.prog 28 #[.agg #[.int .i64 x0, .int .i64 x1, .slice A l.length cap], .int .i64 k] w fun e w' => e = .returned (.int .i64 (k + 2 * (wVs l : Nat))) ∧ Below w.heap.size w w' := by
  have Hr := Lib.hid (hr.at_ ((Below.refl _ w).alloc (Nat.le_refl _) (.cells #[.int .i64 x0, .int .i64 x1, .slice A l.length cap] 37)))
  clear hr
  go_enter Try.func28, Try.ntmps28
  go_wp2_with (go_at_call 52; refine (hdV_any _ _ _ _ _ _ Hr.out hn h0 h1).mono ?_; rintro e w1 ⟨rfl, rfl⟩)
  go_ret
  exact ⟨rfl, (Below.refl _ _).alloc (Nat.le_refl _) _⟩
end Go.Proofs.Ytnfjjabeobcenaa
/-
  The functions that compare values, where both sides read as the same. No statement is proved here.
-/
namespace Go.Proofs.Ytnfjjabeobcenaa
open Go.RowKit Go.Sort
set_option maxRecDepth 100000
set_option linter.unusedVariables false
def EqS (d : Nat) : Prop := ∀ (A A' : Option Addr) (l : List Vl) (cap cap' : Nat) (w : World), RVs d w w.heap.size A l → RVs d w w.heap.size A' l →
  Calls Try.prog 38 #[.slice A l.length cap, .slice A' l.length cap'] w fun e w' => e = .returned (.bool true) ∧ Below w.heap.size w w'
theorem eqV_of {d : Nat} (ih : EqS d) (A A' : Option Addr) (l : List Vl) (cap cap' : Nat) (c n : Int) (w : World) (hr : RVs d w w.heap.size A l) (hr' : RVs d w w.heap.size A' l) :
    Calls Try.prog 15 #[.agg #[.int .i64 c, .int .i64 n, .slice A l.length cap], .agg #[.int .i64 c, .int .i64 n, .slice A' l.length cap']] w fun e w' => e = .returned (.bool true) ∧ Below w.heap.size w w' := by
  have Hr := Lib.hid hr
  have Hr' := Lib.hid hr'
  have IH := Lib.hid ih
  clear hr hr' ih
  go_enter Try.func15, Try.ntmps15
  go_wp2_with (go_at_call 38; refine (IH.out _ _ _ _ _ _ (by exact Hr.out.keep (keep_two _ _) (by simp; omega)) (by exact Hr'.out.keep (keep_two _ _) (by simp; omega))).mono ?_; rintro e w1 ⟨rfl, hb⟩; obtain ⟨hc, hfz⟩ := bcell hb)
  go_ret
  exact ⟨rfl, below_two hb⟩
set_option maxHeartbeats 800000 in
theorem eqS_of (d : Nat) (ih : ∀ d', d = d' + 1 → EqS d') : EqS d := by
  intro A A' l cap cap' w hr hr'
  have hn := hr.1
  unfold maxLen at hn
  have Hr := Lib.hid hr
  have Hr' := Lib.hid hr'
  have IH := Lib.hid ih
  clear hr hr' ih
  go_enter Try.func38, Try.ntmps38
  go_wp2_with fail
  go_loopw [5] (fun i wr => ∃ k : Nat, k ≤ l.length ∧ i = .int .i64 k ∧ Below w.heap.size w wr) (fun i _ => l.length - (intOf i).toNat)
  case atStart => exact ⟨0, by omega, rfl, Below.refl _ _⟩
  case round =>
    obtain ⟨k, hk, rfl, hb⟩ := hrel
    by_cases hlt : k < l.length
    · obtain ⟨b, off, rfl, hbB, hv⟩ := (Hr.out.below hb (Nat.le_refl _)).2 k hlt
      obtain ⟨d', hd, B1, cp, c0, c1, c2, hm⟩ := hv.parts
      obtain ⟨b', off', rfl, hbB', hv'⟩ := (Hr'.out.below hb (Nat.le_refl _)).2 k hlt
      obtain ⟨d'', hd', B2, cp', c0', c1', c2', hm'⟩ := hv'.parts
      obtain rfl : d'' = d' := by omega
      have d0 := cell_regrown c0
      have d1 := cell_regrown c1
      have d2 := cell_regrown c2
      have d0' := cell_regrown c0'
      have d1' := cell_regrown c1'
      have d2' := cell_regrown c2'
      have Hm := Lib.hid hm
      have Hm' := Lib.hid hm'
      have IHd := Lib.hid (IH.out d'' hd)
      clear c0 c1 c2 c0' c1' c2' hm hm' hv hv' hd hd'
      have hi : (k : Int) < (l.length : Int) := by omega
      go_wp2_with fail
      refine wp_region_quiet_below (by kernel_rfl) (by kernel_rfl) ?_
      repeat (quiet_step (exact Calls.regrown_of (eqV_of IHd.out _ _ _ _ _ _ _ _ (Hm.out.keep (fun p hp => (below_regrown wr _ _).cell (Nat.lt_of_lt_of_le hp hb.size)) (Nat.le_trans hb.size (below_regrown wr _ _).size)) (Hm'.out.keep (fun p hp => (below_regrown wr _ _).cell (Nat.lt_of_lt_of_le hp hb.size)) (Nat.le_trans hb.size (below_regrown wr _ _).size)))))
      refine wpQuiet_nil ?_
      intro _ hw'
      obtain ⟨⟨dq, osq⟩, hw''⟩ := hw'
      subst hw''
      have hb2 := hb.trans ((below_regrown wr dq osq).mono hb.size)
      clear d0 d1 d2 d0' d1' d2'
      go_wp2_with fail
      go_roundw
      case rel => exact ⟨k + 1, by omega, by go_num, hb2⟩
      case measure => simp [intOf]; omega
    · go_wp2_with fail
      go_ret
      exact ⟨rfl, hb⟩
theorem eqS_any : ∀ d, EqS d
  | 0 => eqS_of 0 (fun _ h => by omega)
  | d + 1 => eqS_of (d + 1) (fun d' h => (Nat.succ.inj h) ▸ eqS_any d)
theorem eqV_same (d : Nat) (A A' : Option Addr) (l : List Vl) (cap cap' : Nat) (c n : Int) (w : World) (hr : RVs d w w.heap.size A l) (hr' : RVs d w w.heap.size A' l) :
    Calls Try.prog 15 #[.agg #[.int .i64 c, .int .i64 n, .slice A l.length cap], .agg #[.int .i64 c, .int .i64 n, .slice A' l.length cap']] w fun e w' => e = .returned (.bool true) ∧ Below w.heap.size w w' := eqV_of (eqS_any d) A A' l cap cap' c n w hr hr'
end Go.Proofs.Ytnfjjabeobcenaa
