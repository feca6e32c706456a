/-
  MaskValue of the program and of the document. No statement is proved here.
-/
import Derived.Test.YtakhobhmplneeaaW30
import Derived.Test.YtakhobhmplneeaaW34
import Derived.Test.YtakhobhmplneeaaW32
import Derived.Test.YtakhobhmplneeaaW27
import Derived.Test.YtakhobhmplneeaaW25
import Derived.Deep.Slices
import Derived.ChangeArms
namespace Go.Proofs.Ytakhobhmplneeaa
open Go.RowKit Go.Sort Go.Deep
set_option maxRecDepth 100000
set_option linter.unusedVariables false
theorem below_box3m {w w' : World} {o o' o'' : Obj} (h : ((w.alloc o).alloc o').alloc o'' = w') : Below w.heap.size w w' := by
  rw [← h]; exact (((Below.refl _ _).alloc (Nat.le_refl _) _).alloc (by simp) _).alloc (by simp <;> omega) _
noncomputable def mvR (e : Nat) (l : List Da) (t : Ty) (v : Vl) (qs : List (List Int)) : Vl := if paT l t v then msV (e + 1) qs [] v else .mk 0 0 []
theorem mvR_w (e : Nat) (l : List Da) (t : Ty) (v : Vl) (qs : List (List Int)) : wV (mvR e l t v qs) ≤ wV v := by
  unfold mvR
  split
  · exact ms_w _ _ _ _
  · rw [wV, wVs]; omega
def MvT (e : Nat) (l : List Da) (t : Ty) (v : Vl) (qs : List (List Int)) (w : World) (e' : Ending) (w' : World) : Prop := ∃ B c, e' = .returned (.tuple #[.agg #[.int .i64 (mvR e l t v qs).ctor, .int .i64 (mvR e l t v qs).n, .slice B (mvR e l t v qs).kids.length c], .bool (paT l t v)]) ∧ OVs (e + 1) w' (Nw w w') B (mvR e l t v qs).kids ∧ Below w.heap.size w w'
theorem MvT.no {e : Nat} {l : List Da} {t : Ty} {v : Vl} {qs : List (List Int)} {w w' : World} (h : paT l t v = false) (hb : Below w.heap.size w w') : MvT e l t v qs w (.returned (.tuple #[.agg #[.int .i64 0, .int .i64 0, .slice none 0 0], .bool false])) w' := by
  have h2 : mvR e l t v qs = .mk 0 0 [] := by unfold mvR; rw [h]; rfl
  unfold MvT; rw [h, h2]; exact ⟨none, 0, rfl, OVs.nil _ _ _ _, hb⟩
theorem MvT.yes {e : Nat} {l : List Da} {t : Ty} {v u : Vl} {qs : List (List Int)} {w w' : World} {B : Option Addr} {c : Nat} (h : paT l t v = true) (hu : msV (e + 1) qs [] v = u) (hb : Below w.heap.size w w') (ho : OVs (e + 1) w' (Nw w w') B u.kids) : MvT e l t v qs w (.returned (.tuple #[.agg #[.int .i64 u.ctor, .int .i64 u.n, .slice B u.kids.length c], .bool true])) w' := by
  have h2 : mvR e l t v qs = u := by unfold mvR; rw [h]; exact hu
  unfold MvT; rw [h, h2]; exact ⟨B, c, rfl, ho, hb⟩
set_option maxHeartbeats 1600000 in
theorem mv_impl (A D Z : Option Addr) (l : List Da) (cap ep cz e : Nat) (t : Ty) (v : Vl) (qs : List (List Int)) (w : World) (hr : RDas w w.heap.size A l) (hv : RVs e w w.heap.size D v.kids) (hq : RIss w w.heap.size Z qs) (hn : wV v ≤ 1048576) :
    Calls Try.prog 12 #[.slice A l.length cap, .agg #[.int .i64 t.data, .int .i64 t.index], .agg #[.int .i64 v.ctor, .int .i64 v.n, .slice D v.kids.length ep], .slice Z qs.length cz] w (MvT e l t v qs w) := by
  have Hr := Lib.hid hr
  have HV := Lib.hid hv
  have HQ := Lib.hid hq
  clear hr hv hq
  generalize hwx : ((w.alloc (.cells #[.int .i64 t.data, .int .i64 t.index] 25)).alloc (.cells #[.int .i64 v.ctor, .int .i64 v.n, .slice D v.kids.length ep] 28)).alloc (.cells #[.int .i64 0, .int .i64 0, .slice none 0 0] 28) = wx
  have hbx : Below w.heap.size w wx := below_box3m hwx
  have hsx1 : w.heap.size + 3 ≤ wx.heap.size := by rw [← hwx]; simp
  have HXT : Hid (Bx wx w.heap.size t) := by rw [← hwx]; exact ⟨by simp [go_sem], by simp [go_sem]⟩
  have HXP : Hid (VBx wx (w.heap.size + 1) v.ctor v.n (.slice D v.kids.length ep)) := by rw [← hwx]; exact ⟨by simp [go_sem], by simp [go_sem], by simp [go_sem]⟩
  have HXR : Hid (ZbV wx (w.heap.size + 2)) := by
    have h := ZbV.new ((w.alloc (.cells #[.int .i64 t.data, .int .i64 t.index] 25)).alloc (.cells #[.int .i64 v.ctor, .int .i64 v.n, .slice D v.kids.length ep] 28))
    simp only [World.size_alloc] at h
    unfold Hid; rw [← hwx]; exact h
  have HW := Lib.hid hwx
  clear hwx
  cases hpa : paT l t v
  · have HPA := Lib.hid hpa
    clear hpa
    go_enter Try.func12, Try.ntmps12
    go_wp2_with (go_at_call 10; rw [HW.out]; refine (pa_impl A D l cap ep e t v _ (Hr.out.at_ hbx) (HV.out.at_ hbx) (by omega)).mono ?_; rw [HPA.out]; rintro e1 w1 ⟨rfl, hb1⟩; have hb1w := below_aft hbx hb1 hbx.size; have hr6 : w1.heap[w.heap.size + 2]? = some (.cells #[.int .i64 0, .int .i64 0, .slice none 0 0] 28 (0, 0)) := HXR.out.at_ hb1; have r0 := (cell_of_blk hr6 0).trans rfl; have r1 := (cell_of_blk hr6 1).trans rfl; have r2 := (cell_of_blk hr6 2).trans rfl; have f0 := frozen_of_row w1 (w.heap.size + 2) 0 _ 28 hr6; have f1 := frozen_of_row w1 (w.heap.size + 2) 1 _ 28 hr6; have f2 := frozen_of_row w1 (w.heap.size + 2) 2 _ 28 hr6; clear hr6)
    refine bodyPost_ret (v := .tuple #[.agg #[.int .i64 0, .int .i64 0, .slice none 0 0], .bool false]) (by simp [results, Try.results12, go_sem, r0, r1, r2]) rfl (MvT.no HPA.out ?_)
    refine Below.setCell (Below.setCell (Below.setCell hb1w ?_ _) ?_ _) ?_ _ <;> (simp <;> omega)
  · have HPA := Lib.hid hpa
    clear hpa
    have HMS : Hid (∀ (w1 : World), Below w.heap.size w w1 → Calls Try.prog 26 #[.agg #[.int .i64 v.ctor, .int .i64 v.n, .slice D v.kids.length ep], .slice none 0 0, .slice Z qs.length cz] w1 (MkQ e (msV (e + 1) qs [] v) w1)) := fun w1 h => miS_any e D Z none ep cz 0 v qs [] w1 (HV.out.at_ h) (HQ.out.at_ h) RIs.nil hn (by simp; omega)
    have HU : Hid (∃ u, msV (e + 1) qs [] v = u) := ⟨_, rfl⟩
    obtain ⟨u, hu⟩ := HU.out
    rw [hu] at HMS
    have HUU := Lib.hid hu
    clear hu HU
    go_enter Try.func12, Try.ntmps12
    go_wp2_with (first | (go_at_call 26; refine (HMS.out w1 hb1w).mono ?_; rintro e2 w2 ⟨B, c, rfl, ho, hb2⟩; have HO := Lib.hid ho; have hb2w := below_aft hb1w hb2 hb1w.size; have hs2 := hb2.size; clear ho y0 y1 y2; have hr6 : w2.heap[w.heap.size + 2]? = some (.cells #[.int .i64 0, .int .i64 0, .slice none 0 0] 28 (0, 0)) := ZbV.at_ (HXR.out.at_ hb1) hb2; have r0 := (cell_of_blk hr6 0).trans rfl; have r1 := (cell_of_blk hr6 1).trans rfl; have r2 := (cell_of_blk hr6 2).trans rfl; have f0 := frozen_of_row w2 (w.heap.size + 2) 0 _ 28 hr6; have f1 := frozen_of_row w2 (w.heap.size + 2) 1 _ 28 hr6; have f2 := frozen_of_row w2 (w.heap.size + 2) 2 _ 28 hr6; clear hr6) | (go_at_call 10; rw [HW.out]; refine (pa_impl A D l cap ep e t v _ (Hr.out.at_ hbx) (HV.out.at_ hbx) (by omega)).mono ?_; rw [HPA.out]; rintro e1 w1 ⟨rfl, hb1⟩; have hb1w := below_aft hbx hb1 hbx.size; have hs1 := hb1.size; obtain ⟨y0, y1, y2⟩ := HXP.out.at_ hb1))
    refine bodyPost_ret (v := .tuple #[.agg #[.int .i64 u.ctor, .int .i64 u.n, .slice B u.kids.length c], .bool true]) (by simp [results, Try.results12, go_sem, r0, r1, r2]) rfl (MvT.yes HPA.out HUU.out ?_ ?_)
    · refine Below.setCell (Below.setCell (Below.setCell hb2w ?_ _) ?_ _) ?_ _ <;> (simp <;> omega)
    · exact (HO.out.fr _ (((Fr.set (P := fun b => b = w.heap.size + 2) _ _ _ _ rfl).trans (Fr.set _ _ _ _ rfl)).trans (Fr.set _ _ _ _ rfl)) (fun b hq e => by have := hq.1; omega)).wide _ (fun b hq => ⟨by have := hq.1; omega, by have h2 := hq.2; simpa [World.setCell] using h2⟩)
end Go.Proofs.Ytakhobhmplneeaa
/-
  Knowledge is transitive, for the mask that keeps the root alone: plain mathematics. No statement is proved here.
-/
namespace Go.Proofs.Ytakhobhmplneeaa
open Go.RowKit
set_option maxRecDepth 100000
set_option linter.unusedVariables false
theorem holeV_mk : holeV (.mk (-2) 0 []) = true := by unfold holeV; simp [Vl.ctor, Vl.n, Vl.kids]
theorem holeV_congr {a b : Vl} (hc : a.ctor = b.ctor) (hn : a.n = b.n) (hk : a.kids.length = b.kids.length) : holeV a = holeV b := by unfold holeV; rw [hc, hn, hk]
theorem ms_root (e : Nat) (b : Vl) : (msV (e + 1) [[]] [] b).ctor = b.ctor ∧ (msV (e + 1) [[]] [] b).n = b.n ∧ (msV (e + 1) [[]] [] b).kids.length = b.kids.length ∧ ∀ k (h : k < (msV (e + 1) [[]] [] b).kids.length), (msV (e + 1) [[]] [] b).kids[k] = .mk (-2) 0 [] := by
  obtain ⟨h1, h2, h3, h4⟩ := ms_yes (d := e) (ps := [[]]) (p := []) (v := b) (by simp)
  refine ⟨h1, h2, h3, fun k h => ?_⟩
  rw [h4 k (by omega) h]
  cases e with
  | zero => rfl
  | succ e => exact ms_no (by simp)
theorem upto_all3 {f : Nat → Bool} : ∀ n, (∀ k, k < n → f k = true) → upto f n = true
  | 0, _ => rfl
  | n + 1, h => upto_t (upto_all3 n (fun k hk => h k (by omega))) (h n (by omega))
theorem kmK_hole {d : Nat} {p q : List Vl} {k : Nat} (h : k < q.length) (hq : q[k] = .mk (-2) 0 []) : kmK (d + 1) p q k = true := by
  unfold kmK
  rw [List.getD_eq_getElem?_getD (l := q), List.getElem?_eq_getElem h, hq]
  exact km_hole holeV_mk
section
variable {l : List Da} {t : Ty} {a b : Vl} {e : Nat}
theorem mvR_root (h : paT l t b = true) : mvR e l t b [[]] = msV (e + 1) [[]] [] b := by unfold mvR; rw [h]; rfl
theorem pa_root (h : paT l t b = true) : paT l t (msV (e + 1) [[]] [] b) = true := by
  obtain ⟨h1, h2, h3, h4⟩ := ms_root e b
  have hw := ms_w (e + 1) [[]] [] b
  generalize msV (e + 1) [[]] [] b = c at h1 h2 h3 h4 hw
  have hf := (paT_parts h).2
  have hh := holeV_congr h1 h2 h3
  have hfc : fitH l 10 t c = true := by
    cases hb : holeV b
    · rw [hb] at hh
      by_cases ht : t.data = -1
      · rw [fitH_int hb ht] at hf
        rw [fitH_int hh ht, h1, h2, h3]; exact hf
      · have hn : b.n = 0 := Classical.byContradiction fun hx => by rw [fitH_n hb ht hx] at hf; cases hf
        have hc : b.ctor ∈ ctR l t := Classical.byContradiction fun hx => by rw [fitH_ctor hb ht hx] at hf; cases hf
        have hl : b.kids.length = (agR l t b.ctor).length := Classical.byContradiction fun hx => by rw [fitH_len hb ht hx] at hf; cases hf
        rw [fitH_go hh ht (by rw [h2]; exact hn) (by rw [h1]; exact hc) (by rw [h1, h3]; exact hl)]
        refine upto_all3 _ (fun k hk => ?_)
        have hkc : k < c.kids.length := by rw [h3, hl, ← h1]; exact hk
        rw [kidH_at hk hkc, h4 k hkc]
        exact fitH_hole holeV_mk
    · exact fitH_hole (by rw [hh]; exact hb)
  unfold paT isH at h ⊢
  rw [Bool.and_eq_true, Bool.and_eq_true, decide_eq_true_eq] at h
  rw [h.1, hfc, decide_eq_true (by omega)]; rfl
theorem km_root (h : paT l t b = true) : kmT l t b (msV (e + 1) [[]] [] b) = true := by
  unfold kmT
  rw [h, pa_root h]
  show kmV 10 b _ = true
  obtain ⟨h1, h2, h3, h4⟩ := ms_root e b
  generalize msV (e + 1) [[]] [] b = c at h1 h2 h3 h4
  cases hc : holeV c
  · rw [km_go hc h1.symm h2.symm]
    exact upto_all3 _ (fun k hk => kmK_hole hk (h4 k hk))
  · exact km_hole hc
theorem km_three (h : kmT l t a b = true) : kmT l t a (msV (e + 1) [[]] [] b) = true := by
  unfold kmT at h ⊢
  rw [Bool.and_eq_true, Bool.and_eq_true] at h
  obtain ⟨ha, hb, hk⟩ := h
  rw [ha, pa_root hb]
  show kmV 10 a _ = true
  obtain ⟨h1, h2, h3, h4⟩ := ms_root e b
  generalize msV (e + 1) [[]] [] b = c at h1 h2 h3 h4
  cases hc : holeV c
  · have hbh : holeV b = false := by rw [← holeV_congr h1 h2 h3]; exact hc
    have e1 : a.ctor = b.ctor := Classical.byContradiction fun hx => by rw [km_ctor hbh hx] at hk; cases hk
    have e2 : a.n = b.n := Classical.byContradiction fun hx => by rw [km_n hbh hx] at hk; cases hk
    rw [km_go hc (by rw [h1]; exact e1) (by rw [h2]; exact e2)]
    exact upto_all3 _ (fun k hk => kmK_hole hk (h4 k hk))
  · exact km_hole hc
theorem kmT_pa (h : kmT l t a b = true) : paT l t a = true ∧ paT l t b = true := by
  unfold kmT at h
  rw [Bool.and_eq_true, Bool.and_eq_true] at h
  exact ⟨h.1, h.2.1⟩
end
end Go.Proofs.Ytakhobhmplneeaa
/-
  The law FnKnownThree walked. No statement is proved here.
-/
namespace Go.Proofs.Ytakhobhmplneeaa
open Go.RowKit Go.Sort Go.Deep
set_option maxRecDepth 100000
set_option linter.unusedVariables false
theorem riss_lit (w : World) : RIss ((w.alloc (.cells #[] 3)).alloc (.cells #[.slice (some ⟨w.heap.size, 0, none⟩) 0 0] 37)) ((w.alloc (.cells #[] 3)).alloc (.cells #[.slice (some ⟨w.heap.size, 0, none⟩) 0 0] 37)).heap.size (some ⟨w.heap.size + 1, 0, none⟩) [[]] := by
  refine ⟨by simp [maxLen], fun k hk => ?_⟩
  have h0 : k = 0 := by simpa using hk
  subst h0
  exact ⟨w.heap.size + 1, 0, some ⟨w.heap.size, 0, none⟩, 0, rfl, by simp, by simp [go_sem], RIs.nil⟩
set_option maxHeartbeats 4000000 in
theorem k3_law (n cap : Nat) (A : Option Addr) (w : World) (hn : n ≤ maxLen) (hc : n ≤ cap) (h : RBy w w.heap.size A n) : Calls Try.prog 4 #[.slice A n cap] w fun e w' => e = .returned (.bool true) ∧ Below w.heap.size w w' := by
  have HC := Lib.hid hc
  have HNM := Lib.hid hn
  have H := Lib.hid h
  clear hc hn h
  by_cases hb : n ≤ 1048576
  case neg =>
    have hbI : (1048576 : Int) < (n : Int) := by omega
    go_enter Try.func4, Try.ntmps4
    go_wp2_with fail
    go_ret
    exact ⟨rfl, Below.refl _ _⟩
  have hbI : (n : Int) ≤ 1048576 := by omega
  go_enter Try.func4, Try.ntmps4
  go_wp2_with fail
  with_reducible refine (drawKM_any n cap A w HNM.out HC.out H.out).mono ?_
  rintro e w1 ⟨l, t, a, b, Aw, Aa, Ab, cw, ca, cb, Pa, Pb, rfl, hrd, hca, hcb, hoa, hob, hPa, hPb, hwa, hwb, hb1⟩
  generalize hw0 : ((w1.alloc (.cells #[.int .i64 t.data, .int .i64 t.index] 25)).alloc (.cells #[.int .i64 a.ctor, .int .i64 a.n, .slice Aa a.kids.length ca] 28)).alloc (.cells #[.int .i64 b.ctor, .int .i64 b.n, .slice Ab b.kids.length cb] 28) = w0
  have hb0 : Below w1.heap.size w1 w0 := below_box3k hw0
  have HXT : Hid (Bx w0 w1.heap.size t) := by rw [← hw0]; exact ⟨by simp [go_sem], by simp [go_sem]⟩
  have HXA : Hid (VBx w0 (w1.heap.size + 1) a.ctor a.n (.slice Aa a.kids.length ca)) := by rw [← hw0]; exact ⟨by simp [go_sem], by simp [go_sem], by simp [go_sem]⟩
  have HXB : Hid (VBx w0 (w1.heap.size + 2) b.ctor b.n (.slice Ab b.kids.length cb)) := by rw [← hw0]; exact ⟨by simp [go_sem], by simp [go_sem], by simp [go_sem]⟩
  have R0 : Hid (RDas w0 w0.heap.size Aw l) := hrd.at_ hb0
  have VA0 : Hid (RVs 3 w0 w0.heap.size Aa a.kids) := (OVc.reads 3 hoa).at_ hb0
  have VB0 : Hid (RVs 3 w0 w0.heap.size Ab b.kids) := (OVc.reads 3 hob).at_ hb0
  have HB0 : Hid (Below w.heap.size w w0) := below_aft hb1 hb0 hb1.size
  have HW0 := Lib.hid hw0
  clear hw0 hb0 hrd hoa hob hPa hPb hb1 hca hcb
  go_wp2_with fail
  rw [HW0.out]
  refine (km_impl Aw Aa Ab l cw ca cb 3 3 t a b w0 R0.out VA0.out VB0.out (by omega) (by omega)).mono ?_
  rintro e2 w2 ⟨rfl, hb2⟩
  have HB02 := Lib.hid hb2
  have HB2 : Hid (Below w.heap.size w w2) := below_aft HB0.out hb2 HB0.out.size
  obtain ⟨x0, x1⟩ := HXT.out.at_ hb2
  obtain ⟨z0, z1, z2⟩ := HXB.out.at_ hb2
  generalize hwz : (w2.alloc (.cells #[] 3)).alloc (.cells #[.slice (some ⟨w2.heap.size, 0, none⟩) 0 0] 37) = wz
  have hbz : Below w2.heap.size w2 wz := by rw [← hwz]; exact ((Below.refl _ _).alloc (Nat.le_refl _) _).alloc (by simp) _
  have RZ : Hid (RIss wz wz.heap.size (some ⟨w2.heap.size + 1, 0, none⟩) [[]]) := by unfold Hid; rw [← hwz]; exact riss_lit w2
  have HWZ := Lib.hid hwz
  have HB0Z : Hid (Below w0.heap.size w0 wz) := below_aft hb2 hbz hb2.size
  have HBZ : Hid (Below w.heap.size w wz) := below_aft HB2.out hbz HB2.out.size
  clear hwz hbz hb2
  go_wp2_with fail
  rw [HWZ.out]
  clear x0 x1 z0 z1 z2
  refine (mv_impl Aw Ab _ l cw cb 1 3 t b [[]] wz (R0.out.at_ HB0Z.out) (VB0.out.at_ HB0Z.out) RZ.out (by omega)).mono ?_
  rintro e3 w3 ⟨B, c, rfl, ho3, hb3⟩
  have HMW : Hid (wV (mvR 3 l t b [[]]) ≤ 200) := by have := mvR_w 3 l t b [[]]; unfold Hid; omega
  have HK1 : Hid (kmT l t a b = true → kmT l t b (mvR 3 l t b [[]]) = true ∧ kmT l t a (mvR 3 l t b [[]]) = true ∧ paT l t b = true) := fun hk => by
    have hp := (kmT_pa hk).2
    rw [mvR_root hp]
    exact ⟨km_root hp, km_three hk, hp⟩
  generalize mvR 3 l t b [[]] = cv at ho3 HMW HK1 ⊢
  generalize hwd : w3.alloc (.cells #[.int .i64 cv.ctor, .int .i64 cv.n, .slice B cv.kids.length c] 28) = wd
  have hbd : Below w3.heap.size w3 wd := by rw [← hwd]; exact (Below.refl _ _).alloc (Nat.le_refl _) _
  have HXC : Hid (VBx wd w3.heap.size cv.ctor cv.n (.slice B cv.kids.length c)) := by rw [← hwd]; exact ⟨by simp [go_sem], by simp [go_sem], by simp [go_sem]⟩
  have VCD : Hid (RVs 3 wd wd.heap.size B cv.kids) := (OVs.reads 3 ho3).at_ hbd
  have HB0D : Hid (Below w0.heap.size w0 wd) := below_aft (below_aft HB0Z.out hb3 HB0Z.out.size) hbd (below_aft HB0Z.out hb3 HB0Z.out.size).size
  have HBD : Hid (Below w.heap.size w wd) := below_aft HB0.out HB0D.out HB0.out.size
  have HWD := Lib.hid hwd
  clear hwd hbd ho3 hb3
  obtain ⟨x0, x1⟩ := HXT.out.at_ HB0D.out
  obtain ⟨y0, y1, y2⟩ := HXA.out.at_ HB0D.out
  obtain ⟨z0, z1, z2⟩ := HXB.out.at_ HB0D.out
  have HKS : Hid (∀ W, RDas W W.heap.size Aw l → RVs 3 W W.heap.size Aa a.kids → RVs 3 W W.heap.size Ab b.kids → Calls Try.prog 9 #[.slice Aw l.length cw, .agg #[.int .i64 t.data, .int .i64 t.index], .agg #[.int .i64 a.ctor, .int .i64 a.n, .slice Aa a.kids.length ca], .agg #[.int .i64 b.ctor, .int .i64 b.n, .slice Ab b.kids.length cb]] W fun e w' => e = .returned (.bool (kmT l t a b)) ∧ Below W.heap.size W w') := fun W h1 h2 h3 => km_spec Aw Aa Ab l cw ca cb 3 3 t a b W h1 h2 h3 (by omega) (by omega)
  cases hk : kmT l t a b
  · rw [hk] at HKS
    generalize paT l t b = pb
    have qq : (false != false) = false := rfl
    clear hk HK1
    go_upto_region 6 with fail
    rw [HWD.out]
    go_wp2_with fail
    refine (HKS.out wd (R0.out.at_ HB0D.out) (VA0.out.at_ HB0D.out) (VB0.out.at_ HB0D.out)).mono ?_
    rintro e4 w4 ⟨rfl, hb4⟩
    have HB4 := Lib.hid (below_aft HBD.out hb4 HBD.out.size)
    have HB04 := Lib.hid (below_aft HB0D.out hb4 HB0D.out.size)
    clear x0 x1 y0 y1 y2 z0 z1 z2 hb4
    obtain ⟨x0, x1⟩ := HXT.out.at_ HB04.out
    obtain ⟨y0, y1, y2⟩ := HXA.out.at_ HB04.out
    obtain ⟨z0, z1, z2⟩ := HXB.out.at_ HB04.out
    go_wp2_with fail
    refine (HKS.out w4 (R0.out.at_ HB04.out) (VA0.out.at_ HB04.out) (VB0.out.at_ HB04.out)).mono ?_
    rintro e5 w5 ⟨rfl, hb5⟩
    go_wp2_with fail
    go_ret
    exact ⟨rfl, below_aft HB4.out hb5 HB4.out.size⟩
  · rw [hk] at HKS
    obtain ⟨k1, k2, k3⟩ := HK1.out hk
    have HKB := Lib.hid k1
    have HKA := Lib.hid k2
    rw [k3]
    have hmw := HMW.out
    clear hk HK1 k1 k2 k3
    go_upto_region 6 with fail
    rw [HWD.out]
    go_wp2_with fail
    refine (HKS.out wd (R0.out.at_ HB0D.out) (VA0.out.at_ HB0D.out) (VB0.out.at_ HB0D.out)).mono ?_
    rintro e4 w4 ⟨rfl, hb4⟩
    have HB4 := Lib.hid (below_aft HBD.out hb4 HBD.out.size)
    have HB04 := Lib.hid (below_aft HB0D.out hb4 HB0D.out.size)
    have HXC4 := Lib.hid (HXC.out.at_ hb4)
    have VC4 := Lib.hid (VCD.out.at_ hb4)
    clear x0 x1 y0 y1 y2 z0 z1 z2 hb4
    obtain ⟨x0, x1⟩ := HXT.out.at_ HB04.out
    obtain ⟨y0, y1, y2⟩ := HXA.out.at_ HB04.out
    obtain ⟨z0, z1, z2⟩ := HXB.out.at_ HB04.out
    obtain ⟨v0, v1, v2⟩ := HXC4.out
    go_wp2_with fail
    refine (km_impl Aw Ab B l cw cb c 3 3 t b cv w4 (R0.out.at_ HB04.out) (VB0.out.at_ HB04.out) VC4.out (by omega) (by omega)).mono ?_
    rw [HKB.out]
    rintro e5 w5 ⟨rfl, hb5⟩
    have HB5 := Lib.hid (below_aft HB4.out hb5 HB4.out.size)
    have HB05 := Lib.hid (below_aft HB04.out hb5 HB04.out.size)
    have HXC5 := Lib.hid (HXC4.out.at_ hb5)
    have VC5 := Lib.hid (VC4.out.at_ hb5)
    clear x0 x1 y0 y1 y2 z0 z1 z2 v0 v1 v2 hb5
    obtain ⟨x0, x1⟩ := HXT.out.at_ HB05.out
    obtain ⟨y0, y1, y2⟩ := HXA.out.at_ HB05.out
    obtain ⟨v0, v1, v2⟩ := HXC5.out
    go_wp2_with fail
    refine (km_impl Aw Aa B l cw ca c 3 3 t a cv w5 (R0.out.at_ HB05.out) (VA0.out.at_ HB05.out) VC5.out (by omega) (by omega)).mono ?_
    rw [HKA.out]
    rintro e6 w6 ⟨rfl, hb6⟩
    go_wp2_with fail
    go_ret
    exact ⟨rfl, below_aft HB5.out hb6 HB5.out.size⟩
end Go.Proofs.Ytakhobhmplneeaa
/-
  The argument of the statements, opened; lists of numbers compared: the statements' own functions. No statement is proved here.
-/
namespace Go.Proofs.Ytakhobhmplneeaa
open Go.RowKit Go.Deep
open Go.ChangeShapes Go.WideShapes Go.ChangeAt
set_option maxRecDepth 100000
set_option linter.unusedVariables false
section
variable {H : Type} {enc : TypeId × Value → H} {w : World} {spare : Nat → Bool} {held : Bool}
theorem spot_none {w : World} {a : Addr} {v : Value} (h : w.cell? a = some v) : a.spot = none := by
  unfold World.cell? at h
  split at h
  · split at h
    · cases h
    · simpa using ‹¬ a.spot.isSome = true›
  · cases h
theorem open_code {v : Value} {d : DataW H} {p : List MemPlace} (hval : Value.okWide Try.prog w .any w.heap.size 22 v) (h : DataW.Trod enc Try.prog w 0 spare held 22 v d p) :
    ∃ A n cap, v = .slice A n cap ∧ n ≤ maxLen ∧ n ≤ cap ∧ RBy w w.heap.size A n := by
  obtain ⟨fuel, hf⟩ := h
  have hv : ∃ A n cap, v = .slice A n cap := okWide_slice Try.underlying22 hval
  obtain ⟨A, n, cap, rfl⟩ := hv
  rcases open_slice Try.underlying22 hf with ⟨hcs, _⟩ | ⟨a, len, cap', m, n', D, Pl, hcs, hb, hl, hm, hmm, hx, hi⟩
  · simp [Value.cells] at hcs
    obtain ⟨rfl, rfl, rfl⟩ := hcs
    exact ⟨none, 0, 0, rfl, Nat.zero_le _, Nat.le_refl _, fun k hk => absurd hk (by omega)⟩
  · simp [Value.cells] at hcs
    obtain ⟨rfl, rfl, rfl⟩ := hcs
    have hlm : n ≤ m := by rw [hmm]; split <;> omega
    refine ⟨some a, n, cap, rfl, by omega, hl, fun k hk => ?_⟩
    obtain ⟨cs', q1, q2⟩ := hi k (by omega)
    have h1 : Try.prog.cellsOf 5 = 1 := by kernel_rfl
    rw [h1] at q1
    obtain ⟨_, hcl, hat⟩ := World.cells?_some q1
    obtain ⟨x, rfl, _, hwf⟩ := DataW.trod_int Try.underlying5 q2
    have hc := (hat 0 (by omega)).trans rfl
    have hsp : a.spot = none := by
      obtain ⟨cs0, r1, r2⟩ := hi 0 (by omega)
      rw [h1] at r1
      obtain ⟨_, _, hat0⟩ := World.cells?_some r1
      obtain ⟨x0, rfl, _, _⟩ := DataW.trod_int Try.underlying5 r2
      have h0 := (hat0 0 (by omega)).trans rfl
      exact spot_none (w := w) (a := a) (by simpa [Addr.add] using h0)
    obtain ⟨b, off, sp⟩ := a
    simp only at hsp
    subst hsp
    simp only [Addr.add_lit, Nat.add_zero, Nat.mul_one] at hc
    have hw : 0 ≤ x ∧ x ≤ 255 := by
      have : (IntKind.u8.min ≤ x ∧ x ≤ IntKind.u8.max) := by simpa [Lit.wf] using hwf
      exact this
    exact ⟨b, off, x, rfl, block_lt_of_cell hc, hc, hw.1, hw.2⟩
end
end Go.Proofs.Ytakhobhmplneeaa
