/-
  A value of which only some parts are kept: the program's function. No statement is proved here.
-/
import Derived.Test.YtakhobhmplneeaaW33
namespace Go.Proofs.Ytakhobhmplneeaa
open Go.RowKit Go.Sort Go.Deep
set_option maxRecDepth 100000
set_option linter.unusedVariables false
/-- A list of values that has been made up to its element k. -/
def KdV (d : Nat) (w0 wr : World) (v : Value) (l : List Vl) (k : Nat) : Prop := ∃ A c ys Q, v = .slice A k c ∧ wr.ownsRow w0.heap.size 28 3 (.slice A k c) k ys ∧ RowV d wr w0.heap.size (Value.slice A k c).ownBlock Q l ys k ∧ Below w0.heap.size w0 wr
theorem KdV.zero (d : Nat) (w0 : World) (l : List Vl) : KdV d w0 w0 (.slice none 0 0) l 0 := ⟨none, 0, [], fun _ _ => False, rfl, World.ownsRow_nil _ _ _ _, RowV.zero _ _ _ _ _ _ _, Below.refl _ _⟩
theorem KdV.below {d : Nat} {w0 wr w1 : World} {v : Value} {l : List Vl} {k : Nat} (h : KdV d w0 wr v l k) (hb : Below wr.heap.size wr w1) : KdV d w0 w1 v l k := by
  obtain ⟨A, c, ys, Q, e, ho, hrow, hb0⟩ := h
  refine ⟨A, c, ys, Q, e, own_at ho (fun b e => hb.block b ?_), hrow.fr (P' := fun _ => False) (Fr.below hb) (fun _ _ _ _ h => h), hb0.trans (hb.mono hb0.size)⟩
  obtain ⟨_, _, _, h2⟩ := own_form ho
  exact (h2 b e).2
theorem KdV.step {d : Nat} {w0 wr w2 w4 : World} {l : List Vl} {k c c2 : Nat} {A A2 : Option Addr} {ys : List Value} {Q : Nat → Nat → Prop} {v' : Value} {box : Obj}
    (ho : wr.ownsRow w0.heap.size 28 3 (.slice A k c) k ys) (hrow : RowV d wr w0.heap.size (Value.slice A k c).ownBlock Q l ys k) (hb0 : Below w0.heap.size w0 wr)
    (hk : k < l.length) (hb : Below wr.heap.size wr w2) (hkid : OVs d w2 (Nw wr w2) A2 l[k].kids) (hown : w4.ownsRow w0.heap.size 28 3 v' (k + 1) (ys ++ [.int .i64 l[k].ctor, .int .i64 l[k].n, .slice A2 l[k].kids.length c2])) (hgr : (w2.alloc box).grownBy w4 (Value.slice A k c).ownBlock)
    (hat : v'.ownBlock = (Value.slice A k c).ownBlock ∨ v'.ownBlock = some (w2.alloc box).heap.size) :
    ∃ A' c', v' = .slice A' (k + 1) c' ∧ KdV d w0 w4 v' l (k + 1) := by
  have hys := ho.1
  obtain ⟨_, _, _, hob⟩ := own_form ho
  obtain ⟨A', c', hv, hnb⟩ := own_form hown
  have hb2 := hb.size
  have hz : (w2.alloc box).heap.size = w2.heap.size + 1 := by simp
  have hF : Fr (fun b => some b = (Value.slice A k c).ownBlock) w2 w4 :=
    (Fr.below ((Below.refl _ w2).alloc (Nat.le_refl _) box)).trans (Fr.grown hgr (fun b e => e))
  have hr2 := hrow.more (xs' := ys ++ [.int .i64 l[k].ctor, .int .i64 l[k].n, .slice A2 l[k].kids.length c2]) hb hk hb0.size (fun b e => (hob b e).2) hkid (fun j i hj hi => List.getElem?_append_left (by omega)) (by rw [List.getElem?_append_right (by omega), show k * 3 - ys.length = 0 by omega]; rfl) (by rw [List.getElem?_append_right (by omega), show k * 3 + 1 - ys.length = 1 by omega]; rfl) (by rw [List.getElem?_append_right (by omega), show k * 3 + 2 - ys.length = 2 by omega]; rfl)
  have hr3 := hr2.move (og' := v'.ownBlock) hF (fun b h1 h2 h3 => ⟨fun h => h2 h, fun e => by
    rcases hat with h | h
    · exact h2 (e.trans h)
    · rw [h] at e; injection e with e; omega⟩)
  have hb4 : Below w0.heap.size w0 w4 := ((hb0.trans (hb.mono hb0.size)).alloc (by have := hb0.size; omega) box).grown hgr (by have := hb0.size; rw [hz]; omega) (fun q e => (hob q e).1)
  subst hv
  exact ⟨A', c', rfl, A', c', _, _, rfl, hown, hr3, hb4⟩
def MiS (d : Nat) : Prop := ∀ (D A E : Option Addr) (ep ca ce : Nat) (v : Vl) (ps : List (List Int)) (p : List Int) (w : World), RVs d w w.heap.size D v.kids → RIss w w.heap.size A ps → RIs w w.heap.size E p → wV v ≤ 1048576 → p.length + wV v ≤ 3000000 →
  Calls Try.prog 26 #[.agg #[.int .i64 v.ctor, .int .i64 v.n, .slice D v.kids.length ep], .slice E p.length ce, .slice A ps.length ca] w (MkQ d (msV (d + 1) ps p v) w)
set_option maxHeartbeats 4000000 in
theorem miS_of (d : Nat) (ih : ∀ d', d = d' + 1 → MiS d') : MiS d := by
  intro D A E ep ca ce v ps p w hv hps hpp hn hpn
  obtain ⟨i0, hi0, hz0, hz1, hz2⟩ := info_parts infoOV
  obtain ⟨i1, hi1, hy0, hy1, hy2⟩ := info_parts infoIi
  have hl := hv.1
  unfold maxLen at hl
  have HV := Lib.hid hv
  have IH := Lib.hid ih
  have HPS := Lib.hid hps
  have HPP := Lib.hid hpp
  have hkl : v.kids.length ≤ 1048576 := by have h2 := wV_kids v; have h3 := wVs_sum v.kids; omega
  clear hv ih hps hpp
  generalize hwx : (w.alloc (.cells #[.int .i64 v.ctor, .int .i64 v.n, .slice D v.kids.length ep] 28)).alloc (.cells #[.int .i64 0, .int .i64 0, .slice none 0 0] 28) = wx
  have hbx : Below w.heap.size w wx := by rw [← hwx]; exact ((Below.refl _ _).alloc (Nat.le_refl _) _).alloc (by simp) _
  have HXB : Hid (wx.heap[w.heap.size]? = some (.cells #[.int .i64 v.ctor, .int .i64 v.n, .slice D v.kids.length ep] 28 (0, 0))) := by
    have h := heap_alloc_new w (.cells #[.int .i64 v.ctor, .int .i64 v.n, .slice D v.kids.length ep] 28)
    unfold Hid; rw [← hwx, Below.heap_alloc _ _ _ (by simp)]; exact h
  have HXR : Hid (ZbV wx (w.heap.size + 1)) := by
    have h := ZbV.new (w.alloc (.cells #[.int .i64 v.ctor, .int .i64 v.n, .slice D v.kids.length ep] 28))
    simp only [World.size_alloc] at h
    unfold Hid; rw [← hwx]; exact h
  have hsx : wx.heap.size = w.heap.size + 2 := by rw [← hwx]; simp
  have hsx1 : w.heap.size + 2 ≤ wx.heap.size := by omega
  have HWX := Lib.hid hwx
  clear hwx hsx
  by_cases hin : p ∈ ps
  case neg =>
    have HF := Lib.hid (dec_f hin)
    have HM := Lib.hid (ms_no (d := d) (v := v) hin)
    clear hin
    go_enter Try.func26, Try.ntmps26
    go_wp2_with (go_at_call 42; rw [HWX.out]; refine (hasP_impl _ _ _ _ _ _ _ (HPS.out.at_ hbx) (HPP.out.at_ hbx)).mono ?_; rw [HF.out]; rintro e1 w1 ⟨rfl, hb1⟩; have hb1w := below_aft hbx hb1 hbx.size; have hr6 : w1.heap[w.heap.size + 1]? = some (.cells #[.int .i64 0, .int .i64 0, .slice none 0 0] 28 (0, 0)) := HXR.out.at_ hb1; have r0 := (cell_of_blk hr6 0).trans rfl; have r1 := (cell_of_blk hr6 1).trans rfl; have r2 := (cell_of_blk hr6 2).trans rfl; have f0 := frozen_of_row w1 (w.heap.size + 1) 0 _ 28 hr6; have f1 := frozen_of_row w1 (w.heap.size + 1) 1 _ 28 hr6; have f2 := frozen_of_row w1 (w.heap.size + 1) 2 _ 28 hr6; clear hr6)
    refine bodyPost_ret (v := .agg #[.int .i64 (-2), .int .i64 0, .slice none 0 0]) (by simp [results, Try.results26, go_sem, r0, r1, r2]) rfl ?_
    unfold MkQ
    rw [HM.out]
    refine ⟨none, 0, rfl, OVs.nil _ _ _ _, ?_⟩
    refine Below.setCell (Below.setCell (Below.setCell hb1w ?_ _) ?_ _) ?_ _ <;> (simp <;> omega)
  have HF := Lib.hid (dec_t hin)
  obtain ⟨hm0, hm1, hm2, hm3⟩ := ms_yes (d := d) (v := v) hin
  have HM0 := Lib.hid hm0
  have HM1 := Lib.hid hm1
  generalize hLk : (msV (d + 1) ps p v).kids = L at hm2 hm3
  have HLK := Lib.hid hLk
  have HM2 := Lib.hid hm2
  have HM3 := Lib.hid hm3
  have hLl : L.length ≤ 1048576 := by omega
  clear hin hm0 hm1 hm2 hm3 hLk
  go_enter Try.func26, Try.ntmps26
  go_wp2_with (go_at_call 42; rw [HWX.out]; refine (hasP_impl _ _ _ _ _ _ _ (HPS.out.at_ hbx) (HPP.out.at_ hbx)).mono ?_; rw [HF.out]; rintro e1 w1 ⟨rfl, hb1⟩; have hb1w := below_aft hbx hb1 hbx.size; have hg1 : w1.heap[w.heap.size]? = some (.cells #[.int .i64 v.ctor, .int .i64 v.n, .slice D v.kids.length ep] 28 (0, 0)) := (hb1.block _ (heap_lt HXB.out)).trans HXB.out; have x2 := (cell_of_blk hg1 2).trans rfl)
  have HG1 := Lib.hid hg1
  have HR1 : Hid (w1.heap[w.heap.size + 1]? = some (.cells #[.int .i64 0, .int .i64 0, .slice none 0 0] 28 (0, 0))) := by unfold Hid; exact HXR.out.at_ hb1
  have hs1 := hb1.size
  clear x2 hg1 hb1
  go_loopw [7, 18] (fun kv i wr => ∃ k : Nat, k ≤ v.kids.length ∧ i = .int .i64 k ∧ Hid (KdV d w1 wr kv L k)) (fun _ i _ => v.kids.length - (intOf i).toNat)
  case atStart => exact ⟨0, by omega, rfl, KdV.zero _ _ _⟩
  case round =>
    obtain ⟨k, hk, rfl, HKd⟩ := hrel
    have hbwr : Below w1.heap.size w1 wr := by obtain ⟨_, _, _, _, _, _, _, h⟩ := HKd.out; exact h
    have hbw0 : Below w.heap.size w wr := below_aft hb1w hbwr hb1w.size
    have hwr := hbwr.size
    by_cases hlt : k < v.kids.length
    · have hkI : (k : Int) < (v.kids.length : Int) := by omega
      obtain ⟨b, off, rfl, hbB, hvk⟩ := (HV.out.below hbw0 (Nat.le_refl _)).2 k hlt
      obtain ⟨d', hd, A', cp, p0, p1, p2, hm⟩ := hvk.parts
      obtain ⟨wk, hwk0⟩ : ∃ wk, wk = wr.alloc (.cells #[.int .i64 v.kids[k].ctor, .int .i64 v.kids[k].n, .slice A' v.kids[k].kids.length cp] 28) := ⟨_, rfl⟩
      have hbk : Below wr.heap.size wr wk := by rw [hwk0]; exact (Below.refl _ _).alloc (Nat.le_refl _) _
      have HXK : Hid (VBx wk wr.heap.size v.kids[k].ctor v.kids[k].n (.slice A' v.kids[k].kids.length cp)) := by rw [hwk0]; exact ⟨by simp [go_sem], by simp [go_sem], by simp [go_sem]⟩
      have HWK := Lib.hid hwk0
      have hlk : wr.heap.size < wk.heap.size := by rw [hwk0]; simp
      have hbk0 := below_aft hbw0 hbk hbw0.size
      obtain ⟨Ak, ck, ys, Q, rfl, hown, hrow, hb1k⟩ := HKd.out.below hbk
      obtain ⟨_, _, _, hobk⟩ := own_form hown
      have HOW := Lib.hid hown
      have HRW := Lib.hid hrow
      have HBW := Lib.hid hb1k
      clear hwk0
      generalize hhx : wr.heap.size = hx at HXK hlk
      have HHX := Lib.hid hhx
      have hkeep0 : ∀ b, (Value.slice Ak k ck).ownBlock = some b → b ≠ hx := fun b e => by
        have h := HKd.out
        obtain ⟨A3, c3, _, _, e3, ho3, _, _⟩ := h
        rw [e3] at e
        obtain ⟨_, _, _, h5⟩ := own_form ho3
        have := (h5 b e).2
        omega
      have HKP : Hid (∀ w', Below wk.heap.size wk w' → w'.cell? ⟨hx, 0, none⟩ = some (.int .i64 v.kids[k].ctor) ∧ w'.cell? ⟨hx, 1, none⟩ = some (.int .i64 v.kids[k].n) ∧ w'.cell? ⟨hx, 2, none⟩ = some (.slice A' v.kids[k].kids.length cp)) := fun w' h => ⟨(h.cell (p := ⟨hx, 0, none⟩) hlk).trans HXK.out.1, (h.cell (p := ⟨hx, 1, none⟩) hlk).trans HXK.out.2.1, (h.cell (p := ⟨hx, 2, none⟩) hlk).trans HXK.out.2.2⟩
      have HKB : Hid (∀ (w2 : World) (o : Obj), Below wk.heap.size wk w2 → ∀ b, (Value.slice Ak k ck).ownBlock = some b → (w2.alloc o).heap[b]? = wk.heap[b]?) := fun w2 o h b e => by
        have := (hobk b e).2
        rw [Below.heap_alloc _ _ _ (Nat.lt_of_lt_of_le this h.size), h.block b this]
      have HKC : Hid (∀ (w2 w' : World) (o : Obj), Below wk.heap.size wk w2 → (w2.alloc o).grownBy w' (Value.slice Ak k ck).ownBlock → w'.cell? ⟨hx, 0, none⟩ = some (.int .i64 v.kids[k].ctor) ∧ w'.cell? ⟨hx, 1, none⟩ = some (.int .i64 v.kids[k].n) ∧ w'.cell? ⟨hx, 2, none⟩ = some (.slice A' v.kids[k].kids.length cp)) := fun w2 w' o h hg => by
        have hlw : hx < w2.heap.size := Nat.lt_of_lt_of_le hlk h.size
        have key : w'.heap[hx]? = wk.heap[hx]? := by
          rw [hg.block hx (by simp; omega) (fun e => hkeep0 hx e.symm rfl), Below.heap_alloc _ _ _ hlw, h.block hx hlk]
        exact ⟨(World.cell?_of_block (a := ⟨hx, 0, none⟩) key).trans HXK.out.1, (World.cell?_of_block (a := ⟨hx, 1, none⟩) key).trans HXK.out.2.1, (World.cell?_of_block (a := ⟨hx, 2, none⟩) key).trans HXK.out.2.2⟩
      have hwk : wV v.kids[k] ≤ 1048576 := by have := wV_kid v k hlt; omega
      have hwk2 : 1 + wV v.kids[k] ≤ wV v := by
        have h1 := upK_le v (k + 1) (by omega)
        rw [upK_succ _ _ hlt] at h1
        unfold upK at h1; omega
      have hkL : k < L.length := by rw [HM2.out]; exact hlt
      have HLk : Hid (L[k] = msV d ps (p ++ [(k : Int)]) v.kids[k]) := HM3.out k hlt hkL
      have HED : Hid (d = d' + 1) := hd
      have HRP : Hid (RIs wk wk.heap.size E p) := HPP.out.at_ hbk0
      have HRS : Hid (∀ w2, Below wk.heap.size wk w2 → RIss w2 w2.heap.size A ps) := fun w2 h => (HPS.out.at_ hbk0).at_ h
      have hppn : p.length ≤ 3000000 := by omega
      have hpk2 : (p ++ [(k : Int)]).length + wV v.kids[k] ≤ 3000000 := by simp; omega
      have HCA : Hid (Calls Try.prog 43 #[.slice E p.length ce] wk.drew (fun e w' => ∃ A' c', e = .returned (.slice A' p.length c') ∧ w'.ownsRow wk.drew.heap.size 3 1 (.slice A' p.length c') p.length (p.map (Value.int .i64)) ∧ Below wk.drew.heap.size wk.drew w')) := clone_any E p ce wk.drew HRP.out (by omega)
      have HCB : Hid (Calls Try.prog 43 #[.slice E p.length ce] ((wk.alloc (.cells #[.int .i64 k] 3)).drew) (fun e w' => ∃ A' c', e = .returned (.slice A' p.length c') ∧ w'.ownsRow ((wk.alloc (.cells #[.int .i64 k] 3)).drew).heap.size 3 1 (.slice A' p.length c') p.length (p.map (Value.int .i64)) ∧ Below ((wk.alloc (.cells #[.int .i64 k] 3)).drew).heap.size ((wk.alloc (.cells #[.int .i64 k] 3)).drew) w')) := clone_any E p ce _ (RIs.at_ (w := wk) HRP.out ((Below.refl _ _).alloc (Nat.le_refl _) _).drew) (by omega)
      have HIH : Hid (∀ (w2 : World) (E2 : Option Addr) (c2 : Nat), Below wk.heap.size wk w2 → RIs w2 w2.heap.size E2 (p ++ [(k : Int)]) → Calls Try.prog 26 #[.agg #[.int .i64 v.kids[k].ctor, .int .i64 v.kids[k].n, .slice A' v.kids[k].kids.length cp], .slice E2 (p.length + 1) c2, .slice A ps.length ca] w2 (MkQ d' L[k] w2)) := fun w2 E2 c2 hw2 hE2 => by
        have h := IH.out d' hd A' A E2 cp ca c2 v.kids[k] ps (p ++ [(k : Int)]) w2 (hm.keep (fun q hq => (hw2.cell (p := q) (Nat.lt_of_lt_of_le hq hbk0.size)).trans (hbk.cell (p := q) (Nat.lt_of_lt_of_le hq hbw0.size))) (Nat.le_trans hbk0.size hw2.size)) (HRS.out w2 hw2) hE2 hwk hpk2
        rw [HLk.out, HED.out]
        rw [show (p ++ [(k : Int)]).length = p.length + 1 by simp] at h
        exact h
      have HS0 : Hid (wk.drew.cell? ⟨hx, 0, none⟩ = some (.int .i64 v.kids[k].ctor) ∧ wk.drew.cell? ⟨hx, 1, none⟩ = some (.int .i64 v.kids[k].n) ∧ wk.drew.cell? ⟨hx, 2, none⟩ = some (.slice A' v.kids[k].kids.length cp)) := HXK.out
      have hs1k : w1.heap.size ≤ wk.heap.size := hb1k.size
      clear hown hrow hobk hb1k hkeep0 hbB hvk hm hd hbw0 hbwr hbk hbk0 hpk2 hwk2 hhx
      go_wp2_with fail
      rw [← HWK.out, HHX.out]
      clear p0 p1 p2 HWK
      refine Till.start (S := fun w' => w'.cell? ⟨hx, 0, none⟩ = some (.int .i64 v.kids[k].ctor) ∧ w'.cell? ⟨hx, 1, none⟩ = some (.int .i64 v.kids[k].n) ∧ w'.cell? ⟨hx, 2, none⟩ = some (.slice A' v.kids[k].kids.length cp)) (z := 11) (by kernel_rfl) ?_
      refine Till.take_ (i := 0) (d := some 23) (v := .slice Ak k ck) (ls' := #[true, false, false, false, false, false, false, false, false, false, false, false]) rfl rfl (by kernel_rfl) (by kernel_rfl) (by kernel_rfl) (by kernel_rfl) (fun _ _ _ h => h) HS0.out (Or.inl ⟨by rfl, fun wq hSw => ?_⟩) (by kernel_rfl) ?_
      · obtain ⟨hs0, hs1, hs2⟩ := hSw
        go_simp
      simp only [Act.put, List.setIfInBounds_toArray, List.set_cons_zero, List.set_cons_succ]
      refine Till.take_ (i := 1) (d := some 24) (v := .agg #[.int .i64 v.kids[k].ctor, .int .i64 v.kids[k].n, .slice A' v.kids[k].kids.length cp]) (ls' := #[true, true, false, false, false, false, false, false, false, false, false, false]) rfl rfl (by kernel_rfl) (by kernel_rfl) (by kernel_rfl) (by kernel_rfl) (fun _ _ _ h => h) HS0.out (Or.inl ⟨by rfl, fun wq hSw => ?_⟩) (by kernel_rfl) ?_
      · obtain ⟨hs0, hs1, hs2⟩ := hSw
        go_simp
      simp only [Act.put, List.setIfInBounds_toArray, List.set_cons_zero, List.set_cons_succ]
      refine Till.take_ (i := 2) (d := some 25) (v := .slice E p.length ce) (ls' := #[true, true, true, false, false, false, false, false, false, false, false, false]) rfl rfl (by kernel_rfl) (by kernel_rfl) (by kernel_rfl) (by kernel_rfl) (fun _ _ _ h => h) HS0.out (Or.inl ⟨by rfl, fun wq hSw => ?_⟩) (by kernel_rfl) ?_
      · obtain ⟨hs0, hs1, hs2⟩ := hSw
        go_simp
      simp only [Act.put, List.setIfInBounds_toArray, List.set_cons_zero, List.set_cons_succ]
      refine Till.take_ (i := 4) (d := some 27) (v := .int .i64 k) (ls' := #[true, true, true, false, true, false, false, false, false, false, false, false]) rfl rfl (by kernel_rfl) (by kernel_rfl) (by kernel_rfl) (by kernel_rfl) (fun _ _ _ h => h) HS0.out (Or.inl ⟨by rfl, fun wq hSw => ?_⟩) (by kernel_rfl) ?_
      · obtain ⟨hs0, hs1, hs2⟩ := hSw
        go_simp
      simp only [Act.put, List.setIfInBounds_toArray, List.set_cons_zero, List.set_cons_succ]
      refine Till.take_ (i := 7) (d := some 30) (v := .slice A ps.length ca) (ls' := #[true, true, true, false, true, false, false, true, false, false, false, false]) rfl rfl (by kernel_rfl) (by kernel_rfl) (by kernel_rfl) (by kernel_rfl) (fun _ _ _ h => h) HS0.out (Or.inl ⟨by rfl, fun wq hSw => ?_⟩) (by kernel_rfl) ?_
      · obtain ⟨hs0, hs1, hs2⟩ := hSw
        go_simp
      simp only [Act.put, List.setIfInBounds_toArray, List.set_cons_zero, List.set_cons_succ]
      refine Till.all (rs := [3, 5]) (by kernel_rfl) (by decide) (List.forall_mem_cons.2 ⟨?_, List.forall_mem_cons.2 ⟨?_, fun _ h => nomatch h⟩⟩)
      · refine Till.step rfl (by rfl) ?_
        intro K hK
        go_simp
        go_at_call 43
        with_reducible refine (HCA.out).mono ?_
        rintro e2 w2 ⟨A2, c2, rfl, ho2, hb2'⟩
        have hb2 : Below wk.heap.size wk w2 := ⟨hb2'.os, hb2'.tape, hb2'.output, hb2'.size, hb2'.block⟩
        have HB2 := Lib.hid hb2
        have HO2 : Hid (w2.ownsRow wk.heap.size 3 1 (.slice A2 p.length c2) p.length (p.map (Value.int .i64))) := ho2
        have HS2 := Lib.hid (HKP.out w2 hb2)
        clear hb2 hb2' ho2
        go_simp
        refine hK _ _ (fun _ => HS2.out) ?_
        clear hK K
        refine Till.all (rs := [5]) (by kernel_rfl) (by decide) (List.forall_mem_cons.2 ⟨?_, fun _ h => nomatch h⟩)
        refine Till.step rfl (by rfl) ?_
        intro K hK
        go_simp
        refine hK _ _ (fun _ => HKP.out _ (HB2.out.alloc HB2.out.size _)) ?_
        clear hK K
        refine Till.all (rs := [6]) (by kernel_rfl) (by decide) (List.forall_mem_cons.2 ⟨?_, fun _ h => nomatch h⟩)
        refine Till.step rfl (by rfl) ?_
        intro K hK
        refine wp_append_own (.tmp 26) (.tmp 28) 37 (by rfl) wk.heap.size 3 i1 (.int .i64 0) 1 8 Try.underlying37 hi1 hy0 hy1 hy2 (by rfl) (by decide) (.slice A2 p.length c2) p.length (p.map (Value.int .i64)) (by rfl) (HO2.out.alloc (.cells #[.int .i64 k] 3)) ⟨w2.heap.size, 0, none⟩ 1 1 [.int .i64 k] (by rfl) rfl (cell_one_at _ _ _) (by intro u hu; simp at hu; subst hu; rfl) (by unfold maxLen; omega) (by omega) (by have := HB2.out.size; simp; omega) ?_
        intro v6 w6 hown6 hgr6 hat6
        have hb6 : Below wk.heap.size wk w6 := (HB2.out.alloc HB2.out.size _).grown hgr6 (by have := HB2.out.size; simp; omega) (fun q e => (own_form HO2.out).elim fun A h => h.elim fun c h => (h.2 q e).1)
        have HO6 : Hid (w6.ownsRow wk.heap.size 3 1 v6 (p.length + 1) ((p ++ [(k : Int)]).map (Value.int .i64))) := by
          unfold Hid
          simpa using hown6
        obtain ⟨A6, c6, rfl, hR6⟩ := ris_of_row HO6.out (by simp) (by unfold maxLen; simp; omega)
        have HB6 := Lib.hid hb6
        have HI6 := Lib.hid (HIH.out w6 A6 c6 hb6 hR6)
        have HS6 := Lib.hid (HKP.out w6 hb6)
        clear hown6 hgr6 hat6 hb6 hR6 HO6
        refine hK _ _ (fun _ => HS6.out) ?_
        clear hK K
        refine Till.all (rs := [8]) (by kernel_rfl) (by decide) (List.forall_mem_cons.2 ⟨?_, fun _ h => nomatch h⟩)
        refine Till.step rfl (by rfl) ?_
        intro K hK
        go_simp
        go_at_call 26
        with_reducible refine (HI6.out).mono ?_
        rintro e7 w7 ⟨A7, c7, rfl, ho7, hb7'⟩
        have hb7 : Below wk.heap.size wk w7 := below_aft HB6.out hb7' HB6.out.size
        have HS7 := Lib.hid (HKP.out w7 hb7)
        have HB7 := Lib.hid hb7
        have HO7 : Hid (OVs d w7 (Nw wk w7) A7 L[k].kids) := by unfold Hid; rw [HED.out]; exact ho7.wide _ (fun b h => ⟨Nat.le_trans HB6.out.size h.1, h.2⟩)
        have hbz : wk.heap.size ≤ w7.heap.size := hb7.size
        clear hb7 hb7' ho7
        go_simp
        refine hK _ _ (fun _ => HS7.out) ?_
        clear hK K
        refine Till.all (rs := [9]) (by kernel_rfl) (by decide) (List.forall_mem_cons.2 ⟨?_, fun _ h => nomatch h⟩)
        refine Till.step rfl (by rfl) ?_
        intro K hK
        go_simp
        refine hK _ _ (fun _ => HKP.out _ (HB7.out.alloc HB7.out.size _)) ?_
        clear hK K
        refine Till.all (rs := [10]) (by kernel_rfl) (by decide) (List.forall_mem_cons.2 ⟨?_, fun _ h => nomatch h⟩)
        refine Till.step rfl (by rfl) ?_
        intro K hK
        refine wp_append_own (.tmp 23) (.tmp 32) 26 (by rfl) w1.heap.size 28 i0 (.agg #[.int .i64 0, .int .i64 0, .slice none 0 0]) 3 40 Try.underlying26 hi0 hz0 hz1 hz2 (by rfl) (by decide) (.slice Ak k ck) k ys (by rfl) (own_at HOW.out (HKB.out w7 _ HB7.out)) ⟨w7.heap.size, 0, none⟩ 1 1 [.int .i64 L[k].ctor, .int .i64 L[k].n, .slice A7 L[k].kids.length c7] (by rfl) rfl (cell_three_nm _ _ _ _ _) (by intro u hu; simp at hu; rcases hu with rfl | rfl | rfl <;> rfl) (by unfold maxLen; omega) (by omega) (by simp; omega) ?_
        intro v8 w8 hown8 hgr8 hat8
        have HS8 := Lib.hid (HKC.out w7 w8 _ HB7.out hgr8)
        obtain ⟨A8, c8, rfl, hkd8⟩ := KdV.step HOW.out HRW.out HBW.out hkL HB7.out HO7.out hown8 hgr8 hat8
        have HKD := Lib.hid hkd8
        clear hown8 hgr8 hat8 hkd8
        refine hK _ _ (fun _ => HS8.out) ?_
        clear hK K
        refine Till.all (rs := [11]) (by kernel_rfl) (by decide) (List.forall_mem_cons.2 ⟨?_, fun _ h => nomatch h⟩)
        refine Till.step rfl (by rfl) ?_
        intro K hK
        go_simp
        refine hK _ _ (fun h => absurd rfl h) ?_
        clear hK K
        refine Till.done (by kernel_rfl) ?_ _
        clear HS8 HS7 HS6
        go_wp2_with fail
        go_roundw
        case rel => exact ⟨k + 1, by omega, by go_num, HKD.out⟩
        case measure => simp [intOf]; omega
      · refine Till.step rfl (by rfl) ?_
        intro K hK
        go_simp
        refine hK _ _ (fun _ => HKP.out _ ((Below.refl wk.heap.size wk).alloc (Nat.le_refl _) _).drew) ?_
        clear hK K
        refine Till.all (rs := [3]) (by kernel_rfl) (by decide) (List.forall_mem_cons.2 ⟨?_, fun _ h => nomatch h⟩)
        refine Till.step rfl (by rfl) ?_
        intro K hK
        go_simp
        go_at_call 43
        with_reducible refine (HCB.out).mono ?_
        rintro e2 w2 ⟨A2, c2, rfl, ho2, hb2'⟩
        have hbz : Below wk.heap.size wk ((wk.alloc (.cells #[.int .i64 k] 3)).drew) := ((Below.refl wk.heap.size wk).alloc (Nat.le_refl _) _).drew
        have hb2 : Below wk.heap.size wk w2 := hbz.trans (hb2'.mono hbz.size)
        have HB2 := Lib.hid hb2
        have HO2 : Hid (w2.ownsRow (wk.heap.size + 1) 3 1 (.slice A2 p.length c2) p.length (p.map (Value.int .i64))) := by
          unfold Hid
          have h := ho2
          simpa using h
        have HC2 : Hid (∀ j u, [Value.int .i64 k][j]? = some u → w2.cell? ((⟨wk.heap.size, 0, none⟩ : Addr).add j) = some u) := fun j u hj => by
          have h := cell_one_at wk (.int .i64 k) 3 j u hj
          have hb := hb2'.cell (p := (⟨wk.heap.size, 0, none⟩ : Addr).add j) (by unfold Addr.add; split <;> simp)
          exact hb.trans h
        have HS2 := Lib.hid (HKP.out w2 hb2)
        have hsz2 : wk.heap.size + 1 ≤ w2.heap.size := by have := hb2'.size; simpa using this
        clear hb2 hb2' ho2 hbz
        go_simp
        refine hK _ _ (fun _ => HS2.out) ?_
        clear hK K
        refine Till.all (rs := [6]) (by kernel_rfl) (by decide) (List.forall_mem_cons.2 ⟨?_, fun _ h => nomatch h⟩)
        refine Till.step rfl (by rfl) ?_
        intro K hK
        refine wp_append_own (.tmp 26) (.tmp 28) 37 (by rfl) (wk.heap.size + 1) 3 i1 (.int .i64 0) 1 8 Try.underlying37 hi1 hy0 hy1 hy2 (by rfl) (by decide) (.slice A2 p.length c2) p.length (p.map (Value.int .i64)) (by rfl) HO2.out ⟨wk.heap.size, 0, none⟩ 1 1 [.int .i64 k] (by rfl) rfl HC2.out (by intro u hu; simp at hu; subst hu; rfl) (by unfold maxLen; omega) (by omega) hsz2 ?_
        intro v6 w6 hown6 hgr6 hat6
        have hb6 : Below wk.heap.size wk w6 := (HB2.out).grown hgr6 HB2.out.size (fun q e => (own_form HO2.out).elim fun A h => h.elim fun c h => (by have := (h.2 q e).1; omega))
        have HO6 : Hid (w6.ownsRow (wk.heap.size + 1) 3 1 v6 (p.length + 1) ((p ++ [(k : Int)]).map (Value.int .i64))) := by
          unfold Hid
          simpa using hown6
        obtain ⟨A6, c6, rfl, hR6⟩ := ris_of_row HO6.out (by simp) (by unfold maxLen; simp; omega)
        have HB6 := Lib.hid hb6
        have HI6 := Lib.hid (HIH.out w6 A6 c6 hb6 hR6)
        have HS6 := Lib.hid (HKP.out w6 hb6)
        clear hown6 hgr6 hat6 hb6 hR6 HO6
        refine hK _ _ (fun _ => HS6.out) ?_
        clear hK K
        refine Till.all (rs := [8]) (by kernel_rfl) (by decide) (List.forall_mem_cons.2 ⟨?_, fun _ h => nomatch h⟩)
        refine Till.step rfl (by rfl) ?_
        intro K hK
        go_simp
        go_at_call 26
        with_reducible refine (HI6.out).mono ?_
        rintro e7 w7 ⟨A7, c7, rfl, ho7, hb7'⟩
        have hb7 : Below wk.heap.size wk w7 := below_aft HB6.out hb7' HB6.out.size
        have HS7 := Lib.hid (HKP.out w7 hb7)
        have HB7 := Lib.hid hb7
        have HO7 : Hid (OVs d w7 (Nw wk w7) A7 L[k].kids) := by unfold Hid; rw [HED.out]; exact ho7.wide _ (fun b h => ⟨Nat.le_trans HB6.out.size h.1, h.2⟩)
        have hbz : wk.heap.size ≤ w7.heap.size := hb7.size
        clear hb7 hb7' ho7
        go_simp
        refine hK _ _ (fun _ => HS7.out) ?_
        clear hK K
        refine Till.all (rs := [9]) (by kernel_rfl) (by decide) (List.forall_mem_cons.2 ⟨?_, fun _ h => nomatch h⟩)
        refine Till.step rfl (by rfl) ?_
        intro K hK
        go_simp
        refine hK _ _ (fun _ => HKP.out _ (HB7.out.alloc HB7.out.size _)) ?_
        clear hK K
        refine Till.all (rs := [10]) (by kernel_rfl) (by decide) (List.forall_mem_cons.2 ⟨?_, fun _ h => nomatch h⟩)
        refine Till.step rfl (by rfl) ?_
        intro K hK
        refine wp_append_own (.tmp 23) (.tmp 32) 26 (by rfl) w1.heap.size 28 i0 (.agg #[.int .i64 0, .int .i64 0, .slice none 0 0]) 3 40 Try.underlying26 hi0 hz0 hz1 hz2 (by rfl) (by decide) (.slice Ak k ck) k ys (by rfl) (own_at HOW.out (HKB.out w7 _ HB7.out)) ⟨w7.heap.size, 0, none⟩ 1 1 [.int .i64 L[k].ctor, .int .i64 L[k].n, .slice A7 L[k].kids.length c7] (by rfl) rfl (cell_three_nm _ _ _ _ _) (by intro u hu; simp at hu; rcases hu with rfl | rfl | rfl <;> rfl) (by unfold maxLen; omega) (by omega) (by simp; omega) ?_
        intro v8 w8 hown8 hgr8 hat8
        have HS8 := Lib.hid (HKC.out w7 w8 _ HB7.out hgr8)
        obtain ⟨A8, c8, rfl, hkd8⟩ := KdV.step HOW.out HRW.out HBW.out hkL HB7.out HO7.out hown8 hgr8 hat8
        have HKD := Lib.hid hkd8
        clear hown8 hgr8 hat8 hkd8
        refine hK _ _ (fun _ => HS8.out) ?_
        clear hK K
        refine Till.all (rs := [11]) (by kernel_rfl) (by decide) (List.forall_mem_cons.2 ⟨?_, fun _ h => nomatch h⟩)
        refine Till.step rfl (by rfl) ?_
        intro K hK
        go_simp
        refine hK _ _ (fun h => absurd rfl h) ?_
        clear hK K
        refine Till.done (by kernel_rfl) ?_ _
        clear HS8 HS7 HS6
        go_wp2_with fail
        go_roundw
        case rel => exact ⟨k + 1, by omega, by go_num, HKD.out⟩
        case measure => simp [intOf]; omega
    · have hke : k = v.kids.length := by omega
      obtain ⟨Ak, ck, ys, Q, rfl, hown, hrow, hb1k⟩ := HKd.out
      have hkLe : k = L.length := hke.trans HM2.out.symm
      subst hkLe
      obtain ⟨A6, c6, e6, hO6⟩ := OVs.of_row hown hrow hLl
      injection e6 with e61 e62 e63
      subst e61
      clear e62 e63
      have HO6 := Lib.hid hO6
      have hg : wr.heap[w.heap.size]? = some (.cells #[.int .i64 v.ctor, .int .i64 v.n, .slice D v.kids.length ep] 28 (0, 0)) := (hb1k.block _ (by omega)).trans HG1.out
      have hr : wr.heap[w.heap.size + 1]? = some (.cells #[.int .i64 0, .int .i64 0, .slice none 0 0] 28 (0, 0)) := (hb1k.block _ (by omega)).trans HR1.out
      have b0 := (cell_of_blk hg 0).trans rfl
      have b1 := (cell_of_blk hg 1).trans rfl
      have b2 := (cell_of_blk hg 2).trans rfl
      have e2 := frozen_of_row wr w.heap.size 2 _ 28 hg
      have r0 := (cell_of_blk hr 0).trans rfl
      have r1 := (cell_of_blk hr 1).trans rfl
      have r2 := (cell_of_blk hr 2).trans rfl
      have f0 := frozen_of_row wr (w.heap.size + 1) 0 _ 28 hr
      have f1 := frozen_of_row wr (w.heap.size + 1) 1 _ 28 hr
      have f2 := frozen_of_row wr (w.heap.size + 1) 2 _ 28 hr
      have hkI : (v.kids.length : Int) ≤ (L.length : Int) := by omega
      clear hg hr hke hO6 hown hrow
      go_wp2_with fail
      refine bodyPost_ret (v := .agg #[.int .i64 v.ctor, .int .i64 v.n, .slice Ak L.length ck]) (by simp [results, Try.results26, go_sem, r0, r1, r2]) rfl ?_
      unfold MkQ
      rw [HM0.out, HM1.out, HLK.out]
      refine ⟨Ak, ck, rfl, ?_, ?_⟩
      · have hF : Fr (fun b => b < w.heap.size + 2) wr ((((wr.setCell ⟨w.heap.size, 2, none⟩ (.slice Ak L.length ck)).setCell ⟨w.heap.size + 1, 0, none⟩ (.int .i64 v.ctor)).setCell ⟨w.heap.size + 1, 1, none⟩ (.int .i64 v.n)).setCell ⟨w.heap.size + 1, 2, none⟩ (.slice Ak L.length ck)) := (((Fr.set _ _ _ _ (by omega)).trans (Fr.set _ _ _ _ (by omega))).trans (Fr.set _ _ _ _ (by omega))).trans (Fr.set _ _ _ _ (by omega))
        exact (HO6.out.fr _ hF (fun b hq e => by have := hq.1; omega)).wide _ (fun b hq => ⟨by have := hq.1; omega, by have h2 := hq.2; simpa [World.setCell] using h2⟩)
      · refine Below.setCell (Below.setCell (Below.setCell (Below.setCell hbw0 ?_ _) ?_ _) ?_ _) ?_ _ <;> (simp <;> omega)
theorem miS_any : ∀ d, MiS d
  | 0 => miS_of 0 (fun _ h => by omega)
  | d + 1 => miS_of (d + 1) (fun d' h => (Nat.succ.inj h) ▸ miS_any d)
end Go.Proofs.Ytakhobhmplneeaa
