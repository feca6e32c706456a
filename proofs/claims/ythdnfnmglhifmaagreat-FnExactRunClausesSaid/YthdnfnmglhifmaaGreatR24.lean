/-
  A value copied: the document's function. No statement is proved here.
-/
import Derived.Test.YthdnfnmglhifmaaGreatR20
import Derived.Test.YthdnfnmglhifmaaGreatR09
import Derived.Test.YthdnfnmglhifmaaGreatR23
import Derived.Test.YthdnfnmglhifmaaGreatR14
import Derived.Test.YthdnfnmglhifmaaGreatR13
namespace Go.Proofs.YthdnfnmglhifmaaGreat
open Go.RowKit Go.Sort Go.Deep
set_option maxRecDepth 100000
set_option linter.unusedVariables false
/-- What is returned: the copy, in blocks of its own. -/
def CpQ (d : Nat) (v : Vl) (w : World) (e : Ending) (w' : World) : Prop := ∃ B c, e = .returned (.agg #[.int .i64 v.ctor, .int .i64 v.n, .slice B v.kids.length c]) ∧ OVs (d + 1) w' (Nw w w') B v.kids ∧ Below w.heap.size w w'
def CpS (d : Nat) : Prop := ∀ (D : Option Addr) (ep : Nat) (v : Vl) (w : World), RVs d w w.heap.size D v.kids → wV v ≤ 1048576 →
  Calls Tryz.prog 125 #[.agg #[.int .i64 v.ctor, .int .i64 v.n, .slice D v.kids.length ep]] w (CpQ d v w)
set_option maxHeartbeats 4000000 in
theorem cpS_of (d : Nat) (ih : ∀ d', d = d' + 1 → CpS d') : CpS d := by
  intro D ep v w hv hn
  obtain ⟨i0, hi0, hz0, hz1, hz2⟩ := info_parts infoOV
  have hl := hv.1
  unfold maxLen at hl
  have HV := Lib.hid hv
  have IH := Lib.hid ih
  have hkl : v.kids.length ≤ 1048576 := by have h2 := wV_kids v; have h3 := wVs_sum v.kids; omega
  clear hv ih
  generalize hwx : (w.alloc (.cells #[.int .i64 v.ctor, .int .i64 v.n, .slice D v.kids.length ep] 31)).alloc (.cells #[.int .i64 0, .int .i64 0, .slice none 0 0] 31) = wx
  have hbx : Below w.heap.size w wx := by rw [← hwx]; exact ((Below.refl _ _).alloc (Nat.le_refl _) _).alloc (by simp) _
  have HXV : Hid (VBx wx w.heap.size v.ctor v.n (.slice D v.kids.length ep)) := by rw [← hwx]; exact ⟨by simp [go_sem], by simp [go_sem], by simp [go_sem]⟩
  have HXR : Hid (ZbV wx (w.heap.size + 1)) := by
    have h := ZbV.new (w.alloc (.cells #[.int .i64 v.ctor, .int .i64 v.n, .slice D v.kids.length ep] 31))
    simp only [World.size_alloc] at h
    unfold Hid; rw [← hwx]; exact h
  have hsx : wx.heap.size = w.heap.size + 2 := by rw [← hwx]; simp
  have HWX := Lib.hid hwx
  clear hwx
  generalize hwl : wx.alloc (.cells #[.int .i64 v.ctor, .int .i64 v.n, .slice none 0 0] 31) = wl
  have hbl : Below wx.heap.size wx wl := by rw [← hwl]; exact (Below.refl _ _).alloc (Nat.le_refl _) _
  have HG : Hid (wl.heap[wx.heap.size]? = some (.cells #[.int .i64 v.ctor, .int .i64 v.n, .slice none 0 0] 31 (0, 0))) := by unfold Hid; rw [← hwl]; exact heap_alloc_new _ _
  have HWL := Lib.hid hwl
  have HXV1 := Lib.hid (HXV.out.at_ hbl)
  have HXR1 : Hid (ZbV wl (w.heap.size + 1)) := HXR.out.at_ hbl
  have hbwl := below_aft hbx hbl hbx.size
  have hsl : wx.heap.size < wl.heap.size := heap_lt HG.out
  clear hwl
  obtain ⟨x0, x1, x2⟩ := HXV.out
  have hq0 : w.heap.size < wx.heap.size := by omega
  generalize hg : wx.heap.size = g at HG hsl hq0
  have hgx : g = w.heap.size + 2 := by omega
  go_enter Tryz.func125, Tryz.ntmps125
  go_wp2_with fail
  rw [HWX.out, HWL.out]
  rw [show w.heap.size + 1 + 1 = g by omega]
  have hgl1 : w.heap.size + 2 ≤ g := by omega
  have hgl2 : g ≤ w.heap.size + 2 := by omega
  clear hgx hg hsx
  clear x0 x1 x2 hbx hbl
  obtain ⟨x0, x1, x2⟩ := HXV1.out
  go_loopw [4] (fun i wr => ∃ k : Nat, k ≤ v.kids.length ∧ i = .int .i64 k ∧ Hid (BldV d wl wr g v.ctor v.n v.kids k)) (fun i _ => v.kids.length - (intOf i).toNat)
  case atStart => exact ⟨0, by omega, rfl, BldV.zero HG.out⟩
  case round =>
    clear x0 x1 x2
    obtain ⟨k, hk, rfl, HBd⟩ := hrel
    have hfr := HBd.out.2.1
    have hwr := hfr.size
    have hbw0 : Below w.heap.size w wr := hbwl.trans (hfr.to hbwl.size (fun b h => by omega))
    have hvx : wr.heap[w.heap.size]? = wl.heap[w.heap.size]? := hfr.2.2.2.2 _ (by omega) (by omega)
    have y2 := (World.cell?_of_block (a := ⟨w.heap.size, 2, none⟩) hvx).trans HXV1.out.2.2
    by_cases hlt : k < v.kids.length
    · have hkI : (k : Int) < (v.kids.length : Int) := by omega
      obtain ⟨b, off, rfl, hbB, hvk⟩ := (HV.out.below hbw0 (Nat.le_refl _)).2 k hlt
      obtain ⟨d', hd, A', cp, p0, p1, p2, hm⟩ := hvk.parts
      obtain ⟨hgl, hf, Ak, ck, ys, Q, hgc, hown, hrow⟩ := HBd.out
      obtain ⟨_, _, _, hob⟩ := own_form hown
      have HGL := Lib.hid hgl
      have HFR := Lib.hid hf
      have HGC := Lib.hid hgc
      have HOW := Lib.hid hown
      have HRW := Lib.hid hrow
      have c2x : wr.cell? ⟨g, 2, none⟩ = some (.slice Ak k ck) := (cell_of_blk hgc 2).trans rfl
      have hbwl' : b < wl.heap.size := by have := hbwl.size; omega
      have HKP : Hid (∀ w2, Below wr.heap.size wr w2 → w2.cell? ⟨g, 2, none⟩ = some (.slice Ak k ck) ∧ w2.cell? ⟨w.heap.size, 2, none⟩ = some (.slice (some ⟨b, off, none⟩) v.kids.length ep) ∧ w2.cell? ⟨b, off + k * 3, none⟩ = some (.int .i64 v.kids[k].ctor) ∧ w2.cell? ⟨b, off + k * 3 + 1, none⟩ = some (.int .i64 v.kids[k].n) ∧ w2.cell? ⟨b, off + k * 3 + 2, none⟩ = some (.slice A' v.kids[k].kids.length cp)) := fun w2 h => ⟨(h.cell (p := ⟨g, 2, none⟩) (Go.block_lt_of_cell c2x)).trans c2x, (h.cell (p := ⟨w.heap.size, 2, none⟩) (Go.block_lt_of_cell y2)).trans y2, (h.cell (p := ⟨b, off + k * 3, none⟩) (Go.block_lt_of_cell p0)).trans p0, (h.cell (p := ⟨b, off + k * 3 + 1, none⟩) (Go.block_lt_of_cell p1)).trans p1, (h.cell (p := ⟨b, off + k * 3 + 2, none⟩) (Go.block_lt_of_cell p2)).trans p2⟩
      have HKB : Hid (∀ (w2 : World) (o : Obj), Below wr.heap.size wr w2 → ∀ b, (Value.slice Ak k ck).ownBlock = some b → (w2.alloc o).heap[b]? = wr.heap[b]?) := fun w2 o h b e => by
        have := (hob b e).2
        rw [Below.heap_alloc _ _ _ (Nat.lt_of_lt_of_le this h.size), h.block b this]
      have HKC : Hid (∀ (w2 w4 : World) (o : Obj), Below wr.heap.size wr w2 → (w2.alloc o).grownBy w4 (Value.slice Ak k ck).ownBlock → w4.cell? ⟨w.heap.size, 2, none⟩ = some (.slice (some ⟨b, off, none⟩) v.kids.length ep) ∧ w4.cell? ⟨b, off + k * 3, none⟩ = some (.int .i64 v.kids[k].ctor) ∧ w4.cell? ⟨b, off + k * 3 + 1, none⟩ = some (.int .i64 v.kids[k].n) ∧ w4.cell? ⟨b, off + k * 3 + 2, none⟩ = some (.slice A' v.kids[k].kids.length cp)) := fun w2 w4 o h hg => by
        have key : ∀ q, q < wl.heap.size → w4.heap[q]? = wr.heap[q]? := fun q hq => by
          have hlw : q < w2.heap.size := by have := h.size; omega
          rw [hg.block q (by simp; omega) (fun e => by have := (hob q e.symm).1; omega), Below.heap_alloc _ _ _ hlw, h.block q (by omega)]
        have kw := key w.heap.size (by omega)
        have kb := key b hbwl'
        exact ⟨(World.cell?_of_block (a := ⟨w.heap.size, 2, none⟩) kw).trans y2, (World.cell?_of_block (a := ⟨b, off + k * 3, none⟩) kb).trans p0, (World.cell?_of_block (a := ⟨b, off + k * 3 + 1, none⟩) kb).trans p1, (World.cell?_of_block (a := ⟨b, off + k * 3 + 2, none⟩) kb).trans p2⟩
      have hwk : wV v.kids[k] ≤ 1048576 := by have := wV_kid v k hlt; omega
      have HED : Hid (d = d' + 1) := hd
      have HIH : Hid (Calls Tryz.prog 125 #[.agg #[.int .i64 v.kids[k].ctor, .int .i64 v.kids[k].n, .slice A' v.kids[k].kids.length cp]] wr.drew (CpQ d' v.kids[k] wr.drew)) := IH.out d' hd A' cp v.kids[k] wr.drew (hm.keep (fun _ _ => rfl) hbw0.size) hwk
      have HS0 : Hid (wr.drew.cell? ⟨g, 2, none⟩ = some (.slice Ak k ck) ∧ wr.drew.cell? ⟨w.heap.size, 2, none⟩ = some (.slice (some ⟨b, off, none⟩) v.kids.length ep) ∧ wr.drew.cell? ⟨b, off + k * 3, none⟩ = some (.int .i64 v.kids[k].ctor) ∧ wr.drew.cell? ⟨b, off + k * 3 + 1, none⟩ = some (.int .i64 v.kids[k].n) ∧ wr.drew.cell? ⟨b, off + k * 3 + 2, none⟩ = some (.slice A' v.kids[k].kids.length cp)) := ⟨c2x, y2, p0, p1, p2⟩
      clear hgl hf hgc hown hrow hob c2x hbB hfr hvk hm hd hvx hbw0 p0 p1 p2
      go_wp2_with fail
      clear y2
      refine Till.start (S := fun w' => w'.cell? ⟨g, 2, none⟩ = some (.slice Ak k ck) ∧ w'.cell? ⟨w.heap.size, 2, none⟩ = some (.slice (some ⟨b, off, none⟩) v.kids.length ep) ∧ w'.cell? ⟨b, off + k * 3, none⟩ = some (.int .i64 v.kids[k].ctor) ∧ w'.cell? ⟨b, off + k * 3 + 1, none⟩ = some (.int .i64 v.kids[k].n) ∧ w'.cell? ⟨b, off + k * 3 + 2, none⟩ = some (.slice A' v.kids[k].kids.length cp)) (z := 11) (by kernel_rfl) ?_
      refine Till.take_ (i := 0) (d := some 17) (v := .pointer (some ⟨g, 2, none⟩)) (ls' := #[true, false, false, false, false, false, false, false, false, false, false, false]) rfl rfl (by kernel_rfl) (by kernel_rfl) (by kernel_rfl) (by kernel_rfl) (fun _ _ _ h => h) HS0.out (Or.inl ⟨by rfl, fun wq hSw => ?_⟩) (by kernel_rfl) ?_
      · obtain ⟨hs0, hs1, hs2, hs3, hs4⟩ := hSw
        go_simp
      simp only [Act.put, List.setIfInBounds_toArray, List.set_cons_zero, List.set_cons_succ]
      refine Till.take_ (i := 1) (d := some 18) (v := .slice Ak k ck) (ls' := #[true, true, false, false, false, false, false, false, false, false, false, false]) rfl rfl (by kernel_rfl) (by kernel_rfl) (by kernel_rfl) (by kernel_rfl) (fun _ _ _ h => h) HS0.out (Or.inl ⟨by rfl, fun wq hSw => ?_⟩) (by kernel_rfl) ?_
      · obtain ⟨hs0, hs1, hs2, hs3, hs4⟩ := hSw
        go_simp
      simp only [Act.put, List.setIfInBounds_toArray, List.set_cons_zero, List.set_cons_succ]
      refine Till.take_ (i := 2) (d := some 19) (v := .pointer (some ⟨w.heap.size, 2, none⟩)) (ls' := #[true, true, true, false, false, false, false, false, false, false, false, false]) rfl rfl (by kernel_rfl) (by kernel_rfl) (by kernel_rfl) (by kernel_rfl) (fun _ _ _ h => h) HS0.out (Or.inl ⟨by rfl, fun wq hSw => ?_⟩) (by kernel_rfl) ?_
      · obtain ⟨hs0, hs1, hs2, hs3, hs4⟩ := hSw
        go_simp
      simp only [Act.put, List.setIfInBounds_toArray, List.set_cons_zero, List.set_cons_succ]
      refine Till.take_ (i := 3) (d := some 20) (v := .slice (some ⟨b, off, none⟩) v.kids.length ep) (ls' := #[true, true, true, true, false, false, false, false, false, false, false, false]) rfl rfl (by kernel_rfl) (by kernel_rfl) (by kernel_rfl) (by kernel_rfl) (fun _ _ _ h => h) HS0.out (Or.inl ⟨by rfl, fun wq hSw => ?_⟩) (by kernel_rfl) ?_
      · obtain ⟨hs0, hs1, hs2, hs3, hs4⟩ := hSw
        go_simp
      simp only [Act.put, List.setIfInBounds_toArray, List.set_cons_zero, List.set_cons_succ]
      refine Till.take_ (i := 4) (d := some 21) (v := .int .i64 k) (ls' := #[true, true, true, true, true, false, false, false, false, false, false, false]) rfl rfl (by kernel_rfl) (by kernel_rfl) (by kernel_rfl) (by kernel_rfl) (fun _ _ _ h => h) HS0.out (Or.inl ⟨by rfl, fun wq hSw => ?_⟩) (by kernel_rfl) ?_
      · obtain ⟨hs0, hs1, hs2, hs3, hs4⟩ := hSw
        go_simp
      simp only [Act.put, List.setIfInBounds_toArray, List.set_cons_zero, List.set_cons_succ]
      refine Till.take_ (i := 5) (d := some 22) (v := .pointer (some ⟨b, off + k * 3, none⟩)) (ls' := #[true, true, true, true, true, true, false, false, false, false, false, false]) rfl rfl (by kernel_rfl) (by kernel_rfl) (by kernel_rfl) (by kernel_rfl) (fun _ _ _ h => h) HS0.out (Or.inl ⟨by rfl, fun wq hSw => ?_⟩) (by kernel_rfl) ?_
      · obtain ⟨hs0, hs1, hs2, hs3, hs4⟩ := hSw
        go_simp
      simp only [Act.put, List.setIfInBounds_toArray, List.set_cons_zero, List.set_cons_succ]
      refine Till.take_ (i := 6) (d := some 23) (v := .agg #[.int .i64 v.kids[k].ctor, .int .i64 v.kids[k].n, .slice A' v.kids[k].kids.length cp]) (ls' := #[true, true, true, true, true, true, true, false, false, false, false, false]) rfl rfl (by kernel_rfl) (by kernel_rfl) (by kernel_rfl) (by kernel_rfl) (fun _ _ _ h => h) HS0.out (Or.inl ⟨by rfl, fun wq hSw => ?_⟩) (by kernel_rfl) ?_
      · obtain ⟨hs0, hs1, hs2, hs3, hs4⟩ := hSw
        go_simp
      simp only [Act.put, List.setIfInBounds_toArray, List.set_cons_zero, List.set_cons_succ]
      refine Till.all (rs := [7]) (by kernel_rfl) (by decide) (List.forall_mem_cons.2 ⟨?_, fun _ h => nomatch h⟩)
      refine Till.step rfl (by rfl) ?_
      intro K hK
      go_simp
      go_at_call 125
      with_reducible refine (HIH.out).mono ?_
      rintro e2 w2 ⟨A4, c4, rfl, ho4, hb4'⟩
      have hb4 : Below wr.heap.size wr w2 := ⟨hb4'.os, hb4'.tape, hb4'.output, hb4'.size, hb4'.block⟩
      have HS2 := Lib.hid (HKP.out w2 hb4)
      have HB4 := Lib.hid hb4
      have HO4 : Hid (OVs d w2 (Nw wr w2) A4 v.kids[k].kids) := by unfold Hid; rw [HED.out]; exact ho4
      have hbz : wr.heap.size ≤ w2.heap.size := hb4.size
      clear hb4 hb4' ho4
      go_simp
      refine hK _ _ (fun _ => HS2.out) ?_
      clear hK K
      refine Till.all (rs := [8]) (by kernel_rfl) (by decide) (List.forall_mem_cons.2 ⟨?_, fun _ h => nomatch h⟩)
      refine Till.step rfl (by rfl) ?_
      intro K hK
      go_simp
      refine hK _ _ (fun _ => ⟨by have := HS2.out.1; go_keep, by have := HS2.out.2.1; go_keep, by have := HS2.out.2.2.1; go_keep, by have := HS2.out.2.2.2.1; go_keep, by have := HS2.out.2.2.2.2; go_keep⟩) ?_
      clear hK K
      refine Till.all (rs := [9]) (by kernel_rfl) (by decide) (List.forall_mem_cons.2 ⟨?_, fun _ h => nomatch h⟩)
      refine Till.step rfl (by rfl) ?_
      intro K hK
      refine wp_append_own (.tmp 18) (.tmp 25) 29 (by rfl) wl.heap.size 31 i0 (.agg #[.int .i64 0, .int .i64 0, .slice none 0 0]) 3 40 Tryz.underlying29 hi0 hz0 hz1 hz2 (by rfl) (by decide) (.slice Ak k ck) k ys (by rfl) (own_at HOW.out (HKB.out w2 _ HB4.out)) ⟨w2.heap.size, 0, none⟩ 1 1 [.int .i64 v.kids[k].ctor, .int .i64 v.kids[k].n, .slice A4 v.kids[k].kids.length c4] (by rfl) rfl (cell_three_new _ _ _ _ _) (by intro u hu; simp at hu; rcases hu with rfl | rfl | rfl <;> rfl) (by unfold maxLen; omega) (by omega) (by simp; omega) ?_
      intro v4 w4 hown4 hgr4 hat4
      obtain ⟨A5, c5, rfl, hg4, hbl4⟩ := BldV.step HGL.out HFR.out HGC.out HOW.out HRW.out hlt HB4.out HO4.out hown4 hgr4 hat4
      have HS4 := Lib.hid (And.intro ((cell_of_blk hg4 2).trans rfl) (HKC.out w2 w4 _ HB4.out hgr4))
      have hfz : w4.frozen? ⟨g, 2, none⟩ = false := frozen_of_row w4 g 2 _ 31 hg4
      have c4x := HS4.out.1
      have HBL := Lib.hid hbl4
      clear hown4 hgr4 hat4 hg4 hbl4
      refine hK _ _ (fun _ => HS4.out) ?_
      clear hK K
      refine Till.all (rs := [10]) (by kernel_rfl) (by decide) (List.forall_mem_cons.2 ⟨?_, fun _ h => nomatch h⟩)
      refine Till.step rfl (by rfl) ?_
      intro K hK
      go_simp
      refine hK _ _ (fun _ => HS4.out) ?_
      clear hK K
      refine Till.all (rs := [11]) (by kernel_rfl) (by decide) (List.forall_mem_cons.2 ⟨?_, fun _ h => nomatch h⟩)
      refine Till.step rfl (by rfl) ?_
      intro K hK
      go_simp
      refine hK _ _ (fun h => absurd rfl h) ?_
      clear hK K
      refine Till.done (by kernel_rfl) ?_ _
      clear c4x hfz HS4 HS2
      go_wp2_with fail
      go_roundw
      case rel => exact ⟨k + 1, by omega, by go_num, HBL.out⟩
      case measure => simp [intOf]; omega
    · have hke : k = v.kids.length := by omega
      obtain ⟨A6, c6, hg6, ho6, hf6⟩ := HBd.out.all hke hkl
      have hr6 : wr.heap[w.heap.size + 1]? = some (.cells #[.int .i64 0, .int .i64 0, .slice none 0 0] 31 (0, 0)) := hf6.block HXR1.out (by omega)
      have HO6 := Lib.hid ho6
      have g0 := (cell_of_blk hg6 0).trans rfl
      have g1 := (cell_of_blk hg6 1).trans rfl
      have g2 := (cell_of_blk hg6 2).trans rfl
      have r0 := (cell_of_blk hr6 0).trans rfl
      have r1 := (cell_of_blk hr6 1).trans rfl
      have r2 := (cell_of_blk hr6 2).trans rfl
      have f0 := frozen_of_row wr (w.heap.size + 1) 0 _ 31 hr6
      have f1 := frozen_of_row wr (w.heap.size + 1) 1 _ 31 hr6
      have f2 := frozen_of_row wr (w.heap.size + 1) 2 _ 31 hr6
      have hkI : (v.kids.length : Int) ≤ (k : Int) := by omega
      clear hke hg6 ho6 hf6 hr6
      go_wp2_with fail
      refine bodyPost_ret (v := .agg #[.int .i64 v.ctor, .int .i64 v.n, .slice A6 v.kids.length c6]) (by simp [results, Tryz.results125, go_sem, r0, r1, r2]) rfl ⟨A6, c6, rfl, ?_, ?_⟩
      · exact (HO6.out.fr _ (((Fr.set (P := fun b => b = w.heap.size + 1) _ _ _ _ rfl).trans (Fr.set _ _ _ _ rfl)).trans (Fr.set _ _ _ _ rfl)) (fun b hq e => by have := hq.1; omega)).wide _ (fun b hq => ⟨by have := hq.1; omega, by have h2 := hq.2; simpa [World.setCell] using h2⟩)
      · refine Below.setCell (Below.setCell (Below.setCell hbw0 ?_ _) ?_ _) ?_ _ <;> (simp <;> omega)
theorem cpS_any : ∀ d, CpS d
  | 0 => cpS_of 0 (fun _ h => by omega)
  | d + 1 => cpS_of (d + 1) (fun d' h => (Nat.succ.inj h) ▸ cpS_any d)
end Go.Proofs.YthdnfnmglhifmaaGreat
/-
  Bindings in the order of their variables, with copies of the values: the document's function. No statement is proved here.
-/
namespace Go.Proofs.YthdnfnmglhifmaaGreat
open Go.RowKit Go.Sort Go.Deep
set_option maxRecDepth 100000
set_option linter.unusedVariables false
def pickB (L : List Bn) (n : Nat) : List Bn := L.filter (fun b => b.var == (n : Int))
def sortB (L : List Bn) : Nat → List Bn
  | 0 => []
  | n + 1 => sortB L n ++ pickB L n
theorem pick_yes {L : List Bn} {n k : Nat} (h : k < L.length) (e : L[k].var = (n : Int)) : pickB (L.take (k + 1)) n = pickB (L.take k) n ++ [L[k]] := by
  unfold pickB; rw [List.take_succ_eq_append_getElem h, List.filter_append]; congr 1; simp [e]
theorem pick_no {L : List Bn} {n k : Nat} (h : k < L.length) (e : ¬ L[k].var = (n : Int)) : pickB (L.take (k + 1)) n = pickB (L.take k) n := by
  unfold pickB; rw [List.take_succ_eq_append_getElem h, List.filter_append]; simp [e]
theorem pick_len (L : List Bn) (n : Nat) : (pickB L n).length ≤ L.length := List.length_filter_le _ _
theorem sort_len (L : List Bn) (n : Nat) : (sortB L n).length ≤ n * L.length := by
  induction n with
  | zero => simp [sortB]
  | succ n ih => have := pick_len L n; rw [sortB, List.length_append, Nat.succ_mul]; omega
theorem RowB.ext {d : Nat} {w : World} {lo : Nat} {og : Option Nat} {Q : Nat → Nat → Prop} {l l' : List Bn} {xs : List Value} {k : Nat} (h : RowB d w lo og Q l xs k) (hk : k ≤ l.length) : RowB d w lo og Q (l ++ l') xs k := fun j hj hjk => by
  have := h j (by omega) hjk
  rwa [List.getElem_append_left (show j < l.length by omega)]
theorem RowB.move {d : Nat} {w w' : World} {lo : Nat} {og og' : Option Nat} {Q : Nat → Nat → Prop} {l : List Bn} {xs : List Value} {k : Nat} {P' : Nat → Prop} (h : RowB d w lo og Q l xs k) (hf : Fr P' w w') (hp : ∀ b, lo ≤ b → some b ≠ og → b < w.heap.size → ¬ P' b ∧ some b ≠ og') : RowB d w' lo og' Q l xs k := fun j hj hjk => by
  obtain ⟨h1, A', cap, e0, e1, e2, e8, e9⟩ := h j hj hjk
  refine ⟨fun b hb => ?_, A', cap, e0, e1, e2, e8, e9.fr d hf (fun b hb => ?_)⟩
  · obtain ⟨a1, a2, a3, a4⟩ := h1 b hb
    exact ⟨a1, Nat.lt_of_lt_of_le a2 hf.size, (hp b a1 a3 a2).2, a4⟩
  · obtain ⟨a1, a2, a3, a4⟩ := h1 b hb
    exact (hp b a1 a3 a2).1
/-- A list that is made part by part, each value in blocks of its own. -/
def RoB (d : Nat) (w : World) (lo : Nat) (u : Value) (S : List Bn) : Prop := ∃ xs Q, w.ownsRow lo 41 4 u S.length xs ∧ RowB d w lo u.ownBlock Q S xs S.length
theorem RoB.new {d : Nat} (w : World) : RoB d (w.alloc (.cells #[] 41)) w.heap.size (.slice (some ⟨w.heap.size, 0, none⟩) 0 0) [] :=
  ⟨_, fun _ _ => False, World.ownsRow_lit w #[] 0 (Nat.le_refl _) (Nat.zero_le _) rfl, RowB.zero _ _ _ _ _ _ _⟩
theorem RoB.below {d : Nat} {w w' : World} {lo : Nat} {u : Value} {S : List Bn} (h : RoB d w lo u S) (hb : Below w.heap.size w w') : RoB d w' lo u S := by
  obtain ⟨xs, Q, ho, hr⟩ := h
  obtain ⟨_, _, _, h2⟩ := own_form ho
  exact ⟨xs, Q, own_at ho (fun b e => hb.block b (h2 b e).2), hr.fr (P' := fun _ => False) (Fr.below hb) (fun _ _ _ _ h => h)⟩
theorem RoB.step {d : Nat} {wr w2 w4 : World} {lo : Nat} {u v' : Value} {S : List Bn} {b : Bn} {A2 : Option Addr} {c2 : Nat} {xs : List Value} {Q : Nat → Nat → Prop} {box : Obj}
    (ho : wr.ownsRow lo 41 4 u S.length xs) (hrow : RowB d wr lo u.ownBlock Q S xs S.length) (hlo : lo ≤ wr.heap.size) (hb : Below wr.heap.size wr w2) (hkid : OVs d w2 (Nw wr w2) A2 b.val.kids)
    (hown : w4.ownsRow lo 41 4 v' (S.length + 1) (xs ++ [Value.int .i64 b.var, .int .i64 b.val.ctor, .int .i64 b.val.n, .slice A2 b.val.kids.length c2])) (hgr : (w2.alloc box).grownBy w4 u.ownBlock) (hat : v'.ownBlock = u.ownBlock ∨ v'.ownBlock = some (w2.alloc box).heap.size) : RoB d w4 lo v' (S ++ [b]) := by
  have hys := ho.1
  obtain ⟨_, _, _, hob⟩ := own_form ho
  have hb2 := hb.size
  have hz : (w2.alloc box).heap.size = w2.heap.size + 1 := by simp
  have hF : Fr (fun b => some b = u.ownBlock) w2 w4 := (Fr.below ((Below.refl _ w2).alloc (Nat.le_refl _) box)).trans (Fr.grown hgr (fun b e => e))
  have hlt : S.length < (S ++ [b]).length := by simp
  have he : (S ++ [b])[S.length] = b := by simp
  have hr2 := (hrow.ext (l' := [b]) (Nat.le_refl _)).more (xs' := xs ++ [Value.int .i64 b.var, .int .i64 b.val.ctor, .int .i64 b.val.n, .slice A2 b.val.kids.length c2]) (cap := c2) (A' := A2) hb hlt hlo (fun b e => (hob b e).2) (by rw [he]; exact hkid) (fun j i hj hi => List.getElem?_append_left (by omega))
    (by rw [he, List.getElem?_append_right (by omega), show S.length * 4 - xs.length = 0 by omega]; rfl) (by rw [he, List.getElem?_append_right (by omega), show S.length * 4 + 1 - xs.length = 1 by omega]; rfl)
    (by rw [he, List.getElem?_append_right (by omega), show S.length * 4 + 2 - xs.length = 2 by omega]; rfl) (by rw [he, List.getElem?_append_right (by omega), show S.length * 4 + 3 - xs.length = 3 by omega]; rfl)
  have hr3 := hr2.move (og' := v'.ownBlock) hF (fun b h1 h2 h3 => ⟨fun h => h2 h, fun e => by
    rcases hat with h | h
    · exact h2 (e.trans h)
    · rw [h] at e; injection e with e; omega⟩)
  have hl : (S ++ [b]).length = S.length + 1 := by simp
  exact ⟨_, _, by rw [hl]; exact hown, by rw [hl]; exact hr3⟩
/-- What is returned: the list, in blocks of its own. -/
def SoQ (d : Nat) (S : List Bn) (w : World) (E : Ending) (w' : World) : Prop := ∃ A c, E = .returned (.slice A S.length c) ∧ OBs (d + 1) w' (Nw w w') A S ∧ Below w.heap.size w w'
set_option maxHeartbeats 4000000 in
theorem so_any (d : Nat) (A : Option Addr) (cap : Nat) (L : List Bn) (w : World) (hr : RBs d w w.heap.size A L) (hL : L.length ≤ 1000) (hv : ∀ b ∈ L, wV b.val ≤ 1048576) :
    Calls Tryz.prog 63 #[.slice A L.length cap] w (SoQ d (sortB L 6) w) := by
  obtain ⟨i0, hi, hz0, hz1, hz2⟩ := info_parts infoBn
  have HR := Lib.hid hr
  have HV := Lib.hid hv
  clear hr hv
  generalize hwx : w.alloc (.cells #[] 41) = wx
  have hbx : Below w.heap.size w wx := by rw [← hwx]; exact (Below.refl _ _).alloc (Nat.le_refl _) _
  have HRO : Hid (RoB (d + 1) wx w.heap.size (.slice (some ⟨w.heap.size, 0, none⟩) 0 0) []) := by rw [← hwx]; exact RoB.new w
  have HW := Lib.hid hwx
  clear hwx
  go_enter Tryz.func63, Tryz.ntmps63
  go_wp2_with fail
  rw [HW.out]
  go_loopw [3, 4] (fun us i wr => ∃ n : Nat, n ≤ 6 ∧ i = .int .i64 n ∧ ∃ u S, u = us ∧ Hid (RoB (d + 1) wr w.heap.size u S) ∧ Hid (S = sortB L n) ∧ Below w.heap.size w wr) (fun _ i _ => 6 - (intOf i).toNat)
  case atStart => exact ⟨0, by omega, rfl, _, [], rfl, HRO.out, rfl, hbx⟩
  case round =>
    obtain ⟨n, hn, rfl, u, S, rfl, HO, HS, hb⟩ := hrel
    by_cases hlt : n < 6
    · have hnI : (n : Int) ≤ 5 := by omega
      go_wp2_with fail
      go_loopw [3, 5] (fun us i wq => ∃ k : Nat, k ≤ L.length ∧ i = .int .i64 k ∧ ∃ su S2, su = us ∧ Hid (RoB (d + 1) wq w.heap.size su S2) ∧ Hid (S2 = sortB L n ++ pickB (L.take k) n) ∧ Below w.heap.size w wq) (fun _ i _ => L.length - (intOf i).toNat)
      case atStart => exact ⟨0, by omega, rfl, _, S, rfl, HO.out, by unfold Hid; rw [HS.out]; simp [pickB], hb⟩
      case round =>
        obtain ⟨k, hk, rfl, su, S2, rfl, HO2, HS2, hbq⟩ := hrel
        have hbs := hbq.size
        by_cases hlk : k < L.length
        · have hkI : (k : Int) < (L.length : Int) := by omega
          obtain ⟨g, off, rfl, hgB, A', cp, c0, c1, c2, c3, hm⟩ := (HR.out.below hbq (Nat.le_refl _)).2 k hlk
          have Hm := Lib.hid (hm.keep (fun _ _ => rfl) hbq.size)
          clear hm
          by_cases hv : L[k].var = (n : Int)
          · have q1 : (L[k].var == (n : Int)) = true := by simpa using hv
            have HP := Lib.hid (pick_yes hlk hv)
            have HWV : Hid (wV L[k].val ≤ 1048576) := HV.out _ (List.getElem_mem hlk)
            have HLen : Hid (S2.length ≤ 7000) := by unfold Hid; rw [HS2.out, List.length_append]; have a := sort_len L n; have b := pick_len (L.take k) n; rw [List.length_take] at b; have c : n * L.length ≤ 5 * L.length := Nat.mul_le_mul_right _ (by omega); omega
            have HVV := Lib.hid hv
            clear hv
            have HCP : Hid (∀ W : World, RVs d W W.heap.size A' L[k].val.kids → Calls Tryz.prog 125 #[.agg #[.int .i64 L[k].val.ctor, .int .i64 L[k].val.n, .slice A' L[k].val.kids.length cp]] W (CpQ d L[k].val W)) := fun W h => cpS_any d A' cp L[k].val W h HWV.out
            have HVR : Hid (Value.int .i64 (n : Int) = .int .i64 L[k].var) := by unfold Hid; rw [HVV.out]
            obtain ⟨xs, Q, hown, hrow⟩ := HO2.out
            obtain ⟨Au, cu, rfl, hob⟩ := own_form hown
            have HOX := Lib.hid hown
            have HRX := Lib.hid hrow
            have HOB := Lib.hid hob
            have HC3 : Hid (S2.length + 1 ≤ maxLen) := by unfold Hid maxLen; have := HLen.out; omega
            have HC4 : Hid ((S2.length + 1) * 48 ≤ 140737488355328) := by unfold Hid; have := HLen.out; omega
            clear hown hrow hob
            go_wp2_with (first
              | (go_at_call 125; (with_reducible refine (HCP.out _ Hm.out).mono ?_); rintro e1 w2 ⟨A2, c2', rfl, hov, hb2⟩; have HOV := Lib.hid hov; have HB2 := Lib.hid hb2; clear hov hb2 c0 c1 c2 c3;
                  have hb2s := HB2.out.size;
                  have HOA : Hid ((w2.alloc (.cells #[.int .i64 (n : Int), .int .i64 L[k].val.ctor, .int .i64 L[k].val.n, .slice A2 L[k].val.kids.length c2'] 41)).ownsRow w.heap.size 41 4 (.slice Au S2.length cu) S2.length xs) := own_at HOX.out (fun b e => by rw [Below.heap_alloc _ _ _ (by have := (HOB.out b e).2; omega)]; exact HB2.out.block b (HOB.out b e).2);
                  have HC1 := Lib.hid (cell_four_new w2 (.int .i64 (n : Int)) (.int .i64 L[k].val.ctor) (.int .i64 L[k].val.n) (.slice A2 L[k].val.kids.length c2') 41);
                  have HC2 : Hid (∀ q ∈ [Value.int .i64 (n : Int), .int .i64 L[k].val.ctor, .int .i64 L[k].val.n, .slice A2 L[k].val.kids.length c2'], q.oneCell' = true) := (by intro q hq; simp at hq; rcases hq with rfl | rfl | rfl | rfl <;> rfl);
                  have HC5 : Hid (w.heap.size ≤ (w2.alloc (.cells #[.int .i64 (n : Int), .int .i64 L[k].val.ctor, .int .i64 L[k].val.n, .slice A2 L[k].val.kids.length c2'] 41)).heap.size) := (by unfold Hid; rw [World.size_alloc]; have := hbq.size; omega))
              | (at_builtin; refine wpList_append_own_at _ rfl _ _ 34 rfl w.heap.size 41 i0 _ 4 48 Tryz.underlying34 hi hz0 hz1 hz2 rfl (by decide) (.slice Au S2.length cu) _ xs rfl HOA.out ⟨w2.heap.size, 0, none⟩ 1 1 [Value.int .i64 (n : Int), .int .i64 L[k].val.ctor, .int .i64 L[k].val.n, .slice A2 L[k].val.kids.length c2'] rfl rfl HC1.out HC2.out HC3.out HC4.out HC5.out ?_; intro v' w4 hown' hgr' hnn' hat')
              | fail)
            have hb4 : Below w.heap.size w w4 := ((hbq.trans (HB2.out.mono hbs)).alloc (by omega) _).grown hgr' HC5.out (fun b e => (HOB.out b e).1)
            rw [HVR.out] at hown'
            have HR4 : Hid (RoB (d + 1) w4 w.heap.size v' (S2 ++ [L[k]])) := RoB.step HOX.out HRX.out hbs HB2.out HOV.out hown' hgr' hat'
            clear hown' hgr' hat' hnn'
            go_roundw
            case rel => exact ⟨k + 1, by omega, by go_num, _, _, rfl, HR4.out, by unfold Hid; rw [HP.out, HS2.out, List.append_assoc], hb4⟩
            case measure => simp [intOf]; omega
          · have q1 : (L[k].var == (n : Int)) = false := by simpa using hv
            have HP := Lib.hid (pick_no hlk hv)
            clear hv
            go_wp2_with fail
            go_roundw
            case rel => exact ⟨k + 1, by omega, by go_num, _, _, rfl, HO2.out, by unfold Hid; rw [HP.out]; exact HS2.out, hbq⟩
            case measure => simp [intOf]; omega
        · have he : k = L.length := by omega
          have hkI : (L.length : Int) ≤ (k : Int) := by omega
          have HS3 : Hid (S2 = sortB L (n + 1)) := by unfold Hid; rw [HS2.out, he, List.take_length]; rfl
          clear he
          go_wp2_with fail
          go_roundw
          case rel => exact ⟨n + 1, by omega, by go_num, _, _, rfl, HO2.out, HS3.out, hbq⟩
          case measure => simp [intOf]; omega
    · have he : n = 6 := by omega
      have HS6 : Hid (S = sortB L 6) := by unfold Hid; rw [← he]; exact HS.out
      have hnI : (5 : Int) < (n : Int) := by omega
      have HLen : Hid (S.length ≤ 1048576) := by unfold Hid; rw [HS6.out]; have := sort_len L 6; omega
      clear he
      obtain ⟨xs, Q, hown, hrow⟩ := HO.out
      obtain ⟨A6, c6, rfl, ho6⟩ := OBs.of_row hown hrow HLen.out
      rw [HS6.out] at ho6
      have HO6 := Lib.hid ho6
      have HEQ : Hid (S.length = (sortB L 6).length) := by unfold Hid; rw [HS6.out]
      clear hown hrow ho6
      go_wp2_with fail
      go_ret
      exact ⟨A6, c6, by rw [← HEQ.out]; rfl, HO6.out, hb⟩
end Go.Proofs.YthdnfnmglhifmaaGreat
/-
  MatchPattern: the document's function. No statement is proved here.
-/
namespace Go.Proofs.YthdnfnmglhifmaaGreat
open Go.RowKit Go.Sort Go.Deep
set_option maxRecDepth 100000
set_option linter.unusedVariables false
/-- What is asked for. -/
noncomputable def mqO (l : List Da) (t : Ty) (p : Pt) (v : Vl) : Option (List Bn) := if (pvT l t p && isV l t v) = true then (mtS 10 p v).map (sortB · 6) else none
theorem mqO_no1 {l : List Da} {t : Ty} {p : Pt} {v : Vl} (h : pvT l t p = false) : mqO l t p v = none := by unfold mqO; rw [h]; rfl
theorem mqO_no2 {l : List Da} {t : Ty} {p : Pt} {v : Vl} (h : isV l t v = false) : mqO l t p v = none := by unfold mqO; rw [h, Bool.and_false]; rfl
theorem mqO_yes {l : List Da} {t : Ty} {p : Pt} {v : Vl} (h : pvT l t p = true) (h' : isV l t v = true) : mqO l t p v = (mtS 10 p v).map (sortB · 6) := by unfold mqO; rw [h, h']; rfl
theorem isV_parts {l : List Da} {t : Ty} {v : Vl} (h : isV l t v = true) : fitV l 10 t v = true ∧ 1 + wV v ≤ 60 := by
  unfold isV at h
  rw [Bool.and_eq_true] at h
  exact ⟨h.1, of_decide_eq_true h.2⟩
theorem add_at (g n : Nat) : (⟨g, 0, none⟩ : Addr).add n = ⟨g, 0 + n, none⟩ := by
  unfold Addr.add
  by_cases e : n = 0
  · rw [if_pos e, e]
  · rw [if_neg e]
theorem OBr.reads {d : Nat} {w : World} {lo B : Nat} {u : Value} {L : List Bn} (h : OBr d w lo B u L) (hB : B ≤ w.heap.size) (hL : L.length ≤ maxLen) : ∃ A cap, u = .slice A L.length cap ∧ RBs d w w.heap.size A L := by
  rcases h.is with ⟨rfl, rfl⟩ | ⟨g, cap, xs, rfl, _, hg, hxl, hx, hc⟩
  · exact ⟨none, 0, rfl, RBs.nil⟩
  · refine ⟨_, cap, rfl, hL, fun k hk => ?_⟩
    obtain ⟨A', c', e0, e1, e2, e3, hv⟩ := hx k hk
    have c0 := hc _ _ e0
    have c1 := hc _ _ e1
    have c2 := hc _ _ e2
    have c3 := hc _ _ e3
    rw [add_at] at c0 c1 c2 c3
    exact ⟨g, 0, rfl, hg, A', c', c0, c1, c2, c3, hv.keep (fun _ _ => rfl) hB⟩
theorem wV_getD (v : Vl) (k : Nat) : wV (v.kids.getD k default) ≤ wV v := by
  by_cases h : k < v.kids.length
  · rw [getD_vl h]; exact wV_kid v k h
  · rw [List.getD_eq_getElem?_getD, List.getElem?_eq_none (by omega)]; exact Nat.zero_le _
theorem catO_mem {f : Nat → Option (List Bn)} {P : Bn → Prop} : ∀ {k : Nat} {L : List Bn}, (∀ i L', i < k → f i = some L' → ∀ b ∈ L', P b) → catO f k = some L → ∀ b ∈ L, P b
  | 0, L, _, h, b, hb => by cases h; cases hb
  | k + 1, L, hf, h, b, hb => by
    cases hc : catO f k with
    | none => rw [catO_up 1 hc] at h; cases h
    | some M =>
      cases hk : f k with
      | none => rw [catO_none (Nat.lt_succ_self k) hk] at h; cases h
      | some M' =>
        rw [catO_some hc hk] at h
        cases h
        rcases List.mem_append.1 hb with h1 | h1
        · exact catO_mem (fun i L' hi h => hf i L' (by omega) h) hc b h1
        · exact hf k M' (by omega) hk b h1
/-- What variables stand for are parts of the value. -/
theorem mtS_wV : ∀ (d : Nat) (p : Pt) (v : Vl) (L : List Bn), mtS d p v = some L → ∀ b ∈ L, wV b.val ≤ wV v
  | 0, _, _, _, h => by cases h
  | d + 1, p, v, L, h => by
    rw [mtS] at h
    by_cases h2 : p.op = 2
    · rw [if_pos h2] at h; cases h; intro b hb; simp at hb; subst hb; exact Nat.le_refl _
    rw [if_neg h2] at h
    by_cases h3 : p.op = 3
    · rw [if_pos h3] at h
      by_cases hc : p.n ≤ v.n ∧ v.n ≤ p.m
      · rw [if_pos hc] at h; cases h; intro b hb; cases hb
      · rw [if_neg hc] at h; cases h
    rw [if_neg h3] at h
    by_cases h4 : p.op = 4
    · rw [if_pos h4] at h
      by_cases hc : p.ctor = v.ctor
      · rw [if_pos hc] at h
        exact catO_mem (fun i L' _ hi b hb => Nat.le_trans (mtS_wV d _ _ L' hi b hb) (wV_getD v i)) h
      · rw [if_neg hc] at h; cases h
    rw [if_neg h4] at h
    by_cases h5 : p.op = 5
    · rw [if_pos h5] at h
      cases hq : mtS d (p.kids.getD 0 default) v with
      | none => rw [hq] at h; exact mtS_wV d _ v L h
      | some L0 => rw [hq] at h; cases h; exact mtS_wV d _ v _ hq
    rw [if_neg h5] at h
    by_cases h6 : p.op = 6
    · rw [if_pos h6] at h
      obtain ⟨L2, hq, rfl⟩ := Option.map_eq_some_iff.1 h
      intro b hb
      rcases List.mem_cons.1 hb with h1 | h1
      · rw [h1]; exact Nat.le_refl _
      · exact mtS_wV d _ v _ hq b h1
    rw [if_neg h6] at h
    cases h; intro b hb; cases hb
end Go.Proofs.YthdnfnmglhifmaaGreat
