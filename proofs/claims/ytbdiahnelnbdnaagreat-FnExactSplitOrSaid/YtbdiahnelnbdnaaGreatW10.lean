/-
  A pattern copied: the document's functions. No statement is proved here.
-/
import Derived.Test.YtbdiahnelnbdnaaGreatW08
import Derived.Test.YtbdiahnelnbdnaaGreatW05
import Derived.Test.YtbdiahnelnbdnaaGreatW06
import Derived.Test.YtbdiahnelnbdnaaGreatW01
import Derived.Test.YtbdiahnelnbdnaaGreatW04
import Derived.Test.YtbdiahnelnbdnaaGreatW09
namespace Go.Proofs.YtbdiahnelnbdnaaGreat
open Go.RowKit Go.Sort Go.Deep
set_option maxRecDepth 100000
set_option linter.unusedVariables false
/-- A box with a pattern. -/
def PBy (w : World) (b : Nat) (v : Pt) (ks : Value) : Prop := w.cell? ⟨b, 0, none⟩ = some (.int .i64 v.op) ∧ w.cell? ⟨b, 1, none⟩ = some (.int .i64 v.ctor) ∧ w.cell? ⟨b, 2, none⟩ = some (.int .i64 v.n) ∧ w.cell? ⟨b, 3, none⟩ = some (.int .i64 v.m) ∧ w.cell? ⟨b, 4, none⟩ = some (.int .i64 v.var) ∧ w.cell? ⟨b, 5, none⟩ = some ks
theorem PBy.at_ {w w' : World} {b : Nat} {v : Pt} {ks : Value} (h : PBy w b v ks) (hb : Below w.heap.size w w') : PBy w' b v ks := by
  obtain ⟨h0, h1, h2, h3, h4, h5⟩ := h
  have hk : ∀ (o : Nat) (u : Value), w.cell? ⟨b, o, none⟩ = some u → w'.cell? ⟨b, o, none⟩ = some u := fun o u hu => (hb.cell (p := ⟨b, o, none⟩) (Go.block_lt_of_cell hu)).trans hu
  exact ⟨hk _ _ h0, hk _ _ h1, hk _ _ h2, hk _ _ h3, hk _ _ h4, hk _ _ h5⟩
/-- What is returned: the copy, in blocks of its own. -/
def CpQP (d : Nat) (v : Pt) (w : World) (e : Ending) (w' : World) : Prop := ∃ B c, e = .returned (.agg #[.int .i64 v.op, .int .i64 v.ctor, .int .i64 v.n, .int .i64 v.m, .int .i64 v.var, .slice B v.kids.length c]) ∧ OPs (d + 1) w' (Nw w w') B v.kids ∧ Below w.heap.size w w'
def CpSP (d : Nat) : Prop := ∀ (D : Option Addr) (ep : Nat) (v : Pt) (w : World), RPs d w w.heap.size D v.kids → wP v ≤ 1048576 →
  Calls Tryz.prog 35 #[.agg #[.int .i64 v.op, .int .i64 v.ctor, .int .i64 v.n, .int .i64 v.m, .int .i64 v.var, .slice D v.kids.length ep]] w (CpQP d v w)
set_option maxHeartbeats 4000000 in
theorem cpSP_of (d : Nat) (ih : ∀ d', d = d' + 1 → CpSP d') : CpSP d := by
  intro D ep v w hv hn
  obtain ⟨i0, hi0, hz0, hz1, hz2⟩ := info_parts infoOP
  have hl := hv.1
  unfold maxLen at hl
  have HV := Lib.hid hv
  have IH := Lib.hid ih
  have hkl : v.kids.length ≤ 1048576 := by have h2 := wP_kids v; have h3 := wPs_sum v.kids; omega
  clear hv ih
  generalize hwx : (w.alloc (.cells #[.int .i64 v.op, .int .i64 v.ctor, .int .i64 v.n, .int .i64 v.m, .int .i64 v.var, .slice D v.kids.length ep] 38)).alloc (.cells #[.int .i64 0, .int .i64 0, .int .i64 0, .int .i64 0, .int .i64 0, .slice none 0 0] 38) = wx
  have hbx : Below w.heap.size w wx := by rw [← hwx]; exact ((Below.refl _ _).alloc (Nat.le_refl _) _).alloc (by simp) _
  have HXV : Hid (PBy wx w.heap.size v (.slice D v.kids.length ep)) := by rw [← hwx]; exact ⟨by simp [go_sem], by simp [go_sem], by simp [go_sem], by simp [go_sem], by simp [go_sem], by simp [go_sem]⟩
  have HXR : Hid (ZbP wx (w.heap.size + 1)) := by
    have h := ZbP.new (w.alloc (.cells #[.int .i64 v.op, .int .i64 v.ctor, .int .i64 v.n, .int .i64 v.m, .int .i64 v.var, .slice D v.kids.length ep] 38))
    simp only [World.size_alloc] at h
    unfold Hid; rw [← hwx]; exact h
  have hsx : wx.heap.size = w.heap.size + 2 := by rw [← hwx]; simp
  have HWX := Lib.hid hwx
  clear hwx
  generalize hwl : wx.alloc (.cells #[.int .i64 v.op, .int .i64 v.ctor, .int .i64 v.n, .int .i64 v.m, .int .i64 v.var, .slice none 0 0] 38) = wl
  have hbl : Below wx.heap.size wx wl := by rw [← hwl]; exact (Below.refl _ _).alloc (Nat.le_refl _) _
  have HG : Hid (wl.heap[wx.heap.size]? = some (.cells #[.int .i64 v.op, .int .i64 v.ctor, .int .i64 v.n, .int .i64 v.m, .int .i64 v.var, .slice none 0 0] 38 (0, 0))) := by unfold Hid; rw [← hwl]; exact heap_alloc_new _ _
  have HWL := Lib.hid hwl
  have HXV1 := Lib.hid (HXV.out.at_ hbl)
  have HXR1 : Hid (ZbP wl (w.heap.size + 1)) := HXR.out.at_ hbl
  have hbwl : Below w.heap.size w wl := hbx.trans (hbl.mono hbx.size)
  have hsl : wx.heap.size < wl.heap.size := heap_lt HG.out
  clear hwl
  obtain ⟨x0, x1, x2, x3, x4, x5⟩ := HXV.out
  have hq0 : w.heap.size < wx.heap.size := by omega
  generalize hg : wx.heap.size = g at HG hsl hq0
  have hgx : g = w.heap.size + 2 := by omega
  go_enter Tryz.func35, Tryz.ntmps35
  go_wp2_with fail
  rw [HWX.out, HWL.out]
  rw [show w.heap.size + 1 + 1 = g by omega]
  have hgl1 : w.heap.size + 2 ≤ g := by omega
  have hgl2 : g ≤ w.heap.size + 2 := by omega
  clear hgx hg hsx
  clear x0 x1 x2 x3 x4 x5 hbx hbl
  obtain ⟨x0, x1, x2, x3, x4, x5⟩ := HXV1.out
  go_loopw [4] (fun i wr => ∃ k : Nat, k ≤ v.kids.length ∧ i = .int .i64 k ∧ Hid (BldP d wl wr g v.op v.ctor v.n v.m v.var v.kids k)) (fun i _ => v.kids.length - (intOf i).toNat)
  case atStart => exact ⟨0, by omega, rfl, BldP.zero HG.out⟩
  case round =>
    clear x0 x1 x2 x3 x4 x5
    obtain ⟨k, hk, rfl, HBd⟩ := hrel
    have hfr := HBd.out.2.1
    have hwr := hfr.size
    have hbw0 : Below w.heap.size w wr := hbwl.trans (hfr.to hbwl.size (fun b h => by omega))
    have hvx : wr.heap[w.heap.size]? = wl.heap[w.heap.size]? := hfr.2.2.2.2 _ (by omega) (by omega)
    have y2 := (World.cell?_of_block (a := ⟨w.heap.size, 5, none⟩) hvx).trans HXV1.out.2.2.2.2.2
    by_cases hlt : k < v.kids.length
    · have hkI : (k : Int) < (v.kids.length : Int) := by omega
      obtain ⟨b, off, rfl, hbB, hvk⟩ := (HV.out.below hbw0 (Nat.le_refl _)).2 k hlt
      obtain ⟨d', hd, A', cp, p0, p1, p2, p3, p4, p5, hm⟩ := hvk.parts
      obtain ⟨hgl, hf, Ak, ck, ys, Q, hgc, hown, hrow⟩ := HBd.out
      obtain ⟨_, _, _, hob⟩ := own_form hown
      have HGL := Lib.hid hgl
      have HFR := Lib.hid hf
      have HGC := Lib.hid hgc
      have HOW := Lib.hid hown
      have HRW := Lib.hid hrow
      have c2x : wr.cell? ⟨g, 5, none⟩ = some (.slice Ak k ck) := (cell_of_blk hgc 5).trans rfl
      have hbwl' : b < wl.heap.size := by have := hbwl.size; omega
      have Y2 := Lib.hid y2
      have P0 := Lib.hid p0
      have P1 := Lib.hid p1
      have P2 := Lib.hid p2
      have P3 := Lib.hid p3
      have P4 := Lib.hid p4
      have P5 := Lib.hid p5
      have HKP : Hid (∀ w2, Below wr.heap.size wr w2 → w2.cell? ⟨g, 5, none⟩ = some (.slice Ak k ck) ∧ Hid (w2.heap[w.heap.size]? = wr.heap[w.heap.size]? ∧ w2.heap[b]? = wr.heap[b]?)) := fun w2 h => ⟨(h.cell (p := ⟨g, 5, none⟩) (Go.block_lt_of_cell c2x)).trans c2x, h.block _ (Go.block_lt_of_cell y2), h.block _ (Go.block_lt_of_cell p0)⟩
      have HKQ : Hid (∀ w2, Below wr.heap.size wr w2 → ∀ o, Hid ((w2.alloc o).heap[w.heap.size]? = wr.heap[w.heap.size]? ∧ (w2.alloc o).heap[b]? = wr.heap[b]?)) := fun w2 h o => by
        have := h.size
        have h1 := Go.block_lt_of_cell y2
        have h2 := Go.block_lt_of_cell p0
        exact ⟨(Below.heap_alloc _ _ _ (Nat.lt_of_lt_of_le h1 this)).trans (h.block _ h1), (Below.heap_alloc _ _ _ (Nat.lt_of_lt_of_le h2 this)).trans (h.block _ h2)⟩
      have HKB : Hid (∀ (w2 : World) (o : Obj), Below wr.heap.size wr w2 → ∀ b, (Value.slice Ak k ck).ownBlock = some b → (w2.alloc o).heap[b]? = wr.heap[b]?) := fun w2 o h b e => by
        have := (hob b e).2
        rw [Below.heap_alloc _ _ _ (Nat.lt_of_lt_of_le this h.size), h.block b this]
      have HKC : Hid (∀ (w2 w4 : World) (o : Obj), Below wr.heap.size wr w2 → (w2.alloc o).grownBy w4 (Value.slice Ak k ck).ownBlock → Hid (w4.heap[w.heap.size]? = wr.heap[w.heap.size]? ∧ w4.heap[b]? = wr.heap[b]?)) := fun w2 w4 o h hg => by
        have key : ∀ q, q < wl.heap.size → w4.heap[q]? = wr.heap[q]? := fun q hq => by
          have hlw : q < w2.heap.size := by have := h.size; omega
          rw [hg.block q (by simp; omega) (fun e => by have := (hob q e.symm).1; omega), Below.heap_alloc _ _ _ hlw, h.block q (by omega)]
        exact ⟨key w.heap.size (by omega), key b hbwl'⟩
      have hwk : wP v.kids[k] ≤ 1048576 := by have := wP_kid v k hlt; omega
      have HED : Hid (d = d' + 1) := hd
      have HIH : Hid (Calls Tryz.prog 35 #[.agg #[.int .i64 v.kids[k].op, .int .i64 v.kids[k].ctor, .int .i64 v.kids[k].n, .int .i64 v.kids[k].m, .int .i64 v.kids[k].var, .slice A' v.kids[k].kids.length cp]] wr.drew (CpQP d' v.kids[k] wr.drew)) := IH.out d' hd A' cp v.kids[k] wr.drew (hm.keep (fun _ _ => rfl) hbw0.size) hwk
      have HS0 : Hid (wr.drew.cell? ⟨g, 5, none⟩ = some (.slice Ak k ck) ∧ Hid (wr.drew.heap[w.heap.size]? = wr.heap[w.heap.size]? ∧ wr.drew.heap[b]? = wr.heap[b]?)) := ⟨c2x, rfl, rfl⟩
      clear hgl hf hgc hown hrow hob c2x hbB hfr hvk hm hd hvx hbw0 p0 p1 p2 p3 p4 p5
      go_wp2_with fail
      clear y2
      refine Till.start (S := fun w' => w'.cell? ⟨g, 5, none⟩ = some (.slice Ak k ck) ∧ Hid (w'.heap[w.heap.size]? = wr.heap[w.heap.size]? ∧ w'.heap[b]? = wr.heap[b]?)) (z := 11) (by kernel_rfl) ?_
      refine Till.take_ (i := 0) (d := some 14) (v := .pointer (some ⟨g, 5, none⟩)) (ls' := #[true, false, false, false, false, false, false, false, false, false, false, false]) rfl rfl (by kernel_rfl) (by kernel_rfl) (by kernel_rfl) (by kernel_rfl) (fun _ _ _ h => h) HS0.out (Or.inl ⟨by rfl, fun wq hSw => ?_⟩) (by kernel_rfl) ?_
      · obtain ⟨hs0, hs1, hs2⟩ := hSw
        go_simp
      simp only [Act.put, List.setIfInBounds_toArray, List.set_cons_zero, List.set_cons_succ]
      refine Till.take_ (i := 1) (d := some 15) (v := .slice Ak k ck) (ls' := #[true, true, false, false, false, false, false, false, false, false, false, false]) rfl rfl (by kernel_rfl) (by kernel_rfl) (by kernel_rfl) (by kernel_rfl) (fun _ _ _ h => h) HS0.out (Or.inl ⟨by rfl, fun wq hSw => ?_⟩) (by kernel_rfl) ?_
      · obtain ⟨hs0, hs1, hs2⟩ := hSw
        go_simp
      simp only [Act.put, List.setIfInBounds_toArray, List.set_cons_zero, List.set_cons_succ]
      refine Till.take_ (i := 2) (d := some 16) (v := .pointer (some ⟨w.heap.size, 5, none⟩)) (ls' := #[true, true, true, false, false, false, false, false, false, false, false, false]) rfl rfl (by kernel_rfl) (by kernel_rfl) (by kernel_rfl) (by kernel_rfl) (fun _ _ _ h => h) HS0.out (Or.inl ⟨by rfl, fun wq hSw => ?_⟩) (by kernel_rfl) ?_
      · obtain ⟨hs0, hs1, hs2⟩ := hSw
        go_simp
      simp only [Act.put, List.setIfInBounds_toArray, List.set_cons_zero, List.set_cons_succ]
      refine Till.take_ (i := 3) (d := some 17) (v := .slice (some ⟨b, off, none⟩) v.kids.length ep) (ls' := #[true, true, true, true, false, false, false, false, false, false, false, false]) rfl rfl (by kernel_rfl) (by kernel_rfl) (by kernel_rfl) (by kernel_rfl) (fun _ _ _ h => h) HS0.out (Or.inl ⟨by rfl, fun wq hSw => ?_⟩) (by kernel_rfl) ?_
      · obtain ⟨hs0, hs1, hs2⟩ := hSw
        have s5 := (World.cell?_of_block (a := ⟨w.heap.size, 5, none⟩) hs1).trans Y2.out
        go_simp
      simp only [Act.put, List.setIfInBounds_toArray, List.set_cons_zero, List.set_cons_succ]
      refine Till.take_ (i := 4) (d := some 18) (v := .int .i64 k) (ls' := #[true, true, true, true, true, false, false, false, false, false, false, false]) rfl rfl (by kernel_rfl) (by kernel_rfl) (by kernel_rfl) (by kernel_rfl) (fun _ _ _ h => h) HS0.out (Or.inl ⟨by rfl, fun wq hSw => ?_⟩) (by kernel_rfl) ?_
      · obtain ⟨hs0, hs1, hs2⟩ := hSw
        go_simp
      simp only [Act.put, List.setIfInBounds_toArray, List.set_cons_zero, List.set_cons_succ]
      refine Till.take_ (i := 5) (d := some 19) (v := .pointer (some ⟨b, off + k * 6, none⟩)) (ls' := #[true, true, true, true, true, true, false, false, false, false, false, false]) rfl rfl (by kernel_rfl) (by kernel_rfl) (by kernel_rfl) (by kernel_rfl) (fun _ _ _ h => h) HS0.out (Or.inl ⟨by rfl, fun wq hSw => ?_⟩) (by kernel_rfl) ?_
      · obtain ⟨hs0, hs1, hs2⟩ := hSw
        go_simp
      simp only [Act.put, List.setIfInBounds_toArray, List.set_cons_zero, List.set_cons_succ]
      refine Till.take_ (i := 6) (d := some 20) (v := .agg #[.int .i64 v.kids[k].op, .int .i64 v.kids[k].ctor, .int .i64 v.kids[k].n, .int .i64 v.kids[k].m, .int .i64 v.kids[k].var, .slice A' v.kids[k].kids.length cp]) (ls' := #[true, true, true, true, true, true, true, false, false, false, false, false]) rfl rfl (by kernel_rfl) (by kernel_rfl) (by kernel_rfl) (by kernel_rfl) (fun _ _ _ h => h) HS0.out (Or.inl ⟨by rfl, fun wq hSw => ?_⟩) (by kernel_rfl) ?_
      · obtain ⟨hs0, hs1, hs2⟩ := hSw
        have s0 := (World.cell?_of_block (a := ⟨b, off + k * 6, none⟩) hs2).trans P0.out
        have s1 := (World.cell?_of_block (a := ⟨b, off + k * 6 + 1, none⟩) hs2).trans P1.out
        have s2 := (World.cell?_of_block (a := ⟨b, off + k * 6 + 2, none⟩) hs2).trans P2.out
        have s3 := (World.cell?_of_block (a := ⟨b, off + k * 6 + 3, none⟩) hs2).trans P3.out
        have s4 := (World.cell?_of_block (a := ⟨b, off + k * 6 + 4, none⟩) hs2).trans P4.out
        have s5 := (World.cell?_of_block (a := ⟨b, off + k * 6 + 5, none⟩) hs2).trans P5.out
        go_simp
      simp only [Act.put, List.setIfInBounds_toArray, List.set_cons_zero, List.set_cons_succ]
      refine Till.all (rs := [7]) (by kernel_rfl) (by decide) (List.forall_mem_cons.2 ⟨?_, fun _ h => nomatch h⟩)
      refine Till.step rfl (by rfl) ?_
      intro K hK
      go_simp
      go_at_call 35
      with_reducible refine (HIH.out).mono ?_
      rintro e2 w2 ⟨A4, c4, rfl, ho4, hb4'⟩
      have hb4 : Below wr.heap.size wr w2 := ⟨hb4'.os, hb4'.tape, hb4'.output, hb4'.size, hb4'.block⟩
      have HS2 := Lib.hid (HKP.out w2 hb4)
      have HKA := Lib.hid (HKQ.out w2 hb4)
      have HB4 := Lib.hid hb4
      have HO4 : Hid (OPs d w2 (Nw wr w2) A4 v.kids[k].kids) := by unfold Hid; rw [HED.out]; exact ho4
      have hbz : wr.heap.size ≤ w2.heap.size := hb4.size
      clear hb4 hb4' ho4
      go_simp
      refine hK _ _ (fun _ => HS2.out) ?_
      clear hK K
      refine Till.all (rs := [8]) (by kernel_rfl) (by decide) (List.forall_mem_cons.2 ⟨?_, fun _ h => nomatch h⟩)
      refine Till.step rfl (by rfl) ?_
      intro K hK
      go_simp
      refine hK _ _ (fun _ => ⟨by have := HS2.out.1; go_keep, HKA.out _⟩) ?_
      clear hK K
      refine Till.all (rs := [9]) (by kernel_rfl) (by decide) (List.forall_mem_cons.2 ⟨?_, fun _ h => nomatch h⟩)
      refine Till.step rfl (by rfl) ?_
      intro K hK
      refine wp_append_own (.tmp 15) (.tmp 22) 30 (by rfl) wl.heap.size 38 i0 (.agg #[.int .i64 0, .int .i64 0, .int .i64 0, .int .i64 0, .int .i64 0, .slice none 0 0]) 6 64 Tryz.underlying30 hi0 hz0 hz1 hz2 (by rfl) (by decide) (.slice Ak k ck) k ys (by rfl) (own_at HOW.out (HKB.out w2 _ HB4.out)) ⟨w2.heap.size, 0, none⟩ 1 1 [.int .i64 v.kids[k].op, .int .i64 v.kids[k].ctor, .int .i64 v.kids[k].n, .int .i64 v.kids[k].m, .int .i64 v.kids[k].var, .slice A4 v.kids[k].kids.length c4] (by rfl) rfl (cell_six_new _ _ _ _ _ _ _ _) (by intro u hu; simp at hu; rcases hu with rfl | rfl | rfl | rfl | rfl | rfl <;> rfl) (by unfold maxLen; omega) (by omega) (by simp; omega) ?_
      intro v4 w4 hown4 hgr4 hat4
      obtain ⟨A5, c5, rfl, hg4, hbl4⟩ := BldP.step HGL.out HFR.out HGC.out HOW.out HRW.out hlt HB4.out HO4.out hown4 hgr4 hat4
      have HS4 := Lib.hid (And.intro ((cell_of_blk hg4 5).trans rfl) (HKC.out w2 w4 _ HB4.out hgr4))
      have hfz : w4.frozen? ⟨g, 5, none⟩ = false := frozen_of_row w4 g 5 _ 38 hg4
      have c4x := HS4.out.1
      have HBL := Lib.hid hbl4
      clear hown4 hgr4 hat4 hg4 hbl4
      refine hK _ _ (fun _ => HS4.out) ?_
      clear hK K
      refine Till.all (rs := [10]) (by kernel_rfl) (by decide) (List.forall_mem_cons.2 ⟨?_, fun _ h => nomatch h⟩)
      refine Till.step rfl (by rfl) ?_
      intro K hK
      go_simp
      refine hK _ _ (fun _ => HS4.out) ?_
      clear hK K
      refine Till.all (rs := [11]) (by kernel_rfl) (by decide) (List.forall_mem_cons.2 ⟨?_, fun _ h => nomatch h⟩)
      refine Till.step rfl (by rfl) ?_
      intro K hK
      go_simp
      refine hK _ _ (fun h => absurd rfl h) ?_
      clear hK K
      refine Till.done (by kernel_rfl) ?_ _
      clear c4x hfz HS4 HS2
      go_wp2_with fail
      go_roundw
      case rel => exact ⟨k + 1, by omega, by go_num, HBL.out⟩
      case measure => simp [intOf]; omega
    · have hke : k = v.kids.length := by omega
      obtain ⟨A6, c6, hg6, ho6, hf6⟩ := HBd.out.all hke hkl
      have hr6 : wr.heap[w.heap.size + 1]? = some (.cells #[.int .i64 0, .int .i64 0, .int .i64 0, .int .i64 0, .int .i64 0, .slice none 0 0] 38 (0, 0)) := hf6.block HXR1.out (by omega)
      have HO6 := Lib.hid ho6
      have g0 := (cell_of_blk hg6 0).trans rfl
      have g1 := (cell_of_blk hg6 1).trans rfl
      have g2 := (cell_of_blk hg6 2).trans rfl
      have g3 := (cell_of_blk hg6 3).trans rfl
      have g4 := (cell_of_blk hg6 4).trans rfl
      have g5 := (cell_of_blk hg6 5).trans rfl
      have r0 := (cell_of_blk hr6 0).trans rfl
      have r1 := (cell_of_blk hr6 1).trans rfl
      have r2 := (cell_of_blk hr6 2).trans rfl
      have r3 := (cell_of_blk hr6 3).trans rfl
      have r4 := (cell_of_blk hr6 4).trans rfl
      have r5 := (cell_of_blk hr6 5).trans rfl
      have f0 := frozen_of_row wr (w.heap.size + 1) 0 _ 38 hr6
      have f1 := frozen_of_row wr (w.heap.size + 1) 1 _ 38 hr6
      have f2 := frozen_of_row wr (w.heap.size + 1) 2 _ 38 hr6
      have f3 := frozen_of_row wr (w.heap.size + 1) 3 _ 38 hr6
      have f4 := frozen_of_row wr (w.heap.size + 1) 4 _ 38 hr6
      have f5 := frozen_of_row wr (w.heap.size + 1) 5 _ 38 hr6
      have hkI : (v.kids.length : Int) ≤ (k : Int) := by omega
      clear hke hg6 ho6 hf6 hr6
      go_wp2_with fail
      refine bodyPost_ret (v := .agg #[.int .i64 v.op, .int .i64 v.ctor, .int .i64 v.n, .int .i64 v.m, .int .i64 v.var, .slice A6 v.kids.length c6]) (by simp [results, Tryz.results35, go_sem, r0, r1, r2, r3, r4, r5]) rfl ⟨A6, c6, rfl, ?_, ?_⟩
      · exact (HO6.out.fr _ ((((((Fr.set (P := fun b => b = w.heap.size + 1) _ _ _ _ rfl).trans (Fr.set _ _ _ _ rfl)).trans (Fr.set _ _ _ _ rfl)).trans (Fr.set _ _ _ _ rfl)).trans (Fr.set _ _ _ _ rfl)).trans (Fr.set _ _ _ _ rfl)) (fun b hq e => by have := hq.1; omega)).wide _ (fun b hq => ⟨by have := hq.1; omega, by have h2 := hq.2; simpa [World.setCell] using h2⟩)
      · refine Below.setCell (Below.setCell (Below.setCell (Below.setCell (Below.setCell (Below.setCell hbw0 ?_ _) ?_ _) ?_ _) ?_ _) ?_ _) ?_ _ <;> (simp <;> omega)
theorem cpSP_any : ∀ d, CpSP d
  | 0 => cpSP_of 0 (fun _ h => by omega)
  | d + 1 => cpSP_of (d + 1) (fun d' h => (Nat.succ.inj h) ▸ cpSP_any d)
theorem RowP.push {d lo : Nat} {wr w2 w4 : World} {l : List Pt} {k c c2 : Nat} {A A2 : Option Addr} {ys : List Value} {Q : Nat → Nat → Prop} {v' : Value} {box : Obj} (ho : wr.ownsRow lo 38 6 (.slice A k c) k ys) (hrow : RowP d wr lo (Value.slice A k c).ownBlock Q l ys k) (hlo : lo ≤ wr.heap.size)
    (hk : k < l.length) (hb : Below wr.heap.size wr w2) (hkid : OPs d w2 (Nw wr w2) A2 l[k].kids) (hgr : (w2.alloc box).grownBy w4 (Value.slice A k c).ownBlock) (hat : v'.ownBlock = (Value.slice A k c).ownBlock ∨ v'.ownBlock = some (w2.alloc box).heap.size) :
    RowP d w4 lo v'.ownBlock (fun i => if i = k then Nw wr w2 else Q i) l (ys ++ [.int .i64 l[k].op, .int .i64 l[k].ctor, .int .i64 l[k].n, .int .i64 l[k].m, .int .i64 l[k].var, .slice A2 l[k].kids.length c2]) (k + 1) := by
  have hys := ho.1
  obtain ⟨_, _, _, hob⟩ := own_form ho
  have hz : (w2.alloc box).heap.size = w2.heap.size + 1 := by simp
  have hF : Fr (fun b => some b = (Value.slice A k c).ownBlock) w2 w4 := (Fr.below ((Below.refl _ w2).alloc (Nat.le_refl _) box)).trans (Fr.grown hgr (fun b e => e))
  have hr2 := hrow.more (xs' := ys ++ [.int .i64 l[k].op, .int .i64 l[k].ctor, .int .i64 l[k].n, .int .i64 l[k].m, .int .i64 l[k].var, .slice A2 l[k].kids.length c2]) hb hk hlo (fun b e => (hob b e).2) hkid (fun j i hj hi => List.getElem?_append_left (by omega)) (by rw [List.getElem?_append_right (by omega), show k * 6 - ys.length = 0 by omega]; rfl) (by rw [List.getElem?_append_right (by omega), show k * 6 + 1 - ys.length = 1 by omega]; rfl) (by rw [List.getElem?_append_right (by omega), show k * 6 + 2 - ys.length = 2 by omega]; rfl) (by rw [List.getElem?_append_right (by omega), show k * 6 + 3 - ys.length = 3 by omega]; rfl) (by rw [List.getElem?_append_right (by omega), show k * 6 + 4 - ys.length = 4 by omega]; rfl) (by rw [List.getElem?_append_right (by omega), show k * 6 + 5 - ys.length = 5 by omega]; rfl)
  exact hr2.move (og' := v'.ownBlock) hF (fun b h1 h2 h3 => ⟨h2, fun e => by
    rcases hat with h | h
    · exact h2 (e.trans h)
    · rw [h] at e; injection e with e; omega⟩)
/-- l3All: a list copied. -/
def AlP (d : Nat) : Prop := ∀ (A : Option Addr) (l : List Pt) (cap : Nat) (w : World), RPs d w w.heap.size A l → wPs l ≤ 1048576 →
  Calls Tryz.prog 22 #[.slice A l.length cap] w fun e w' => ∃ A2 c, e = .returned (.slice A2 l.length c) ∧ OPs (d + 1) w' (Nw w w') A2 l ∧ Below w.heap.size w w'
set_option maxHeartbeats 4000000 in
theorem alP_any (d : Nat) : AlP d := by
  intro A l cap w hr hn
  obtain ⟨i0, hi0, hz0, hz1, hz2⟩ := info_parts infoOP
  have Hr := Lib.hid hr
  have HSum := Lib.hid (wPs_sum l)
  have hl : l.length ≤ 1048576 := by have := wPs_sum l; omega
  clear hr
  go_enter Tryz.func22, Tryz.ntmps22
  go_wp2_with fail
  go_loopw [3, 4] (fun u i wr => ∃ k : Nat, k ≤ l.length ∧ i = .int .i64 k ∧ ∃ xs Q, Hid (wr.ownsRow w.heap.size 38 6 u k xs) ∧ Hid (RowP d wr w.heap.size u.ownBlock Q l xs k) ∧ Hid (Below w.heap.size w wr)) (fun _ i _ => l.length - (intOf i).toNat)
  case atStart => exact ⟨0, by omega, rfl, _, fun _ _ => False, World.ownsRow_lit (base := w.heap.size) (e := 38) (size := 6) w #[] 0 (Nat.le_refl _) (by unfold maxLen; omega) rfl, RowP.zero _ _ _ _ _ _ _, (Below.refl _ _).alloc (Nat.le_refl _) _⟩
  case round =>
    obtain ⟨k, hk, rfl, xs, Q, HOW, HRW, HB⟩ := hrel
    obtain ⟨Ak, ck, rfl, hob⟩ := own_form HOW.out
    have HOBB := Lib.hid hob
    have hwr := HB.out.size
    clear hob
    by_cases hlt : k < l.length
    · have hkI : (k : Int) < (l.length : Int) := by omega
      obtain ⟨b, off, rfl, hbB, hv⟩ := (Hr.out.below HB.out (Nat.le_refl _)).2 k hlt
      obtain ⟨d', hd, A', cp, c0, c1, c2, c3, c4, c5, hm⟩ := hv.parts
      have ha : wP l[k] ≤ 1048576 := by
        have h1 := sum_take_succ wP l k hlt
        have h2 := sum_take_le wP l (k + 1)
        have h4 := HSum.out
        omega
      have HD := Lib.hid hd
      have HCI : Hid (Calls Tryz.prog 35 #[.agg #[.int .i64 l[k].op, .int .i64 l[k].ctor, .int .i64 l[k].n, .int .i64 l[k].m, .int .i64 l[k].var, .slice A' l[k].kids.length cp]] wr (CpQP d' l[k] wr)) := cpSP_any d' A' cp l[k] wr (hm.keep (fun _ _ => rfl) hwr) ha
      clear hm hv hd
      go_wp2_with (first
        | (at_builtin; refine wpList_append_own_at _ rfl _ _ 30 rfl w.heap.size 38 i0 _ 6 64 Tryz.underlying30 hi0 hz0 hz1 hz2 rfl (by decide) (.slice Ak k ck) k xs rfl HO2A.out ⟨w2.heap.size, 0, none⟩ 1 1 [.int .i64 l[k].op, .int .i64 l[k].ctor, .int .i64 l[k].n, .int .i64 l[k].m, .int .i64 l[k].var, .slice A2 l[k].kids.length c2] rfl rfl HC1.out HC2.out HC3.out HC4.out HC5.out ?_; intro v5 w5 hown5 hgr5 hnn5 hat5; have HOW5 := Lib.hid hown5; have HGR5 := Lib.hid hgr5; have HAT5 := Lib.hid hat5; clear hown5 hgr5 hat5 hnn5)
        | (go_at_call 35; refine HCI.out.mono ?_; rintro e w2 ⟨A2, c2, rfl, ho2, hb2⟩; have HB2 := Lib.hid hb2; have HOC2 := Lib.hid ho2; have hs2 := hb2.size; have HO2A := Lib.hid ((own_below HOW.out hb2).alloc (.cells #[.int .i64 l[k].op, .int .i64 l[k].ctor, .int .i64 l[k].n, .int .i64 l[k].m, .int .i64 l[k].var, .slice A2 l[k].kids.length c2] 38));
            have HC1 := Lib.hid (cell_six_new w2 (.int .i64 l[k].op) (.int .i64 l[k].ctor) (.int .i64 l[k].n) (.int .i64 l[k].m) (.int .i64 l[k].var) (.slice A2 l[k].kids.length c2) 38);
            have HC2 : Hid (∀ u ∈ [Value.int .i64 l[k].op, .int .i64 l[k].ctor, .int .i64 l[k].n, .int .i64 l[k].m, .int .i64 l[k].var, .slice A2 l[k].kids.length c2], u.oneCell' = true) := (by intro u hu; simp at hu; rcases hu with rfl | rfl | rfl | rfl | rfl | rfl <;> rfl);
            have HC3 : Hid (k + 1 ≤ maxLen) := (by unfold Hid maxLen; omega);
            have HC4 : Hid ((k + 1) * 64 ≤ 140737488355328) := (by unfold Hid; omega);
            have HC5 : Hid (w.heap.size ≤ (w2.alloc (.cells #[.int .i64 l[k].op, .int .i64 l[k].ctor, .int .i64 l[k].n, .int .i64 l[k].m, .int .i64 l[k].var, .slice A2 l[k].kids.length c2] 38)).heap.size) := (by unfold Hid; rw [World.size_alloc]; omega);
            clear ho2 hb2))
      have HR5 := Lib.hid (RowP.push (c2 := c2) HOW.out HRW.out hwr hlt HB2.out (by rw [HD.out]; exact HOC2.out) HGR5.out HAT5.out)
      have HB5 : Hid (Below w.heap.size w w5) := (HB.out.trans (HB2.out.mono hwr)).trans (((Below.refl w.heap.size w2).alloc (by omega) _).grown HGR5.out (by rw [World.size_alloc]; omega) (fun j e => (HOBB.out j e).1))
      go_roundw
      case rel => exact ⟨k + 1, by omega, by go_num, _, _, HOW5.out, HR5.out, HB5.out⟩
      case measure => simp [intOf]; omega
    · have hkI : ¬ (k : Int) < (l.length : Int) := by omega
      have he : k = l.length := by omega
      have HE := Lib.hid he
      clear he
      go_wp2_with fail
      go_ret
      have h1 := HOW.out
      have h2 := HRW.out
      have he := HE.out
      subst he
      obtain ⟨A2, c2, e2, ho⟩ := OPs.of_row h1 h2 hl
      injection e2 with e3 e4 e5
      subst e3
      exact ⟨_, ⟨_, rfl⟩, ho, HB.out⟩
end Go.Proofs.YtbdiahnelnbdnaaGreat
/-
  l3Tuples and l3Split of the document: what they make. No statement is proved here.
-/
namespace Go.Proofs.YtbdiahnelnbdnaaGreat
open Go.RowKit Go.Sort Go.Deep
set_option maxRecDepth 100000
set_option linter.unusedVariables false
/-- One list more: the ways so far, each with each element behind it. -/
def tupF (ts : List (List Pt)) (l : List Pt) : List (List Pt) := ts.flatMap fun x => l.map fun y => x ++ [y]
def tupG (Ls : List (List Pt)) : List (List Pt) := Ls.foldl (fun ts l => (tupF ts l).take 401) [[]]
theorem tupG_nil : tupG [] = [[]] := rfl
theorem tupG_take (Ls : List (List Pt)) (k : Nat) (h : k < Ls.length) : tupG (Ls.take (k + 1)) = (tupF (tupG (Ls.take k)) Ls[k]).take 401 := by
  unfold tupG
  rw [← List.take_append_getElem h, List.foldl_append]
  rfl
/-- A flattened list cut off depends on no more than that many lists that are not empty. -/
theorem flat_take {α β : Type} (f : α → List β) : ∀ (n : Nat) (l : List α), (∀ x ∈ l, f x ≠ []) → ((l.take n).flatMap f).take n = (l.flatMap f).take n
  | 0, _, _ => rfl
  | n + 1, [], _ => rfl
  | n + 1, x :: l, h => by
    obtain ⟨y, ys, e⟩ := List.exists_cons_of_ne_nil (h x (List.mem_cons_self ..))
    rw [List.take_succ_cons, List.flatMap_cons, List.flatMap_cons, e, List.cons_append, List.cons_append, List.take_succ_cons, List.take_succ_cons]
    congr 1
    have ih := flat_take f n l (fun x hx => h x (List.mem_cons_of_mem _ hx))
    rw [List.take_append, List.take_append]
    congr 1
    have hh : ∀ (a : List β), a.take (n - ys.length) = (a.take n).take (n - ys.length) := fun a => by rw [List.take_take, Nat.min_eq_left (by omega)]
    rw [hh, hh (List.flatMap f l), ih]
theorem tupF_prods (Ls : List (List Pt)) (l : List Pt) : prods (Ls ++ [l]) = tupF (prods Ls) l := by
  induction Ls with
  | nil =>
    show (l.flatMap fun x => (prods []).map (x :: ·)) = _
    unfold tupF
    rw [prods, List.flatMap_singleton]
    have : (l.flatMap fun x => ([[]] : List (List Pt)).map (x :: ·)) = l.map fun x => [x] := by
      rw [List.flatMap_def]
      induction l with
      | nil => rfl
      | cons a l ih => rw [List.map_cons, List.flatten_cons, ih]; rfl
    rw [this]; rfl
  | cons k Ls ih =>
    rw [List.cons_append, prods, prods, ih]
    unfold tupF
    rw [List.flatMap_assoc]
    congr 1
    funext x
    rw [List.map_flatMap, List.flatMap_map]
    congr 1
    funext t
    rw [List.map_map]; rfl
theorem tupG_prods : ∀ (n : Nat) (Ls : List (List Pt)), n ≤ Ls.length → ¬ [] ∈ Ls → tupG (Ls.take n) = (prods (Ls.take n)).take 401
  | 0, Ls, _, _ => by rw [List.take_zero, prods]; rfl
  | n + 1, Ls, h, hne => by
    have ih := tupG_prods n Ls (by omega) hne
    rw [tupG_take Ls n (by omega), ih, ← List.take_append_getElem (show n < Ls.length by omega), tupF_prods]
    have hn : Ls[n] ≠ [] := fun e => hne (by rw [← e]; exact List.getElem_mem _)
    unfold tupF
    exact flat_take _ 401 _ (fun x _ => by simpa using hn)
theorem tupG_all (Ls : List (List Pt)) (hne : ¬ [] ∈ Ls) : tupG Ls = (prods Ls).take 401 := by
  have h := tupG_prods Ls.length Ls (Nat.le_refl _) hne
  rwa [List.take_length] at h
theorem tupG_len : ∀ (n : Nat) (Ls : List (List Pt)), n ≤ Ls.length → ∀ t ∈ tupG (Ls.take n), t.length = n
  | 0, Ls, _, t, h => by rw [List.take_zero, tupG_nil] at h; rw [List.mem_singleton.1 h]; rfl
  | n + 1, Ls, h, t, ht => by
    rw [tupG_take Ls n (by omega)] at ht
    have ht := List.mem_of_mem_take ht
    unfold tupF at ht
    obtain ⟨x, hx, hy⟩ := List.mem_flatMap.1 ht
    obtain ⟨y, _, rfl⟩ := List.mem_map.1 hy
    rw [List.length_append, tupG_len n Ls (by omega) x hx]; rfl
/-- What stands behind k of the ways and j of the elements. -/
def tupK (ts : List (List Pt)) (l : List Pt) (k j : Nat) : List (List Pt) := (tupF (ts.take k) l ++ (if h : k < ts.length then (l.take j).map (fun y => ts[k] ++ [y]) else [])).take 401
theorem tupK_zero (ts : List (List Pt)) (l : List Pt) : tupK ts l 0 0 = [] := by unfold tupK tupF; split <;> simp
theorem tupK_next (ts : List (List Pt)) (l : List Pt) (k : Nat) (h : k < ts.length) : tupK ts l k l.length = tupK ts l (k + 1) 0 := by
  unfold tupK
  rw [dif_pos h, List.take_length]
  have : tupF (ts.take (k + 1)) l = tupF (ts.take k) l ++ l.map (fun y => ts[k] ++ [y]) := by
    unfold tupF
    rw [← List.take_append_getElem h, List.flatMap_append]; simp
  rw [this]
  split <;> simp
theorem tupK_more (ts : List (List Pt)) (l : List Pt) (k j : Nat) (h : k < ts.length) (hj : j < l.length) (hn : (tupK ts l k j).length ≤ 400) : tupK ts l k (j + 1) = tupK ts l k j ++ [ts[k] ++ [l[j]]] := by
  have key : ∀ (A : List (List Pt)) (z : List Pt), (A.take 401).length ≤ 400 → (A ++ [z]).take 401 = A.take 401 ++ [z] := fun A z hA => by
    rw [List.length_take] at hA
    rw [List.take_of_length_le (l := A) (by omega), List.take_of_length_le (by rw [List.length_append]; simp; omega)]
  have e : tupF (ts.take k) l ++ (l.take (j + 1)).map (fun y => ts[k] ++ [y]) = (tupF (ts.take k) l ++ (l.take j).map (fun y => ts[k] ++ [y])) ++ [ts[k] ++ [l[j]]] := by
    rw [← List.take_append_getElem hj, List.map_append, ← List.append_assoc]; rfl
  unfold tupK at hn ⊢
  rw [dif_pos h] at hn
  rw [dif_pos h, dif_pos h, e]
  exact key _ _ hn
theorem tupK_full (ts : List (List Pt)) (l : List Pt) (k j k' j' : Nat) (h : k < ts.length) (hk : k < k' ∨ k = k' ∧ j ≤ j') (hn : 400 < (tupK ts l k j).length) : tupK ts l k' j' = tupK ts l k j := by
  have hpre : ∃ r, tupF (ts.take k') l ++ (if h : k' < ts.length then (l.take j').map (fun y => ts[k'] ++ [y]) else []) = (tupF (ts.take k) l ++ (l.take j).map (fun y => ts[k] ++ [y])) ++ r := by
    rcases hk with hk | ⟨rfl, hj⟩
    · have e : ts.take k' = ts.take k ++ ts[k] :: (ts.take k').drop (k + 1) := by
        conv => lhs; rw [← List.take_append_drop k (ts.take k')]
        rw [List.take_take, Nat.min_eq_left (by omega), List.drop_eq_getElem_cons (by rw [List.length_take]; omega), List.getElem_take]
      have e2 : tupF (ts.take k') l = tupF (ts.take k) l ++ (l.map (fun y => ts[k] ++ [y]) ++ tupF ((ts.take k').drop (k + 1)) l) := by
        rw [e]; unfold tupF; rw [List.flatMap_append, List.flatMap_cons, ← e]
      refine ⟨(l.drop j).map (fun y => ts[k] ++ [y]) ++ (tupF ((ts.take k').drop (k + 1)) l ++ (if h : k' < ts.length then (l.take j').map (fun y => ts[k'] ++ [y]) else [])), ?_⟩
      rw [e2]
      conv => lhs; rw [← List.take_append_drop j l, List.map_append]
      simp only [List.append_assoc, List.take_append_drop]
    · rw [dif_pos h]
      refine ⟨((l.take j').drop j).map (fun y => ts[k] ++ [y]), ?_⟩
      rw [List.append_assoc, ← List.map_append]
      congr 2
      conv => lhs; rw [← List.take_append_drop j (l.take j'), List.take_take, Nat.min_eq_left hj]
  obtain ⟨r, hr⟩ := hpre
  unfold tupK at hn ⊢
  rw [hr, dif_pos h]
  rw [dif_pos h, List.length_take] at hn
  exact List.take_append_of_le_length (by omega)
theorem tupK_end (ts : List (List Pt)) (l : List Pt) : tupK ts l ts.length 0 = (tupF ts l).take 401 := by unfold tupK; rw [List.take_length, dif_neg (Nat.lt_irrefl _), List.append_nil]
/-- The cells of a list of patterns, read where it lies. -/
theorem QPs.news {d : Nat} {w : World} {P : Nat → Prop} {A : Option Addr} {l : List Pt} (h : QPs (d + 1) w P A l) : ∃ xs, RowQ d w P l xs ∧ ∀ ad, A = some ad → ∀ j u, xs[j]? = some u → w.cell? (ad.add j) = some u := by
  have key : ∀ k, k ≤ l.length → ∃ xs, RowQ d w P (l.take k) xs ∧ ∀ ad, A = some ad → ∀ j u, xs[j]? = some u → w.cell? (ad.add j) = some u := by
    intro k
    induction k with
    | zero => exact fun _ => ⟨[], by rw [List.take_zero]; exact RowQ.nil _ _ _, fun _ _ j u hu => by simp at hu⟩
    | succ k ih =>
      intro hk
      obtain ⟨xs, h1, h2⟩ := ih (by omega)
      obtain ⟨b, off, e, hb, hq⟩ := h.2 k (by omega)
      obtain ⟨d', hd, A', c, p0, p1, p2, p3, p4, p5, hkd⟩ := hq.parts
      obtain rfl : d = d' := by omega
      have hxl : xs.length = k * 6 := by rw [h1.1, List.length_take]; omega
      refine ⟨xs ++ [.int .i64 l[k].op, .int .i64 l[k].ctor, .int .i64 l[k].n, .int .i64 l[k].m, .int .i64 l[k].var, .slice A' l[k].kids.length c], by rw [← List.take_append_getElem (show k < l.length by omega)]; exact h1.app (RowQ.one hkd), fun ad ea j u hu => ?_⟩
      by_cases hj : j < xs.length
      · rw [List.getElem?_append_left hj] at hu; exact h2 ad ea j u hu
      · rw [List.getElem?_append_right (by omega)] at hu
        rw [e] at ea; cases ea
        rw [Addr.add_lit]
        obtain ⟨r, hr⟩ : ∃ r, j = xs.length + r := ⟨j - xs.length, by omega⟩
        subst hr
        rw [Nat.add_sub_cancel_left] at hu
        have hlt : r < 6 := by
          have h := (List.getElem?_eq_some_iff.1 hu).1
          simpa using h
        rw [hxl]
        match r, hlt with
        | 0, _ => simp at hu; rw [← hu]; exact p0
        | 1, _ => simp at hu; rw [← hu]; exact p1
        | 2, _ => simp at hu; rw [← hu]; exact p2
        | 3, _ => simp at hu; rw [← hu]; exact p3
        | 4, _ => simp at hu; rw [← hu]; exact p4
        | 5, _ => simp at hu; rw [← hu]; exact p5
  have h' := key l.length (Nat.le_refl _)
  rwa [List.take_length] at h'
end Go.Proofs.YtbdiahnelnbdnaaGreat
