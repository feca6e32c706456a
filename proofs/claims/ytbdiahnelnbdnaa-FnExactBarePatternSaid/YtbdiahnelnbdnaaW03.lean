/-
  BarePattern, the document's. No statement is proved here.
-/
import Derived.Test.YtbdiahnelnbdnaaW02
import Derived.Test.YtbdiahnelnbdnaaW01
namespace Go.Proofs.Ytbdiahnelnbdnaa
open Go.RowKit Go.Sort Go.Deep
set_option maxRecDepth 100000
set_option linter.unusedVariables false
/-- A box with a pattern. -/
def PBr (w : World) (b : Nat) (v : Pt) (ks : Value) : Prop := w.cell? ⟨b, 0, none⟩ = some (.int .i64 v.op) ∧ w.cell? ⟨b, 1, none⟩ = some (.int .i64 v.ctor) ∧ w.cell? ⟨b, 2, none⟩ = some (.int .i64 v.n) ∧ w.cell? ⟨b, 3, none⟩ = some (.int .i64 v.m) ∧ w.cell? ⟨b, 4, none⟩ = some (.int .i64 v.var) ∧ w.cell? ⟨b, 5, none⟩ = some ks
theorem PBr.at_ {w w' : World} {b : Nat} {v : Pt} {ks : Value} (h : PBr w b v ks) (hb : Below w.heap.size w w') : PBr w' b v ks := by
  obtain ⟨h0, h1, h2, h3, h4, h5⟩ := h
  have hk : ∀ (o : Nat) (u : Value), w.cell? ⟨b, o, none⟩ = some u → w'.cell? ⟨b, o, none⟩ = some u := fun o u hu => (hb.cell (p := ⟨b, o, none⟩) (Go.block_lt_of_cell hu)).trans hu
  exact ⟨hk _ _ h0, hk _ _ h1, hk _ _ h2, hk _ _ h3, hk _ _ h4, hk _ _ h5⟩
/-- What is returned: the copy, in blocks of its own. -/
def BrQP (d : Nat) (v : Pt) (w : World) (e : Ending) (w' : World) : Prop := ∃ B c, e = .returned (.agg #[.int .i64 (bareP v).op, .int .i64 (bareP v).ctor, .int .i64 (bareP v).n, .int .i64 (bareP v).m, .int .i64 (bareP v).var, .slice B (bareP v).kids.length c]) ∧ OPs (d + 1) w' (Nw w w') B (bareP v).kids ∧ Below w.heap.size w w'
def BrSP (d : Nat) : Prop := ∀ (D : Option Addr) (ep : Nat) (v : Pt) (w : World), RPs d w w.heap.size D v.kids → wP v ≤ 1048576 →
  Calls Try.prog 5 #[.agg #[.int .i64 v.op, .int .i64 v.ctor, .int .i64 v.n, .int .i64 v.m, .int .i64 v.var, .slice D v.kids.length ep]] w (BrQP d v w)
set_option maxHeartbeats 4000000 in
theorem brSP_n1 (d : Nat) (ih : ∀ d', d = d' + 1 → BrSP d') (D : Option Addr) (ep : Nat) (v : Pt) (w : World) (hv : RPs d w w.heap.size D v.kids) (hn : wP v ≤ 1048576) (h2 : ¬ v.op = 2) (h6 : ¬ v.op = 6) :
    Calls Try.prog 5 #[.agg #[.int .i64 v.op, .int .i64 v.ctor, .int .i64 v.n, .int .i64 v.m, .int .i64 v.var, .slice D v.kids.length ep]] w (BrQP d v w) := by
  have HBE := Lib.hid (bareP_other v h2 (fun h => h6 h.1))
  have HLe : Hid ((barePs v.kids).length = v.kids.length) := by unfold Hid; rw [barePs_map, List.length_map]
  have HLk : Hid (∀ (k : Nat) (h : k < v.kids.length) (h' : k < (barePs v.kids).length), bareP v.kids[k] = (barePs v.kids)[k]) := fun k h h' => by simp only [barePs_map, List.getElem_map]
  obtain ⟨L, hL⟩ : ∃ L, L = barePs v.kids := ⟨_, rfl⟩
  rw [← hL] at HBE HLe HLk
  clear hL
  have u1 : (v.op == 2) = false := ieq_f h2
  have u2 : (v.op == 6) = false := ieq_f h6
  obtain ⟨i0, hi0, hz0, hz1, hz2⟩ := info_parts infoOP
  have hl := hv.1
  unfold maxLen at hl
  have HV := Lib.hid hv
  have IH := Lib.hid ih
  have hkl : v.kids.length ≤ 1048576 := by have h2 := wP_kids v; have h3 := wPs_sum v.kids; omega
  clear hv ih
  generalize hwx : (w.alloc (.cells #[.int .i64 v.op, .int .i64 v.ctor, .int .i64 v.n, .int .i64 v.m, .int .i64 v.var, .slice D v.kids.length ep] 28)).alloc (.cells #[.int .i64 0, .int .i64 0, .int .i64 0, .int .i64 0, .int .i64 0, .slice none 0 0] 28) = wx
  have hbx : Below w.heap.size w wx := by rw [← hwx]; exact ((Below.refl _ _).alloc (Nat.le_refl _) _).alloc (by simp) _
  have HXV : Hid (PBr wx w.heap.size v (.slice D v.kids.length ep)) := by rw [← hwx]; exact ⟨by simp [go_sem], by simp [go_sem], by simp [go_sem], by simp [go_sem], by simp [go_sem], by simp [go_sem]⟩
  have HXR : Hid (ZbP wx (w.heap.size + 1)) := by
    have h := ZbP.new (w.alloc (.cells #[.int .i64 v.op, .int .i64 v.ctor, .int .i64 v.n, .int .i64 v.m, .int .i64 v.var, .slice D v.kids.length ep] 28))
    simp only [World.size_alloc] at h
    unfold Hid; rw [← hwx]; exact h
  have hsx : wx.heap.size = w.heap.size + 2 := by rw [← hwx]; simp
  have HWX := Lib.hid hwx
  clear hwx
  generalize hwl : wx.alloc (.cells #[.int .i64 v.op, .int .i64 v.ctor, .int .i64 v.n, .int .i64 v.m, .int .i64 v.var, .slice none 0 0] 28) = wl
  have hbl : Below wx.heap.size wx wl := by rw [← hwl]; exact (Below.refl _ _).alloc (Nat.le_refl _) _
  have HG : Hid (wl.heap[wx.heap.size]? = some (.cells #[.int .i64 v.op, .int .i64 v.ctor, .int .i64 v.n, .int .i64 v.m, .int .i64 v.var, .slice none 0 0] 28 (0, 0))) := by unfold Hid; rw [← hwl]; exact heap_alloc_new _ _
  have HWL := Lib.hid hwl
  have HXV1 := Lib.hid (HXV.out.at_ hbl)
  have HXR1 : Hid (ZbP wl (w.heap.size + 1)) := HXR.out.at_ hbl
  have hbwl : Below w.heap.size w wl := hbx.trans (hbl.mono hbx.size)
  have hsl : wx.heap.size < wl.heap.size := heap_lt HG.out
  clear hwl
  obtain ⟨x0, x1, x2, x3, x4, x5⟩ := HXV.out
  have hq0 : w.heap.size < wx.heap.size := by omega
  generalize hg : wx.heap.size = g at HG hsl hq0
  have hgx : g = w.heap.size + 2 := by omega
  go_enter Try.func5, Try.ntmps5
  go_wp2_with fail
  rw [HWX.out, HWL.out]
  rw [show w.heap.size + 1 + 1 = g by omega]
  have hgl1 : w.heap.size + 2 ≤ g := by omega
  have hgl2 : g ≤ w.heap.size + 2 := by omega
  clear hgx hg hsx
  clear x0 x1 x2 x3 x4 x5 hbx hbl
  obtain ⟨x0, x1, x2, x3, x4, x5⟩ := HXV1.out
  go_loopw [4] (fun i wr => ∃ k : Nat, k ≤ v.kids.length ∧ i = .int .i64 k ∧ Hid (BldP d wl wr g v.op v.ctor v.n v.m v.var L k)) (fun i _ => v.kids.length - (intOf i).toNat)
  case atStart => exact ⟨0, by omega, rfl, BldP.zero HG.out⟩
  case round =>
    clear x0 x1 x2 x3 x4 x5
    obtain ⟨k, hk, rfl, HBd⟩ := hrel
    have hfr := HBd.out.2.1
    have hwr := hfr.size
    have hbw0 : Below w.heap.size w wr := hbwl.trans (hfr.to hbwl.size (fun b h => by omega))
    have hvx : wr.heap[w.heap.size]? = wl.heap[w.heap.size]? := hfr.2.2.2.2 _ (by omega) (by omega)
    have y2 := (World.cell?_of_block (a := ⟨w.heap.size, 5, none⟩) hvx).trans HXV1.out.2.2.2.2.2
    by_cases hlt : k < v.kids.length
    · have hkI : (k : Int) < (v.kids.length : Int) := by omega
      obtain ⟨b, off, rfl, hbB, hvk⟩ := (HV.out.below hbw0 (Nat.le_refl _)).2 k hlt
      obtain ⟨d', hd, A', cp, p0, p1, p2, p3, p4, p5, hm⟩ := hvk.parts
      obtain ⟨hgl, hf, Ak, ck, ys, Q, hgc, hown, hrow⟩ := HBd.out
      obtain ⟨_, _, _, hob⟩ := own_form hown
      have HGL := Lib.hid hgl
      have HFR := Lib.hid hf
      have HGC := Lib.hid hgc
      have HOW := Lib.hid hown
      have HRW := Lib.hid hrow
      have c2x : wr.cell? ⟨g, 5, none⟩ = some (.slice Ak k ck) := (cell_of_blk hgc 5).trans rfl
      have hbwl' : b < wl.heap.size := by have := hbwl.size; omega
      have Y2 := Lib.hid y2
      have P0 := Lib.hid p0
      have P1 := Lib.hid p1
      have P2 := Lib.hid p2
      have P3 := Lib.hid p3
      have P4 := Lib.hid p4
      have P5 := Lib.hid p5
      have HKP : Hid (∀ w2, Below wr.heap.size wr w2 → w2.cell? ⟨g, 5, none⟩ = some (.slice Ak k ck) ∧ Hid (w2.heap[w.heap.size]? = wr.heap[w.heap.size]? ∧ w2.heap[b]? = wr.heap[b]?)) := fun w2 h => ⟨(h.cell (p := ⟨g, 5, none⟩) (Go.block_lt_of_cell c2x)).trans c2x, h.block _ (Go.block_lt_of_cell y2), h.block _ (Go.block_lt_of_cell p0)⟩
      have HKQ : Hid (∀ w2, Below wr.heap.size wr w2 → ∀ o, Hid ((w2.alloc o).heap[w.heap.size]? = wr.heap[w.heap.size]? ∧ (w2.alloc o).heap[b]? = wr.heap[b]?)) := fun w2 h o => by
        have := h.size
        have h1 := Go.block_lt_of_cell y2
        have h2 := Go.block_lt_of_cell p0
        exact ⟨(Below.heap_alloc _ _ _ (Nat.lt_of_lt_of_le h1 this)).trans (h.block _ h1), (Below.heap_alloc _ _ _ (Nat.lt_of_lt_of_le h2 this)).trans (h.block _ h2)⟩
      have HKB : Hid (∀ (w2 : World) (o : Obj), Below wr.heap.size wr w2 → ∀ b, (Value.slice Ak k ck).ownBlock = some b → (w2.alloc o).heap[b]? = wr.heap[b]?) := fun w2 o h b e => by
        have := (hob b e).2
        rw [Below.heap_alloc _ _ _ (Nat.lt_of_lt_of_le this h.size), h.block b this]
      have HKC : Hid (∀ (w2 w4 : World) (o : Obj), Below wr.heap.size wr w2 → (w2.alloc o).grownBy w4 (Value.slice Ak k ck).ownBlock → Hid (w4.heap[w.heap.size]? = wr.heap[w.heap.size]? ∧ w4.heap[b]? = wr.heap[b]?)) := fun w2 w4 o h hg => by
        have key : ∀ q, q < wl.heap.size → w4.heap[q]? = wr.heap[q]? := fun q hq => by
          have hlw : q < w2.heap.size := by have := h.size; omega
          rw [hg.block q (by simp; omega) (fun e => by have := (hob q e.symm).1; omega), Below.heap_alloc _ _ _ hlw, h.block q (by omega)]
        exact ⟨key w.heap.size (by omega), key b hbwl'⟩
      have hltL : k < L.length := by rw [HLe.out]; exact hlt
      have hwk : wP v.kids[k] ≤ 1048576 := by have := wP_kid v k hlt; omega
      have HED : Hid (d = d' + 1) := hd
      have HIH : Hid (Calls Try.prog 5 #[.agg #[.int .i64 v.kids[k].op, .int .i64 v.kids[k].ctor, .int .i64 v.kids[k].n, .int .i64 v.kids[k].m, .int .i64 v.kids[k].var, .slice A' v.kids[k].kids.length cp]] wr.drew (fun e w' => ∃ B c, e = .returned (.agg #[.int .i64 L[k].op, .int .i64 L[k].ctor, .int .i64 L[k].n, .int .i64 L[k].m, .int .i64 L[k].var, .slice B L[k].kids.length c]) ∧ OPs (d' + 1) w' (Nw wr.drew w') B L[k].kids ∧ Below wr.drew.heap.size wr.drew w')) := by
        have h := IH.out d' hd A' cp v.kids[k] wr.drew (hm.keep (fun _ _ => rfl) hbw0.size) hwk
        unfold BrQP at h
        rw [HLk.out k hlt hltL] at h
        exact h
      have HS0 : Hid (wr.drew.cell? ⟨g, 5, none⟩ = some (.slice Ak k ck) ∧ Hid (wr.drew.heap[w.heap.size]? = wr.heap[w.heap.size]? ∧ wr.drew.heap[b]? = wr.heap[b]?)) := ⟨c2x, rfl, rfl⟩
      clear hgl hf hgc hown hrow hob c2x hbB hfr hvk hm hd hvx hbw0 p0 p1 p2 p3 p4 p5
      go_wp2_with fail
      clear y2
      refine Till.start (S := fun w' => w'.cell? ⟨g, 5, none⟩ = some (.slice Ak k ck) ∧ Hid (w'.heap[w.heap.size]? = wr.heap[w.heap.size]? ∧ w'.heap[b]? = wr.heap[b]?)) (z := 11) (by kernel_rfl) ?_
      refine Till.take_ (i := 0) (d := some 30) (v := .pointer (some ⟨g, 5, none⟩)) (ls' := #[true, false, false, false, false, false, false, false, false, false, false, false]) rfl rfl (by kernel_rfl) (by kernel_rfl) (by kernel_rfl) (by kernel_rfl) (fun _ _ _ h => h) HS0.out (Or.inl ⟨by rfl, fun wq hSw => ?_⟩) (by kernel_rfl) ?_
      · obtain ⟨hs0, hs1, hs2⟩ := hSw
        go_simp
      simp only [Act.put, List.setIfInBounds_toArray, List.set_cons_zero, List.set_cons_succ]
      refine Till.take_ (i := 1) (d := some 31) (v := .slice Ak k ck) (ls' := #[true, true, false, false, false, false, false, false, false, false, false, false]) rfl rfl (by kernel_rfl) (by kernel_rfl) (by kernel_rfl) (by kernel_rfl) (fun _ _ _ h => h) HS0.out (Or.inl ⟨by rfl, fun wq hSw => ?_⟩) (by kernel_rfl) ?_
      · obtain ⟨hs0, hs1, hs2⟩ := hSw
        go_simp
      simp only [Act.put, List.setIfInBounds_toArray, List.set_cons_zero, List.set_cons_succ]
      refine Till.take_ (i := 2) (d := some 32) (v := .pointer (some ⟨w.heap.size, 5, none⟩)) (ls' := #[true, true, true, false, false, false, false, false, false, false, false, false]) rfl rfl (by kernel_rfl) (by kernel_rfl) (by kernel_rfl) (by kernel_rfl) (fun _ _ _ h => h) HS0.out (Or.inl ⟨by rfl, fun wq hSw => ?_⟩) (by kernel_rfl) ?_
      · obtain ⟨hs0, hs1, hs2⟩ := hSw
        go_simp
      simp only [Act.put, List.setIfInBounds_toArray, List.set_cons_zero, List.set_cons_succ]
      refine Till.take_ (i := 3) (d := some 33) (v := .slice (some ⟨b, off, none⟩) v.kids.length ep) (ls' := #[true, true, true, true, false, false, false, false, false, false, false, false]) rfl rfl (by kernel_rfl) (by kernel_rfl) (by kernel_rfl) (by kernel_rfl) (fun _ _ _ h => h) HS0.out (Or.inl ⟨by rfl, fun wq hSw => ?_⟩) (by kernel_rfl) ?_
      · obtain ⟨hs0, hs1, hs2⟩ := hSw
        have s5 := (World.cell?_of_block (a := ⟨w.heap.size, 5, none⟩) hs1).trans Y2.out
        go_simp
      simp only [Act.put, List.setIfInBounds_toArray, List.set_cons_zero, List.set_cons_succ]
      refine Till.take_ (i := 4) (d := some 34) (v := .int .i64 k) (ls' := #[true, true, true, true, true, false, false, false, false, false, false, false]) rfl rfl (by kernel_rfl) (by kernel_rfl) (by kernel_rfl) (by kernel_rfl) (fun _ _ _ h => h) HS0.out (Or.inl ⟨by rfl, fun wq hSw => ?_⟩) (by kernel_rfl) ?_
      · obtain ⟨hs0, hs1, hs2⟩ := hSw
        go_simp
      simp only [Act.put, List.setIfInBounds_toArray, List.set_cons_zero, List.set_cons_succ]
      refine Till.take_ (i := 5) (d := some 35) (v := .pointer (some ⟨b, off + k * 6, none⟩)) (ls' := #[true, true, true, true, true, true, false, false, false, false, false, false]) rfl rfl (by kernel_rfl) (by kernel_rfl) (by kernel_rfl) (by kernel_rfl) (fun _ _ _ h => h) HS0.out (Or.inl ⟨by rfl, fun wq hSw => ?_⟩) (by kernel_rfl) ?_
      · obtain ⟨hs0, hs1, hs2⟩ := hSw
        go_simp
      simp only [Act.put, List.setIfInBounds_toArray, List.set_cons_zero, List.set_cons_succ]
      refine Till.take_ (i := 6) (d := some 36) (v := .agg #[.int .i64 v.kids[k].op, .int .i64 v.kids[k].ctor, .int .i64 v.kids[k].n, .int .i64 v.kids[k].m, .int .i64 v.kids[k].var, .slice A' v.kids[k].kids.length cp]) (ls' := #[true, true, true, true, true, true, true, false, false, false, false, false]) rfl rfl (by kernel_rfl) (by kernel_rfl) (by kernel_rfl) (by kernel_rfl) (fun _ _ _ h => h) HS0.out (Or.inl ⟨by rfl, fun wq hSw => ?_⟩) (by kernel_rfl) ?_
      · obtain ⟨hs0, hs1, hs2⟩ := hSw
        have s0 := (World.cell?_of_block (a := ⟨b, off + k * 6, none⟩) hs2).trans P0.out
        have s1 := (World.cell?_of_block (a := ⟨b, off + k * 6 + 1, none⟩) hs2).trans P1.out
        have s2 := (World.cell?_of_block (a := ⟨b, off + k * 6 + 2, none⟩) hs2).trans P2.out
        have s3 := (World.cell?_of_block (a := ⟨b, off + k * 6 + 3, none⟩) hs2).trans P3.out
        have s4 := (World.cell?_of_block (a := ⟨b, off + k * 6 + 4, none⟩) hs2).trans P4.out
        have s5 := (World.cell?_of_block (a := ⟨b, off + k * 6 + 5, none⟩) hs2).trans P5.out
        go_simp
      simp only [Act.put, List.setIfInBounds_toArray, List.set_cons_zero, List.set_cons_succ]
      refine Till.all (rs := [7]) (by kernel_rfl) (by decide) (List.forall_mem_cons.2 ⟨?_, fun _ h => nomatch h⟩)
      refine Till.step rfl (by rfl) ?_
      intro K hK
      go_simp
      go_at_call 5
      with_reducible refine (HIH.out).mono ?_
      rintro e2 w2 ⟨A4, c4, rfl, ho4, hb4'⟩
      have hb4 : Below wr.heap.size wr w2 := ⟨hb4'.os, hb4'.tape, hb4'.output, hb4'.size, hb4'.block⟩
      have HS2 := Lib.hid (HKP.out w2 hb4)
      have HKA := Lib.hid (HKQ.out w2 hb4)
      have HB4 := Lib.hid hb4
      have HO4 : Hid (OPs d w2 (Nw wr w2) A4 L[k].kids) := by unfold Hid; rw [HED.out]; exact ho4
      have hbz : wr.heap.size ≤ w2.heap.size := hb4.size
      clear hb4 hb4' ho4
      go_simp
      refine hK _ _ (fun _ => HS2.out) ?_
      clear hK K
      refine Till.all (rs := [8]) (by kernel_rfl) (by decide) (List.forall_mem_cons.2 ⟨?_, fun _ h => nomatch h⟩)
      refine Till.step rfl (by rfl) ?_
      intro K hK
      go_simp
      refine hK _ _ (fun _ => ⟨by have := HS2.out.1; go_keep, HKA.out _⟩) ?_
      clear hK K
      refine Till.all (rs := [9]) (by kernel_rfl) (by decide) (List.forall_mem_cons.2 ⟨?_, fun _ h => nomatch h⟩)
      refine Till.step rfl (by rfl) ?_
      intro K hK
      refine wp_append_own (.tmp 31) (.tmp 38) 26 (by rfl) wl.heap.size 28 i0 (.agg #[.int .i64 0, .int .i64 0, .int .i64 0, .int .i64 0, .int .i64 0, .slice none 0 0]) 6 64 Try.underlying26 hi0 hz0 hz1 hz2 (by rfl) (by decide) (.slice Ak k ck) k ys (by rfl) (own_at HOW.out (HKB.out w2 _ HB4.out)) ⟨w2.heap.size, 0, none⟩ 1 1 [.int .i64 L[k].op, .int .i64 L[k].ctor, .int .i64 L[k].n, .int .i64 L[k].m, .int .i64 L[k].var, .slice A4 L[k].kids.length c4] (by rfl) rfl (cell_six_new _ _ _ _ _ _ _ _) (by intro u hu; simp at hu; rcases hu with rfl | rfl | rfl | rfl | rfl | rfl <;> rfl) (by unfold maxLen; omega) (by omega) (by simp; omega) ?_
      intro v4 w4 hown4 hgr4 hat4
      obtain ⟨A5, c5, rfl, hg4, hbl4⟩ := BldP.step HGL.out HFR.out HGC.out HOW.out HRW.out hltL HB4.out HO4.out hown4 hgr4 hat4
      have HS4 := Lib.hid (And.intro ((cell_of_blk hg4 5).trans rfl) (HKC.out w2 w4 _ HB4.out hgr4))
      have hfz : w4.frozen? ⟨g, 5, none⟩ = false := frozen_of_row w4 g 5 _ 28 hg4
      have c4x := HS4.out.1
      have HBL := Lib.hid hbl4
      clear hown4 hgr4 hat4 hg4 hbl4
      refine hK _ _ (fun _ => HS4.out) ?_
      clear hK K
      refine Till.all (rs := [10]) (by kernel_rfl) (by decide) (List.forall_mem_cons.2 ⟨?_, fun _ h => nomatch h⟩)
      refine Till.step rfl (by rfl) ?_
      intro K hK
      go_simp
      refine hK _ _ (fun _ => HS4.out) ?_
      clear hK K
      refine Till.all (rs := [11]) (by kernel_rfl) (by decide) (List.forall_mem_cons.2 ⟨?_, fun _ h => nomatch h⟩)
      refine Till.step rfl (by rfl) ?_
      intro K hK
      go_simp
      refine hK _ _ (fun h => absurd rfl h) ?_
      clear hK K
      refine Till.done (by kernel_rfl) ?_ _
      clear c4x hfz HS4 HS2
      go_wp2_with fail
      go_roundw
      case rel => exact ⟨k + 1, by omega, by go_num, HBL.out⟩
      case measure => simp [intOf]; omega
    · have hke : k = v.kids.length := by omega
      obtain ⟨A6, c6, hg6, ho6, hf6⟩ := HBd.out.all (by rw [HLe.out]; exact hke) (by rw [HLe.out]; exact hkl)
      have hr6 : wr.heap[w.heap.size + 1]? = some (.cells #[.int .i64 0, .int .i64 0, .int .i64 0, .int .i64 0, .int .i64 0, .slice none 0 0] 28 (0, 0)) := hf6.block HXR1.out (by omega)
      have HO6 := Lib.hid ho6
      have g0 := (cell_of_blk hg6 0).trans rfl
      have g1 := (cell_of_blk hg6 1).trans rfl
      have g2 := (cell_of_blk hg6 2).trans rfl
      have g3 := (cell_of_blk hg6 3).trans rfl
      have g4 := (cell_of_blk hg6 4).trans rfl
      have g5 := (cell_of_blk hg6 5).trans rfl
      have r0 := (cell_of_blk hr6 0).trans rfl
      have r1 := (cell_of_blk hr6 1).trans rfl
      have r2 := (cell_of_blk hr6 2).trans rfl
      have r3 := (cell_of_blk hr6 3).trans rfl
      have r4 := (cell_of_blk hr6 4).trans rfl
      have r5 := (cell_of_blk hr6 5).trans rfl
      have f0 := frozen_of_row wr (w.heap.size + 1) 0 _ 28 hr6
      have f1 := frozen_of_row wr (w.heap.size + 1) 1 _ 28 hr6
      have f2 := frozen_of_row wr (w.heap.size + 1) 2 _ 28 hr6
      have f3 := frozen_of_row wr (w.heap.size + 1) 3 _ 28 hr6
      have f4 := frozen_of_row wr (w.heap.size + 1) 4 _ 28 hr6
      have f5 := frozen_of_row wr (w.heap.size + 1) 5 _ 28 hr6
      have hkI : (v.kids.length : Int) ≤ (k : Int) := by omega
      clear hke hg6 ho6 hf6 hr6
      go_wp2_with fail
      refine bodyPost_ret (v := .agg #[.int .i64 v.op, .int .i64 v.ctor, .int .i64 v.n, .int .i64 v.m, .int .i64 v.var, .slice A6 L.length c6]) (by simp [results, Try.results5, go_sem, r0, r1, r2, r3, r4, r5]) rfl ⟨A6, c6, by rw [HBE.out]; rfl, ?_, ?_⟩
      · rw [HBE.out]; show OPs _ _ _ _ L
        exact (HO6.out.fr _ ((((((Fr.set (P := fun b => b = w.heap.size + 1) _ _ _ _ rfl).trans (Fr.set _ _ _ _ rfl)).trans (Fr.set _ _ _ _ rfl)).trans (Fr.set _ _ _ _ rfl)).trans (Fr.set _ _ _ _ rfl)).trans (Fr.set _ _ _ _ rfl)) (fun b hq e => by have := hq.1; omega)).wide _ (fun b hq => ⟨by have := hq.1; omega, by have h2 := hq.2; simpa [World.setCell] using h2⟩)
      · refine Below.setCell (Below.setCell (Below.setCell (Below.setCell (Below.setCell (Below.setCell hbw0 ?_ _) ?_ _) ?_ _) ?_ _) ?_ _) ?_ _ <;> (simp <;> omega)
set_option maxHeartbeats 4000000 in
theorem brSP_n2 (d : Nat) (ih : ∀ d', d = d' + 1 → BrSP d') (D : Option Addr) (ep : Nat) (v : Pt) (w : World) (hv : RPs d w w.heap.size D v.kids) (hn : wP v ≤ 1048576) (h2 : ¬ v.op = 2) (h6 : v.op = 6) (h0 : ¬ 0 < v.kids.length) :
    Calls Try.prog 5 #[.agg #[.int .i64 v.op, .int .i64 v.ctor, .int .i64 v.n, .int .i64 v.m, .int .i64 v.var, .slice D v.kids.length ep]] w (BrQP d v w) := by
  have HBE := Lib.hid (bareP_other v h2 (fun h => h0 h.2))
  have HLe : Hid ((barePs v.kids).length = v.kids.length) := by unfold Hid; rw [barePs_map, List.length_map]
  have HLk : Hid (∀ (k : Nat) (h : k < v.kids.length) (h' : k < (barePs v.kids).length), bareP v.kids[k] = (barePs v.kids)[k]) := fun k h h' => by simp only [barePs_map, List.getElem_map]
  obtain ⟨L, hL⟩ : ∃ L, L = barePs v.kids := ⟨_, rfl⟩
  rw [← hL] at HBE HLe HLk
  clear hL
  have u1 : (v.op == 2) = false := ieq_f h2
  have u2 : (v.op == 6) = true := ieq_t h6
  have u3 : ¬ (v.kids.length : Int) > 0 := by omega
  clear h6
  obtain ⟨i0, hi0, hz0, hz1, hz2⟩ := info_parts infoOP
  have hl := hv.1
  unfold maxLen at hl
  have HV := Lib.hid hv
  have IH := Lib.hid ih
  have hkl : v.kids.length ≤ 1048576 := by have h2 := wP_kids v; have h3 := wPs_sum v.kids; omega
  clear hv ih
  generalize hwx : (w.alloc (.cells #[.int .i64 v.op, .int .i64 v.ctor, .int .i64 v.n, .int .i64 v.m, .int .i64 v.var, .slice D v.kids.length ep] 28)).alloc (.cells #[.int .i64 0, .int .i64 0, .int .i64 0, .int .i64 0, .int .i64 0, .slice none 0 0] 28) = wx
  have hbx : Below w.heap.size w wx := by rw [← hwx]; exact ((Below.refl _ _).alloc (Nat.le_refl _) _).alloc (by simp) _
  have HXV : Hid (PBr wx w.heap.size v (.slice D v.kids.length ep)) := by rw [← hwx]; exact ⟨by simp [go_sem], by simp [go_sem], by simp [go_sem], by simp [go_sem], by simp [go_sem], by simp [go_sem]⟩
  have HXR : Hid (ZbP wx (w.heap.size + 1)) := by
    have h := ZbP.new (w.alloc (.cells #[.int .i64 v.op, .int .i64 v.ctor, .int .i64 v.n, .int .i64 v.m, .int .i64 v.var, .slice D v.kids.length ep] 28))
    simp only [World.size_alloc] at h
    unfold Hid; rw [← hwx]; exact h
  have hsx : wx.heap.size = w.heap.size + 2 := by rw [← hwx]; simp
  have HWX := Lib.hid hwx
  clear hwx
  generalize hwl : wx.alloc (.cells #[.int .i64 v.op, .int .i64 v.ctor, .int .i64 v.n, .int .i64 v.m, .int .i64 v.var, .slice none 0 0] 28) = wl
  have hbl : Below wx.heap.size wx wl := by rw [← hwl]; exact (Below.refl _ _).alloc (Nat.le_refl _) _
  have HG : Hid (wl.heap[wx.heap.size]? = some (.cells #[.int .i64 v.op, .int .i64 v.ctor, .int .i64 v.n, .int .i64 v.m, .int .i64 v.var, .slice none 0 0] 28 (0, 0))) := by unfold Hid; rw [← hwl]; exact heap_alloc_new _ _
  have HWL := Lib.hid hwl
  have HXV1 := Lib.hid (HXV.out.at_ hbl)
  have HXR1 : Hid (ZbP wl (w.heap.size + 1)) := HXR.out.at_ hbl
  have hbwl : Below w.heap.size w wl := hbx.trans (hbl.mono hbx.size)
  have hsl : wx.heap.size < wl.heap.size := heap_lt HG.out
  clear hwl
  obtain ⟨x0, x1, x2, x3, x4, x5⟩ := HXV.out
  have hq0 : w.heap.size < wx.heap.size := by omega
  generalize hg : wx.heap.size = g at HG hsl hq0
  have hgx : g = w.heap.size + 2 := by omega
  go_enter Try.func5, Try.ntmps5
  go_wp2_with fail
  rw [HWX.out, HWL.out]
  rw [show w.heap.size + 1 + 1 = g by omega]
  have hgl1 : w.heap.size + 2 ≤ g := by omega
  have hgl2 : g ≤ w.heap.size + 2 := by omega
  clear hgx hg hsx
  clear x0 x1 x2 x3 x4 x5 hbx hbl
  obtain ⟨x0, x1, x2, x3, x4, x5⟩ := HXV1.out
  go_loopw [4] (fun i wr => ∃ k : Nat, k ≤ v.kids.length ∧ i = .int .i64 k ∧ Hid (BldP d wl wr g v.op v.ctor v.n v.m v.var L k)) (fun i _ => v.kids.length - (intOf i).toNat)
  case atStart => exact ⟨0, by omega, rfl, BldP.zero HG.out⟩
  case round =>
    clear x0 x1 x2 x3 x4 x5
    obtain ⟨k, hk, rfl, HBd⟩ := hrel
    have hfr := HBd.out.2.1
    have hwr := hfr.size
    have hbw0 : Below w.heap.size w wr := hbwl.trans (hfr.to hbwl.size (fun b h => by omega))
    have hvx : wr.heap[w.heap.size]? = wl.heap[w.heap.size]? := hfr.2.2.2.2 _ (by omega) (by omega)
    have y2 := (World.cell?_of_block (a := ⟨w.heap.size, 5, none⟩) hvx).trans HXV1.out.2.2.2.2.2
    by_cases hlt : k < v.kids.length
    · exact absurd hlt (by omega)
    · have hke : k = v.kids.length := by omega
      obtain ⟨A6, c6, hg6, ho6, hf6⟩ := HBd.out.all (by rw [HLe.out]; exact hke) (by rw [HLe.out]; exact hkl)
      have hr6 : wr.heap[w.heap.size + 1]? = some (.cells #[.int .i64 0, .int .i64 0, .int .i64 0, .int .i64 0, .int .i64 0, .slice none 0 0] 28 (0, 0)) := hf6.block HXR1.out (by omega)
      have HO6 := Lib.hid ho6
      have g0 := (cell_of_blk hg6 0).trans rfl
      have g1 := (cell_of_blk hg6 1).trans rfl
      have g2 := (cell_of_blk hg6 2).trans rfl
      have g3 := (cell_of_blk hg6 3).trans rfl
      have g4 := (cell_of_blk hg6 4).trans rfl
      have g5 := (cell_of_blk hg6 5).trans rfl
      have r0 := (cell_of_blk hr6 0).trans rfl
      have r1 := (cell_of_blk hr6 1).trans rfl
      have r2 := (cell_of_blk hr6 2).trans rfl
      have r3 := (cell_of_blk hr6 3).trans rfl
      have r4 := (cell_of_blk hr6 4).trans rfl
      have r5 := (cell_of_blk hr6 5).trans rfl
      have f0 := frozen_of_row wr (w.heap.size + 1) 0 _ 28 hr6
      have f1 := frozen_of_row wr (w.heap.size + 1) 1 _ 28 hr6
      have f2 := frozen_of_row wr (w.heap.size + 1) 2 _ 28 hr6
      have f3 := frozen_of_row wr (w.heap.size + 1) 3 _ 28 hr6
      have f4 := frozen_of_row wr (w.heap.size + 1) 4 _ 28 hr6
      have f5 := frozen_of_row wr (w.heap.size + 1) 5 _ 28 hr6
      have hkI : (v.kids.length : Int) ≤ (k : Int) := by omega
      clear hke hg6 ho6 hf6 hr6
      go_wp2_with fail
      refine bodyPost_ret (v := .agg #[.int .i64 v.op, .int .i64 v.ctor, .int .i64 v.n, .int .i64 v.m, .int .i64 v.var, .slice A6 L.length c6]) (by simp [results, Try.results5, go_sem, r0, r1, r2, r3, r4, r5]) rfl ⟨A6, c6, by rw [HBE.out]; rfl, ?_, ?_⟩
      · rw [HBE.out]; show OPs _ _ _ _ L
        exact (HO6.out.fr _ ((((((Fr.set (P := fun b => b = w.heap.size + 1) _ _ _ _ rfl).trans (Fr.set _ _ _ _ rfl)).trans (Fr.set _ _ _ _ rfl)).trans (Fr.set _ _ _ _ rfl)).trans (Fr.set _ _ _ _ rfl)).trans (Fr.set _ _ _ _ rfl)) (fun b hq e => by have := hq.1; omega)).wide _ (fun b hq => ⟨by have := hq.1; omega, by have h2 := hq.2; simpa [World.setCell] using h2⟩)
      · refine Below.setCell (Below.setCell (Below.setCell (Below.setCell (Below.setCell (Below.setCell hbw0 ?_ _) ?_ _) ?_ _) ?_ _) ?_ _) ?_ _ <;> (simp <;> omega)
set_option maxHeartbeats 4000000 in
theorem brSP_v (d : Nat) (ih : ∀ d', d = d' + 1 → BrSP d') (D : Option Addr) (ep : Nat) (v : Pt) (w : World) (hv : RPs d w w.heap.size D v.kids) (hn : wP v ≤ 1048576) (h2 : v.op = 2) :
    Calls Try.prog 5 #[.agg #[.int .i64 v.op, .int .i64 v.ctor, .int .i64 v.n, .int .i64 v.m, .int .i64 v.var, .slice D v.kids.length ep]] w (BrQP d v w) := by
  have HBE := Lib.hid (bareP_var v h2)
  have u1 : (v.op == 2) = true := ieq_t h2
  clear h2
  go_enter Try.func5, Try.ntmps5
  go_wp2_with fail
  refine bodyPost_ret (v := .agg #[.int .i64 1, .int .i64 0, .int .i64 0, .int .i64 0, .int .i64 0, .slice none 0 0]) (by simp [results, Try.results5, go_sem]) rfl ⟨none, 0, by rw [HBE.out]; rfl, by rw [HBE.out]; exact OPs.nil _ _ _ _, ?_⟩
  exact ((Below.refl _ _).alloc (Nat.le_refl _) _).alloc (by simp) _
set_option maxHeartbeats 4000000 in
theorem brSP_as (d : Nat) (ih : ∀ d', d = d' + 1 → BrSP d') (D : Option Addr) (ep : Nat) (v : Pt) (w : World) (hv : RPs d w w.heap.size D v.kids) (hn : wP v ≤ 1048576) (h6 : v.op = 6) (h0 : 0 < v.kids.length) :
    Calls Try.prog 5 #[.agg #[.int .i64 v.op, .int .i64 v.ctor, .int .i64 v.n, .int .i64 v.m, .int .i64 v.var, .slice D v.kids.length ep]] w (BrQP d v w) := by
  have HBE := Lib.hid (bareP_as v h6 h0)
  have u1 : (v.op == 2) = false := ieq_f (by omega)
  have u2 : (v.op == 6) = true := ieq_t h6
  have u3 : (v.kids.length : Int) > 0 := by omega
  obtain ⟨b, off, rfl, hbB, hvk⟩ := hv.2 0 h0
  obtain ⟨d', hd, A', cp, p0, p1, p2, p3, p4, p5, hm⟩ := hvk.parts
  rw [Nat.zero_mul, Nat.add_zero] at p0 p1 p2 p3 p4 p5
  have hb1 : Below w.heap.size w ((w.alloc (.cells #[.int .i64 v.op, .int .i64 v.ctor, .int .i64 v.n, .int .i64 v.m, .int .i64 v.var, .slice (some ⟨b, off, none⟩) v.kids.length ep] 28)).alloc (.cells #[.int .i64 0, .int .i64 0, .int .i64 0, .int .i64 0, .int .i64 0, .slice none 0 0] 28)) := ((Below.refl _ _).alloc (Nat.le_refl _) _).alloc (by simp) _
  generalize hwx : ((w.alloc (.cells #[.int .i64 v.op, .int .i64 v.ctor, .int .i64 v.n, .int .i64 v.m, .int .i64 v.var, .slice (some ⟨b, off, none⟩) v.kids.length ep] 28)).alloc (.cells #[.int .i64 0, .int .i64 0, .int .i64 0, .int .i64 0, .int .i64 0, .slice none 0 0] 28)) = wx at hb1
  have hc : ∀ (o : Nat) (u : Value), w.cell? ⟨b, o, none⟩ = some u → wx.cell? ⟨b, o, none⟩ = some u := fun o u hu => (hb1.cell (p := ⟨b, o, none⟩) hbB).trans hu
  have q0 := hc _ _ p0
  have q1 := hc _ _ p1
  have q2 := hc _ _ p2
  have q3 := hc _ _ p3
  have q4 := hc _ _ p4
  have q5 := hc _ _ p5
  have HXR : Hid (ZbP wx (w.heap.size + 1)) := by
    have h := ZbP.new (w.alloc (.cells #[.int .i64 v.op, .int .i64 v.ctor, .int .i64 v.n, .int .i64 v.m, .int .i64 v.var, .slice (some ⟨b, off, none⟩) v.kids.length ep] 28))
    simp only [World.size_alloc] at h
    unfold Hid; rw [← hwx]; exact h
  have hsx1 : w.heap.size ≤ wx.heap.size := hb1.size
  have hsx2 : w.heap.size + 2 ≤ wx.heap.size := by rw [← hwx]; simp
  have HIH := Lib.hid (ih d' hd A' cp v.kids[0] wx ((hm.below hb1 (Nat.le_refl _)).keep (fun _ _ => rfl) hsx1) (by have := wP_kid v 0 h0; omega))
  rw [← hwx] at q0 q1 q2 q3 q4 q5
  have HWX := Lib.hid hwx
  have HDD := Lib.hid hd
  have HB1 := Lib.hid hb1
  clear hwx p0 p1 p2 p3 p4 p5 hvk hv ih hc hm hb1 h6
  go_enter Try.func5, Try.ntmps5
  go_wp2_with (go_at_call 5; rw [HWX.out]; refine HIH.out.mono ?_; rintro e2 w2 ⟨B, c, rfl, ho2, hb2⟩; have HO2 := Lib.hid ho2; have HB2 := Lib.hid hb2; have hr6 : w2.heap[w.heap.size + 1]? = some (.cells #[.int .i64 0, .int .i64 0, .int .i64 0, .int .i64 0, .int .i64 0, .slice none 0 0] 28 (0, 0)) := (HXR.out.at_ hb2); have r0 := (cell_of_blk hr6 0).trans rfl; have r1 := (cell_of_blk hr6 1).trans rfl; have r2 := (cell_of_blk hr6 2).trans rfl; have r3 := (cell_of_blk hr6 3).trans rfl; have r4 := (cell_of_blk hr6 4).trans rfl; have r5 := (cell_of_blk hr6 5).trans rfl; have f0 := frozen_of_row w2 (w.heap.size + 1) 0 _ 28 hr6; have f1 := frozen_of_row w2 (w.heap.size + 1) 1 _ 28 hr6; have f2 := frozen_of_row w2 (w.heap.size + 1) 2 _ 28 hr6; have f3 := frozen_of_row w2 (w.heap.size + 1) 3 _ 28 hr6; have f4 := frozen_of_row w2 (w.heap.size + 1) 4 _ 28 hr6; have f5 := frozen_of_row w2 (w.heap.size + 1) 5 _ 28 hr6; clear ho2 hb2 hr6)
  have hs2 := HB2.out.size
  have hbw0 : Below w.heap.size w w2 := HB1.out.trans (HB2.out.mono hsx1)
  refine bodyPost_ret (v := .agg #[.int .i64 (bareP v.kids[0]).op, .int .i64 (bareP v.kids[0]).ctor, .int .i64 (bareP v.kids[0]).n, .int .i64 (bareP v.kids[0]).m, .int .i64 (bareP v.kids[0]).var, .slice B (bareP v.kids[0]).kids.length c]) (by simp [results, Try.results5, go_sem, r0, r1, r2, r3, r4, r5]) rfl ⟨B, c, by rw [HBE.out], ?_, ?_⟩
  · rw [HBE.out]
    exact ((HO2.out.more (d' := d + 1) (by have := HDD.out; omega)).fr _ ((((((Fr.set (P := fun b => b = w.heap.size + 1) _ _ _ _ rfl).trans (Fr.set _ _ _ _ rfl)).trans (Fr.set _ _ _ _ rfl)).trans (Fr.set _ _ _ _ rfl)).trans (Fr.set _ _ _ _ rfl)).trans (Fr.set _ _ _ _ rfl)) (fun b hq e => by have := hq.1; omega)).wide _ (fun b hq => ⟨by have := hq.1; omega, by have h2 := hq.2; simpa [World.setCell] using h2⟩)
  · refine Below.setCell (Below.setCell (Below.setCell (Below.setCell (Below.setCell (Below.setCell hbw0 ?_ _) ?_ _) ?_ _) ?_ _) ?_ _) ?_ _ <;> (simp <;> omega)
theorem brSP_of (d : Nat) (ih : ∀ d', d = d' + 1 → BrSP d') : BrSP d := fun D ep v w hv hn => by
  by_cases h2 : v.op = 2
  · exact brSP_v d ih D ep v w hv hn h2
  by_cases h6 : v.op = 6
  · by_cases h0 : 0 < v.kids.length
    · exact brSP_as d ih D ep v w hv hn h6 h0
    · exact brSP_n2 d ih D ep v w hv hn h2 h6 h0
  · exact brSP_n1 d ih D ep v w hv hn h2 h6
theorem brSP_any : ∀ d, BrSP d := fun d => by
  induction d with
  | zero => exact brSP_of 0 (fun _ h => by omega)
  | succ d ih => exact brSP_of (d + 1) (fun d' h => (Nat.succ.inj h) ▸ ih)
end Go.Proofs.Ytbdiahnelnbdnaa
