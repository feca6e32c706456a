/-
  A value is made known in part, as the numbers say: the document's function. No statement is proved here.
-/
import Derived.Test.YtakhobhmplneeaaY21
import Derived.Test.YtakhobhmplneeaaY23
import Derived.Test.YtakhobhmplneeaaY20
import Derived.Test.YtakhobhmplneeaaY24
import Derived.Test.YtakhobhmplneeaaY01
namespace Go.Proofs.Ytakhobhmplneeaa
open Go.RowKit Go.Sort Go.Deep
set_option maxRecDepth 100000
set_option linter.unusedVariables false
def Sm10Q (d : Nat) (v : Vl) (B rb N : Nat) (w : World) (e : Ending) (w' : World) : Prop := ∃ (x : Vl) (A : Option Addr) (c : Nat), e = .returned (.agg #[.int .i64 x.ctor, .int .i64 x.n, .slice A x.kids.length c]) ∧ wV x ≤ wV v ∧ (x.kids.length ≤ c ∧ c ≤ maxLen) ∧ OVc d w' (Nw w w') A x.kids ∧ RRd w' B rb (N + (1 + wV v)) ∧ Fr (fun b => b = rb) w w'
def Sm10S (d : Nat) : Prop := ∀ (D : Option Addr) (ep : Nat) (v : Vl) (P : Nat → Prop) (B rb N : Nat) (w : World), OVc d w P D v.kids → ¬ P rb → (∀ b, P b → b < w.heap.size) → RRd w B rb N → N + (1 + wV v) ≤ 9000000 → wV v ≤ 1048576 →
  Calls Try.prog 18 #[.pointer (some ⟨rb, 0, none⟩), .agg #[.int .i64 v.ctor, .int .i64 v.n, .slice D v.kids.length ep]] w (Sm10Q d v B rb N w)
theorem wVs_app (l : List Vl) (x : Vl) : ((l ++ [x]).map wV).sum = (l.map wV).sum + wV x := by simp
set_option maxHeartbeats 4000000 in
theorem sm10_of (d : Nat) (ih : ∀ d', d = d' + 1 → Sm10S d') : Sm10S d := by
  intro D ep v P B rb N w hv hP hPl hR hN hn
  obtain ⟨i0, hi0, hz0, hz1, hz2⟩ := info_parts infoOV
  obtain ⟨d', rfl, hlen, hkids⟩ := hv.parts
  have hl := hlen
  unfold maxLen at hl
  have HV := Lib.hid hv
  have HK := Lib.hid hkids
  have IH := Lib.hid (ih d' rfl)
  have HPl := Lib.hid hPl
  have hkl : v.kids.length ≤ 1048576 := by have h2 := wV_kids v; have h3 := wVs_sum v.kids; omega
  have hlt := hR.lt
  have hge := hR.ge
  clear hv ih hkids hPl
  generalize hwx : (w.alloc (.cells #[.int .i64 v.ctor, .int .i64 v.n, .slice D v.kids.length ep] 28)).alloc (.cells #[.int .i64 0, .int .i64 0, .slice none 0 0] 28) = wx
  have hbx : Below w.heap.size w wx := by rw [← hwx]; exact ((Below.refl _ _).alloc (Nat.le_refl _) _).alloc (by simp) _
  have HXB : Hid (wx.heap[w.heap.size]? = some (.cells #[.int .i64 v.ctor, .int .i64 v.n, .slice D v.kids.length ep] 28 (0, 0))) := by
    have h := heap_alloc_new w (.cells #[.int .i64 v.ctor, .int .i64 v.n, .slice D v.kids.length ep] 28)
    unfold Hid; rw [← hwx, Below.heap_alloc _ _ _ (by simp)]; exact h
  have HXR : Hid (ZbV wx (w.heap.size + 1)) := by
    have h := ZbV.new (w.alloc (.cells #[.int .i64 v.ctor, .int .i64 v.n, .slice D v.kids.length ep] 28))
    simp only [World.size_alloc] at h
    unfold Hid; rw [← hwx]; exact h
  have HRX : Hid (RRd wx B rb N) := hR.below hbx
  have hsx1 : w.heap.size + 2 ≤ wx.heap.size := by rw [← hwx]; simp
  have HWX := Lib.hid hwx
  clear hwx hR
  go_enter Try.func18, Try.ntmps18
  go_wp2_with fail
  rw [HWX.out]
  refine (pick_any rb B N 5 _ HRX.out (by omega)).mono ?_
  rintro e w1 ⟨k0, rfl, hk0, hR1, hg1⟩
  have hf1 : Fr (fun b => b = rb) wx w1 := Fr.grown hg1 (fun b e => by injection e)
  have hfw1 : Fr (fun b => b = rb) w w1 := (Fr.below hbx).trans hf1
  have HB1 : Hid (w1.heap[w.heap.size]? = some (.cells #[.int .i64 v.ctor, .int .i64 v.n, .slice D v.kids.length ep] 28 (0, 0))) := hf1.block HXB.out (by omega)
  have HZ1 : Hid (w1.heap[w.heap.size + 1]? = some (.cells #[.int .i64 0, .int .i64 0, .slice none 0 0] 28 (0, 0))) := hf1.block HXR.out (by omega)
  have HR1 := Lib.hid hR1
  have HF1 := Lib.hid hfw1
  have hs1 : w.heap.size + 2 ≤ w1.heap.size := Nat.le_trans hsx1 hf1.size
  clear hR1 hg1 hf1 hfw1
  by_cases hk : k0 = 0
  · have q0 : ((k0 : Int) == 0) = true := ieq_t (by omega)
    have r0 := (cell_of_blk HZ1.out 0).trans rfl
    have r1 := (cell_of_blk HZ1.out 1).trans rfl
    have r2 := (cell_of_blk HZ1.out 2).trans rfl
    have f0 := frozen_of_row w1 (w.heap.size + 1) 0 _ 28 HZ1.out
    have f1 := frozen_of_row w1 (w.heap.size + 1) 1 _ 28 HZ1.out
    have f2 := frozen_of_row w1 (w.heap.size + 1) 2 _ 28 HZ1.out
    clear hk hk0
    go_wp2_with fail
    refine bodyPost_ret (v := .agg #[.int .i64 (-2), .int .i64 0, .slice none 0 0]) (by simp [results, Try.results18, go_sem, r0, r1, r2]) rfl ?_
    refine ⟨.mk (-2) 0 [], none, 0, rfl, by rw [wV, wVs]; omega, ⟨Nat.le_refl _, by unfold maxLen; omega⟩, OVc.nil _ _ _ _, ?_, ((HF1.out.setNew (by omega)).setNew (by omega)).setNew (by omega)⟩
    exact (((HR1.out.setCell (by omega) (by omega)).setCell (by omega) (by omega)).setCell (by omega) (by omega)).more (by omega)
  have q0 : ((k0 : Int) == 0) = false := ieq_f (by omega)
  have b0 := (cell_of_blk HB1.out 0).trans rfl
  have b1 := (cell_of_blk HB1.out 1).trans rfl
  have b2 := (cell_of_blk HB1.out 2).trans rfl
  clear hk hk0
  go_wp2_with fail
  generalize hwl : w1.alloc (.cells #[.int .i64 v.ctor, .int .i64 v.n, .slice none 0 0] 28) = wl
  have hbl : Below w1.heap.size w1 wl := by rw [← hwl]; exact (Below.refl _ _).alloc (Nat.le_refl _) _
  have HG : Hid (wl.heap[w1.heap.size]? = some (.cells #[.int .i64 v.ctor, .int .i64 v.n, .slice none 0 0] 28 (0, 0))) := by unfold Hid; rw [← hwl]; exact heap_alloc_new _ _
  have HBL : Hid (wl.heap[w.heap.size]? = some (.cells #[.int .i64 v.ctor, .int .i64 v.n, .slice D v.kids.length ep] 28 (0, 0))) := (hbl.block _ (heap_lt HB1.out)).trans HB1.out
  have HZL : Hid (wl.heap[w.heap.size + 1]? = some (.cells #[.int .i64 0, .int .i64 0, .slice none 0 0] 28 (0, 0))) := (hbl.block _ (heap_lt HZ1.out)).trans HZ1.out
  have HFL : Hid (Fr (fun b => b = rb) w wl) := HF1.out.trans (Fr.below hbl)
  have HRL : Hid (RRd wl B rb (N + 1)) := HR1.out.below hbl
  have hsl : w1.heap.size < wl.heap.size := heap_lt HG.out
  clear hwl hbl b0 b1 b2 hbx hsx1
  have x2 := (cell_of_blk HBL.out 2).trans rfl
  generalize hgg : w1.heap.size = g at *
  have hg2 : w.heap.size + 2 ≤ g := hs1
  clear hgg
  go_loopw [6] (fun i wr => ∃ vs : List Vl, vs.length ≤ v.kids.length ∧ i = .int .i64 (vs.length : Nat) ∧ Hid (BldD d' wl wr g rb v.ctor v.n vs) ∧ Hid ((vs.map wV).sum ≤ ((v.kids.take vs.length).map wV).sum) ∧ Hid (RRd wr B rb (N + upK v.kids vs.length))) (fun i _ => v.kids.length - (intOf i).toNat)
  case atStart => exact ⟨[], by simp, rfl, BldD.zero HG.out (by omega) (by omega), by unfold Hid; simp, by show RRd wl B rb (N + upK v.kids 0); rw [upK_zero]; exact HRL.out⟩
  case round =>
    clear x2
    obtain ⟨vs, hk, rfl, HBd, HSM, HRr⟩ := hrel
    obtain ⟨hgl, hrbl, hne, hf, Ak, ck, ys, Q, hgc, hown, hrow⟩ := HBd.out
    have hwr := hf.size
    have hfwr : Fr (fun b => b = rb) w wr := HFL.out.andThen hf (fun y hy hq => hq.elim (fun e => by omega) id)
    have HBr : Hid (wr.heap[w.heap.size]? = some (.cells #[.int .i64 v.ctor, .int .i64 v.n, .slice D v.kids.length ep] 28 (0, 0))) := hf.block HBL.out (by omega)
    have y2 := (cell_of_blk HBr.out 2).trans rfl
    by_cases hlt2 : vs.length < v.kids.length
    · have hkI : (vs.length : Int) < (v.kids.length : Int) := by omega
      obtain ⟨gb, cs, Qv, rfl, hpg, hgbh, hqs, hcs⟩ := HK.out (by omega)
      obtain ⟨A', cp, c0, c1, ⟨c2, hcp, _⟩, hm⟩ := hcs vs.length hlt2
      have hgbl : gb < w.heap.size := heap_lt hgbh
      have hgbne : gb ≠ rb := fun e => hP (e ▸ hpg)
      have HGB : Hid (wr.heap[gb]? = some (.cells cs 28 (0, 0))) := hfwr.block hgbh hgbne
      have p0 := (cell_of_blk HGB.out (vs.length * 3)).trans c0
      have p1 := (cell_of_blk HGB.out (vs.length * 3 + 1)).trans c1
      have p2 := (cell_of_blk HGB.out (vs.length * 3 + 2)).trans c2
      obtain ⟨_, _, _, hob⟩ := own_form hown
      have HOB := Lib.hid hob
      have HLZ : Hid (B ≤ rb ∧ rb < wl.heap.size) := ⟨hge, hrbl⟩
      have HGL : Hid (g < wl.heap.size ∧ rb < wl.heap.size ∧ g ≠ rb) := ⟨hgl, hrbl, hne⟩
      have HFR := Lib.hid hf
      have HGC := Lib.hid hgc
      have HOW := Lib.hid hown
      have HRW := Lib.hid hrow
      have c2x : wr.cell? ⟨g, 2, none⟩ = some (.slice Ak vs.length ck) := (cell_of_blk hgc 2).trans rfl
      have hgw := heap_lt hgc
      have HKP : Hid (∀ w', Fr (fun b => b = rb) wr w' → w'.cell? ⟨g, 2, none⟩ = some (.slice Ak vs.length ck) ∧ w'.cell? ⟨w.heap.size, 2, none⟩ = some (.slice (some ⟨gb, 0, none⟩) v.kids.length ep) ∧ w'.cell? ⟨gb, vs.length * 3, none⟩ = some (.int .i64 v.kids[vs.length].ctor) ∧ w'.cell? ⟨gb, vs.length * 3 + 1, none⟩ = some (.int .i64 v.kids[vs.length].n) ∧ w'.cell? ⟨gb, vs.length * 3 + 2, none⟩ = some (.slice A' v.kids[vs.length].kids.length cp)) := fun w' h =>
        have e1 : w'.heap[g]? = wr.heap[g]? := h.2.2.2.2 g hgw hne
        have e2 : w'.heap[gb]? = wr.heap[gb]? := h.2.2.2.2 gb (by omega) hgbne
        have e3 : w'.heap[w.heap.size]? = wr.heap[w.heap.size]? := h.2.2.2.2 _ (by omega) (by omega)
        ⟨(World.cell?_of_block (a := ⟨g, 2, none⟩) e1).trans c2x, (World.cell?_of_block (a := ⟨w.heap.size, 2, none⟩) e3).trans y2, (World.cell?_of_block (a := ⟨gb, vs.length * 3, none⟩) e2).trans p0, (World.cell?_of_block (a := ⟨gb, vs.length * 3 + 1, none⟩) e2).trans p1, (World.cell?_of_block (a := ⟨gb, vs.length * 3 + 2, none⟩) e2).trans p2⟩
      have HKB : Hid (∀ (w2 : World) (o : Obj), Fr (fun b => b = rb) wr w2 → ∀ b, (Value.slice Ak vs.length ck).ownBlock = some b → (w2.alloc o).heap[b]? = wr.heap[b]?) := fun w2 o h b e => by
        have h2 := (hob b e).2
        have h1 := (hob b e).1
        rw [Below.heap_alloc _ _ _ (Nat.lt_of_lt_of_le h2 h.size), h.2.2.2.2 b h2 (by omega)]
      have HKC : Hid (∀ (w2 w' : World) (o : Obj), Fr (fun b => b = rb) wr w2 → (w2.alloc o).grownBy w' (Value.slice Ak vs.length ck).ownBlock → w'.cell? ⟨w.heap.size, 2, none⟩ = some (.slice (some ⟨gb, 0, none⟩) v.kids.length ep) ∧ w'.cell? ⟨gb, vs.length * 3, none⟩ = some (.int .i64 v.kids[vs.length].ctor) ∧ w'.cell? ⟨gb, vs.length * 3 + 1, none⟩ = some (.int .i64 v.kids[vs.length].n) ∧ w'.cell? ⟨gb, vs.length * 3 + 2, none⟩ = some (.slice A' v.kids[vs.length].kids.length cp)) := fun w2 w' o h hg => by
        have key : ∀ q, q < wl.heap.size → q ≠ rb → w'.heap[q]? = wr.heap[q]? := fun q hq hqr => by
          have hlw : q < w2.heap.size := by have := h.size; omega
          rw [hg.block q (by simp; omega) (fun e => by have := (hob q e.symm).1; omega), Below.heap_alloc _ _ _ hlw, h.2.2.2.2 q (by omega) hqr]
        have e2 := key gb (by omega) hgbne
        have e3 := key w.heap.size (by omega) (by omega)
        exact ⟨(World.cell?_of_block (a := ⟨w.heap.size, 2, none⟩) e3).trans y2, (World.cell?_of_block (a := ⟨gb, vs.length * 3, none⟩) e2).trans p0, (World.cell?_of_block (a := ⟨gb, vs.length * 3 + 1, none⟩) e2).trans p1, (World.cell?_of_block (a := ⟨gb, vs.length * 3 + 2, none⟩) e2).trans p2⟩
      have HUS := Lib.hid (upK_succ v.kids vs.length hlt2)
      have HUL := Lib.hid (upK_le v (vs.length + 1) (by omega))
      have hwk : wV v.kids[vs.length] ≤ 1048576 := by have := wV_kid v vs.length hlt2; omega
      have hNk : N + upK v.kids vs.length + (1 + wV v.kids[vs.length]) ≤ 9000000 := by have h1 := HUS.out; have h2 := HUL.out; omega
      have HIH : Hid (Calls Try.prog 18 #[.pointer (some ⟨rb, 0, none⟩), .agg #[.int .i64 v.kids[vs.length].ctor, .int .i64 v.kids[vs.length].n, .slice A' v.kids[vs.length].kids.length cp]] wr.drew (Sm10Q d' v.kids[vs.length] B rb (N + upK v.kids vs.length) wr.drew)) := IH.out A' cp v.kids[vs.length] (Qv vs.length) B rb (N + upK v.kids vs.length) wr.drew (hm.fr _ (⟨hfwr.1, hfwr.2.1, hfwr.2.2.1, hfwr.2.2.2.1, hfwr.2.2.2.2⟩ : Fr (fun b => b = rb) w wr.drew) (fun b hb e => hP (e ▸ (hqs vs.length b hlt2 hb).1))) (fun h => hP (hqs vs.length rb hlt2 h).1) (fun b hb => by have h1 := HPl.out b (hqs vs.length b hlt2 hb).1; have h2 := hfwr.size; show b < wr.heap.size; omega) HRr.out.drew hNk hwk
      have HS0 : Hid (wr.drew.cell? ⟨g, 2, none⟩ = some (.slice Ak vs.length ck) ∧ wr.drew.cell? ⟨w.heap.size, 2, none⟩ = some (.slice (some ⟨gb, 0, none⟩) v.kids.length ep) ∧ wr.drew.cell? ⟨gb, vs.length * 3, none⟩ = some (.int .i64 v.kids[vs.length].ctor) ∧ wr.drew.cell? ⟨gb, vs.length * 3 + 1, none⟩ = some (.int .i64 v.kids[vs.length].n) ∧ wr.drew.cell? ⟨gb, vs.length * 3 + 2, none⟩ = some (.slice A' v.kids[vs.length].kids.length cp)) := ⟨c2x, y2, p0, p1, p2⟩
      clear hgl hrbl hne hf hgc hown hrow hob p0 p1 p2 c2x c0 c1 c2 hfwr hgbh hqs hcs hm hpg hcp hNk
      go_wp2_with fail
      clear y2
      refine Till.start (S := fun w' => w'.cell? ⟨g, 2, none⟩ = some (.slice Ak vs.length ck) ∧ w'.cell? ⟨w.heap.size, 2, none⟩ = some (.slice (some ⟨gb, 0, none⟩) v.kids.length ep) ∧ w'.cell? ⟨gb, vs.length * 3, none⟩ = some (.int .i64 v.kids[vs.length].ctor) ∧ w'.cell? ⟨gb, vs.length * 3 + 1, none⟩ = some (.int .i64 v.kids[vs.length].n) ∧ w'.cell? ⟨gb, vs.length * 3 + 2, none⟩ = some (.slice A' v.kids[vs.length].kids.length cp)) (z := 12) (by kernel_rfl) ?_
      refine Till.take_ (i := 0) (d := some 23) (v := .pointer (some ⟨g, 2, none⟩)) (ls' := #[true, false, false, false, false, false, false, false, false, false, false, false, false]) rfl rfl (by kernel_rfl) (by kernel_rfl) (by kernel_rfl) (by kernel_rfl) (fun _ _ _ h => h) HS0.out (Or.inl ⟨by rfl, fun wq hSw => ?_⟩) (by kernel_rfl) ?_
      · obtain ⟨hs0, hs1, hs2, hs3, hs4⟩ := hSw
        go_simp
      simp only [Act.put, List.setIfInBounds_toArray, List.set_cons_zero, List.set_cons_succ]
      refine Till.take_ (i := 1) (d := some 24) (v := .slice Ak vs.length ck) (ls' := #[true, true, false, false, false, false, false, false, false, false, false, false, false]) rfl rfl (by kernel_rfl) (by kernel_rfl) (by kernel_rfl) (by kernel_rfl) (fun _ _ _ h => h) HS0.out (Or.inl ⟨by rfl, fun wq hSw => ?_⟩) (by kernel_rfl) ?_
      · obtain ⟨hs0, hs1, hs2, hs3, hs4⟩ := hSw
        go_simp
      simp only [Act.put, List.setIfInBounds_toArray, List.set_cons_zero, List.set_cons_succ]
      refine Till.take_ (i := 2) (d := some 25) (v := .pointer (some ⟨rb, 0, none⟩)) (ls' := #[true, true, true, false, false, false, false, false, false, false, false, false, false]) rfl rfl (by kernel_rfl) (by kernel_rfl) (by kernel_rfl) (by kernel_rfl) (fun _ _ _ h => h) HS0.out (Or.inl ⟨by rfl, fun wq hSw => ?_⟩) (by kernel_rfl) ?_
      · obtain ⟨hs0, hs1, hs2, hs3, hs4⟩ := hSw
        go_simp
      simp only [Act.put, List.setIfInBounds_toArray, List.set_cons_zero, List.set_cons_succ]
      refine Till.take_ (i := 3) (d := some 26) (v := .pointer (some ⟨w.heap.size, 2, none⟩)) (ls' := #[true, true, true, true, false, false, false, false, false, false, false, false, false]) rfl rfl (by kernel_rfl) (by kernel_rfl) (by kernel_rfl) (by kernel_rfl) (fun _ _ _ h => h) HS0.out (Or.inl ⟨by rfl, fun wq hSw => ?_⟩) (by kernel_rfl) ?_
      · obtain ⟨hs0, hs1, hs2, hs3, hs4⟩ := hSw
        go_simp
      simp only [Act.put, List.setIfInBounds_toArray, List.set_cons_zero, List.set_cons_succ]
      refine Till.take_ (i := 4) (d := some 27) (v := .slice (some ⟨gb, 0, none⟩) v.kids.length ep) (ls' := #[true, true, true, true, true, false, false, false, false, false, false, false, false]) rfl rfl (by kernel_rfl) (by kernel_rfl) (by kernel_rfl) (by kernel_rfl) (fun _ _ _ h => h) HS0.out (Or.inl ⟨by rfl, fun wq hSw => ?_⟩) (by kernel_rfl) ?_
      · obtain ⟨hs0, hs1, hs2, hs3, hs4⟩ := hSw
        go_simp
      simp only [Act.put, List.setIfInBounds_toArray, List.set_cons_zero, List.set_cons_succ]
      refine Till.take_ (i := 5) (d := some 28) (v := .int .i64 vs.length) (ls' := #[true, true, true, true, true, true, false, false, false, false, false, false, false]) rfl rfl (by kernel_rfl) (by kernel_rfl) (by kernel_rfl) (by kernel_rfl) (fun _ _ _ h => h) HS0.out (Or.inl ⟨by rfl, fun wq hSw => ?_⟩) (by kernel_rfl) ?_
      · obtain ⟨hs0, hs1, hs2, hs3, hs4⟩ := hSw
        go_simp
      simp only [Act.put, List.setIfInBounds_toArray, List.set_cons_zero, List.set_cons_succ]
      refine Till.take_ (i := 6) (d := some 29) (v := .pointer (some ⟨gb, vs.length * 3, none⟩)) (ls' := #[true, true, true, true, true, true, true, false, false, false, false, false, false]) rfl rfl (by kernel_rfl) (by kernel_rfl) (by kernel_rfl) (by kernel_rfl) (fun _ _ _ h => h) HS0.out (Or.inl ⟨by rfl, fun wq hSw => ?_⟩) (by kernel_rfl) ?_
      · obtain ⟨hs0, hs1, hs2, hs3, hs4⟩ := hSw
        go_simp
      simp only [Act.put, List.setIfInBounds_toArray, List.set_cons_zero, List.set_cons_succ]
      refine Till.take_ (i := 7) (d := some 30) (v := .agg #[.int .i64 v.kids[vs.length].ctor, .int .i64 v.kids[vs.length].n, .slice A' v.kids[vs.length].kids.length cp]) (ls' := #[true, true, true, true, true, true, true, true, false, false, false, false, false]) rfl rfl (by kernel_rfl) (by kernel_rfl) (by kernel_rfl) (by kernel_rfl) (fun _ _ _ h => h) HS0.out (Or.inl ⟨by rfl, fun wq hSw => ?_⟩) (by kernel_rfl) ?_
      · obtain ⟨hs0, hs1, hs2, hs3, hs4⟩ := hSw
        go_simp
      simp only [Act.put, List.setIfInBounds_toArray, List.set_cons_zero, List.set_cons_succ]
      refine Till.all (rs := [8]) (by kernel_rfl) (by decide) (List.forall_mem_cons.2 ⟨?_, fun _ h => nomatch h⟩)
      refine Till.step rfl (by rfl) ?_
      intro K hK
      go_simp
      go_at_call 18
      with_reducible refine (HIH.out).mono ?_
      rintro e2 w2 ⟨x2, A4, c4, rfl, hx2, hc4, ho4, hR4, hf4'⟩
      have hf4 : Fr (fun b => b = rb) wr w2 := ⟨hf4'.1, hf4'.2.1, hf4'.2.2.1, hf4'.2.2.2.1, hf4'.2.2.2.2⟩
      have HS2 := Lib.hid (HKP.out w2 hf4)
      have HF4 := Lib.hid hf4
      have HO4 : Hid (OVc d' w2 (Nw wr w2) A4 x2.kids) := ho4
      have hbz : wr.heap.size ≤ w2.heap.size := hf4.size
      have HC4 := Lib.hid hc4
      have HX2 := Lib.hid hx2
      have HR4 := Lib.hid hR4
      clear hf4 hf4' ho4 hc4 hx2 hR4
      go_simp
      refine hK _ _ (fun _ => HS2.out) ?_
      clear hK K
      refine Till.all (rs := [9]) (by kernel_rfl) (by decide) (List.forall_mem_cons.2 ⟨?_, fun _ h => nomatch h⟩)
      refine Till.step rfl (by rfl) ?_
      intro K hK
      go_simp
      refine hK _ _ (fun _ => ⟨by have := HS2.out.1; go_keep, by have := HS2.out.2.1; go_keep, by have := HS2.out.2.2.1; go_keep, by have := HS2.out.2.2.2.1; go_keep, by have := HS2.out.2.2.2.2; go_keep⟩) ?_
      clear hK K
      refine Till.all (rs := [10]) (by kernel_rfl) (by decide) (List.forall_mem_cons.2 ⟨?_, fun _ h => nomatch h⟩)
      refine Till.step rfl (by rfl) ?_
      intro K hK
      refine wp_append_own (.tmp 24) (.tmp 32) 26 (by rfl) wl.heap.size 28 i0 (.agg #[.int .i64 0, .int .i64 0, .slice none 0 0]) 3 40 Try.underlying26 hi0 hz0 hz1 hz2 (by rfl) (by decide) (.slice Ak vs.length ck) vs.length ys (by rfl) (own_at HOW.out (HKB.out w2 _ HF4.out)) ⟨w2.heap.size, 0, none⟩ 1 1 [.int .i64 x2.ctor, .int .i64 x2.n, .slice A4 x2.kids.length c4] (by rfl) rfl (cell_three_new _ _ _ _ _) (by intro u hu; simp at hu; rcases hu with rfl | rfl | rfl <;> rfl) (by unfold maxLen; omega) (by omega) (by simp; omega) ?_
      intro v4 w4 hown4 hgr4 hat4
      obtain ⟨A5, c5, rfl, hg4, hbl4⟩ := BldD.step HGL.out.1 HGL.out.2.1 HGL.out.2.2 HFR.out HGC.out HOW.out HRW.out HF4.out HO4.out HC4.out hown4 hgr4 hat4
      have HS4 := Lib.hid (And.intro ((cell_of_blk hg4 2).trans rfl) (HKC.out w2 w4 _ HF4.out hgr4))
      have HRR : Hid (RRd w4 B rb (N + upK v.kids vs.length + (1 + wV v.kids[vs.length]))) := (HR4.out.alloc _).fr (Fr.grown (P := fun b => wl.heap.size ≤ b) hgr4 (fun b e => (HOB.out b e.symm).1)) (fun b h => by have := HLZ.out; omega)
      have hfz : w4.frozen? ⟨g, 2, none⟩ = false := frozen_of_row w4 g 2 _ 28 hg4
      have c4x := HS4.out.1
      have HBL := Lib.hid hbl4
      clear hown4 hgr4 hat4 hg4 hbl4
      refine hK _ _ (fun _ => HS4.out) ?_
      clear hK K
      refine Till.all (rs := [11]) (by kernel_rfl) (by decide) (List.forall_mem_cons.2 ⟨?_, fun _ h => nomatch h⟩)
      refine Till.step rfl (by rfl) ?_
      intro K hK
      go_simp
      refine hK _ _ (fun _ => HS4.out) ?_
      clear hK K
      refine Till.all (rs := [12]) (by kernel_rfl) (by decide) (List.forall_mem_cons.2 ⟨?_, fun _ h => nomatch h⟩)
      refine Till.step rfl (by rfl) ?_
      intro K hK
      go_simp
      refine hK _ _ (fun h => absurd rfl h) ?_
      clear hK K
      refine Till.done (by kernel_rfl) ?_ _
      clear c4x hfz HS4 HS2
      go_wp2_with fail
      have hll : ((vs ++ [x2]).length : Int) = (vs.length : Int) + 1 := by simp
      go_roundw
      case rel =>
        refine ⟨vs ++ [x2], by simp; omega, by rw [hll], HBL.out, ?_, ?_⟩
        · unfold Hid
          have h1 := HX2.out
          have h2 := HSM.out
          have h3 := sum_take_succ wV v.kids vs.length hlt2
          rw [wVs_app, show (vs ++ [x2]).length = vs.length + 1 by simp]; omega
        · have e : N + upK v.kids (vs ++ [x2]).length = N + upK v.kids vs.length + (1 + wV v.kids[vs.length]) := by rw [show (vs ++ [x2]).length = vs.length + 1 by simp, HUS.out]; omega
          rw [e]
          exact HRR.out.setCell (by have := HGL.out; omega) (by have := HLZ.out; omega)
      case measure => simp [intOf]; omega
    · have hke : vs.length = v.kids.length := by omega
      obtain ⟨A6, c6, hg6, hc6, ho6, hf6⟩ := HBd.out.all (by omega)
      have hr6 : wr.heap[w.heap.size + 1]? = some (.cells #[.int .i64 0, .int .i64 0, .slice none 0 0] 28 (0, 0)) := hf6.block HZL.out (by omega)
      have HFW := Lib.hid hfwr
      have HO6 := Lib.hid ho6
      have HC6 := Lib.hid hc6
      have g0 := (cell_of_blk hg6 0).trans rfl
      have g1 := (cell_of_blk hg6 1).trans rfl
      have g2 := (cell_of_blk hg6 2).trans rfl
      have r0 := (cell_of_blk hr6 0).trans rfl
      have r1 := (cell_of_blk hr6 1).trans rfl
      have r2 := (cell_of_blk hr6 2).trans rfl
      have f0 := frozen_of_row wr (w.heap.size + 1) 0 _ 28 hr6
      have f1 := frozen_of_row wr (w.heap.size + 1) 1 _ 28 hr6
      have f2 := frozen_of_row wr (w.heap.size + 1) 2 _ 28 hr6
      have hkI : (v.kids.length : Int) ≤ (vs.length : Int) := by omega
      have HKE := Lib.hid hke
      have HUL := Lib.hid (upK_le v vs.length (by omega))
      have HWV : Hid (wV (.mk v.ctor v.n vs) ≤ wV v) := by
        unfold Hid
        have h1 := HSM.out
        rw [hke, List.take_length] at h1
        rw [wV_kids, wV_kids v, wVs_sum, wVs_sum]
        show vs.length + (vs.map wV).sum ≤ _
        omega
      clear hke hg6 ho6 hf6 hfwr hc6 hgl hrbl hne hf hgc hown hrow
      go_wp2_with fail
      refine bodyPost_ret (v := .agg #[.int .i64 v.ctor, .int .i64 v.n, .slice A6 vs.length c6]) (by simp [results, Try.results18, go_sem, r0, r1, r2]) rfl ?_
      refine ⟨.mk v.ctor v.n vs, A6, c6, rfl, HWV.out, HC6.out, (HO6.out.fr _ (P' := fun b => b = w.heap.size + 1) (((Fr.set (P := fun b => b = w.heap.size + 1) _ _ _ _ rfl).trans (Fr.set _ _ _ _ rfl)).trans (Fr.set _ _ _ _ rfl)) (fun b hq e => by have := hq.1; omega)).wide _ (fun b hq => ⟨by have := hq.1; omega, by have h2 := hq.2; simpa [World.setCell] using h2⟩), ?_, ((HFW.out.setNew (by omega)).setNew (by omega)).setNew (by omega)⟩
      exact (((HRr.out.setCell (by omega) (by omega)).setCell (by omega) (by omega)).setCell (by omega) (by omega)).more (by have := HUL.out; omega)
theorem sm10_any : ∀ d, Sm10S d
  | 0 => sm10_of 0 (fun _ h => by omega)
  | d + 1 => sm10_of (d + 1) (fun d' h => (Nat.succ.inj h) ▸ sm10_any d)
end Go.Proofs.Ytakhobhmplneeaa
/-
  What the statements draw, by their own functions. No statement is proved here.
-/
namespace Go.Proofs.Ytakhobhmplneeaa
open Go.RowKit Go.Deep
set_option maxRecDepth 100000
set_option linter.unusedVariables false
theorem BoxT.keep {w w' : World} {b : Nat} {t : Ty} (h : BoxT w b t) (hk : w'.heap[b]? = w.heap[b]?) : BoxT w' b t := hk.trans h
end Go.Proofs.Ytakhobhmplneeaa
