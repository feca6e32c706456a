/-
  l3Split of the document. No statement is proved here.
-/
import Derived.Test.YtbdiahnelnbdnaaGreatW11
import Derived.Test.YtbdiahnelnbdnaaGreatW10
import Derived.Test.YtbdiahnelnbdnaaGreatW05
import Derived.Test.YtbdiahnelnbdnaaGreatW06
namespace Go.Proofs.YtbdiahnelnbdnaaGreat
open Go.RowKit Go.Sort Go.Deep
set_option maxRecDepth 100000
set_option linter.unusedVariables false
def LsC (d : Nat) : Prop := ∀ (B : Nat) (D : Option Addr) (ep : Nat) (p : Pt) (w : World), okQ p = true → RPs d w B D p.kids → B ≤ w.heap.size → wP p ≤ 100 →
  Calls Tryz.prog 21 #[.agg #[.int .i64 p.op, .int .i64 p.ctor, .int .i64 p.n, .int .i64 p.m, .int .i64 p.var, .slice D p.kids.length ep]] w (FcQ (d + 1) B p w)
theorem RowQ.push1 {d B lo K c : Nat} {w wb w5 : World} {v v5 : Value} {l : List Pt} {xs : List Value} {x : Pt} {A : Option Addr} (h : RowQ d w (FcP B lo v w) l xs) (hb : Below w.heap.size w wb) (hv : ∀ b, v.ownBlock = some b → K ≤ b ∧ b < w.heap.size) (hK : K ≤ w.heap.size) (hq : QPs d w (fun b => (b < B ∨ lo ≤ b) ∧ b < K) A x.kids) (hg : wb.grownBy w5 v.ownBlock) (hat : v5.ownBlock = v.ownBlock ∨ v5.ownBlock = some wb.heap.size) :
    RowQ d w5 (FcP B lo v5 w5) (l ++ [x]) (xs ++ [.int .i64 x.op, .int .i64 x.ctor, .int .i64 x.n, .int .i64 x.m, .int .i64 x.var, .slice A x.kids.length c]) := by
  have hs := hb.size
  have hs5 := hg.size
  have key : ∀ b, b < w.heap.size → some b ≠ v.ownBlock → w5.heap[b]? = w.heap[b]? ∧ some b ≠ v5.ownBlock := fun b hb1 hne => ⟨(hg.block b (by omega) hne).trans (hb.block b hb1), fun e => by
    rcases hat with h | h
    · rw [h] at e; exact hne e
    · rw [h] at e; injection e with e; omega⟩
  have kv : ∀ b, b < K → some b ≠ v.ownBlock := fun b hb e => by have := (hv b e.symm).1; omega
  refine (h.keep (fun q u hq hu => (World.cell?_of_block (key q.block hq.2.1 hq.2.2).1).trans hu) (fun b hb => ⟨hb.1, by have := hb.2.1; omega, (key b hb.2.1 hb.2.2).2⟩)).app (RowQ.one (v := x) (cap := c) (hq.keep (fun q u hq hu => (World.cell?_of_block (key q.block (by have := hq.2; omega) (kv _ hq.2)).1).trans hu) (fun b hb => ⟨hb.1, by have := hb.2; omega, (key b (by have := hb.2; omega) (kv _ hb.2)).2⟩)))
set_option maxHeartbeats 4000000 in
theorem ls_or (d : Nat) (ih : ∀ d', d = d' + 1 → LsC d') (B : Nat) (D : Option Addr) (ep : Nat) (p : Pt) (w : World) (hok : okQ p = true) (hp : RPs d w B D p.kids) (hB : B ≤ w.heap.size) (hN : wP p ≤ 100) (h5 : p.op = 5) :
    Calls Tryz.prog 21 #[.agg #[.int .i64 p.op, .int .i64 p.ctor, .int .i64 p.n, .int .i64 p.m, .int .i64 p.var, .slice D p.kids.length ep]] w (FcQ (d + 1) B p w) := by
  have hk2 := okQ_two p hok h5
  have hl0 : 0 < p.kids.length := by omega
  have hl1 : 1 < p.kids.length := by omega
  have HK2 := Lib.hid hk2
  clear hk2
  obtain ⟨i0, hi0, hz0, hz1, hz2⟩ := info_parts infoOP
  obtain ⟨b, off, rfl, hbB, hv0⟩ := hp.2 0 hl0
  obtain ⟨b', off', e', _, hv1⟩ := hp.2 1 hl1
  cases e'
  obtain ⟨d0, hd0, A0, c0, p0, p1, p2, p3, p4, p5, hm0⟩ := hv0.parts
  obtain ⟨d1, hd1, A1, c1, q0, q1, q2, q3, q4, q5, hm1⟩ := hv1.parts
  obtain rfl : d0 = d1 := by omega
  have ih := ih d0 hd0
  have hok0 := okQs_all (okQ_kids p hok) p.kids[0] (List.getElem_mem _)
  have hok1 := okQs_all (okQ_kids p hok) p.kids[1] (List.getElem_mem _)
  have hwk : wP p.kids[0] ≤ 100 ∧ wP p.kids[1] ≤ 100 := by
    have h1 := wP_kid p 0 hl0
    have h2 := wP_kid p 1 hl1
    omega
  have HSP := Lib.hid (spP_or p hok h5 hl0 hl1)
  have hn1 := spP_le p.kids[0]
  have hn2 := spP_le p.kids[1]
  have hp1 := List.length_pos_iff.2 (spP_ne _ hok0)
  have hp2 := List.length_pos_iff.2 (spP_ne _ hok1)
  have HIH := Lib.hid ih
  have HO0 := Lib.hid hok0
  have HO1 := Lib.hid hok1
  have HWK := Lib.hid hwk
  have HM0 := Lib.hid hm0
  have HM1 := Lib.hid hm1
  have HD0 := Lib.hid hd0
  have u1 := ieq_t h5
  generalize hwx : w.alloc (.cells #[.int .i64 p.op, .int .i64 p.ctor, .int .i64 p.n, .int .i64 p.m, .int .i64 p.var, .slice (some ⟨b, off, none⟩) p.kids.length ep] 38) = wx
  have hbx : Below w.heap.size w wx := by rw [← hwx]; exact (Below.refl _ _).alloc (Nat.le_refl _) _
  have hsx : wx.heap.size = w.heap.size + 1 := by rw [← hwx]; simp
  have hbk : wx.heap[w.heap.size]? = some (.cells #[.int .i64 p.op, .int .i64 p.ctor, .int .i64 p.n, .int .i64 p.m, .int .i64 p.var, .slice (some ⟨b, off, none⟩) p.kids.length ep] 38 (0, 0)) := by rw [← hwx]; exact heap_alloc_new _ _
  have x0 : wx.cell? ⟨w.heap.size, 0, none⟩ = some (.int .i64 p.op) := (cell_of_blk hbk 0).trans rfl
  have x5 : wx.cell? ⟨w.heap.size, 5, none⟩ = some (.slice (some ⟨b, off, none⟩) p.kids.length ep) := (cell_of_blk hbk 5).trans rfl
  have HW := Lib.hid hwx
  have HBX := Lib.hid hbx
  have hbw : b < w.heap.size := by omega
  have HC : Hid (∀ w', Below wx.heap.size wx w' → w'.cell? ⟨w.heap.size, 5, none⟩ = some (.slice (some ⟨b, off, none⟩) 2 ep) ∧ (w'.cell? ⟨b, off, none⟩ = some (.int .i64 p.kids[0].op) ∧ w'.cell? ⟨b, off + 1, none⟩ = some (.int .i64 p.kids[0].ctor) ∧ w'.cell? ⟨b, off + 2, none⟩ = some (.int .i64 p.kids[0].n) ∧ w'.cell? ⟨b, off + 3, none⟩ = some (.int .i64 p.kids[0].m) ∧ w'.cell? ⟨b, off + 4, none⟩ = some (.int .i64 p.kids[0].var) ∧ w'.cell? ⟨b, off + 5, none⟩ = some (.slice A0 p.kids[0].kids.length c0)) ∧ (w'.cell? ⟨b, off + 6, none⟩ = some (.int .i64 p.kids[1].op) ∧ w'.cell? ⟨b, off + 6 + 1, none⟩ = some (.int .i64 p.kids[1].ctor) ∧ w'.cell? ⟨b, off + 6 + 2, none⟩ = some (.int .i64 p.kids[1].n) ∧ w'.cell? ⟨b, off + 6 + 3, none⟩ = some (.int .i64 p.kids[1].m) ∧ w'.cell? ⟨b, off + 6 + 4, none⟩ = some (.int .i64 p.kids[1].var) ∧ w'.cell? ⟨b, off + 6 + 5, none⟩ = some (.slice A1 p.kids[1].kids.length c1))) := fun w' h => by
    have hc : ∀ (o : Nat) (v : Value), w.cell? ⟨b, o, none⟩ = some v → w'.cell? ⟨b, o, none⟩ = some v := fun o v hv => (h.cell (p := ⟨b, o, none⟩) (by show b < wx.heap.size; omega)).trans ((hbx.cell (p := ⟨b, o, none⟩) hbw).trans hv)
    rw [Nat.zero_mul, Nat.add_zero] at p0 p1 p2 p3 p4 p5
    rw [Nat.one_mul] at q0 q1 q2 q3 q4 q5
    refine ⟨by rw [← HK2.out]; exact (h.cell (p := ⟨w.heap.size, 5, none⟩) (by show w.heap.size < wx.heap.size; omega)).trans x5, ⟨hc _ _ p0, hc _ _ p1, hc _ _ p2, hc _ _ p3, hc _ _ p4, hc _ _ p5⟩, hc _ _ q0, hc _ _ q1, hc _ _ q2, hc _ _ q3, hc _ _ q4, hc _ _ q5⟩
  have hsx2 : w.heap.size + 1 ≤ wx.heap.size := by omega
  clear hok hp h5 hv0 hv1 p0 p1 p2 p3 p4 p5 q0 q1 q2 q3 q4 q5 hm0 hm1 hd0 hd1 ih hok0 hok1 hwk hwx hbx hbk hsx
  go_enter Tryz.func21, Tryz.ntmps21
  go_wp2_with fail
  rw [HW.out]
  rw [HK2.out]
  have SQ : Below wx.heap.size wx wx.drew := (Below.refl _ wx).drew
  refine Till.start (S := fun w' => Below wx.heap.size wx w') (z := 11) (by kernel_rfl) ?_
  refine Till.take_ (i := 0) (d := some 13) (v := .pointer (some ⟨w.heap.size, 5, none⟩)) (ls' := #[true, false, false, false, false, false, false, false, false, false, false, false]) rfl rfl (by kernel_rfl) (by kernel_rfl) (by kernel_rfl) (by kernel_rfl) (fun _ _ _ h => h) SQ (Or.inl ⟨by rfl, fun wq hSw => ?_⟩) (by kernel_rfl) ?_
  · obtain ⟨hs, ⟨k0, k1, k2, k3, k4, k5⟩, l0, l1, l2, l3, l4, l5⟩ := HC.out wq hSw
    go_simp
  simp only [Act.put, List.setIfInBounds_toArray, List.set_cons_zero, List.set_cons_succ]
  refine Till.take_ (i := 1) (d := some 14) (v := .slice (some ⟨b, off, none⟩) 2 ep) (ls' := #[true, true, false, false, false, false, false, false, false, false, false, false]) rfl rfl (by kernel_rfl) (by kernel_rfl) (by kernel_rfl) (by kernel_rfl) (fun _ _ _ h => h) SQ (Or.inl ⟨by rfl, fun wq hSw => ?_⟩) (by kernel_rfl) ?_
  · obtain ⟨hs, ⟨k0, k1, k2, k3, k4, k5⟩, l0, l1, l2, l3, l4, l5⟩ := HC.out wq hSw
    go_simp
  simp only [Act.put, List.setIfInBounds_toArray, List.set_cons_zero, List.set_cons_succ]
  refine Till.take_ (i := 2) (d := some 15) (v := .pointer (some ⟨b, off, none⟩)) (ls' := #[true, true, true, false, false, false, false, false, false, false, false, false]) rfl rfl (by kernel_rfl) (by kernel_rfl) (by kernel_rfl) (by kernel_rfl) (fun _ _ _ h => h) SQ (Or.inl ⟨by rfl, fun wq hSw => ?_⟩) (by kernel_rfl) ?_
  · obtain ⟨hs, ⟨k0, k1, k2, k3, k4, k5⟩, l0, l1, l2, l3, l4, l5⟩ := HC.out wq hSw
    go_simp
  simp only [Act.put, List.setIfInBounds_toArray, List.set_cons_zero, List.set_cons_succ]
  refine Till.take_ (i := 3) (d := some 16) (v := .agg #[.int .i64 p.kids[0].op, .int .i64 p.kids[0].ctor, .int .i64 p.kids[0].n, .int .i64 p.kids[0].m, .int .i64 p.kids[0].var, .slice A0 p.kids[0].kids.length c0]) (ls' := #[true, true, true, true, false, false, false, false, false, false, false, false]) rfl rfl (by kernel_rfl) (by kernel_rfl) (by kernel_rfl) (by kernel_rfl) (fun _ _ _ h => h) SQ (Or.inl ⟨by rfl, fun wq hSw => ?_⟩) (by kernel_rfl) ?_
  · obtain ⟨hs, ⟨k0, k1, k2, k3, k4, k5⟩, l0, l1, l2, l3, l4, l5⟩ := HC.out wq hSw
    go_simp
  simp only [Act.put, List.setIfInBounds_toArray, List.set_cons_zero, List.set_cons_succ]
  refine Till.take_ (i := 5) (d := some 18) (v := .pointer (some ⟨w.heap.size, 5, none⟩)) (ls' := #[true, true, true, true, false, true, false, false, false, false, false, false]) rfl rfl (by kernel_rfl) (by kernel_rfl) (by kernel_rfl) (by kernel_rfl) (fun _ _ _ h => h) SQ (Or.inl ⟨by rfl, fun wq hSw => ?_⟩) (by kernel_rfl) ?_
  · obtain ⟨hs, ⟨k0, k1, k2, k3, k4, k5⟩, l0, l1, l2, l3, l4, l5⟩ := HC.out wq hSw
    go_simp
  simp only [Act.put, List.setIfInBounds_toArray, List.set_cons_zero, List.set_cons_succ]
  refine Till.take_ (i := 6) (d := some 19) (v := .slice (some ⟨b, off, none⟩) 2 ep) (ls' := #[true, true, true, true, false, true, true, false, false, false, false, false]) rfl rfl (by kernel_rfl) (by kernel_rfl) (by kernel_rfl) (by kernel_rfl) (fun _ _ _ h => h) SQ (Or.inl ⟨by rfl, fun wq hSw => ?_⟩) (by kernel_rfl) ?_
  · obtain ⟨hs, ⟨k0, k1, k2, k3, k4, k5⟩, l0, l1, l2, l3, l4, l5⟩ := HC.out wq hSw
    go_simp
  simp only [Act.put, List.setIfInBounds_toArray, List.set_cons_zero, List.set_cons_succ]
  refine Till.take_ (i := 7) (d := some 20) (v := .pointer (some ⟨b, off + 6, none⟩)) (ls' := #[true, true, true, true, false, true, true, true, false, false, false, false]) rfl rfl (by kernel_rfl) (by kernel_rfl) (by kernel_rfl) (by kernel_rfl) (fun _ _ _ h => h) SQ (Or.inl ⟨by rfl, fun wq hSw => ?_⟩) (by kernel_rfl) ?_
  · obtain ⟨hs, ⟨k0, k1, k2, k3, k4, k5⟩, l0, l1, l2, l3, l4, l5⟩ := HC.out wq hSw
    go_simp
  simp only [Act.put, List.setIfInBounds_toArray, List.set_cons_zero, List.set_cons_succ]
  refine Till.take_ (i := 8) (d := some 21) (v := .agg #[.int .i64 p.kids[1].op, .int .i64 p.kids[1].ctor, .int .i64 p.kids[1].n, .int .i64 p.kids[1].m, .int .i64 p.kids[1].var, .slice A1 p.kids[1].kids.length c1]) (ls' := #[true, true, true, true, false, true, true, true, true, false, false, false]) rfl rfl (by kernel_rfl) (by kernel_rfl) (by kernel_rfl) (by kernel_rfl) (fun _ _ _ h => h) SQ (Or.inl ⟨by rfl, fun wq hSw => ?_⟩) (by kernel_rfl) ?_
  · obtain ⟨hs, ⟨k0, k1, k2, k3, k4, k5⟩, l0, l1, l2, l3, l4, l5⟩ := HC.out wq hSw
    go_simp
  simp only [Act.put, List.setIfInBounds_toArray, List.set_cons_zero, List.set_cons_succ]
  obtain ⟨wd, hwd⟩ : ∃ wd, wd = wx.drew := ⟨_, rfl⟩
  have hsd : wd.heap.size = wx.heap.size := by rw [hwd]; rfl
  have HSD := Lib.hid hsd
  rw [← hwd] at SQ ⊢
  have hsd2 : wx.heap.size ≤ wd.heap.size := by omega
  have HDD : Hid (Below w.heap.size w wd) := HBX.out.trans (SQ.mono (by omega))
  clear hwd hsd
  have hwsd : w.heap.size < wd.heap.size := by omega
  refine Till.all (rs := [4]) (by kernel_rfl) (by decide) (List.forall_mem_cons.2 ⟨?_, fun _ h => nomatch h⟩)
  refine Till.step rfl (by rfl) ?_
  intro K hK
  go_simp
  go_at_call 21
  refine (HIH.out B A0 c0 p.kids[0] wd HO0.out (HM0.out.below HDD.out hB) (by omega) HWK.out.1).mono ?_
  rintro e1 w1 ⟨v1, xs1, rfl, ho1, hr1, hb1⟩
  have HO1' := Lib.hid ho1
  have HR1 := Lib.hid hr1
  have HB1 : Hid (Below wd.heap.size wd w1) := hb1
  have hs1 : wd.heap.size ≤ w1.heap.size := hb1.size
  have hf1 := own_form ho1
  clear ho1 hr1 hb1
  go_simp
  refine hK _ _ (fun _ => SQ.trans (HB1.out.mono hsd2)) ?_
  clear hK K
  refine Till.all (rs := [9]) (by kernel_rfl) (by decide) (List.forall_mem_cons.2 ⟨?_, fun _ h => nomatch h⟩)
  refine Till.step rfl (by rfl) ?_
  intro K hK
  go_simp
  go_at_call 21
  refine (HIH.out B A1 c1 p.kids[1] w1 HO1.out ((HM1.out.below HDD.out hB).below HB1.out (by omega)) (by omega) HWK.out.2).mono ?_
  rintro e2 w2 ⟨v2, xs2, rfl, ho2, hr2, hb2⟩
  have HB2 : Hid (Below w1.heap.size w1 w2) := hb2
  have hs2 : w1.heap.size ≤ w2.heap.size := hb2.size
  obtain ⟨A2, c2, rfl, hf2⟩ := own_form ho2
  have HO2' := Lib.hid ho2
  have HR2 := Lib.hid hr2
  have HNW := Lib.hid (own_news ho2)
  have HF2 := Lib.hid hf2
  clear ho2 hr2 hb2 hf2
  obtain ⟨g2, rfl⟩ : ∃ g2, A2 = some g2 := by
    cases A2 with
    | none => have := (HNW.out.1 rfl).1; omega
    | some g => exact ⟨g, rfl⟩
  obtain ⟨A5, c5, rfl, hf1⟩ := hf1
  have HF1 := Lib.hid hf1
  clear hf1
  go_simp
  refine hK _ _ (fun _ => SQ.trans ((HB1.out.trans (HB2.out.mono hs1)).mono hsd2)) ?_
  clear hK K
  refine Till.all (rs := [10]) (by kernel_rfl) (by decide) (List.forall_mem_cons.2 ⟨?_, fun _ h => nomatch h⟩)
  refine Till.step rfl (by rfl) ?_
  intro K hK
  refine wp_append_own (.tmp 17) (.tmp 22) 30 (by rfl) wd.heap.size 38 i0 (.agg #[.int .i64 0, .int .i64 0, .int .i64 0, .int .i64 0, .int .i64 0, .slice none 0 0]) 6 64 Tryz.underlying30 hi0 hz0 hz1 hz2 (by rfl) (by decide) (.slice A5 (spP p.kids[0]).length c5) (spP p.kids[0]).length xs1 (by rfl) (own_at HO1'.out (fun b e => HB2.out.block b (HF1.out b e).2)) g2 (spP p.kids[1]).length c2 xs2 (by rfl) HNW.out.2.2 (HNW.out.2.1 g2 rfl) HR2.out.cells (by unfold maxLen; omega) (by omega) (by omega) ?_
  intro v5 w5 hown5 hgr5 hat5
  obtain ⟨A6, c6, rfl, hf6⟩ := own_form hown5
  have hs5 : w2.heap.size ≤ w5.heap.size := hgr5.size
  have HG5 := Lib.hid hgr5
  have HAT := Lib.hid hat5
  have HOW := Lib.hid hown5
  have hcap := own_cap hown5
  have hcm := hcap.2
  unfold maxLen at hcm
  have hcc := hcap.1
  have HB5 : Hid (Below wd.heap.size wd w5) := ((HB1.out.trans (HB2.out.mono hs1))).grown HG5.out (by omega) (fun k e => (HF1.out k e).1)
  clear hown5 hgr5 hat5 hf6 hcap
  refine hK _ _ (fun _ => SQ.trans (HB5.out.mono hsd2)) ?_
  clear hK K
  refine Till.all (rs := [11]) (by kernel_rfl) (by decide) (List.forall_mem_cons.2 ⟨?_, fun _ h => nomatch h⟩)
  refine Till.step rfl (by rfl) ?_
  intro K hK
  go_simp
  refine hK _ _ (fun h => absurd rfl h) ?_
  clear hK K
  refine Till.done (by kernel_rfl) ?_ _
  have HEND : Hid (∀ n : Nat, n = min ((spP p.kids[0]).length + (spP p.kids[1]).length) 401 → FcQ (d + 1) B p w (.returned (.slice A6 n c6)) w5) := fun n hn => by
    have hlen : (spP p).length = n := by rw [HSP.out, List.length_take, List.length_append, hn]; omega
    have hP1 : ∀ b, FcP B wd.heap.size (.slice A5 (spP p.kids[0]).length c5) w1 b → b < w2.heap.size ∧ some b ≠ (Value.slice A5 (spP p.kids[0]).length c5).ownBlock := fun b h => ⟨by have := h.2.1; omega, h.2.2⟩
    have hP2 : ∀ b, FcP B w1.heap.size (.slice (some g2) (spP p.kids[1]).length c2) w2 b → b < w2.heap.size ∧ some b ≠ (Value.slice A5 (spP p.kids[0]).length c5).ownBlock := fun b h => ⟨h.2.1, fun e => by
      have h1 := HF1.out b e.symm
      rcases h.1 with h2 | h2 <;> omega⟩
    have hown : some g2.block = (Value.slice A6 ((spP p.kids[0]).length + (spP p.kids[1]).length) c6).ownBlock → False := fun e => by
      have h3 := HF2.out g2.block (by
        have := HNW.out.1
        rcases HO2'.out.2 with ⟨h', _⟩ | ⟨g, cap, cur, h', _⟩
        · cases h'
        · cases h'; rfl)
      rcases HAT.out with h | h
      · rw [h] at e
        have := HF1.out _ e.symm
        omega
      · rw [h] at e; injection e with e; omega
    have hnw : ∀ b, b < w2.heap.size → some b ≠ (Value.slice A5 (spP p.kids[0]).length c5).ownBlock → some b ≠ (Value.slice A6 n c6).ownBlock := fun b hb hne e => by
      have e' : some b = (Value.slice A6 ((spP p.kids[0]).length + (spP p.kids[1]).length) c6).ownBlock := e.trans (ownBlock_len _ _ _ _)
      rcases HAT.out with h | h
      · rw [h] at e'; exact hne e'
      · rw [h] at e'; injection e' with e'; omega
    have hcell : ∀ (q : Addr) (v : Value), q.block < w2.heap.size → some q.block ≠ (Value.slice A5 (spP p.kids[0]).length c5).ownBlock → w2.cell? q = some v → w5.cell? q = some v := fun q v hq hne hv => (World.cell?_of_block (HG5.out.block q.block hq hne)).trans hv
    have r1 := HR1.out.keep (P' := FcP B w.heap.size (.slice A6 n c6) w5) (fun q v hq hv => hcell q v (hP1 _ hq).1 (hP1 _ hq).2 ((HB2.out.cell hq.2.1).trans hv)) (fun b h => ⟨h.1.imp id (fun h => by omega), by have := h.2.1; omega, hnw b (hP1 b h).1 (hP1 b h).2⟩)
    have r2 := HR2.out.keep (P' := FcP B w.heap.size (.slice A6 n c6) w5) (fun q v hq hv => hcell q v (hP2 _ hq).1 (hP2 _ hq).2 hv) (fun b h => ⟨h.1.imp id (fun h => by omega), by have := h.2.1; omega, hnw b (hP2 b h).1 (hP2 b h).2⟩)
    have r3 := ((r1.app r2).take 401).more (d' := d + 1) (by have := HD0.out; omega)
    rw [← HSP.out] at r3
    refine ⟨_, _, rfl, ?_, r3, HDD.out.trans (HB5.out.mono (by omega))⟩
    have ho := own_short HOW.out (m := n) (by omega) (by omega)
    have e6 : List.take (n * 6) (xs1 ++ xs2) = List.take (401 * 6) (xs1 ++ xs2) := by
      by_cases e : n = 401
      · rw [e]
      · have hl : (xs1 ++ xs2).length = n * 6 := by rw [List.length_append, HNW.out.2.2, HO1'.out.1]; omega
        rw [List.take_of_length_le (by omega), List.take_of_length_le (by omega)]
    rw [hlen, ← e6]
    exact ⟨ho.1, ho.2.imp id (fun ⟨g, cap, cur, h1, h2, h3⟩ => ⟨g, cap, cur, h1, by omega, h3⟩)⟩

  clear SQ
  by_cases hle : (spP p.kids[0]).length + (spP p.kids[1]).length ≤ 401
  · have hI : ¬ ((spP p.kids[0]).length : Int) + ((spP p.kids[1]).length : Int) > 401 := by omega
    go_wp2_with fail
    go_ret
    exact HEND.out _ (by omega)
  · have hI : ((spP p.kids[0]).length : Int) + ((spP p.kids[1]).length : Int) > 401 := by omega
    go_wp2_with fail
    go_ret
    exact HEND.out _ (by omega)
set_option maxHeartbeats 4000000 in
theorem ls_not (d : Nat) (ih : ∀ d', d = d' + 1 → LsC d') (B : Nat) (D : Option Addr) (ep : Nat) (p : Pt) (w : World) (hok : okQ p = true) (hp : RPs d w B D p.kids) (hB : B ≤ w.heap.size) (hN : wP p ≤ 100) (h5 : ¬ p.op = 5) :
    Calls Tryz.prog 21 #[.agg #[.int .i64 p.op, .int .i64 p.ctor, .int .i64 p.n, .int .i64 p.m, .int .i64 p.var, .slice D p.kids.length ep]] w (FcQ (d + 1) B p w) := by
  have hkl : p.kids.length ≤ 100 := by have h1 := wP_kids p; have h2 := wPs_sum p.kids; omega
  have hml : p.kids.length ≤ maxLen := hp.1
  unfold maxLen at hml
  have HP := Lib.hid hp
  have HOK := Lib.hid hok
  have IH := Lib.hid ih
  have HNE : Hid (¬ [] ∈ p.kids.map spP) := fun h => by
    obtain ⟨x, hx, e⟩ := List.mem_map.1 h
    exact spP_ne _ (okQs_all (okQ_kids p hok) x hx) e
  have HSP : Hid (spP p = (tupG (p.kids.map spP)).map (mkP p)) := by unfold Hid; rw [tupG_all _ HNE.out]; exact spP_not p h5
  have u1 : (p.op == 5) = false := ieq_f h5
  obtain ⟨w1, hw1⟩ : ∃ w1, w1 = w.alloc (.cells #[.int .i64 p.op, .int .i64 p.ctor, .int .i64 p.n, .int .i64 p.m, .int .i64 p.var, .slice D p.kids.length ep] 38) := ⟨_, rfl⟩
  have hb1 : Below w.heap.size w w1 := by rw [hw1]; exact (Below.refl _ _).alloc (Nat.le_refl _) _
  have hs1 : w1.heap.size = w.heap.size + 1 := by rw [hw1]; simp
  have HBK : Hid (w1.heap[w.heap.size]? = some (.cells #[.int .i64 p.op, .int .i64 p.ctor, .int .i64 p.n, .int .i64 p.m, .int .i64 p.var, .slice D p.kids.length ep] 38 (0, 0))) := by unfold Hid; rw [hw1]; exact heap_alloc_new _ _
  have HB1 := Lib.hid hb1
  have hs1a : w1.heap.size ≤ w.heap.size + 1 := Nat.le_of_eq hs1
  have hs1b : w.heap.size + 1 ≤ w1.heap.size := Nat.le_of_eq hs1.symm
  have HW1 : Hid (w.alloc (.cells #[.int .i64 p.op, .int .i64 p.ctor, .int .i64 p.n, .int .i64 p.m, .int .i64 p.var, .slice D p.kids.length ep] 38) = w1) := hw1.symm
  have HT0 : Hid ((w1.alloc (.cells #[] 30)).ownsRow w1.heap.size 30 1 (.slice (some ⟨w.heap.size + 1, 0, none⟩) 0 0) 0 []) := by
    have h := World.ownsRow_lit (base := w1.heap.size) (e := 30) (size := 1) w1 #[] 0 (Nat.le_refl _) (by unfold maxLen; omega) rfl
    unfold Hid; rw [← hs1]; exact h
  have HB0 : Hid (Below w1.heap.size w1 (w1.alloc (.cells #[] 30))) := (Below.refl _ _).alloc (Nat.le_refl _) _
  obtain ⟨i0, hi0, hz0, hz1, hz2⟩ := info_parts infoLP
  obtain ⟨i1, hi1, hy0, hy1, hy2⟩ := info_parts infoOP
  clear hp hok ih h5 hb1 hs1 hw1
  go_enter Tryz.func21, Tryz.ntmps21
  go_wp2_with fail
  rw [HW1.out]
  go_loopw [4, 5] (fun l i wr => ∃ (k : Nat) (ys : List Value), k ≤ p.kids.length ∧ i = .int .i64 k ∧ Hid (wr.ownsRow w1.heap.size 30 1 l k ys ∧ RowL (d + 1) B w1.heap.size wr l (p.kids.map spP) ys k) ∧ Hid (Below w1.heap.size w1 wr)) (fun _ i _ => p.kids.length - (intOf i).toNat)
  case atStart => exact ⟨0, [], by omega, rfl, ⟨HT0.out, RowL.zero⟩, HB0.out⟩
  case round =>
    obtain ⟨k, ys, hk, rfl, HR, HB⟩ := hrel
    have hwr := HB.out.size
    obtain ⟨AL, cL, rfl, hfl⟩ := own_form HR.out.1
    have HFL := Lib.hid hfl
    clear hfl
    have s5 : wr.cell? ⟨w.heap.size, 5, none⟩ = some (.slice D p.kids.length ep) := (cell_of_blk ((HB.out.block w.heap.size (by omega)).trans HBK.out) 5).trans rfl
    by_cases hlt : k < p.kids.length
    · have hkI : (k : Int) < (p.kids.length : Int) := by omega
      obtain ⟨b0, o0, rfl, hb0, hvk⟩ := (HP.out.below HB1.out hB).2 k hlt
      obtain ⟨d', hd', A1, c1, p0, p1, p2, p3, p4, p5, hkd⟩ := hvk.parts
      have hbw : b0 < w1.heap.size := by omega
      have hok0 := okQs_all (okQ_kids p HOK.out) p.kids[k] (List.getElem_mem _)
      have hwk := wP_kid p k hlt
      have hlk := spP_le p.kids[k]
      have hc : ∀ (o : Nat) (v : Value), w1.cell? ⟨b0, o, none⟩ = some v → wr.cell? ⟨b0, o, none⟩ = some v := fun o v hv => (HB.out.cell (p := ⟨b0, o, none⟩) hbw).trans hv
      have q0 := hc _ _ p0
      have q1 := hc _ _ p1
      have q2 := hc _ _ p2
      have q3 := hc _ _ p3
      have q4 := hc _ _ p4
      have q5 := hc _ _ p5
      have HDD := Lib.hid hd'
      have HCL : Hid (Calls Tryz.prog 21 #[.agg #[.int .i64 p.kids[k].op, .int .i64 p.kids[k].ctor, .int .i64 p.kids[k].n, .int .i64 p.kids[k].m, .int .i64 p.kids[k].var, .slice A1 p.kids[k].kids.length c1]] wr (FcQ (d' + 1) B p.kids[k] wr)) := IH.out d' hd' B A1 c1 p.kids[k] wr hok0 (hkd.below HB.out (by omega)) (by omega) (by omega)
      have HC2 : Hid (∀ (A3 : Option Addr) (c3 : Nat), ∀ u ∈ [Value.slice A3 (spP p.kids[k]).length c3], u.oneCell' = true) := fun A3 c3 u hu => by rw [List.mem_singleton.1 hu]; rfl
      have HC3 : Hid (k + 1 ≤ maxLen) := by unfold Hid maxLen; omega
      have HC4 : Hid ((k + 1) * 24 ≤ 140737488355328) := by unfold Hid; omega
      clear p0 p1 p2 p3 p4 p5 hkd hok0 hvk hd' hc
      go_wp2_with (first
        | (at_builtin; refine wpList_append_own_at _ rfl _ _ 65 rfl w1.heap.size 30 i0 _ 1 24 Tryz.underlying65 hi0 hz0 hz1 hz2 rfl (by decide) (.slice AL k cL) k ys rfl HR2A.out ⟨w3.heap.size, 0, none⟩ 1 1 [.slice A3 (spP p.kids[k]).length c3] rfl rfl HC1.out (HC2.out A3 c3) HC3.out HC4.out HC5.out ?_; intro v5 w5 hown5 hgr5 hnn5 hat5; have HOW5 := Lib.hid hown5; have HGR5 := Lib.hid hgr5; have HAT5 := Lib.hid hat5; clear hown5 hgr5 hat5 hnn5)
        | (go_at_call 21; refine HCL.out.mono ?_; rintro e3 w3 ⟨v3, xs3, rfl, ho3, hr3, hb3⟩;
            obtain ⟨A3, c3, rfl, hf3⟩ := own_form ho3;
            have HO3 := Lib.hid ho3; have HR3 := Lib.hid hr3; have HB3W := Lib.hid hb3; have HF3 := Lib.hid hf3; have hs3 := hb3.size;
            have HR2A : Hid ((w3.alloc (.cells #[.slice A3 (spP p.kids[k]).length c3] 30)).ownsRow w1.heap.size 30 1 (.slice AL k cL) k ys) := (own_at HR.out.1 (fun b e => HB3W.out.block b (HFL.out b e).2)).alloc _;
            have HB13 : Hid (Below w1.heap.size w1 w3) := HB.out.trans (HB3W.out.mono hwr);
            have HC1 := Lib.hid (cell_one_new w3 (.slice A3 (spP p.kids[k]).length c3) 30);
            have HC5 : Hid (w1.heap.size ≤ (w3.alloc (.cells #[.slice A3 (spP p.kids[k]).length c3] 30)).heap.size) := (by unfold Hid; rw [World.size_alloc]; omega);
            clear ho3 hr3 hb3 hf3))
      have h13 : w1.heap.size ≤ w3.heap.size := HB13.out.size
      have HB5 : Hid (Below w1.heap.size w1 w5) := (HB13.out.alloc h13 _).grown HGR5.out (by rw [World.size_alloc]; omega) (fun j e => (HFL.out j e).1)
      have HRL : Hid (RowL (d + 1) B w1.heap.size w5 v5 (p.kids.map spP) (ys ++ [.slice A3 (spP p.kids[k]).length c3]) (k + 1)) := by
        have hwide := HR3.out.keep (P' := fun b => (b < B ∨ wr.heap.size ≤ b) ∧ b < w3.heap.size) (fun _ _ _ h => h) (fun b h => ⟨h.1.imp id (fun h => by omega), h.2.1⟩)
        obtain ⟨A', c', e', hq⟩ := hwide.reads HO3.out (fun g e => ⟨.inr (by have := (HF3.out g e).1; omega), (HF3.out g e).2⟩) (by unfold maxLen; omega)
        cases e'
        have hq2 : QPs (d + 1) w3 (fun b => (b < B ∨ wr.heap.size ≤ b) ∧ b < w3.heap.size) A3 ((p.kids.map spP)[k]'(by simpa using hlt)) := by rw [List.getElem_map]; exact hq.more (by have := HDD.out; omega)
        have hyl : ys.length = k := by have := HR.out.1.1; omega
        have h := RowL.step (c2 := c3) HR.out.2 (by simpa using hlt) hyl HFL.out (by omega) hwr HB3W.out hq2 HGR5.out HAT5.out
        unfold Hid
        simpa using h
      clear HR HR3 HO3 HAT5 HGR5 HR2A
      go_wp2_with fail
      go_roundw
      case rel => exact ⟨k + 1, _, by omega, by go_num, ⟨HOW5.out, HRL.out⟩, HB5.out⟩
      case measure => simp [intOf]; omega
    · have hke : k = p.kids.length := by omega
      have hkI : ¬ (k : Int) < (p.kids.length : Int) := by omega
      have hwi : ∃ wi, wi = wr := ⟨_, rfl⟩
      obtain ⟨wi, rfl⟩ := hwi
      have hLs : (p.kids.map spP).length = p.kids.length := List.length_map ..
      obtain ⟨A', c', e', hcl, hcm, hlsq⟩ := LsQ.of_row (Ks := p.kids.map spP) (by rw [hLs, ← hke]; exact HR.out.1) (by rw [hLs, ← hke]; exact HR.out.2) (by rw [hLs]; unfold maxLen; omega)
      rw [hLs] at e' hcl
      cases e'
      have HCT : Hid (Calls Tryz.prog 34 #[.slice AL p.kids.length cL] wi (TuQ (d + 1) (fun b => (b < B ∨ w1.heap.size ≤ b) ∧ b < wi.heap.size) (p.kids.map spP) wi)) := by
        have h := tu_any d (fun b => (b < B ∨ w1.heap.size ≤ b) ∧ b < wi.heap.size) AL (p.kids.map spP) cL wi hlsq (fun b hb => hb.2) (by rw [hLs]; exact hkl) HNE.out (fun l hl => by obtain ⟨x, _, rfl⟩ := List.mem_map.1 hl; exact spP_le x)
        rw [hLs] at h; exact h
      clear hlsq hcl hcm hLs HR
      go_wp2_with (go_at_call 34; refine HCT.out.mono ?_; rintro e w3 ⟨v3, rfl, ht3, hb3⟩; have HT3 := Lib.hid ht3; have HB3 := Lib.hid hb3; have hs3 : wi.heap.size ≤ w3.heap.size := hb3.size; clear ht3 hb3)
      have HTL : Hid ((tupG (p.kids.map spP)).length ≤ 401) := by
        have h := tupG_le (p.kids.map spP).length (p.kids.map spP) (Nat.le_refl _)
        rw [List.take_length] at h; exact h
      have HTS : Hid (∀ t ∈ tupG (p.kids.map spP), t.length = p.kids.length) := by
        have h := tupG_len (p.kids.map spP).length (p.kids.map spP) (Nat.le_refl _)
        rw [List.take_length, List.length_map] at h; exact h
      obtain ⟨ts, hts⟩ : ∃ ts, ts = tupG (p.kids.map spP) := ⟨_, rfl⟩
      rw [← hts] at HSP HT3 HTL HTS
      clear hts
      have htl := HTL.out
      obtain ⟨ys3, h13, h23, h33⟩ := HT3.out
      obtain ⟨A3, c3, rfl, _⟩ := own_form h13
      clear h13 h23 h33
      have HW3 : Hid (Below w1.heap.size w1 w3) := HB.out.trans (HB3.out.mono hwr)
      have HT4 : Hid ((w3.alloc (.cells #[] 38)).ownsRow w3.heap.size 38 6 (.slice (some ⟨w3.heap.size, 0, none⟩) 0 0) 0 []) := World.ownsRow_lit (base := w3.heap.size) (e := 38) (size := 6) w3 #[] 0 (Nat.le_refl _) (by unfold maxLen; omega) rfl
      go_loopw [7, 8] (fun v i wr => ∃ (k : Nat) (xs : List Value), k ≤ ts.length ∧ i = .int .i64 k ∧ Hid (wr.ownsRow w3.heap.size 38 6 v k xs ∧ RowQ (d + 1) wr (FcP B w.heap.size v wr) ((ts.take k).map (mkP p)) xs) ∧ Hid (Below w3.heap.size w3 wr)) (fun _ i _ => ts.length - (intOf i).toNat)
      case atStart => exact ⟨0, [], by omega, rfl, ⟨HT4.out, RowQ.nil _ _ _⟩, (Below.refl _ _).alloc (Nat.le_refl _) _⟩
      case round =>
        obtain ⟨k, xs, hk, rfl, HRQ, HBQ⟩ := hrel
        have hwr := HBQ.out.size
        obtain ⟨AO, cO, rfl, hfo⟩ := own_form HRQ.out.1
        have HFO := Lib.hid hfo
        clear hfo
        by_cases hlt : k < ts.length
        · have hkI : (k : Int) < (ts.length : Int) := by omega
          obtain ⟨gO, _, aK, caK, hvO, hcK, hgO, hqK⟩ := HT3.out.at_ k hlt
          cases hvO
          have HQK := Lib.hid hqK
          have sK : wr.cell? ⟨gO, k, none⟩ = some (.slice (some aK) ts[k].length caK) := (HBQ.out.cell (p := ⟨gO, k, none⟩) hgO).trans hcK
          have HBK3 : Hid (wr.heap[w.heap.size]? = some (.cells #[.int .i64 p.op, .int .i64 p.ctor, .int .i64 p.n, .int .i64 p.m, .int .i64 p.var, .slice D p.kids.length ep] 38 (0, 0))) := (HBQ.out.block _ (by omega)).trans ((HW3.out.block _ (by omega)).trans HBK.out)
          have t0 := (cell_of_blk HBK3.out 0).trans rfl
          have t1 := (cell_of_blk HBK3.out 1).trans rfl
          have t2 := (cell_of_blk HBK3.out 2).trans rfl
          have t3 := (cell_of_blk HBK3.out 3).trans rfl
          have t4 := (cell_of_blk HBK3.out 4).trans rfl
          have t5 := (cell_of_blk HBK3.out 5).trans rfl
          have HCK := Lib.hid hcK
          have htk : ts[k].length ≤ 100 := by rw [HTS.out ts[k] (List.getElem_mem _)]; exact hkl
          have hbx : Below w3.heap.size w3 (wr.alloc (.cells #[.int .i64 p.op, .int .i64 p.ctor, .int .i64 p.n, .int .i64 p.m, .int .i64 p.var, .slice D p.kids.length ep] 38)) := HBQ.out.alloc hwr _
          have sK2 : ((wr.alloc (.cells #[.int .i64 p.op, .int .i64 p.ctor, .int .i64 p.n, .int .i64 p.m, .int .i64 p.var, .slice D p.kids.length ep] 38))).cell? ⟨gO, k, none⟩ = some (.slice (some aK) ts[k].length caK) := (hbx.cell (p := ⟨gO, k, none⟩) hgO).trans hcK
          have hgb : ((wr.alloc (.cells #[.int .i64 p.op, .int .i64 p.ctor, .int .i64 p.n, .int .i64 p.m, .int .i64 p.var, .slice (some aK) ts[k].length caK] 38))).heap[wr.heap.size]? = some (.cells #[.int .i64 p.op, .int .i64 p.ctor, .int .i64 p.n, .int .i64 p.m, .int .i64 p.var, .slice (some aK) ts[k].length caK] 38 (0, 0)) := heap_alloc_new wr _
          have hsb : ((wr.alloc (.cells #[.int .i64 p.op, .int .i64 p.ctor, .int .i64 p.n, .int .i64 p.m, .int .i64 p.var, .slice (some aK) ts[k].length caK] 38))).heap.size = wr.heap.size + 1 := World.size_alloc ..
          have v0 := (cell_of_blk hgb 0).trans rfl
          have v1 := (cell_of_blk hgb 1).trans rfl
          have v2 := (cell_of_blk hgb 2).trans rfl
          have v3 := (cell_of_blk hgb 3).trans rfl
          have v4 := (cell_of_blk hgb 4).trans rfl
          have v5 := (cell_of_blk hgb 5).trans rfl
          have HBB : Hid (Below wr.heap.size wr ((wr.alloc (.cells #[.int .i64 p.op, .int .i64 p.ctor, .int .i64 p.n, .int .i64 p.m, .int .i64 p.var, .slice (some aK) ts[k].length caK] 38)))) := (Below.refl _ _).alloc (Nat.le_refl _) _
          have HC1 : Hid (∀ q u, [Value.int .i64 p.op, .int .i64 p.ctor, .int .i64 p.n, .int .i64 p.m, .int .i64 p.var, Value.slice (some aK) ts[k].length caK][q]? = some u → (((wr.alloc (.cells #[.int .i64 p.op, .int .i64 p.ctor, .int .i64 p.n, .int .i64 p.m, .int .i64 p.var, .slice (some aK) ts[k].length caK] 38))).alloc (.cells #[.int .i64 p.op, .int .i64 p.ctor, .int .i64 p.n, .int .i64 p.m, .int .i64 p.var, .slice (some aK) ts[k].length caK] 38)).cell? ((⟨wr.heap.size + 1, 0, none⟩ : Addr).add q) = some u) := by
            have h := cell_six_new ((wr.alloc (.cells #[.int .i64 p.op, .int .i64 p.ctor, .int .i64 p.n, .int .i64 p.m, .int .i64 p.var, .slice (some aK) ts[k].length caK] 38))) (.int .i64 p.op) (.int .i64 p.ctor) (.int .i64 p.n) (.int .i64 p.m) (.int .i64 p.var) (.slice (some aK) ts[k].length caK) 38
            rw [hsb] at h; exact h
          have HC2 : Hid (∀ u ∈ [Value.int .i64 p.op, .int .i64 p.ctor, .int .i64 p.n, .int .i64 p.m, .int .i64 p.var, Value.slice (some aK) ts[k].length caK], u.oneCell' = true) := by intro u hu; simp at hu; rcases hu with rfl | rfl | rfl | rfl | rfl | rfl <;> rfl
          have HC3 : Hid (k + 1 ≤ maxLen) := by unfold Hid maxLen; omega
          have HC4 : Hid ((k + 1) * 64 ≤ 140737488355328) := by unfold Hid; omega
          have HC5 : Hid (w3.heap.size ≤ (((wr.alloc (.cells #[.int .i64 p.op, .int .i64 p.ctor, .int .i64 p.n, .int .i64 p.m, .int .i64 p.var, .slice (some aK) ts[k].length caK] 38))).alloc (.cells #[.int .i64 p.op, .int .i64 p.ctor, .int .i64 p.n, .int .i64 p.m, .int .i64 p.var, .slice (some aK) ts[k].length caK] 38)).heap.size) := by unfold Hid; rw [World.size_alloc, hsb]; omega
          have HO2A : Hid ((((wr.alloc (.cells #[.int .i64 p.op, .int .i64 p.ctor, .int .i64 p.n, .int .i64 p.m, .int .i64 p.var, .slice (some aK) ts[k].length caK] 38))).alloc (.cells #[.int .i64 p.op, .int .i64 p.ctor, .int .i64 p.n, .int .i64 p.m, .int .i64 p.var, .slice (some aK) ts[k].length caK] 38)).ownsRow w3.heap.size 38 6 (.slice AO k cO) k xs) := (own_at HRQ.out.1 (fun b e => HBB.out.block b (HFO.out b e).2)).alloc _
          have HSB := Lib.hid hsb
          clear hqK hcK hbx hgb hsb
          go_wp2_with (at_builtin; refine wpList_append_own_at _ rfl _ _ 30 rfl w3.heap.size 38 i1 _ 6 64 Tryz.underlying30 hi1 hy0 hy1 hy2 rfl (by decide) (.slice AO k cO) k xs rfl HO2A.out ⟨wr.heap.size + 1, 0, none⟩ 1 1 [.int .i64 p.op, .int .i64 p.ctor, .int .i64 p.n, .int .i64 p.m, .int .i64 p.var, .slice (some aK) ts[k].length caK] rfl rfl HC1.out HC2.out HC3.out HC4.out HC5.out ?_; intro v5 w5 hown5 hgr5 hnn5 hat5; have HOW5 := Lib.hid hown5; have HGR5 := Lib.hid hgr5; have HAT5 := Lib.hid hat5; clear hown5 hgr5 hat5 hnn5)
          have hs5 := HGR5.out.size
          have hs5a : wr.heap.size + 2 ≤ w5.heap.size := by rw [World.size_alloc, HSB.out] at hs5; omega
          have HBQ5 : Hid (Below w3.heap.size w3 w5) := ((HBQ.out.trans (HBB.out.mono hwr)).alloc (by rw [HSB.out]; omega) _).grown HGR5.out (by rw [World.size_alloc, HSB.out]; omega) (fun j e => (HFO.out j e).1)
          have HRQ5 : Hid (RowQ (d + 1) w5 (FcP B w.heap.size v5 w5) ((ts.take (k + 1)).map (mkP p)) (xs ++ [Value.int .i64 p.op, .int .i64 p.ctor, .int .i64 p.n, .int .i64 p.m, .int .i64 p.var, Value.slice (some aK) ts[k].length caK])) := by
            unfold Hid
            rw [← List.take_append_getElem hlt, List.map_append]
            exact RowQ.push1 (K := w3.heap.size) (c := caK) HRQ.out.2 (HBB.out.alloc HBB.out.size _) HFO.out hwr (x := mkP p ts[k]) (HQK.out.keep (fun q u hq hu => (HBQ.out.cell hq.2).trans hu) (fun b hb => ⟨hb.1.elim (fun h => h.1.imp id (fun h => by omega)) (fun h => .inr (by omega)), hb.2⟩)) HGR5.out HAT5.out
          go_roundw
          case rel => exact ⟨k + 1, _, by omega, by go_num, ⟨HOW5.out, HRQ5.out⟩, HBQ5.out⟩
          case measure => simp [intOf]; omega
        · have hkI : ¬ (k : Int) < (ts.length : Int) := by omega
          have hke : k = ts.length := by omega
          have HR9 := HRQ.out.2
          rw [hke, List.take_length, ← HSP.out] at HR9
          have HR9 := Lib.hid HR9
          have HO9 := HRQ.out.1
          rw [hke] at HO9
          have HO9 := Lib.hid HO9
          have e9 : (spP p).length = ts.length := by rw [HSP.out, List.length_map]
          have HBF : Hid (Below w.heap.size w wr) := HB1.out.trans ((HW3.out.mono (by omega)).trans (HBQ.out.mono (by omega)))
          have h3 : w.heap.size ≤ w3.heap.size := by omega
          go_wp2_with fail
          go_ret
          refine ⟨.slice AO ts.length cO, xs, by rfl, ?_, HR9.out, HBF.out⟩
          rw [e9]
          exact ⟨HO9.out.1, HO9.out.2.imp id (fun ⟨g, cap, cur, a1, a2, a3⟩ => ⟨g, cap, cur, a1, by omega, a3⟩)⟩
theorem ls_of (d : Nat) (ih : ∀ d', d = d' + 1 → LsC d') : LsC d := fun B D ep p w hok hp hB hN => by
  by_cases h5 : p.op = 5
  · exact ls_or d ih B D ep p w hok hp hB hN h5
  · exact ls_not d ih B D ep p w hok hp hB hN h5
theorem ls_any : ∀ d, LsC d
  | 0 => ls_of 0 (fun _ h => by omega)
  | d + 1 => ls_of (d + 1) (fun d' h => (Nat.succ.inj h) ▸ ls_any d)
end Go.Proofs.YtbdiahnelnbdnaaGreat
/-
  A pattern copied: the program's functions. No statement is proved here.
-/
namespace Go.Proofs.YtbdiahnelnbdnaaGreat
open Go.RowKit Go.Sort Go.Deep
set_option maxRecDepth 100000
set_option linter.unusedVariables false
def CiSP (d : Nat) : Prop := ∀ (A : Option Addr) (l : List Pt) (cap : Nat) (w : World), RPs d w w.heap.size A l → wPs l ≤ 1048576 →
  Calls Tryz.prog 27 #[.slice A l.length cap] w fun e w' => ∃ A2 c, e = .returned (.slice A2 l.length c) ∧ OPs (d + 1) w' (Nw w w') A2 l ∧ Below w.heap.size w w'
set_option maxHeartbeats 1600000 in
theorem ciP_of (d : Nat) (ih : CiSP d) (D : Option Addr) (ep : Nat) (v : Pt) (w : World) (hv : RPs d w w.heap.size D v.kids) (hn : wP v ≤ 1048576) : Calls Tryz.prog 39 #[.agg #[.int .i64 v.op, .int .i64 v.ctor, .int .i64 v.n, .int .i64 v.m, .int .i64 v.var, .slice D v.kids.length ep]] w (CpQP d v w) := by
  have HV := Lib.hid hv
  have IH := Lib.hid ih
  have hnk : wPs v.kids ≤ 1048576 := by rw [← wP_kids]; exact hn
  clear hv ih
  generalize hwx : (w.alloc (.cells #[.int .i64 v.op, .int .i64 v.ctor, .int .i64 v.n, .int .i64 v.m, .int .i64 v.var, .slice D v.kids.length ep] 38)).alloc (.cells #[.int .i64 0, .int .i64 0, .int .i64 0, .int .i64 0, .int .i64 0, .slice none 0 0] 38) = wx
  have hbx : Below w.heap.size w wx := by rw [← hwx]; exact ((Below.refl _ _).alloc (Nat.le_refl _) _).alloc (by simp) _
  have HXB : Hid (wx.heap[w.heap.size]? = some (.cells #[.int .i64 v.op, .int .i64 v.ctor, .int .i64 v.n, .int .i64 v.m, .int .i64 v.var, .slice D v.kids.length ep] 38 (0, 0))) := by
    have h := heap_alloc_new w (.cells #[.int .i64 v.op, .int .i64 v.ctor, .int .i64 v.n, .int .i64 v.m, .int .i64 v.var, .slice D v.kids.length ep] 38)
    unfold Hid; rw [← hwx, Below.heap_alloc _ _ _ (by simp)]; exact h
  have HXR : Hid (ZbP wx (w.heap.size + 1)) := by
    have h := ZbP.new (w.alloc (.cells #[.int .i64 v.op, .int .i64 v.ctor, .int .i64 v.n, .int .i64 v.m, .int .i64 v.var, .slice D v.kids.length ep] 38))
    simp only [World.size_alloc] at h
    unfold Hid; rw [← hwx]; exact h
  have hsx : wx.heap.size = w.heap.size + 2 := by rw [← hwx]; simp
  have hsx1 : w.heap.size + 2 ≤ wx.heap.size := by omega
  have HWX := Lib.hid hwx
  clear hwx hsx
  go_enter Tryz.func39, Tryz.ntmps39
  go_wp2_with fail
  rw [HWX.out]
  refine (IH.out D v.kids ep wx (HV.out.at_ hbx) hnk).mono ?_
  rintro e w1 ⟨A2, c, rfl, ho, hb1⟩
  have hbw1 : Below w.heap.size w w1 := hbx.trans (hb1.mono hbx.size)
  have HO := Lib.hid ho
  have hg : w1.heap[w.heap.size]? = some (.cells #[.int .i64 v.op, .int .i64 v.ctor, .int .i64 v.n, .int .i64 v.m, .int .i64 v.var, .slice D v.kids.length ep] 38 (0, 0)) := (hb1.block _ (heap_lt HXB.out)).trans HXB.out
  have hr : w1.heap[w.heap.size + 1]? = some (.cells #[.int .i64 0, .int .i64 0, .int .i64 0, .int .i64 0, .int .i64 0, .slice none 0 0] 38 (0, 0)) := HXR.out.at_ hb1
  have b0 := (cell_of_blk hg 0).trans rfl
  have b1 := (cell_of_blk hg 1).trans rfl
  have b2 := (cell_of_blk hg 2).trans rfl
  have b3 := (cell_of_blk hg 3).trans rfl
  have b4 := (cell_of_blk hg 4).trans rfl
  have b5 := (cell_of_blk hg 5).trans rfl
  have e2 := frozen_of_row w1 w.heap.size 5 _ 38 hg
  have r0 := (cell_of_blk hr 0).trans rfl
  have r1 := (cell_of_blk hr 1).trans rfl
  have r2 := (cell_of_blk hr 2).trans rfl
  have r3 := (cell_of_blk hr 3).trans rfl
  have r4 := (cell_of_blk hr 4).trans rfl
  have r5 := (cell_of_blk hr 5).trans rfl
  have f0 := frozen_of_row w1 (w.heap.size + 1) 0 _ 38 hr
  have f1 := frozen_of_row w1 (w.heap.size + 1) 1 _ 38 hr
  have f2 := frozen_of_row w1 (w.heap.size + 1) 2 _ 38 hr
  have f3 := frozen_of_row w1 (w.heap.size + 1) 3 _ 38 hr
  have f4 := frozen_of_row w1 (w.heap.size + 1) 4 _ 38 hr
  have f5 := frozen_of_row w1 (w.heap.size + 1) 5 _ 38 hr
  clear ho hg hr
  go_wp2_with fail
  refine bodyPost_ret (v := .agg #[.int .i64 v.op, .int .i64 v.ctor, .int .i64 v.n, .int .i64 v.m, .int .i64 v.var, .slice A2 v.kids.length c]) (by simp [results, Tryz.results39, go_sem, r0, r1, r2, r3, r4, r5]) rfl ⟨A2, c, rfl, ?_, ?_⟩
  · have hF : Fr (fun b => b < w.heap.size + 2) w1 ((((((((w1.setCell ⟨w.heap.size, 5, none⟩ (.slice A2 v.kids.length c))).setCell ⟨w.heap.size + 1, 0, none⟩ (.int .i64 v.op)).setCell ⟨w.heap.size + 1, 1, none⟩ (.int .i64 v.ctor)).setCell ⟨w.heap.size + 1, 2, none⟩ (.int .i64 v.n)).setCell ⟨w.heap.size + 1, 3, none⟩ (.int .i64 v.m)).setCell ⟨w.heap.size + 1, 4, none⟩ (.int .i64 v.var)).setCell ⟨w.heap.size + 1, 5, none⟩ (.slice A2 v.kids.length c)) := ((((((Fr.set _ _ _ _ (by omega)).trans (Fr.set _ _ _ _ (by omega))).trans (Fr.set _ _ _ _ (by omega))).trans (Fr.set _ _ _ _ (by omega))).trans (Fr.set _ _ _ _ (by omega))).trans (Fr.set _ _ _ _ (by omega))).trans (Fr.set _ _ _ _ (by omega))
    exact (HO.out.fr _ hF (fun b hq e => by have := hq.1; omega)).wide _ (fun b hq => ⟨by have := hq.1; omega, by have h2 := hq.2; simpa [World.setCell] using h2⟩)
  · refine Below.setCell (Below.setCell (Below.setCell (Below.setCell (Below.setCell (Below.setCell (Below.setCell hbw1 ?_ _) ?_ _) ?_ _) ?_ _) ?_ _) ?_ _) ?_ _ <;> (simp <;> omega)
set_option maxHeartbeats 4000000 in
theorem ciSP_of (d : Nat) (ih : ∀ d', d = d' + 1 → CiSP d') : CiSP d := by
  intro A l cap w hr hn
  obtain ⟨i0, hi, hz0, hz1, hz2⟩ := info_parts infoOP
  have Hr := Lib.hid hr
  have IH := Lib.hid ih
  have HSum := Lib.hid (wPs_sum l)
  have hl : l.length ≤ 1048576 := by have := wPs_sum l; omega
  clear hr ih
  by_cases h0 : l.length = 0
  · have hl0 : l = [] := List.eq_nil_of_length_eq_zero h0
    subst hl0
    go_enter Tryz.func27, Tryz.ntmps27
    go_wp2_with fail
    go_ret
    exact ⟨none, 0, rfl, OPs.nil _ _ _ _, Below.refl _ _⟩
  have q0 : ((l.length : Int) == 0) = false := beq_eq_false_iff_ne.2 (by omega)
  clear h0
  go_enter Tryz.func27, Tryz.ntmps27
  go_wp2_with (at_make; refine wpList_make_full _ rfl _ _ 30 rfl w.heap.size 38 i0 _ 6 Tryz.underlying30 hi hz0 hz1 _ _ _ _ l.length rfl rfl rfl rfl (by rw [hz2]; omega) (by unfold maxLen; omega) (Nat.le_refl _) ?_; intro w1 hown hgr)
  go_loopw [14] (fun i wr => ∃ k : Nat, k ≤ l.length ∧ i = .int .i64 k ∧ ∃ xs Q, wr.ownsRow w.heap.size 38 6 (.slice (some ⟨w.heap.size, 0, none⟩) l.length l.length) l.length xs ∧ RowP d wr w.heap.size (some w.heap.size) Q l xs k ∧ Below w.heap.size w wr) (fun i _ => l.length - (intOf i).toNat)
  case atStart => exact ⟨0, by omega, rfl, _, fun _ _ => False, hown, RowP.zero _ _ _ _ _ _ _, below_of_grown hgr (Nat.le_refl _)⟩
  case round =>
    obtain ⟨k, hk, rfl, xs, Q, hown, hrow, hb⟩ := hrel
    clear hgr hi hz0 hz1 hz2
    by_cases hlt : k < l.length
    · have hkI : (k : Int) < (l.length : Int) := by omega
      obtain ⟨b, off, rfl, hbB, hv⟩ := (Hr.out.below hb (Nat.le_refl _)).2 k hlt
      obtain ⟨d', hd, A', cp, c0, c1, c2, c3, c4, c5, hm⟩ := hv.parts
      have ha : wP l[k] ≤ 1048576 := by
        have h1 := sum_take_succ wP l k hlt
        have h2 := sum_take_le wP l (k + 1)
        have h4 := HSum.out
        omega
      obtain ⟨wb, hwb⟩ : ∃ wb, wb = wr.alloc (.cells #[.int .i64 l[k].op, .int .i64 l[k].ctor, .int .i64 l[k].n, .int .i64 l[k].m, .int .i64 l[k].var, .slice A' l[k].kids.length cp] 38) := ⟨_, rfl⟩
      have hbb : Below wr.heap.size wr wb := by rw [hwb]; exact (Below.refl _ _).alloc (Nat.le_refl _) _
      have HXB : Hid (PBy wb wr.heap.size l[k] (.slice A' l[k].kids.length cp)) := by rw [hwb]; exact ⟨by simp [go_sem], by simp [go_sem], by simp [go_sem], by simp [go_sem], by simp [go_sem], by simp [go_sem]⟩
      have HD := Lib.hid hd
      have hwl : w.heap.size < wr.heap.size := own_lt hown
      have HCI := Lib.hid (ciP_of d' (IH.out d' hd) A' cp l[k] wb (hm.keep (fun p hp => hbb.cell (p := p) (Nat.lt_of_lt_of_le hp hb.size)) (Nat.le_trans hb.size hbb.size)) ha)
      have hownb := own_below hown hbb
      have HROW := Lib.hid hrow
      have HWB := Lib.hid hwb
      obtain ⟨u0, u1, u2, u3, u4, u5⟩ := HXB.out
      clear hm hv hd hrow hwb
      go_wp2_with fail
      rw [← HWB.out]
      refine HCI.out.mono ?_
      rintro e w2 ⟨A2, c2', rfl, hf, hb2'⟩
      have hb2 : Below wr.heap.size wr w2 := hbb.trans (hb2'.mono hbb.size)
      have hown2 := own_below hownb hb2'
      obtain ⟨v0, f0⟩ := own_cell hown2 (k * 6) (by omega)
      obtain ⟨v1, f1⟩ := own_cell hown2 (k * 6 + 1) (by omega)
      obtain ⟨v2, f2⟩ := own_cell hown2 (k * 6 + 2) (by omega)
      obtain ⟨v3, f3⟩ := own_cell hown2 (k * 6 + 3) (by omega)
      obtain ⟨v4, f4⟩ := own_cell hown2 (k * 6 + 4) (by omega)
      obtain ⟨v5, f5⟩ := own_cell hown2 (k * 6 + 5) (by omega)
      have g0 := hown2.frozenAt (k * 6)
      have g1 := hown2.frozenAt (k * 6 + 1)
      have g2 := hown2.frozenAt (k * 6 + 2)
      have g3 := hown2.frozenAt (k * 6 + 3)
      have g4 := hown2.frozenAt (k * 6 + 4)
      have g5 := hown2.frozenAt (k * 6 + 5)
      have hsb := hbb.size
      clear u0 u1 u2 u3 u4 u5 c0 c1 c2 c3 c4 c5
      go_wp2_with fail
      have hx := hown2.1
      have s0 := (hown2.stored (k * 6) (.int .i64 l[k].op)).1
      have s1 := (s0.stored (k * 6 + 1) (.int .i64 l[k].ctor)).1
      have s2 := (s1.stored (k * 6 + 2) (.int .i64 l[k].n)).1
      have s3 := (s2.stored (k * 6 + 3) (.int .i64 l[k].m)).1
      have s4 := (s3.stored (k * 6 + 4) (.int .i64 l[k].var)).1
      have s5 := (s4.stored (k * 6 + 5) (.slice A2 l[k].kids.length c2')).1
      have hf2 : OPs d w2 (Nw wr w2) A2 l[k].kids := by rw [HD.out]; exact hf.wide _ (fun b h => ⟨Nat.le_trans hsb h.1, h.2⟩)
      have hrow2 := HROW.out.more (xs' := ((((((xs.set (k * 6) (.int .i64 l[k].op)).set (k * 6 + 1) (.int .i64 l[k].ctor)).set (k * 6 + 2) (.int .i64 l[k].n)).set (k * 6 + 3) (.int .i64 l[k].m)).set (k * 6 + 4) (.int .i64 l[k].var)).set (k * 6 + 5) (.slice A2 l[k].kids.length c2'))) hb2 hlt (by omega) (fun g e => by injection e with e; omega) hf2 (fun j c hj hc => by rw [List.getElem?_set_ne (by omega), List.getElem?_set_ne (by omega), List.getElem?_set_ne (by omega), List.getElem?_set_ne (by omega), List.getElem?_set_ne (by omega), List.getElem?_set_ne (by omega)]) (by rw [List.getElem?_set_ne (by omega), List.getElem?_set_ne (by omega), List.getElem?_set_ne (by omega), List.getElem?_set_ne (by omega), List.getElem?_set_ne (by omega), List.getElem?_set_self (by first | omega | (simp <;> omega))]) (by rw [List.getElem?_set_ne (by omega), List.getElem?_set_ne (by omega), List.getElem?_set_ne (by omega), List.getElem?_set_ne (by omega), List.getElem?_set_self (by first | omega | (simp <;> omega))]) (by rw [List.getElem?_set_ne (by omega), List.getElem?_set_ne (by omega), List.getElem?_set_ne (by omega), List.getElem?_set_self (by first | omega | (simp <;> omega))]) (by rw [List.getElem?_set_ne (by omega), List.getElem?_set_ne (by omega), List.getElem?_set_self (by first | omega | (simp <;> omega))]) (by rw [List.getElem?_set_ne (by omega), List.getElem?_set_self (by first | omega | (simp <;> omega))]) (by rw [List.getElem?_set_self (by first | omega | (simp <;> omega))])
      have hrow3 := hrow2.fr (w' := ((((((w2).setCell ⟨w.heap.size, k * 6, none⟩ (.int .i64 l[k].op)).setCell ⟨w.heap.size, k * 6 + 1, none⟩ (.int .i64 l[k].ctor)).setCell ⟨w.heap.size, k * 6 + 2, none⟩ (.int .i64 l[k].n)).setCell ⟨w.heap.size, k * 6 + 3, none⟩ (.int .i64 l[k].m)).setCell ⟨w.heap.size, k * 6 + 4, none⟩ (.int .i64 l[k].var)).setCell ⟨w.heap.size, k * 6 + 5, none⟩ (.slice A2 l[k].kids.length c2')) (P' := fun b => b = w.heap.size) ((((((Fr.set (P := fun b => b = w.heap.size) _ _ _ _ rfl).trans (Fr.set (P := fun b => b = w.heap.size) _ _ _ _ rfl)).trans (Fr.set (P := fun b => b = w.heap.size) _ _ _ _ rfl)).trans (Fr.set (P := fun b => b = w.heap.size) _ _ _ _ rfl)).trans (Fr.set (P := fun b => b = w.heap.size) _ _ _ _ rfl)).trans (Fr.set (P := fun b => b = w.heap.size) _ _ _ _ rfl)) (fun b _ hb' _ e => hb' (by rw [e]))
      go_roundw
      case rel => exact ⟨k + 1, by omega, by go_num, _, _, s5, hrow3, ((((((hb.trans (hb2.mono hb.size)).setCell (Nat.le_refl _) _).setCell (Nat.le_refl _) _).setCell (Nat.le_refl _) _).setCell (Nat.le_refl _) _).setCell (Nat.le_refl _) _).setCell (Nat.le_refl _) _⟩
      case measure => simp [intOf]; omega
    · have hkI : (l.length : Int) ≤ (k : Int) := by omega
      go_wp2_with fail
      go_ret
      have he : k = l.length := by omega
      obtain ⟨A2, c2, e2, ho⟩ := OPs.of_row hown (he ▸ hrow) hl
      injection e2 with e3 e4 e5
      subst e3
      exact ⟨_, _, rfl, ho, hb⟩
theorem ciSP_any : ∀ d, CiSP d
  | 0 => ciSP_of 0 (fun _ h => by omega)
  | d + 1 => ciSP_of (d + 1) (fun d' h => (Nat.succ.inj h) ▸ ciSP_any d)
end Go.Proofs.YtbdiahnelnbdnaaGreat
/-
  The types of the parts of a pattern: the document's function. No statement is proved here.
-/
namespace Go.Proofs.YtbdiahnelnbdnaaGreat
open Go.RowKit Go.Sort Go.Deep
set_option maxRecDepth 100000
set_option linter.unusedVariables false
set_option maxHeartbeats 1600000 in
theorem tys_any (A D : Option Addr) (l : List Da) (cap ep : Nat) (t : Ty) (p : Pt) (w : World) (hr : RDas w w.heap.size A l) (ht : TyOK l t) (hm : p.op = 4 → p.ctor ∈ ctR l t) :
    Calls Tryz.prog 61 #[.slice A l.length cap, .agg #[.int .i64 t.data, .int .i64 t.index], .agg #[.int .i64 p.op, .int .i64 p.ctor, .int .i64 p.n, .int .i64 p.m, .int .i64 p.var, .slice D p.kids.length ep]] w fun e w' => ∃ v, e = .returned v ∧ OTys w' w.heap.size v (tysP l t p) (tysP l t p).length ∧ Below w.heap.size w w' := by
  have Hr := Lib.hid hr
  clear hr
  generalize hw0 : (w.alloc (.cells #[.int .i64 t.data, .int .i64 t.index] 35)).alloc (.cells #[.int .i64 p.op, .int .i64 p.ctor, .int .i64 p.n, .int .i64 p.m, .int .i64 p.var, .slice D p.kids.length ep] 38) = w0
  have hb0 := below_box2 hw0
  have HXT : Hid (Bx w0 w.heap.size t) := by rw [← hw0]; exact ⟨by simp [go_sem], by simp [go_sem]⟩
  have HXP : Hid (PBx w0 (w.heap.size + 1) p (.slice D p.kids.length ep)) := by rw [← hw0]; exact ⟨by simp [go_sem], by simp [go_sem], by simp [go_sem], by simp [go_sem], by simp [go_sem], by simp [go_sem]⟩
  have hs0 : w0.heap.size = w.heap.size + 2 := by rw [← hw0]; simp
  have HW := Lib.hid hw0
  clear hw0
  obtain ⟨x0, x1⟩ := HXT.out
  obtain ⟨y0, y1, y2, y3, y4, y5⟩ := HXP.out
  by_cases h4 : p.op = 4
  · have q4 := ieq_t h4
    have HC := Lib.hid (hm h4)
    have HT := Lib.hid (tysP_ctor (l := l) (t := t) h4)
    clear h4 hm
    go_enter Tryz.func61, Tryz.ntmps61
    go_wp2_with fail
    rw [HW.out]
    refine (l1Args_all A l cap t p.ctor _ (Hr.out.at_ hb0) HC.out).mono ?_
    rintro e w1 ⟨v, rfl, ho, hb1⟩
    have HO := Lib.hid (ho.lower hb0.size)
    have hb := below_aft hb0 hb1 hb0.size
    clear ho hb1
    go_wp2_with fail
    go_ret
    exact ⟨_, rfl, by rw [HT.out]; exact HO.out, hb⟩
  · obtain ⟨i0, hi, hz0, hz1, hz2⟩ := info_parts info34
    have q4 := ieq_f h4
    have HT := Lib.hid (tysP_other (l := l) (t := t) h4)
    have HKD := Lib.hid (kids_any p.op · h4)
    have hk2 := kidN_le p.op
    have HRL : Hid ((List.replicate (kidN p.op) t).length = kidN p.op) := List.length_replicate
    clear h4 hm ht
    have HO0 : Hid ((w0.alloc (.cells #[] 35)).ownsRow (w.heap.size + 2) 35 2 (.slice (some ⟨w.heap.size + 2, 0, none⟩) 0 0) 0 []) := by
      have h := World.ownsRow_lit (base := w.heap.size + 2) (e := 35) (size := 2) w0 #[] 0 (by omega) (by simp) rfl
      rw [hs0] at h
      unfold Hid
      simpa using h
    have hba : Below w.heap.size w (w0.alloc (.cells #[] 35)) := hb0.alloc hb0.size _
    have HXT1 : Hid (Bx (w0.alloc (.cells #[] 35)) w.heap.size t) := HXT.out.at_ ((Below.refl _ _).alloc (Nat.le_refl _) _)
    have HXP1 : Hid (PBx (w0.alloc (.cells #[] 35)) (w.heap.size + 1) p (.slice D p.kids.length ep)) := HXP.out.at_ ((Below.refl _ _).alloc (Nat.le_refl _) _)
    go_enter Tryz.func61, Tryz.ntmps61
    go_wp2_with fail
    rw [HW.out]
    clear x0 x1 y0 y1 y2 y3 y4 y5 hs0
    generalize (w0.alloc (.cells #[] 35)) = wa at *
    go_loopw [7, 8] (fun v i wr => ∃ k : Nat, k ≤ kidN p.op ∧ i = .int .i64 k ∧ Hid (OTys wr (w.heap.size + 2) v (List.replicate (kidN p.op) t) k) ∧ Below w.heap.size w wr ∧ Bx wr w.heap.size t ∧ PBx wr (w.heap.size + 1) p (.slice D p.kids.length ep)) (fun _ i _ => kidN p.op - (intOf i).toNat)
    case atStart => exact ⟨0, by omega, rfl, ⟨_, HO0.out, TyRow.zero _ _⟩, hba, HXT1.out, HXP1.out⟩
    case round =>
      obtain ⟨k, hk, rfl, HO, hb, ⟨x0, x1⟩, hpx⟩ := hrel
      obtain ⟨y0, y1, y2, y3, y4, y5⟩ := hpx
      by_cases hlt : k < kidN p.op
      · have hkI : (k : Int) < (kidN p.op : Int) := by omega
        obtain ⟨xs, hown, hrow⟩ := HO.out
        have HOW := Lib.hid hown
        have hxl := hown.1
        have hsz := hb.size
        have hrow2 := hrow.snoc (by rw [HRL.out]; exact hlt) hxl
        rw [List.getElem_replicate] at hrow2
        have HRW := Lib.hid hrow2
        have hbx0 := Go.block_lt_of_cell x0
        have hbx1 := Go.block_lt_of_cell y0
        have hlo := (fun g e => (hown.lt g e).1 : ∀ g, u7.ownBlock = some g → w.heap.size + 2 ≤ g)
        clear hown hrow hxl hrow2 HO0 HO
        go_wp2_with (first | (go_at_call 80; refine (HKD.out _).mono ?_; rintro e w1 ⟨rfl, rfl⟩) | (at_builtin; refine wpList_append_own _ rfl _ _ 77 rfl (w.heap.size + 2) 35 i0 (.agg #[.int .i64 0, .int .i64 0]) 2 16 Tryz.underlying77 hi hz0 hz1 hz2 rfl (by decide) _ _ _ rfl (HOW.out.alloc _) ⟨wr.heap.size, 0, none⟩ 1 1 [.int .i64 t.data, .int .i64 t.index] rfl rfl ?c1 ?c2 ?c3 ?c4 ?c5 ?_))
        case c1 => exact cell_two_new _ _ _ _
        case c2 => intro u hu; simp at hu; rcases hu with rfl | rfl <;> rfl
        case c3 => unfold maxLen; omega
        case c4 => omega
        case c5 => simp; omega
        intro v' w1 hown' hgrow hnn
        have hb3 : Below w.heap.size w w1 := (hb.alloc hsz _).grown hgrow (by simp; omega) (fun g' e => by have := hlo g' e; omega)
        have hk0 : w1.heap[w.heap.size]? = wr.heap[w.heap.size]? := by
          rw [hgrow.block w.heap.size (by simp; omega) (fun e => by have := hlo _ e.symm; omega), Below.heap_alloc _ _ _ hbx0]
        have hk1 : w1.heap[w.heap.size + 1]? = wr.heap[w.heap.size + 1]? := by
          rw [hgrow.block (w.heap.size + 1) (by simp; omega) (fun e => by have := hlo _ e.symm; omega), Below.heap_alloc _ _ _ hbx1]
        have hX : Bx w1 w.heap.size t := ⟨(World.cell?_of_block (a := ⟨w.heap.size, 0, none⟩) hk0).trans x0, (World.cell?_of_block (a := ⟨w.heap.size, 1, none⟩) hk0).trans x1⟩
        have hP : PBx w1 (w.heap.size + 1) p (.slice D p.kids.length ep) := PBx.keep ⟨y0, y1, y2, y3, y4, y5⟩ hk1
        have HO3 : Hid (OTys w1 (w.heap.size + 2) v' (List.replicate (kidN p.op) t) (k + 1)) := ⟨_, hown', HRW.out⟩
        clear hown' hgrow hnn hk0 hk1 x0 x1 y0 y1 y2 y3 y4 y5
        go_wp2_with fail
        go_roundw
        case rel => exact ⟨k + 1, by omega, by go_num, HO3.out, hb3, hX, hP⟩
        case measure => simp [intOf]; omega
      · have hkI : (kidN p.op : Int) ≤ (k : Int) := by omega
        have hke : k = kidN p.op := by omega
        have HF : Hid (OTys wr w.heap.size u7 (tysP l t p) (tysP l t p).length) := by
          unfold Hid
          refine OTys.lower (lo := w.heap.size + 2) ?_ (by omega)
          rw [HT.out, HRL.out, ← hke]
          rw [← hke] at HO
          exact HO.out
        clear hke
        go_wp2_with fail
        refine (HKD.out wr).mono ?_
        rintro e w1 ⟨rfl, rfl⟩
        go_wp2_with fail
        go_ret
        exact ⟨_, rfl, HF.out, hb⟩
end Go.Proofs.YtbdiahnelnbdnaaGreat
