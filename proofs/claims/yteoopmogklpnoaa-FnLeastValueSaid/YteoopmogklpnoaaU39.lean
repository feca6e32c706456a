/-
  The value of least depth, with room: the program's function. No statement is proved here.
-/
import Derived.Test.YteoopmogklpnoaaU20
import Derived.Test.YteoopmogklpnoaaU38
namespace Go.Proofs.Yteoopmogklpnoaa
open Go.RowKit Go.Sort Go.Deep
set_option maxRecDepth 100000
set_option linter.unusedVariables false
def LvIc (l : List Da) (n : Nat) : Prop := ∀ (A : Option Addr) (cap : Nat) (t : Ty) (mb : Nat) (w : World), RDas w w.heap.size A l → MapTy w mb 400 (ldep l) (Inh l) → TyOK l t → Inh l t → ldep l t ≤ n →
  Calls Try.prog 60 #[.slice A l.length cap, .agg #[.int .i64 t.data, .int .i64 t.index], .map (some mb)] w (LvQc l n t w)
theorem lvIc_int (l : List Da) (n : Nat) (A : Option Addr) (cap : Nat) (t : Ty) (mb : Nat) (w : World) (h1 : t.data = -1) :
    Calls Try.prog 60 #[.slice A l.length cap, .agg #[.int .i64 t.data, .int .i64 t.index], .map (some mb)] w (LvQc l (n + 1) t w) := by
  have HF : Hid (∀ w', Below w.heap.size w w' → LvQc l (n + 1) t w (.returned (.agg #[.int .i64 (-1), .int .i64 0, .slice none 0 0])) w') := fun w' hb => by
    unfold LvQc
    rw [lvA_int h1]
    exact ⟨none, 0, rfl, OVk.nil _ _ _ _, hb⟩
  have q1 := ieq_t h1
  clear h1
  go_enter Try.func60, Try.ntmps60
  go_wp2_with fail
  refine bodyPost_ret (v := .agg #[.int .i64 (-1), .int .i64 0, .slice none 0 0]) (by simp [results, Try.results60, go_sem]) rfl (HF.out _ ?_)
  repeat (refine Below.setCell ?_ (by simp <;> omega) _)
  exact ((((Below.refl _ _).alloc (Nat.le_refl _) _).alloc (by simp) _).alloc (by simp <;> omega) _).alloc (by simp <;> omega) _
set_option maxHeartbeats 4000000 in
theorem lvIc_step (l : List Da) (n : Nat) (hw : WorldOK l) (ih : LvIc l n) : LvIc l (n + 1) := by
  intro A cap t mb w hr hm ht hi ht5
  by_cases h1 : t.data = -1
  · exact lvIc_int l n A cap t mb w h1
  obtain ⟨i0, hi0, hz0, hz1, hz2⟩ := info_parts infoOV
  have q1 := ieq_f h1
  have H1 := Lib.hid h1
  have Hr := Lib.hid hr
  have HMP := Lib.hid hm
  have HK := Lib.hid ht
  have HI := Lib.hid hi
  have IH := Lib.hid ih
  have H5 := Lib.hid ht5
  have HT4 := Lib.hid (tys_mono hw.1 (ok_tys ht))
  have HA4 := Lib.hid (args_tys4 hw (ok_tys ht))
  have hcl := ctR_len l t
  generalize hwx : (((w.alloc (.cells #[.slice A l.length cap] 23)).alloc (.cells #[.int .i64 t.data, .int .i64 t.index] 25)).alloc (.cells #[.map (some mb)] 96)).alloc (.cells #[.int .i64 0, .int .i64 0, .slice none 0 0] 28) = wx
  have hbx : Below w.heap.size w wx := by rw [← hwx]; exact ((((Below.refl _ _).alloc (Nat.le_refl _) _).alloc (by simp) _).alloc (by simp <;> omega) _).alloc (by simp <;> omega) _
  have HM : Hid (M3 wx w.heap.size (w.heap.size + 1) (w.heap.size + 2) A l cap t mb 400 (ldep l) (Inh l)) := by
    refine ⟨?_, ?_, ?_, ?_, hm.at_ hbx, hr.keep (fun p hp => hbx.cell hp) hbx.size⟩ <;> (rw [← hwx]; simp [go_sem])
  have HXR : Hid (wx.heap[w.heap.size + 3]? = some (.cells #[.int .i64 0, .int .i64 0, .slice none 0 0] 28 (0, 0))) := by
    have h := heap_alloc_new (((w.alloc (.cells #[.slice A l.length cap] 23)).alloc (.cells #[.int .i64 t.data, .int .i64 t.index] 25)).alloc (.cells #[.map (some mb)] 96)) (.cells #[.int .i64 0, .int .i64 0, .slice none 0 0] 28)
    simp only [World.size_alloc] at h
    unfold Hid; rw [← hwx]; exact h
  have HWX := Lib.hid hwx
  clear h1 hr hm ht hi ih hw ht5 hwx
  obtain ⟨s0, s1, s2, s3⟩ := HM.out.cells
  go_enter Try.func60, Try.ntmps60
  go_wp2_with fail
  rw [HWX.out]
  refine (ctorsOf_all _ l _ t _ HM.out.rd HK.out).mono ?_
  rintro e w1 ⟨v1, rfl, ho1, hb1⟩
  obtain ⟨A1, c1, rfl, hr1, _⟩ := ho1.form2 hcl
  have HR1 := Lib.hid hr1
  have HB1 := Lib.hid (below_aft hbx hb1 hbx.size)
  have HM1 := Lib.hid (HM.out.at_ hb1)
  have HXR1 : Hid (w1.heap[w.heap.size + 3]? = some (.cells #[.int .i64 0, .int .i64 0, .slice none 0 0] 28 (0, 0))) := (hb1.block _ (heap_lt HXR.out)).trans HXR.out
  clear hr1 ho1 hb1 s0 s1 s2 s3
  go_wp2_with fail
  refine (indexL_any A1 c1 _ _ _ A l cap t mb w1 HR1.out HM1.out HA4.out HT4.out HK.out H1.out HI.out).mono ?_
  rintro e w2 ⟨k, hkl, rfl, hfc, hme, hb2⟩
  have hkI : (k : Int) < ((ctR l t).length : Int) := by omega
  obtain ⟨b, off, rfl, hbB, c0⟩ := (HR1.out.at_ hb2).2 k hkl
  have HXM : Hid ((ctR l t)[k] ∈ ctR l t) := List.getElem_mem hkl
  have HFX := Lib.hid hfc
  have HE := Lib.hid hme
  clear hfc hme
  generalize (ctR l t)[k] = x at HXM HFX HE c0
  have hbw2 := below_aft HB1.out hb2 HB1.out.size
  have HM2 := Lib.hid (HM1.out.at_ hb2)
  have HXR2 : Hid (w2.heap[w.heap.size + 3]? = some (.cells #[.int .i64 0, .int .i64 0, .slice none 0 0] 28 (0, 0))) := (hb2.block _ (heap_lt HXR1.out)).trans HXR1.out
  clear hb2
  generalize hw3 : w2.alloc (.cells #[.int .i64 x, .int .i64 0, .slice none 0 0] 28) = w3
  have hb3 : Below w2.heap.size w2 w3 := by rw [← hw3]; exact (Below.refl _ _).alloc (Nat.le_refl _) _
  have HG3 : Hid (w3.heap[w2.heap.size]? = some (.cells #[.int .i64 x, .int .i64 0, .slice none 0 0] 28 (0, 0))) := by unfold Hid; rw [← hw3]; exact heap_alloc_new _ _
  have HW3 := Lib.hid hw3
  clear hw3
  have HM3' := Lib.hid (HM2.out.at_ hb3)
  obtain ⟨s0, s1, s2, s3⟩ := HM2.out.cells
  have hlq := heap_lt HXR2.out
  have hq0 : w.heap.size < w2.heap.size := by omega
  have hq1 : w.heap.size + 1 < w2.heap.size := by omega
  clear hlq
  have hbw3 := below_aft hbw2 hb3 hbw2.size
  go_wp2_with fail
  rw [HW3.out]
  refine (argTypes_all _ l _ t x _ HM3'.out.rd HXM.out).mono ?_
  rintro e w4 ⟨v4, rfl, ho4, hb4⟩
  obtain ⟨A3, c3, rfl, hr4⟩ := ho4.form (agR_max l t x)
  have HR4 := Lib.hid hr4
  have HA3 : Hid (∀ b o, A3 = some ⟨b, o, none⟩ → w3.heap.size ≤ b ∧ b < w4.heap.size) := by
    obtain ⟨_, hro, _⟩ := ho4
    obtain ⟨_, _, _, hob⟩ := own_form hro
    exact fun b o e => by subst e; exact hob b rfl
  have HM4 := Lib.hid (HM3'.out.at_ hb4)
  have HG4 : Hid (w4.heap[w2.heap.size]? = some (.cells #[.int .i64 x, .int .i64 0, .slice none 0 0] 28 (0, 0))) := (hb4.block _ (heap_lt HG3.out)).trans HG3.out
  have HXR4 : Hid (w4.heap[w.heap.size + 3]? = some (.cells #[.int .i64 0, .int .i64 0, .slice none 0 0] 28 (0, 0))) := (hb4.block _ (Nat.lt_of_lt_of_le (heap_lt HXR2.out) hb3.size)).trans ((hb3.block _ (heap_lt HXR2.out)).trans HXR2.out)
  have hbw4 := below_aft hbw3 hb4 hbw3.size
  have hats := agR_len l t x
  have HAK : Hid (∀ j (h : j < (agR l t x).length), TyOK l (agR l t x)[j] ∧ Inh l (agR l t x)[j] ∧ ldep l (agR l t x)[j] ≤ n) := fun j h => by
    have hp := ldep_yes HI.out
    have he := HE.out
    have h5 := H5.out
    obtain ⟨i1, i2⟩ := mdp_pos (l := l) (L := agR l t x) (by omega) _ (List.getElem_mem h)
    exact ⟨agR_ok HXM.out _ (List.getElem_mem h), i1, by omega⟩
  have HLV : Hid (lvA l (n + 1) t = .mk x 0 ((agR l t x).map (lvA l n))) := lvA_data H1.out HFX.out
  generalize agR l t x = ats at HAK HLV hats HR4
  have hsz2 : w.heap.size + 3 < w2.heap.size := heap_lt HXR2.out
  have hsz3 : w2.heap.size < w3.heap.size := heap_lt HG3.out
  have hsz4 : w2.heap.size < w4.heap.size := heap_lt HG4.out
  clear s0 s1 s2 s3 ho4 hq0 hq1 hr4 c0
  generalize hg : w2.heap.size = g at hsz2 hsz3 hsz4 HG4
  have HA3 : Hid (∀ b o, A3 = some ⟨b, o, none⟩ → g < b ∧ b < w4.heap.size) := fun b o e => by obtain ⟨h1, h2⟩ := HA3.out b o e; exact ⟨by omega, h2⟩
  generalize w4 = wl at *
  have hatI : (ats.length : Int) ≤ 3 := by omega
  go_wp2_with fail
  go_loopw [33] (fun i wr => ∃ k : Nat, k ≤ ats.length ∧ i = .int .i64 k ∧ Hid (BldVc n wl wr g x 0 (ats.map (lvA l n)) k)) (fun i _ => ats.length - (intOf i).toNat)
  case atStart => exact ⟨0, by omega, rfl, BldVc.zero HG4.out⟩
  case round =>
    clear hb3 hb4 hbw2 hbw3 hkI hkl hbB
    obtain ⟨k, hk, rfl, HBd⟩ := hrel
    by_cases hlt : k < ats.length
    · have hkI : (k : Int) < (ats.length : Int) := by omega
      obtain ⟨b3, o3, rfl, hb3B, p0, p1⟩ := HR4.out.2 k hlt
      obtain ⟨hgb, hbl⟩ := HA3.out b3 o3 rfl
      have hfr := HBd.out.2.1
      have hwr := hfr.size
      have hbe : wr.heap[b3]? = wl.heap[b3]? := hfr.2.2.2.2 b3 hb3B (by omega)
      have p0' := (World.cell?_of_block (a := ⟨b3, o3 + k * 2, none⟩) hbe).trans p0
      have p1' := (World.cell?_of_block (a := ⟨b3, o3 + k * 2 + 1, none⟩) hbe).trans p1
      generalize hwb : wr.alloc (.cells #[.int .i64 ats[k].data, .int .i64 ats[k].index] 25) = wb
      have hbb : Below wr.heap.size wr wb := by rw [← hwb]; exact (Below.refl _ _).alloc (Nat.le_refl _) _
      have HXB : Hid (Bx wb wr.heap.size ats[k]) := by rw [← hwb]; exact Bx.new _ _ _
      obtain ⟨hgl, hf, Ak, ck, ys, Q, hgc, hown, hrow⟩ := HBd.out.below hbb
      have hbwr : Below w.heap.size w wb := hbw4.trans (hf.to hbw4.size (fun b h => by omega))
      obtain ⟨_, _, _, hob⟩ := own_form hown
      have HGL := Lib.hid hgl
      have HFR := Lib.hid hf
      have HGC := Lib.hid hgc
      have HOW := Lib.hid hown
      have HRW := Lib.hid hrow
      have HWB := Lib.hid hwb
      have c2x : wb.cell? ⟨g, 2, none⟩ = some (.slice Ak k ck) := (cell_of_blk hgc 2).trans rfl
      obtain ⟨m0, m1, m2, m3⟩ := HM4.out.cells
      have n0 := (World.cell?_of_block (a := ⟨w.heap.size, 0, none⟩) (hf.2.2.2.2 w.heap.size (by omega) (by omega))).trans m0
      have n3 := (World.cell?_of_block (a := ⟨w.heap.size + 2, 0, none⟩) (hf.2.2.2.2 (w.heap.size + 2) (by omega) (by omega))).trans m3
      obtain ⟨y0, y1⟩ := HXB.out
      have hwbs : wr.heap.size < wb.heap.size := Go.block_lt_of_cell y0
      have HKP : Hid (∀ w2, Below wb.heap.size wb w2 → w2.cell? ⟨g, 2, none⟩ = some (.slice Ak k ck) ∧ w2.cell? ⟨w.heap.size, 0, none⟩ = some (.slice A l.length cap) ∧ w2.cell? ⟨wr.heap.size, 0, none⟩ = some (.int .i64 ats[k].data) ∧ w2.cell? ⟨wr.heap.size, 1, none⟩ = some (.int .i64 ats[k].index) ∧ w2.cell? ⟨w.heap.size + 2, 0, none⟩ = some (.map (some mb))) := fun w2 h =>
        ⟨(h.cell (p := ⟨g, 2, none⟩) (Go.block_lt_of_cell c2x)).trans c2x, (h.cell (p := ⟨w.heap.size, 0, none⟩) (Go.block_lt_of_cell n0)).trans n0, (h.cell (p := ⟨wr.heap.size, 0, none⟩) (Go.block_lt_of_cell y0)).trans y0, (h.cell (p := ⟨wr.heap.size, 1, none⟩) (Go.block_lt_of_cell y1)).trans y1, (h.cell (p := ⟨w.heap.size + 2, 0, none⟩) (Go.block_lt_of_cell n3)).trans n3⟩
      have HKB : Hid (∀ (w2 : World) (o : Obj), Below wb.heap.size wb w2 → ∀ b, (Value.slice Ak k ck).ownBlock = some b → (w2.alloc o).heap[b]? = wb.heap[b]?) := fun w2 o h b e => by
        have := (hob b e).2
        rw [Below.heap_alloc _ _ _ (Nat.lt_of_lt_of_le this h.size), h.block b this]
      have HKC : Hid (∀ (w2 w4 : World) (o : Obj), Below wb.heap.size wb w2 → (w2.alloc o).grownBy w4 (Value.slice Ak k ck).ownBlock → w4.cell? ⟨w.heap.size, 0, none⟩ = some (.slice A l.length cap) ∧ w4.cell? ⟨wr.heap.size, 0, none⟩ = some (.int .i64 ats[k].data) ∧ w4.cell? ⟨wr.heap.size, 1, none⟩ = some (.int .i64 ats[k].index) ∧ w4.cell? ⟨w.heap.size + 2, 0, none⟩ = some (.map (some mb))) := fun w2 w4 o h hg => by
        have hsz := h.size
        have hown' := hown
        have e : ∀ b, b < wb.heap.size → some b ≠ (Value.slice Ak k ck).ownBlock → w4.heap[b]? = wb.heap[b]? := fun b hb hne => by
          rw [hg.block b (by simp; omega) hne, Below.heap_alloc _ _ _ (by omega), h.block b hb]
        have hlow : ∀ b, b < wl.heap.size → some b ≠ (Value.slice Ak k ck).ownBlock := fun b hb e => by have := (hob b e.symm).1; omega
        have hbox : some wr.heap.size ≠ (Value.slice Ak k ck).ownBlock := by
          intro e'
          rcases hown.2 with ⟨e1, _⟩ | ⟨g', cap', cur, e1, a2, a3, _⟩
          · rw [e1] at e'; cases e'
          · rw [e1] at e'
            injection e' with e'
            simp only at e'
            have h2 : wb.heap[wr.heap.size]? = some (.cells #[.int .i64 ats[k].data, .int .i64 ats[k].index] 25 (0, 0)) := by rw [← HWB.out]; exact heap_alloc_new _ _
            rw [← e', h2] at a3
            injection a3 with a3
            injection a3 with _ a4
            revert a4; decide
        exact ⟨(World.cell?_of_block (a := ⟨w.heap.size, 0, none⟩) (e w.heap.size (by omega) (hlow w.heap.size (by omega)))).trans n0, (World.cell?_of_block (a := ⟨wr.heap.size, 0, none⟩) (e _ hwbs hbox)).trans y0, (World.cell?_of_block (a := ⟨wr.heap.size, 1, none⟩) (e _ hwbs hbox)).trans y1, (World.cell?_of_block (a := ⟨w.heap.size + 2, 0, none⟩) (e (w.heap.size + 2) (by omega) (hlow (w.heap.size + 2) (by omega)))).trans n3⟩
      obtain ⟨ha1, ha2, ha3⟩ := HAK.out k hlt
      have HIH : Hid (Calls Try.prog 60 #[.slice A l.length cap, .agg #[.int .i64 ats[k].data, .int .i64 ats[k].index], .map (some mb)] wb.drew (LvQc l n ats[k] wb.drew)) := IH.out A cap ats[k] mb wb.drew (Hr.out.at_ hbwr.drew) (HMP.out.at_ hbwr.drew) ha1 ha2 ha3
      have HS0 : Hid (wb.drew.cell? ⟨g, 2, none⟩ = some (.slice Ak k ck) ∧ wb.drew.cell? ⟨w.heap.size, 0, none⟩ = some (.slice A l.length cap) ∧ wb.drew.cell? ⟨wr.heap.size, 0, none⟩ = some (.int .i64 ats[k].data) ∧ wb.drew.cell? ⟨wr.heap.size, 1, none⟩ = some (.int .i64 ats[k].index) ∧ wb.drew.cell? ⟨w.heap.size + 2, 0, none⟩ = some (.map (some mb))) := ⟨c2x, n0, y0, y1, n3⟩
      have hwlb : wl.heap.size ≤ wb.heap.size := hf.size
      clear hgl hf hgc hown hrow hob hbe p0 p1 ha1 ha2 ha3 c2x hbwr hb3B m0 m1 m2 m3 n0 n3 y0 y1 hfr hbb hwb
      go_wp2_with fail
      rw [HWB.out]
      clear p0' p1'
      refine Till.start (S := fun w' => w'.cell? ⟨g, 2, none⟩ = some (.slice Ak k ck) ∧ w'.cell? ⟨w.heap.size, 0, none⟩ = some (.slice A l.length cap) ∧ w'.cell? ⟨wr.heap.size, 0, none⟩ = some (.int .i64 ats[k].data) ∧ w'.cell? ⟨wr.heap.size, 1, none⟩ = some (.int .i64 ats[k].index) ∧ w'.cell? ⟨w.heap.size + 2, 0, none⟩ = some (.map (some mb))) (z := 9) (by kernel_rfl) ?_
      refine Till.take_ (i := 0) (d := some 37) (v := .pointer (some ⟨g, 2, none⟩)) (ls' := #[true, false, false, false, false, false, false, false, false, false]) rfl rfl (by kernel_rfl) (by kernel_rfl) (by kernel_rfl) (by kernel_rfl) (fun _ _ _ h => h) HS0.out (Or.inl ⟨by rfl, fun wq hSw => ?_⟩) (by kernel_rfl) ?_
      · obtain ⟨hs0, hs1, hs2, hs3, hs4⟩ := hSw
        go_simp
      simp only [Act.put, List.setIfInBounds_toArray, List.set_cons_zero, List.set_cons_succ]
      refine Till.take_ (i := 1) (d := some 38) (v := .slice Ak k ck) (ls' := #[true, true, false, false, false, false, false, false, false, false]) rfl rfl (by kernel_rfl) (by kernel_rfl) (by kernel_rfl) (by kernel_rfl) (fun _ _ _ h => h) HS0.out (Or.inl ⟨by rfl, fun wq hSw => ?_⟩) (by kernel_rfl) ?_
      · obtain ⟨hs0, hs1, hs2, hs3, hs4⟩ := hSw
        go_simp
      simp only [Act.put, List.setIfInBounds_toArray, List.set_cons_zero, List.set_cons_succ]
      refine Till.take_ (i := 2) (d := some 39) (v := .slice A l.length cap) (ls' := #[true, true, true, false, false, false, false, false, false, false]) rfl rfl (by kernel_rfl) (by kernel_rfl) (by kernel_rfl) (by kernel_rfl) (fun _ _ _ h => h) HS0.out (Or.inl ⟨by rfl, fun wq hSw => ?_⟩) (by kernel_rfl) ?_
      · obtain ⟨hs0, hs1, hs2, hs3, hs4⟩ := hSw
        go_simp
      simp only [Act.put, List.setIfInBounds_toArray, List.set_cons_zero, List.set_cons_succ]
      refine Till.take_ (i := 3) (d := some 40) (v := .agg #[.int .i64 ats[k].data, .int .i64 ats[k].index]) (ls' := #[true, true, true, true, false, false, false, false, false, false]) rfl rfl (by kernel_rfl) (by kernel_rfl) (by kernel_rfl) (by kernel_rfl) (fun _ _ _ h => h) HS0.out (Or.inl ⟨by rfl, fun wq hSw => ?_⟩) (by kernel_rfl) ?_
      · obtain ⟨hs0, hs1, hs2, hs3, hs4⟩ := hSw
        go_simp
      simp only [Act.put, List.setIfInBounds_toArray, List.set_cons_zero, List.set_cons_succ]
      refine Till.take_ (i := 4) (d := some 41) (v := .map (some mb)) (ls' := #[true, true, true, true, true, false, false, false, false, false]) rfl rfl (by kernel_rfl) (by kernel_rfl) (by kernel_rfl) (by kernel_rfl) (fun _ _ _ h => h) HS0.out (Or.inl ⟨by rfl, fun wq hSw => ?_⟩) (by kernel_rfl) ?_
      · obtain ⟨hs0, hs1, hs2, hs3, hs4⟩ := hSw
        go_simp
      simp only [Act.put, List.setIfInBounds_toArray, List.set_cons_zero, List.set_cons_succ]
      refine Till.all (rs := [5]) (by kernel_rfl) (by decide) (List.forall_mem_cons.2 ⟨?_, fun _ h => nomatch h⟩)
      refine Till.step rfl (by rfl) ?_
      intro K hK
      go_simp
      go_at_call 60
      with_reducible refine (HIH.out).mono ?_
      rintro e w2 ⟨A4, c4, rfl, ho4, hb4'⟩
      have hb4 : Below wb.heap.size wb w2 := ⟨hb4'.os, hb4'.tape, hb4'.output, hb4'.size, hb4'.block⟩
      have HS2 := Lib.hid (HKP.out w2 hb4)
      have HB4 := Lib.hid hb4
      have HO4 : Hid (OVk n w2 (Nw wb w2) A4 c4 ((ats.map (lvA l n))[k]'(by simpa using hlt)).kids) := by unfold Hid; rw [List.getElem_map]; exact ho4
      have hbz : wb.heap.size ≤ w2.heap.size := hb4.size
      clear hb4 hb4' ho4
      go_simp
      refine hK _ _ (fun _ => HS2.out) ?_
      clear hK K
      refine Till.all (rs := [6]) (by kernel_rfl) (by decide) (List.forall_mem_cons.2 ⟨?_, fun _ h => nomatch h⟩)
      refine Till.step rfl (by rfl) ?_
      intro K hK
      go_simp
      refine hK _ _ (fun _ => ⟨by have := HS2.out.1; go_keep, by have := HS2.out.2.1; go_keep, by have := HS2.out.2.2.1; go_keep, by have := HS2.out.2.2.2.1; go_keep, by have := HS2.out.2.2.2.2; go_keep⟩) ?_
      clear hK K
      refine Till.all (rs := [7]) (by kernel_rfl) (by decide) (List.forall_mem_cons.2 ⟨?_, fun _ h => nomatch h⟩)
      refine Till.step rfl (by rfl) ?_
      intro K hK
      refine wp_append_own (.tmp 38) (.tmp 43) 26 (by rfl) wl.heap.size 28 i0 (.agg #[.int .i64 0, .int .i64 0, .slice none 0 0]) 3 40 Try.underlying26 hi0 hz0 hz1 hz2 (by rfl) (by decide) (.slice Ak k ck) k ys (by rfl) (own_at HOW.out (HKB.out w2 _ HB4.out)) ⟨w2.heap.size, 0, none⟩ 1 1 [.int .i64 (lvA l n ats[k]).ctor, .int .i64 (lvA l n ats[k]).n, .slice A4 (lvA l n ats[k]).kids.length c4] (by rfl) rfl (cell_three_new _ _ _ _ _) (by intro u hu; simp at hu; rcases hu with rfl | rfl | rfl <;> rfl) (by unfold maxLen; omega) (by omega) (by simp; omega) ?_
      intro v4 w4 hown4 hgr4 hat4
      obtain ⟨A5, c5, rfl, hg4, hbl4⟩ := BldVc.step HGL.out HFR.out HGC.out HOW.out HRW.out (by simpa using hlt) HB4.out HO4.out (by rw [List.getElem_map]; exact hown4) hgr4 hat4
      have HS4 := Lib.hid (And.intro ((cell_of_blk hg4 2).trans rfl) (HKC.out w2 w4 _ HB4.out hgr4))
      have hfz : w4.frozen? ⟨g, 2, none⟩ = false := frozen_of_row w4 g 2 _ 28 hg4
      have c4x := HS4.out.1
      have HBL := Lib.hid hbl4
      clear hown4 hgr4 hat4 hg4 hbl4
      refine hK _ _ (fun _ => HS4.out) ?_
      clear hK K
      refine Till.all (rs := [8]) (by kernel_rfl) (by decide) (List.forall_mem_cons.2 ⟨?_, fun _ h => nomatch h⟩)
      refine Till.step rfl (by rfl) ?_
      intro K hK
      go_simp
      refine hK _ _ (fun _ => HS4.out) ?_
      clear hK K
      refine Till.all (rs := [9]) (by kernel_rfl) (by decide) (List.forall_mem_cons.2 ⟨?_, fun _ h => nomatch h⟩)
      refine Till.step rfl (by rfl) ?_
      intro K hK
      go_simp
      refine hK _ _ (fun h => absurd rfl h) ?_
      clear hK K
      refine Till.done (by kernel_rfl) ?_ _
      clear c4x hfz HS4 HS2
      go_wp2_with fail
      go_roundw
      case rel => exact ⟨k + 1, by omega, by go_num, HBL.out⟩
      case measure => simp [intOf]; omega
    · have hke : k = ats.length := by omega
      obtain ⟨A6, c6, hg6, ho6, hf6⟩ := HBd.out.all (by simpa using hke) (by simp; omega)
      have hr6 : wr.heap[w.heap.size + 3]? = some (.cells #[.int .i64 0, .int .i64 0, .slice none 0 0] 28 (0, 0)) := hf6.block HXR4.out (by omega)
      have hF := Lib.hid hf6
      have HO6 := Lib.hid ho6
      have g0 := (cell_of_blk hg6 0).trans rfl
      have g1 := (cell_of_blk hg6 1).trans rfl
      have g2 := (cell_of_blk hg6 2).trans rfl
      have r0 := (cell_of_blk hr6 0).trans rfl
      have r1 := (cell_of_blk hr6 1).trans rfl
      have r2 := (cell_of_blk hr6 2).trans rfl
      have f0 := frozen_of_row wr (w.heap.size + 3) 0 _ 28 hr6
      have f1 := frozen_of_row wr (w.heap.size + 3) 1 _ 28 hr6
      have f2 := frozen_of_row wr (w.heap.size + 3) 2 _ 28 hr6
      have hkI : (ats.length : Int) ≤ (k : Int) := by omega
      clear hke hg6 ho6 hf6
      go_wp2_with fail
      refine bodyPost_ret (v := .agg #[.int .i64 x, .int .i64 0, .slice A6 (ats.map (lvA l n)).length c6]) (by simp [results, Try.results60, go_sem, r0, r1, r2]) rfl ?_
      unfold LvQc
      rw [HLV.out]
      have hs4 := hbw4.size
      refine ⟨A6, c6, rfl, (HO6.out.fr _ (P' := fun b => b = w.heap.size + 3) (((Fr.set (P := fun b => b = w.heap.size + 3) _ _ _ _ rfl).trans (Fr.set _ _ _ _ rfl)).trans (Fr.set _ _ _ _ rfl)) (fun b hq e => by have := hq.1; omega)).wide _ (fun b hq => ⟨by have := hq.1; omega, by have h2 := hq.2; simpa [World.setCell] using h2⟩), ?_⟩
      refine Below.setCell (Below.setCell (Below.setCell (hbw4.trans (hF.out.to hs4 (fun b h => by omega))) ?_ _) ?_ _) ?_ _ <;> (simp <;> omega)
end Go.Proofs.Yteoopmogklpnoaa
