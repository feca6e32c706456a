/-
  The value of least depth, with room: the document's function. No statement is proved here.
-/
import Derived.Test.YteoopmogklpnoaaU19
import Derived.Test.YteoopmogklpnoaaU37
namespace Go.Proofs.Yteoopmogklpnoaa
open Go.RowKit Go.Sort Go.Deep
set_option maxRecDepth 100000
set_option linter.unusedVariables false
/-- What is returned: the value, in blocks of its own. -/
def LvQc (l : List Da) (n : Nat) (t : Ty) (w : World) (e : Ending) (w' : World) : Prop := ∃ A c, e = .returned (.agg #[.int .i64 (lvA l n t).ctor, .int .i64 (lvA l n t).n, .slice A (lvA l n t).kids.length c]) ∧ OVk n w' (Nw w w') A c (lvA l n t).kids ∧ Below w.heap.size w w'
def LvSc (l : List Da) (n : Nat) : Prop := ∀ (A A2 : Option Addr) (T : List Int) (cap cap2 : Nat) (t : Ty) (w : World), RDas w w.heap.size A l → RInts w A2 T → St l T (l.length * 4 + 1) 0 0 → TyOK l t → Inh l t → ldep l t ≤ n →
  Calls Try.prog 62 #[.slice A l.length cap, .slice A2 (l.length * 4) cap2, .agg #[.int .i64 t.data, .int .i64 t.index]] w (LvQc l n t w)
theorem lvSc_int (l : List Da) (n : Nat) (A A2 : Option Addr) (cap N cap2 : Nat) (t : Ty) (w : World) (h1 : t.data = -1) :
    Calls Try.prog 62 #[.slice A l.length cap, .slice A2 N cap2, .agg #[.int .i64 t.data, .int .i64 t.index]] w (LvQc l (n + 1) t w) := by
  have HF : Hid (∀ w', Below w.heap.size w w' → LvQc l (n + 1) t w (.returned (.agg #[.int .i64 (-1), .int .i64 0, .slice none 0 0])) w') := fun w' hb => by
    unfold LvQc
    rw [lvA_int h1]
    exact ⟨none, 0, rfl, OVk.nil _ _ _ _, hb⟩
  have q1 := ieq_t h1
  clear h1
  go_enter Try.func62, Try.ntmps62
  go_wp2_with fail
  refine bodyPost_ret (v := .agg #[.int .i64 (-1), .int .i64 0, .slice none 0 0]) (by simp [results, Try.results62, go_sem]) rfl (HF.out _ ?_)
  repeat (refine Below.setCell ?_ (by simp <;> omega) _)
  exact ((Below.refl _ _).alloc (Nat.le_refl _) _).alloc (by simp) _
set_option maxHeartbeats 4000000 in
theorem lvSc_step (l : List Da) (n : Nat) (hw : WorldOK l) (ih : LvSc l n) : LvSc l (n + 1) := by
  intro A A2 T cap cap2 t w hr hT hS ht hi ht5
  by_cases h1 : t.data = -1
  · exact lvSc_int l n A A2 cap _ cap2 t w h1
  obtain ⟨i0, hi0, hz0, hz1, hz2⟩ := info_parts infoOV
  have q1 := ieq_f h1
  have H1 := Lib.hid h1
  have Hr := Lib.hid hr
  have HT := Lib.hid hT
  have HS := Lib.hid hS
  have HK := Lib.hid ht
  have HI := Lib.hid hi
  have IH := Lib.hid ih
  have HW := Lib.hid hw
  have H5 := Lib.hid ht5
  have hl4 := hw.1
  have HIX := Lib.hid (tys_ix (ok_tys ht))
  have hcl := ctR_len l t
  clear h1 hr hT hS ht hi ih hw ht5
  generalize hwx : (w.alloc (.cells #[.int .i64 t.data, .int .i64 t.index] 25)).alloc (.cells #[.int .i64 0, .int .i64 0, .slice none 0 0] 28) = wx
  have hbx := below_box2 hwx
  have HXT : Hid (Bx wx w.heap.size t) := by rw [← hwx]; exact ⟨by simp [go_sem], by simp [go_sem]⟩
  have HXR : Hid (wx.heap[w.heap.size + 1]? = some (.cells #[.int .i64 0, .int .i64 0, .slice none 0 0] 28 (0, 0))) := by
    have h := heap_alloc_new (w.alloc (.cells #[.int .i64 t.data, .int .i64 t.index] 25)) (.cells #[.int .i64 0, .int .i64 0, .slice none 0 0] 28)
    simp only [World.size_alloc] at h
    unfold Hid; rw [← hwx]; exact h
  have HWX := Lib.hid hwx
  clear hwx
  obtain ⟨x0, x1⟩ := HXT.out
  go_enter Try.func62, Try.ntmps62
  go_wp2_with fail
  rw [HWX.out]
  refine (l1Ctors_all A l cap t _ (Hr.out.at_ hbx) HK.out).mono ?_
  rintro e w1 ⟨v1, rfl, ho1, hb1⟩
  obtain ⟨A1, c1, rfl, hr1⟩ := ho1.form (by unfold maxLen; omega)
  have HR1 := Lib.hid hr1
  have HB1 := Lib.hid (below_aft hbx hb1 hbx.size)
  have HX1 := Lib.hid (HXT.out.at_ hb1)
  have HXR1 : Hid (w1.heap[w.heap.size + 1]? = some (.cells #[.int .i64 0, .int .i64 0, .slice none 0 0] 28 (0, 0))) := (hb1.block _ (heap_lt HXR.out)).trans HXR.out
  clear hr1 ho1 hb1 x0 x1
  go_wp2_with fail
  go_loopw [8] (fun i wr => ∃ k : Nat, k ≤ (ctR l t).length ∧ i = .int .i64 k ∧ Hid (NoC l t k) ∧ Below w1.heap.size w1 wr) (fun i _ => (ctR l t).length - (intOf i).toNat)
  case atStart => exact ⟨0, by omega, rfl, NoC.zero l t, Below.refl _ _⟩
  case round =>
    obtain ⟨k, hk, rfl, HN, hb⟩ := hrel
    have hlt : k < (ctR l t).length := HN.out.all HK.out H1.out HI.out
    have hkI : (k : Int) < ((ctR l t).length : Int) := by omega
    obtain ⟨b, off, rfl, hbB, c0⟩ := (HR1.out.at_ hb).2 k hlt
    obtain ⟨x0, x1⟩ := HX1.out.at_ hb
    have HXM : Hid ((ctR l t)[k] ∈ ctR l t) := List.getElem_mem hlt
    have HFD : Hid (mdp l (agR l t (ctR l t)[k]) = ldep l t → fstC l t = some (ctR l t)[k]) := fun h => HN.out.found hlt h
    have HNS : Hid (¬ mdp l (agR l t (ctR l t)[k]) = ldep l t → NoC l t (k + 1)) := fun h => HN.out.step hlt h
    generalize (ctR l t)[k] = x at HXM HFD HNS c0
    have d0 := cell_regrown c0
    have d1 := cell_regrown x0
    have d2 := cell_regrown x1
    have hbw := below_aft HB1.out hb HB1.out.size
    by_cases he : mdp l (agR l t x) = ldep l t
    · have HV : Hid (mostL T (agR l t x) = ldep l t) := (most_mdp HW.out HS.out HXM.out).trans he
      have HFX := Lib.hid (HFD.out he)
      have HE := Lib.hid he
      have qd : (ldep l t != ldep l t) = false := by simp
      clear he
      go_wp2_with fail
      refine wp_region_quiet_below (by kernel_rfl) (by kernel_rfl) ?_
      repeat (quiet_step (first | exact Calls.regrown_of (most_v _ _ l T _ _ _ t x (ldep l t) HV.out HS.out.len HXM.out _ (Hr.out.at_ (below_aft hbw (below_regrown wr _ _) hbw.size)) (HT.out.at_ (below_aft hbw (below_regrown wr _ _) hbw.size)) HS.out.len (HS.out.bd5 hl4) HIX.out) | exact Calls.regrown_of (depth_l _ l T _ _ t HS.out.len _ (HT.out.at_ (below_aft hbw (below_regrown wr _ _) hbw.size)) HW.out HS.out (ok_tys HK.out))))
      refine wpQuiet_nil ?_
      intro w2 hw'
      have hb2 : Below wr.heap.size wr w2 := by obtain ⟨⟨dq, osq⟩, h⟩ := hw'; subst h; exact below_regrown wr dq osq
      have y0 : w2.cell? ⟨b, off + k, none⟩ = some (.int .i64 x) := (hb2.cell (p := ⟨b, off + k, none⟩) hbB).trans c0
      obtain ⟨y1, y2⟩ := (Bx.at_ ⟨x0, x1⟩ hb2 : Bx w2 w.heap.size t)
      clear hw' d0 d1 d2 c0 x0 x1
      have hbw2 := below_aft hbw hb2 hbw.size
      have hb12 := below_aft hb hb2 hb.size
      go_wp2_with fail
      generalize hw3 : w2.alloc (.cells #[.int .i64 x, .int .i64 0, .slice none 0 0] 28) = w3
      have hb3 : Below w2.heap.size w2 w3 := by rw [← hw3]; exact (Below.refl _ _).alloc (Nat.le_refl _) _
      have HG3 : Hid (w3.heap[w2.heap.size]? = some (.cells #[.int .i64 x, .int .i64 0, .slice none 0 0] 28 (0, 0))) := by unfold Hid; rw [← hw3]; exact heap_alloc_new _ _
      have HW3 := Lib.hid hw3
      clear hw3
      have z0 : w3.cell? ⟨b, off + k, none⟩ = some (.int .i64 x) := (hb3.cell (p := ⟨b, off + k, none⟩) (Go.block_lt_of_cell y0)).trans y0
      obtain ⟨z1, z2⟩ := (Bx.at_ ⟨y1, y2⟩ hb3 : Bx w3 w.heap.size t)
      have hbw3 := below_aft hbw2 hb3 hbw2.size
      have hb13 := below_aft hb12 hb3 hb12.size
      clear y0 y1 y2
      go_region_held3 (fun w' => w'.cell? ⟨b, off + k, none⟩ = some (.int .i64 x) ∧ w'.cell? ⟨w.heap.size, 0, none⟩ = some (.int .i64 t.data) ∧ w'.cell? ⟨w.heap.size, 1, none⟩ = some (.int .i64 t.index)) (first | exact ⟨z0, z1, z2⟩ | exact S4.out | go_keep) (first | (go_at_call 100; refine (l1Args_all _ l _ t x _ (by exact Hr.out.at_ hbw3.drew) HXM.out).mono ?_; rintro e w4 ⟨v4, rfl, ho4, hb4'⟩; have hb4 : Below w3.heap.size w3 w4 := ⟨hb4'.os, hb4'.tape, hb4'.output, hb4'.size, hb4'.block⟩; obtain ⟨A3, c3, rfl, hr4⟩ := ho4.form (by have := agR_len l t x; unfold maxLen; omega); have HR4 := Lib.hid hr4; have HA3 : Hid (∀ b o, A3 = some ⟨b, o, none⟩ → w3.heap.size ≤ b ∧ b < w4.heap.size) := (by obtain ⟨_, hro, _⟩ := ho4; obtain ⟨_, _, _, hob⟩ := own_form hro; exact fun b o e => by subst e; exact hob b rfl); have S4 : Hid (w4.cell? ⟨b, off + k, none⟩ = some (.int .i64 x) ∧ w4.cell? ⟨w.heap.size, 0, none⟩ = some (.int .i64 t.data) ∧ w4.cell? ⟨w.heap.size, 1, none⟩ = some (.int .i64 t.index)) := ⟨(hb4.cell (p := ⟨b, off + k, none⟩) (Go.block_lt_of_cell z0)).trans z0, Bx.at_ ⟨z1, z2⟩ hb4⟩; clear ho4 hr4 hb4'))
      clear z0 z1 z2
      have HG4 : Hid (w4.heap[w2.heap.size]? = some (.cells #[.int .i64 x, .int .i64 0, .slice none 0 0] 28 (0, 0))) := (hb4.block _ (heap_lt HG3.out)).trans HG3.out
      have hbw4 := below_aft hbw3 hb4 hbw3.size
      have hb14 := below_aft hb13 hb4 hb13.size
      have hats := agR_len l t x
      have HAK : Hid (∀ j (h : j < (agR l t x).length), TyOK l (agR l t x)[j] ∧ Inh l (agR l t x)[j] ∧ ldep l (agR l t x)[j] ≤ n) := fun j h => by
        have hp := ldep_yes HI.out
        have he := HE.out
        have h5 := H5.out
        obtain ⟨i1, i2⟩ := mdp_pos (l := l) (L := agR l t x) (by omega) _ (List.getElem_mem h)
        exact ⟨agR_ok HXM.out _ (List.getElem_mem h), i1, by omega⟩
      have HLV : Hid (lvA l (n + 1) t = .mk x 0 ((agR l t x).map (lvA l n))) := lvA_data H1.out HFX.out
      generalize agR l t x = ats at HAK HLV hats HR4
      have hsz2 : w.heap.size + 1 < w2.heap.size := by have := heap_lt HXR1.out; have := hb12.size; omega
      have hsz4 : w2.heap.size < w4.heap.size := heap_lt HG4.out
      generalize hg : w2.heap.size = g at hsz2 hsz4 HG4
      have HA3 : Hid (∀ b o, A3 = some ⟨b, o, none⟩ → g < b ∧ b < w4.heap.size) := fun b o e => by obtain ⟨h1, h2⟩ := HA3.out b o e; have := hb3.size; have h3 := heap_lt HG3.out; exact ⟨by omega, h2⟩
      generalize w4 = wl at *
      go_wp2_with fail
      go_loopw [11] (fun i wr => ∃ k : Nat, k ≤ ats.length ∧ i = .int .i64 k ∧ Hid (BldVc n wl wr g x 0 (ats.map (lvA l n)) k)) (fun i _ => ats.length - (intOf i).toNat)
      case atStart => exact ⟨0, by omega, rfl, BldVc.zero HG4.out⟩
      case round =>
        clear hb hb2 hb3 hbw hbw2 hbw3 hb12 hb13 hkI hlt
        obtain ⟨k, hk, rfl, HBd⟩ := hrel
        by_cases hlt : k < ats.length
        · have hkI : (k : Int) < (ats.length : Int) := by omega
          obtain ⟨hgl, hf, Ak, ck, ys, Q, hgc, hown, hrow⟩ := HBd.out
          obtain ⟨b3, o3, rfl, hb3B, p0, p1⟩ := HR4.out.2 k hlt
          obtain ⟨hgb, hbl⟩ := HA3.out b3 o3 rfl
          have hwr := hf.size
          have hbe : wr.heap[b3]? = wl.heap[b3]? := hf.2.2.2.2 b3 hb3B (by omega)
          have p0' := (World.cell?_of_block (a := ⟨b3, o3 + k * 2, none⟩) hbe).trans p0
          have p1' := (World.cell?_of_block (a := ⟨b3, o3 + k * 2 + 1, none⟩) hbe).trans p1
          have hbwr : Below w.heap.size w wr := hbw4.trans (hf.to (by have := hbw4.size; omega) (fun b h => by omega))
          obtain ⟨_, _, _, hob⟩ := own_form hown
          have HGL := Lib.hid hgl
          have HFR := Lib.hid hf
          have HGC := Lib.hid hgc
          have HOW := Lib.hid hown
          have HRW := Lib.hid hrow
          have c2x : wr.cell? ⟨g, 2, none⟩ = some (.slice Ak k ck) := (cell_of_blk hgc 2).trans rfl
          have HKP : Hid (∀ w2, Below wr.heap.size wr w2 → w2.cell? ⟨g, 2, none⟩ = some (.slice Ak k ck) ∧ w2.cell? ⟨b3, o3 + k * 2, none⟩ = some (.int .i64 ats[k].data) ∧ w2.cell? ⟨b3, o3 + k * 2 + 1, none⟩ = some (.int .i64 ats[k].index)) := fun w2 h => ⟨(h.cell (p := ⟨g, 2, none⟩) (Go.block_lt_of_cell c2x)).trans c2x, (h.cell (p := ⟨b3, o3 + k * 2, none⟩) (Go.block_lt_of_cell p0')).trans p0', (h.cell (p := ⟨b3, o3 + k * 2 + 1, none⟩) (Go.block_lt_of_cell p1')).trans p1'⟩
          have HKB : Hid (∀ (w2 : World) (o : Obj), Below wr.heap.size wr w2 → ∀ b, (Value.slice Ak k ck).ownBlock = some b → (w2.alloc o).heap[b]? = wr.heap[b]?) := fun w2 o h b e => by
            have := (hob b e).2
            rw [Below.heap_alloc _ _ _ (Nat.lt_of_lt_of_le this h.size), h.block b this]
          have HKC : Hid (∀ (w2 w4 : World) (o : Obj), Below wr.heap.size wr w2 → (w2.alloc o).grownBy w4 (Value.slice Ak k ck).ownBlock → w4.cell? ⟨b3, o3 + k * 2, none⟩ = some (.int .i64 ats[k].data) ∧ w4.cell? ⟨b3, o3 + k * 2 + 1, none⟩ = some (.int .i64 ats[k].index)) := fun w2 w4 o h hg => by
            have hlw : b3 < w2.heap.size := by have := h.size; omega
            have e : w4.heap[b3]? = wr.heap[b3]? := by
              rw [hg.block b3 (by simp; omega) (fun e => by have := (hob b3 e.symm).1; omega), Below.heap_alloc _ _ _ hlw, h.block b3 (by omega)]
            exact ⟨(World.cell?_of_block (a := ⟨b3, o3 + k * 2, none⟩) e).trans p0', (World.cell?_of_block (a := ⟨b3, o3 + k * 2 + 1, none⟩) e).trans p1'⟩
          obtain ⟨ha1, ha2, ha3⟩ := HAK.out k hlt
          have HIH : Hid (Calls Try.prog 62 #[.slice A l.length cap, .slice A2 (l.length * 4) cap2, .agg #[.int .i64 ats[k].data, .int .i64 ats[k].index]] wr.drew (LvQc l n ats[k] wr.drew)) := IH.out A A2 T cap cap2 ats[k] wr.drew (Hr.out.at_ hbwr.drew) (HT.out.at_ hbwr.drew) HS.out ha1 ha2 ha3
          have HS0 : Hid (wr.drew.cell? ⟨g, 2, none⟩ = some (.slice Ak k ck) ∧ wr.drew.cell? ⟨b3, o3 + k * 2, none⟩ = some (.int .i64 ats[k].data) ∧ wr.drew.cell? ⟨b3, o3 + k * 2 + 1, none⟩ = some (.int .i64 ats[k].index)) := ⟨c2x, p0', p1'⟩
          clear hgl hf hgc hown hrow hob hbe p0 p1 p0' p1' ha1 ha2 ha3 c2x hbwr hb3B
          go_wp2_with fail
          refine Till.start (S := fun w' => w'.cell? ⟨g, 2, none⟩ = some (.slice Ak k ck) ∧ w'.cell? ⟨b3, o3 + k * 2, none⟩ = some (.int .i64 ats[k].data) ∧ w'.cell? ⟨b3, o3 + k * 2 + 1, none⟩ = some (.int .i64 ats[k].index)) (z := 12) (by kernel_rfl) ?_
          refine Till.take_ (i := 0) (d := some 55) (v := .pointer (some ⟨g, 2, none⟩)) (ls' := #[true, false, false, false, false, false, false, false, false, false, false, false, false]) rfl rfl (by kernel_rfl) (by kernel_rfl) (by kernel_rfl) (by kernel_rfl) (fun _ _ _ h => h) HS0.out (Or.inl ⟨by rfl, fun wq hSw => ?_⟩) (by kernel_rfl) ?_
          · obtain ⟨hs0, hs1, hs2⟩ := hSw
            go_simp
          simp only [Act.put, List.setIfInBounds_toArray, List.set_cons_zero, List.set_cons_succ]
          refine Till.take_ (i := 1) (d := some 56) (v := .slice Ak k ck) (ls' := #[true, true, false, false, false, false, false, false, false, false, false, false, false]) rfl rfl (by kernel_rfl) (by kernel_rfl) (by kernel_rfl) (by kernel_rfl) (fun _ _ _ h => h) HS0.out (Or.inl ⟨by rfl, fun wq hSw => ?_⟩) (by kernel_rfl) ?_
          · obtain ⟨hs0, hs1, hs2⟩ := hSw
            go_simp
          simp only [Act.put, List.setIfInBounds_toArray, List.set_cons_zero, List.set_cons_succ]
          refine Till.take_ (i := 2) (d := some 57) (v := .slice A l.length cap) (ls' := #[true, true, true, false, false, false, false, false, false, false, false, false, false]) rfl rfl (by kernel_rfl) (by kernel_rfl) (by kernel_rfl) (by kernel_rfl) (fun _ _ _ h => h) HS0.out (Or.inl ⟨by rfl, fun wq hSw => ?_⟩) (by kernel_rfl) ?_
          · obtain ⟨hs0, hs1, hs2⟩ := hSw
            go_simp
          simp only [Act.put, List.setIfInBounds_toArray, List.set_cons_zero, List.set_cons_succ]
          refine Till.take_ (i := 3) (d := some 58) (v := .slice A2 (l.length * 4) cap2) (ls' := #[true, true, true, true, false, false, false, false, false, false, false, false, false]) rfl rfl (by kernel_rfl) (by kernel_rfl) (by kernel_rfl) (by kernel_rfl) (fun _ _ _ h => h) HS0.out (Or.inl ⟨by rfl, fun wq hSw => ?_⟩) (by kernel_rfl) ?_
          · obtain ⟨hs0, hs1, hs2⟩ := hSw
            go_simp
          simp only [Act.put, List.setIfInBounds_toArray, List.set_cons_zero, List.set_cons_succ]
          refine Till.take_ (i := 4) (d := some 59) (v := .slice (some ⟨b3, o3, none⟩) ats.length c3) (ls' := #[true, true, true, true, true, false, false, false, false, false, false, false, false]) rfl rfl (by kernel_rfl) (by kernel_rfl) (by kernel_rfl) (by kernel_rfl) (fun _ _ _ h => h) HS0.out (Or.inl ⟨by rfl, fun wq hSw => ?_⟩) (by kernel_rfl) ?_
          · obtain ⟨hs0, hs1, hs2⟩ := hSw
            go_simp
          simp only [Act.put, List.setIfInBounds_toArray, List.set_cons_zero, List.set_cons_succ]
          refine Till.take_ (i := 5) (d := some 60) (v := .int .i64 k) (ls' := #[true, true, true, true, true, true, false, false, false, false, false, false, false]) rfl rfl (by kernel_rfl) (by kernel_rfl) (by kernel_rfl) (by kernel_rfl) (fun _ _ _ h => h) HS0.out (Or.inl ⟨by rfl, fun wq hSw => ?_⟩) (by kernel_rfl) ?_
          · obtain ⟨hs0, hs1, hs2⟩ := hSw
            go_simp
          simp only [Act.put, List.setIfInBounds_toArray, List.set_cons_zero, List.set_cons_succ]
          refine Till.take_ (i := 6) (d := some 61) (v := .pointer (some ⟨b3, o3 + k * 2, none⟩)) (ls' := #[true, true, true, true, true, true, true, false, false, false, false, false, false]) rfl rfl (by kernel_rfl) (by kernel_rfl) (by kernel_rfl) (by kernel_rfl) (fun _ _ _ h => h) HS0.out (Or.inl ⟨by rfl, fun wq hSw => ?_⟩) (by kernel_rfl) ?_
          · obtain ⟨hs0, hs1, hs2⟩ := hSw
            go_simp
          simp only [Act.put, List.setIfInBounds_toArray, List.set_cons_zero, List.set_cons_succ]
          refine Till.take_ (i := 7) (d := some 62) (v := .agg #[.int .i64 ats[k].data, .int .i64 ats[k].index]) (ls' := #[true, true, true, true, true, true, true, true, false, false, false, false, false]) rfl rfl (by kernel_rfl) (by kernel_rfl) (by kernel_rfl) (by kernel_rfl) (fun _ _ _ h => h) HS0.out (Or.inl ⟨by rfl, fun wq hSw => ?_⟩) (by kernel_rfl) ?_
          · obtain ⟨hs0, hs1, hs2⟩ := hSw
            go_simp
          simp only [Act.put, List.setIfInBounds_toArray, List.set_cons_zero, List.set_cons_succ]
          refine Till.all (rs := [8]) (by kernel_rfl) (by decide) (List.forall_mem_cons.2 ⟨?_, fun _ h => nomatch h⟩)
          refine Till.step rfl (by rfl) ?_
          intro K hK
          go_simp
          go_at_call 62
          with_reducible refine (HIH.out).mono ?_
          rintro e w2 ⟨A4, c4, rfl, ho4, hb4'⟩
          have hb4 : Below wr.heap.size wr w2 := ⟨hb4'.os, hb4'.tape, hb4'.output, hb4'.size, hb4'.block⟩
          have HS2 := Lib.hid (HKP.out w2 hb4)
          have HB4 := Lib.hid hb4
          have HO4 : Hid (OVk n w2 (Nw wr w2) A4 c4 ((ats.map (lvA l n))[k]'(by simpa using hlt)).kids) := by unfold Hid; rw [List.getElem_map]; exact ho4
          have hbz : wr.heap.size ≤ w2.heap.size := hb4.size
          clear hb4 hb4' ho4
          go_simp
          refine hK _ _ (fun _ => HS2.out) ?_
          clear hK K
          refine Till.all (rs := [9]) (by kernel_rfl) (by decide) (List.forall_mem_cons.2 ⟨?_, fun _ h => nomatch h⟩)
          refine Till.step rfl (by rfl) ?_
          intro K hK
          go_simp
          refine hK _ _ (fun _ => ⟨by have := HS2.out.1; go_keep, by have := HS2.out.2.1; go_keep, by have := HS2.out.2.2; go_keep⟩) ?_
          clear hK K
          refine Till.all (rs := [10]) (by kernel_rfl) (by decide) (List.forall_mem_cons.2 ⟨?_, fun _ h => nomatch h⟩)
          refine Till.step rfl (by rfl) ?_
          intro K hK
          refine wp_append_own (.tmp 56) (.tmp 64) 26 (by rfl) wl.heap.size 28 i0 (.agg #[.int .i64 0, .int .i64 0, .slice none 0 0]) 3 40 Try.underlying26 hi0 hz0 hz1 hz2 (by rfl) (by decide) (.slice Ak k ck) k ys (by rfl) (own_at HOW.out (HKB.out w2 _ HB4.out)) ⟨w2.heap.size, 0, none⟩ 1 1 [.int .i64 (lvA l n ats[k]).ctor, .int .i64 (lvA l n ats[k]).n, .slice A4 (lvA l n ats[k]).kids.length c4] (by rfl) rfl (cell_three_new _ _ _ _ _) (by intro u hu; simp at hu; rcases hu with rfl | rfl | rfl <;> rfl) (by unfold maxLen; omega) (by omega) (by simp; omega) ?_
          intro v4 w4 hown4 hgr4 hat4
          obtain ⟨A5, c5, rfl, hg4, hbl4⟩ := BldVc.step HGL.out HFR.out HGC.out HOW.out HRW.out (by simpa using hlt) HB4.out HO4.out (by rw [List.getElem_map]; exact hown4) hgr4 hat4
          have HS4 := Lib.hid (And.intro ((cell_of_blk hg4 2).trans rfl) (HKC.out w2 w4 _ HB4.out hgr4))
          have hfz : w4.frozen? ⟨g, 2, none⟩ = false := frozen_of_row w4 g 2 _ 28 hg4
          have c4x := HS4.out.1
          have HBL := Lib.hid hbl4
          clear hown4 hgr4 hat4 hg4 hbl4
          refine hK _ _ (fun _ => HS4.out) ?_
          clear hK K
          refine Till.all (rs := [11]) (by kernel_rfl) (by decide) (List.forall_mem_cons.2 ⟨?_, fun _ h => nomatch h⟩)
          refine Till.step rfl (by rfl) ?_
          intro K hK
          go_simp
          refine hK _ _ (fun _ => HS4.out) ?_
          clear hK K
          refine Till.all (rs := [12]) (by kernel_rfl) (by decide) (List.forall_mem_cons.2 ⟨?_, fun _ h => nomatch h⟩)
          refine Till.step rfl (by rfl) ?_
          intro K hK
          go_simp
          refine hK _ _ (fun h => absurd rfl h) ?_
          clear hK K
          refine Till.done (by kernel_rfl) ?_ _
          clear c4x hfz HS4 HS2
          go_wp2_with fail
          go_roundw
          case rel => exact ⟨k + 1, by omega, by go_num, HBL.out⟩
          case measure => simp [intOf]; omega
        · have hke : k = ats.length := by omega
          obtain ⟨A6, c6, hg6, ho6, hf6⟩ := HBd.out.all (by simpa using hke) (by simp; omega)
          have hr6 : wr.heap[w.heap.size + 1]? = some (.cells #[.int .i64 0, .int .i64 0, .slice none 0 0] 28 (0, 0)) := hf6.block ((hb14.block _ (heap_lt HXR1.out)).trans HXR1.out) (by omega)
          have hF := Lib.hid hf6
          have HO6 := Lib.hid ho6
          have g0 := (cell_of_blk hg6 0).trans rfl
          have g1 := (cell_of_blk hg6 1).trans rfl
          have g2 := (cell_of_blk hg6 2).trans rfl
          have r0 := (cell_of_blk hr6 0).trans rfl
          have r1 := (cell_of_blk hr6 1).trans rfl
          have r2 := (cell_of_blk hr6 2).trans rfl
          have f0 := frozen_of_row wr (w.heap.size + 1) 0 _ 28 hr6
          have f1 := frozen_of_row wr (w.heap.size + 1) 1 _ 28 hr6
          have f2 := frozen_of_row wr (w.heap.size + 1) 2 _ 28 hr6
          have hkI : (ats.length : Int) ≤ (k : Int) := by omega
          clear hke hg6 ho6 hf6
          go_wp2_with fail
          refine bodyPost_ret (v := .agg #[.int .i64 x, .int .i64 0, .slice A6 (ats.map (lvA l n)).length c6]) (by simp [results, Try.results62, go_sem, r0, r1, r2]) rfl ?_
          unfold LvQc
          rw [HLV.out]
          have hs4 := hbw4.size
          refine ⟨A6, c6, rfl, (HO6.out.fr _ (P' := fun b => b = w.heap.size + 1) (((Fr.set (P := fun b => b = w.heap.size + 1) _ _ _ _ rfl).trans (Fr.set _ _ _ _ rfl)).trans (Fr.set _ _ _ _ rfl)) (fun b hq e => by have := hq.1; omega)).wide _ (fun b hq => ⟨by have := hq.1; omega, by have h2 := hq.2; simpa [World.setCell] using h2⟩), ?_⟩
          refine Below.setCell (Below.setCell (Below.setCell (hbw4.trans (hF.out.to hs4 (fun b h => by omega))) ?_ _) ?_ _) ?_ _ <;> simp
    · have HV : Hid (mostL T (agR l t x) = mdp l (agR l t x)) := most_mdp HW.out HS.out HXM.out
      have HNX := Lib.hid (HNS.out he)
      clear HNS HFD
      generalize mdp l (agR l t x) = V at he HV
      have qd : (V != ldep l t) = true := by simpa using he
      clear he
      go_wp2_with fail
      refine wp_region_quiet_below (by kernel_rfl) (by kernel_rfl) ?_
      repeat (quiet_step (first | exact Calls.regrown_of (most_v _ _ l T _ _ _ t x V HV.out HS.out.len HXM.out _ (Hr.out.at_ (below_aft hbw (below_regrown wr _ _) hbw.size)) (HT.out.at_ (below_aft hbw (below_regrown wr _ _) hbw.size)) HS.out.len (HS.out.bd5 hl4) HIX.out) | exact Calls.regrown_of (depth_l _ l T _ _ t HS.out.len _ (HT.out.at_ (below_aft hbw (below_regrown wr _ _) hbw.size)) HW.out HS.out (ok_tys HK.out))))
      refine wpQuiet_nil ?_
      intro w2 hw'
      have hb2 : Below wr.heap.size wr w2 := by obtain ⟨⟨dq, osq⟩, h⟩ := hw'; subst h; exact below_regrown wr dq osq
      have hb12 := below_aft hb hb2 hb.size
      clear hw' d0 d1 d2 c0 x0 x1
      go_wp2_with fail
      go_roundw
      case rel => exact ⟨k + 1, by omega, by go_num, HNX.out, hb12⟩
      case measure => simp [intOf]; omega
end Go.Proofs.Yteoopmogklpnoaa
