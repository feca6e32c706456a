/-
  A value of which only some parts are kept: plain mathematics, and the document's function. No statement is proved here.
-/
import Derived.Test.YtnfjjabeobcenaaU10
import Derived.Test.YtnfjjabeobcenaaU07
import Derived.Test.YtnfjjabeobcenaaU12
import Derived.Deep.RegionHeld3
namespace Go.Proofs.Ytnfjjabeobcenaa
open Go.RowKit Go.Sort Go.Deep
set_option maxRecDepth 100000
set_option linter.unusedVariables false
noncomputable def msV : Nat → List (List Int) → List Int → Vl → Vl
  | 0, _, _, _ => .mk (-2) 0 []
  | d + 1, ps, p, v => if p ∈ ps then .mk v.ctor v.n ((List.range v.kids.length).map (fun (i : Nat) => msV d ps (p ++ [(i : Int)]) (v.kids.getD i default))) else .mk (-2) 0 []
section
variable {d : Nat} {ps : List (List Int)} {p : List Int} {v : Vl}
theorem ms_no (h : ¬ p ∈ ps) : msV (d + 1) ps p v = .mk (-2) 0 [] := if_neg h
theorem ms_yes (h : p ∈ ps) : (msV (d + 1) ps p v).ctor = v.ctor ∧ (msV (d + 1) ps p v).n = v.n ∧ (msV (d + 1) ps p v).kids.length = v.kids.length ∧ ∀ k (h' : k < v.kids.length) (h : k < (msV (d + 1) ps p v).kids.length), (msV (d + 1) ps p v).kids[k] = msV d ps (p ++ [(k : Int)]) v.kids[k] := by
  have e : msV (d + 1) ps p v = .mk v.ctor v.n ((List.range v.kids.length).map (fun (i : Nat) => msV d ps (p ++ [(i : Int)]) (v.kids.getD i default))) := if_pos h
  have hk : (msV (d + 1) ps p v).kids = (List.range v.kids.length).map (fun (i : Nat) => msV d ps (p ++ [(i : Int)]) (v.kids.getD i default)) := by rw [e]; rfl
  refine ⟨by rw [e]; rfl, by rw [e]; rfl, by rw [hk]; simp, fun k h' h2 => ?_⟩
  simp only [hk, List.getElem_map, List.getElem_range]
  rw [List.getD_eq_getElem?_getD, List.getElem?_eq_getElem h']; rfl
theorem ms_w : ∀ (d : Nat) (ps : List (List Int)) (p : List Int) (v : Vl), wV (msV d ps p v) ≤ wV v
  | 0, _, _, v => by show wV (.mk (-2) 0 []) ≤ _; rw [wV, wVs]; omega
  | d + 1, ps, p, v => by
    by_cases h : p ∈ ps
    · obtain ⟨_, _, h3, h4⟩ := ms_yes (d := d) (v := v) h
      rw [wV_kids, wV_kids v, wVs_sum, wVs_sum, h3]
      have key : ∀ n, n ≤ v.kids.length → (((msV (d + 1) ps p v).kids.take n).map wV).sum ≤ ((v.kids.take n).map wV).sum := fun n => by
        induction n with
        | zero => intro _; simp
        | succ n ih =>
          intro hn
          rw [sum_take_succ wV _ n (by omega), sum_take_succ wV _ n (by omega), h4 n (by omega) (by omega)]
          have := ih (by omega)
          have := ms_w d ps (p ++ [(n : Int)]) (v.kids[n])
          omega
      have := key v.kids.length (Nat.le_refl _)
      rw [List.take_length, ← h3, List.take_length] at this
      omega
    · rw [ms_no h]; show wV (.mk (-2) 0 []) ≤ _; rw [wV, wVs]; omega
end
/-- What is returned: a value in blocks of its own. -/
def MkQ (d : Nat) (v : Vl) (w : World) (e : Ending) (w' : World) : Prop := ∃ B c, e = .returned (.agg #[.int .i64 v.ctor, .int .i64 v.n, .slice B v.kids.length c]) ∧ OVs (d + 1) w' (Nw w w') B v.kids ∧ Below w.heap.size w w'
theorem cell_three_nm (w : World) (x y z : Value) (t : TypeId) : ∀ j u, [x, y, z][j]? = some u → (w.alloc (.cells #[x, y, z] t)).cell? ((⟨w.heap.size, 0, none⟩ : Addr).add j) = some u := by
  intro j u hj
  rcases j with _ | _ | _ | j
  · simp at hj; subst hj; simp [go_sem, Addr.add]
  · simp at hj; subst hj; simp [go_sem, Addr.add]
  · simp at hj; subst hj; simp [go_sem, Addr.add]
  · simp at hj
/-- What is asked of a function that masks. -/
def MsS (d : Nat) : Prop := ∀ (D A E : Option Addr) (ep ca ce : Nat) (v : Vl) (ps : List (List Int)) (p : List Int) (w : World), RVs d w w.heap.size D v.kids → RIss w w.heap.size A ps → RIs w w.heap.size E p → wV v ≤ 1048576 → p.length + wV v ≤ 3000000 →
  Calls Try.prog 44 #[.agg #[.int .i64 v.ctor, .int .i64 v.n, .slice D v.kids.length ep], .slice A ps.length ca, .slice E p.length ce] w (MkQ d (msV (d + 1) ps p v) w)
set_option maxHeartbeats 4000000 in
theorem msS_of (d : Nat) (ih : ∀ d', d = d' + 1 → MsS d') : MsS d := by
  intro D A E ep ca ce v ps p w hv hps hpp hn hpn
  obtain ⟨i0, hi0, hz0, hz1, hz2⟩ := info_parts infoOV
  have hl := hv.1
  unfold maxLen at hl
  have HV := Lib.hid hv
  have IH := Lib.hid ih
  have hkl : v.kids.length ≤ 1048576 := by have h2 := wV_kids v; have h3 := wVs_sum v.kids; omega
  have HPS := Lib.hid hps
  have HPP := Lib.hid hpp
  clear hv ih hps hpp
  generalize hwx : (w.alloc (.cells #[.int .i64 v.ctor, .int .i64 v.n, .slice D v.kids.length ep] 37)).alloc (.cells #[.int .i64 0, .int .i64 0, .slice none 0 0] 37) = wx
  have hbx : Below w.heap.size w wx := by rw [← hwx]; exact ((Below.refl _ _).alloc (Nat.le_refl _) _).alloc (by simp) _
  have HXV : Hid (VBx wx w.heap.size v.ctor v.n (.slice D v.kids.length ep)) := by rw [← hwx]; exact ⟨by simp [go_sem], by simp [go_sem], by simp [go_sem]⟩
  have HXR : Hid (ZbV wx (w.heap.size + 1)) := by
    have h := ZbV.new (w.alloc (.cells #[.int .i64 v.ctor, .int .i64 v.n, .slice D v.kids.length ep] 37))
    simp only [World.size_alloc] at h
    unfold Hid; rw [← hwx]; exact h
  have hsx : wx.heap.size = w.heap.size + 2 := by rw [← hwx]; simp
  have HWX := Lib.hid hwx
  clear hwx
  have HSZ := Lib.hid hsx
  obtain ⟨x0, x1, x2⟩ := HXV.out
  by_cases hin : p ∈ ps
  case neg =>
    have HF := Lib.hid (dec_f hin)
    have HM := Lib.hid (ms_no (d := d) (v := v) hin)
    clear hin x0 x1 x2
    go_enter Try.func44, Try.ntmps44
    go_wp2_with (go_at_call 64; rw [HWX.out]; refine (hasP_spec _ _ _ _ _ _ _ (HPS.out.at_ hbx) (HPP.out.at_ hbx)).mono ?_; rw [HF.out]; rintro e1 w1 ⟨rfl, hb1⟩; have hb1w := below_aft hbx hb1 hbx.size; have hr6 : w1.heap[w.heap.size + 1]? = some (.cells #[.int .i64 0, .int .i64 0, .slice none 0 0] 37 (0, 0)) := HXR.out.at_ hb1; have r0 := (cell_of_blk hr6 0).trans rfl; have r1 := (cell_of_blk hr6 1).trans rfl; have r2 := (cell_of_blk hr6 2).trans rfl; have f0 := frozen_of_row w1 (w.heap.size + 1) 0 _ 37 hr6; have f1 := frozen_of_row w1 (w.heap.size + 1) 1 _ 37 hr6; have f2 := frozen_of_row w1 (w.heap.size + 1) 2 _ 37 hr6; clear hr6)
    refine bodyPost_ret (v := .agg #[.int .i64 (-2), .int .i64 0, .slice none 0 0]) (by simp [results, Try.results44, go_sem, r0, r1, r2]) rfl ?_
    unfold MkQ
    rw [HM.out]
    refine ⟨none, 0, rfl, OVs.nil _ _ _ _, ?_⟩
    refine Below.setCell (Below.setCell (Below.setCell hb1w ?_ _) ?_ _) ?_ _ <;> (simp <;> omega)
  have HF := Lib.hid (dec_t hin)
  obtain ⟨hm0, hm1, hm2, hm3⟩ := ms_yes (d := d) (v := v) hin
  have HM0 := Lib.hid hm0
  have HM1 := Lib.hid hm1
  generalize hLk : (msV (d + 1) ps p v).kids = L at hm2 hm3
  have HLK := Lib.hid hLk
  have HM2 := Lib.hid hm2
  have HM3 := Lib.hid hm3
  have hLl : L.length ≤ 1048576 := by omega
  clear hin hm0 hm1 hm2 hm3 hLk
  go_enter Try.func44, Try.ntmps44
  clear x0 x1 x2
  go_wp2_with (go_at_call 64; rw [HWX.out]; refine (hasP_spec _ _ _ _ _ _ _ (HPS.out.at_ hbx) (HPP.out.at_ hbx)).mono ?_; rw [HF.out]; rintro e1 w1 ⟨rfl, hb1⟩; have hb1w := below_aft hbx hb1 hbx.size; obtain ⟨x0, x1, x2⟩ := HXV.out.at_ hb1)
  have hg1 := hb1.size
  generalize hwl : w1.alloc (.cells #[.int .i64 v.ctor, .int .i64 v.n, .slice none 0 0] 37) = wl
  have hbl : Below w1.heap.size w1 wl := by rw [← hwl]; exact (Below.refl _ _).alloc (Nat.le_refl _) _
  have HG : Hid (wl.heap[w1.heap.size]? = some (.cells #[.int .i64 v.ctor, .int .i64 v.n, .slice none 0 0] 37 (0, 0))) := by unfold Hid; rw [← hwl]; exact heap_alloc_new _ _
  have HXV1 := Lib.hid ((HXV.out.at_ hb1).at_ hbl)
  have HXR1 : Hid (ZbV wl (w.heap.size + 1)) := ZbV.at_ (ZbV.at_ HXR.out hb1) hbl
  have hbwl := below_aft hb1w hbl hb1w.size
  have hsl : w1.heap.size < wl.heap.size := heap_lt HG.out
  have hq0 : w.heap.size + 2 ≤ w1.heap.size := by have := HSZ.out; omega
  clear hwl hbl x0 x1 x2 hb1
  obtain ⟨x0, x1, x2⟩ := HXV1.out
  generalize w1.heap.size = g at *
  go_loopw [8] (fun i wr => ∃ k : Nat, k ≤ v.kids.length ∧ i = .int .i64 k ∧ Hid (BldV d wl wr g v.ctor v.n L k)) (fun i _ => v.kids.length - (intOf i).toNat)
  case atStart => exact ⟨0, by omega, rfl, BldV.zero HG.out⟩
  case round =>
    clear x0 x1 x2
    obtain ⟨k, hk, rfl, HBd⟩ := hrel
    have hfr := HBd.out.2.1
    have hwr := hfr.size
    have hbw0 : Below w.heap.size w wr := hbwl.trans (hfr.to hbwl.size (fun b h => by omega))
    have hvx : wr.heap[w.heap.size]? = wl.heap[w.heap.size]? := hfr.2.2.2.2 _ (by omega) (by omega)
    have y2 := (World.cell?_of_block (a := ⟨w.heap.size, 2, none⟩) hvx).trans HXV1.out.2.2
    by_cases hlt : k < v.kids.length
    · have hkI : (k : Int) < (v.kids.length : Int) := by omega
      obtain ⟨b, off, rfl, hbB, hvk⟩ := (HV.out.below hbw0 (Nat.le_refl _)).2 k hlt
      obtain ⟨d', hd, A', cp, p0, p1, p2, hm⟩ := hvk.parts
      obtain ⟨hgl, hf, Ak, ck, ys, Q, hgc, hown, hrow⟩ := HBd.out
      obtain ⟨_, _, _, hob⟩ := own_form hown
      have HGL := Lib.hid hgl
      have HFR := Lib.hid hf
      have HGC := Lib.hid hgc
      have HOW := Lib.hid hown
      have HRW := Lib.hid hrow
      have c2x : wr.cell? ⟨g, 2, none⟩ = some (.slice Ak k ck) := (cell_of_blk hgc 2).trans rfl
      have hbwl' : b < wl.heap.size := by have := hbwl.size; omega
      have HKP : Hid (∀ w2, Below wr.heap.size wr w2 → w2.cell? ⟨g, 2, none⟩ = some (.slice Ak k ck) ∧ w2.cell? ⟨w.heap.size, 2, none⟩ = some (.slice (some ⟨b, off, none⟩) v.kids.length ep) ∧ w2.cell? ⟨b, off + k * 3, none⟩ = some (.int .i64 v.kids[k].ctor) ∧ w2.cell? ⟨b, off + k * 3 + 1, none⟩ = some (.int .i64 v.kids[k].n) ∧ w2.cell? ⟨b, off + k * 3 + 2, none⟩ = some (.slice A' v.kids[k].kids.length cp)) := fun w2 h => ⟨(h.cell (p := ⟨g, 2, none⟩) (Go.block_lt_of_cell c2x)).trans c2x, (h.cell (p := ⟨w.heap.size, 2, none⟩) (Go.block_lt_of_cell y2)).trans y2, (h.cell (p := ⟨b, off + k * 3, none⟩) (Go.block_lt_of_cell p0)).trans p0, (h.cell (p := ⟨b, off + k * 3 + 1, none⟩) (Go.block_lt_of_cell p1)).trans p1, (h.cell (p := ⟨b, off + k * 3 + 2, none⟩) (Go.block_lt_of_cell p2)).trans p2⟩
      have HKB : Hid (∀ (w2 : World) (o : Obj), Below wr.heap.size wr w2 → ∀ b, (Value.slice Ak k ck).ownBlock = some b → (w2.alloc o).heap[b]? = wr.heap[b]?) := fun w2 o h b e => by
        have := (hob b e).2
        rw [Below.heap_alloc _ _ _ (Nat.lt_of_lt_of_le this h.size), h.block b this]
      have HKC : Hid (∀ (w2 w4 : World) (o : Obj), Below wr.heap.size wr w2 → (w2.alloc o).grownBy w4 (Value.slice Ak k ck).ownBlock → w4.cell? ⟨w.heap.size, 2, none⟩ = some (.slice (some ⟨b, off, none⟩) v.kids.length ep) ∧ w4.cell? ⟨b, off + k * 3, none⟩ = some (.int .i64 v.kids[k].ctor) ∧ w4.cell? ⟨b, off + k * 3 + 1, none⟩ = some (.int .i64 v.kids[k].n) ∧ w4.cell? ⟨b, off + k * 3 + 2, none⟩ = some (.slice A' v.kids[k].kids.length cp)) := fun w2 w4 o h hg => by
        have key : ∀ q, q < wl.heap.size → w4.heap[q]? = wr.heap[q]? := fun q hq => by
          have hlw : q < w2.heap.size := by have := h.size; omega
          rw [hg.block q (by simp; omega) (fun e => by have := (hob q e.symm).1; omega), Below.heap_alloc _ _ _ hlw, h.block q (by omega)]
        have kw := key w.heap.size (by omega)
        have kb := key b hbwl'
        exact ⟨(World.cell?_of_block (a := ⟨w.heap.size, 2, none⟩) kw).trans y2, (World.cell?_of_block (a := ⟨b, off + k * 3, none⟩) kb).trans p0, (World.cell?_of_block (a := ⟨b, off + k * 3 + 1, none⟩) kb).trans p1, (World.cell?_of_block (a := ⟨b, off + k * 3 + 2, none⟩) kb).trans p2⟩
      have hwk : wV v.kids[k] ≤ 1048576 := by have := wV_kid v k hlt; omega
      have hwk2 : 1 + wV v.kids[k] ≤ wV v := by
        have h1 := upK_le v (k + 1) (by omega)
        rw [upK_succ _ _ hlt] at h1
        unfold upK at h1; omega
      have hkL : k < L.length := by rw [HM2.out]; exact hlt
      have HLk : Hid (L[k] = msV d ps (p ++ [(k : Int)]) v.kids[k]) := HM3.out k hlt hkL
      have HED : Hid (d = d' + 1) := hd
      have HRP : Hid (RIs wr wr.heap.size E p) := HPP.out.at_ hbw0
      have HRS : Hid (∀ w2, Below wr.heap.size wr w2 → RIss w2 w2.heap.size A ps) := fun w2 h => (HPS.out.at_ hbw0).at_ h
      have hppn : p.length ≤ 4000000 := by omega
      have hpk2 : (p ++ [(k : Int)]).length + wV v.kids[k] ≤ 3000000 := by simp; omega
      have HIL : Hid (Calls Try.prog 65 #[.slice E p.length ce, .int .i64 k] wr.drew (fun e w' => ∃ A' c', e = .returned (.slice A' (p.length + 1) c') ∧ RIs w' w'.heap.size A' (p ++ [(k : Int)]) ∧ Below wr.drew.heap.size wr.drew w')) := l7Path_any E p ce k wr.drew HRP.out hppn
      have HIH : Hid (∀ (w2 : World) (E2 : Option Addr) (c2 : Nat), Below wr.heap.size wr w2 → RIs w2 w2.heap.size E2 (p ++ [(k : Int)]) → Calls Try.prog 44 #[.agg #[.int .i64 v.kids[k].ctor, .int .i64 v.kids[k].n, .slice A' v.kids[k].kids.length cp], .slice A ps.length ca, .slice E2 (p.length + 1) c2] w2 (MkQ d' L[k] w2)) := fun w2 E2 c2 hw2 hE2 => by
        have h := IH.out d' hd A' A E2 cp ca c2 v.kids[k] ps (p ++ [(k : Int)]) w2 (hm.keep (fun q hq => hw2.cell (p := q) (Nat.lt_of_lt_of_le hq hbw0.size)) (Nat.le_trans hbw0.size hw2.size)) (HRS.out w2 hw2) hE2 hwk hpk2
        rw [HLk.out, HED.out]
        rw [show (p ++ [(k : Int)]).length = p.length + 1 by simp] at h
        exact h
      have HS0 : Hid (wr.drew.cell? ⟨g, 2, none⟩ = some (.slice Ak k ck) ∧ wr.drew.cell? ⟨w.heap.size, 2, none⟩ = some (.slice (some ⟨b, off, none⟩) v.kids.length ep) ∧ wr.drew.cell? ⟨b, off + k * 3, none⟩ = some (.int .i64 v.kids[k].ctor) ∧ wr.drew.cell? ⟨b, off + k * 3 + 1, none⟩ = some (.int .i64 v.kids[k].n) ∧ wr.drew.cell? ⟨b, off + k * 3 + 2, none⟩ = some (.slice A' v.kids[k].kids.length cp)) := ⟨c2x, y2, p0, p1, p2⟩
      clear hgl hf hgc hown hrow hob c2x hbB hfr hvk hm hd hvx hbw0 p0 p1 p2 hpk2 hwk2
      go_wp2_with fail
      clear y2
      refine Till.start (S := fun w' => w'.cell? ⟨g, 2, none⟩ = some (.slice Ak k ck) ∧ w'.cell? ⟨w.heap.size, 2, none⟩ = some (.slice (some ⟨b, off, none⟩) v.kids.length ep) ∧ w'.cell? ⟨b, off + k * 3, none⟩ = some (.int .i64 v.kids[k].ctor) ∧ w'.cell? ⟨b, off + k * 3 + 1, none⟩ = some (.int .i64 v.kids[k].n) ∧ w'.cell? ⟨b, off + k * 3 + 2, none⟩ = some (.slice A' v.kids[k].kids.length cp)) (z := 15) (by kernel_rfl) ?_
      refine Till.take_ (i := 0) (d := some 26) (v := .pointer (some ⟨g, 2, none⟩)) (ls' := #[true, false, false, false, false, false, false, false, false, false, false, false, false, false, false, false]) rfl rfl (by kernel_rfl) (by kernel_rfl) (by kernel_rfl) (by kernel_rfl) (fun _ _ _ h => h) HS0.out (Or.inl ⟨by rfl, fun wq hSw => ?_⟩) (by kernel_rfl) ?_
      · obtain ⟨hs0, hs1, hs2, hs3, hs4⟩ := hSw
        go_simp
      simp only [Act.put, List.setIfInBounds_toArray, List.set_cons_zero, List.set_cons_succ]
      refine Till.take_ (i := 1) (d := some 27) (v := .slice Ak k ck) (ls' := #[true, true, false, false, false, false, false, false, false, false, false, false, false, false, false, false]) rfl rfl (by kernel_rfl) (by kernel_rfl) (by kernel_rfl) (by kernel_rfl) (fun _ _ _ h => h) HS0.out (Or.inl ⟨by rfl, fun wq hSw => ?_⟩) (by kernel_rfl) ?_
      · obtain ⟨hs0, hs1, hs2, hs3, hs4⟩ := hSw
        go_simp
      simp only [Act.put, List.setIfInBounds_toArray, List.set_cons_zero, List.set_cons_succ]
      refine Till.take_ (i := 2) (d := some 28) (v := .pointer (some ⟨w.heap.size, 2, none⟩)) (ls' := #[true, true, true, false, false, false, false, false, false, false, false, false, false, false, false, false]) rfl rfl (by kernel_rfl) (by kernel_rfl) (by kernel_rfl) (by kernel_rfl) (fun _ _ _ h => h) HS0.out (Or.inl ⟨by rfl, fun wq hSw => ?_⟩) (by kernel_rfl) ?_
      · obtain ⟨hs0, hs1, hs2, hs3, hs4⟩ := hSw
        go_simp
      simp only [Act.put, List.setIfInBounds_toArray, List.set_cons_zero, List.set_cons_succ]
      refine Till.take_ (i := 3) (d := some 29) (v := .slice (some ⟨b, off, none⟩) v.kids.length ep) (ls' := #[true, true, true, true, false, false, false, false, false, false, false, false, false, false, false, false]) rfl rfl (by kernel_rfl) (by kernel_rfl) (by kernel_rfl) (by kernel_rfl) (fun _ _ _ h => h) HS0.out (Or.inl ⟨by rfl, fun wq hSw => ?_⟩) (by kernel_rfl) ?_
      · obtain ⟨hs0, hs1, hs2, hs3, hs4⟩ := hSw
        go_simp
      simp only [Act.put, List.setIfInBounds_toArray, List.set_cons_zero, List.set_cons_succ]
      refine Till.take_ (i := 4) (d := some 30) (v := .int .i64 k) (ls' := #[true, true, true, true, true, false, false, false, false, false, false, false, false, false, false, false]) rfl rfl (by kernel_rfl) (by kernel_rfl) (by kernel_rfl) (by kernel_rfl) (fun _ _ _ h => h) HS0.out (Or.inl ⟨by rfl, fun wq hSw => ?_⟩) (by kernel_rfl) ?_
      · obtain ⟨hs0, hs1, hs2, hs3, hs4⟩ := hSw
        go_simp
      simp only [Act.put, List.setIfInBounds_toArray, List.set_cons_zero, List.set_cons_succ]
      refine Till.take_ (i := 5) (d := some 31) (v := .pointer (some ⟨b, off + k * 3, none⟩)) (ls' := #[true, true, true, true, true, true, false, false, false, false, false, false, false, false, false, false]) rfl rfl (by kernel_rfl) (by kernel_rfl) (by kernel_rfl) (by kernel_rfl) (fun _ _ _ h => h) HS0.out (Or.inl ⟨by rfl, fun wq hSw => ?_⟩) (by kernel_rfl) ?_
      · obtain ⟨hs0, hs1, hs2, hs3, hs4⟩ := hSw
        go_simp
      simp only [Act.put, List.setIfInBounds_toArray, List.set_cons_zero, List.set_cons_succ]
      refine Till.take_ (i := 6) (d := some 32) (v := .agg #[.int .i64 v.kids[k].ctor, .int .i64 v.kids[k].n, .slice A' v.kids[k].kids.length cp]) (ls' := #[true, true, true, true, true, true, true, false, false, false, false, false, false, false, false, false]) rfl rfl (by kernel_rfl) (by kernel_rfl) (by kernel_rfl) (by kernel_rfl) (fun _ _ _ h => h) HS0.out (Or.inl ⟨by rfl, fun wq hSw => ?_⟩) (by kernel_rfl) ?_
      · obtain ⟨hs0, hs1, hs2, hs3, hs4⟩ := hSw
        go_simp
      simp only [Act.put, List.setIfInBounds_toArray, List.set_cons_zero, List.set_cons_succ]
      refine Till.take_ (i := 7) (d := some 33) (v := .slice A ps.length ca) (ls' := #[true, true, true, true, true, true, true, true, false, false, false, false, false, false, false, false]) rfl rfl (by kernel_rfl) (by kernel_rfl) (by kernel_rfl) (by kernel_rfl) (fun _ _ _ h => h) HS0.out (Or.inl ⟨by rfl, fun wq hSw => ?_⟩) (by kernel_rfl) ?_
      · obtain ⟨hs0, hs1, hs2, hs3, hs4⟩ := hSw
        go_simp
      simp only [Act.put, List.setIfInBounds_toArray, List.set_cons_zero, List.set_cons_succ]
      refine Till.take_ (i := 8) (d := some 34) (v := .slice E p.length ce) (ls' := #[true, true, true, true, true, true, true, true, true, false, false, false, false, false, false, false]) rfl rfl (by kernel_rfl) (by kernel_rfl) (by kernel_rfl) (by kernel_rfl) (fun _ _ _ h => h) HS0.out (Or.inl ⟨by rfl, fun wq hSw => ?_⟩) (by kernel_rfl) ?_
      · obtain ⟨hs0, hs1, hs2, hs3, hs4⟩ := hSw
        go_simp
      simp only [Act.put, List.setIfInBounds_toArray, List.set_cons_zero, List.set_cons_succ]
      refine Till.take_ (i := 9) (d := some 35) (v := .int .i64 k) (ls' := #[true, true, true, true, true, true, true, true, true, true, false, false, false, false, false, false]) rfl rfl (by kernel_rfl) (by kernel_rfl) (by kernel_rfl) (by kernel_rfl) (fun _ _ _ h => h) HS0.out (Or.inl ⟨by rfl, fun wq hSw => ?_⟩) (by kernel_rfl) ?_
      · obtain ⟨hs0, hs1, hs2, hs3, hs4⟩ := hSw
        go_simp
      simp only [Act.put, List.setIfInBounds_toArray, List.set_cons_zero, List.set_cons_succ]
      refine Till.all (rs := [10]) (by kernel_rfl) (by decide) (List.forall_mem_cons.2 ⟨?_, fun _ h => nomatch h⟩)
      refine Till.step rfl (by rfl) ?_
      intro K hK
      go_simp
      go_at_call 65
      with_reducible refine (HIL.out).mono ?_
      rintro e3 w3 ⟨A3, c3, rfl, hr3, hb3'⟩
      have hb3 : Below wr.heap.size wr w3 := ⟨hb3'.os, hb3'.tape, hb3'.output, hb3'.size, hb3'.block⟩
      have HS3 := Lib.hid (HKP.out w3 hb3)
      have HB3 := Lib.hid hb3
      have HI3 := Lib.hid (HIH.out w3 A3 c3 hb3 hr3)
      clear hb3 hb3' hr3
      go_simp
      refine hK _ _ (fun _ => HS3.out) ?_
      clear hK K
      refine Till.all (rs := [11]) (by kernel_rfl) (by decide) (List.forall_mem_cons.2 ⟨?_, fun _ h => nomatch h⟩)
      refine Till.step rfl (by rfl) ?_
      intro K hK
      go_simp
      go_at_call 44
      with_reducible refine (HI3.out).mono ?_
      rintro e2 w2 ⟨A4, c4, rfl, ho4, hb4'⟩
      have hb4 : Below wr.heap.size wr w2 := below_aft HB3.out hb4' HB3.out.size
      have HS2 := Lib.hid (HKP.out w2 hb4)
      have HB4 := Lib.hid hb4
      have HO4 : Hid (OVs d w2 (Nw wr w2) A4 L[k].kids) := by unfold Hid; rw [HED.out]; exact ho4.wide _ (fun b h => ⟨Nat.le_trans HB3.out.size h.1, h.2⟩)
      have hbz : wr.heap.size ≤ w2.heap.size := hb4.size
      clear hb4 hb4' ho4
      go_simp
      refine hK _ _ (fun _ => HS2.out) ?_
      clear hK K
      refine Till.all (rs := [12]) (by kernel_rfl) (by decide) (List.forall_mem_cons.2 ⟨?_, fun _ h => nomatch h⟩)
      refine Till.step rfl (by rfl) ?_
      intro K hK
      go_simp
      refine hK _ _ (fun _ => ⟨by have := HS2.out.1; go_keep, by have := HS2.out.2.1; go_keep, by have := HS2.out.2.2.1; go_keep, by have := HS2.out.2.2.2.1; go_keep, by have := HS2.out.2.2.2.2; go_keep⟩) ?_
      clear hK K
      refine Till.all (rs := [13]) (by kernel_rfl) (by decide) (List.forall_mem_cons.2 ⟨?_, fun _ h => nomatch h⟩)
      refine Till.step rfl (by rfl) ?_
      intro K hK
      refine wp_append_own (.tmp 27) (.tmp 38) 35 (by rfl) wl.heap.size 37 i0 (.agg #[.int .i64 0, .int .i64 0, .slice none 0 0]) 3 40 Try.underlying35 hi0 hz0 hz1 hz2 (by rfl) (by decide) (.slice Ak k ck) k ys (by rfl) (own_at HOW.out (HKB.out w2 _ HB4.out)) ⟨w2.heap.size, 0, none⟩ 1 1 [.int .i64 L[k].ctor, .int .i64 L[k].n, .slice A4 L[k].kids.length c4] (by rfl) rfl (cell_three_nm _ _ _ _ _) (by intro u hu; simp at hu; rcases hu with rfl | rfl | rfl <;> rfl) (by unfold maxLen; omega) (by omega) (by simp; omega) ?_
      intro v4 w4 hown4 hgr4 hat4
      obtain ⟨A5, c5, rfl, hg4, hbl4⟩ := BldV.step HGL.out HFR.out HGC.out HOW.out HRW.out hkL HB4.out HO4.out hown4 hgr4 hat4
      have HS4 := Lib.hid (And.intro ((cell_of_blk hg4 2).trans rfl) (HKC.out w2 w4 _ HB4.out hgr4))
      have hfz : w4.frozen? ⟨g, 2, none⟩ = false := frozen_of_row w4 g 2 _ 37 hg4
      have c4x := HS4.out.1
      have HBL := Lib.hid hbl4
      clear hown4 hgr4 hat4 hg4 hbl4
      refine hK _ _ (fun _ => HS4.out) ?_
      clear hK K
      refine Till.all (rs := [14]) (by kernel_rfl) (by decide) (List.forall_mem_cons.2 ⟨?_, fun _ h => nomatch h⟩)
      refine Till.step rfl (by rfl) ?_
      intro K hK
      go_simp
      refine hK _ _ (fun _ => HS4.out) ?_
      clear hK K
      refine Till.all (rs := [15]) (by kernel_rfl) (by decide) (List.forall_mem_cons.2 ⟨?_, fun _ h => nomatch h⟩)
      refine Till.step rfl (by rfl) ?_
      intro K hK
      go_simp
      refine hK _ _ (fun h => absurd rfl h) ?_
      clear hK K
      refine Till.done (by kernel_rfl) ?_ _
      clear c4x hfz HS4 HS2 HS3
      go_wp2_with fail
      go_roundw
      case rel => exact ⟨k + 1, by omega, by go_num, HBL.out⟩
      case measure => simp [intOf]; omega
    · have hke : k = v.kids.length := by omega
      obtain ⟨A6, c6, hg6, ho6, hf6⟩ := HBd.out.all (hke.trans HM2.out.symm) hLl
      have hr6 : wr.heap[w.heap.size + 1]? = some (.cells #[.int .i64 0, .int .i64 0, .slice none 0 0] 37 (0, 0)) := hf6.block HXR1.out (by omega)
      have HO6 := Lib.hid ho6
      have g0 := (cell_of_blk hg6 0).trans rfl
      have g1 := (cell_of_blk hg6 1).trans rfl
      have g2 := (cell_of_blk hg6 2).trans rfl
      have r0 := (cell_of_blk hr6 0).trans rfl
      have r1 := (cell_of_blk hr6 1).trans rfl
      have r2 := (cell_of_blk hr6 2).trans rfl
      have f0 := frozen_of_row wr (w.heap.size + 1) 0 _ 37 hr6
      have f1 := frozen_of_row wr (w.heap.size + 1) 1 _ 37 hr6
      have f2 := frozen_of_row wr (w.heap.size + 1) 2 _ 37 hr6
      have hkI : (v.kids.length : Int) ≤ (k : Int) := by omega
      clear hke hg6 ho6 hf6 hr6
      go_wp2_with fail
      refine bodyPost_ret (v := .agg #[.int .i64 v.ctor, .int .i64 v.n, .slice A6 L.length c6]) (by simp [results, Try.results44, go_sem, r0, r1, r2]) rfl ?_
      unfold MkQ
      rw [HM0.out, HM1.out, HLK.out]
      refine ⟨A6, c6, rfl, ?_, ?_⟩
      · exact (HO6.out.fr _ (((Fr.set (P := fun b => b = w.heap.size + 1) _ _ _ _ rfl).trans (Fr.set _ _ _ _ rfl)).trans (Fr.set _ _ _ _ rfl)) (fun b hq e => by have := hq.1; omega)).wide _ (fun b hq => ⟨by have := hq.1; omega, by have h2 := hq.2; simpa [World.setCell] using h2⟩)
      · refine Below.setCell (Below.setCell (Below.setCell hbw0 ?_ _) ?_ _) ?_ _ <;> (simp <;> omega)
theorem msS_any : ∀ d, MsS d
  | 0 => msS_of 0 (fun _ h => by omega)
  | d + 1 => msS_of (d + 1) (fun d' h => (Nat.succ.inj h) ▸ msS_any d)
end Go.Proofs.Ytnfjjabeobcenaa
