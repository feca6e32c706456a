/-
  The texts of worlds: FormatWorld of the program and of the document. No statement is proved here.
-/
import Derived.Test.YthebdlejoficmaaDoorCtI
import Derived.Deep.RegionHeld3
namespace Go.Proofs.YthebdlejoficmaaDoor
open Go.RowKit Go.Deep
set_option maxRecDepth 100000
set_option linter.unusedVariables false

theorem worldV_yes {A : Option Addr} {l : List Da} {cap : Nat} {w : World} (hr : RDas w w.heap.size A l) (h : WorldOK l) :
    Calls Tryd.prog 25 #[.slice A l.length cap] w fun e w' => e = .returned (.bool true) ∧ Below w.heap.size w w' := by rw [← dec_t h]; exact worldValid_spec A l cap w hr
theorem worldV_no {A : Option Addr} {l : List Da} {cap : Nat} {w : World} (hr : RDas w w.heap.size A l) (h : ¬ WorldOK l) :
    Calls Tryd.prog 25 #[.slice A l.length cap] w fun e w' => e = .returned (.bool false) ∧ Below w.heap.size w w' := by rw [← dec_f h]; exact worldValid_spec A l cap w hr
theorem worldI_yes {A : Option Addr} {l : List Da} {cap : Nat} {w : World} (hr : RDas w w.heap.size A l) (h : WorldOK l) :
    Calls Tryd.prog 27 #[.slice A l.length cap] w fun e w' => e = .returned (.bool true) ∧ Below w.heap.size w w' := by rw [← dec_t h]; exact worldValid_impl A l cap w hr
theorem worldI_no {A : Option Addr} {l : List Da} {cap : Nat} {w : World} (hr : RDas w w.heap.size A l) (h : ¬ WorldOK l) :
    Calls Tryd.prog 27 #[.slice A l.length cap] w fun e w' => e = .returned (.bool false) ∧ Below w.heap.size w w' := by rw [← dec_f h]; exact worldValid_impl A l cap w hr
/-- The text of a world, or none. -/
noncomputable def fwT (l : List Da) : ByteArray := if dec (WorldOK l) then wT l else ⟨#[]⟩
theorem fwT_yes {l : List Da} (h : WorldOK l) : fwT l = wT l := by unfold fwT; rw [dec_t h]; rfl
theorem fwT_no {l : List Da} (h : ¬ WorldOK l) : fwT l = ⟨#[]⟩ := by unfold fwT; rw [dec_f h]; rfl
theorem fworld_spec (A : Option Addr) (l : List Da) (cap : Nat) (w : World) (hr : RDas w w.heap.size A l) :
    Calls Tryd.prog 12 #[.slice A l.length cap] w fun e w' => e = .returned (.string (fwT l)) ∧ Below w.heap.size w w' := by
  have Hr := Lib.hid hr
  clear hr
  by_cases h : WorldOK l
  · have HT := Lib.hid (fwT_yes h)
    go_enter Tryd.func12, Tryd.ntmps12
    go_wp2_with (first | (go_at_call 25; refine (worldV_yes Hr.out h).mono ?_; rintro e w1 ⟨rfl, hb1⟩) | (go_at_call 26; refine (text_any _ l _ _ (by exact Hr.out.keep (fun p hp => hb1.cell hp) hb1.size) h).mono ?_; rintro e w2 ⟨rfl, hb2'⟩; have hb2 := hb1.trans (hb2'.mono hb1.size)))
    go_ret
    exact ⟨ret_str HT.out.symm, hb2⟩
  · have HT := Lib.hid (fwT_no h)
    go_enter Tryd.func12, Tryd.ntmps12
    go_wp2_with (go_at_call 25; refine (worldV_no Hr.out h).mono ?_; rintro e w1 ⟨rfl, hb1⟩)
    go_ret
    exact ⟨ret_str HT.out.symm, hb1⟩

theorem daT_size {l : List Da} (hw : WorldOK l) {k : Nat} (hk : k < l.length) : (daT l l[k]).size ≤ 3000 ∧ (joinB (l[k].ctors.map (ctT l)) ⟨#[124]⟩).size ≤ 2100 := by
  have hs := world_short hw
  have h4 := world_four hw hk
  have h1 := joinB_size ⟨#[124]⟩ 510 (l[k].ctors.map (ctT l)) (fun t ht => by
    obtain ⟨c, hc, rfl⟩ := List.mem_map.1 ht
    obtain ⟨m, hm, rfl⟩ := List.getElem_of_mem hc
    exact ctT_size hs (world_ct_in hw hk hm))
  rw [List.length_map] at h1
  have h2 : l[k].ctors.length * (510 + (ByteArray.mk #[124]).size) ≤ 4 * (510 + 1) := Nat.mul_le_mul h4 (Nat.le_refl _)
  have h3 := hs k hk
  unfold daT
  rw [ByteArray.size_append, ByteArray.size_append]
  have h5 : (ByteArray.mk #[61]).size = 1 := rfl
  omega

set_option maxHeartbeats 3000000 in
theorem fworld_yes (A : Option Addr) (l : List Da) (cap : Nat) (w : World) (hr : RDas w w.heap.size A l) (hw : WorldOK l) :
    Calls Tryd.prog 13 #[.slice A l.length cap] w fun e w' => e = .returned (.string (wT l)) ∧ Below w.heap.size w w' := by
  obtain ⟨i0, hi, hz0, hz1, hz2⟩ := info_parts info9s
  have hi' := hi
  have Hr := Lib.hid hr
  have HW := Lib.hid hw
  have hl4 := hw.1
  have HS := Lib.hid (world_short hw)
  have HJ := Lib.hid (wT_join l)
  have HTM : Hid (∀ t ∈ l.map (daT l), t.size ≤ 100000) := fun t ht => by
    obtain ⟨a, ha, rfl⟩ := List.mem_map.1 ht
    obtain ⟨k, hk, rfl⟩ := List.getElem_of_mem ha
    have := (daT_size hw hk).1
    omega
  have HG : Hid (∀ k (h : k < l.length) (h' : k < (l.map (daT l)).length), (l.map (daT l))[k] = daT l l[k]) := fun k h h' => List.getElem_map _
  have HL : Hid ((l.map (daT l)).length = l.length) := List.length_map _
  generalize hts : l.map (daT l) = ts at HJ HTM HG HL
  clear hr hw hts
  go_enter Tryd.func13, Tryd.ntmps13
  go_wp2_with (first | (go_at_call 27; refine (worldI_yes Hr.out HW.out).mono ?_; rintro e w1 ⟨rfl, hb1⟩) | (at_make; refine wpList_make_full _ rfl _ _ 50 rfl w1.heap.size 9 i0 _ 1 Tryd.underlying50 hi hz0 hz1 _ _ _ _ l.length rfl rfl rfl rfl (by rw [hz2]; omega) (by unfold maxLen; omega) (Nat.le_refl _) ?_; intro w2 hown hgr; have hbg := below_of_grown hgr (Nat.le_refl _)))
  go_loopw [17] (fun i wr => ∃ k : Nat, k ≤ l.length ∧ i = .int .i64 k ∧ ∃ xs, wr.ownsRow w1.heap.size 9 1 (.slice (some ⟨w1.heap.size, 0, none⟩) l.length l.length) l.length xs ∧ StRow ts xs k ∧ Below w1.heap.size w1 wr) (fun i _ => l.length - (intOf i).toNat)
  case atStart => exact ⟨0, by omega, rfl, _, hown, StRow.zero _ _, hbg⟩
  case round =>
    obtain ⟨k, hk, rfl, xs, hown, hrow, hb⟩ := hrel
    clear hgr hbg
    have hbw : Below w.heap.size w wr := below_after hb1 hb hb1.size
    have HO := Lib.hid hown
    have HRW := Lib.hid hrow
    clear hown hrow
    by_cases hlt : k < l.length
    · obtain ⟨b, off, rfl, hbB, A', cp, c0, c1, hszd, hmd⟩ := (Hr.out.below hbw (Nat.le_refl _)).2 k hlt
      have hm4 := world_four HW.out hlt
      have hnm := HS.out k hlt
      have hkl : k < ts.length := by rw [HL.out]; exact hlt
      have HGK := Lib.hid (HG.out k hlt hkl)
      have hwl : w1.heap.size < wr.heap.size := own_lt HO.out
      have hxl := HO.out.1
      have HMD : Hid (RCts w w.heap.size A' l[k].ctors) := hmd.keep (fun p hp => (hbw.cell hp).symm) (Nat.le_refl _)
      have hjz := (daT_size HW.out hlt).2
      have HDT : Hid (daT l l[k] = (l[k].name ++ ⟨#[61]⟩) ++ joinB (l[k].ctors.map (ctT l)) ⟨#[124]⟩) := rfl
      have HTM2 : Hid (∀ t ∈ l[k].ctors.map (ctT l), t.size ≤ 100000) := fun t ht => by
        obtain ⟨a, ha, rfl⟩ := List.mem_map.1 ht
        obtain ⟨j, hj, rfl⟩ := List.getElem_of_mem ha
        have := ctT_size HS.out (world_ct_in HW.out hlt hj)
        omega
      have HG2 : Hid (∀ j (h : j < l[k].ctors.length) (h' : j < (l[k].ctors.map (ctT l)).length), (l[k].ctors.map (ctT l))[j] = ctT l l[k].ctors[j]) := fun j h h' => List.getElem_map _
      have HL2 : Hid ((l[k].ctors.map (ctT l)).length = l[k].ctors.length) := List.length_map _
      generalize hts2 : l[k].ctors.map (ctT l) = ts2 at HDT HTM2 HG2 HL2 hjz
      clear hmd hts2
      generalize hwA : wr.alloc (.cells #[.string l[k].name, .slice A' l[k].ctors.length cp] 46) = wA
      have x0 : wA.cell? ⟨wr.heap.size, 0, none⟩ = some (.string l[k].name) := by rw [← hwA]; simp [go_sem]
      have x1 : wA.cell? ⟨wr.heap.size, 1, none⟩ = some (.slice A' l[k].ctors.length cp) := by rw [← hwA]; simp [go_sem]
      have hbA : Below wr.heap.size wr wA := by rw [← hwA]; exact (Below.refl _ _).alloc (Nat.le_refl _) _
      have HWA := Lib.hid hwA
      have X0 := Lib.hid x0
      clear hwA
      go_wp2_with (at_make; rw [HWA.out]; refine wpList_make_full _ rfl _ _ 50 rfl wA.heap.size 9 i0 _ 1 Tryd.underlying50 hi' hz0 hz1 _ _ _ _ l[k].ctors.length rfl rfl rfl rfl (by rw [hz2]; omega) (by unfold maxLen; omega) (Nat.le_refl _) ?_; intro w3 hown3 hgr3; have hbg3 := below_of_grown hgr3 (Nat.le_refl _); have x1' := (hbg3.cell (p := ⟨wr.heap.size, 1, none⟩) (Go.block_lt_of_cell x1)).trans x1)
      obtain ⟨wo, rfl⟩ : ∃ wo : World, wo = wr := ⟨_, rfl⟩
      go_loopw [29] (fun i wi => ∃ j : Nat, j ≤ l[k].ctors.length ∧ i = .int .i64 j ∧ ∃ ys, wi.ownsRow wA.heap.size 9 1 (.slice (some ⟨wA.heap.size, 0, none⟩) l[k].ctors.length l[k].ctors.length) l[k].ctors.length ys ∧ StRow ts2 ys j ∧ Below wA.heap.size wA wi) (fun i _ => l[k].ctors.length - (intOf i).toNat)
      case atStart => exact ⟨0, by omega, rfl, _, hown3, StRow.zero _ _, hbg3⟩
      case round =>
        obtain ⟨j, hj, rfl, ys, hown3, hrow3, hbi⟩ := hrel
        clear hgr3 hbg3 x1' x0
        have HO3 := Lib.hid hown3
        have HRW3 := Lib.hid hrow3
        clear hown3 hrow3
        have hbo : Below wo.heap.size wo wr := below_after hbA hbi hbA.size
        have hbw2 : Below w.heap.size w wr := below_after hbw hbo hbw.size
        by_cases hjt : j < l[k].ctors.length
        · obtain ⟨g, o, rfl, hgB, D1, ep, e0, e1, e2, hszm, hmm⟩ := (HMD.out.below hbw2 (Nat.le_refl _)).2 j hjt
          have hgw : g < wr.heap.size := by have := hbw2.size; omega
          have HIN := Lib.hid (world_ct_in HW.out hlt hjt)
          have hjl : j < ts2.length := by rw [HL2.out]; exact hjt
          have HGJ := Lib.hid (HG2.out j hjt hjl)
          have HRr : Hid (∀ ob : Obj, RDas (wr.alloc ob) (wr.alloc ob).heap.size (some ⟨b, off, none⟩) l) := fun ob => Hr.out.keep (fun p hp => (World.cell?_alloc_lt _ _ _ (Nat.lt_of_lt_of_le hp hbw2.size)).trans (hbw2.cell hp)) (by have := hbw2.size; simp; omega)
          have HMM : Hid (∀ ob : Obj, RTys (wr.alloc ob) (wr.alloc ob).heap.size D1 l[k].ctors[j].args) := fun ob => hmm.keep (fun p hp => World.cell?_alloc_lt _ _ _ (Nat.lt_of_lt_of_le hp hbw2.size)) (by have := hbw2.size; simp; omega)
          have hwl3 : wA.heap.size < wr.heap.size := own_lt HO3.out
          have hyl := HO3.out.1
          clear hmm
          go_wp2_with (go_at_call 28; refine (ctorText_impl _ _ l l[k].ctors[j] _ _ _ (HRr.out _) (HMM.out _) HS.out HIN.out).mono ?_; rw [← HGJ.out]; rintro e w4 ⟨rfl, hb4⟩; have hown4 := own_below (HO3.out.alloc _) hb4; obtain ⟨v0, f0⟩ := own_cell hown4 j (by omega); have g0 := hown4.frozenAt j)
          have s1 := (hown4.stored j (.string ts2[j])).1
          have hrow4 := HRW3.out.step hjl (by rw [HL2.out]; omega)
          have hb5 : Below wA.heap.size wA w4 := hbi.trans (((Below.refl _ _).alloc (Nat.le_refl _) _ |>.trans (hb4.mono (by simp))).mono hbi.size)
          go_roundw
          case rel => exact ⟨j + 1, by omega, by go_num, _, s1, hrow4, hb5.setCell (Nat.le_refl _) _⟩
          case measure => simp [intOf]; omega
        · have hje : j = l[k].ctors.length := by omega
          have HO3' : Hid (wr.ownsRow wA.heap.size 9 1 (.slice (some ⟨wA.heap.size, 0, none⟩) ts2.length ts2.length) ts2.length ys) := by unfold Hid; rw [HL2.out]; exact HO3.out
          have HRW3' : Hid (StRow ts2 ys ts2.length) := by unfold Hid; rw [HL2.out, ← hje]; exact HRW3.out
          have hl3 : ts2.length ≤ 1000 := by rw [HL2.out]; omega
          have hcl : Hid (l[k].ctors.length = ts2.length) := HL2.out.symm
          have HO1 : Hid (wr.ownsRow w1.heap.size 9 1 (.slice (some ⟨w1.heap.size, 0, none⟩) l.length l.length) l.length xs) := own_below HO.out hbo
          have z0 : wr.cell? ⟨wo.heap.size, 0, none⟩ = some (.string l[k].name) := (hbi.cell (p := ⟨wo.heap.size, 0, none⟩) (Go.block_lt_of_cell X0.out)).trans X0.out
          generalize hu : joinB ts2 ⟨#[124]⟩ = u at hjz HDT
          have HU := Lib.hid hu
          clear hje hu
          have ha1 : ∀ w : World, (Op.stringOp .add l[k].name ⟨#[61]⟩).run Tryd.prog w = .ok (.string (l[k].name ++ ⟨#[61]⟩)) w := fun w => run_string_add_sum w _ _ (by have : (ByteArray.mk #[61]).size = 1 := rfl; omega)
          have ha2 : ∀ w : World, (Op.stringOp .add (l[k].name ++ ⟨#[61]⟩) u).run Tryd.prog w = .ok (.string ((l[k].name ++ ⟨#[61]⟩) ++ u)) w := fun w => run_string_add_sum w _ _ (by rw [ByteArray.size_append]; have : (ByteArray.mk #[61]).size = 1 := rfl; omega)
          go_wp2_with fail
          have HO3d : Hid (wr.drew.ownsRow wA.heap.size 9 1 (.slice (some ⟨wA.heap.size, 0, none⟩) ts2.length ts2.length) ts2.length ys) := HO3'.out
          go_region_held3 (fun w' => w'.cell? ⟨wo.heap.size, 0, none⟩ = some (.string l[k].name)) (first | exact z0 | exact z1 | exact z2 _ | go_keep) (first | (go_at_call 29; rw [hcl.out]; refine (join_row ts2 ⟨#[124]⟩ _ _ _ ys _ HO3d.out HRW3'.out (Nat.le_refl _) hl3 HTM2.out (by decide)).mono ?_; rw [HU.out]; rintro e w6 ⟨rfl, hb6⟩; have hb6' : Below wr.heap.size wr w6 := ⟨hb6.os, hb6.tape, hb6.output, hb6.size, hb6.block⟩; have z1 := (hb6'.cell (p := ⟨wo.heap.size, 0, none⟩) (Go.block_lt_of_cell z0)).trans z0; have hown6 := own_below HO1.out hb6'; obtain ⟨v0, f0⟩ := own_cell hown6 k (by omega); have g0 := hown6.frozenAt k; have z2 : ∀ v, (w6.setCell ⟨w1.heap.size, k, none⟩ v).cell? ⟨wo.heap.size, 0, none⟩ = some (.string l[k].name) := fun v => (World.cell?_setCell_far _ _ _ _ (show w1.heap.size ≠ wo.heap.size by omega)).trans z1))
          have s1 := (hown6.stored k (.string ts[k])).1
          have hrow6 := HRW.out.step hkl (by rw [HL.out]; omega)
          have hb7 : Below w1.heap.size w1 w6 := below_after hb (below_after hbo hb6' hbo.size) hb.size
          have HV : Hid ((l[k].name ++ ⟨#[61]⟩) ++ u = ts[k]) := by unfold Hid; rw [HGK.out, HDT.out]
          go_wp2_with fail
          rw [HV.out]
          go_roundw
          case rel => exact ⟨k + 1, by omega, by go_num, _, s1, hrow6, hb7.setCell (Nat.le_refl _) _⟩
          case measure => simp [intOf]; omega
    · have he : k = l.length := by omega
      have HO' : Hid (wr.ownsRow w1.heap.size 9 1 (.slice (some ⟨w1.heap.size, 0, none⟩) ts.length ts.length) ts.length xs) := by unfold Hid; rw [HL.out]; exact HO.out
      have HRW' : Hid (StRow ts xs ts.length) := by unfold Hid; rw [HL.out, ← he]; exact HRW.out
      have hl3 : ts.length ≤ 1000 := by rw [HL.out]; omega
      have hcl : Hid (l.length = ts.length) := HL.out.symm
      clear he
      go_wp2_with (go_at_call 29; rw [hcl.out]; refine (join_row ts ⟨#[59]⟩ _ _ _ xs _ HO'.out HRW'.out (Nat.le_refl _) hl3 HTM.out (by decide)).mono ?_; rintro e w5 ⟨rfl, hb5⟩)
      go_ret
      exact ⟨ret_str HJ.out.symm, below_after hbw hb5 hbw.size⟩
end Go.Proofs.YthebdlejoficmaaDoor
