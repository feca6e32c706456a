/-
  A constructor out of its text: the document's function, the walk. No statement is proved here.
-/
import Derived.Test.YtakhobhmplneeaaY12
import Derived.Deep.RegionHeldLaw
import Derived.Deep.RegionLaw
namespace Go.Proofs.Ytakhobhmplneeaa
open Go.RowKit Go.Deep
set_option maxRecDepth 100000
set_option linter.unusedVariables false
set_option maxHeartbeats 4000000 in
theorem parseCtor_colon (A : Option Addr) (l : List ByteArray) (cap : Nat) (s : ByteArray) (w : World) (hr : RStrs w A l) (hs : s.size ≤ 1048576) (h2 : 2 < s.size) (hc : ((s[s.size - 2]'(by omega)).toNat : Int) = 58) :
    Calls Try.prog 67 #[.slice A l.length cap, .string s] w fun e w' => RetCt w w.heap.size e w' (ctQ l (s.extract 0 (s.size - 2)) (((s[s.size - 1]'(by omega)).toNat : Int) - 48)) := by
  obtain ⟨i0, hi, hz0, hz1, hz2⟩ := info_parts info34
  have Hr := Lib.hid hr
  clear hr
  have h2I : (2 : Int) < (s.size : Int) := by omega
  have q := ieq_t hc
  have h2J : (0 : Int) ≤ (s.size : Int) - 2 := by omega
  have h2K : (0 : Int) ≤ (s.size : Int) - 1 := by omega
  have hx0 : ((s[s.size - 1]'(by omega)).toNat : Int) ≤ 255 := by have := (s[s.size - 1]'(by omega)).toNat_lt; omega
  have hs1 : ((s.extract 0 (s.size - 2))).size ≤ 1048576 := Nat.le_trans (ext_size _ _ _) hs
  generalize hS : (s.extract 0 (s.size - 2)) = s1 at hs1
  generalize hX : (((s[s.size - 1]'(by omega)).toNat : Int) - 48) = ix
  go_enter Try.func67, Try.ntmps67
  go_wp2_with fail
  clear hS hX
  have hQs := fun x (hx : x ∈ cutB s1 40) => cutB_size hx
  have hQl := cutB_len s1 40
  have hQp := cutB_pos s1 40
  have HN := Lib.hid (@ctQ_none l s1 ix)
  have HS := Lib.hid (@ctQ_some l s1 ix)
  have HB0 : Hid (Box3 ((w.alloc (Obj.cells #[Value.string { data := #[] }, Value.slice none 0 0, Value.int IntKind.i64 0] 105)).alloc (Obj.cells #[Value.string { data := #[] }, Value.slice none 0 0, Value.int IntKind.i64 ix] 105)) (w.heap.size + 1) ⟨#[]⟩ (.slice none 0 0) ix) := by
    have h := heap_alloc_new (w.alloc (Obj.cells #[Value.string { data := #[] }, Value.slice none 0 0, Value.int IntKind.i64 0] 105)) (Obj.cells #[Value.string { data := #[] }, Value.slice none 0 0, Value.int IntKind.i64 ix] 105)
    simp only [World.size_alloc] at h
    exact h
  have HR0 : Hid (Box3 ((w.alloc (Obj.cells #[Value.string { data := #[] }, Value.slice none 0 0, Value.int IntKind.i64 0] 105)).alloc (Obj.cells #[Value.string { data := #[] }, Value.slice none 0 0, Value.int IntKind.i64 ix] 105)) w.heap.size ⟨#[]⟩ (.slice none 0 0) 0) := (Below.heap_alloc _ _ _ (by simp)).trans (heap_alloc_new w _)
  have hb0 : Below w.heap.size w ((w.alloc (Obj.cells #[Value.string { data := #[] }, Value.slice none 0 0, Value.int IntKind.i64 0] 105)).alloc (Obj.cells #[Value.string { data := #[] }, Value.slice none 0 0, Value.int IntKind.i64 ix] 105)) := ((Below.refl _ _).alloc (Nat.le_refl _) _).alloc (by simp) _
  refine (cut_any _ _ _ hs1).mono ?_
  rintro e w1 ⟨v6, rfl, ho6, hb1⟩
  have HB1 := Lib.hid (HB0.out.at_ hb1)
  have HR1 := Lib.hid (HR0.out.at_ hb1)
  have hbw : Below w.heap.size w w1 := below_after hb0 hb1 hb0.size
  obtain ⟨A6, cap6, rfl, hr6⟩ := ho6.form (by unfold maxLen; omega)
  have HQ := Lib.hid (ho6.lower (lo' := w.heap.size + 1 + 1) (by simp))
  clear hb1 hb0 HB0 HR0 ho6
  generalize hQ : cutB s1 40 = Q at hQs hQl hQp hr6 HN HS HQ
  obtain ⟨b6, off6, rfl, hbB6, p0⟩ := hr6.2 0 (by omega)
  rw [getD_at (by omega : 0 < Q.length)] at HN HS
  have b0 := HB1.out.c0
  have b1 := HB1.out.c1
  have b2 := HB1.out.c2
  have bf := HB1.out.fz 0
  rw [Nat.add_zero] at p0
  have r0 := HR1.out.c0
  have r1 := HR1.out.c1
  have r2 := HR1.out.c2
  have rf := HR1.out.fz
  have hQ0 : (0 : Int) < (Q.length : Int) := by omega
  have hbR : Below w.heap.size w (((((w1.setCell ⟨w.heap.size + 1, 0, none⟩ (.string Q[0])).setCell ⟨w.heap.size, 0, none⟩ (.string Q[0])).setCell ⟨w.heap.size, 1, none⟩ (.slice none 0 0)).setCell ⟨w.heap.size, 2, none⟩ (.int .i64 ix))) := (((hbw.setCell (by simp) _).setCell (by simp) _).setCell (by simp) _).setCell (by simp) _
  have HBR := Lib.hid hbR
  clear hbR
  by_cases hl : Q.length < 2
  · have hlI : (Q.length : Int) < 2 := by omega
    have HC := Lib.hid (HN.out (.inl hl))
    clear hl HN HS
    go_wp2_with fail
    exact bodyPost_ret (v := .agg #[.string Q[0], .slice none 0 0, .int .i64 ix]) (by simp [results, Try.results67, go_sem, r0, r1, r2]) rfl (retCt _ _ _ _ _ _ _ (by rw [HC.out]) (by rw [HC.out]) (by rw [HC.out]; exact OTys.nil _ _) HBR.out)
  · have hlI : (2 : Int) ≤ (Q.length : Int) := by omega
    have hlI1 : (1 : Int) < (Q.length : Int) := by omega
    obtain ⟨b6', off6', e6, _, p1⟩ := hr6.2 1 (by omega)
    injection e6 with e6
    injection e6 with e6a e6b
    subst e6a e6b
    have hq1 := hQs Q[1] (List.getElem_mem (by omega))
    rw [getD_at (by omega : 1 < Q.length)] at HN HS
    by_cases hz : Q[1].size = 0
    · have HC := Lib.hid (HN.out (.inr hz))
      have q1 : ((Q[1].size : Int) == 0) = true := ieq_t (by omega)
      clear hz HN HS
      go_wp2_with fail
      exact bodyPost_ret (v := .agg #[.string Q[0], .slice none 0 0, .int .i64 ix]) (by simp [results, Try.results67, go_sem, r0, r1, r2]) rfl (retCt _ _ _ _ _ _ _ (by rw [HC.out]) (by rw [HC.out]) (by rw [HC.out]; exact OTys.nil _ _) HBR.out)
    · have HC := Lib.hid (HS.out (fun h => h.elim (fun h => hl h) hz))
      have q1 : ((Q[1].size : Int) == 0) = false := ieq_f (by omega)
      have hq1p : (1 : Int) ≤ (Q[1].size : Int) := by omega
      clear hz HN HS HBR
      have HB2 : Hid (Box3 (w1.setCell ⟨w.heap.size + 1, 0, none⟩ (.string Q[0])) (w.heap.size + 1) Q[0] (.slice none 0 0) ix) := HB1.out.set0 _
      have HR2 : Hid (Box3 (w1.setCell ⟨w.heap.size + 1, 0, none⟩ (.string Q[0])) w.heap.size ⟨#[]⟩ (.slice none 0 0) 0) := HR1.out.keep (Below.heap_setCell _ _ _ _ (by simp))
      have hbw2 : Below w.heap.size w (w1.setCell ⟨w.heap.size + 1, 0, none⟩ (.string Q[0])) := hbw.setCell (by simp) _
      have HP1 : Hid ((w1.setCell ⟨w.heap.size + 1, 0, none⟩ (.string Q[0])).cell? ⟨b6, off6 + 1, none⟩ = some (.string Q[1])) := by
        have hne : b6 ≠ w.heap.size + 1 := by
          intro e
          have := block_lt_of_cell HB1.out.c0
          subst e
          have h1 := HQ.out.kept2 (w' := w1) (fun _ _ _ => rfl)
          have h' : w1.ownsRow (w.heap.size + 1 + 1) 9 1 (.slice (some ⟨w.heap.size + 1, off6, none⟩) Q.length cap6) Q.length (Q.map Value.string) := h1
          have := (h'.lt (w.heap.size + 1) rfl).1
          omega
        exact (World.cell?_setCell_other _ _ _ _ (fun e => hne (by injection e with e; exact e.symm))).trans p1
      go_wp2_with fail
      generalize hw2 : w1.setCell ⟨w.heap.size + 1, 0, none⟩ (.string Q[0]) = w2 at HB2 HR2 hbw2 HP1
      clear hw2 p0 p1 b0 b1 b2 bf r0 r1 r2 rf HB1 HR1 hbw hr6 HQ
      have t1 := HP1.out
      have e1 : IntKind.i64.wrap ((Q[1].size : Int) - 1) = (Q[1].size : Int) - 1 := IntWalk.i64_in _ (by omega)
      have e2 : (0 : Int) ≤ (Q[1].size : Int) - 1 := by omega
      have e4 : (Q[1].size : Int) - 1 ≤ (Q[1].size : Int) := by omega
      have e3 : ((Q[1].size : Int) - 1).toNat = Q[1].size - 1 := by omega
      go_region_held_law (fun w' => w'.cell? ⟨b6, off6 + 1, none⟩ = some (.string Q[1])) (first | exact t1 | go_keep) (first | (go_at_call 66; refine (cut_any _ _ _ (Nat.le_trans (ext_size _ _ _) (Nat.le_trans hq1 hs1))).mono ?_; rintro e w3 ⟨v7, rfl, ho7, hb3⟩; have t3 : w3.cell? ⟨b6, off6 + 1, none⟩ = some (.string Q[1]) := (hb3.cell (p := ⟨b6, off6 + 1, none⟩) (Go.block_lt_of_cell t1)).trans t1))
      have hb3' : Below w2.heap.size w2 w3 := ⟨hb3.os, hb3.tape, hb3.output, hb3.size, hb3.block⟩
      have HB3 := Lib.hid (HB2.out.at_ hb3')
      have HR3 := Lib.hid (HR2.out.at_ hb3')
      have hbw3 : Below w.heap.size w w3 := below_after hbw2 hb3' hbw2.size
      have HG3 := Lib.hid (ho7.lower (lo' := w.heap.size + 2) (by have := HB2.out.lt; simp; omega))
      have hGl := cutB_len (Q[1].extract 0 (Q[1].size - 1)) 44
      have hGs := fun x (hx : x ∈ cutB (Q[1].extract 0 (Q[1].size - 1)) 44) => cutB_size hx
      have hGe := ext_size Q[1] 0 (Q[1].size - 1)
      generalize cutB (Q[1].extract 0 (Q[1].size - 1)) 44 = G at HC HG3 hGl hGs
      have hGm : G.length ≤ 1048577 := by omega
      have HGS : Hid (∀ x ∈ G, x.size ≤ 1048576) := fun x hx => by have := hGs x hx; omega
      obtain ⟨A7, cap7, rfl, _⟩ := HG3.out.form (by unfold maxLen; omega)
      clear hb3 hb3' t3 t1 HB2 HR2 HP1 ho7 hGl hGs hGe e1 e2 e3 e4 hbw2
      go_wp2_with fail
      go_loopw [8] (fun i wr => ∃ k : Nat, k ≤ G.length ∧ k ≤ 4 ∧ i = .int .i64 k ∧ ∃ v, Box3 wr (w.heap.size + 1) Q[0] v ix ∧ OTys wr (w.heap.size + 2) v ((G.take k).map (tyP l)) ((G.take k).map (tyP l)).length ∧ Box3 wr w.heap.size ⟨#[]⟩ (.slice none 0 0) 0 ∧ OStrs wr (w.heap.size + 2) (.slice A7 G.length cap7) G ∧ Below w.heap.size w wr) (fun i _ => 4 - (intOf i).toNat)
      case atStart => exact ⟨0, by omega, by omega, rfl, _, HB3.out, by rw [List.take_zero]; exact OTys.nil _ _, HR3.out, HG3.out, hbw3⟩
      case round =>
        clear HB3 HR3 HG3 hbw3
        obtain ⟨k, hk, hk4, rfl, v, hbx, hot, hrx, hgx, hb⟩ := hrel
        have HBX := Lib.hid hbx
        have HOT := Lib.hid hot
        have HRX := Lib.hid hrx
        have HGX := Lib.hid hgx
        clear hbx hot hrx hgx
        have hsz := HBX.out.lt
        by_cases hlt : k < G.length ∧ k ≤ 3
        · obtain ⟨hlt1, hlt3⟩ := hlt
          have hkI : (k : Int) < (G.length : Int) := by omega
          have hk3I : (k : Int) ≤ 3 := by omega
          obtain ⟨A8, cap8, e8, hr8⟩ := HGX.out.form (by unfold maxLen; omega)
          injection e8 with e8a e8b e8c
          subst e8a e8c
          obtain ⟨b7, off7, e9, hbB7, g0⟩ := hr8.2 k hlt1
          subst e9
          have hGk := HGS.out G[k] (List.getElem_mem hlt1)
          have HTK := Lib.hid (take_map_len l G hlt1)
          have hLk : ((G.take k).map (tyP l)).length = k := by simp; omega
          generalize hT : tyP l G[k] = T at HTK
          generalize hLL : (G.take k).map (tyP l) = L at HTK HOT hLk
          have HT := Lib.hid hT
          obtain ⟨xs, ho, hx⟩ := HOT.out
          have HO := Lib.hid ho
          have HX := Lib.hid hx
          have hLm : L.length + 1 ≤ maxLen := by unfold maxLen; omega
          have hLb : (L.length + 1) * 16 ≤ 140737488355328 := by omega
          have c1 := HBX.out.c1
          have HRl : Hid (RStrs wr A l) := Hr.out.at_ hb
          clear hT hLL ho hx hr8 HOT
          go_wp2_with fail
          go_region_law (first | (refine step_append_lies _ (by rfl) _ _ _ (by rfl) (w.heap.size + 2) 25 i0 _ 2 16 Try.underlying89 hi hz0 hz1 hz2 rfl (by omega) v L.length xs (by rfl) (HO4.out.alloc _) ⟨w4.heap.size, 0, none⟩ 1 1 [.int .i64 T.data, .int .i64 T.index] (by rfl) (by rfl) (cell_two_new _ _ _ _) (by simp [Value.oneCell']) (by omega) hLm hLb (by simp; omega) (w4.heap.size + 1) (by simp) ?_; intro gg cap5 w5 hown5 hgrow5 hat5 hlt5; have HBX5 : Hid (Box3 w5 (w.heap.size + 1) Q[0] v ix) := HBX4.out.keep ((hgrow5.block (w.heap.size + 1) (by simp; omega) (fun e => by have := (HO4.out.lt _ e.symm).1; omega)).trans (Below.heap_alloc _ _ _ (by omega))); have c5 := HBX5.out.c1; have f5 := HBX5.out.fz 1) | (go_simp; go_at_call 84; refine (parseType_v _ l _ _ T HT.out _ (HRl.out.at_ ((Below.refl _ _).drew)) hGk).mono ?_; rintro e w4 ⟨rfl, hb4⟩; have hb4' : Below wr.heap.size wr w4 := ⟨hb4.os, hb4.tape, hb4.output, hb4.size, hb4.block⟩; have HO4 := Lib.hid (own_below HO.out hb4'); have HBX4 := Lib.hid (HBX.out.at_ hb4'); have hs4 := hb4'.size; have c4 := HBX4.out.c1; have c4a : ∀ o, (w4.alloc o).cell? ⟨w.heap.size + 1, 1, none⟩ = some v := fun o => (World.cell?_alloc_lt _ _ _ HBX4.out.lt).trans c4))
          all_goals
            have hown6 : w5.ownsRow (w.heap.size + 2) 25 2 (.slice (some ⟨gg, 0, none⟩) (k + 1) cap5) (L.length + 1) (xs ++ [.int .i64 T.data, .int .i64 T.index]) := by
              have := hown5; rw [hLk] at this ⊢; exact this
            have hz31 : ∀ (b : Nat) (cs : Array Value) (t : TypeId), t ≠ 105 → w5.heap[b]? = some (Obj.cells cs t (0, 0)) → b ≠ w.heap.size + 1 := fun b cs t ht hb => other_blk HBX5.out hb ht.symm
            have HBXF : Hid (Box3 (w5.setCell ⟨w.heap.size + 1, 1, none⟩ (.slice (some ⟨gg, 0, none⟩) (k + 1) cap5)) (w.heap.size + 1) Q[0] (.slice (some ⟨gg, 0, none⟩) (k + 1) cap5) ix) := HBX5.out.set1 _
            have HOTF : Hid (OTys (w5.setCell ⟨w.heap.size + 1, 1, none⟩ (.slice (some ⟨gg, 0, none⟩) (k + 1) cap5)) (w.heap.size + 2) (.slice (some ⟨gg, 0, none⟩) (k + 1) cap5) ((G.take (k + 1)).map (tyP l)) ((G.take (k + 1)).map (tyP l)).length) := by
              have h5 : OTys w5 (w.heap.size + 2) (.slice (some ⟨gg, 0, none⟩) (k + 1) cap5) ((G.take (k + 1)).map (tyP l)) ((G.take (k + 1)).map (tyP l)).length := by
                rw [HTK.out]; exact OTys.app HX.out HO.out.1 hown6
              exact h5.kept2 (fun b cs hb => Below.heap_setCell _ _ _ _ (hz31 b cs 25 (by decide) hb))
            have HRXF : Hid (Box3 (w5.setCell ⟨w.heap.size + 1, 1, none⟩ (.slice (some ⟨gg, 0, none⟩) (k + 1) cap5)) w.heap.size ⟨#[]⟩ (.slice none 0 0) 0) :=
              (HRX.out.at_ hb4').keep ((Below.heap_setCell _ _ _ _ (by simp)).trans ((hgrow5.block w.heap.size (by simp; omega) (fun e => by have := (HO4.out.lt _ e.symm).1; omega)).trans (Below.heap_alloc _ _ _ (by omega))))
            have HGXF : Hid (OStrs (w5.setCell ⟨w.heap.size + 1, 1, none⟩ (.slice (some ⟨gg, 0, none⟩) (k + 1) cap5)) (w.heap.size + 2) (.slice (some ⟨b7, off7, none⟩) G.length cap7) G) := by
              have h4 : OStrs (w4.alloc (.cells #[.int .i64 T.data, .int .i64 T.index] 25)) (w.heap.size + 2) (.slice (some ⟨b7, off7, none⟩) G.length cap7) G := World.ownsRow.alloc (HGX.out.at_ hb4') _
              have h5 : OStrs w5 (w.heap.size + 2) (.slice (some ⟨b7, off7, none⟩) G.length cap7) G := h4.kept2 (fun b cs hb => hgrow5.block b (heap_lt hb) (own_ne (HO4.out.alloc _) hb (by decide)))
              exact h5.kept2 (fun b cs hb => Below.heap_setCell _ _ _ _ (hz31 b cs 9 (by decide) hb))
            have hbF : Below w.heap.size w (w5.setCell ⟨w.heap.size + 1, 1, none⟩ (.slice (some ⟨gg, 0, none⟩) (k + 1) cap5)) := (((below_after hb hb4' hb.size).alloc (by omega) _).grown hgrow5 (by simp; omega) (fun g' e => by have := (HO4.out.lt g' e).1; omega)).setCell (by simp) _
            clear hown5 hown6 hgrow5 hat5 hlt5 hb4 hb4' HBX4 HO4 hs4 c4 c4a HBX5 c5 f5 HBX HRX HGX HO HX HT HTK c1 g0
            go_wp2_with fail
            go_roundw
            case rel => exact ⟨k + 1, by omega, by omega, by go_num, _, HBXF.out, HOTF.out, HRXF.out, HGXF.out, hbF⟩
            case measure => simp [intOf]; omega
        · have hTk : G.take k = G.take 4 := by
            by_cases h1 : k < G.length
            · have : k = 4 := by omega
              rw [this]
            · rw [List.take_of_length_le (by omega), List.take_of_length_le (by omega)]
          have HAR : Hid (OTys wr (w.heap.size + 2) v ((G.take 4).map (tyP l)) ((G.take 4).map (tyP l)).length) := by unfold Hid; rw [← hTk]; exact HOT.out
          obtain ⟨A9, cap9, hv9, _⟩ := HAR.out.form (by simp; unfold maxLen; omega)
          generalize ((G.take 4).map (tyP l)).length = n9 at hv9
          subst hv9
          have r0 := HRX.out.c0
          have r1 := HRX.out.c1
          have r2 := HRX.out.c2
          have rf := HRX.out.fz
          have b0 := HBX.out.c0
          have b1 := HBX.out.c1
          have b2 := HBX.out.c2
          have hbF : Below w.heap.size w (((wr.setCell ⟨w.heap.size, 0, none⟩ (.string Q[0])).setCell ⟨w.heap.size, 1, none⟩ (.slice A9 n9 cap9)).setCell ⟨w.heap.size, 2, none⟩ (.int .i64 ix)) := ((hb.setCell (by simp) _).setCell (by simp) _).setCell (by simp) _
          have HOTF : Hid (OTys (((wr.setCell ⟨w.heap.size, 0, none⟩ (.string Q[0])).setCell ⟨w.heap.size, 1, none⟩ (.slice A9 n9 cap9)).setCell ⟨w.heap.size, 2, none⟩ (.int .i64 ix)) w.heap.size (.slice A9 n9 cap9) ((G.take 4).map (tyP l)) ((G.take 4).map (tyP l)).length) := by
            refine ((HAR.out.lower (by omega)).kept2 (fun b cs hb => ?_))
            have hne : b ≠ w.heap.size := other_blk HRX.out hb (by decide)
            rw [Below.heap_setCell _ _ _ _ hne, Below.heap_setCell _ _ _ _ hne, Below.heap_setCell _ _ _ _ hne]
          clear hTk HAR HOT
          by_cases hlt1 : k < G.length
          · have hkI : (k : Int) < (G.length : Int) := by omega
            have hk3I : 3 < (k : Int) := by omega
            go_wp2_with fail
            exact bodyPost_ret (v := .agg #[.string Q[0], .slice A9 n9 cap9, .int .i64 ix]) (by simp [results, Try.results67, go_sem, r0, r1, r2]) rfl (retCt _ _ _ _ _ _ _ (by rw [HC.out]) (by rw [HC.out]) (by rw [HC.out]; exact HOTF.out) hbF)
          · have hkI : (G.length : Int) ≤ (k : Int) := by omega
            go_wp2_with fail
            exact bodyPost_ret (v := .agg #[.string Q[0], .slice A9 n9 cap9, .int .i64 ix]) (by simp [results, Try.results67, go_sem, r0, r1, r2]) rfl (retCt _ _ _ _ _ _ _ (by rw [HC.out]) (by rw [HC.out]) (by rw [HC.out]; exact HOTF.out) hbF)
end Go.Proofs.Ytakhobhmplneeaa
