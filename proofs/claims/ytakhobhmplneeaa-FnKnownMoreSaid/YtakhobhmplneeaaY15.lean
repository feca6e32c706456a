/-
  A constructor out of its text: the document's function, the walk. No statement is proved here.
-/
import Derived.Test.YtakhobhmplneeaaY12
import Derived.Test.YtakhobhmplneeaaY05
import Derived.Test.YtakhobhmplneeaaY11
import Derived.Test.YtakhobhmplneeaaY10
import Derived.Deep.RegionHeldLaw
import Derived.Deep.RegionLaw
import Derived.Lib.SmallJoins
import Derived.Deep.RegionWith
namespace Go.Proofs.Ytakhobhmplneeaa
open Go.RowKit Go.Deep
set_option maxRecDepth 100000
set_option linter.unusedVariables false
set_option maxHeartbeats 4000000 in
theorem parseCtor_plain (A : Option Addr) (l : List ByteArray) (cap : Nat) (s : ByteArray) (w : World) (hr : RStrs w A l) (hs : s.size ≤ 1048576) (h2 : 2 < s.size) (hc : ¬ ((s[s.size - 2]'(by omega)).toNat : Int) = 58) :
    Calls Try.prog 67 #[.slice A l.length cap, .string s] w fun e w' => RetCt w w.heap.size e w' (ctQ l s 0) := by
  obtain ⟨i0, hi, hz0, hz1, hz2⟩ := info_parts info34
  have Hr := Lib.hid hr
  clear hr
  have h2I : (2 : Int) < (s.size : Int) := by omega
  have q := ieq_f hc
  have h2J : (0 : Int) ≤ (s.size : Int) - 2 := by omega
  clear hc
  have hs1 : (s).size ≤ 1048576 := hs
  go_enter Try.func67, Try.ntmps67
  go_wp2_with fail
  have hQs := fun x (hx : x ∈ cutB s 40) => cutB_size hx
  have hQl := cutB_len s 40
  have hQp := cutB_pos s 40
  have HN := Lib.hid (@ctQ_none l s 0)
  have HS := Lib.hid (@ctQ_some l s 0)
  have HB0 : Hid (Box3 ((w.alloc (Obj.cells #[Value.string { data := #[] }, Value.slice none 0 0, Value.int IntKind.i64 0] 105)).alloc (Obj.cells #[Value.string { data := #[] }, Value.slice none 0 0, Value.int IntKind.i64 0] 105)) (w.heap.size + 1) ⟨#[]⟩ (.slice none 0 0) 0) := by
    have h := heap_alloc_new (w.alloc (Obj.cells #[Value.string { data := #[] }, Value.slice none 0 0, Value.int IntKind.i64 0] 105)) (Obj.cells #[Value.string { data := #[] }, Value.slice none 0 0, Value.int IntKind.i64 0] 105)
    simp only [World.size_alloc] at h
    exact h
  have HR0 : Hid (Box3 ((w.alloc (Obj.cells #[Value.string { data := #[] }, Value.slice none 0 0, Value.int IntKind.i64 0] 105)).alloc (Obj.cells #[Value.string { data := #[] }, Value.slice none 0 0, Value.int IntKind.i64 0] 105)) w.heap.size ⟨#[]⟩ (.slice none 0 0) 0) := (Below.heap_alloc _ _ _ (by simp)).trans (heap_alloc_new w _)
  have hb0 : Below w.heap.size w ((w.alloc (Obj.cells #[Value.string { data := #[] }, Value.slice none 0 0, Value.int IntKind.i64 0] 105)).alloc (Obj.cells #[Value.string { data := #[] }, Value.slice none 0 0, Value.int IntKind.i64 0] 105)) := ((Below.refl _ _).alloc (Nat.le_refl _) _).alloc (by simp) _
  refine (cut_any _ _ _ hs1).mono ?_
  rintro e w1 ⟨v6, rfl, ho6, hb1⟩
  have HB1 := Lib.hid (HB0.out.at_ hb1)
  have HR1 := Lib.hid (HR0.out.at_ hb1)
  have hbw : Below w.heap.size w w1 := below_after hb0 hb1 hb0.size
  obtain ⟨A6, cap6, rfl, hr6⟩ := ho6.form (by unfold maxLen; omega)
  have HQ := Lib.hid (ho6.lower (lo' := w.heap.size + 1 + 1) (by simp))
  clear hb1 hb0 HB0 HR0 ho6
  generalize hQ : cutB s 40 = Q at hQs hQl hQp hr6 HN HS HQ
  obtain ⟨b6, off6, rfl, hbB6, p0⟩ := hr6.2 0 (by omega)
  rw [getD_at (by omega : 0 < Q.length)] at HN HS
  have b0 := HB1.out.c0
  have b1 := HB1.out.c1
  have b2 := HB1.out.c2
  have bf := HB1.out.fz 0
  rw [Nat.add_zero] at p0
  have r0 := HR1.out.c0
  have r1 := HR1.out.c1
  have r2 := HR1.out.c2
  have rf := HR1.out.fz
  have hQ0 : (0 : Int) < (Q.length : Int) := by omega
  have hbR : Below w.heap.size w (((((w1.setCell ⟨w.heap.size + 1, 0, none⟩ (.string Q[0])).setCell ⟨w.heap.size, 0, none⟩ (.string Q[0])).setCell ⟨w.heap.size, 1, none⟩ (.slice none 0 0)).setCell ⟨w.heap.size, 2, none⟩ (.int .i64 0))) := (((hbw.setCell (by simp) _).setCell (by simp) _).setCell (by simp) _).setCell (by simp) _
  have HBR := Lib.hid hbR
  clear hbR
  by_cases hl : Q.length < 2
  · have hlI : (Q.length : Int) < 2 := by omega
    have HC := Lib.hid (HN.out (.inl hl))
    clear hl HN HS
    go_wp2_with fail
    exact bodyPost_ret (v := .agg #[.string Q[0], .slice none 0 0, .int .i64 0]) (by simp [results, Try.results67, go_sem, r0, r1, r2]) rfl (retCt _ _ _ _ _ _ _ (by rw [HC.out]) (by rw [HC.out]) (by rw [HC.out]; exact OTys.nil _ _) HBR.out)
  · have hlI : (2 : Int) ≤ (Q.length : Int) := by omega
    have hlI1 : (1 : Int) < (Q.length : Int) := by omega
    obtain ⟨b6', off6', e6, _, p1⟩ := hr6.2 1 (by omega)
    injection e6 with e6
    injection e6 with e6a e6b
    subst e6a e6b
    have hq1 := hQs Q[1] (List.getElem_mem (by omega))
    rw [getD_at (by omega : 1 < Q.length)] at HN HS
    by_cases hz : Q[1].size = 0
    · have HC := Lib.hid (HN.out (.inr hz))
      have q1 : ((Q[1].size : Int) == 0) = true := ieq_t (by omega)
      clear hz HN HS
      go_wp2_with fail
      exact bodyPost_ret (v := .agg #[.string Q[0], .slice none 0 0, .int .i64 0]) (by simp [results, Try.results67, go_sem, r0, r1, r2]) rfl (retCt _ _ _ _ _ _ _ (by rw [HC.out]) (by rw [HC.out]) (by rw [HC.out]; exact OTys.nil _ _) HBR.out)
    · have HC := Lib.hid (HS.out (fun h => h.elim (fun h => hl h) hz))
      have q1 : ((Q[1].size : Int) == 0) = false := ieq_f (by omega)
      have hq1p : (1 : Int) ≤ (Q[1].size : Int) := by omega
      clear hz HN HS HBR
      have HB2 : Hid (Box3 (w1.setCell ⟨w.heap.size + 1, 0, none⟩ (.string Q[0])) (w.heap.size + 1) Q[0] (.slice none 0 0) 0) := HB1.out.set0 _
      have HR2 : Hid (Box3 (w1.setCell ⟨w.heap.size + 1, 0, none⟩ (.string Q[0])) w.heap.size ⟨#[]⟩ (.slice none 0 0) 0) := HR1.out.keep (Below.heap_setCell _ _ _ _ (by simp))
      have hbw2 : Below w.heap.size w (w1.setCell ⟨w.heap.size + 1, 0, none⟩ (.string Q[0])) := hbw.setCell (by simp) _
      have HP1 : Hid ((w1.setCell ⟨w.heap.size + 1, 0, none⟩ (.string Q[0])).cell? ⟨b6, off6 + 1, none⟩ = some (.string Q[1])) := by
        have hne : b6 ≠ w.heap.size + 1 := by
          intro e
          have := block_lt_of_cell HB1.out.c0
          subst e
          have h1 := HQ.out.kept2 (w' := w1) (fun _ _ _ => rfl)
          have h' : w1.ownsRow (w.heap.size + 1 + 1) 9 1 (.slice (some ⟨w.heap.size + 1, off6, none⟩) Q.length cap6) Q.length (Q.map Value.string) := h1
          have := (h'.lt (w.heap.size + 1) rfl).1
          omega
        exact (World.cell?_setCell_other _ _ _ _ (fun e => hne (by injection e with e; exact e.symm))).trans p1
      go_wp2_with fail
      generalize hw2 : w1.setCell ⟨w.heap.size + 1, 0, none⟩ (.string Q[0]) = w2 at HB2 HR2 hbw2 HP1
      clear hw2 p0 p1 b0 b1 b2 bf r0 r1 r2 rf HB1 HR1 hbw hr6 HQ
      have t1 := HP1.out
      have e1 : IntKind.i64.wrap ((Q[1].size : Int) - 1) = (Q[1].size : Int) - 1 := IntWalk.i64_in _ (by omega)
      have e2 : (0 : Int) ≤ (Q[1].size : Int) - 1 := by omega
      have e4 : (Q[1].size : Int) - 1 ≤ (Q[1].size : Int) := by omega
      have e3 : ((Q[1].size : Int) - 1).toNat = Q[1].size - 1 := by omega
      go_region_held_law (fun w' => w'.cell? ⟨b6, off6 + 1, none⟩ = some (.string Q[1])) (first | exact t1 | go_keep) (first | (go_at_call 66; refine (cut_any _ _ _ (Nat.le_trans (ext_size _ _ _) (Nat.le_trans hq1 hs1))).mono ?_; rintro e w3 ⟨v7, rfl, ho7, hb3⟩; have t3 : w3.cell? ⟨b6, off6 + 1, none⟩ = some (.string Q[1]) := (hb3.cell (p := ⟨b6, off6 + 1, none⟩) (Go.block_lt_of_cell t1)).trans t1))
      have hb3' : Below w2.heap.size w2 w3 := ⟨hb3.os, hb3.tape, hb3.output, hb3.size, hb3.block⟩
      have HB3 := Lib.hid (HB2.out.at_ hb3')
      have HR3 := Lib.hid (HR2.out.at_ hb3')
      have hbw3 : Below w.heap.size w w3 := below_after hbw2 hb3' hbw2.size
      have HG3 := Lib.hid (ho7.lower (lo' := w.heap.size + 2) (by have := HB2.out.lt; simp; omega))
      have hGl := cutB_len (Q[1].extract 0 (Q[1].size - 1)) 44
      have hGs := fun x (hx : x ∈ cutB (Q[1].extract 0 (Q[1].size - 1)) 44) => cutB_size hx
      have hGe := ext_size Q[1] 0 (Q[1].size - 1)
      generalize cutB (Q[1].extract 0 (Q[1].size - 1)) 44 = G at HC HG3 hGl hGs
      have hGm : G.length ≤ 1048577 := by omega
      have HGS : Hid (∀ x ∈ G, x.size ≤ 1048576) := fun x hx => by have := hGs x hx; omega
      obtain ⟨A7, cap7, rfl, _⟩ := HG3.out.form (by unfold maxLen; omega)
      clear hb3 hb3' t3 t1 HB2 HR2 HP1 ho7 hGl hGs hGe e1 e2 e3 e4 hbw2
      go_wp2_with fail
      go_loopw [8] (fun i wr => ∃ k : Nat, k ≤ G.length ∧ k ≤ 4 ∧ i = .int .i64 k ∧ ∃ v, Box3 wr (w.heap.size + 1) Q[0] v 0 ∧ OTys wr (w.heap.size + 2) v ((G.take k).map (tyP l)) ((G.take k).map (tyP l)).length ∧ Box3 wr w.heap.size ⟨#[]⟩ (.slice none 0 0) 0 ∧ OStrs wr (w.heap.size + 2) (.slice A7 G.length cap7) G ∧ Below w.heap.size w wr) (fun i _ => 4 - (intOf i).toNat)
      case atStart => exact ⟨0, by omega, by omega, rfl, _, HB3.out, by rw [List.take_zero]; exact OTys.nil _ _, HR3.out, HG3.out, hbw3⟩
      case round =>
        clear HB3 HR3 HG3 hbw3
        obtain ⟨k, hk, hk4, rfl, v, hbx, hot, hrx, hgx, hb⟩ := hrel
        have HBX := Lib.hid hbx
        have HOT := Lib.hid hot
        have HRX := Lib.hid hrx
        have HGX := Lib.hid hgx
        clear hbx hot hrx hgx
        have hsz := HBX.out.lt
        by_cases hlt : k < G.length ∧ k ≤ 3
        · obtain ⟨hlt1, hlt3⟩ := hlt
          have hkI : (k : Int) < (G.length : Int) := by omega
          have hk3I : (k : Int) ≤ 3 := by omega
          obtain ⟨A8, cap8, e8, hr8⟩ := HGX.out.form (by unfold maxLen; omega)
          injection e8 with e8a e8b e8c
          subst e8a e8c
          obtain ⟨b7, off7, e9, hbB7, g0⟩ := hr8.2 k hlt1
          subst e9
          have hGk := HGS.out G[k] (List.getElem_mem hlt1)
          have HTK := Lib.hid (take_map_len l G hlt1)
          have hLk : ((G.take k).map (tyP l)).length = k := by simp; omega
          generalize hT : tyP l G[k] = T at HTK
          generalize hLL : (G.take k).map (tyP l) = L at HTK HOT hLk
          have HT := Lib.hid hT
          obtain ⟨xs, ho, hx⟩ := HOT.out
          have HO := Lib.hid ho
          have HX := Lib.hid hx
          have hLm : L.length + 1 ≤ maxLen := by unfold maxLen; omega
          have hLb : (L.length + 1) * 16 ≤ 140737488355328 := by omega
          have c1 := HBX.out.c1
          have HRl : Hid (RStrs wr A l) := Hr.out.at_ hb
          clear hT hLL ho hx hr8 HOT
          go_wp2_with fail
          go_region_law (first | (refine step_append_lies _ (by rfl) _ _ _ (by rfl) (w.heap.size + 2) 25 i0 _ 2 16 Try.underlying89 hi hz0 hz1 hz2 rfl (by omega) v L.length xs (by rfl) (HO4.out.alloc _) ⟨w4.heap.size, 0, none⟩ 1 1 [.int .i64 T.data, .int .i64 T.index] (by rfl) (by rfl) (cell_two_new _ _ _ _) (by simp [Value.oneCell']) (by omega) hLm hLb (by simp; omega) (w4.heap.size + 1) (by simp) ?_; intro gg cap5 w5 hown5 hgrow5 hat5 hlt5; have HBX5 : Hid (Box3 w5 (w.heap.size + 1) Q[0] v 0) := HBX4.out.keep ((hgrow5.block (w.heap.size + 1) (by simp; omega) (fun e => by have := (HO4.out.lt _ e.symm).1; omega)).trans (Below.heap_alloc _ _ _ (by omega))); have c5 := HBX5.out.c1; have f5 := HBX5.out.fz 1) | (go_simp; go_at_call 84; refine (parseType_v _ l _ _ T HT.out _ (HRl.out.at_ ((Below.refl _ _).drew)) hGk).mono ?_; rintro e w4 ⟨rfl, hb4⟩; have hb4' : Below wr.heap.size wr w4 := ⟨hb4.os, hb4.tape, hb4.output, hb4.size, hb4.block⟩; have HO4 := Lib.hid (own_below HO.out hb4'); have HBX4 := Lib.hid (HBX.out.at_ hb4'); have hs4 := hb4'.size; have c4 := HBX4.out.c1; have c4a : ∀ o, (w4.alloc o).cell? ⟨w.heap.size + 1, 1, none⟩ = some v := fun o => (World.cell?_alloc_lt _ _ _ HBX4.out.lt).trans c4))
          all_goals
            have hown6 : w5.ownsRow (w.heap.size + 2) 25 2 (.slice (some ⟨gg, 0, none⟩) (k + 1) cap5) (L.length + 1) (xs ++ [.int .i64 T.data, .int .i64 T.index]) := by
              have := hown5; rw [hLk] at this ⊢; exact this
            have hz31 : ∀ (b : Nat) (cs : Array Value) (t : TypeId), t ≠ 105 → w5.heap[b]? = some (Obj.cells cs t (0, 0)) → b ≠ w.heap.size + 1 := fun b cs t ht hb => other_blk HBX5.out hb ht.symm
            have HBXF : Hid (Box3 (w5.setCell ⟨w.heap.size + 1, 1, none⟩ (.slice (some ⟨gg, 0, none⟩) (k + 1) cap5)) (w.heap.size + 1) Q[0] (.slice (some ⟨gg, 0, none⟩) (k + 1) cap5) 0) := HBX5.out.set1 _
            have HOTF : Hid (OTys (w5.setCell ⟨w.heap.size + 1, 1, none⟩ (.slice (some ⟨gg, 0, none⟩) (k + 1) cap5)) (w.heap.size + 2) (.slice (some ⟨gg, 0, none⟩) (k + 1) cap5) ((G.take (k + 1)).map (tyP l)) ((G.take (k + 1)).map (tyP l)).length) := by
              have h5 : OTys w5 (w.heap.size + 2) (.slice (some ⟨gg, 0, none⟩) (k + 1) cap5) ((G.take (k + 1)).map (tyP l)) ((G.take (k + 1)).map (tyP l)).length := by
                rw [HTK.out]; exact OTys.app HX.out HO.out.1 hown6
              exact h5.kept2 (fun b cs hb => Below.heap_setCell _ _ _ _ (hz31 b cs 25 (by decide) hb))
            have HRXF : Hid (Box3 (w5.setCell ⟨w.heap.size + 1, 1, none⟩ (.slice (some ⟨gg, 0, none⟩) (k + 1) cap5)) w.heap.size ⟨#[]⟩ (.slice none 0 0) 0) :=
              (HRX.out.at_ hb4').keep ((Below.heap_setCell _ _ _ _ (by simp)).trans ((hgrow5.block w.heap.size (by simp; omega) (fun e => by have := (HO4.out.lt _ e.symm).1; omega)).trans (Below.heap_alloc _ _ _ (by omega))))
            have HGXF : Hid (OStrs (w5.setCell ⟨w.heap.size + 1, 1, none⟩ (.slice (some ⟨gg, 0, none⟩) (k + 1) cap5)) (w.heap.size + 2) (.slice (some ⟨b7, off7, none⟩) G.length cap7) G) := by
              have h4 : OStrs (w4.alloc (.cells #[.int .i64 T.data, .int .i64 T.index] 25)) (w.heap.size + 2) (.slice (some ⟨b7, off7, none⟩) G.length cap7) G := World.ownsRow.alloc (HGX.out.at_ hb4') _
              have h5 : OStrs w5 (w.heap.size + 2) (.slice (some ⟨b7, off7, none⟩) G.length cap7) G := h4.kept2 (fun b cs hb => hgrow5.block b (heap_lt hb) (own_ne (HO4.out.alloc _) hb (by decide)))
              exact h5.kept2 (fun b cs hb => Below.heap_setCell _ _ _ _ (hz31 b cs 9 (by decide) hb))
            have hbF : Below w.heap.size w (w5.setCell ⟨w.heap.size + 1, 1, none⟩ (.slice (some ⟨gg, 0, none⟩) (k + 1) cap5)) := (((below_after hb hb4' hb.size).alloc (by omega) _).grown hgrow5 (by simp; omega) (fun g' e => by have := (HO4.out.lt g' e).1; omega)).setCell (by simp) _
            clear hown5 hown6 hgrow5 hat5 hlt5 hb4 hb4' HBX4 HO4 hs4 c4 c4a HBX5 c5 f5 HBX HRX HGX HO HX HT HTK c1 g0
            go_wp2_with fail
            go_roundw
            case rel => exact ⟨k + 1, by omega, by omega, by go_num, _, HBXF.out, HOTF.out, HRXF.out, HGXF.out, hbF⟩
            case measure => simp [intOf]; omega
        · have hTk : G.take k = G.take 4 := by
            by_cases h1 : k < G.length
            · have : k = 4 := by omega
              rw [this]
            · rw [List.take_of_length_le (by omega), List.take_of_length_le (by omega)]
          have HAR : Hid (OTys wr (w.heap.size + 2) v ((G.take 4).map (tyP l)) ((G.take 4).map (tyP l)).length) := by unfold Hid; rw [← hTk]; exact HOT.out
          obtain ⟨A9, cap9, hv9, _⟩ := HAR.out.form (by simp; unfold maxLen; omega)
          generalize ((G.take 4).map (tyP l)).length = n9 at hv9
          subst hv9
          have r0 := HRX.out.c0
          have r1 := HRX.out.c1
          have r2 := HRX.out.c2
          have rf := HRX.out.fz
          have b0 := HBX.out.c0
          have b1 := HBX.out.c1
          have b2 := HBX.out.c2
          have hbF : Below w.heap.size w (((wr.setCell ⟨w.heap.size, 0, none⟩ (.string Q[0])).setCell ⟨w.heap.size, 1, none⟩ (.slice A9 n9 cap9)).setCell ⟨w.heap.size, 2, none⟩ (.int .i64 0)) := ((hb.setCell (by simp) _).setCell (by simp) _).setCell (by simp) _
          have HOTF : Hid (OTys (((wr.setCell ⟨w.heap.size, 0, none⟩ (.string Q[0])).setCell ⟨w.heap.size, 1, none⟩ (.slice A9 n9 cap9)).setCell ⟨w.heap.size, 2, none⟩ (.int .i64 0)) w.heap.size (.slice A9 n9 cap9) ((G.take 4).map (tyP l)) ((G.take 4).map (tyP l)).length) := by
            refine ((HAR.out.lower (by omega)).kept2 (fun b cs hb => ?_))
            have hne : b ≠ w.heap.size := other_blk HRX.out hb (by decide)
            rw [Below.heap_setCell _ _ _ _ hne, Below.heap_setCell _ _ _ _ hne, Below.heap_setCell _ _ _ _ hne]
          clear hTk HAR HOT
          by_cases hlt1 : k < G.length
          · have hkI : (k : Int) < (G.length : Int) := by omega
            have hk3I : 3 < (k : Int) := by omega
            go_wp2_with fail
            exact bodyPost_ret (v := .agg #[.string Q[0], .slice A9 n9 cap9, .int .i64 0]) (by simp [results, Try.results67, go_sem, r0, r1, r2]) rfl (retCt _ _ _ _ _ _ _ (by rw [HC.out]) (by rw [HC.out]) (by rw [HC.out]; exact HOTF.out) hbF)
          · have hkI : (G.length : Int) ≤ (k : Int) := by omega
            go_wp2_with fail
            exact bodyPost_ret (v := .agg #[.string Q[0], .slice A9 n9 cap9, .int .i64 0]) (by simp [results, Try.results67, go_sem, r0, r1, r2]) rfl (retCt _ _ _ _ _ _ _ (by rw [HC.out]) (by rw [HC.out]) (by rw [HC.out]; exact HOTF.out) hbF)
end Go.Proofs.Ytakhobhmplneeaa
/-
  The function FnExactTypeValid returns true for every list of data types and every type, and both read behind the call as they read before. No condition.
-/
namespace Go.Proofs.Ytakhobhmplneeaa
open Go.RowKit Go.Deep
open Go.ChangeShapes Go.WideShapes Go.ChangeAt
set_option maxRecDepth 100000
set_option linter.unusedVariables false
/-- A type in a block of its own. -/
def Bx (w : World) (b : Nat) (t : Ty) : Prop := w.cell? ⟨b, 0, none⟩ = some (.int .i64 t.data) ∧ w.cell? ⟨b, 1, none⟩ = some (.int .i64 t.index)
theorem Bx.at_ {w w' : World} {b : Nat} {t : Ty} (h : Bx w b t) (hb : Below w.heap.size w w') : Bx w' b t :=
  ⟨(hb.cell (p := ⟨b, 0, none⟩) (Go.block_lt_of_cell h.1)).trans h.1, (hb.cell (p := ⟨b, 1, none⟩) (Go.block_lt_of_cell h.2)).trans h.2⟩
theorem Bx.new (w : World) (t : Ty) (T : TypeId) : Bx (w.alloc (.cells #[.int .i64 t.data, .int .i64 t.index] T)) w.heap.size t := ⟨by simp [go_sem], by simp [go_sem]⟩
end Go.Proofs.Ytakhobhmplneeaa
/-
  The texts of types and constructors: the document's functions. No statement is proved here.
-/
namespace Go.Proofs.Ytakhobhmplneeaa
open Go.RowKit Go.Deep
set_option maxRecDepth 100000
set_option linter.unusedVariables false
theorem ret_str {a b : ByteArray} (h : a = b) : Ending.returned (.string a) = .returned (.string b) := by rw [h]
/-- A digit. -/
def dig (n : Int) : ByteArray := one (48 + n) ++ ⟨#[]⟩
theorem dig_size (n : Int) : (dig n).size = 1 := rfl
def ixT (i : Int) : ByteArray := if i = 0 then ⟨#[]⟩ else if i = -1 then ⟨#[42]⟩ else dig i
theorem ixT_size (i : Int) : (ixT i).size ≤ 1 := by
  unfold ixT
  split
  · exact Nat.zero_le _
  · split
    · exact Nat.le_refl _
    · rw [dig_size]; exact Nat.le_refl _
theorem dec_any (n : Int) (w : World) (h0 : 0 ≤ n) (h9 : n ≤ 9) :
    Calls Try.prog 92 #[.int .i64 n] w fun e w' => e = .returned (.string (dig n)) ∧ Below w.heap.size w w' := by
  have hcv := conv_one w (48 + n)
  have hos := one_size (48 + n)
  have HB : Hid (∀ o : Obj, Below w.heap.size w (w.alloc o)) := fun o => (Below.refl _ _).alloc (Nat.le_refl _) _
  have HD : Hid (dig n = one (48 + n) ++ ⟨#[]⟩) := rfl
  go_enter Try.func92, Try.ntmps92
  go_wp2_with fail
  go_loop [0, 3] (fun q t => q = .int .i64 n ∧ t = .string ⟨#[]⟩) (fun _ _ => 0)
  case atStart => exact ⟨rfl, rfl⟩
  case round =>
    obtain ⟨rfl, rfl⟩ := hrel
    go_wp2_with fail
    go_ret
    exact ⟨ret_str HD.out.symm, HB.out _⟩
theorem idx_any (i : Int) (w : World) (h0 : -1 ≤ i) (h9 : i ≤ 9) :
    Calls Try.prog 94 #[.int .i64 i] w fun e w' => e = .returned (.string (ixT i)) ∧ Below w.heap.size w w' := by
  by_cases h1 : i = 0
  · have q := ieq_t h1
    have HD : Hid (ixT i = ⟨#[]⟩) := if_pos h1
    clear h1
    go_enter Try.func94, Try.ntmps94
    go_wp2_with fail
    go_ret
    exact ⟨ret_str HD.out.symm, Below.refl _ _⟩
  · by_cases h2 : i = -1
    · have q := ieq_f h1
      have q2 := ieq_t h2
      have HD : Hid (ixT i = ⟨#[42]⟩) := by unfold Hid ixT; rw [if_neg h1, if_pos h2]
      clear h1 h2
      go_enter Try.func94, Try.ntmps94
      go_wp2_with fail
      go_ret
      exact ⟨ret_str HD.out.symm, Below.refl _ _⟩
    · have q := ieq_f h1
      have q2 := ieq_f h2
      have HD : Hid (ixT i = dig i) := by unfold Hid ixT; rw [if_neg h1, if_neg h2]
      have h3 : 0 ≤ i := by omega
      clear h1 h2
      go_enter Try.func94, Try.ntmps94
      go_wp2_with fail
      refine (dec_any _ _ h3 h9).mono ?_
      rintro e w1 ⟨rfl, hb⟩
      go_wp2_with fail
      go_ret
      exact ⟨ret_str HD.out.symm, hb⟩
/-- The text of a type. -/
def tyT (l : List Da) (t : Ty) : ByteArray := if t.data = -1 then ⟨#[73]⟩ else (l.getD t.data.toNat default).name ++ ixT t.index
theorem tyT_int {l : List Da} {t : Ty} (h : t.data = -1) : tyT l t = ⟨#[73]⟩ := if_pos h
theorem tyT_data {l : List Da} {d : Nat} {i : Int} (hd : d < l.length) : tyT l ⟨d, i⟩ = l[d].name ++ ixT i := by
  have e : l.getD d default = l[d] := by simp [List.getD, List.getElem?_eq_getElem hd]
  unfold tyT
  rw [if_neg (by simp only; omega)]
  simp only [Int.toNat_natCast, e]
theorem type_int (A : Option Addr) (n cap : Nat) (i : Int) (w : World) :
    Calls Try.prog 91 #[.slice A n cap, .agg #[.int .i64 (-1), .int .i64 i]] w fun e w' => e = .returned (.string ⟨#[73]⟩) ∧ Below w.heap.size w w' := by
  have HB : Hid (∀ o : Obj, Below w.heap.size w (w.alloc o)) := fun o => (Below.refl _ _).alloc (Nat.le_refl _) _
  go_enter Try.func91, Try.ntmps91
  go_wp2_with fail
  go_ret
  exact ⟨rfl, HB.out _⟩
set_option maxHeartbeats 800000 in
theorem type_data (A : Option Addr) (l : List Da) (cap d : Nat) (i : Int) (w : World) (hr : RDas w w.heap.size A l) (hd : d < l.length) (hn : l[d].name.size ≤ 100) (h0 : -1 ≤ i) (h9 : i ≤ 9) :
    Calls Try.prog 91 #[.slice A l.length cap, .agg #[.int .i64 d, .int .i64 i]] w fun e w' => e = .returned (.string (l[d].name ++ ixT i)) ∧ Below w.heap.size w w' := by
  have hm := hr.1
  unfold maxLen at hm
  obtain ⟨b, off, rfl, hbB, A', cp, c0, c1, _, _⟩ := hr.2 d hd
  clear hr c1
  have q0 : ((d : Int) == -1) = false := ieq_f (by omega)
  have hdI : (d : Int) < (l.length : Int) := by omega
  have hd0 : (0 : Int) ≤ (d : Int) := Int.natCast_nonneg _
  have hxs := ixT_size i
  generalize hw0 : w.alloc (.cells #[.int .i64 d, .int .i64 i] 25) = w0
  have x0 : w0.cell? ⟨w.heap.size, 0, none⟩ = some (.int .i64 d) := by rw [← hw0]; simp [go_sem]
  have x1 : w0.cell? ⟨w.heap.size, 1, none⟩ = some (.int .i64 i) := by rw [← hw0]; simp [go_sem]
  have x2 : w0.cell? ⟨b, off + d * 2, none⟩ = some (.string l[d].name) := by rw [← hw0]; exact (World.cell?_alloc_lt _ _ _ hbB).trans c0
  have hb0 : Below w.heap.size w w0 := by rw [← hw0]; exact (Below.refl _ _).alloc (Nat.le_refl _) _
  have HW := Lib.hid hw0
  clear hw0 c0
  go_enter Try.func91, Try.ntmps91
  go_wp2_with fail
  rw [HW.out]
  have hadd : ∀ w : World, (Op.stringOp .add l[d].name (ixT i)).run Try.prog w = .ok (.string (l[d].name ++ ixT i)) w := fun w => run_string_add_sum w _ _ (by omega)
  go_region_held3 (fun w' => w'.cell? ⟨w.heap.size, 0, none⟩ = some (.int .i64 d) ∧ w'.cell? ⟨w.heap.size, 1, none⟩ = some (.int .i64 i) ∧ w'.cell? ⟨b, off + d * 2, none⟩ = some (.string l[d].name)) (first | exact ⟨x0, x1, x2⟩ | exact ⟨y0, y1, y2⟩ | go_keep) (first | (go_at_call 94; refine (idx_any _ _ h0 h9).mono ?_; rintro e w1 ⟨rfl, hb1⟩; have hb1' : Below w0.heap.size w0 w1 := ⟨hb1.os, hb1.tape, hb1.output, hb1.size, hb1.block⟩; have y0 := (hb1'.cell (p := ⟨w.heap.size, 0, none⟩) (Go.block_lt_of_cell x0)).trans x0; have y1 := (hb1'.cell (p := ⟨w.heap.size, 1, none⟩) (Go.block_lt_of_cell x1)).trans x1; have y2 := (hb1'.cell (p := ⟨b, off + d * 2, none⟩) (Go.block_lt_of_cell x2)).trans x2))
  have hbF := below_after hb0 hb1' hb0.size
  go_wp2_with fail
  go_ret
  exact ⟨rfl, hbF⟩
end Go.Proofs.Ytakhobhmplneeaa
