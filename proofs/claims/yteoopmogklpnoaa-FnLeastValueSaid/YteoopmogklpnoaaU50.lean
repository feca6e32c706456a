/-
  DepthOf of the program. No statement is proved here.
-/
import Derived.Test.YteoopmogklpnoaaU49
import Derived.Test.YteoopmogklpnoaaU47
import Derived.Test.YteoopmogklpnoaaU37
namespace Go.Proofs.Yteoopmogklpnoaa
open Go.RowKit Go.Sort Go.Deep
set_option maxRecDepth 100000
set_option linter.unusedVariables false
set_option maxHeartbeats 16000000 in
theorem dp_impl (D : Option Addr) (v : Vl) (cp d : Nat) (PP : Nat → Prop) (w : World) (hp : OVc d w PP D v.kids) (hPP : ∀ b, PP b → b < w.heap.size) (hcp : v.kids.length ≤ cp ∧ cp ≤ maxLen) (hN : wV v ≤ 1048576) :
    Calls Try.prog 16 #[.agg #[.int .i64 v.ctor, .int .i64 v.n, .slice D v.kids.length cp]] w fun e w' => e = .returned (.int .i64 (dV v)) ∧ Below w.heap.size w w' := by
  generalize hwx : (((w.alloc (.cells #[.int .i64 v.ctor, .int .i64 v.n, .slice D v.kids.length cp] 28)).alloc (.map #[] 0)).alloc (.cells #[.int .i64 v.ctor, .int .i64 v.n, .slice D v.kids.length cp] 28)).alloc (.cells #[.slice (some ⟨w.heap.size + 2, 0, none⟩) 1 1] 26) = wS
  have hbS : Below w.heap.size w wS := by rw [← hwx]; exact ((((Below.refl _ _).alloc (Nat.le_refl _) _).alloc (by simp) _).alloc (by simp; omega) _).alloc (by simp; omega) _
  have HSZ : Hid (wS.heap.size = w.heap.size + 4) := by unfold Hid; rw [← hwx]; simp
  have HMK : MapKw wS (w.heap.size + 1) [] := by
    rw [← hwx]
    refine MapKw.keep (w := (w.alloc (.cells #[.int .i64 v.ctor, .int .i64 v.n, .slice D v.kids.length cp] 28)).alloc (.map #[] 0)) ?_ (by rw [Below.heap_alloc _ _ _ (by simp), Below.heap_alloc _ _ _ (by simp)])
    have := MapKw.made (w.alloc (.cells #[.int .i64 v.ctor, .int .i64 v.n, .slice D v.kids.length cp] 28))
    simpa using this
  have HL1 : wS.heap[w.heap.size + 2]? = some (.cells #[.int .i64 v.ctor, .int .i64 v.n, .slice D v.kids.length cp] 28 (0, 0)) := by rw [← hwx]; exact (Below.heap_alloc _ _ _ (by simp)).trans (by have h := heap_newV ((w.alloc (.cells #[.int .i64 v.ctor, .int .i64 v.n, .slice D v.kids.length cp] 28)).alloc (.map #[] 0)) (.cells #[.int .i64 v.ctor, .int .i64 v.n, .slice D v.kids.length cp] 28); rw [show ((w.alloc (.cells #[.int .i64 v.ctor, .int .i64 v.n, .slice D v.kids.length cp] 28)).alloc (.map #[] 0)).heap.size = w.heap.size + 2 by simp] at h; exact h)
  have HL2 : wS.cell? ⟨w.heap.size + 3, 0, none⟩ = some (.slice (some ⟨w.heap.size + 2, 0, none⟩) 1 1) := by
    have h := heap_newV (((w.alloc (.cells #[.int .i64 v.ctor, .int .i64 v.n, .slice D v.kids.length cp] 28)).alloc (.map #[] 0)).alloc (.cells #[.int .i64 v.ctor, .int .i64 v.n, .slice D v.kids.length cp] 28)) (.cells #[.slice (some ⟨w.heap.size + 2, 0, none⟩) 1 1] 26)
    rw [show (((w.alloc (.cells #[.int .i64 v.ctor, .int .i64 v.n, .slice D v.kids.length cp] 28)).alloc (.map #[] 0)).alloc (.cells #[.int .i64 v.ctor, .int .i64 v.n, .slice D v.kids.length cp] 28)).heap.size = w.heap.size + 3 by simp, hwx] at h
    exact (cell_of_blk h 0).trans rfl
  have HWS := Lib.hid hwx
  clear hwx
  have hpS := hp.fr _ (Fr.below (P := fun _ => False) hbS) (fun _ _ h => h)
  have HI0 : Hid (DpI v (w.heap.size + 1) wS (.slice (some ⟨w.heap.size + 3, 0, none⟩) 1 1) wS 1 [LvE.mk (some ⟨w.heap.size + 2, 0, none⟩) [v] 1 d PP] []) := by
    refine ⟨⟨_, _, rfl, fun _ => ⟨w.heap.size + 3, rfl, by rw [HSZ.out]; omega, fun j hj => ?_⟩⟩, fun x hx => ?_, List.pairwise_singleton _ _, fun _ _ k hk => (by cases hk), HMK, fun k hk => (by cases hk), Nat.le_refl _, ?_, ?_, by simp, Fr.refl _ _⟩
    · have : j = 0 := by simp at hj; omega
      subst this
      exact HL2
    · rw [List.mem_singleton.1 hx]
      exact ⟨SfV.single hpS hcp HL1 (fun b h => by have := hPP b h; have := HSZ.out; omega) (by omega), by simp⟩
    · show dV v + 1 = 1 + max (max (dV v) 0) 0
      omega
    · show 0 + (wVs [v] + 0) ≤ wV v + 1
      rw [wVs, wVs]; omega
  have HNN := Lib.hid hN
  have HBS := Lib.hid hbS
  clear hp hPP hcp hN hbS HMK HL1 HL2 hpS
  have hmm := @run_makeMap Try.prog
  go_enter Try.func16, Try.ntmps16
  go_wp2_with fail
  rw [HWS.out]
  clear hmm
  go_loopw [4, 5] (fun u i wr => ∃ j L S, i = .int .i64 (j : Nat) ∧ Hid (DpI v (w.heap.size + 1) wS u wr j L S)) (fun _ i _ => dV v + 1 - (intOf i).toNat)
  case atStart => exact ⟨1, _, _, rfl, HI0.out⟩
  case round =>
    obtain ⟨j, L, S, rfl, HI⟩ := hrel
    clear HI0
    have hlen := HI.out.map.len
    have hcnt : (j : Int) ≤ (S.length : Int) + 1 := by have := HI.out.cnt; omega
    have hnel : ¬ (L.map (fun x => x.l)) = [] := by simp; exact HI.out.ne
    have hdd := nbs_d _ hnel (fun l hl => by
      obtain ⟨x, hx, rfl⟩ := List.mem_map.1 hl; exact (HI.out.ok x hx).2)
    have HDD := Lib.hid hdd
    have hjd : j ≤ dV v := by have := HI.out.dep; omega
    have hjb : dV v ≤ 1048577 := by have := dV_le v; have := HNN.out; omega
    have hsb : S.length ≤ 1048577 := by have := HI.out.wgt; have := HNN.out; omega
    have HLB := Lib.hid (lb_any wr (w.heap.size + 1) L _ HI.out.row HI.out.ok HI.out.ap (by have := HI.out.wgt; have := HNN.out; omega))
    have hfs := HI.out.fr.size
    clear hnel hdd
    go_upto_region 6 with fail
    go_cut [4] (fun s4 wx => ∃ A1 c1 B S1, s4 = .slice A1 B.length c1 ∧ LbI wr (w.heap.size + 1) (fun b => ∃ x ∈ L, x.P b) wr.heap.size (wr.heap.size + 1) (fun _ => False) (nbs (L.map (fun x => x.l))) (.slice A1 B.length c1) wx B S1)
    case first =>
      go_wp2_with (go_at_call 52; refine HLB.out.mono ?_; rintro e1 w1 ⟨v1, B, S1, rfl, hI⟩)
      go_meet
      obtain ⟨A1, c1, rfl, _⟩ := hI.row
      exact ⟨A1, c1, B, S1, rfl, hI⟩
    obtain ⟨A1, c1, B, S1, rfl, hLI⟩ := hcut
    have HLI := Lib.hid hLI
    have hbw := hLI.below
    have hsw := hbw.size
    clear hLI HLB hlen
    by_cases hB : B = []
    · have HD : Hid (j = dV v) := by
        have h1 := HI.out.dep
        have h2 := HLI.out.lists
        have h3 := HDD.out
        rw [hB] at h2
        rw [← h2] at h3
        have h4 : dLs ([] : List (List Vl)) = 0 := rfl
        have h5 : dLs (List.map (fun y : LvE => y.l) []) = 0 := rfl
        unfold Hid; omega
      have hbl : B.length = 0 := by rw [hB]; rfl
      have u1 : ((B.length : Int) == 0) = true := ieq_t (by omega)
      have HFR := Lib.hid (HI.out.fr.trans (Fr.below hbw))
      clear hB hbl
      go_wp2_with fail
      go_ret
      exact ⟨ret_i64 (by have := HD.out; omega), HBS.out.trans (HFR.out.to (B := w.heap.size) (by have := HSZ.out; omega) (fun b hb e => by omega))⟩
    · have hbl : 0 < B.length := List.length_pos_iff.2 hB
      have u1 : ((B.length : Int) == 0) = false := ieq_f (by omega)
      have HBN := Lib.hid hB
      obtain ⟨A2, c2, hA2, hrw⟩ := HLI.out.row
      injection hA2 with h1 h2 h3
      subst h1 h3
      have hBb : B.length ≤ 1048577 := by
        have h1 := HLI.out.len
        have h2 := (nbs_w (L.map (fun x => x.l))).1
        have h3 := HI.out.wgt
        have h4 := HNN.out
        omega
      obtain ⟨g, rfl, hg, hcell⟩ := hrw hbl
      have HCELL := Lib.hid hcell
      have hgm : ¬ g = w.heap.size + 1 := by
        intro e
        obtain ⟨xs, ho, _⟩ := HLI.out.own
        obtain ⟨_, _, _, hof⟩ := own_form ho
        have := (hof g rfl).1
        have := HSZ.out; have := HI.out.fr.size; omega
      have HF1 : Hid (Fr (fun b => b = w.heap.size + 1) wr wc) := Fr.below hbw
      have hmr : w.heap.size + 1 < wr.heap.size := by have := HSZ.out; omega
      have HMC : Hid (MapKw wc (w.heap.size + 1) S) := HI.out.map.keep (hbw.block _ hmr)
      have hww : ∃ ww, ww = wc := ⟨_, rfl⟩
      obtain ⟨ww, rfl⟩ := hww
      have hwv : ∃ wv, wv = wr := ⟨_, rfl⟩
      obtain ⟨wv, rfl⟩ := hwv
      clear hB hrw hcell hbw
      go_wp2_with fail
      go_loopw [27] (fun i wq => ∃ k : Nat, k ≤ B.length ∧ i = .int .i64 k ∧ Hid (MapKw wq (w.heap.size + 1) (S ++ (B.take k).map LvE.key)) ∧ Hid (Fr (fun b => b = w.heap.size + 1) ww wq)) (fun i _ => B.length - (intOf i).toNat)
      case atStart => exact ⟨0, by omega, rfl, by rw [List.take_zero, List.map_nil, List.append_nil]; exact HMC, Fr.refl _ _⟩
      case round =>
        have hwq : ∃ wq, wq = wr := ⟨_, rfl⟩
        obtain ⟨wq, rfl⟩ := hwq
        obtain ⟨k, hk, rfl, HM, HF⟩ := hrel
        have hwq0 := HF.out.size
        by_cases hlt : k < B.length
        · obtain ⟨hsf, hne, hcap, ge, ce, hAe, hge, hgem, hnpe, hhe⟩ := HLI.out.ok B[k] (List.getElem_mem hlt)
          have c0 := (HF.out.cellV (a := ⟨g, k, none⟩) hg hgm).trans (HCELL.out k hlt)
          rw [hAe] at c0
          have hgq : g < wq.heap.size := by omega
          have hkI : (k : Int) < (B.length : Int) := by omega
          have HKO : Hid (∀ W', Calls Try.prog 53 #[.slice (some ⟨ge, 0, none⟩) B[k].l.length B[k].cap] W' fun e w' => e = .returned (.agg #[.pointer (some ⟨ge, 0, none⟩), .int .i64 B[k].l.length]) ∧ Below W'.heap.size W' w') := fun W' => keyOfV_any ge _ _ W' hsf.1 (List.length_pos_iff.2 hne)
          have HKE : Hid (B[k].key = (Kw.mk (some ⟨ge, 0, none⟩) B[k].l.length)) := by unfold Hid LvE.key; rw [hAe]
          have hnew : ¬ (Kw.mk (some ⟨ge, 0, none⟩) B[k].l.length) ∈ S ++ (B.take k).map LvE.key := by
            rw [← HKE.out]
            exact DpI.keys HLI.out (fun k' hk' a ha hx => by obtain ⟨x, hx, hxp⟩ := hx; exact HI.out.met x hx k' hk' a ha hxp) hlt
          have HNW := Lib.hid hnew
          have HFF : Hid (Fr (fun b => b = w.heap.size + 1) wv wq) := HF1.out.trans HF.out
          have HLK : Hid (∀ k' ∈ S ++ B.map LvE.key, LyV wq (w.heap.size + 1) k'.a) := fun k' hk' => by
            rcases List.mem_append.1 hk' with hk' | hk'
            · exact (HI.out.lies k' hk').fr HFF.out
            · obtain ⟨y, hy, rfl⟩ := List.mem_map.1 hk'
              obtain ⟨_, _, _, g2, c2, e2, hg2, hgm2, _, hh2⟩ := HLI.out.ok y hy
              refine LyV.fr (fun x hx => ?_) HFF.out
              have hx : y.A = some x := hx
              rw [e2] at hx
              cases hx
              exact ⟨hg2, hgm2, c2, _, hh2⟩
          have hmq : w.heap.size + 1 < wq.heap.size := by have := HSZ.out; have := HFF.out.size; omega
          have HTK : Hid (S ++ (B.take (k + 1)).map LvE.key = S ++ (B.take k).map LvE.key ++ [(Kw.mk (some ⟨ge, 0, none⟩) B[k].l.length)]) := by
            unfold Hid
            rw [← List.take_append_getElem hlt, List.map_append, ← List.append_assoc, ← HKE.out]
            rfl
          clear hsf hne hcap hnpe hhe hnew
          go_wp2_with (first
            | (at_mapUpdate; (with_reducible refine wp_mapUpdate_kw rfl _ _ _ rfl (w.heap.size + 1) (S ++ (B.take k).map LvE.key) (Kw.mk (some ⟨ge, 0, none⟩) B[k].l.length) rfl HM2.out HL2.out HA2.out HNW.out rfl rfl ?_); intro w5 hm5 hg5; have HM5 := Lib.hid hm5; have HG5 := Lib.hid hg5; clear hm5 hg5)
            | (go_at_call 53; refine (HKO.out _).mono ?_; rintro e2 w2 ⟨rfl, hb2⟩;
                have HB2 := Lib.hid hb2;
                have HM2 : Hid (MapKw w2 (w.heap.size + 1) (S ++ (B.take k).map LvE.key)) := HM.out.keep (hb2.block _ hmq);
                have HL2 : Hid (LiesKw w2 (Kw.mk (some ⟨ge, 0, none⟩) B[k].l.length)) := (show LyV w2 (w.heap.size + 1) (some ⟨ge, 0, none⟩) from (show LyV wq (w.heap.size + 1) (some ⟨ge, 0, none⟩) by { have h := HLK.out B[k].key (List.mem_append.2 (.inr (List.mem_map.2 ⟨_, List.getElem_mem hlt, rfl⟩))); rw [HKE.out] at h; exact h }).fr (Fr.below hb2)).now;
                have HA2 : Hid (∀ k' ∈ S ++ (B.take k).map LvE.key, LiesKw w2 k') := (fun k' hk' => ((HLK.out k' (by { rcases List.mem_append.1 hk' with h | h; { exact List.mem_append.2 (.inl h) }; { obtain ⟨y, hy, e⟩ := List.mem_map.1 h; exact List.mem_append.2 (.inr (List.mem_map.2 ⟨y, List.mem_of_mem_take hy, e⟩)) } })).fr (Fr.below hb2)).now);
                clear hb2))
          have HF6 : Hid (Fr (fun b => b = w.heap.size + 1) ww w5) := (HF.out.trans (Fr.below HB2.out)).trans (Fr.grown HG5.out (fun b e => by injection e))
          go_roundw
          case rel => exact ⟨k + 1, by omega, by go_num, by rw [HTK.out]; exact HM5, HF6⟩
          case measure => simp [intOf]; omega
        · have hke : k = B.length := by omega
          have HI2 := Lib.hid (HI.out.step HLI.out HBN.out (HF1.out.trans HF.out) ⟨_, _, rfl, fun _ => ⟨g, rfl, by omega, fun j hj => (HF.out.cellV (a := ⟨g, j, none⟩) hg hgm).trans (HCELL.out j hj)⟩⟩ (by have h := HM.out; rw [hke, List.take_length] at h; exact h))
          clear hke
          go_wp2_with fail
          go_roundw
          case rel => exact ⟨j + 1, B, _, by go_num, HI2⟩
          case measure => simp [intOf]; omega
end Go.Proofs.Yteoopmogklpnoaa
/-
  What the statements draw, by their own functions. No statement is proved here.
-/
namespace Go.Proofs.Yteoopmogklpnoaa
open Go.RowKit Go.Deep
set_option maxRecDepth 100000
set_option linter.unusedVariables false
theorem BoxT.keep {w w' : World} {b : Nat} {t : Ty} (h : BoxT w b t) (hk : w'.heap[b]? = w.heap[b]?) : BoxT w' b t := hk.trans h
end Go.Proofs.Yteoopmogklpnoaa
