/-
  ValueSame of the program. No statement is proved here.
-/
import Derived.Test.YteoopmogklpnoaaU48
import Derived.Test.YteoopmogklpnoaaU00
import Derived.Test.YteoopmogklpnoaaU06
import Derived.Test.YteoopmogklpnoaaU17
import Derived.Test.YteoopmogklpnoaaU07
import Derived.Test.YteoopmogklpnoaaU09
import Derived.Test.YteoopmogklpnoaaU19
import Derived.Test.YteoopmogklpnoaaU03
import Derived.Test.YteoopmogklpnoaaU46
import Derived.Deep.RegionHeld3
import Derived.Deep.DeepCutAuto
import Derived.BigRegion
namespace Go.Proofs.Yteoopmogklpnoaa
open Go.RowKit Go.Sort Go.Deep
set_option maxRecDepth 100000
set_option linter.unusedVariables false
theorem vsm_impl (D E : Option Addr) (p q : Vl) (cp cq d e : Nat) (PP QQ : Nat → Prop) (w : World) (hp : OVc d w PP D p.kids) (hq : OVc e w QQ E q.kids) (hPP : ∀ b, PP b → b < w.heap.size) (hQQ : ∀ b, QQ b → b < w.heap.size) (hcp : p.kids.length ≤ cp ∧ cp ≤ maxLen) (hcq : q.kids.length ≤ cq ∧ cq ≤ maxLen) (hN : wV p ≤ 1048576) :
    Calls Try.prog 21 #[.agg #[.int .i64 p.ctor, .int .i64 p.n, .slice D p.kids.length cp], .agg #[.int .i64 q.ctor, .int .i64 q.n, .slice E q.kids.length cq]] w fun e w' => e = .returned (.bool (dec (p = q))) ∧ Below w.heap.size w w' := by
  generalize hw0 : (w.alloc (.cells #[.int .i64 p.ctor, .int .i64 p.n, .slice D p.kids.length cp] 28)).alloc (.cells #[.int .i64 q.ctor, .int .i64 q.n, .slice E q.kids.length cq] 28) = w0
  have hb0 : Below w.heap.size w w0 := by rw [← hw0]; exact ((Below.refl _ _).alloc (Nat.le_refl _) _).alloc (by simp) _
  have HC := Lib.hid (cv_cmp D E p q cp cq d e PP QQ w0 (hp.fr _ (Fr.below (P := fun _ => False) hb0) (fun _ _ h => h)) (hq.fr _ (Fr.below (P := fun _ => False) hb0) (fun _ _ h => h)) (fun b h => Nat.lt_of_lt_of_le (hPP b h) hb0.size) (fun b h => Nat.lt_of_lt_of_le (hQQ b h) hb0.size) hcp hcq hN)
  have HV := Lib.hid (show VBx w0 w.heap.size p.ctor p.n (.slice D p.kids.length cp) ∧ VBx w0 (w.heap.size + 1) q.ctor q.n (.slice E q.kids.length cq) by rw [← hw0]; exact ⟨⟨by simp [go_sem], by simp [go_sem], by simp [go_sem]⟩, ⟨by simp [go_sem], by simp [go_sem], by simp [go_sem]⟩⟩)
  obtain ⟨⟨x0, x1, x2⟩, ⟨y0, y1, y2⟩⟩ := HV.out
  have HW := Lib.hid hw0
  clear hp hq hPP hQQ hcp hcq hN hw0
  go_enter Try.func21, Try.ntmps21
  go_upto_region 1 with fail
  rw [HW.out]
  go_wp2_with fail
  refine HC.out.mono ?_; rintro e1 w1 ⟨c, rfl, hc, hb1⟩
  have hbw := below_aft hb0 hb1 hb0.size
  by_cases h0 : c = 0
  · have HD : Hid (dec (p = q) = true) := dec_t (hc.1 h0)
    have u : (c == 0) = true := ieq_t h0
    clear hc h0 x0 x1 x2 y0 y1 y2 hb1
    go_wp2_with fail
    go_ret
    exact ⟨ret_bool HD.out.symm, hbw⟩
  · have HD : Hid (dec (p = q) = false) := dec_f (fun h => h0 (hc.2 h))
    have u : (c == 0) = false := ieq_f h0
    clear hc h0 x0 x1 x2 y0 y1 y2 hb1
    go_wp2_with fail
    go_ret
    exact ⟨ret_bool HD.out.symm, hbw⟩
end Go.Proofs.Yteoopmogklpnoaa
/-
  listsBelow of the program: the lists of parts of a level of lists. No statement is proved here.
-/
namespace Go.Proofs.Yteoopmogklpnoaa
open Go.RowKit Go.Sort Go.Deep
set_option maxRecDepth 100000
set_option linter.unusedVariables false
theorem infoLL : (Try.prog.info? 26).map (fun i => (i.zero, i.size, i.bytes)) = some (some (.slice none 0 0), 1, 24) := by kernel_rfl
theorem wp_mapUpdate_kw {w : World} {ops : Array Oper} {rest : List Oper} {o : Oper} {a : Act} {Q : Exit → Act → World → Prop}
    (hg : o.guard = none) (m x v : Operand) (hop : o.op = Op.mapUpdate 81 m x v) (b : Nat) (S : List Kw) (k : Kw)
    (hm : a.eval m = .map (some b)) (hS : MapKw w b S) (hk : LiesKw w k) (hl : ∀ k' ∈ S, LiesKw w k') (hn : ¬ k ∈ S) (hx : a.eval x = k.v) (hv : a.eval v = .bool true)
    (hK : ∀ w', MapKw w' b (S ++ [k]) → w.grownBy w' (some b) → wpList Try.prog ops Q rest (a.put o.dst undef) w') :
    wpList Try.prog ops Q (o :: rest) a w := by
  refine wpList_plain hg fun K' hK' => ?_
  obtain ⟨w', hrun, r1, r2⟩ := hS.put hk hl hn
  unfold Oper.wp
  simp [execOp, hop, hm, hx, hv, hrun, Result.andThen]
  exact hK' _ _ (hK w' r1 r2)
theorem LbI.zero (w : World) (m : Nat) (F Z : Nat → Prop) : LbI w m F w.heap.size (w.heap.size + 1) Z [] (.slice none 0 0) (w.alloc (.map #[] 0)) [] [] :=
  ⟨⟨[], ⟨rfl, .inl ⟨rfl, rfl⟩⟩, fun j h => absurd h (Nat.not_lt_zero _)⟩, MapKw.made w, fun k h => (by cases h), fun y h => (by cases h), fun y h => (by cases h), fun y h => (by cases h), List.Pairwise.nil, rfl, (Below.refl _ _).alloc (Nat.le_refl _) _⟩
set_option maxHeartbeats 8000000 in
theorem lb_any (w : World) (m : Nat) (L : List LvE) (u : Value) (hu : RwL w u L) (hok : ∀ x ∈ L, SfV x.d w m x.P x.A x.l ∧ ¬ x.l = []) (hap : L.Pairwise (fun x y => ∀ b, x.P b → ¬ y.P b)) (hN : wLs (L.map (fun x => x.l)) + 1 ≤ 1048578) :
    Calls Try.prog 52 #[u] w fun e w' => ∃ v B S, e = .returned v ∧ LbI w m (fun b => ∃ x ∈ L, x.P b) w.heap.size (w.heap.size + 1) (fun _ => False) (nbs (L.map (fun x => x.l))) v w' B S := by
  obtain ⟨A, cap, rfl, hrow⟩ := hu
  obtain ⟨i0, hi, hz0, hz1, hz2⟩ := info_parts infoLL
  have HROW := Lib.hid hrow
  have HOK := Lib.hid hok
  have HAP := Lib.hid hap
  have HNN := Lib.hid hN
  have hLl : L.length ≤ 1048578 := by
    have : ∀ M : List LvE, (∀ x ∈ M, ¬ x.l = []) → M.length ≤ wLs (M.map (fun x => x.l)) := by
      intro M
      induction M with
      | nil => intro _; exact Nat.zero_le _
      | cons x M ih =>
        intro h
        have h1 := ih (fun y hy => h y (List.mem_cons_of_mem _ hy))
        have h2 : 0 < x.l.length := List.length_pos_iff.2 (h x (List.mem_cons_self ..))
        have h3 := wVs_sum x.l
        rw [List.map_cons, wLs, List.length_cons]; omega
    have := this L (fun x hx => (hok x hx).2)
    omega
  clear hrow hok hap hN
  have hmm := @run_makeMap Try.prog
  go_enter Try.func52, Try.ntmps52
  go_wp2_with fail
  clear hmm
  go_loopw [4, 13] (fun u i wr => ∃ k : Nat, k ≤ L.length ∧ i = .int .i64 k ∧ ∃ B S, Hid (LbI w m (fun b => ∃ x ∈ L, x.P b) w.heap.size (w.heap.size + 1) (fun b => ∃ j, ∃ h : j < L.length, k ≤ j ∧ L[j].P b) (nbs ((L.take k).map (fun x => x.l))) u wr B S)) (fun _ i _ => L.length - (intOf i).toNat)
  case atStart => exact ⟨0, by omega, rfl, [], [], LbI.zero w m _ _⟩
  case round =>
    obtain ⟨k, hk, rfl, B0, S0, HI0⟩ := hrel
    by_cases hlt : k < L.length
    · obtain ⟨g, rfl, hg, hcell⟩ := HROW.out (by omega)
      have c0 := (HI0.out.below.cell (p := ⟨g, k, none⟩) hg).trans (hcell k hlt)
      obtain ⟨⟨h1, h2, h3⟩, hne⟩ := HOK.out L[k] (List.getElem_mem hlt)
      obtain ⟨gl, off, Q, hA, hgl, hglm, hq, hc⟩ := h3 (List.length_pos_iff.2 hne)
      have HC := Lib.hid hc
      have HQ := Lib.hid hq
      have H2 := Lib.hid h2
      rw [hA] at c0
      have hgr : g < wr.heap.size := Nat.lt_of_lt_of_le hg HI0.out.below.size
      have hglr : gl < wr.heap.size := Nat.lt_of_lt_of_le hgl HI0.out.below.size
      have hkI : (k : Int) < (L.length : Int) := by omega
      have hll : L[k].l.length ≤ 9223372036854775807 := by unfold maxLen at h1; exact h1
      have hmbr : w.heap.size < wr.heap.size := Nat.lt_of_lt_of_le (by rw [World.size_alloc]; omega) (show (w.alloc (.map #[] 0)).heap.size ≤ wr.heap.size by
        obtain ⟨es, cl, hmp, _⟩ := HI0.out.map
        have := heap_lt hmp
        rw [World.size_alloc]; omega)
      clear hcell hc hq h1 h2 h3
      go_wp2_with fail
      go_loopw [4, 19] (fun u i wq => ∃ j : Nat, j ≤ L[k].l.length ∧ i = .int .i64 j ∧ ∃ B S, Hid (LbI w m (fun b => ∃ x ∈ L, x.P b) w.heap.size (w.heap.size + 1) (fun b => (∃ i, ∃ h : i < L.length, k < i ∧ L[i].P b) ∨ ∃ j', j ≤ j' ∧ j' < L[k].l.length ∧ Q j' b) ((nbs ((L.take k).map (fun x => x.l))) ++ nb (L[k].l.take j)) u wq B S)) (fun _ i _ => L[k].l.length - (intOf i).toNat)
      case atStart => exact ⟨0, by omega, rfl, B0, S0, HI0.out.next (fun b hb => by
        rcases hb with ⟨i, hi, h1, h2⟩ | ⟨j', _, h1, h2⟩
        · exact ⟨i, hi, by omega, h2⟩
        · exact ⟨k, hlt, Nat.le_refl _, (HQ.out j' b h1 h2).1⟩) (by rw [List.take_zero, nb, List.append_nil]) (Below.refl _ _) hmbr⟩
      case round =>
        have hwq : ∃ wq, wq = wr := ⟨_, rfl⟩
        obtain ⟨wq, rfl⟩ := hwq
        obtain ⟨j, hj, rfl, B, S, HI⟩ := hrel
        by_cases hlj : j < L[k].l.length
        · obtain ⟨A', cap', e0, e1, e2, e3, e9⟩ := HC.out j hlj
          have hglq : gl < wq.heap.size := Nat.lt_of_lt_of_le hgl HI.out.below.size
          have f0 := (HI.out.below.cell (p := ⟨gl, _, none⟩) hgl).trans e0
          have f1 := (HI.out.below.cell (p := ⟨gl, _, none⟩) hgl).trans e1
          have f2 := (HI.out.below.cell (p := ⟨gl, _, none⟩) hgl).trans e2
          obtain ⟨d', hd, _⟩ := e9.parts
          have H9 := Lib.hid e9
          have H3 := Lib.hid e3
          have hjI : (j : Int) < (L[k].l.length : Int) := by omega
          have HKO : Hid (∀ W', Calls Try.prog 53 #[.slice A' L[k].l[j].kids.length cap'] W' fun e w' => e = .returned (.agg #[.pointer (kA A' L[k].l[j].kids.length), .int .i64 L[k].l[j].kids.length]) ∧ Below W'.heap.size W' w') := fun W' => keyOfV_own H9.out cap' W'
          clear e0 e1 e2 e3 e9
          have hnt : nb (L[k].l.take (j + 1)) = nb (L[k].l.take j) ++ (if L[k].l[j].kids = [] then [] else [L[k].l[j].kids]) := by
            rw [← List.take_append_getElem hlj, nb_app, nb, nb, List.append_nil]
          have HNT := Lib.hid hnt
          have hmbq : w.heap.size < wq.heap.size := by
            obtain ⟨es, cl, hmp, _⟩ := HI.out.map
            exact heap_lt hmp
          clear hnt
          go_upto_region 9 with fail
          obtain ⟨wy, hwy⟩ : ∃ wy, wy = wq.alloc (.cells #[.int .i64 L[k].l[j].ctor, .int .i64 L[k].l[j].n, .slice A' L[k].l[j].kids.length cap'] 28) := ⟨_, rfl⟩
          have hby : Below wq.heap.size wq wy := by rw [hwy]; exact (Below.refl _ _).alloc (Nat.le_refl _) _
          have hy2 : wy.cell? ⟨wq.heap.size, 2, none⟩ = some (.slice A' L[k].l[j].kids.length cap') := by rw [hwy]; simp [go_sem]
          have hsy : wy.heap.size = wq.heap.size + 1 := by rw [hwy]; simp
          rw [← hwy]
          have HWY := Lib.hid hwy
          clear hwy
          go_cut [9] (fun s9 wx => ∃ g9, s9 = .pointer (some ⟨g9, 0, none⟩) ∧ Below wq.heap.size wq wx ∧ wx.cell? ⟨g9, 0, none⟩ = some (.pointer (kA A' L[k].l[j].kids.length)) ∧ wx.cell? ⟨g9, 1, none⟩ = some (.int .i64 L[k].l[j].kids.length) ∧ wx.cell? ⟨wq.heap.size, 2, none⟩ = some (.slice A' L[k].l[j].kids.length cap'))
          case first =>
            go_wp2_with (go_at_call 53; refine (HKO.out _).mono ?_; rintro e1 w1 ⟨rfl, hb1⟩)
            go_meet
            have hs1 := hb1.size
            refine ⟨_, rfl, (below_aft hby hb1 hby.size).alloc (by omega) _, by simp [go_sem], by simp [go_sem], ?_⟩
            exact (World.cell?_alloc_lt _ _ _ (by show wq.heap.size < _; omega)).trans ((hb1.cell (p := ⟨wq.heap.size, 2, none⟩) (by show wq.heap.size < _; omega)).trans hy2)
          obtain ⟨g9, rfl, hbc, r0, r1, r2⟩ := hcut
          have HBC := Lib.hid hbc
          have HIC := Lib.hid (HI.out.next (fun b h => h) rfl hbc hmbq)
          have hsc := hbc.size
          have hqc : wq.heap.size < wc.heap.size := Go.block_lt_of_cell r2
          clear hbc hby hy2 f0 f1 f2
          have HKL : Hid (LiesKw wc (Kw.mk (kA A' L[k].l[j].kids.length) L[k].l[j].kids.length)) := (H9.out.ly (m := m) (fun b hb => H2.out b (HQ.out j b hlj hb).1)).lies (Fr.below HIC.out.below)
          have hlook1 : (Instr.lookup 81 (.map (some w.heap.size)) (.agg #[.pointer (kA A' L[k].l[j].kids.length), .int .i64 L[k].l[j].kids.length]) false).run Try.prog wc = .ok (.bool (decide ((Kw.mk (kA A' L[k].l[j].kids.length) L[k].l[j].kids.length) ∈ S))) wc := HIC.out.map.look HKL.out HIC.out.lies
          by_cases he : L[k].l[j].kids = []
          · have hle : L[k].l[j].kids.length = 0 := by rw [he]; rfl
            have q1 : ¬ (0 : Int) < (L[k].l[j].kids.length : Int) := by omega
            have q2 : ¬ 0 < L[k].l[j].kids.length := by omega
            have HI2 := Lib.hid (HIC.out.next (Z' := fun b => (∃ i, ∃ h : i < L.length, k < i ∧ L[i].P b) ∨ ∃ j', j + 1 ≤ j' ∧ j' < L[k].l.length ∧ Q j' b) (fun b hb => by
              rcases hb with hb | ⟨j', h1, h2, h3⟩
              · exact .inl hb
              · exact .inr ⟨j', by omega, h2, h3⟩) (show (nbs ((L.take k).map (fun x => x.l))) ++ nb (L[k].l.take (j + 1)) = _ by rw [HNT.out, if_pos he, List.append_nil]) (Below.refl _ wc) (by omega))
            generalize decide ((Kw.mk (kA A' L[k].l[j].kids.length) L[k].l[j].kids.length) ∈ S) = bb at hlook1
            clear he hle
            go_wp2_with fail
            go_roundw
            case rel => exact ⟨j + 1, by omega, by go_num, B, S, HI2⟩
            case measure => simp [intOf]; omega
          · have hlp : 0 < L[k].l[j].kids.length := List.length_pos_iff.2 he
            have H91 : Hid (OVc (d' + 1) w (Q j) A' L[k].l[j].kids) := by unfold Hid; rw [← hd]; exact H9.out
            have q1 : (0 : Int) < (L[k].l[j].kids.length : Int) := by omega
            obtain ⟨ga, hga, hgQ, _⟩ := H9.out.addr hlp
            have hnew : ¬ (Kw.mk (kA A' L[k].l[j].kids.length) L[k].l[j].kids.length) ∈ S := by
              have e : kA A' L[k].l[j].kids.length = some ⟨ga, 0, none⟩ := (kA_pos0 hlp).trans hga
              rw [e]
              exact HIC.out.new (.inr ⟨j, Nat.le_refl _, hlj, hgQ⟩)
            rw [decide_eq_false hnew] at hlook1
            have HNW := Lib.hid hnew
            have HNL : Hid (nb (L[k].l.take (j + 1)) = nb (L[k].l.take j) ++ [L[k].l[j].kids]) := by unfold Hid; rw [HNT.out, if_neg he]
            have HE := Lib.hid (LvE.of H91.out (fun b hb => H2.out b (HQ.out j b hlj hb).1) he H3.out)
            have HKA : Hid (kA A' L[k].l[j].kids.length = A') := kA_pos0 hlp
            clear he hga hgQ hnew
            obtain ⟨xs, hown, hxs⟩ := HIC.out.own
            obtain ⟨Au, cu, rfl, hof⟩ := own_form hown
            have HOW := Lib.hid hown
            have HXS := Lib.hid hxs
            have HOF := Lib.hid hof
            have HBL : Hid (B.length ≤ 1048578) := by
              unfold Hid
              have h1 := HIC.out.len
              rw [List.length_append] at h1
              have h2 := (nbs_w ((L.take k).map (fun x => x.l))).1
              have h3 := (nb_w (L[k].l.take j)).1
              have h4 := take_w L k hlt
              have h5 := wVs_sum L[k].l
              have h6 : (L[k].l.take j).length ≤ L[k].l.length := by rw [List.length_take]; omega
              have h7 := HNN.out
              omega
            have HC3 : Hid (B.length + 1 ≤ maxLen) := by unfold Hid maxLen; have := HBL.out; omega
            have HC4 : Hid ((B.length + 1) * 24 ≤ 140737488355328) := by unfold Hid; have := HBL.out; omega
            clear hown hxs hof
            go_wp2_with (first
              | (at_mapUpdate; (with_reducible refine wp_mapUpdate_kw rfl _ _ _ rfl w.heap.size S (Kw.mk (kA A' L[k].l[j].kids.length) L[k].l[j].kids.length) rfl HIC.out.map HKL.out HIC.out.lies HNW.out rfl rfl ?_); intro w5 hm5 hg5;
                  have HM5 := Lib.hid hm5; have HG5 := Lib.hid hg5; have hs5 := hg5.size; clear hm5 hg5;
                  have r2 := (World.cell?_of_block (a := ⟨wq.heap.size, 2, none⟩) (HG5.out.block wq.heap.size (by omega) (by intro e; injection e with e; omega))).trans r2;
                  have HOA5 : Hid ((w5.alloc (.cells #[.slice A' L[k].l[j].kids.length cap'] 26)).ownsRow (w.heap.size + 1) 26 1 (.slice Au B.length cu) B.length xs) := own_at HOW.out (fun b e => by have h1 := HOF.out b e; rw [Below.heap_alloc _ _ _ (by omega), HG5.out.block b (by omega) (by intro e; injection e with e; omega)]);
                  have HC1 := Lib.hid (cell_one_new w5 (.slice A' L[k].l[j].kids.length cap') 26);
                  have HC2 : Hid (∀ q ∈ [Value.slice A' L[k].l[j].kids.length cap'], q.oneCell' = true) := (by intro q hq; simp at hq; rcases hq with rfl; rfl);
                  have HC5 : Hid (w.heap.size + 1 ≤ (w5.alloc (.cells #[.slice A' L[k].l[j].kids.length cap'] 26)).heap.size) := (by unfold Hid; rw [World.size_alloc]; omega))
              | (at_builtin; refine wpList_append_own_at _ rfl _ _ 82 rfl (w.heap.size + 1) 26 i0 _ 1 24 Try.underlying82 hi hz0 hz1 hz2 rfl (by decide) (.slice Au B.length cu) _ xs rfl HOA5.out ⟨w5.heap.size, 0, none⟩ 1 1 [Value.slice A' L[k].l[j].kids.length cap'] rfl rfl HC1.out HC2.out HC3.out HC4.out HC5.out ?_; intro v' w6 hown' hgr' hnn' hat')
              | fail)
            have hs6 := hgr'.size
            rw [World.size_alloc] at hs6
            have hB6 : Below w.heap.size w w6 := by
              refine ⟨?_, ?_, ?_, by have := HIC.out.below.size; omega, fun b hb => ?_⟩
              · exact hgr'.os.trans (HG5.out.os.trans HIC.out.below.os)
              · exact hgr'.tape.trans (HG5.out.tape.trans HIC.out.below.tape)
              · exact hgr'.output.trans (HG5.out.output.trans HIC.out.below.output)
              · have hbc : b < wc.heap.size := Nat.lt_of_lt_of_le hb HIC.out.below.size
                rw [hgr'.block b (by rw [World.size_alloc]; omega) (fun e => by have := HOF.out b e.symm; omega), Below.heap_alloc _ _ _ (by omega), HG5.out.block b hbc (by intro e; injection e with e; omega)]
                exact HIC.out.below.block b hb
            have hm6 : MapKw w6 w.heap.size (S ++ [(Kw.mk (kA A' L[k].l[j].kids.length) L[k].l[j].kids.length)]) := HM5.out.keep ((hgr'.block _ (by rw [World.size_alloc]; omega) (fun e => by have := HOF.out _ e.symm; omega)).trans (Below.heap_alloc _ _ _ (by omega)))
            have HI2 := Lib.hid (HIC.out.push (x := (LvE.mk A' L[k].l[j].kids cap' d' (fun b => Q j b ∧ ∀ a, A' = some a → b ≠ a.block))) (Z' := fun b => (∃ i, ∃ h : i < L.length, k < i ∧ L[i].P b) ∨ ∃ j', j + 1 ≤ j' ∧ j' < L[k].l.length ∧ Q j' b) (fun b hb => by
              rcases hb with hb | ⟨j', h1, h2, h3⟩
              · exact .inl hb
              · exact .inr ⟨j', by omega, h2, h3⟩) HE.out.1 (fun b hb => by
              have hb := HE.out.2 b hb
              have hbP := (HQ.out j b hlj hb)
              refine ⟨.inr ⟨j, Nat.le_refl _, hlj, hb⟩, fun hz => ?_, L[k], List.getElem_mem hlt, hbP.1⟩
              rcases hz with ⟨i, hi, h1, h2⟩ | ⟨j', h1, h2, h3⟩
              · exact List.pairwise_iff_getElem.1 HAP.out k i hlt hi h1 b hbP.1 h2
              · exact hbP.2 j' h2 (by omega) h3) HKA.out (by have := HOW.out.1; omega) HXS.out hown' hm6 hB6)
            clear hown' hgr' hnn' hat' hB6 hm6
            go_roundw
            case rel => exact ⟨j + 1, by omega, by go_num, _, _, by rw [HNL.out, ← List.append_assoc]; exact HI2⟩
            case measure => simp [intOf]; omega
        · have HI2 := Lib.hid (HI.out.next (Z' := fun b => ∃ j, ∃ h : j < L.length, k + 1 ≤ j ∧ L[j].P b) (fun b hb => by
            obtain ⟨i, hi, h1, h2⟩ := hb
            exact .inl ⟨i, hi, by omega, h2⟩) (show nbs ((L.take (k + 1)).map (fun x => x.l)) = (nbs ((L.take k).map (fun x => x.l))) ++ nb (L[k].l.take j) by
            rw [← List.take_append_getElem hlt, List.map_append, nbs_app, show j = L[k].l.length by omega, List.take_length]
            show _ ++ (nb L[k].l ++ []) = _
            rw [List.append_nil]) (Below.refl _ wq) (by
            obtain ⟨es, cl, hmp, _⟩ := HI.out.map
            exact heap_lt hmp))
          go_wp2_with fail
          go_roundw
          case rel => exact ⟨k + 1, by omega, by go_num, B, S, HI2⟩
          case measure => simp [intOf]; omega
    · have HI2 := Lib.hid (HI0.out.next (Z' := fun _ => False) (fun b hb => hb.elim) (show nbs (L.map (fun x => x.l)) = (nbs ((L.take k).map (fun x => x.l))) by rw [List.take_of_length_le (by omega)]) (Below.refl _ wr) (by
        obtain ⟨es, cl, hmp, _⟩ := HI0.out.map
        exact heap_lt hmp))
      go_wp2_with fail
      go_ret
      exact ⟨_, B0, S0, rfl, HI2.out⟩
end Go.Proofs.Yteoopmogklpnoaa
