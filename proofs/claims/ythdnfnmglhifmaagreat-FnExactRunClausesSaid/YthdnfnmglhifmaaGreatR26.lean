/-
  A value copied: the program's functions. No statement is proved here.
-/
import Derived.Test.YthdnfnmglhifmaaGreatR24
import Derived.Test.YthdnfnmglhifmaaGreatR13
namespace Go.Proofs.YthdnfnmglhifmaaGreat
open Go.RowKit Go.Sort Go.Deep
set_option maxRecDepth 100000
set_option linter.unusedVariables false
def CiS (d : Nat) : Prop := ∀ (A : Option Addr) (l : List Vl) (cap : Nat) (w : World), RVs d w w.heap.size A l → wVs l ≤ 1048576 →
  Calls Tryz.prog 94 #[.slice A l.length cap] w fun e w' => ∃ A2 c, e = .returned (.slice A2 l.length c) ∧ OVs (d + 1) w' (Nw w w') A2 l ∧ Below w.heap.size w w'
set_option maxHeartbeats 1600000 in
theorem ciV_of (d : Nat) (ih : CiS d) (D : Option Addr) (ep : Nat) (v : Vl) (w : World) (hv : RVs d w w.heap.size D v.kids) (hn : wV v ≤ 1048576) : Calls Tryz.prog 59 #[.agg #[.int .i64 v.ctor, .int .i64 v.n, .slice D v.kids.length ep]] w (CpQ d v w) := by
  have HV := Lib.hid hv
  have IH := Lib.hid ih
  have hnk : wVs v.kids ≤ 1048576 := by rw [← wV_kids]; exact hn
  clear hv ih
  generalize hwx : (w.alloc (.cells #[.int .i64 v.ctor, .int .i64 v.n, .slice D v.kids.length ep] 31)).alloc (.cells #[.int .i64 0, .int .i64 0, .slice none 0 0] 31) = wx
  have hbx : Below w.heap.size w wx := by rw [← hwx]; exact ((Below.refl _ _).alloc (Nat.le_refl _) _).alloc (by simp) _
  have HXB : Hid (wx.heap[w.heap.size]? = some (.cells #[.int .i64 v.ctor, .int .i64 v.n, .slice D v.kids.length ep] 31 (0, 0))) := by
    have h := heap_alloc_new w (.cells #[.int .i64 v.ctor, .int .i64 v.n, .slice D v.kids.length ep] 31)
    unfold Hid; rw [← hwx, Below.heap_alloc _ _ _ (by simp)]; exact h
  have HXR : Hid (ZbV wx (w.heap.size + 1)) := by
    have h := ZbV.new (w.alloc (.cells #[.int .i64 v.ctor, .int .i64 v.n, .slice D v.kids.length ep] 31))
    simp only [World.size_alloc] at h
    unfold Hid; rw [← hwx]; exact h
  have hsx : wx.heap.size = w.heap.size + 2 := by rw [← hwx]; simp
  have hsx1 : w.heap.size + 2 ≤ wx.heap.size := by omega
  have HWX := Lib.hid hwx
  clear hwx hsx
  go_enter Tryz.func59, Tryz.ntmps59
  go_wp2_with fail
  rw [HWX.out]
  refine (IH.out D v.kids ep wx (HV.out.at_ hbx) hnk).mono ?_
  rintro e w1 ⟨A2, c, rfl, ho, hb1⟩
  have hbw1 := below_aft hbx hb1 hbx.size
  have HO := Lib.hid ho
  have hg : w1.heap[w.heap.size]? = some (.cells #[.int .i64 v.ctor, .int .i64 v.n, .slice D v.kids.length ep] 31 (0, 0)) := (hb1.block _ (heap_lt HXB.out)).trans HXB.out
  have hr : w1.heap[w.heap.size + 1]? = some (.cells #[.int .i64 0, .int .i64 0, .slice none 0 0] 31 (0, 0)) := HXR.out.at_ hb1
  have b0 := (cell_of_blk hg 0).trans rfl
  have b1 := (cell_of_blk hg 1).trans rfl
  have b2 := (cell_of_blk hg 2).trans rfl
  have e2 := frozen_of_row w1 w.heap.size 2 _ 31 hg
  have r0 := (cell_of_blk hr 0).trans rfl
  have r1 := (cell_of_blk hr 1).trans rfl
  have r2 := (cell_of_blk hr 2).trans rfl
  have f0 := frozen_of_row w1 (w.heap.size + 1) 0 _ 31 hr
  have f1 := frozen_of_row w1 (w.heap.size + 1) 1 _ 31 hr
  have f2 := frozen_of_row w1 (w.heap.size + 1) 2 _ 31 hr
  clear ho hg hr
  go_wp2_with fail
  refine bodyPost_ret (v := .agg #[.int .i64 v.ctor, .int .i64 v.n, .slice A2 v.kids.length c]) (by simp [results, Tryz.results59, go_sem, r0, r1, r2]) rfl ⟨A2, c, rfl, ?_, ?_⟩
  · have hF : Fr (fun b => b < w.heap.size + 2) w1 ((((w1.setCell ⟨w.heap.size, 2, none⟩ (.slice A2 v.kids.length c)).setCell ⟨w.heap.size + 1, 0, none⟩ (.int .i64 v.ctor)).setCell ⟨w.heap.size + 1, 1, none⟩ (.int .i64 v.n)).setCell ⟨w.heap.size + 1, 2, none⟩ (.slice A2 v.kids.length c)) := (((Fr.set _ _ _ _ (by omega)).trans (Fr.set _ _ _ _ (by omega))).trans (Fr.set _ _ _ _ (by omega))).trans (Fr.set _ _ _ _ (by omega))
    exact (HO.out.fr _ hF (fun b hq e => by have := hq.1; omega)).wide _ (fun b hq => ⟨by have := hq.1; omega, by have h2 := hq.2; simpa [World.setCell] using h2⟩)
  · refine Below.setCell (Below.setCell (Below.setCell (Below.setCell hbw1 ?_ _) ?_ _) ?_ _) ?_ _ <;> (simp <;> omega)
set_option maxHeartbeats 4000000 in
theorem ciS_of (d : Nat) (ih : ∀ d', d = d' + 1 → CiS d') : CiS d := by
  intro A l cap w hr hn
  obtain ⟨i0, hi, hz0, hz1, hz2⟩ := info_parts infoOV
  have Hr := Lib.hid hr
  have IH := Lib.hid ih
  have HSum := Lib.hid (wVs_sum l)
  have hl : l.length ≤ 1048576 := by have := wVs_sum l; omega
  clear hr ih
  by_cases h0 : l.length = 0
  · have hl0 : l = [] := List.eq_nil_of_length_eq_zero h0
    subst hl0
    go_enter Tryz.func94, Tryz.ntmps94
    go_wp2_with fail
    go_ret
    exact ⟨none, 0, rfl, OVs.nil _ _ _ _, Below.refl _ _⟩
  have q0 : ((l.length : Int) == 0) = false := beq_eq_false_iff_ne.2 (by omega)
  clear h0
  go_enter Tryz.func94, Tryz.ntmps94
  go_wp2_with (at_make; refine wpList_make_full _ rfl _ _ 29 rfl w.heap.size 31 i0 _ 3 Tryz.underlying29 hi hz0 hz1 _ _ _ _ l.length rfl rfl rfl rfl (by rw [hz2]; omega) (by unfold maxLen; omega) (Nat.le_refl _) ?_; intro w1 hown hgr)
  go_loopw [14] (fun i wr => ∃ k : Nat, k ≤ l.length ∧ i = .int .i64 k ∧ ∃ xs Q, wr.ownsRow w.heap.size 31 3 (.slice (some ⟨w.heap.size, 0, none⟩) l.length l.length) l.length xs ∧ RowV d wr w.heap.size (some w.heap.size) Q l xs k ∧ Below w.heap.size w wr) (fun i _ => l.length - (intOf i).toNat)
  case atStart => exact ⟨0, by omega, rfl, _, fun _ _ => False, hown, RowV.zero _ _ _ _ _ _ _, below_of_grown hgr (Nat.le_refl _)⟩
  case round =>
    obtain ⟨k, hk, rfl, xs, Q, hown, hrow, hb⟩ := hrel
    clear hgr hi hz0 hz1 hz2
    by_cases hlt : k < l.length
    · have hkI : (k : Int) < (l.length : Int) := by omega
      obtain ⟨b, off, rfl, hbB, hv⟩ := (Hr.out.below hb (Nat.le_refl _)).2 k hlt
      obtain ⟨d', hd, A', cp, c0, c1, c2, hm⟩ := hv.parts
      have ha : wV l[k] ≤ 1048576 := by
        have h1 := sum_take_succ wV l k hlt
        have h2 := sum_take_le wV l (k + 1)
        have h4 := HSum.out
        omega
      obtain ⟨wb, hwb⟩ : ∃ wb, wb = wr.alloc (.cells #[.int .i64 l[k].ctor, .int .i64 l[k].n, .slice A' l[k].kids.length cp] 31) := ⟨_, rfl⟩
      have hbb : Below wr.heap.size wr wb := by rw [hwb]; exact (Below.refl _ _).alloc (Nat.le_refl _) _
      have HXB : Hid (VBx wb wr.heap.size l[k].ctor l[k].n (.slice A' l[k].kids.length cp)) := by rw [hwb]; exact ⟨by simp [go_sem], by simp [go_sem], by simp [go_sem]⟩
      have HD := Lib.hid hd
      have hwl : w.heap.size < wr.heap.size := own_lt hown
      have HCI := Lib.hid (ciV_of d' (IH.out d' hd) A' cp l[k] wb (hm.keep (fun p hp => hbb.cell (p := p) (Nat.lt_of_lt_of_le hp hb.size)) (Nat.le_trans hb.size hbb.size)) ha)
      have hownb := own_below hown hbb
      have HROW := Lib.hid hrow
      have HWB := Lib.hid hwb
      obtain ⟨u0, u1, u2⟩ := HXB.out
      clear hm hv hd hrow hwb
      go_wp2_with fail
      rw [← HWB.out]
      refine HCI.out.mono ?_
      rintro e w2 ⟨A2, c2', rfl, hf, hb2'⟩
      have hb2 := below_aft hbb hb2' hbb.size
      have hown2 := own_below hownb hb2'
      obtain ⟨v0, f0⟩ := own_cell hown2 (k * 3) (by omega)
      obtain ⟨v1, f1⟩ := own_cell hown2 (k * 3 + 1) (by omega)
      obtain ⟨v2, f2⟩ := own_cell hown2 (k * 3 + 2) (by omega)
      have g0 := hown2.frozenAt (k * 3)
      have g1 := hown2.frozenAt (k * 3 + 1)
      have g2 := hown2.frozenAt (k * 3 + 2)
      have hsb := hbb.size
      clear u0 u1 u2 c0 c1 c2
      go_wp2_with fail
      have hx := hown2.1
      have s1 := (hown2.stored (k * 3) (.int .i64 l[k].ctor)).1
      have s2 := (s1.stored (k * 3 + 1) (.int .i64 l[k].n)).1
      have s3 := (s2.stored (k * 3 + 2) (.slice A2 l[k].kids.length c2')).1
      have hf2 : OVs d w2 (Nw wr w2) A2 l[k].kids := by rw [HD.out]; exact hf.wide _ (fun b h => ⟨Nat.le_trans hsb h.1, h.2⟩)
      have hrow2 := HROW.out.more (xs' := (((xs.set (k * 3) (.int .i64 l[k].ctor)).set (k * 3 + 1) (.int .i64 l[k].n)).set (k * 3 + 2) (.slice A2 l[k].kids.length c2'))) hb2 hlt (by omega) (fun g e => by injection e with e; omega) hf2 (fun j c hj hc => by rw [List.getElem?_set_ne (by omega), List.getElem?_set_ne (by omega), List.getElem?_set_ne (by omega)]) (by rw [List.getElem?_set_ne (by omega), List.getElem?_set_ne (by omega), List.getElem?_set_self (by first | omega | (simp <;> omega))]) (by rw [List.getElem?_set_ne (by omega), List.getElem?_set_self (by first | omega | (simp <;> omega))]) (by rw [List.getElem?_set_self (by first | omega | (simp <;> omega))])
      have hrow3 := hrow2.fr (w' := (((w2.setCell ⟨w.heap.size, k * 3, none⟩ (.int .i64 l[k].ctor)).setCell ⟨w.heap.size, k * 3 + 1, none⟩ (.int .i64 l[k].n)).setCell ⟨w.heap.size, k * 3 + 2, none⟩ (.slice A2 l[k].kids.length c2'))) (P' := fun b => b = w.heap.size) (((Fr.set (P := fun b => b = w.heap.size) _ _ _ _ rfl).trans (Fr.set (P := fun b => b = w.heap.size) _ _ _ _ rfl)).trans (Fr.set (P := fun b => b = w.heap.size) _ _ _ _ rfl)) (fun b _ hb' _ e => hb' (by rw [e]))
      go_roundw
      case rel => exact ⟨k + 1, by omega, by go_num, _, _, s3, hrow3, (((hb.trans (hb2.mono hb.size)).setCell (Nat.le_refl _) _).setCell (Nat.le_refl _) _).setCell (Nat.le_refl _) _⟩
      case measure => simp [intOf]; omega
    · have hkI : (l.length : Int) ≤ (k : Int) := by omega
      go_wp2_with fail
      go_ret
      have he : k = l.length := by omega
      obtain ⟨A2, c2, e2, ho⟩ := OVs.of_row hown (he ▸ hrow) hl
      injection e2 with e3 e4 e5
      subst e3
      exact ⟨_, _, rfl, ho, hb⟩
theorem ciS_any : ∀ d, CiS d
  | 0 => ciS_of 0 (fun _ h => by omega)
  | d + 1 => ciS_of (d + 1) (fun d' h => (Nat.succ.inj h) ▸ ciS_any d)
theorem copyV_any (d : Nat) (D : Option Addr) (ep : Nat) (v : Vl) (w : World) (hv : RVs d w w.heap.size D v.kids) (hn : wV v ≤ 1048576) : Calls Tryz.prog 59 #[.agg #[.int .i64 v.ctor, .int .i64 v.n, .slice D v.kids.length ep]] w (CpQ d v w) := ciV_of d (ciS_any d) D ep v w hv hn
end Go.Proofs.YthdnfnmglhifmaaGreat
