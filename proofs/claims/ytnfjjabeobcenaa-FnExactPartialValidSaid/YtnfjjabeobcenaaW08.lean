/-
  ValueValid of the program and of the document. No statement is proved here.
-/
import Derived.Test.YtnfjjabeobcenaaW07
import Derived.Test.YtnfjjabeobcenaaW04
import Derived.Test.YtnfjjabeobcenaaW00
import Derived.Test.YtnfjjabeobcenaaW01
import Derived.Deep.RegionHeld3
namespace Go.Proofs.Ytnfjjabeobcenaa
open Go.RowKit Go.Sort Go.Deep
set_option maxRecDepth 100000
set_option linter.unusedVariables false
noncomputable def vvT (l : List Da) (t : Ty) (v : Vl) : Bool := dec (TyOK l t) && isV l t v
theorem vvT_yes {l : List Da} {t : Ty} {v : Vl} (h : TyOK l t) : vvT l t v = isV l t v := by unfold vvT; rw [dec_t h]; rfl
theorem vvT_no {l : List Da} {t : Ty} {v : Vl} (h : ¬ TyOK l t) : vvT l t v = false := by unfold vvT; rw [dec_f h]; rfl
theorem ndS_any (l : List Da) : ∀ d, d < 100 → NdS l d
  | 0, _ => ndS_zero l
  | d + 1, h => ndS_step l d (by omega) (ndS_any l d (by omega))
theorem vv_spec (A D : Option Addr) (l : List Da) (cap ep e : Nat) (t : Ty) (v : Vl) (w : World) (hr : RDas w w.heap.size A l) (hv : RVs e w w.heap.size D v.kids) (hn : wV v ≤ 16000000) :
    Calls Try.prog 9 #[.slice A l.length cap, .agg #[.int .i64 t.data, .int .i64 t.index], .agg #[.int .i64 v.ctor, .int .i64 v.n, .slice D v.kids.length ep]] w fun e w' => e = .returned (.bool (vvT l t v)) ∧ Below w.heap.size w w' := by
  have Hr := Lib.hid hr
  have HV := Lib.hid hv
  clear hr hv
  generalize hw0 : (w.alloc (.cells #[.int .i64 t.data, .int .i64 t.index] 33)).alloc (.cells #[.int .i64 v.ctor, .int .i64 v.n, .slice D v.kids.length ep] 37) = w0
  have hb0 := below_box2 hw0
  have HXT : Hid (Bx w0 w.heap.size t) := by rw [← hw0]; exact ⟨by simp [go_sem], by simp [go_sem]⟩
  have HXV : Hid (VBx w0 (w.heap.size + 1) v.ctor v.n (.slice D v.kids.length ep)) := by rw [← hw0]; exact ⟨by simp [go_sem], by simp [go_sem], by simp [go_sem]⟩
  have HW := Lib.hid hw0
  clear hw0
  by_cases ht : TyOK l t
  · have HT := Lib.hid ht
    have HF := Lib.hid (vvT_yes (v := v) ht)
    clear ht
    go_enter Try.func9, Try.ntmps9
    go_wp2_with (first | (go_at_call 31; rw [HW.out]; refine (typeV_yes (t := t) (Hr.out.at_ hb0) HT.out).mono ?_; rintro e1 w1 ⟨rfl, hb1⟩; obtain ⟨x0, x1⟩ := HXT.out.at_ hb1; obtain ⟨y0, y1, y2⟩ := HXV.out.at_ hb1; have hb1w := below_aft hb0 hb1 hb0.size) | (go_at_call 32; refine (isV_any A D l cap ep e t v _ (Hr.out.at_ hb1w) HT.out (HV.out.at_ hb1w) hn).mono ?_; rintro e2 w2 ⟨rfl, hb2⟩))
    all_goals go_ret
    all_goals exact ⟨ret_bool HF.out.symm, below_aft hb1w hb2 hb1w.size⟩
  · have HT := Lib.hid ht
    have HF := Lib.hid (vvT_no (v := v) ht)
    clear ht
    go_enter Try.func9, Try.ntmps9
    go_wp2_with (go_at_call 31; rw [HW.out]; refine (typeV_no (t := t) (Hr.out.at_ hb0) HT.out).mono ?_; rintro e1 w1 ⟨rfl, hb1⟩; have hb1w := below_aft hb0 hb1 hb0.size)
    go_ret
    exact ⟨ret_bool HF.out.symm, hb1w⟩
theorem vw_impl (A D : Option Addr) (l : List Da) (cap ep e : Nat) (t : Ty) (v : Vl) (w : World) (hr : RDas w w.heap.size A l) (hv : RVs e w w.heap.size D v.kids) (hn : wV v ≤ 16000000) :
    Calls Try.prog 35 #[.slice A l.length cap, .agg #[.int .i64 t.data, .int .i64 t.index], .agg #[.int .i64 v.ctor, .int .i64 v.n, .slice D v.kids.length ep], .func (.func 36) #[] #[]] w fun e w' => e = .returned (.bool (vvT l t v)) ∧ Below w.heap.size w w' := by
  have Hr := Lib.hid hr
  have HV := Lib.hid hv
  have IN : Hid (NdC l 10 10) := ndS_any l 10 (by omega)
  clear hr hv
  generalize hw0 : (w.alloc (.cells #[.int .i64 t.data, .int .i64 t.index] 33)).alloc (.cells #[.int .i64 v.ctor, .int .i64 v.n, .slice D v.kids.length ep] 37) = w0
  have hb0 := below_box2 hw0
  have HXT : Hid (Bx w0 w.heap.size t) := by rw [← hw0]; exact ⟨by simp [go_sem], by simp [go_sem]⟩
  have HXV : Hid (VBx w0 (w.heap.size + 1) v.ctor v.n (.slice D v.kids.length ep)) := by rw [← hw0]; exact ⟨by simp [go_sem], by simp [go_sem], by simp [go_sem]⟩
  have HW := Lib.hid hw0
  clear hw0
  by_cases ht : TyOK l t
  · have HT := Lib.hid ht
    have HF := Lib.hid (vvT_yes (v := v) ht)
    clear ht
    by_cases hf : fitV l 10 t v = true
    · have HFT := Lib.hid hf
      have HND := Lib.hid (ndR_yes hf)
      have hr1 : (0 : Int) ≤ 1 + (wV v : Int) := by omega
      have hr2 : 1 + (wV v : Int) ≤ 16000001 := by omega
      have HIS : Hid (isV l t v = decide (1 + (wV v : Int) ≤ 60)) := by
        unfold Hid isV; rw [hf]
        show decide _ = decide _
        simp only [decide_eq_decide]; omega
      generalize hrr : 1 + (wV v : Int) = r at hr1 hr2 HND HIS
      clear hf hrr
      go_enter Try.func35, Try.ntmps35
      go_wp2_with (first | (go_at_call 59; rw [HW.out]; refine (typeI_yes (t := t) (Hr.out.at_ hb0) HT.out).mono ?_; rintro e1 w1 ⟨rfl, hb1⟩; obtain ⟨x0, x1⟩ := HXT.out.at_ hb1; obtain ⟨y0, y1, y2⟩ := HXV.out.at_ hb1; have hb1w := below_aft hb0 hb1 hb0.size) | (go_at_call 60; refine (IN.out.known A D cap ep e t v _ _ _ HFT.out HND.out (Hr.out.at_ hb1w) HT.out (HV.out.at_ hb1w) hn).mono ?_; rintro e2 w2 ⟨rfl, hb2⟩))
      all_goals go_ret
      all_goals exact ⟨ret_bool (by rw [HF.out, HIS.out]), below_aft hb1w hb2 hb1w.size⟩
    · have hf' : fitV l 10 t v = false := by simpa using hf
      have HFT := Lib.hid hf'
      have HIS := Lib.hid (isV_fit hf')
      clear hf hf'
      go_enter Try.func35, Try.ntmps35
      go_wp2_with (first | (go_at_call 59; rw [HW.out]; refine (typeI_yes (t := t) (Hr.out.at_ hb0) HT.out).mono ?_; rintro e1 w1 ⟨rfl, hb1⟩; obtain ⟨x0, x1⟩ := HXT.out.at_ hb1; obtain ⟨y0, y1, y2⟩ := HXV.out.at_ hb1; have hb1w := below_aft hb0 hb1 hb0.size) | (go_at_call 60; refine (IN.out.known A D cap ep e t v _ _ _ HFT.out rfl (Hr.out.at_ hb1w) HT.out (HV.out.at_ hb1w) hn).mono ?_; rintro e2 w2 ⟨rfl, hb2⟩))
      all_goals go_ret
      all_goals exact ⟨ret_bool (by rw [HF.out, HIS.out]), below_aft hb1w hb2 hb1w.size⟩
  · have HT := Lib.hid ht
    have HF := Lib.hid (vvT_no (v := v) ht)
    clear ht
    go_enter Try.func35, Try.ntmps35
    go_wp2_with (go_at_call 59; rw [HW.out]; refine (typeI_no (t := t) (Hr.out.at_ hb0) HT.out).mono ?_; rintro e1 w1 ⟨rfl, hb1⟩; have hb1w := below_aft hb0 hb1 hb0.size)
    go_ret
    exact ⟨ret_bool HF.out.symm, hb1w⟩
theorem vv_impl (A D : Option Addr) (l : List Da) (cap ep e : Nat) (t : Ty) (v : Vl) (w : World) (hr : RDas w w.heap.size A l) (hv : RVs e w w.heap.size D v.kids) (hn : wV v ≤ 16000000) :
    Calls Try.prog 13 #[.slice A l.length cap, .agg #[.int .i64 t.data, .int .i64 t.index], .agg #[.int .i64 v.ctor, .int .i64 v.n, .slice D v.kids.length ep]] w fun e w' => e = .returned (.bool (vvT l t v)) ∧ Below w.heap.size w w' := by
  have Hr := Lib.hid hr
  have HV := Lib.hid hv
  clear hr hv
  generalize hw0 : (w.alloc (.cells #[.int .i64 t.data, .int .i64 t.index] 33)).alloc (.cells #[.int .i64 v.ctor, .int .i64 v.n, .slice D v.kids.length ep] 37) = w0
  have hb0 := below_box2 hw0
  have HW := Lib.hid hw0
  clear hw0
  go_enter Try.func13, Try.ntmps13
  go_wp2_with (go_at_call 35; rw [HW.out]; refine (vw_impl A D l cap ep e t v _ (Hr.out.at_ hb0) (HV.out.at_ hb0) hn).mono ?_; rintro e1 w1 ⟨rfl, hb1⟩)
  go_ret
  exact ⟨rfl, below_aft hb0 hb1 hb0.size⟩
end Go.Proofs.Ytnfjjabeobcenaa
/-
  Values copied into memory of their own. No statement is proved here.
-/
namespace Go.Proofs.Ytnfjjabeobcenaa
open Go.RowKit
set_option maxRecDepth 100000
set_option linter.unusedVariables false
theorem FVs.reads : ∀ (d : Nat) {w : World} {lo g : Nat} {l : List Vl}, FVs (d + 1) w lo g l → RVs d w w.heap.size (some ⟨g, 0, none⟩) l
  | d, w, lo, g, l, ⟨h1, h2, cs, h3, h4, h5⟩ => ⟨h2, fun k hk => ⟨g, 0, rfl, heap_lt h3, by
    obtain ⟨g', e0, e1, e2, e3⟩ := h5 k hk
    cases d with
    | zero => exact e3.elim
    | succ d =>
      obtain ⟨q1, q2⟩ := FVs.reads d e3
      exact ⟨_, _, by rw [cell_of_blk h3, Nat.zero_add]; exact e0, by rw [cell_of_blk h3, Nat.zero_add]; exact e1, by rw [cell_of_blk h3, Nat.zero_add]; exact e2, q1, q2⟩⟩⟩
theorem infoVl : (Try.prog.info? 37).map (fun i => (i.zero, i.size, i.bytes)) = some (some (.agg #[.int .i64 0, .int .i64 0, .slice none 0 0]), 3, 40) := by kernel_rfl
/-- What the first k rounds of a copy of values have left in the row. -/
def VlRow (d : Nat) (w : World) (lo : Nat) (l : List Vl) (xs : List Value) (k : Nat) : Prop := ∀ j (h : j < l.length), j < k → ∃ g', xs[j * 3]? = some (.int .i64 l[j].ctor) ∧ xs[j * 3 + 1]? = some (.int .i64 l[j].n) ∧ xs[j * 3 + 2]? = some (.slice (some ⟨g', 0, none⟩) l[j].kids.length l[j].kids.length) ∧ FVs d w lo g' l[j].kids
theorem VlRow.zero (d : Nat) (w : World) (lo : Nat) (l : List Vl) (xs : List Value) : VlRow d w lo l xs 0 := fun j _ h => absurd h (by omega)
theorem VlRow.keep {d : Nat} {w w' : World} {lo : Nat} {l : List Vl} {xs : List Value} {k : Nat} (h : VlRow d w lo l xs k) (hk : ∀ b o, lo ≤ b → w.heap[b]? = some o → w'.heap[b]? = w.heap[b]?) : VlRow d w' lo l xs k := by
  intro j hj hjk
  obtain ⟨g, e0, e1, e2, e4⟩ := h j hj hjk
  exact ⟨g, e0, e1, e2, e4.keep d (Nat.le_refl _) hk⟩
theorem VlRow.step {d : Nat} {w : World} {lo : Nat} {l : List Vl} {xs : List Value} {k g : Nat} (h : VlRow d w lo l xs k) (hk : k < l.length) (hx : xs.length = l.length * 3) (hf : FVs d w lo g l[k].kids) :
    VlRow d w lo l (((xs.set (k * 3) (.int .i64 l[k].ctor)).set (k * 3 + 1) (.int .i64 l[k].n)).set (k * 3 + 2) (.slice (some ⟨g, 0, none⟩) l[k].kids.length l[k].kids.length)) (k + 1) := by
  intro j hj hjk
  by_cases e : j = k
  · subst e
    refine ⟨g, ?_, ?_, ?_, hf⟩
    · rw [List.getElem?_set_ne (by omega), List.getElem?_set_ne (by omega), List.getElem?_set_self (by omega)]
    · rw [List.getElem?_set_ne (by omega), List.getElem?_set_self (by simp <;> omega)]
    · rw [List.getElem?_set_self (by simp <;> omega)]
  · have := h j hj (by omega)
    rw [List.getElem?_set_ne (by omega), List.getElem?_set_ne (by omega), List.getElem?_set_ne (by omega), List.getElem?_set_ne (by omega), List.getElem?_set_ne (by omega), List.getElem?_set_ne (by omega), List.getElem?_set_ne (by omega), List.getElem?_set_ne (by omega), List.getElem?_set_ne (by omega)]
    exact this
theorem FVs.of_row {d : Nat} {w : World} {lo g : Nat} {l : List Vl} {xs : List Value} (h : w.ownsRow lo 37 3 (.slice (some ⟨g, 0, none⟩) l.length l.length) l.length xs) (hx : VlRow d w (g + 1) l xs l.length) (hn : l.length ≤ 1048576) : FVs (d + 1) w lo g l := by
  rcases h.2 with ⟨h', _⟩ | ⟨g', cap', cur, h', hb, hg, hnc, hcm, hcs, htake⟩
  · simp at h'
  · simp only [Value.slice.injEq, Option.some.injEq, Addr.mk.injEq, and_true, true_and] at h'
    obtain ⟨rfl, rfl⟩ := h'
    refine ⟨hb, by unfold maxLen; omega, cur, hg, hcs, fun k hk => ?_⟩
    rw [List.take_of_length_le (by rw [Array.length_toList]; omega)] at htake
    rw [← Array.getElem?_toList, ← Array.getElem?_toList, ← Array.getElem?_toList, htake]
    exact hx k hk hk
def ToS (d : Nat) : Prop := ∀ (A : Option Addr) (l : List Vl) (cap : Nat) (w : World), RVs d w w.heap.size A l → wVs l ≤ 1048576 →
  Calls Try.prog 34 #[.slice A l.length cap] w fun e w' => ∃ g, e = .returned (.slice (some ⟨g, 0, none⟩) l.length l.length) ∧ FVs (d + 1) w' w.heap.size g l ∧ Below w.heap.size w w'
theorem toV_of {d : Nat} (ih : ToS d) (A : Option Addr) (l : List Vl) (cap : Nat) (c n : Int) (w : World) (hr : RVs d w w.heap.size A l) (hn : wVs l ≤ 1048576) :
    Calls Try.prog 12 #[.agg #[.int .i64 c, .int .i64 n, .slice A l.length cap]] w fun e w' => ∃ g, e = .returned (.agg #[.int .i64 c, .int .i64 n, .slice (some ⟨g, 0, none⟩) l.length l.length]) ∧ FVs (d + 1) w' w.heap.size g l ∧ Below w.heap.size w w' := by
  have Hr := Lib.hid hr
  have IH := Lib.hid ih
  clear hr ih
  go_enter Try.func12, Try.ntmps12
  go_wp2_with (go_at_call 34; refine (IH.out _ _ _ _ (by exact Hr.out.keep (fun p hp => by rw [World.cell?_alloc_lt _ _ _ (by simp <;> omega), World.cell?_alloc_lt _ _ _ (by simp <;> omega), World.cell?_alloc_lt _ _ _ hp]) (by simp <;> omega)) hn).mono ?_; rintro e w1 ⟨g, rfl, hf, hb⟩; obtain ⟨hc, hfz⟩ := bcell hb; have hz : w.heap.size + 2 < w1.heap.size := by have := hb.size; simp at this; omega)
  refine bodyPost_ret (v := .agg #[.int .i64 c, .int .i64 n, .slice (some ⟨g, 0, none⟩) l.length l.length]) (by simp [results, Try.results12, go_sem, hc]) rfl ⟨g, rfl, ?_, ?_⟩
  · refine hf.keep _ (by simp <;> omega) (fun b cs hb' _ => ?_)
    simp only [World.size_alloc] at hb'
    repeat rw [Below.heap_setCell _ _ _ _ (by simp <;> omega)]
  · refine Below.setCell ?_ (by simp <;> omega) _
    refine Below.setCell ?_ (by simp <;> omega) _
    refine Below.setCell ?_ (by simp <;> omega) _
    refine Below.setCell ?_ (by simp <;> omega) _
    refine Below.trans ?_ (hb.mono (by simp <;> omega))
    refine Below.alloc (Below.alloc (Below.alloc (Below.refl _ _) ?_ _) ?_ _) ?_ _ <;> simp <;> omega
set_option maxHeartbeats 800000 in
theorem toS_of (d : Nat) (ih : ∀ d', d = d' + 1 → ToS d') : ToS d := by
  intro A l cap w hr hn
  obtain ⟨i0, hi, hz0, hz1, hz2⟩ := info_parts infoVl
  have Hr := Lib.hid hr
  have IH := Lib.hid ih
  have HSum := Lib.hid (wVs_sum l)
  have hl : l.length ≤ 1048576 := by have := wVs_sum l; omega
  clear hr ih
  go_enter Try.func34, Try.ntmps34
  go_wp2_with (at_make; refine wpList_make_full _ rfl _ _ 35 rfl w.heap.size 37 i0 _ 3 Try.underlying35 hi hz0 hz1 _ _ _ _ l.length rfl rfl rfl rfl (by rw [hz2]; omega) (by unfold maxLen; omega) (Nat.le_refl _) ?_; intro w1 hown hgr)
  go_loopw [4] (fun i wr => ∃ k : Nat, k ≤ l.length ∧ i = .int .i64 k ∧ ∃ xs, wr.ownsRow w.heap.size 37 3 (.slice (some ⟨w.heap.size, 0, none⟩) l.length l.length) l.length xs ∧ VlRow d wr (w.heap.size + 1) l xs k ∧ Below w.heap.size w wr) (fun i _ => l.length - (intOf i).toNat)
  case atStart => exact ⟨0, by omega, rfl, _, hown, VlRow.zero _ _ _ _ _, below_of_grown hgr (Nat.le_refl _)⟩
  case round =>
    obtain ⟨k, hk, rfl, xs, hown, hrow, hb⟩ := hrel
    clear hgr hi hz0 hz1 hz2
    by_cases hlt : k < l.length
    · obtain ⟨b, off, rfl, hbB, hv⟩ := (Hr.out.below hb (Nat.le_refl _)).2 k hlt
      obtain ⟨d', hd, A', cp, c0, c1, c2, hm⟩ := hv.parts
      have ha : wVs l[k].kids ≤ 1048576 := by
        have h1 := sum_take_succ wV l k hlt
        have h2 := sum_take_le wV l (k + 1)
        have h3 := wV_kids l[k]
        have h4 := HSum.out
        omega
      have IHd := Lib.hid (IH.out d' hd)
      have Hm := Lib.hid (hm.keep (fun _ _ => rfl) hb.size)
      have HD := Lib.hid hd
      have hwl : w.heap.size < wr.heap.size := own_lt hown
      clear hm hv hd
      go_wp2_with (go_at_call 12; refine (toV_of IHd.out _ _ _ _ _ _ Hm.out ha).mono ?_; rintro e w2 ⟨g, rfl, hf, hb2⟩; have hown2 := own_below hown hb2; obtain ⟨v0, f0⟩ := own_cell hown2 (k * 3) (by omega); obtain ⟨v1, f1⟩ := own_cell hown2 (k * 3 + 1) (by omega); obtain ⟨v2, f2⟩ := own_cell hown2 (k * 3 + 2) (by omega); have g0 := hown2.frozenAt (k * 3); have g1 := hown2.frozenAt (k * 3 + 1); have g2 := hown2.frozenAt (k * 3 + 2))
      have hx := hown2.1
      have s1 := (hown2.stored (k * 3) (.int .i64 l[k].ctor)).1
      have s2 := (s1.stored (k * 3 + 1) (.int .i64 l[k].n)).1
      have s3 := (s2.stored (k * 3 + 2) (.slice (some ⟨g, 0, none⟩) l[k].kids.length l[k].kids.length)).1
      have hrow2 : VlRow d w2 (w.heap.size + 1) l xs k := hrow.keep (fun b cs _ hh => hb2.block b (heap_lt hh))
      have hf2 : FVs d w2 (w.heap.size + 1) g l[k].kids := by rw [HD.out]; exact hf.keep _ (by omega) (fun _ _ _ _ => rfl)
      have hkeep : ∀ b o, w.heap.size + 1 ≤ b → w2.heap[b]? = some o → (((w2.setCell ⟨w.heap.size, k * 3, none⟩ (.int .i64 l[k].ctor)).setCell ⟨w.heap.size, k * 3 + 1, none⟩ (.int .i64 l[k].n)).setCell ⟨w.heap.size, k * 3 + 2, none⟩ (.slice (some ⟨g, 0, none⟩) l[k].kids.length l[k].kids.length)).heap[b]? = w2.heap[b]? := fun b cs hbb hh => by
        have hne : b ≠ w.heap.size := by omega
        rw [Below.heap_setCell _ _ _ _ hne, Below.heap_setCell _ _ _ _ hne, Below.heap_setCell _ _ _ _ hne]
      have hrow3 := (hrow2.step hlt hx hf2).keep hkeep
      go_roundw
      case rel => exact ⟨k + 1, by omega, by go_num, _, s3, hrow3, (((hb.trans (hb2.mono hb.size)).setCell (Nat.le_refl _) _).setCell (Nat.le_refl _) _).setCell (Nat.le_refl _) _⟩
      case measure => simp [intOf]; omega
    · go_wp2_with fail
      go_ret
      exact ⟨_, rfl, FVs.of_row hown (fun j hj _ => hrow j hj (by omega)) hl, hb⟩
theorem toS_any : ∀ d, ToS d
  | 0 => toS_of 0 (fun _ h => by omega)
  | d + 1 => toS_of (d + 1) (fun d' h => (Nat.succ.inj h) ▸ toS_any d)
theorem toV_any (d : Nat) (A : Option Addr) (l : List Vl) (cap : Nat) (c n : Int) (w : World) (hr : RVs d w w.heap.size A l) (hn : wVs l ≤ 1048576) :
    Calls Try.prog 12 #[.agg #[.int .i64 c, .int .i64 n, .slice A l.length cap]] w fun e w' => ∃ g, e = .returned (.agg #[.int .i64 c, .int .i64 n, .slice (some ⟨g, 0, none⟩) l.length l.length]) ∧ FVs (d + 1) w' w.heap.size g l ∧ Below w.heap.size w w' := toV_of (toS_any d) A l cap c n w hr hn
end Go.Proofs.Ytnfjjabeobcenaa
/-
  The functions that count how much values hold. No statement is proved here.
-/
namespace Go.Proofs.Ytnfjjabeobcenaa
open Go.RowKit
set_option maxRecDepth 100000
set_option linter.unusedVariables false
def SzS (d : Nat) : Prop := ∀ (A : Option Addr) (l : List Vl) (cap : Nat) (q : Int) (w : World), RVs d w w.heap.size A l → 0 ≤ q → q ≤ 1048576 →
  Calls Try.prog 30 #[.slice A l.length cap, .int .i64 q] w fun e w' => e = .returned (.int .i64 (left q (wVs l))) ∧ Below w.heap.size w w'
theorem szV_of {d : Nat} (ih : SzS d) (A : Option Addr) (l : List Vl) (cap : Nat) (c n q : Int) (w : World) (hr : RVs d w w.heap.size A l) (h0 : 0 ≤ q) (h1 : q ≤ 1048576) :
    Calls Try.prog 8 #[.agg #[.int .i64 c, .int .i64 n, .slice A l.length cap], .int .i64 q] w fun e w' => e = .returned (.int .i64 (left q (wVs l))) ∧ Below w.heap.size w w' := by
  have Hr := Lib.hid hr
  have IH := Lib.hid ih
  clear hr ih
  by_cases hc2 : (wVs l : Int) ≤ q
  · have H2 := Lib.hid (left_ok hc2)
    go_enter Try.func8, Try.ntmps8
    go_wp2_with (go_at_call 30; refine (IH.out _ _ _ _ _ (by exact Hr.out.keep (fun p hp => World.cell?_alloc_lt _ _ _ hp) (by simp)) h0 h1).mono ?_; rw [H2.out]; rintro e w' ⟨rfl, hb⟩)
    go_ret
    exact ⟨ret_i64 (by rw [H2.out]), ((Below.refl _ _).alloc (Nat.le_refl _) _).trans (hb.mono (by simp))⟩
  · have H2 := Lib.hid (left_no hc2)
    go_enter Try.func8, Try.ntmps8
    go_wp2_with (go_at_call 30; refine (IH.out _ _ _ _ _ (by exact Hr.out.keep (fun p hp => World.cell?_alloc_lt _ _ _ hp) (by simp)) h0 h1).mono ?_; rw [H2.out]; rintro e w' ⟨rfl, hb⟩)
    go_ret
    exact ⟨ret_i64 (by rw [H2.out]), ((Below.refl _ _).alloc (Nat.le_refl _) _).trans (hb.mono (by simp))⟩
set_option maxHeartbeats 400000 in
theorem szS_of (d : Nat) (ih : ∀ d', d = d' + 1 → SzS d') : SzS d := by
  intro A l cap q0 w hr h0 h1
  have hn := hr.1
  unfold maxLen at hn
  have Hr := Lib.hid hr
  have IH := Lib.hid ih
  have HSum := Lib.hid (wVs_sum l)
  clear hr ih
  by_cases hc : (l.length : Int) ≤ q0
  · go_enter Try.func30, Try.ntmps30
    go_wp2_with fail
    go_loopw [1, 5] (fun t i wr => ∃ k : Nat, k ≤ l.length ∧ i = .int .i64 k ∧ ∃ q : Int, 0 ≤ q ∧ q ≤ 1048576 ∧ t = .int .i64 q ∧ Hid (q = q0 - (l.length + ((l.take k).map wV).sum : Nat)) ∧ Below w.heap.size w wr) (fun _ i _ => l.length - (intOf i).toNat)
    case atStart => exact ⟨0, by omega, rfl, _, by omega, by omega, rfl, by unfold Hid; simp, Below.refl _ _⟩
    case round =>
      obtain ⟨k, hk, rfl, q, hq0, hq1, rfl, HQ, hb⟩ := hrel
      by_cases hlt : k < l.length
      · obtain ⟨b, off, rfl, hbB, hv⟩ := (Hr.out.below hb (Nat.le_refl _)).2 k hlt
        obtain ⟨d', hd, A', cp, c0, c1, c2, hm⟩ := hv.parts
        have HS := Lib.hid (sum_take_succ wV l k hlt)
        have HL := Lib.hid (sum_take_le wV l (k + 1))
        have HW := Lib.hid (wV_kids l[k])
        have Hm := Lib.hid (hm.keep (fun _ _ => rfl) hb.size)
        have IHd := Lib.hid (IH.out d' hd)
        clear hm hv hd
        by_cases hc2 : (wVs l[k].kids : Int) ≤ q
        · have H2 := Lib.hid (left_ok hc2)
          go_wp2_with (go_at_call 8; refine (szV_of IHd.out _ _ _ _ _ _ _ Hm.out (by omega) (by omega)).mono ?_; rw [H2.out]; rintro e w' ⟨rfl, hb'⟩)
          have hb2 := hb.trans (hb'.mono hb.size)
          go_roundw
          case rel => exact ⟨k + 1, by omega, by go_num, _, by omega, by omega, rfl, by unfold Hid; rw [HS.out, HW.out, HQ.out]; omega, hb2⟩
          case measure => simp [intOf]; omega
        · have H2 := Lib.hid (left_no hc2)
          have H := Lib.hid (left_no (l := q0) (n := wVs l) (by rw [HSum.out]; rw [HQ.out] at hc2; rw [HS.out, HW.out] at HL; have := HL.out; omega))
          go_wp2_with (go_at_call 8; refine (szV_of IHd.out _ _ _ _ _ _ _ Hm.out (by omega) (by omega)).mono ?_; rw [H2.out]; rintro e w' ⟨rfl, hb'⟩)
          have hb2 := hb.trans (hb'.mono hb.size)
          go_ret
          exact ⟨ret_i64 (by rw [H.out]), hb2⟩
      · go_wp2_with fail
        go_ret
        refine ⟨ret_i64 ?_, hb⟩
        have h2 := HQ.out
        rw [List.take_of_length_le (by omega), ← HSum.out] at h2
        rw [left_ok (by omega)]
        exact h2
  · have H := Lib.hid (left_no (l := q0) (n := wVs l) (by rw [HSum.out]; omega))
    go_enter Try.func30, Try.ntmps30
    go_wp2_with fail
    go_ret
    exact ⟨ret_i64 (by rw [H.out]), Below.refl _ _⟩
theorem szS_any : ∀ d, SzS d
  | 0 => szS_of 0 (fun _ h => by omega)
  | d + 1 => szS_of (d + 1) (fun d' h => (Nat.succ.inj h) ▸ szS_any d)
theorem szV_any (d : Nat) (A : Option Addr) (l : List Vl) (cap : Nat) (c n q : Int) (w : World) (hr : RVs d w w.heap.size A l) (h0 : 0 ≤ q) (h1 : q ≤ 1048576) :
    Calls Try.prog 8 #[.agg #[.int .i64 c, .int .i64 n, .slice A l.length cap], .int .i64 q] w fun e w' => e = .returned (.int .i64 (left q (wVs l))) ∧ Below w.heap.size w w' := szV_of (szS_any d) A l cap c n q w hr h0 h1
end Go.Proofs.Ytnfjjabeobcenaa
/-
  The functions that compare values, where both sides read as the same. No statement is proved here.
-/
namespace Go.Proofs.Ytnfjjabeobcenaa
open Go.RowKit Go.Sort
set_option maxRecDepth 100000
set_option linter.unusedVariables false
def EqS (d : Nat) : Prop := ∀ (A A' : Option Addr) (l : List Vl) (cap cap' : Nat) (w : World), RVs d w w.heap.size A l → RVs d w w.heap.size A' l →
  Calls Try.prog 38 #[.slice A l.length cap, .slice A' l.length cap'] w fun e w' => e = .returned (.bool true) ∧ Below w.heap.size w w'
theorem eqV_of {d : Nat} (ih : EqS d) (A A' : Option Addr) (l : List Vl) (cap cap' : Nat) (c n : Int) (w : World) (hr : RVs d w w.heap.size A l) (hr' : RVs d w w.heap.size A' l) :
    Calls Try.prog 15 #[.agg #[.int .i64 c, .int .i64 n, .slice A l.length cap], .agg #[.int .i64 c, .int .i64 n, .slice A' l.length cap']] w fun e w' => e = .returned (.bool true) ∧ Below w.heap.size w w' := by
  have Hr := Lib.hid hr
  have Hr' := Lib.hid hr'
  have IH := Lib.hid ih
  clear hr hr' ih
  go_enter Try.func15, Try.ntmps15
  go_wp2_with (go_at_call 38; refine (IH.out _ _ _ _ _ _ (by exact Hr.out.keep (keep_two _ _) (by simp; omega)) (by exact Hr'.out.keep (keep_two _ _) (by simp; omega))).mono ?_; rintro e w1 ⟨rfl, hb⟩; obtain ⟨hc, hfz⟩ := bcell hb)
  go_ret
  exact ⟨rfl, below_two hb⟩
set_option maxHeartbeats 800000 in
theorem eqS_of (d : Nat) (ih : ∀ d', d = d' + 1 → EqS d') : EqS d := by
  intro A A' l cap cap' w hr hr'
  have hn := hr.1
  unfold maxLen at hn
  have Hr := Lib.hid hr
  have Hr' := Lib.hid hr'
  have IH := Lib.hid ih
  clear hr hr' ih
  go_enter Try.func38, Try.ntmps38
  go_wp2_with fail
  go_loopw [5] (fun i wr => ∃ k : Nat, k ≤ l.length ∧ i = .int .i64 k ∧ Below w.heap.size w wr) (fun i _ => l.length - (intOf i).toNat)
  case atStart => exact ⟨0, by omega, rfl, Below.refl _ _⟩
  case round =>
    obtain ⟨k, hk, rfl, hb⟩ := hrel
    by_cases hlt : k < l.length
    · obtain ⟨b, off, rfl, hbB, hv⟩ := (Hr.out.below hb (Nat.le_refl _)).2 k hlt
      obtain ⟨d', hd, B1, cp, c0, c1, c2, hm⟩ := hv.parts
      obtain ⟨b', off', rfl, hbB', hv'⟩ := (Hr'.out.below hb (Nat.le_refl _)).2 k hlt
      obtain ⟨d'', hd', B2, cp', c0', c1', c2', hm'⟩ := hv'.parts
      obtain rfl : d'' = d' := by omega
      have d0 := cell_regrown c0
      have d1 := cell_regrown c1
      have d2 := cell_regrown c2
      have d0' := cell_regrown c0'
      have d1' := cell_regrown c1'
      have d2' := cell_regrown c2'
      have Hm := Lib.hid hm
      have Hm' := Lib.hid hm'
      have IHd := Lib.hid (IH.out d'' hd)
      clear c0 c1 c2 c0' c1' c2' hm hm' hv hv' hd hd'
      have hi : (k : Int) < (l.length : Int) := by omega
      go_wp2_with fail
      refine wp_region_quiet_below (by kernel_rfl) (by kernel_rfl) ?_
      repeat (quiet_step (exact Calls.regrown_of (eqV_of IHd.out _ _ _ _ _ _ _ _ (Hm.out.keep (fun p hp => (below_regrown wr _ _).cell (Nat.lt_of_lt_of_le hp hb.size)) (Nat.le_trans hb.size (below_regrown wr _ _).size)) (Hm'.out.keep (fun p hp => (below_regrown wr _ _).cell (Nat.lt_of_lt_of_le hp hb.size)) (Nat.le_trans hb.size (below_regrown wr _ _).size)))))
      refine wpQuiet_nil ?_
      intro _ hw'
      obtain ⟨⟨dq, osq⟩, hw''⟩ := hw'
      subst hw''
      have hb2 := hb.trans ((below_regrown wr dq osq).mono hb.size)
      clear d0 d1 d2 d0' d1' d2'
      go_wp2_with fail
      go_roundw
      case rel => exact ⟨k + 1, by omega, by go_num, hb2⟩
      case measure => simp [intOf]; omega
    · go_wp2_with fail
      go_ret
      exact ⟨rfl, hb⟩
theorem eqS_any : ∀ d, EqS d
  | 0 => eqS_of 0 (fun _ h => by omega)
  | d + 1 => eqS_of (d + 1) (fun d' h => (Nat.succ.inj h) ▸ eqS_any d)
theorem eqV_same (d : Nat) (A A' : Option Addr) (l : List Vl) (cap cap' : Nat) (c n : Int) (w : World) (hr : RVs d w w.heap.size A l) (hr' : RVs d w w.heap.size A' l) :
    Calls Try.prog 15 #[.agg #[.int .i64 c, .int .i64 n, .slice A l.length cap], .agg #[.int .i64 c, .int .i64 n, .slice A' l.length cap']] w fun e w' => e = .returned (.bool true) ∧ Below w.heap.size w w' := eqV_of (eqS_any d) A A' l cap cap' c n w hr hr'
end Go.Proofs.Ytnfjjabeobcenaa
/-
  The law FnExactValueValid walked. No statement is proved here.
-/
namespace Go.Proofs.Ytnfjjabeobcenaa
open Go.RowKit Go.Deep
set_option maxRecDepth 100000
set_option linter.unusedVariables false
set_option maxHeartbeats 3000000 in
theorem vv_law (A D : Option Addr) (l : List Da) (cap ep e : Nat) (t : Ty) (v : Vl) (w : World) (hr : RDas w w.heap.size A l) (hv : RVs e w w.heap.size D v.kids) :
    Calls Try.prog 3 #[.slice A l.length cap, .agg #[.int .i64 t.data, .int .i64 t.index], .agg #[.int .i64 v.ctor, .int .i64 v.n, .slice D v.kids.length ep]] w fun e w' => e = .returned (.bool true) ∧ Below w.heap.size w w' := by
  have Hr := Lib.hid hr
  have HV := Lib.hid hv
  clear hr hv
  generalize hw0 : (w.alloc (.cells #[.int .i64 t.data, .int .i64 t.index] 24)).alloc (.cells #[.int .i64 v.ctor, .int .i64 v.n, .slice D v.kids.length ep] 27) = w0
  have hb0 := below_box2 hw0
  have HXT : Hid (Bx w0 w.heap.size t) := by rw [← hw0]; exact ⟨by simp [go_sem], by simp [go_sem]⟩
  have HXV : Hid (VBx w0 (w.heap.size + 1) v.ctor v.n (.slice D v.kids.length ep)) := by rw [← hw0]; exact ⟨by simp [go_sem], by simp [go_sem], by simp [go_sem]⟩
  have HW := Lib.hid hw0
  clear hw0
  by_cases h1 : (wDas l : Int) ≤ 1048576
  · have H1 := Lib.hid (left_ok h1)
    by_cases h2 : (wVs v.kids : Int) ≤ 1048576 - (wDas l : Int)
    · have H2 := Lib.hid (left_ok h2)
      have hnv : wVs v.kids ≤ 1048576 := by omega
      have hnw : wV v ≤ 16000000 := by rw [wV_kids]; omega
      have hnd : wDas l ≤ 1048576 := by omega
      go_enter Try.func3, Try.ntmps3
      go_wp2_with (first | (go_at_call 7; rw [HW.out]; refine (szDataS_any _ _ _ _ _ (Hr.out.at_ hb0) (by omega) (by omega)).mono ?_; rw [H1.out]; rintro e1 w1 ⟨rfl, hb1⟩; obtain ⟨y0, y1, y2⟩ := HXV.out.at_ hb1; have hb1w := below_aft hb0 hb1 hb0.size) | (go_at_call 8; refine (szV_any e D v.kids ep v.ctor v.n _ _ (HV.out.at_ hb1w) (by omega) (by omega)).mono ?_; rw [H2.out]; rintro e2 w2 ⟨rfl, hb2⟩; have hb2w := below_aft hb1w hb2 hb1w.size; have hb20 := below_aft hb1 hb2 hb1.size))
      clear y0 y1 y2
      have hS2 : w2.cell? ⟨w.heap.size, 0, none⟩ = some (.int .i64 t.data) ∧ w2.cell? ⟨w.heap.size, 1, none⟩ = some (.int .i64 t.index) ∧ w2.cell? ⟨w.heap.size + 1, 0, none⟩ = some (.int .i64 v.ctor) ∧ w2.cell? ⟨w.heap.size + 1, 1, none⟩ = some (.int .i64 v.n) ∧ w2.cell? ⟨w.heap.size + 1, 2, none⟩ = some (.slice D v.kids.length ep) := by
        obtain ⟨a, b⟩ := HXT.out.at_ hb20
        obtain ⟨c, d, f⟩ := HXV.out.at_ hb20
        exact ⟨a, b, c, d, f⟩
      obtain ⟨x0, x1, y0, y1, y2⟩ := hS2
      go_region_held3 (fun w' => w'.cell? ⟨w.heap.size, 0, none⟩ = some (.int .i64 t.data) ∧ w'.cell? ⟨w.heap.size, 1, none⟩ = some (.int .i64 t.index) ∧ w'.cell? ⟨w.heap.size + 1, 0, none⟩ = some (.int .i64 v.ctor) ∧ w'.cell? ⟨w.heap.size + 1, 1, none⟩ = some (.int .i64 v.n) ∧ w'.cell? ⟨w.heap.size + 1, 2, none⟩ = some (.slice D v.kids.length ep)) (first | exact ⟨x0, x1, y0, y1, y2⟩ | exact S6 | exact S5 | exact S4 | exact S3 | go_keep) (first | (go_at_call 10; refine (toDataS_any _ _ _ _ (by exact Hr.out.at_ hb2w.drew) (by omega)).mono ?_; rintro e3 w3 ⟨g3, rfl, hf3, hb3'⟩; have hb3 : Below w2.heap.size w2 w3 := ⟨hb3'.os, hb3'.tape, hb3'.output, hb3'.size, hb3'.block⟩; have R3 := Lib.hid hf3.reads; have hb3w := below_aft hb2w hb3 hb2w.size; have hb30 := below_aft hb20 hb3 hb20.size; have XT3 := HXT.out.at_ hb30; have XV3 := HXV.out.at_ hb30; have S3 := And.intro XT3.1 (And.intro XT3.2 XV3); clear hf3 hb3' hb3) | (go_at_call 11; refine (toType_any _ _ _).mono ?_; rintro e4 w4 ⟨rfl, hb4⟩; have R4 := Lib.hid (R3.out.at_ hb4); have hb4w := below_aft hb3w hb4 hb3w.size; have hb40 := below_aft hb30 hb4 hb30.size; have XT4 := HXT.out.at_ hb40; have XV4 := HXV.out.at_ hb40; have S4 := And.intro XT4.1 (And.intro XT4.2 XV4); clear hb4) | (go_at_call 12; refine (toV_any e D v.kids ep v.ctor v.n _ (HV.out.at_ hb4w) hnv).mono ?_; rintro e5 w5 ⟨g5, rfl, hf5, hb5⟩; have R5 := Lib.hid (R4.out.at_ hb5); have V5 := Lib.hid (FVs.reads _ hf5); have hb5w := below_aft hb4w hb5 hb4w.size; have hb50 := below_aft hb40 hb5 hb40.size; have XT5 := HXT.out.at_ hb50; have XV5 := HXV.out.at_ hb50; have S5 := And.intro XT5.1 (And.intro XT5.2 XV5); clear hf5 hb5) | (go_at_call 9; refine (vv_spec _ _ l _ _ e t v _ R5.out V5.out hnw).mono ?_; rintro e6 w6 ⟨rfl, hb6⟩; have hb6w := below_aft hb5w hb6 hb5w.size; have hb60 := below_aft hb50 hb6 hb50.size; have XT6 := HXT.out.at_ hb60; have XV6 := HXV.out.at_ hb60; have S6 := And.intro XT6.1 (And.intro XT6.2 XV6); clear hb6))
      clear x0 x1 y0 y1 y2 S3 S4 S5 S6 XT3 XT4 XT5 XV3 XV4 XV5 R3 R4 R5 V5 hb3w hb4w hb5w hb30 hb40 hb50
      obtain ⟨a0, a1⟩ := XT6
      obtain ⟨a2, a3, a4⟩ := XV6
      go_wp2_with (first | (go_at_call 10; refine (toDataS_any _ _ _ _ (by exact Hr.out.at_ hb6w) (by omega)).mono ?_; rintro e7 w7 ⟨g7, rfl, hf7, hb7⟩; have R7 := Lib.hid hf7.reads; have hb7w := below_aft hb6w hb7 hb6w.size; have hb70 := below_aft hb60 hb7 hb60.size; obtain ⟨c2, c3, c4⟩ := HXV.out.at_ hb70; clear hf7 hb7) | (go_at_call 12; refine (toV_any e D v.kids ep v.ctor v.n _ (HV.out.at_ hb7w) hnv).mono ?_; rintro e8 w8 ⟨g8, rfl, hf8, hb8⟩; have R8 := Lib.hid (R7.out.at_ hb8); have V8 := Lib.hid (FVs.reads _ hf8); have hb8w := below_aft hb7w hb8 hb7w.size; have hb80 := below_aft hb70 hb8 hb70.size; clear hf8 hb8))
      clear a0 a1 a2 a3 a4 c2 c3 c4
      obtain ⟨w9, hw9⟩ : ∃ w9, w9 = w8.alloc (.cells #[.int .i64 v.ctor, .int .i64 v.n, .slice (some ⟨g8, 0, none⟩) v.kids.length v.kids.length] 37) := ⟨_, rfl⟩
      rw [← hw9]
      have hb89 : Below w8.heap.size w8 w9 := by rw [hw9]; exact (Below.refl _ _).alloc (Nat.le_refl _) _
      have HXI : Hid (VBx w9 w8.heap.size v.ctor v.n (.slice (some ⟨g8, 0, none⟩) v.kids.length v.kids.length)) := by rw [hw9]; exact ⟨by simp [go_sem], by simp [go_sem], by simp [go_sem]⟩
      have R9 := Lib.hid (R8.out.at_ hb89)
      have V9 := Lib.hid (V8.out.at_ hb89)
      have hb9w := below_aft hb8w hb89 hb8w.size
      have hb90 := below_aft hb80 hb89 hb80.size
      clear hw9 hb89 R8 V8
      obtain ⟨x0, x1⟩ := HXT.out.at_ hb90
      obtain ⟨y0, y1, y2⟩ := HXI.out
      go_region_held3 (fun w' => w'.cell? ⟨w.heap.size, 0, none⟩ = some (.int .i64 t.data) ∧ w'.cell? ⟨w.heap.size, 1, none⟩ = some (.int .i64 t.index) ∧ w'.cell? ⟨w8.heap.size, 0, none⟩ = some (.int .i64 v.ctor) ∧ w'.cell? ⟨w8.heap.size, 1, none⟩ = some (.int .i64 v.n) ∧ w'.cell? ⟨w8.heap.size, 2, none⟩ = some (.slice (some ⟨g8, 0, none⟩) v.kids.length v.kids.length)) (first | exact ⟨x0, x1, y0, y1, y2⟩ | exact S11 | exact S10 | go_keep) (first | (go_at_call 11; refine (toType_any _ _ _).mono ?_; rintro e10 w10 ⟨rfl, hb10'⟩; have hb10 : Below w9.heap.size w9 w10 := ⟨hb10'.os, hb10'.tape, hb10'.output, hb10'.size, hb10'.block⟩; have R10 := Lib.hid (R9.out.at_ hb10); have V10 := Lib.hid (V9.out.at_ hb10); have hb10w := below_aft hb9w hb10 hb9w.size; have hb100 := below_aft hb90 hb10 hb90.size; have XT10 := HXT.out.at_ hb100; have XI10 := HXI.out.at_ hb10; have S10 := And.intro XT10.1 (And.intro XT10.2 XI10); clear hb10') | (go_at_call 13; refine (vv_impl _ _ l _ _ e t v _ R10.out V10.out hnw).mono ?_; rintro e11 w11 ⟨rfl, hb11⟩; have R11 := Lib.hid (R10.out.at_ hb11); have V11 := Lib.hid (V10.out.at_ hb11); have hb11w := below_aft hb10w hb11 hb10w.size; have hb110 := below_aft hb100 hb11 hb100.size; have hb119 := below_aft hb10 hb11 hb10.size; have XT11 := HXT.out.at_ hb110; have XI11 := HXI.out.at_ hb119; have S11 := And.intro XT11.1 (And.intro XT11.2 XI11); clear hb11))
      clear x0 x1 y0 y1 y2 S10 S11 XT10 XI10 XT11 XI11 R10 V10 hb10w hb100 hb10 R9 V9
      go_wp2_with (first | (go_at_call 10; refine (toDataS_any _ _ _ _ (by exact Hr.out.at_ hb11w) (by omega)).mono ?_; rintro e12 w12 ⟨g12, rfl, hf12, hb12⟩; have R12 := Lib.hid (R11.out.at_ hb12); have V12 := Lib.hid (V11.out.at_ hb12); have Q12 := Lib.hid hf12.reads; have hb12w := below_aft hb11w hb12 hb11w.size; have hb120 := below_aft hb110 hb12 hb110.size; have hb129 := below_aft hb119 hb12 hb119.size; clear hf12 hb12) | (go_at_call 14; refine (eqDataS_same _ _ _ _ _ _ R12.out Q12.out).mono ?_; rintro e13 w13 ⟨rfl, hb13⟩; have V13 := Lib.hid (V12.out.at_ hb13); have hb13w := below_aft hb12w hb13 hb12w.size; have hb130 := below_aft hb120 hb13 hb120.size; have hb139 := below_aft hb129 hb13 hb129.size; clear hb13))
      obtain ⟨x2, x3, x4⟩ := HXV.out.at_ hb130
      obtain ⟨y0, y1, y2⟩ := HXI.out.at_ hb139
      go_region_held3 (fun w' => w'.cell? ⟨w.heap.size + 1, 0, none⟩ = some (.int .i64 v.ctor) ∧ w'.cell? ⟨w.heap.size + 1, 1, none⟩ = some (.int .i64 v.n) ∧ w'.cell? ⟨w.heap.size + 1, 2, none⟩ = some (.slice D v.kids.length ep) ∧ w'.cell? ⟨w8.heap.size, 0, none⟩ = some (.int .i64 v.ctor) ∧ w'.cell? ⟨w8.heap.size, 1, none⟩ = some (.int .i64 v.n) ∧ w'.cell? ⟨w8.heap.size, 2, none⟩ = some (.slice (some ⟨g8, 0, none⟩) v.kids.length v.kids.length)) (first | exact ⟨x2, x3, x4, y0, y1, y2⟩ | exact S15 | exact S14 | go_keep) (first | (go_at_call 12; refine (toV_any e D v.kids ep v.ctor v.n _ (by exact HV.out.at_ hb13w.drew) hnv).mono ?_; rintro e14 w14 ⟨g14, rfl, hf14, hb14'⟩; have hb14 : Below w13.heap.size w13 w14 := ⟨hb14'.os, hb14'.tape, hb14'.output, hb14'.size, hb14'.block⟩; have V14 := Lib.hid (V13.out.at_ hb14); have Q14 := Lib.hid (FVs.reads _ hf14); have hb14w := below_aft hb13w hb14 hb13w.size; have hb140 := below_aft hb130 hb14 hb130.size; have hb149 := below_aft hb139 hb14 hb139.size; have XV14 := HXV.out.at_ hb140; have XI14 := HXI.out.at_ hb149; have S14 := And.intro XV14.1 (And.intro XV14.2.1 (And.intro XV14.2.2 XI14)); clear hf14 hb14') | (go_at_call 15; refine (eqV_same e _ _ v.kids _ _ v.ctor v.n _ V14.out Q14.out).mono ?_; rintro e15 w15 ⟨rfl, hb15⟩; have hb15w := below_aft hb14w hb15 hb14w.size; have hb150 := below_aft hb140 hb15 hb140.size; have hb159 := below_aft hb149 hb15 hb149.size; have XV15 := HXV.out.at_ hb150; have XI15 := HXI.out.at_ hb159; have S15 := And.intro XV15.1 (And.intro XV15.2.1 (And.intro XV15.2.2 XI15)); clear hb15))
      clear x2 x3 x4 y0 y1 y2 S14 S15 XV14 XI14 XV15 XI15
      go_wp2_with fail
      go_ret
      exact ⟨rfl, hb15w⟩
    · have H2 := Lib.hid (left_no h2)
      go_enter Try.func3, Try.ntmps3
      go_wp2_with (first | (go_at_call 7; rw [HW.out]; refine (szDataS_any _ _ _ _ _ (Hr.out.at_ hb0) (by omega) (by omega)).mono ?_; rw [H1.out]; rintro e1 w1 ⟨rfl, hb1⟩; obtain ⟨y0, y1, y2⟩ := HXV.out.at_ hb1; have hb1w := below_aft hb0 hb1 hb0.size) | (go_at_call 8; refine (szV_any e D v.kids ep v.ctor v.n _ _ (HV.out.at_ hb1w) (by omega) (by omega)).mono ?_; rw [H2.out]; rintro e2 w2 ⟨rfl, hb2⟩; have hb2w := below_aft hb1w hb2 hb1w.size))
      go_ret
      exact ⟨rfl, hb2w⟩
  · have H1 := Lib.hid (left_no h1)
    go_enter Try.func3, Try.ntmps3
    go_wp2_with (go_at_call 7; rw [HW.out]; refine (szDataS_any _ _ _ _ _ (Hr.out.at_ hb0) (by omega) (by omega)).mono ?_; rw [H1.out]; rintro e1 w1 ⟨rfl, hb1⟩; have hb1w := below_aft hb0 hb1 hb0.size)
    go_ret
    exact ⟨rfl, hb1w⟩
end Go.Proofs.Ytnfjjabeobcenaa
