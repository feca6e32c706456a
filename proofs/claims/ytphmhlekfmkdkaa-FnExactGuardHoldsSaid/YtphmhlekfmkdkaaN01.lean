/-
  Copies of what variables stand for. No statement is proved here.
-/
import Derived.Test.YtphmhlekfmkdkaaN00
import Derived.Test.YtphmhlekfmkdkaaK00
import Derived.Test.YtphmhlekfmkdkaaG12
import Derived.Deep.Strs
namespace Go.Proofs.Ytphmhlekfmkdkaa
open Go.RowKit Go.Sort
set_option maxRecDepth 100000
set_option linter.unusedVariables false


set_option maxHeartbeats 3200000 in
theorem toB_any (d : Nat) (A : Option Addr) (l : List Vl) (cap : Nat) (x c n : Int) (w : World) (hr : RVs d w w.heap.size A l) (hn : wVs l ≤ 1048576) :
    Calls Try.prog 58 #[.agg #[.int .i64 x, .int .i64 c, .int .i64 n, .slice A l.length cap]] w fun e w' => ∃ A2, e = .returned (.agg #[.int .i64 x, .int .i64 c, .int .i64 n, .slice A2 l.length l.length]) ∧ OVs (d + 1) w' (Nw w w') A2 l ∧ Below w.heap.size w w' := by
  have Hr := Lib.hid hr
  clear hr
  go_enter Try.func58, Try.ntmps58
  go_wp2_with (go_at_call 82; refine (toVO_any d _ _ _ _ _ _ (by exact Hr.out.keep (fun p hp => by rw [World.cell?_alloc_lt _ _ _ (by simp <;> omega), World.cell?_alloc_lt _ _ _ (by simp <;> omega), World.cell?_alloc_lt _ _ _ hp]) (by simp <;> omega)) hn).mono ?_; rintro e w1 ⟨A2, rfl, hf, hb⟩; obtain ⟨hc, hfz⟩ := bcell hb; have hz : w.heap.size + 2 < w1.heap.size := (by have := hb.size; simp at this; omega))
  refine bodyPost_ret (v := .agg #[.int .i64 x, .int .i64 c, .int .i64 n, .slice A2 l.length l.length]) (by simp [results, Try.results58, go_sem, hc]) rfl ⟨A2, rfl, ?_, ?_⟩
  · refine (hf.fr _ (P' := fun b => b < w.heap.size + 3) ?_ (fun b hq => by have := hq.1; simp only [World.size_alloc] at this; omega)).wide _ (fun b hq => ⟨by have := hq.1; simp only [World.size_alloc] at this; omega, by have h2 := hq.2; simpa [World.setCell] using h2⟩)
    repeat (refine Fr.trans ?_ (Fr.set _ _ _ _ (by simp <;> omega)))
    exact Fr.refl _ _
  · skip
    repeat (refine Below.setCell ?_ (by simp <;> omega) _)
    refine Below.trans ?_ (hb.mono (by simp <;> omega))
    refine Below.alloc (Below.alloc (Below.alloc (Below.refl _ _) ?_ _) ?_ _) ?_ _ <;> simp <;> omega

theorem infoBn : (Try.prog.info? 108).map (fun i => (i.zero, i.size, i.bytes)) = some (some (.agg #[.int .i64 0, .int .i64 0, .int .i64 0, .slice none 0 0]), 4, 48) := by kernel_rfl
/-- The row of a list of binds while it is made. -/
def RowB (d : Nat) (w : World) (g : Nat) (l : List Bn) (xs : List Value) (k : Nat) : Prop := ∀ j (h : j < l.length), j < k → ∃ A' cap, xs[j * 4]? = some (.int .i64 l[j].var) ∧ xs[j * 4 + 1]? = some (.int .i64 l[j].val.ctor) ∧ xs[j * 4 + 2]? = some (.int .i64 l[j].val.n) ∧ xs[j * 4 + 3]? = some (.slice A' l[j].val.kids.length cap) ∧ OVs (d + 1) w (fun b => b ≠ g ∧ b < w.heap.size) A' l[j].val.kids
theorem RowB.zero (d : Nat) (w : World) (g : Nat) (l : List Bn) (xs : List Value) : RowB d w g l xs 0 := fun j _ h => absurd h (by omega)
theorem RowB.fr {d : Nat} {w w' : World} {g : Nat} {l : List Bn} {xs : List Value} {k : Nat} {P' : Nat → Prop} (h : RowB d w g l xs k) (hf : Fr P' w w') (hp : ∀ b, b ≠ g → b < w.heap.size → ¬ P' b) : RowB d w' g l xs k := fun j hj hjk => by
  obtain ⟨A', cap, e0, e1, e2, e3, e9⟩ := h j hj hjk
  exact ⟨A', cap, e0, e1, e2, e3, (e9.fr _ hf (fun b hb => hp b hb.1 hb.2)).wide _ (fun b hb => ⟨hb.1, Nat.lt_of_lt_of_le hb.2 hf.size⟩)⟩
theorem RowB.more {d : Nat} {w w' : World} {g : Nat} {l : List Bn} {xs xs' : List Value} {k cap : Nat} {A' : Option Addr} (h : RowB d w g l xs k) (hb : Below w.heap.size w w') (hg : g < w.heap.size) (hk : k < l.length)
    (ho : OVs (d + 1) w' (Nw w w') A' l[k].val.kids) (hx : ∀ j c, j < k → c < 4 → xs'[j * 4 + c]? = xs[j * 4 + c]?) (e0 : xs'[k * 4]? = some (.int .i64 l[k].var)) (e1 : xs'[k * 4 + 1]? = some (.int .i64 l[k].val.ctor)) (e2 : xs'[k * 4 + 2]? = some (.int .i64 l[k].val.n)) (e3 : xs'[k * 4 + 3]? = some (.slice A' l[k].val.kids.length cap)) :
    RowB d w' g l xs' (k + 1) := by
  have h' := h.fr (P' := fun _ => False) (Fr.below hb) (fun _ _ _ h => h)
  intro j hj hjk
  by_cases e : j = k
  · subst e
    exact ⟨A', cap, e0, e1, e2, e3, ho.wide _ (fun b hq => ⟨by have := hq.1; omega, hq.2⟩)⟩
  · obtain ⟨A2, c2, f0, f1, f2, f3, f9⟩ := h' j hj (by omega)
    exact ⟨A2, c2, (hx j 0 (by omega) (by omega)).trans f0, (hx j 1 (by omega) (by omega)).trans f1, (hx j 2 (by omega) (by omega)).trans f2, (hx j 3 (by omega) (by omega)).trans f3, f9⟩
theorem RBs.of_row {d : Nat} {w : World} {lo g0 : Nat} {v : Value} {l : List Bn} {xs : List Value} (h : w.ownsRow lo 108 4 v l.length xs) (hx : RowB d w g0 l xs l.length) (hn : l.length ≤ 1048576) : ∃ A cap, v = .slice A l.length cap ∧ RBs d w w.heap.size A l := by
  rcases h.2 with ⟨h', h0⟩ | ⟨g, cap, cur, h', hb, hg, hnc, hcm, hcs, htake⟩
  · refine ⟨none, 0, by rw [h0]; exact h', by unfold maxLen; omega, fun k hl => absurd hl (by omega)⟩
  · subst h'
    refine ⟨_, cap, rfl, by unfold maxLen; omega, fun k hk => ?_⟩
    obtain ⟨A', c', e0, e1, e2, e3, e9⟩ := hx k hk hk
    have hat : ∀ i, i < l.length * 4 → cur[i]? = xs[i]? := fun i hi => by
      rw [← htake, List.getElem?_take_of_lt hi, Array.getElem?_toList]
    have hc : ∀ i v, i < l.length * 4 → xs[i]? = some v → w.cell? ⟨g, 0 + i, none⟩ = some v := fun i v hi hv => by rw [cell_of_blk hg, Nat.zero_add]; exact (hat i hi).trans hv
    refine ⟨g, 0, rfl, heap_lt hg, A', c', hc _ _ (by omega) e0, ?_, ?_, ?_, OVs.reads d e9⟩
    · simpa using hc _ _ (by omega) e1
    · simpa using hc _ _ (by omega) e2
    · simpa using hc _ _ (by omega) e3

set_option maxHeartbeats 1600000 in
theorem toBs_any (d : Nat) (A : Option Addr) (l : List Bn) (cap : Nat) (w : World) (hr : RBs d w w.heap.size A l) (hn : wBs l ≤ 1048576) :
    Calls Try.prog 32 #[.slice A l.length cap] w fun e w' => ∃ A2, e = .returned (.slice A2 l.length l.length) ∧ RBs d w' w'.heap.size A2 l ∧ Below w.heap.size w w' := by
  obtain ⟨i0, hi, hz0, hz1, hz2⟩ := info_parts infoBn
  have Hr := Lib.hid hr
  have HSum : Hid (wBs l = l.length + (l.map wB).sum) := rfl
  have hl : l.length ≤ 1048576 := by have := HSum.out; omega
  clear hr
  go_enter Try.func32, Try.ntmps32
  go_wp2_with (at_make; refine wpList_make_full _ rfl _ _ 64 rfl w.heap.size 108 i0 _ 4 Try.underlying64 hi hz0 hz1 _ _ _ _ l.length rfl rfl rfl rfl (by rw [hz2]; omega) (by unfold maxLen; omega) (Nat.le_refl _) ?_; intro w1 hown hgr)
  go_loopw [4] (fun i wr => ∃ k : Nat, k ≤ l.length ∧ i = .int .i64 k ∧ ∃ xs, wr.ownsRow w.heap.size 108 4 (.slice (some ⟨w.heap.size, 0, none⟩) l.length l.length) l.length xs ∧ RowB d wr w.heap.size l xs k ∧ Below w.heap.size w wr) (fun i _ => l.length - (intOf i).toNat)
  case atStart => exact ⟨0, by omega, rfl, _, hown, RowB.zero _ _ _ _ _, below_of_grown hgr (Nat.le_refl _)⟩
  case round =>
    obtain ⟨k, hk, rfl, xs, hown, hrow, hb⟩ := hrel
    clear hgr hi hz0 hz1 hz2
    by_cases hlt : k < l.length
    · obtain ⟨b, off, rfl, hbB, A', cp, c0, c1, c2, c3, hm⟩ := (Hr.out.below hb (Nat.le_refl _)).2 k hlt
      have ha : wVs l[k].val.kids ≤ 1048576 := by
        have h1 := sum_take_succ wB l k hlt
        have h2 := sum_take_le wB l (k + 1)
        have h3 : wB l[k] = wVs l[k].val.kids := rfl
        have h4 := HSum.out
        omega
      have Hm := Lib.hid (hm.keep (fun _ _ => rfl) hb.size)
      have hwl : w.heap.size < wr.heap.size := own_lt hown
      have HROW := Lib.hid hrow
      clear hm hrow
      go_wp2_with (go_at_call 58; refine (toB_any d _ _ _ _ _ _ _ Hm.out ha).mono ?_; rintro e w2 ⟨A2, rfl, hf, hb2⟩; have hown2 := own_below hown hb2; obtain ⟨v0, f0⟩ := own_cell hown2 (k * 4) (by omega); obtain ⟨v1, f1⟩ := own_cell hown2 (k * 4 + 1) (by omega); obtain ⟨v2, f2⟩ := own_cell hown2 (k * 4 + 2) (by omega); obtain ⟨v3, f3⟩ := own_cell hown2 (k * 4 + 3) (by omega); have g0 := hown2.frozenAt (k * 4); have g1 := hown2.frozenAt (k * 4 + 1); have g2 := hown2.frozenAt (k * 4 + 2); have g3 := hown2.frozenAt (k * 4 + 3); skip)
      have hx := hown2.1
      have s1 := (hown2.stored (k * 4) (.int .i64 l[k].var)).1
      have s2 := (s1.stored (k * 4 + 1) (.int .i64 l[k].val.ctor)).1
      have s3 := (s2.stored (k * 4 + 2) (.int .i64 l[k].val.n)).1
      have s4 := (s3.stored (k * 4 + 3) (.slice A2 l[k].val.kids.length l[k].val.kids.length)).1
      have hrow2 := HROW.out.more (xs' := ((((xs.set (k * 4) (.int .i64 l[k].var)).set (k * 4 + 1) (.int .i64 l[k].val.ctor)).set (k * 4 + 2) (.int .i64 l[k].val.n)).set (k * 4 + 3) (.slice A2 l[k].val.kids.length l[k].val.kids.length))) hb2 hwl hlt hf (fun j c hj hc => by rw [List.getElem?_set_ne (by omega), List.getElem?_set_ne (by omega), List.getElem?_set_ne (by omega), List.getElem?_set_ne (by omega)]) (by rw [List.getElem?_set_ne (by omega), List.getElem?_set_ne (by omega), List.getElem?_set_ne (by omega), List.getElem?_set_self (by first | omega | (simp <;> omega))]) (by rw [List.getElem?_set_ne (by omega), List.getElem?_set_ne (by omega), List.getElem?_set_self (by first | omega | (simp <;> omega))]) (by rw [List.getElem?_set_ne (by omega), List.getElem?_set_self (by first | omega | (simp <;> omega))]) (by rw [List.getElem?_set_self (by first | omega | (simp <;> omega))])
      have hrow3 := hrow2.fr (w' := ((((w2.setCell ⟨w.heap.size, k * 4, none⟩ (.int .i64 l[k].var)).setCell ⟨w.heap.size, k * 4 + 1, none⟩ (.int .i64 l[k].val.ctor)).setCell ⟨w.heap.size, k * 4 + 2, none⟩ (.int .i64 l[k].val.n)).setCell ⟨w.heap.size, k * 4 + 3, none⟩ (.slice A2 l[k].val.kids.length l[k].val.kids.length))) (P' := fun b => b = w.heap.size) ((((Fr.set (P := fun b => b = w.heap.size) _ _ _ _ rfl).trans (Fr.set (P := fun b => b = w.heap.size) _ _ _ _ rfl)).trans (Fr.set (P := fun b => b = w.heap.size) _ _ _ _ rfl)).trans (Fr.set (P := fun b => b = w.heap.size) _ _ _ _ rfl)) (fun b hb' _ e => hb' e)
      go_roundw
      case rel => exact ⟨k + 1, by omega, by go_num, _, s4, hrow3, ((((hb.trans (hb2.mono hb.size)).setCell (Nat.le_refl _) _).setCell (Nat.le_refl _) _).setCell (Nat.le_refl _) _).setCell (Nat.le_refl _) _⟩
      case measure => simp [intOf]; omega
    · go_wp2_with fail
      go_ret
      have he : k = l.length := by omega
      obtain ⟨A2, c2, e2, ho⟩ := RBs.of_row hown (he ▸ hrow) hl
      injection e2 with e3 e4 e5
      subst e3
      exact ⟨_, rfl, ho, hb⟩
end Go.Proofs.Ytphmhlekfmkdkaa
/-
  Comparison of what variables stand for, where both sides read as the same. No statement is proved here.
-/
namespace Go.Proofs.Ytphmhlekfmkdkaa
open Go.RowKit Go.Sort
set_option maxRecDepth 100000
set_option linter.unusedVariables false


set_option maxHeartbeats 1600000 in
theorem eqB_same (d : Nat) (A A' : Option Addr) (l : List Vl) (cap cap' : Nat) (x c n : Int) (w : World) (hr : RVs d w w.heap.size A l) (hr' : RVs d w w.heap.size A' l) :
    Calls Try.prog 62 #[.agg #[.int .i64 x, .int .i64 c, .int .i64 n, .slice A l.length cap], .agg #[.int .i64 x, .int .i64 c, .int .i64 n, .slice A' l.length cap']] w fun e w' => e = .returned (.bool true) ∧ Below w.heap.size w w' := by
  have Hr := Lib.hid hr
  have Hr' := Lib.hid hr'
  clear hr hr'
  go_enter Try.func62, Try.ntmps62
  go_wp2_with (go_at_call 83; refine (eqV_same d _ _ l _ _ _ _ _ (by exact Hr.out.keep (keep_two _ _) (by simp; omega)) (by exact Hr'.out.keep (keep_two _ _) (by simp; omega))).mono ?_; rintro e w1 ⟨rfl, hb⟩; obtain ⟨hc, hfz⟩ := bcell hb)
  go_ret
  exact ⟨rfl, below_two hb⟩

set_option maxHeartbeats 800000 in
theorem eqBs_same (d : Nat) (A A' : Option Addr) (l : List Bn) (cap cap' : Nat) (w : World) (hr : RBs d w w.heap.size A l) (hr' : RBs d w w.heap.size A' l) :
    Calls Try.prog 34 #[.slice A l.length cap, .slice A' l.length cap'] w fun e w' => e = .returned (.bool true) ∧ Below w.heap.size w w' := by
  have hn := hr.1
  unfold maxLen at hn
  have Hr := Lib.hid hr
  have Hr' := Lib.hid hr'
  clear hr hr'
  go_enter Try.func34, Try.ntmps34
  go_wp2_with fail
  go_loopw [5] (fun i wr => ∃ k : Nat, k ≤ l.length ∧ i = .int .i64 k ∧ Below w.heap.size w wr) (fun i _ => l.length - (intOf i).toNat)
  case atStart => exact ⟨0, by omega, rfl, Below.refl _ _⟩
  case round =>
    obtain ⟨k, hk, rfl, hb⟩ := hrel
    by_cases hlt : k < l.length
    · obtain ⟨b, off, rfl, hbB, B1, cp, c0, c1, c2, c3, hm⟩ := (Hr.out.below hb (Nat.le_refl _)).2 k hlt
      obtain ⟨b', off', rfl, hbB', B2, cp', c0', c1', c2', c3', hm'⟩ := (Hr'.out.below hb (Nat.le_refl _)).2 k hlt
      have d0 := cell_regrown c0
      have d1 := cell_regrown c1
      have d2 := cell_regrown c2
      have d3 := cell_regrown c3
      have d0' := cell_regrown c0'
      have d1' := cell_regrown c1'
      have d2' := cell_regrown c2'
      have d3' := cell_regrown c3'
      have Hm := Lib.hid hm
      have Hm' := Lib.hid hm'
      clear c0 c1 c2 c3 c0' c1' c2' c3' hm hm'
      have hi : (k : Int) < (l.length : Int) := by omega
      go_wp2_with fail
      refine wp_region_quiet_below (by kernel_rfl) (by kernel_rfl) ?_
      repeat (quiet_step (exact Calls.regrown_of (eqB_same d _ _ _ _ _ _ _ _ _ (Hm.out.keep (fun p hp => (below_regrown wr _ _).cell (Nat.lt_of_lt_of_le hp hb.size)) (Nat.le_trans hb.size (below_regrown wr _ _).size)) (Hm'.out.keep (fun p hp => (below_regrown wr _ _).cell (Nat.lt_of_lt_of_le hp hb.size)) (Nat.le_trans hb.size (below_regrown wr _ _).size)))))
      refine wpQuiet_nil ?_
      intro _ hw'
      obtain ⟨⟨dq, osq⟩, hw''⟩ := hw'
      subst hw''
      have hb2 := hb.trans ((below_regrown wr dq osq).mono hb.size)
      clear d0 d1 d2 d3 d0' d1' d2' d3'
      go_wp2_with fail
      go_roundw
      case rel => exact ⟨k + 1, by omega, by go_num, hb2⟩
      case measure => simp [intOf]; omega
    · go_wp2_with fail
      go_ret
      exact ⟨rfl, hb⟩
end Go.Proofs.Ytphmhlekfmkdkaa
/-
  The law FnExactGuardHolds walked. No statement is proved here.
-/
namespace Go.Proofs.Ytphmhlekfmkdkaa
open Go.RowKit Go.Deep
set_option maxRecDepth 100000
set_option linter.unusedVariables false


set_option maxHeartbeats 3000000 in
theorem gh_law (d : Nat) (A : Option Addr) (l : List Bn) (cap : Nat) (g0 g1 g2 : Int) (w : World) (hr : RBs d w w.heap.size A l) :
    Calls Try.prog 6 #[.agg #[.int .i64 g0, .int .i64 g1, .int .i64 g2], .slice A l.length cap] w fun e w' => e = .returned (.bool true) ∧ Below w.heap.size w w' := by
  have Hr := Lib.hid hr
  clear hr
  generalize hw0 : w.alloc (.cells #[.int .i64 g0, .int .i64 g1, .int .i64 g2] 49) = w0
  have hb0w : Below w.heap.size w w0 := by rw [← hw0]; exact (Below.refl _ _).alloc (Nat.le_refl _) _
  have hb00 : Below w0.heap.size w0 w0 := Below.refl _ _
  have HX : Hid (GBx w0 w.heap.size g0 g1 g2) := by rw [← hw0]; exact ⟨by simp [go_sem], by simp [go_sem], by simp [go_sem]⟩
  have HW := Lib.hid hw0
  clear hw0
  by_cases h1 : (wBs l : Int) ≤ 1048576
  · have H1 := Lib.hid (left_ok h1)
    have hnl : wBs l ≤ 1048576 := by omega
    generalize hgb : ghB g0 g1 g2 l = gb at *
    go_enter Try.func6, Try.ntmps6
    go_wp2_with (first | (go_at_call 29; (try rw [HW.out]); refine (szBs_any d _ l _ _ _ (Hr.out.at_ hb0w) (by omega) (by omega)).mono ?_; rw [H1.out]; rintro e1 w1 ⟨rfl, hb1⟩; obtain ⟨x0, x1, x2⟩ := HX.out.at_ hb1; have hb10 := below_aft hb00 hb1 hb00.size; have hb1w := below_aft hb0w hb1 hb0w.size) | (go_at_call 31; refine (toG_any _ _ _ _).mono ?_; have hq := hb50; rintro e6 w6 ⟨rfl, hb6⟩; have R6 := Lib.hid (R5.out.at_ hb6); have hb60 := below_aft hb50 hb6 hb50.size; have hb6w := below_aft hb5w hb6 hb5w.size) | (go_at_call 31; refine (toG_any _ _ _ _).mono ?_; rintro e2 w2 ⟨rfl, hb2⟩; clear x0 x1 x2; have hb20 := below_aft hb10 hb2 hb10.size; have hb2w := below_aft hb1w hb2 hb1w.size) | (go_at_call 32; refine (toBs_any d _ l _ _ (Hr.out.at_ hb7w) hnl).mono ?_; rintro e8 w8 ⟨A8, rfl, hr8, hb8⟩; have R8 := Lib.hid hr8; have Q8 := Lib.hid (R7.out.at_ hb8); clear hr8; have hb80 := below_aft hb70 hb8 hb70.size; have hb8w := below_aft hb7w hb8 hb7w.size) | (go_at_call 32; refine (toBs_any d _ l _ _ (Hr.out.at_ hb4w) hnl).mono ?_; rintro e5 w5 ⟨A5, rfl, hr5, hb5⟩; have R5 := Lib.hid hr5; clear hr5; have hb50 := below_aft hb40 hb5 hb40.size; have hb5w := below_aft hb4w hb5 hb4w.size; obtain ⟨x0, x1, x2⟩ := HX.out.at_ hb50) | (go_at_call 32; refine (toBs_any d _ l _ _ (Hr.out.at_ hb2w) hnl).mono ?_; rintro e3 w3 ⟨A3, rfl, hr3, hb3⟩; have R3 := Lib.hid hr3; clear hr3; have hb30 := below_aft hb20 hb3 hb20.size; have hb3w := below_aft hb2w hb3 hb2w.size) | (go_at_call 30; refine (gh_spec d _ l _ g0 g1 g2 _ R3.out).mono ?_; rintro e4 w4 ⟨rfl, hb4⟩; have hb40 := below_aft hb30 hb4 hb30.size; have hb4w := below_aft hb3w hb4 hb3w.size) | (go_at_call 33; refine (gh_impl d _ l _ g0 g1 g2 _ R6.out).mono ?_; rintro e7 w7 ⟨rfl, hb7⟩; have R7 := Lib.hid (R6.out.at_ hb7); have hb70 := below_aft hb60 hb7 hb60.size; have hb7w := below_aft hb6w hb7 hb6w.size) | (go_at_call 34; refine (eqBs_same d _ _ l _ _ _ Q8.out R8.out).mono ?_; rintro e9 w9 ⟨rfl, hb9⟩; have hb90 := below_aft hb80 hb9 hb80.size; have hb9w := below_aft hb8w hb9 hb8w.size))
    go_ret
    exact ⟨rfl, hb9w⟩
  · have H1 := Lib.hid (left_no h1)
    go_enter Try.func6, Try.ntmps6
    go_wp2_with (go_at_call 29; (try rw [HW.out]); refine (szBs_any d _ l _ _ _ (Hr.out.at_ hb0w) (by omega) (by omega)).mono ?_; rw [H1.out]; rintro e1 w1 ⟨rfl, hb1⟩; obtain ⟨x0, x1, x2⟩ := HX.out.at_ hb1; have hb10 := below_aft hb00 hb1 hb00.size; have hb1w := below_aft hb0w hb1 hb0w.size)
    go_ret
    exact ⟨rfl, hb1w⟩
end Go.Proofs.Ytphmhlekfmkdkaa
/-
  An argument that is a list of binds, and one that is a guard. No statement is proved here.
-/
namespace Go.Proofs.Ytphmhlekfmkdkaa
open Go.RowKit Go.Deep
open Go.ChangeShapes Go.WideShapes
set_option maxRecDepth 100000
set_option linter.unusedVariables false

section
variable {H : Type} {enc : TypeId × Value → H} {w : World} {spare : Nat → Bool} {held : Bool}


theorem RVs.more2 {d d' B : Nat} {A : Option Addr} {l : List Vl} (h : RVs d w B A l) (hd : d ≤ d') : RVs d' w B A l := h.more hd
theorem open_bns {v : Value} {d : DataW H} {ps : List MemPlace} {b0 : Nat} {r : Reach} (hv : Value.okWide Try.prog w r b0 60 v) (h : DataW.Trod enc Try.prog w 0 spare held 60 v d ps) : ∃ A l cap, v = .slice A (List.length l) cap ∧ ∃ d, RBs d w w.heap.size A l := by
  obtain ⟨a0, ln0, cap0, rfl⟩ := okWide_slice Try.underlying60 hv
  clear hv
  obtain ⟨fuel, h⟩ := h
  replace h : DataW.trod enc Try.prog w 0 spare held fuel 60 [.slice a0 ln0 cap0] = some (d, ps) := h
  generalize Value.slice a0 ln0 cap0 = v at h ⊢
  rcases DataW.trod_slice Try.underlying60 h with ⟨hcs, _⟩ | ⟨a, len, cap, elems, rest, n, hfu, hcs, hx, hb, hl, hm, hlen, hel, _, _⟩
  · obtain rfl : v = .slice none 0 0 := by simpa using hcs
    exact ⟨none, [], 0, rfl, 0, RBs.nil⟩
  · obtain rfl : v = .slice (some a) len cap := by simpa using hcs
    have h4 : Try.prog.cellsOf 103 = 4 := by kernel_rfl
    have h3 : Try.prog.cellsOf 101 = 3 := by kernel_rfl
    have h1c : Try.prog.cellsOf 3 = 1 := by kernel_rfl
    have hone : ∀ i, i < len → ∃ (t : Bn), ∃ A c d, w.cell? ((a.add (i * 4)).add 0) = some (.int .i64 t.var) ∧ w.cell? ((a.add (i * 4)).add 1) = some (.int .i64 t.val.ctor) ∧ w.cell? ((a.add (i * 4)).add 2) = some (.int .i64 t.val.n) ∧ w.cell? ((a.add (i * 4)).add 3) = some (.slice A t.val.kids.length c) ∧ RVs d w w.heap.size A t.val.kids := by
      intro i hi
      have h1 := hel i hi
      rw [List.getElem?_eq_getElem (by omega)] at h1
      obtain ⟨cs', q1, q2⟩ := Option.bind_eq_some_iff.1 h1
      obtain ⟨_, hl4, hat⟩ := World.cells?_some q1
      rw [h4] at hl4 hat
      obtain ⟨v0, v1, v2, v3, rfl⟩ : ∃ v0 v1 v2 v3, cs' = [v0, v1, v2, v3] := by
        match cs', hl4 with
        | [v0, v1, v2, v3], _ => exact ⟨v0, v1, v2, v3, rfl⟩
      obtain ⟨ya, yb, m, _, _, ha, hb'⟩ := trod_struct2 Try.underlying103 q2
      replace ha : DataW.trod enc Try.prog w 0 spare held m 3 ((([v0, v1, v2, v3] : List Value).drop 0).take (Try.prog.cellsOf 3)) = some ya := ha
      replace hb' : DataW.trod enc Try.prog w 0 spare held m 101 ((([v0, v1, v2, v3] : List Value).drop 1).take (Try.prog.cellsOf 101)) = some yb := hb'
      rw [h1c] at ha
      rw [h3] at hb'
      replace ha : DataW.trod enc Try.prog w 0 spare held m 3 [v0] = some ya := ha
      replace hb' : DataW.trod enc Try.prog w 0 spare held m 101 [v1, v2, v3] = some yb := hb'
      obtain ⟨m', hfm, hf⟩ := field_atn Try.underlying101 (by kernel_rfl) rfl hb'
      obtain ⟨_, y1, e1, t1⟩ := hf 0 _ rfl
      obtain ⟨_, y2, e2, t2⟩ := hf 1 _ rfl
      obtain ⟨_, y3, e3, t3⟩ := hf 2 _ rfl
      obtain rfl := Option.some.inj e1
      obtain rfl := Option.some.inj e2
      obtain rfl := Option.some.inj e3
      obtain ⟨z0, p0, _, _⟩ := DataW.trod_int Try.underlying3 ha
      obtain ⟨z1, p1, _, _⟩ := DataW.trod_int Try.underlying3 t1
      obtain ⟨z2, p2, _, _⟩ := DataW.trod_int Try.underlying3 t2
      obtain ⟨A, l, cp, p3, d, hr⟩ := vls_of m' t3
      simp only [List.cons.injEq, and_true] at p0 p1 p2
      subst p0 p1 p2 p3
      exact ⟨⟨z0, .mk z1 z2 l⟩, A, cp, d, hat 0 (by omega), hat 1 (by omega), hat 2 (by omega), hat 3 (by omega), hr⟩
    obtain ⟨f, hf⟩ := choose_lt (α := Bn) (n := len) (p := fun i t => ∃ A c d, w.cell? ((a.add (i * 4)).add 0) = some (.int .i64 t.var) ∧ w.cell? ((a.add (i * 4)).add 1) = some (.int .i64 t.val.ctor) ∧ w.cell? ((a.add (i * 4)).add 2) = some (.int .i64 t.val.n) ∧ w.cell? ((a.add (i * 4)).add 3) = some (.slice A t.val.kids.length c) ∧ RVs d w w.heap.size A t.val.kids) hone
    by_cases hz : len = 0
    · subst hz
      exact ⟨some a, [], cap, rfl, 0, RBs.nil⟩
    · have hsp : a.spot = none := by
        obtain ⟨A, c, d, c0, _⟩ := hf 0 (by omega)
        exact spot_of (w := w) (a := a) (by simpa [Addr.add] using c0)
      obtain ⟨b, off, sp⟩ := a
      simp only at hsp
      subst hsp
      obtain ⟨D, hD⟩ := deep_all (P := fun i d => RBn d w w.heap.size b (off + i * 4) (f i)) (fun i d d' hd h => by
        obtain ⟨A', c', q0, q1, q2, q3, q4⟩ := h
        exact ⟨A', c', q0, q1, q2, q3, q4.more hd⟩) len (fun i hi => by
        obtain ⟨A, c, d, c0, c1, c2, c3, h5⟩ := hf i hi
        simp only [Addr.add_lit, Nat.add_zero] at c0 c1 c2 c3
        exact ⟨d, A, c, by simpa using c0, by simpa using c1, by simpa using c2, by simpa using c3, h5⟩)
      refine ⟨some ⟨b, off, none⟩, (List.range len).map f, cap, by simp, D, by simp; omega, fun k hk => ?_⟩
      have hk' : k < len := by simpa using hk
      have hbl : b < w.heap.size := by
        obtain ⟨A, c, d, c0, _⟩ := hf k hk'
        simp only [Addr.add_lit, Nat.add_zero] at c0
        exact block_lt_of_cell c0
      exact ⟨b, off, rfl, hbl, by simpa using hD k hk'⟩
theorem open_guard {v : Value} {d : DataW H} {ps : List MemPlace} {b0 : Nat} {r : Reach} (hv : Value.okWide Try.prog w r b0 49 v) (h : DataW.Trod enc Try.prog w 0 spare held 49 v d ps) :
    ∃ (g0 g1 g2 : Int), v = .agg #[.int .i64 g0, .int .i64 g1, .int .i64 g2] := by
  obtain ⟨c0, c1, c2, y0, y1, y2, m, rfl, rfl, rfl, hy0, hy1, hy2⟩ := Go.Joins.open_agg3 Try.underlying49 (by kernel_rfl) (by kernel_rfl) hv h
  obtain ⟨a, e0, _, _⟩ := DataW.trod_int Try.underlying3 hy0
  obtain ⟨b, e1, _, _⟩ := DataW.trod_int Try.underlying3 hy1
  obtain ⟨c, e2, _, _⟩ := DataW.trod_int Try.underlying3 hy2
  simp only [List.cons.injEq, and_true] at e0 e1 e2
  subst e0 e1 e2
  exact ⟨a, b, c, rfl⟩
end
end Go.Proofs.Ytphmhlekfmkdkaa
