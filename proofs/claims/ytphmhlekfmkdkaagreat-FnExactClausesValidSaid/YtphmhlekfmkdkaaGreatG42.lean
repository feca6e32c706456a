/-
  Copies of lists of clauses. No statement is proved here.
-/
import Derived.Test.YtphmhlekfmkdkaaGreatG07
namespace Go.Proofs.YtphmhlekfmkdkaaGreat
open Go.RowKit Go.Sort
set_option maxRecDepth 100000
set_option linter.unusedVariables false


theorem infoCn : (Tryz.prog.info? 87).map (fun i => (i.zero, i.size, i.bytes)) = some (some (.agg #[.int .i64 0, .int .i64 0, .int .i64 0, .int .i64 0, .int .i64 0, .slice none 0 0, .int .i64 0, .int .i64 0, .int .i64 0]), 9, 88) := by kernel_rfl
/-- The row of a list of clauses while it is made. -/
def RowCn (d : Nat) (w : World) (g : Nat) (l : List Cn) (xs : List Value) (k : Nat) : Prop := ∀ j (h : j < l.length), j < k → ∃ A' cap, xs[j * 9]? = some (.int .i64 l[j].pat.op) ∧ xs[j * 9 + 1]? = some (.int .i64 l[j].pat.ctor) ∧ xs[j * 9 + 2]? = some (.int .i64 l[j].pat.n) ∧ xs[j * 9 + 3]? = some (.int .i64 l[j].pat.m) ∧ xs[j * 9 + 4]? = some (.int .i64 l[j].pat.var) ∧ xs[j * 9 + 5]? = some (.slice A' l[j].pat.kids.length cap) ∧ xs[j * 9 + 6]? = some (.int .i64 l[j].g0) ∧ xs[j * 9 + 7]? = some (.int .i64 l[j].g1) ∧ xs[j * 9 + 8]? = some (.int .i64 l[j].g2) ∧ OPs (d + 1) w (fun b => b ≠ g ∧ b < w.heap.size) A' l[j].pat.kids
theorem RowCn.zero (d : Nat) (w : World) (g : Nat) (l : List Cn) (xs : List Value) : RowCn d w g l xs 0 := fun j _ h => absurd h (by omega)
theorem RowCn.fr {d : Nat} {w w' : World} {g : Nat} {l : List Cn} {xs : List Value} {k : Nat} {P' : Nat → Prop} (h : RowCn d w g l xs k) (hf : Fr P' w w') (hp : ∀ b, b ≠ g → b < w.heap.size → ¬ P' b) : RowCn d w' g l xs k := fun j hj hjk => by
  obtain ⟨A', cap, e0, e1, e2, e3, e4, e5, e6, e7, e8, e9⟩ := h j hj hjk
  exact ⟨A', cap, e0, e1, e2, e3, e4, e5, e6, e7, e8, (e9.fr _ hf (fun b hb => hp b hb.1 hb.2)).wide _ (fun b hb => ⟨hb.1, Nat.lt_of_lt_of_le hb.2 hf.size⟩)⟩
theorem RowCn.more {d : Nat} {w w' : World} {g : Nat} {l : List Cn} {xs xs' : List Value} {k cap : Nat} {A' : Option Addr} (h : RowCn d w g l xs k) (hb : Below w.heap.size w w') (hg : g < w.heap.size) (hk : k < l.length)
    (ho : OPs (d + 1) w' (Nw w w') A' l[k].pat.kids) (hx : ∀ j c, j < k → c < 9 → xs'[j * 9 + c]? = xs[j * 9 + c]?) (e0 : xs'[k * 9]? = some (.int .i64 l[k].pat.op)) (e1 : xs'[k * 9 + 1]? = some (.int .i64 l[k].pat.ctor)) (e2 : xs'[k * 9 + 2]? = some (.int .i64 l[k].pat.n)) (e3 : xs'[k * 9 + 3]? = some (.int .i64 l[k].pat.m)) (e4 : xs'[k * 9 + 4]? = some (.int .i64 l[k].pat.var)) (e5 : xs'[k * 9 + 5]? = some (.slice A' l[k].pat.kids.length cap)) (e6 : xs'[k * 9 + 6]? = some (.int .i64 l[k].g0)) (e7 : xs'[k * 9 + 7]? = some (.int .i64 l[k].g1)) (e8 : xs'[k * 9 + 8]? = some (.int .i64 l[k].g2)) :
    RowCn d w' g l xs' (k + 1) := by
  have h' := h.fr (P' := fun _ => False) (Fr.below hb) (fun _ _ _ h => h)
  intro j hj hjk
  by_cases e : j = k
  · subst e
    exact ⟨A', cap, e0, e1, e2, e3, e4, e5, e6, e7, e8, ho.wide _ (fun b hq => ⟨by have := hq.1; omega, hq.2⟩)⟩
  · obtain ⟨A2, c2, f0, f1, f2, f3, f4, f5, f6, f7, f8, f9⟩ := h' j hj (by omega)
    exact ⟨A2, c2, (hx j 0 (by omega) (by omega)).trans f0, (hx j 1 (by omega) (by omega)).trans f1, (hx j 2 (by omega) (by omega)).trans f2, (hx j 3 (by omega) (by omega)).trans f3, (hx j 4 (by omega) (by omega)).trans f4, (hx j 5 (by omega) (by omega)).trans f5, (hx j 6 (by omega) (by omega)).trans f6, (hx j 7 (by omega) (by omega)).trans f7, (hx j 8 (by omega) (by omega)).trans f8, f9⟩
theorem RCs.of_row {d : Nat} {w : World} {lo g0 : Nat} {v : Value} {l : List Cn} {xs : List Value} (h : w.ownsRow lo 87 9 v l.length xs) (hx : RowCn d w g0 l xs l.length) (hn : l.length ≤ 1048576) : ∃ A cap, v = .slice A l.length cap ∧ RCs d w w.heap.size A l := by
  rcases h.2 with ⟨h', h0⟩ | ⟨g, cap, cur, h', hb, hg, hnc, hcm, hcs, htake⟩
  · refine ⟨none, 0, by rw [h0]; exact h', by unfold maxLen; omega, fun k hl => absurd hl (by omega)⟩
  · subst h'
    refine ⟨_, cap, rfl, by unfold maxLen; omega, fun k hk => ?_⟩
    obtain ⟨A', c', e0, e1, e2, e3, e4, e5, e6, e7, e8, e9⟩ := hx k hk hk
    have hat : ∀ i, i < l.length * 9 → cur[i]? = xs[i]? := fun i hi => by
      rw [← htake, List.getElem?_take_of_lt hi, Array.getElem?_toList]
    have hc : ∀ i v, i < l.length * 9 → xs[i]? = some v → w.cell? ⟨g, 0 + i, none⟩ = some v := fun i v hi hv => by rw [cell_of_blk hg, Nat.zero_add]; exact (hat i hi).trans hv
    refine ⟨g, 0, rfl, heap_lt hg, A', c', ?_, ?_, ?_, ?_, ?_, ?_, ?_, ?_, ?_, OPs.reads d e9⟩
    · simpa using hc _ _ (by omega) e0
    · simpa using hc _ _ (by omega) e1
    · simpa using hc _ _ (by omega) e2
    · simpa using hc _ _ (by omega) e3
    · simpa using hc _ _ (by omega) e4
    · simpa using hc _ _ (by omega) e5
    · simpa using hc _ _ (by omega) e6
    · simpa using hc _ _ (by omega) e7
    · simpa using hc _ _ (by omega) e8

set_option maxHeartbeats 3200000 in
theorem toCs_any (d : Nat) (A : Option Addr) (l : List Cn) (cap : Nat) (w : World) (hr : RCs d w w.heap.size A l) (hn : wCs l ≤ 1048576) :
    Calls Tryz.prog 12 #[.slice A l.length cap] w fun e w' => ∃ A2, e = .returned (.slice A2 l.length l.length) ∧ RCs d w' w'.heap.size A2 l ∧ Below w.heap.size w w' := by
  obtain ⟨i0, hi, hz0, hz1, hz2⟩ := info_parts infoCn
  have Hr := Lib.hid hr
  have HSum : Hid (wCs l = l.length + (l.map wC).sum) := rfl
  have hl : l.length ≤ 1048576 := by have := HSum.out; omega
  clear hr
  go_enter Tryz.func12, Tryz.ntmps12
  go_wp2_with (at_make; refine wpList_make_full _ rfl _ _ 33 rfl w.heap.size 87 i0 _ 9 Tryz.underlying33 hi hz0 hz1 _ _ _ _ l.length rfl rfl rfl rfl (by rw [hz2]; omega) (by unfold maxLen; omega) (Nat.le_refl _) ?_; intro w1 hown hgr)
  go_loopw [4] (fun i wr => ∃ k : Nat, k ≤ l.length ∧ i = .int .i64 k ∧ ∃ xs, wr.ownsRow w.heap.size 87 9 (.slice (some ⟨w.heap.size, 0, none⟩) l.length l.length) l.length xs ∧ RowCn d wr w.heap.size l xs k ∧ Below w.heap.size w wr) (fun i _ => l.length - (intOf i).toNat)
  case atStart => exact ⟨0, by omega, rfl, _, hown, RowCn.zero _ _ _ _ _, below_of_grown hgr (Nat.le_refl _)⟩
  case round =>
    obtain ⟨k, hk, rfl, xs, hown, hrow, hb⟩ := hrel
    clear hgr hi hz0 hz1 hz2
    by_cases hlt : k < l.length
    · obtain ⟨b, off, rfl, hbB, A', cp, c0, c1, c2, c3, c4, c5, c6, c7, c8, hm⟩ := (Hr.out.below hb (Nat.le_refl _)).2 k hlt
      have ha : wPs l[k].pat.kids ≤ 1048576 := by
        have h1 := sum_take_succ wC l k hlt
        have h2 := sum_take_le wC l (k + 1)
        have h3 : wC l[k] = wPs l[k].pat.kids := rfl
        have h4 := HSum.out
        omega
      have Hm := Lib.hid (hm.keep (fun _ _ => rfl) hb.size)
      have hwl : w.heap.size < wr.heap.size := own_lt hown
      have HROW := Lib.hid hrow
      clear hm hrow
      go_wp2_with (go_at_call 43; refine (toC_any d _ _ _ _ _ _ _ _ _ _ _ _ Hm.out ha).mono ?_; rintro e w2 ⟨A2, rfl, hf, hb2⟩; have hown2 := own_below hown hb2; obtain ⟨v0, f0⟩ := own_cell hown2 (k * 9) (by omega); have g0 := hown2.frozenAt (k * 9); obtain ⟨v1, f1⟩ := own_cell hown2 (k * 9 + 1) (by omega); have g1 := hown2.frozenAt (k * 9 + 1); obtain ⟨v2, f2⟩ := own_cell hown2 (k * 9 + 2) (by omega); have g2 := hown2.frozenAt (k * 9 + 2); obtain ⟨v3, f3⟩ := own_cell hown2 (k * 9 + 3) (by omega); have g3 := hown2.frozenAt (k * 9 + 3); obtain ⟨v4, f4⟩ := own_cell hown2 (k * 9 + 4) (by omega); have g4 := hown2.frozenAt (k * 9 + 4); obtain ⟨v5, f5⟩ := own_cell hown2 (k * 9 + 5) (by omega); have g5 := hown2.frozenAt (k * 9 + 5); obtain ⟨v6, f6⟩ := own_cell hown2 (k * 9 + 6) (by omega); have g6 := hown2.frozenAt (k * 9 + 6); obtain ⟨v7, f7⟩ := own_cell hown2 (k * 9 + 7) (by omega); have g7 := hown2.frozenAt (k * 9 + 7); obtain ⟨v8, f8⟩ := own_cell hown2 (k * 9 + 8) (by omega); have g8 := hown2.frozenAt (k * 9 + 8); skip)
      have hx := hown2.1
      have s1 := (hown2.stored (k * 9) (.int .i64 l[k].pat.op)).1
      have s2 := (s1.stored (k * 9 + 1) (.int .i64 l[k].pat.ctor)).1
      have s3 := (s2.stored (k * 9 + 2) (.int .i64 l[k].pat.n)).1
      have s4 := (s3.stored (k * 9 + 3) (.int .i64 l[k].pat.m)).1
      have s5 := (s4.stored (k * 9 + 4) (.int .i64 l[k].pat.var)).1
      have s6 := (s5.stored (k * 9 + 5) (.slice A2 l[k].pat.kids.length l[k].pat.kids.length)).1
      have s7 := (s6.stored (k * 9 + 6) (.int .i64 l[k].g0)).1
      have s8 := (s7.stored (k * 9 + 7) (.int .i64 l[k].g1)).1
      have s9 := (s8.stored (k * 9 + 8) (.int .i64 l[k].g2)).1
      have hrow2 := HROW.out.more (xs' := (((((((((xs.set (k * 9) (.int .i64 l[k].pat.op)).set (k * 9 + 1) (.int .i64 l[k].pat.ctor)).set (k * 9 + 2) (.int .i64 l[k].pat.n)).set (k * 9 + 3) (.int .i64 l[k].pat.m)).set (k * 9 + 4) (.int .i64 l[k].pat.var)).set (k * 9 + 5) (.slice A2 l[k].pat.kids.length l[k].pat.kids.length)).set (k * 9 + 6) (.int .i64 l[k].g0)).set (k * 9 + 7) (.int .i64 l[k].g1)).set (k * 9 + 8) (.int .i64 l[k].g2))) hb2 hwl hlt hf (fun j c hj hc => by rw [List.getElem?_set_ne (by omega), List.getElem?_set_ne (by omega), List.getElem?_set_ne (by omega), List.getElem?_set_ne (by omega), List.getElem?_set_ne (by omega), List.getElem?_set_ne (by omega), List.getElem?_set_ne (by omega), List.getElem?_set_ne (by omega), List.getElem?_set_ne (by omega)]) (by rw [List.getElem?_set_ne (by omega), List.getElem?_set_ne (by omega), List.getElem?_set_ne (by omega), List.getElem?_set_ne (by omega), List.getElem?_set_ne (by omega), List.getElem?_set_ne (by omega), List.getElem?_set_ne (by omega), List.getElem?_set_ne (by omega), List.getElem?_set_self (by first | omega | (simp <;> omega))]) (by rw [List.getElem?_set_ne (by omega), List.getElem?_set_ne (by omega), List.getElem?_set_ne (by omega), List.getElem?_set_ne (by omega), List.getElem?_set_ne (by omega), List.getElem?_set_ne (by omega), List.getElem?_set_ne (by omega), List.getElem?_set_self (by first | omega | (simp <;> omega))]) (by rw [List.getElem?_set_ne (by omega), List.getElem?_set_ne (by omega), List.getElem?_set_ne (by omega), List.getElem?_set_ne (by omega), List.getElem?_set_ne (by omega), List.getElem?_set_ne (by omega), List.getElem?_set_self (by first | omega | (simp <;> omega))]) (by rw [List.getElem?_set_ne (by omega), List.getElem?_set_ne (by omega), List.getElem?_set_ne (by omega), List.getElem?_set_ne (by omega), List.getElem?_set_ne (by omega), List.getElem?_set_self (by first | omega | (simp <;> omega))]) (by rw [List.getElem?_set_ne (by omega), List.getElem?_set_ne (by omega), List.getElem?_set_ne (by omega), List.getElem?_set_ne (by omega), List.getElem?_set_self (by first | omega | (simp <;> omega))]) (by rw [List.getElem?_set_ne (by omega), List.getElem?_set_ne (by omega), List.getElem?_set_ne (by omega), List.getElem?_set_self (by first | omega | (simp <;> omega))]) (by rw [List.getElem?_set_ne (by omega), List.getElem?_set_ne (by omega), List.getElem?_set_self (by first | omega | (simp <;> omega))]) (by rw [List.getElem?_set_ne (by omega), List.getElem?_set_self (by first | omega | (simp <;> omega))]) (by rw [List.getElem?_set_self (by first | omega | (simp <;> omega))])
      have hrow3 := hrow2.fr (w' := (((((((((w2.setCell ⟨w.heap.size, k * 9, none⟩ (.int .i64 l[k].pat.op)).setCell ⟨w.heap.size, k * 9 + 1, none⟩ (.int .i64 l[k].pat.ctor)).setCell ⟨w.heap.size, k * 9 + 2, none⟩ (.int .i64 l[k].pat.n)).setCell ⟨w.heap.size, k * 9 + 3, none⟩ (.int .i64 l[k].pat.m)).setCell ⟨w.heap.size, k * 9 + 4, none⟩ (.int .i64 l[k].pat.var)).setCell ⟨w.heap.size, k * 9 + 5, none⟩ (.slice A2 l[k].pat.kids.length l[k].pat.kids.length)).setCell ⟨w.heap.size, k * 9 + 6, none⟩ (.int .i64 l[k].g0)).setCell ⟨w.heap.size, k * 9 + 7, none⟩ (.int .i64 l[k].g1)).setCell ⟨w.heap.size, k * 9 + 8, none⟩ (.int .i64 l[k].g2))) (P' := fun b => b = w.heap.size) (((((((((Fr.set (P := fun b => b = w.heap.size) _ _ _ _ rfl).trans (Fr.set (P := fun b => b = w.heap.size) _ _ _ _ rfl)).trans (Fr.set (P := fun b => b = w.heap.size) _ _ _ _ rfl)).trans (Fr.set (P := fun b => b = w.heap.size) _ _ _ _ rfl)).trans (Fr.set (P := fun b => b = w.heap.size) _ _ _ _ rfl)).trans (Fr.set (P := fun b => b = w.heap.size) _ _ _ _ rfl)).trans (Fr.set (P := fun b => b = w.heap.size) _ _ _ _ rfl)).trans (Fr.set (P := fun b => b = w.heap.size) _ _ _ _ rfl)).trans (Fr.set (P := fun b => b = w.heap.size) _ _ _ _ rfl)) (fun b hb' _ e => hb' e)
      go_roundw
      case rel => exact ⟨k + 1, by omega, by go_num, _, s9, hrow3, ((((((((((hb.trans (hb2.mono hb.size)).setCell (Nat.le_refl _) _).setCell (Nat.le_refl _) _).setCell (Nat.le_refl _) _).setCell (Nat.le_refl _) _).setCell (Nat.le_refl _) _).setCell (Nat.le_refl _) _).setCell (Nat.le_refl _) _).setCell (Nat.le_refl _) _).setCell (Nat.le_refl _) _)⟩
      case measure => simp [intOf]; omega
    · go_wp2_with fail
      go_ret
      have he : k = l.length := by omega
      obtain ⟨A2, c2, e2, ho⟩ := RCs.of_row hown (he ▸ hrow) hl
      injection e2 with e3 e4 e5
      subst e3
      exact ⟨_, rfl, ho, hb⟩
end Go.Proofs.YtphmhlekfmkdkaaGreat
/-
  Comparison of lists of clauses, where both sides read as the same. No statement is proved here.
-/
namespace Go.Proofs.YtphmhlekfmkdkaaGreat
open Go.RowKit Go.Sort
set_option maxRecDepth 100000
set_option linter.unusedVariables false


set_option maxHeartbeats 1600000 in
theorem eqCs_same (d : Nat) (A A' : Option Addr) (l : List Cn) (cap cap' : Nat) (w : World) (hr : RCs d w w.heap.size A l) (hr' : RCs d w w.heap.size A' l) :
    Calls Tryz.prog 15 #[.slice A l.length cap, .slice A' l.length cap'] w fun e w' => e = .returned (.bool true) ∧ Below w.heap.size w w' := by
  have hn := hr.1
  unfold maxLen at hn
  have Hr := Lib.hid hr
  have Hr' := Lib.hid hr'
  clear hr hr'
  go_enter Tryz.func15, Tryz.ntmps15
  go_wp2_with fail
  go_loopw [5] (fun i wr => ∃ k : Nat, k ≤ l.length ∧ i = .int .i64 k ∧ Below w.heap.size w wr) (fun i _ => l.length - (intOf i).toNat)
  case atStart => exact ⟨0, by omega, rfl, Below.refl _ _⟩
  case round =>
    obtain ⟨k, hk, rfl, hb⟩ := hrel
    by_cases hlt : k < l.length
    · obtain ⟨b, off, rfl, hbB, B1, cp, c0, c1, c2, c3, c4, c5, c6, c7, c8, hm⟩ := (Hr.out.below hb (Nat.le_refl _)).2 k hlt
      obtain ⟨b', off', rfl, hbB', B2, cp', c0q, c1q, c2q, c3q, c4q, c5q, c6q, c7q, c8q, hm'⟩ := (Hr'.out.below hb (Nat.le_refl _)).2 k hlt
      have d0 := cell_regrown c0
      have d0q := cell_regrown c0q
      have d1 := cell_regrown c1
      have d1q := cell_regrown c1q
      have d2 := cell_regrown c2
      have d2q := cell_regrown c2q
      have d3 := cell_regrown c3
      have d3q := cell_regrown c3q
      have d4 := cell_regrown c4
      have d4q := cell_regrown c4q
      have d5 := cell_regrown c5
      have d5q := cell_regrown c5q
      have d6 := cell_regrown c6
      have d6q := cell_regrown c6q
      have d7 := cell_regrown c7
      have d7q := cell_regrown c7q
      have d8 := cell_regrown c8
      have d8q := cell_regrown c8q
      have Hm := Lib.hid hm
      have Hm' := Lib.hid hm'
      clear c0 c0q c1 c1q c2 c2q c3 c3q c4 c4q c5 c5q c6 c6q c7 c7q c8 c8q hm hm'
      have hi : (k : Int) < (l.length : Int) := by omega
      go_wp2_with fail
      refine wp_region_quiet_below (by kernel_rfl) (by kernel_rfl) ?_
      repeat (quiet_step (exact Calls.regrown_of (eqC_same d _ _ _ _ _ _ _ _ _ _ _ _ _ _ (Hm.out.keep (fun p hp => (below_regrown wr _ _).cell (Nat.lt_of_lt_of_le hp hb.size)) (Nat.le_trans hb.size (below_regrown wr _ _).size)) (Hm'.out.keep (fun p hp => (below_regrown wr _ _).cell (Nat.lt_of_lt_of_le hp hb.size)) (Nat.le_trans hb.size (below_regrown wr _ _).size)))))
      refine wpQuiet_nil ?_
      intro _ hw'
      obtain ⟨⟨dq, osq⟩, hw''⟩ := hw'
      subst hw''
      have hb2 := hb.trans ((below_regrown wr dq osq).mono hb.size)
      clear d0 d0q d1 d1q d2 d2q d3 d3q d4 d4q d5 d5q d6 d6q d7 d7q d8 d8q
      go_wp2_with fail
      go_roundw
      case rel => exact ⟨k + 1, by omega, by go_num, hb2⟩
      case measure => simp [intOf]; omega
    · go_wp2_with fail
      go_ret
      exact ⟨rfl, hb⟩
end Go.Proofs.YtphmhlekfmkdkaaGreat
