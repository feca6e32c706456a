/-
  Copies of lists of clauses. No statement is proved here.
-/
import Derived.Test.YthecfkdilbfimaaGreatG04
import Derived.Test.YthecfkdilbfimaaGreatG26
import Derived.Test.YthecfkdilbfimaaGreatG11
import Derived.Deep.RegionHeld3
import Derived.Lib.SmallJoins
namespace Go.Proofs.YthecfkdilbfimaaGreat
open Go.RowKit Go.Sort
set_option maxRecDepth 100000
set_option linter.unusedVariables false


theorem infoCn : (Tryz.prog.info? 93).map (fun i => (i.zero, i.size, i.bytes)) = some (some (.agg #[.int .i64 0, .int .i64 0, .int .i64 0, .int .i64 0, .int .i64 0, .slice none 0 0, .int .i64 0, .int .i64 0, .int .i64 0]), 9, 88) := by kernel_rfl
/-- The row of a list of clauses while it is made. -/
def RowCn (d : Nat) (w : World) (g : Nat) (l : List Cn) (xs : List Value) (k : Nat) : Prop := ∀ j (h : j < l.length), j < k → ∃ A' cap, xs[j * 9]? = some (.int .i64 l[j].pat.op) ∧ xs[j * 9 + 1]? = some (.int .i64 l[j].pat.ctor) ∧ xs[j * 9 + 2]? = some (.int .i64 l[j].pat.n) ∧ xs[j * 9 + 3]? = some (.int .i64 l[j].pat.m) ∧ xs[j * 9 + 4]? = some (.int .i64 l[j].pat.var) ∧ xs[j * 9 + 5]? = some (.slice A' l[j].pat.kids.length cap) ∧ xs[j * 9 + 6]? = some (.int .i64 l[j].g0) ∧ xs[j * 9 + 7]? = some (.int .i64 l[j].g1) ∧ xs[j * 9 + 8]? = some (.int .i64 l[j].g2) ∧ OPs (d + 1) w (fun b => b ≠ g ∧ b < w.heap.size) A' l[j].pat.kids
theorem RowCn.zero (d : Nat) (w : World) (g : Nat) (l : List Cn) (xs : List Value) : RowCn d w g l xs 0 := fun j _ h => absurd h (by omega)
theorem RowCn.fr {d : Nat} {w w' : World} {g : Nat} {l : List Cn} {xs : List Value} {k : Nat} {P' : Nat → Prop} (h : RowCn d w g l xs k) (hf : Fr P' w w') (hp : ∀ b, b ≠ g → b < w.heap.size → ¬ P' b) : RowCn d w' g l xs k := fun j hj hjk => by
  obtain ⟨A', cap, e0, e1, e2, e3, e4, e5, e6, e7, e8, e9⟩ := h j hj hjk
  exact ⟨A', cap, e0, e1, e2, e3, e4, e5, e6, e7, e8, (e9.fr _ hf (fun b hb => hp b hb.1 hb.2)).wide _ (fun b hb => ⟨hb.1, Nat.lt_of_lt_of_le hb.2 hf.size⟩)⟩
theorem RowCn.more {d : Nat} {w w' : World} {g : Nat} {l : List Cn} {xs xs' : List Value} {k cap : Nat} {A' : Option Addr} (h : RowCn d w g l xs k) (hb : Below w.heap.size w w') (hg : g < w.heap.size) (hk : k < l.length)
    (ho : OPs (d + 1) w' (Nw w w') A' l[k].pat.kids) (hx : ∀ j c, j < k → c < 9 → xs'[j * 9 + c]? = xs[j * 9 + c]?) (e0 : xs'[k * 9]? = some (.int .i64 l[k].pat.op)) (e1 : xs'[k * 9 + 1]? = some (.int .i64 l[k].pat.ctor)) (e2 : xs'[k * 9 + 2]? = some (.int .i64 l[k].pat.n)) (e3 : xs'[k * 9 + 3]? = some (.int .i64 l[k].pat.m)) (e4 : xs'[k * 9 + 4]? = some (.int .i64 l[k].pat.var)) (e5 : xs'[k * 9 + 5]? = some (.slice A' l[k].pat.kids.length cap)) (e6 : xs'[k * 9 + 6]? = some (.int .i64 l[k].g0)) (e7 : xs'[k * 9 + 7]? = some (.int .i64 l[k].g1)) (e8 : xs'[k * 9 + 8]? = some (.int .i64 l[k].g2)) :
    RowCn d w' g l xs' (k + 1) := by
  have h' := h.fr (P' := fun _ => False) (Fr.below hb) (fun _ _ _ h => h)
  intro j hj hjk
  by_cases e : j = k
  · subst e
    exact ⟨A', cap, e0, e1, e2, e3, e4, e5, e6, e7, e8, ho.wide _ (fun b hq => ⟨by have := hq.1; omega, hq.2⟩)⟩
  · obtain ⟨A2, c2, f0, f1, f2, f3, f4, f5, f6, f7, f8, f9⟩ := h' j hj (by omega)
    exact ⟨A2, c2, (hx j 0 (by omega) (by omega)).trans f0, (hx j 1 (by omega) (by omega)).trans f1, (hx j 2 (by omega) (by omega)).trans f2, (hx j 3 (by omega) (by omega)).trans f3, (hx j 4 (by omega) (by omega)).trans f4, (hx j 5 (by omega) (by omega)).trans f5, (hx j 6 (by omega) (by omega)).trans f6, (hx j 7 (by omega) (by omega)).trans f7, (hx j 8 (by omega) (by omega)).trans f8, f9⟩
theorem RCs.of_row {d : Nat} {w : World} {lo g0 : Nat} {v : Value} {l : List Cn} {xs : List Value} (h : w.ownsRow lo 93 9 v l.length xs) (hx : RowCn d w g0 l xs l.length) (hn : l.length ≤ 1048576) : ∃ A cap, v = .slice A l.length cap ∧ RCs d w w.heap.size A l := by
  rcases h.2 with ⟨h', h0⟩ | ⟨g, cap, cur, h', hb, hg, hnc, hcm, hcs, htake⟩
  · refine ⟨none, 0, by rw [h0]; exact h', by unfold maxLen; omega, fun k hl => absurd hl (by omega)⟩
  · subst h'
    refine ⟨_, cap, rfl, by unfold maxLen; omega, fun k hk => ?_⟩
    obtain ⟨A', c', e0, e1, e2, e3, e4, e5, e6, e7, e8, e9⟩ := hx k hk hk
    have hat : ∀ i, i < l.length * 9 → cur[i]? = xs[i]? := fun i hi => by
      rw [← htake, List.getElem?_take_of_lt hi, Array.getElem?_toList]
    have hc : ∀ i v, i < l.length * 9 → xs[i]? = some v → w.cell? ⟨g, 0 + i, none⟩ = some v := fun i v hi hv => by rw [cell_of_blk hg, Nat.zero_add]; exact (hat i hi).trans hv
    refine ⟨g, 0, rfl, heap_lt hg, A', c', ?_, ?_, ?_, ?_, ?_, ?_, ?_, ?_, ?_, OPs.reads d e9⟩
    · simpa using hc _ _ (by omega) e0
    · simpa using hc _ _ (by omega) e1
    · simpa using hc _ _ (by omega) e2
    · simpa using hc _ _ (by omega) e3
    · simpa using hc _ _ (by omega) e4
    · simpa using hc _ _ (by omega) e5
    · simpa using hc _ _ (by omega) e6
    · simpa using hc _ _ (by omega) e7
    · simpa using hc _ _ (by omega) e8

set_option maxHeartbeats 3200000 in
theorem toCs_any (d : Nat) (A : Option Addr) (l : List Cn) (cap : Nat) (w : World) (hr : RCs d w w.heap.size A l) (hn : wCs l ≤ 1048576) :
    Calls Tryz.prog 16 #[.slice A l.length cap] w fun e w' => ∃ A2, e = .returned (.slice A2 l.length l.length) ∧ RCs d w' w'.heap.size A2 l ∧ Below w.heap.size w w' := by
  obtain ⟨i0, hi, hz0, hz1, hz2⟩ := info_parts infoCn
  have Hr := Lib.hid hr
  have HSum : Hid (wCs l = l.length + (l.map wC).sum) := rfl
  have hl : l.length ≤ 1048576 := by have := HSum.out; omega
  clear hr
  go_enter Tryz.func16, Tryz.ntmps16
  go_wp2_with (at_make; refine wpList_make_full _ rfl _ _ 33 rfl w.heap.size 93 i0 _ 9 Tryz.underlying33 hi hz0 hz1 _ _ _ _ l.length rfl rfl rfl rfl (by rw [hz2]; omega) (by unfold maxLen; omega) (Nat.le_refl _) ?_; intro w1 hown hgr)
  go_loopw [4] (fun i wr => ∃ k : Nat, k ≤ l.length ∧ i = .int .i64 k ∧ ∃ xs, wr.ownsRow w.heap.size 93 9 (.slice (some ⟨w.heap.size, 0, none⟩) l.length l.length) l.length xs ∧ RowCn d wr w.heap.size l xs k ∧ Below w.heap.size w wr) (fun i _ => l.length - (intOf i).toNat)
  case atStart => exact ⟨0, by omega, rfl, _, hown, RowCn.zero _ _ _ _ _, below_of_grown hgr (Nat.le_refl _)⟩
  case round =>
    obtain ⟨k, hk, rfl, xs, hown, hrow, hb⟩ := hrel
    clear hgr hi hz0 hz1 hz2
    by_cases hlt : k < l.length
    · obtain ⟨b, off, rfl, hbB, A', cp, c0, c1, c2, c3, c4, c5, c6, c7, c8, hm⟩ := (Hr.out.below hb (Nat.le_refl _)).2 k hlt
      have ha : wPs l[k].pat.kids ≤ 1048576 := by
        have h1 := sum_take_succ wC l k hlt
        have h2 := sum_take_le wC l (k + 1)
        have h3 : wC l[k] = wPs l[k].pat.kids := rfl
        have h4 := HSum.out
        omega
      have Hm := Lib.hid (hm.keep (fun _ _ => rfl) hb.size)
      have hwl : w.heap.size < wr.heap.size := own_lt hown
      have HROW := Lib.hid hrow
      clear hm hrow
      go_wp2_with (go_at_call 56; refine (toC_any d _ _ _ _ _ _ _ _ _ _ _ _ Hm.out ha).mono ?_; rintro e w2 ⟨A2, rfl, hf, hb2⟩; have hown2 := own_below hown hb2; obtain ⟨v0, f0⟩ := own_cell hown2 (k * 9) (by omega); have g0 := hown2.frozenAt (k * 9); obtain ⟨v1, f1⟩ := own_cell hown2 (k * 9 + 1) (by omega); have g1 := hown2.frozenAt (k * 9 + 1); obtain ⟨v2, f2⟩ := own_cell hown2 (k * 9 + 2) (by omega); have g2 := hown2.frozenAt (k * 9 + 2); obtain ⟨v3, f3⟩ := own_cell hown2 (k * 9 + 3) (by omega); have g3 := hown2.frozenAt (k * 9 + 3); obtain ⟨v4, f4⟩ := own_cell hown2 (k * 9 + 4) (by omega); have g4 := hown2.frozenAt (k * 9 + 4); obtain ⟨v5, f5⟩ := own_cell hown2 (k * 9 + 5) (by omega); have g5 := hown2.frozenAt (k * 9 + 5); obtain ⟨v6, f6⟩ := own_cell hown2 (k * 9 + 6) (by omega); have g6 := hown2.frozenAt (k * 9 + 6); obtain ⟨v7, f7⟩ := own_cell hown2 (k * 9 + 7) (by omega); have g7 := hown2.frozenAt (k * 9 + 7); obtain ⟨v8, f8⟩ := own_cell hown2 (k * 9 + 8) (by omega); have g8 := hown2.frozenAt (k * 9 + 8); skip)
      have hx := hown2.1
      have s1 := (hown2.stored (k * 9) (.int .i64 l[k].pat.op)).1
      have s2 := (s1.stored (k * 9 + 1) (.int .i64 l[k].pat.ctor)).1
      have s3 := (s2.stored (k * 9 + 2) (.int .i64 l[k].pat.n)).1
      have s4 := (s3.stored (k * 9 + 3) (.int .i64 l[k].pat.m)).1
      have s5 := (s4.stored (k * 9 + 4) (.int .i64 l[k].pat.var)).1
      have s6 := (s5.stored (k * 9 + 5) (.slice A2 l[k].pat.kids.length l[k].pat.kids.length)).1
      have s7 := (s6.stored (k * 9 + 6) (.int .i64 l[k].g0)).1
      have s8 := (s7.stored (k * 9 + 7) (.int .i64 l[k].g1)).1
      have s9 := (s8.stored (k * 9 + 8) (.int .i64 l[k].g2)).1
      have hrow2 := HROW.out.more (xs' := (((((((((xs.set (k * 9) (.int .i64 l[k].pat.op)).set (k * 9 + 1) (.int .i64 l[k].pat.ctor)).set (k * 9 + 2) (.int .i64 l[k].pat.n)).set (k * 9 + 3) (.int .i64 l[k].pat.m)).set (k * 9 + 4) (.int .i64 l[k].pat.var)).set (k * 9 + 5) (.slice A2 l[k].pat.kids.length l[k].pat.kids.length)).set (k * 9 + 6) (.int .i64 l[k].g0)).set (k * 9 + 7) (.int .i64 l[k].g1)).set (k * 9 + 8) (.int .i64 l[k].g2))) hb2 hwl hlt hf (fun j c hj hc => by rw [List.getElem?_set_ne (by omega), List.getElem?_set_ne (by omega), List.getElem?_set_ne (by omega), List.getElem?_set_ne (by omega), List.getElem?_set_ne (by omega), List.getElem?_set_ne (by omega), List.getElem?_set_ne (by omega), List.getElem?_set_ne (by omega), List.getElem?_set_ne (by omega)]) (by rw [List.getElem?_set_ne (by omega), List.getElem?_set_ne (by omega), List.getElem?_set_ne (by omega), List.getElem?_set_ne (by omega), List.getElem?_set_ne (by omega), List.getElem?_set_ne (by omega), List.getElem?_set_ne (by omega), List.getElem?_set_ne (by omega), List.getElem?_set_self (by first | omega | (simp <;> omega))]) (by rw [List.getElem?_set_ne (by omega), List.getElem?_set_ne (by omega), List.getElem?_set_ne (by omega), List.getElem?_set_ne (by omega), List.getElem?_set_ne (by omega), List.getElem?_set_ne (by omega), List.getElem?_set_ne (by omega), List.getElem?_set_self (by first | omega | (simp <;> omega))]) (by rw [List.getElem?_set_ne (by omega), List.getElem?_set_ne (by omega), List.getElem?_set_ne (by omega), List.getElem?_set_ne (by omega), List.getElem?_set_ne (by omega), List.getElem?_set_ne (by omega), List.getElem?_set_self (by first | omega | (simp <;> omega))]) (by rw [List.getElem?_set_ne (by omega), List.getElem?_set_ne (by omega), List.getElem?_set_ne (by omega), List.getElem?_set_ne (by omega), List.getElem?_set_ne (by omega), List.getElem?_set_self (by first | omega | (simp <;> omega))]) (by rw [List.getElem?_set_ne (by omega), List.getElem?_set_ne (by omega), List.getElem?_set_ne (by omega), List.getElem?_set_ne (by omega), List.getElem?_set_self (by first | omega | (simp <;> omega))]) (by rw [List.getElem?_set_ne (by omega), List.getElem?_set_ne (by omega), List.getElem?_set_ne (by omega), List.getElem?_set_self (by first | omega | (simp <;> omega))]) (by rw [List.getElem?_set_ne (by omega), List.getElem?_set_ne (by omega), List.getElem?_set_self (by first | omega | (simp <;> omega))]) (by rw [List.getElem?_set_ne (by omega), List.getElem?_set_self (by first | omega | (simp <;> omega))]) (by rw [List.getElem?_set_self (by first | omega | (simp <;> omega))])
      have hrow3 := hrow2.fr (w' := (((((((((w2.setCell ⟨w.heap.size, k * 9, none⟩ (.int .i64 l[k].pat.op)).setCell ⟨w.heap.size, k * 9 + 1, none⟩ (.int .i64 l[k].pat.ctor)).setCell ⟨w.heap.size, k * 9 + 2, none⟩ (.int .i64 l[k].pat.n)).setCell ⟨w.heap.size, k * 9 + 3, none⟩ (.int .i64 l[k].pat.m)).setCell ⟨w.heap.size, k * 9 + 4, none⟩ (.int .i64 l[k].pat.var)).setCell ⟨w.heap.size, k * 9 + 5, none⟩ (.slice A2 l[k].pat.kids.length l[k].pat.kids.length)).setCell ⟨w.heap.size, k * 9 + 6, none⟩ (.int .i64 l[k].g0)).setCell ⟨w.heap.size, k * 9 + 7, none⟩ (.int .i64 l[k].g1)).setCell ⟨w.heap.size, k * 9 + 8, none⟩ (.int .i64 l[k].g2))) (P' := fun b => b = w.heap.size) (((((((((Fr.set (P := fun b => b = w.heap.size) _ _ _ _ rfl).trans (Fr.set (P := fun b => b = w.heap.size) _ _ _ _ rfl)).trans (Fr.set (P := fun b => b = w.heap.size) _ _ _ _ rfl)).trans (Fr.set (P := fun b => b = w.heap.size) _ _ _ _ rfl)).trans (Fr.set (P := fun b => b = w.heap.size) _ _ _ _ rfl)).trans (Fr.set (P := fun b => b = w.heap.size) _ _ _ _ rfl)).trans (Fr.set (P := fun b => b = w.heap.size) _ _ _ _ rfl)).trans (Fr.set (P := fun b => b = w.heap.size) _ _ _ _ rfl)).trans (Fr.set (P := fun b => b = w.heap.size) _ _ _ _ rfl)) (fun b hb' _ e => hb' e)
      go_roundw
      case rel => exact ⟨k + 1, by omega, by go_num, _, s9, hrow3, ((((((((((hb.trans (hb2.mono hb.size)).setCell (Nat.le_refl _) _).setCell (Nat.le_refl _) _).setCell (Nat.le_refl _) _).setCell (Nat.le_refl _) _).setCell (Nat.le_refl _) _).setCell (Nat.le_refl _) _).setCell (Nat.le_refl _) _).setCell (Nat.le_refl _) _).setCell (Nat.le_refl _) _)⟩
      case measure => simp [intOf]; omega
    · go_wp2_with fail
      go_ret
      have he : k = l.length := by omega
      obtain ⟨A2, c2, e2, ho⟩ := RCs.of_row hown (he ▸ hrow) hl
      injection e2 with e3 e4 e5
      subst e3
      exact ⟨_, rfl, ho, hb⟩
end Go.Proofs.YthecfkdilbfimaaGreat
/-
  Comparison of lists of clauses, where both sides read as the same. No statement is proved here.
-/
namespace Go.Proofs.YthecfkdilbfimaaGreat
open Go.RowKit Go.Sort
set_option maxRecDepth 100000
set_option linter.unusedVariables false


set_option maxHeartbeats 1600000 in
theorem eqCs_same (d : Nat) (A A' : Option Addr) (l : List Cn) (cap cap' : Nat) (w : World) (hr : RCs d w w.heap.size A l) (hr' : RCs d w w.heap.size A' l) :
    Calls Tryz.prog 19 #[.slice A l.length cap, .slice A' l.length cap'] w fun e w' => e = .returned (.bool true) ∧ Below w.heap.size w w' := by
  have hn := hr.1
  unfold maxLen at hn
  have Hr := Lib.hid hr
  have Hr' := Lib.hid hr'
  clear hr hr'
  go_enter Tryz.func19, Tryz.ntmps19
  go_wp2_with fail
  go_loopw [5] (fun i wr => ∃ k : Nat, k ≤ l.length ∧ i = .int .i64 k ∧ Below w.heap.size w wr) (fun i _ => l.length - (intOf i).toNat)
  case atStart => exact ⟨0, by omega, rfl, Below.refl _ _⟩
  case round =>
    obtain ⟨k, hk, rfl, hb⟩ := hrel
    by_cases hlt : k < l.length
    · obtain ⟨b, off, rfl, hbB, B1, cp, c0, c1, c2, c3, c4, c5, c6, c7, c8, hm⟩ := (Hr.out.below hb (Nat.le_refl _)).2 k hlt
      obtain ⟨b', off', rfl, hbB', B2, cp', c0q, c1q, c2q, c3q, c4q, c5q, c6q, c7q, c8q, hm'⟩ := (Hr'.out.below hb (Nat.le_refl _)).2 k hlt
      have d0 := cell_regrown c0
      have d0q := cell_regrown c0q
      have d1 := cell_regrown c1
      have d1q := cell_regrown c1q
      have d2 := cell_regrown c2
      have d2q := cell_regrown c2q
      have d3 := cell_regrown c3
      have d3q := cell_regrown c3q
      have d4 := cell_regrown c4
      have d4q := cell_regrown c4q
      have d5 := cell_regrown c5
      have d5q := cell_regrown c5q
      have d6 := cell_regrown c6
      have d6q := cell_regrown c6q
      have d7 := cell_regrown c7
      have d7q := cell_regrown c7q
      have d8 := cell_regrown c8
      have d8q := cell_regrown c8q
      have Hm := Lib.hid hm
      have Hm' := Lib.hid hm'
      clear c0 c0q c1 c1q c2 c2q c3 c3q c4 c4q c5 c5q c6 c6q c7 c7q c8 c8q hm hm'
      have hi : (k : Int) < (l.length : Int) := by omega
      go_wp2_with fail
      refine wp_region_quiet_below (by kernel_rfl) (by kernel_rfl) ?_
      repeat (quiet_step (exact Calls.regrown_of (eqC_same d _ _ _ _ _ _ _ _ _ _ _ _ _ _ (Hm.out.keep (fun p hp => (below_regrown wr _ _).cell (Nat.lt_of_lt_of_le hp hb.size)) (Nat.le_trans hb.size (below_regrown wr _ _).size)) (Hm'.out.keep (fun p hp => (below_regrown wr _ _).cell (Nat.lt_of_lt_of_le hp hb.size)) (Nat.le_trans hb.size (below_regrown wr _ _).size)))))
      refine wpQuiet_nil ?_
      intro _ hw'
      obtain ⟨⟨dq, osq⟩, hw''⟩ := hw'
      subst hw''
      have hb2 := hb.trans ((below_regrown wr dq osq).mono hb.size)
      clear d0 d0q d1 d1q d2 d2q d3 d3q d4 d4q d5 d5q d6 d6q d7 d7q d8 d8q
      go_wp2_with fail
      go_roundw
      case rel => exact ⟨k + 1, by omega, by go_num, hb2⟩
      case measure => simp [intOf]; omega
    · go_wp2_with fail
      go_ret
      exact ⟨rfl, hb⟩
end Go.Proofs.YthecfkdilbfimaaGreat
/-
  The law FnExactClausesValid walked. No statement is proved here.
-/
namespace Go.Proofs.YthecfkdilbfimaaGreat
open Go.RowKit Go.Deep
set_option maxRecDepth 100000
set_option linter.unusedVariables false


set_option maxHeartbeats 3000000 in
theorem cs_law (A C : Option Addr) (l : List Da) (cap ccap d : Nat) (t : Ty) (L : List Cn) (w : World) (hr : RDas w w.heap.size A l) (hv : RCs d w w.heap.size C L) :
    Calls Tryz.prog 3 #[.slice A l.length cap, .agg #[.int .i64 t.data, .int .i64 t.index], .slice C L.length ccap] w fun e w' => e = .returned (.bool true) ∧ Below w.heap.size w w' := by
  have Hr := Lib.hid hr
  have HV := Lib.hid hv
  clear hr hv
  generalize hw0 : w.alloc (.cells #[.int .i64 t.data, .int .i64 t.index] 24) = w0
  have hb0w : Below w.heap.size w w0 := by rw [← hw0]; exact (Below.refl _ _).alloc (Nat.le_refl _) _
  have hb00 : Below w0.heap.size w0 w0 := Below.refl _ _
  have HXT : Hid (Bx w0 w.heap.size t) := by rw [← hw0]; exact ⟨by simp [go_sem], by simp [go_sem]⟩
  have HW := Lib.hid hw0
  clear hw0
  by_cases h1 : (wDas l : Int) ≤ 1048576
  · have H1 := Lib.hid (left_ok h1)
    by_cases h2 : (wCs L : Int) ≤ 1048576 - (wDas l : Int)
    · have H2 := Lib.hid (left_ok h2)
      have hnd : wDas l ≤ 1048576 := by omega
      have hnc : wCs L ≤ 1048576 := by omega
      go_enter Tryz.func3, Tryz.ntmps3
      go_wp2_with (first | (go_at_call 11; (try rw [HW.out]); refine (szDataS_any _ l _ _ _ (Hr.out.at_ hb0w) (by omega) (by omega)).mono ?_; rw [H1.out]; rintro e1 w1 ⟨rfl, hb1⟩; have hb10 := below_aft hb00 hb1 hb00.size; have hb1w := below_aft hb0w hb1 hb0w.size) | (go_at_call 12; refine (szCs_any d _ L _ _ _ (HV.out.at_ hb1w) (by omega) (by omega)).mono ?_; rw [H2.out]; rintro e2 w2 ⟨rfl, hb2⟩; have hb20 := below_aft hb10 hb2 hb10.size; have hb2w := below_aft hb1w hb2 hb1w.size))
      have S2 := HXT.out.at_ hb20
      go_region_held3 (fun w' => w'.cell? ⟨w.heap.size, 0, none⟩ = some (.int .i64 t.data) ∧ w'.cell? ⟨w.heap.size, 1, none⟩ = some (.int .i64 t.index)) (first | exact S2 | exact S6 | exact S5 | exact S4 | exact S3 | go_keep) (first | (go_at_call 14; refine (toDataS_any _ l _ _ (by exact Hr.out.at_ hb2w.drew) hnd).mono ?_; rintro e3 w3 ⟨g3, rfl, hf3, hb3'⟩; have hb3 : Below w2.heap.size w2 w3 := ⟨hb3'.os, hb3'.tape, hb3'.output, hb3'.size, hb3'.block⟩; have R3 := Lib.hid hf3.reads; have hb30 := below_aft hb20 hb3 hb20.size; have hb3w := below_aft hb2w hb3 hb2w.size; have S3 := HXT.out.at_ hb30; clear hf3 hb3' hb3) | (go_at_call 15; refine (toType_any _ _ _).mono ?_; rintro e4 w4 ⟨rfl, hb4⟩; have R4 := Lib.hid (R3.out.at_ hb4); have hb40 := below_aft hb30 hb4 hb30.size; have hb4w := below_aft hb3w hb4 hb3w.size; have S4 := HXT.out.at_ hb40; clear hb4) | (go_at_call 16; refine (toCs_any d _ L _ _ (HV.out.at_ hb4w) hnc).mono ?_; rintro e5 w5 ⟨g5, rfl, hf5, hb5⟩; have R5 := Lib.hid (R4.out.at_ hb5); have V5 := Lib.hid hf5; have hb50 := below_aft hb40 hb5 hb40.size; have hb5w := below_aft hb4w hb5 hb4w.size; have S5 := HXT.out.at_ hb50; clear hf5 hb5) | (go_at_call 13; refine (cs_spec _ _ l _ _ d t L _ R5.out V5.out hnc).mono ?_; rintro e6 w6 ⟨rfl, hb6⟩; have hb60 := below_aft hb50 hb6 hb50.size; have hb6w := below_aft hb5w hb6 hb5w.size; have S6 := HXT.out.at_ hb60; clear hb6))
      clear S2 S3 S4 S5 S6 R3 R4 R5 V5 hb3w hb4w hb5w hb30 hb40 hb50
      go_wp2_with (first | (go_at_call 14; refine (toDataS_any _ l _ _ (by exact Hr.out.at_ hb10w) hnd).mono ?_; rintro e11 w11 ⟨g11, rfl, hf11, hb11⟩; have Q11 := Lib.hid hf11.reads; have R11 := Lib.hid (R10.out.at_ hb11); have V11 := Lib.hid (V10.out.at_ hb11); have hb110 := below_aft hb100 hb11 hb100.size; have hb11w := below_aft hb10w hb11 hb10w.size; clear hf11) | (go_at_call 14; refine (toDataS_any _ l _ _ (by exact Hr.out.at_ hb6w) hnd).mono ?_; rintro e7 w7 ⟨g7, rfl, hf7, hb7⟩; have R7 := Lib.hid hf7.reads; have hb70 := below_aft hb60 hb7 hb60.size; have hb7w := below_aft hb6w hb7 hb6w.size; clear hf7) | (go_at_call 16; refine (toCs_any d _ L _ _ (HV.out.at_ hb12w) hnc).mono ?_; rintro e13 w13 ⟨g13, rfl, hf13, hb13⟩; have Q13 := Lib.hid hf13; have V13 := Lib.hid (V12.out.at_ hb13); have hb130 := below_aft hb120 hb13 hb120.size; have hb13w := below_aft hb12w hb13 hb12w.size; clear hf13) | (go_at_call 16; refine (toCs_any d _ L _ _ (HV.out.at_ hb7w) hnc).mono ?_; rintro e8 w8 ⟨g8, rfl, hf8, hb8⟩; have V8 := Lib.hid hf8; have R8 := Lib.hid (R7.out.at_ hb8); have hb80 := below_aft hb70 hb8 hb70.size; have hb8w := below_aft hb7w hb8 hb7w.size; obtain ⟨x0, x1⟩ := HXT.out.at_ hb80; clear hf8) | (go_at_call 15; refine (toType_any _ _ _).mono ?_; rintro e9 w9 ⟨rfl, hb9⟩; have R9 := Lib.hid (R8.out.at_ hb9); have V9 := Lib.hid (V8.out.at_ hb9); have hb90 := below_aft hb80 hb9 hb80.size; have hb9w := below_aft hb8w hb9 hb8w.size) | (go_at_call 17; refine (cs_impl _ _ l _ _ d t L _ R9.out V9.out).mono ?_; rintro e10 w10 ⟨rfl, hb10⟩; have R10 := Lib.hid (R9.out.at_ hb10); have V10 := Lib.hid (V9.out.at_ hb10); have hb100 := below_aft hb90 hb10 hb90.size; have hb10w := below_aft hb9w hb10 hb9w.size) | (go_at_call 18; refine (eqDataS_same _ _ _ _ _ _ R11.out Q11.out).mono ?_; rintro e12 w12 ⟨rfl, hb12⟩; have V12 := Lib.hid (V11.out.at_ hb12); have hb120 := below_aft hb110 hb12 hb110.size; have hb12w := below_aft hb11w hb12 hb11w.size) | (go_at_call 19; refine (eqCs_same d _ _ L _ _ _ V13.out Q13.out).mono ?_; rintro e14 w14 ⟨rfl, hb14⟩; have hb140 := below_aft hb130 hb14 hb130.size; have hb14w := below_aft hb13w hb14 hb13w.size))
      go_ret
      exact ⟨rfl, hb14w⟩
    · have H2 := Lib.hid (left_no h2)
      go_enter Tryz.func3, Tryz.ntmps3
      go_wp2_with (first | (go_at_call 11; (try rw [HW.out]); refine (szDataS_any _ l _ _ _ (Hr.out.at_ hb0w) (by omega) (by omega)).mono ?_; rw [H1.out]; rintro e1 w1 ⟨rfl, hb1⟩; have hb10 := below_aft hb00 hb1 hb00.size; have hb1w := below_aft hb0w hb1 hb0w.size) | (go_at_call 12; refine (szCs_any d _ L _ _ _ (HV.out.at_ hb1w) (by omega) (by omega)).mono ?_; rw [H2.out]; rintro e2 w2 ⟨rfl, hb2⟩; have hb20 := below_aft hb10 hb2 hb10.size; have hb2w := below_aft hb1w hb2 hb1w.size))
      go_ret
      exact ⟨rfl, hb2w⟩
  · have H1 := Lib.hid (left_no h1)
    go_enter Tryz.func3, Tryz.ntmps3
    go_wp2_with (go_at_call 11; (try rw [HW.out]); refine (szDataS_any _ l _ _ _ (Hr.out.at_ hb0w) (by omega) (by omega)).mono ?_; rw [H1.out]; rintro e1 w1 ⟨rfl, hb1⟩; have hb10 := below_aft hb00 hb1 hb00.size; have hb1w := below_aft hb0w hb1 hb0w.size)
    go_ret
    exact ⟨rfl, hb1w⟩
end Go.Proofs.YthecfkdilbfimaaGreat
/-
  What an argument that is a value reads as. No statement is proved here.
-/
namespace Go.Proofs.YthecfkdilbfimaaGreat
open Go.RowKit Go.Deep
open Go.ChangeShapes Go.WideShapes
set_option maxRecDepth 100000
set_option linter.unusedVariables false

section
variable {H : Type} {enc : TypeId × Value → H} {w : World} {spare : Nat → Bool} {held : Bool}

theorem field_atn {e : TypeId} {fs : Array Field} {fuel : Nat} {cs : List Value} {x : DataW H × List MemPlace} (he : Tryz.prog.underlying e = some (.struct fs)) (hone : oneCellFields Tryz.prog fs = true) (hlen : cs.length = fs.size)
    (h : DataW.trod enc Tryz.prog w 0 spare held fuel e cs = some x) :
    ∃ m, fuel = m + 1 ∧ ∀ (j : Nat) (f : Field), fs[j]? = some f → ∃ v y, cs[j]? = some v ∧ DataW.trod enc Tryz.prog w 0 spare held m f.type [v] = some y := by
  obtain ⟨ys, m, hfu, _, _, hyl, hf⟩ := DataW.trod_struct he h
  refine ⟨m, hfu, fun j f hj => ?_⟩
  obtain ⟨ho, hk⟩ := hone_of hone j f hj
  have hjl : j < fs.size := (Array.getElem?_eq_some_iff.1 hj).1
  have h1 := hf j f hj
  rw [ho, hk] at h1
  have hd : (cs.drop j).take 1 = [cs[j]'(by omega)] := by
    rw [List.drop_eq_getElem_cons (by omega)]; rfl
  rw [hd, List.getElem?_eq_getElem (by omega)] at h1
  exact ⟨_, _, List.getElem?_eq_getElem (by omega), h1⟩

theorem deep_all {P : Nat → Nat → Prop} (hup : ∀ i d d', d ≤ d' → P i d → P i d') : ∀ n, (∀ i, i < n → ∃ d, P i d) → ∃ D, ∀ i, i < n → P i D
  | 0, _ => ⟨0, fun i h => absurd h (Nat.not_lt_zero _)⟩
  | n + 1, h => by
    obtain ⟨D, hD⟩ := deep_all hup n (fun i hi => h i (by omega))
    obtain ⟨d, hd⟩ := h n (by omega)
    refine ⟨max D d, fun i hi => ?_⟩
    by_cases e : i = n
    · subst e; exact hup _ _ _ (Nat.le_max_right _ _) hd
    · exact hup _ _ _ (Nat.le_max_left _ _) (hD i (by omega))

theorem vls_of (fuel : Nat) : ∀ {v : Value} {x : DataW H × List MemPlace}, DataW.trod enc Tryz.prog w 0 spare held fuel 58 [v] = some x → ∃ A l cap, v = .slice A (List.length l) cap ∧ ∃ d, RVs d w w.heap.size A l := by
  induction fuel using Nat.strongRecOn with
  | _ fuel ih =>
    intro v x h
    rcases DataW.trod_slice Tryz.underlying58 h with ⟨hcs, _⟩ | ⟨a, len, cap, elems, rest, n, hfu, hcs, hx, hb, hl, hm, hlen, hel, _, _⟩
    · obtain rfl : v = .slice none 0 0 := by simpa using hcs
      exact ⟨none, [], 0, rfl, 0, RVs.nil⟩
    · obtain rfl : v = .slice (some a) len cap := by simpa using hcs
      have h3 : Tryz.prog.cellsOf 60 = 3 := by kernel_rfl
      have hone : ∀ i, i < len → ∃ (t : Vl), ∃ A c d, w.cell? ((a.add (i * 3)).add 0) = some (.int .i64 t.ctor) ∧ w.cell? ((a.add (i * 3)).add 1) = some (.int .i64 t.n) ∧ w.cell? ((a.add (i * 3)).add 2) = some (.slice A t.kids.length c) ∧ RVs d w w.heap.size A t.kids := by
        intro i hi
        have h1 := hel i hi
        rw [List.getElem?_eq_getElem (by omega)] at h1
        obtain ⟨cs', q1, q2⟩ := Option.bind_eq_some_iff.1 h1
        obtain ⟨_, hl3, hat⟩ := World.cells?_some q1
        rw [h3] at hl3 hat
        obtain ⟨m, hfm, hf⟩ := field_atn Tryz.underlying60 (by kernel_rfl) hl3 q2
        obtain ⟨v0, y0, e0, t0⟩ := hf 0 _ rfl
        obtain ⟨v1, y1, e1, t1⟩ := hf 1 _ rfl
        obtain ⟨v2, y2, e2, t2⟩ := hf 2 _ rfl
        obtain ⟨c, p0, _, _⟩ := DataW.trod_int Tryz.underlying3 t0
        obtain ⟨k, p1, _, _⟩ := DataW.trod_int Tryz.underlying3 t1
        obtain ⟨A, l, cp, rfl, d, hr⟩ := ih m (by omega) t2
        simp only [List.cons.injEq, and_true] at p0 p1
        subst p0 p1
        exact ⟨.mk c k l, A, cp, d, (hat 0 (by omega)).trans e0, (hat 1 (by omega)).trans e1, (hat 2 (by omega)).trans e2, hr⟩
      obtain ⟨f, hf⟩ := choose_lt (α := Vl) (n := len) (p := fun i t => ∃ A c d, w.cell? ((a.add (i * 3)).add 0) = some (.int .i64 t.ctor) ∧ w.cell? ((a.add (i * 3)).add 1) = some (.int .i64 t.n) ∧ w.cell? ((a.add (i * 3)).add 2) = some (.slice A t.kids.length c) ∧ RVs d w w.heap.size A t.kids) hone
      by_cases hz : len = 0
      · subst hz
        exact ⟨some a, [], cap, rfl, 0, RVs.nil⟩
      · have hsp : a.spot = none := by
          obtain ⟨A, c, d, c0, _⟩ := hf 0 (by omega)
          exact spot_of (w := w) (a := a) (by simpa [Addr.add] using c0)
        obtain ⟨b, off, sp⟩ := a
        simp only at hsp
        subst hsp
        obtain ⟨D, hD⟩ := deep_all (P := fun i d => RVl d w w.heap.size b (off + i * 3) (f i)) (fun i d d' hd h => h.more hd) len (fun i hi => by
          obtain ⟨A, c, d, c0, c1, c2, h4, h5⟩ := hf i hi
          simp only [Addr.add_lit, Nat.add_zero] at c0 c1 c2
          exact ⟨d + 1, A, c, by simpa using c0, by simpa using c1, by simpa using c2, h4, h5⟩)
        refine ⟨some ⟨b, off, none⟩, (List.range len).map f, cap, by simp, D, by simp; omega, fun k hk => ?_⟩
        have hk' : k < len := by simpa using hk
        have hbl : b < w.heap.size := by
          obtain ⟨A, c, d, c0, _⟩ := hf k hk'
          simp only [Addr.add_lit, Nat.add_zero] at c0
          exact block_lt_of_cell c0
        exact ⟨b, off, rfl, hbl, by simpa using hD k hk'⟩

/-- An argument that is a value. -/
theorem open_vl {v : Value} {d : DataW H} {ps : List MemPlace} {b0 : Nat} {r : Reach} (hv : Value.okWide Tryz.prog w r b0 60 v) (h : DataW.Trod enc Tryz.prog w 0 spare held 60 v d ps) :
    ∃ (t : Vl) (A : Option Addr) (cap d : Nat), v = .agg #[.int .i64 t.ctor, .int .i64 t.n, .slice A t.kids.length cap] ∧ RVs d w w.heap.size A t.kids := by
  obtain ⟨c0, c1, c2, y0, y1, y2, m, rfl, rfl, rfl, hy0, hy1, hy2⟩ := Go.Joins.open_agg3 Tryz.underlying60 (by kernel_rfl) (by kernel_rfl) hv h
  obtain ⟨a, e0, _, _⟩ := DataW.trod_int Tryz.underlying3 hy0
  obtain ⟨b, e1, _, _⟩ := DataW.trod_int Tryz.underlying3 hy1
  obtain ⟨A, l, cp, rfl, d, hr⟩ := vls_of m hy2
  simp only [List.cons.injEq, and_true] at e0 e1
  subst e0 e1
  exact ⟨.mk a b l, A, cp, d, rfl, hr⟩
end
end Go.Proofs.YthecfkdilbfimaaGreat
