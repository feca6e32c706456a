/-
  Lists of lists of numbers, as they lie in memory; the functions that count, copy, compare and mark them. No statement is proved here.
-/
import Derived.Test.YtnfjjabeobcenaaU05
import Derived.Test.YtnfjjabeobcenaaU07
import Derived.Test.YtnfjjabeobcenaaU09
import Derived.Laws.OwnMore
import Derived.Maps.AppendAt
import Derived.Tactics
namespace Go.Proofs.Ytnfjjabeobcenaa
open Go.RowKit Go.Sort
set_option maxRecDepth 100000
set_option linter.unusedVariables false
/-- Numbers in a row below B. -/
def RIs (w : World) (B : Nat) (A : Option Addr) (l : List Int) : Prop := l.length ≤ maxLen ∧ ∀ k (h : k < l.length), ∃ b off, A = some ⟨b, off, none⟩ ∧ b < B ∧ w.cell? ⟨b, off + k, none⟩ = some (.int .i64 l[k])
def RIss (w : World) (B : Nat) (A : Option Addr) (l : List (List Int)) : Prop := l.length ≤ maxLen ∧ ∀ k (h : k < l.length), ∃ b off A' c, A = some ⟨b, off, none⟩ ∧ b < B ∧ w.cell? ⟨b, off + k, none⟩ = some (.slice A' l[k].length c) ∧ RIs w B A' l[k]
section
variable {w w' : World} {B B' : Nat} {A : Option Addr}
theorem RIs.keep {l : List Int} (h : RIs w B A l) (hk : ∀ p : Addr, p.block < B → w'.cell? p = w.cell? p) (hB : B ≤ B') : RIs w' B' A l :=
  ⟨h.1, fun k hk' => by
    obtain ⟨b, off, e, hb, c0⟩ := h.2 k hk'
    exact ⟨b, off, e, by omega, (hk _ hb).trans c0⟩⟩
theorem RIss.keep {l : List (List Int)} (h : RIss w B A l) (hk : ∀ p : Addr, p.block < B → w'.cell? p = w.cell? p) (hB : B ≤ B') : RIss w' B' A l :=
  ⟨h.1, fun k hk' => by
    obtain ⟨b, off, A', c, e, hb, c0, hm⟩ := h.2 k hk'
    exact ⟨b, off, A', c, e, by omega, (hk _ hb).trans c0, hm.keep hk hB⟩⟩
theorem RIs.below {B0 : Nat} {l : List Int} (h : RIs w B A l) (hb : Below B0 w w') (hB : B ≤ B0) : RIs w' B A l := h.keep (fun _ hp => hb.cell (Nat.lt_of_lt_of_le hp hB)) (Nat.le_refl _)
theorem RIss.below {B0 : Nat} {l : List (List Int)} (h : RIss w B A l) (hb : Below B0 w w') (hB : B ≤ B0) : RIss w' B A l := h.keep (fun _ hp => hb.cell (Nat.lt_of_lt_of_le hp hB)) (Nat.le_refl _)
theorem RIs.at_ {l : List Int} (h : RIs w w.heap.size A l) (hb : Below w.heap.size w w') : RIs w' w'.heap.size A l := h.keep (fun _ hp => hb.cell hp) hb.size
theorem RIss.at_ {l : List (List Int)} (h : RIss w w.heap.size A l) (hb : Below w.heap.size w w') : RIss w' w'.heap.size A l := h.keep (fun _ hp => hb.cell hp) hb.size
theorem RIs.nil : RIs w B A [] := ⟨Nat.zero_le _, fun k h => absurd h (Nat.not_lt_zero _)⟩
end
def wIss (l : List (List Int)) : Nat := l.length + (l.map List.length).sum
theorem isum_succ : ∀ (l : List (List Int)) (k : Nat) (h : k < l.length), ((l.take (k + 1)).map List.length).sum = ((l.take k).map List.length).sum + l[k].length := sum_take_succ List.length
theorem isum_le : ∀ (l : List (List Int)) (k : Nat), ((l.take k).map List.length).sum ≤ (l.map List.length).sum := sum_take_le List.length
theorem ret_i64' {a b : Int} (h : a = b) : Ending.returned (.int .i64 a) = .returned (.int .i64 b) := by rw [h]
theorem szIs_len (A : Option Addr) (n cap : Nat) (l : Int) (w : World) (hn : n ≤ maxLen) (h0 : 0 ≤ l) (h1 : l ≤ 1048576) :
    Calls Try.prog 43 #[.slice A n cap, .int .i64 l] w fun e w' => e = .returned (.int .i64 (left l n)) ∧ w = w' := by
  unfold maxLen at hn
  by_cases hc : (n : Int) ≤ l
  · have H := Lib.hid (left_ok hc)
    go_enter Try.func43, Try.ntmps43
    go_wp2_with fail
    go_ret
    exact ⟨ret_i64' H.out.symm, rfl⟩
  · have H := Lib.hid (left_no hc)
    go_enter Try.func43, Try.ntmps43
    go_wp2_with fail
    go_ret
    exact ⟨ret_i64' H.out.symm, rfl⟩
set_option maxHeartbeats 800000 in
theorem szIss_any (A : Option Addr) (l0 : List (List Int)) (cap : Nat) (l : Int) (w : World) (hr : RIss w w.heap.size A l0) (h0 : 0 ≤ l) (h1 : l ≤ 1048576) :
    Calls Try.prog 20 #[.slice A l0.length cap, .int .i64 l] w fun e w' => e = .returned (.int .i64 (left l (wIss l0))) ∧ Below w.heap.size w w' := by
  have hn := hr.1
  unfold maxLen at hn
  have Hr := Lib.hid hr
  clear hr
  by_cases hc : (l0.length : Int) ≤ l
  · go_enter Try.func20, Try.ntmps20
    go_wp2_with fail
    go_loopw [1, 5] (fun t i wr => ∃ k : Nat, k ≤ l0.length ∧ i = .int .i64 k ∧ ∃ q : Int, 0 ≤ q ∧ q ≤ 1048576 ∧ t = .int .i64 q ∧ Hid (q = l - (l0.length + ((l0.take k).map List.length).sum : Nat)) ∧ Below w.heap.size w wr) (fun _ i _ => l0.length - (intOf i).toNat)
    case atStart => exact ⟨0, by omega, rfl, _, by omega, by omega, rfl, by unfold Hid; simp, Below.refl _ _⟩
    case round =>
      obtain ⟨k, hk, rfl, q, hq0, hq1, rfl, HQ, hb⟩ := hrel
      by_cases hlt : k < l0.length
      · obtain ⟨b, off, A', c, rfl, hbB, c0, hm⟩ := (Hr.out.below hb (Nat.le_refl _)).2 k hlt
        have hi : (k : Int) < (l0.length : Int) := by omega
        have HT := Lib.hid (isum_succ l0 k hlt)
        have HL := Lib.hid (isum_le l0 (k + 1))
        have hml := hm.1
        by_cases hf : ((l0[k].length : Nat) : Int) ≤ q
        · have HO := Lib.hid (left_ok hf)
          go_wp2_with (go_at_call 43; refine (szIs_len _ _ _ q wr hml (by omega) (by omega)).mono ?_; rw [HO.out]; rintro e1 w1 ⟨rfl, rfl⟩)
          go_roundw
          case rel => exact ⟨k + 1, by omega, by go_num, _, by omega, by omega, rfl, by unfold Hid; rw [HT.out, HQ.out]; push_cast; omega, hb⟩
          case measure => simp [intOf]; omega
        · have HO := Lib.hid (left_no hf)
          have HN : Hid (left l (wIss l0) = -1) := left_no (by have a1 := HT.out; have a2 := HL.out; have a3 := HQ.out; unfold wIss; omega)
          go_wp2_with (go_at_call 43; refine (szIs_len _ _ _ q wr hml (by omega) (by omega)).mono ?_; rw [HO.out]; rintro e1 w1 ⟨rfl, rfl⟩)
          go_ret
          exact ⟨ret_i64' HN.out.symm, hb⟩
      · have hi : (l0.length : Int) ≤ (k : Int) := by omega
        have HN : Hid (left l (wIss l0) = q) := by
          have a3 := HQ.out
          rw [List.take_of_length_le (by omega)] at a3
          unfold Hid
          rw [left_ok (by unfold wIss; omega), a3]; rfl
        go_wp2_with fail
        go_ret
        exact ⟨ret_i64' HN.out.symm, hb⟩
  · have HN : Hid (left l (wIss l0) = -1) := left_no (by unfold wIss; omega)
    go_enter Try.func20, Try.ntmps20
    go_wp2_with fail
    go_ret
    exact ⟨ret_i64' HN.out.symm, Below.refl _ _⟩

/-! Copies in blocks of their own. -/
def FIs (w : World) (lo g : Nat) (l : List Int) : Prop :=
  lo ≤ g ∧ l.length ≤ maxLen ∧ ∃ cs, w.heap[g]? = some (.cells cs 3 (0, 0)) ∧ cs.size = l.length ∧ ∀ k (h : k < l.length), cs[k]? = some (.int .i64 l[k])
def FIt (w : World) (lo : Nat) (c : List Int) (x0 : Option Value) : Prop := ∃ g, x0 = some (.slice (some ⟨g, 0, none⟩) c.length c.length) ∧ FIs w lo g c
def FIss (w : World) (lo g : Nat) (l : List (List Int)) : Prop :=
  lo ≤ g ∧ l.length ≤ maxLen ∧ ∃ cs, w.heap[g]? = some (.cells cs 69 (0, 0)) ∧ cs.size = l.length ∧ ∀ k (h : k < l.length), FIt w lo l[k] cs[k]?
theorem FIs.keep {w w' : World} {lo lo' g : Nat} {l : List Int} (h : FIs w lo g l) (hl : lo' ≤ lo) (hk : ∀ b cs, lo ≤ b → w.heap[b]? = some (.cells cs 3 (0, 0)) → w'.heap[b]? = w.heap[b]?) : FIs w' lo' g l := by
  obtain ⟨h1, h2, cs, h3, h4, h5⟩ := h
  exact ⟨by omega, h2, cs, (hk g cs h1 h3).trans h3, h4, h5⟩
theorem FIss.keep {w w' : World} {lo lo' g : Nat} {l : List (List Int)} (h : FIss w lo g l) (hl : lo' ≤ lo) (hk : ∀ b o, lo ≤ b → w.heap[b]? = some o → w'.heap[b]? = w.heap[b]?) : FIss w' lo' g l := by
  obtain ⟨h1, h2, cs, h3, h4, h5⟩ := h
  refine ⟨by omega, h2, cs, (hk g _ h1 h3).trans h3, h4, fun k hk' => ?_⟩
  obtain ⟨g', e0, e1⟩ := h5 k hk'
  exact ⟨g', e0, e1.keep hl (fun b cs hb he => hk b _ hb he)⟩
theorem FIs.reads {w : World} {lo g : Nat} {l : List Int} (h : FIs w lo g l) : RIs w w.heap.size (some ⟨g, 0, none⟩) l := by
  obtain ⟨h1, h2, cs, h3, h4, h5⟩ := h
  exact ⟨h2, fun k hk => ⟨g, 0, rfl, heap_lt h3, by rw [cell_of_blk h3, Nat.zero_add]; exact h5 k hk⟩⟩
theorem FIss.reads {w : World} {lo g : Nat} {l : List (List Int)} (h : FIss w lo g l) : RIss w w.heap.size (some ⟨g, 0, none⟩) l := by
  obtain ⟨h1, h2, cs, h3, h4, h5⟩ := h
  refine ⟨h2, fun k hk => ?_⟩
  obtain ⟨g', e0, e1⟩ := h5 k hk
  exact ⟨g, 0, _, _, rfl, heap_lt h3, by rw [cell_of_blk h3, Nat.zero_add]; exact e0, e1.reads⟩
def IRow (l : List Int) (xs : List Value) (k : Nat) : Prop := ∀ j (h : j < l.length), j < k → xs[j]? = some (.int .i64 l[j])
theorem FIs.of_row {w : World} {lo g : Nat} {l : List Int} {xs : List Value} (h : w.ownsRow lo 3 1 (.slice (some ⟨g, 0, none⟩) l.length l.length) l.length xs) (hx : IRow l xs l.length) (hn : l.length ≤ 1048576) : FIs w lo g l := by
  rcases h.2 with ⟨h', _⟩ | ⟨g', cap', cur, h', hb, hg, hnc, hcm, hcs, htake⟩
  · simp at h'
  · simp only [Value.slice.injEq, Option.some.injEq, Addr.mk.injEq, and_true, true_and] at h'
    obtain ⟨rfl, rfl⟩ := h'
    refine ⟨hb, by unfold maxLen; omega, cur, hg, by omega, fun k hk => ?_⟩
    rw [List.take_of_length_le (by rw [Array.length_toList]; omega)] at htake
    rw [← Array.getElem?_toList, htake]
    exact hx k hk hk
theorem infoIi : (Try.prog.info? 3).map (fun i => (i.zero, i.size, i.bytes)) = some (some (.int .i64 0), 1, 8) := by kernel_rfl
theorem infoIl : (Try.prog.info? 69).map (fun i => (i.zero, i.size, i.bytes)) = some (some (.slice none 0 0), 1, 24) := by kernel_rfl
set_option maxHeartbeats 800000 in
theorem toIs_own (A : Option Addr) (l : List Int) (cap : Nat) (w : World) (hr : RIs w w.heap.size A l) (hn : l.length ≤ 1048576) :
    Calls Try.prog 45 #[.slice A l.length cap] w fun e w' => ∃ g, e = .returned (.slice (some ⟨g, 0, none⟩) l.length l.length) ∧ FIs w' w.heap.size g l ∧ Below w.heap.size w w' := by
  obtain ⟨i0, hi, hz0, hz1, hz2⟩ := info_parts infoIi
  have Hr := Lib.hid hr
  clear hr
  go_enter Try.func45, Try.ntmps45
  go_wp2_with (at_make; refine wpList_make_full _ rfl _ _ 69 rfl w.heap.size 3 i0 _ 1 Try.underlying69 hi hz0 hz1 _ _ _ _ l.length rfl rfl rfl rfl (by rw [hz2]; omega) (by unfold maxLen; omega) (Nat.le_refl _) ?_; intro w1 hown hgr)
  go_loopw [4] (fun i wr => ∃ k : Nat, k ≤ l.length ∧ i = .int .i64 k ∧ ∃ xs, wr.ownsRow w.heap.size 3 1 (.slice (some ⟨w.heap.size, 0, none⟩) l.length l.length) l.length xs ∧ IRow l xs k ∧ Below w.heap.size w wr) (fun i _ => l.length - (intOf i).toNat)
  case atStart => exact ⟨0, by omega, rfl, _, hown, fun j _ h => absurd h (by omega), below_of_grown hgr (Nat.le_refl _)⟩
  case round =>
    obtain ⟨k, hk, rfl, xs, hown, hrow, hb⟩ := hrel
    clear hgr hi hz0 hz1 hz2
    by_cases hlt : k < l.length
    · obtain ⟨b, off, rfl, hbB, c0⟩ := (Hr.out.below hb (Nat.le_refl _)).2 k hlt
      have hi : (k : Int) < (l.length : Int) := by omega
      obtain ⟨v0, f0⟩ := own_cell hown k (by omega)
      have g0 := hown.frozenAt k
      have hx := hown.1
      have s1 := (hown.stored k (.int .i64 l[k])).1
      go_wp2_with fail
      go_roundw
      case rel => exact ⟨k + 1, by omega, by go_num, _, s1, fun j hj hjk => by
        by_cases e : j = k
        · subst e; rw [List.getElem?_set_self (by omega)]
        · rw [List.getElem?_set_ne (by omega)]; exact hrow j hj (by omega), hb.setCell (Nat.le_refl _) _⟩
      case measure => simp [intOf]; omega
    · go_wp2_with fail
      go_ret
      exact ⟨_, rfl, FIs.of_row hown (fun j hj _ => hrow j hj (by omega)) hn, hb⟩
def JRow (w : World) (lo : Nat) (l : List (List Int)) (xs : List Value) (k : Nat) : Prop := ∀ j (h : j < l.length), j < k → FIt w lo l[j] xs[j]?
theorem JRow.keep {w w' : World} {lo : Nat} {l : List (List Int)} {xs : List Value} {k : Nat} (h : JRow w lo l xs k) (hk : ∀ b cs, lo ≤ b → w.heap[b]? = some (.cells cs 3 (0, 0)) → w'.heap[b]? = w.heap[b]?) : JRow w' lo l xs k := by
  intro j hj hjk
  obtain ⟨g, e0, e1⟩ := h j hj hjk
  exact ⟨g, e0, e1.keep (Nat.le_refl _) hk⟩
theorem JRow.step {w : World} {lo : Nat} {l : List (List Int)} {xs : List Value} {k g : Nat} (h : JRow w lo l xs k) (hk : k < l.length) (hx : xs.length = l.length) (hf : FIs w lo g l[k]) :
    JRow w lo l (xs.set k (.slice (some ⟨g, 0, none⟩) l[k].length l[k].length)) (k + 1) := by
  intro j hj hjk
  by_cases e : j = k
  · subst e
    exact ⟨g, by rw [List.getElem?_set_self (by omega)], hf⟩
  · have := h j hj (by omega)
    rw [List.getElem?_set_ne (by omega)]
    exact this
theorem FIss.of_row {w : World} {lo g : Nat} {l : List (List Int)} {xs : List Value} (h : w.ownsRow lo 69 1 (.slice (some ⟨g, 0, none⟩) l.length l.length) l.length xs) (hx : JRow w lo l xs l.length) (hn : l.length ≤ 1048576) : FIss w lo g l := by
  rcases h.2 with ⟨h', _⟩ | ⟨g', cap', cur, h', hb, hg, hnc, hcm, hcs, htake⟩
  · simp at h'
  · simp only [Value.slice.injEq, Option.some.injEq, Addr.mk.injEq, and_true, true_and] at h'
    obtain ⟨rfl, rfl⟩ := h'
    refine ⟨hb, by unfold maxLen; omega, cur, hg, by omega, fun k hk => ?_⟩
    rw [List.take_of_length_le (by rw [Array.length_toList]; omega)] at htake
    rw [← Array.getElem?_toList, htake]
    exact hx k hk hk
set_option maxHeartbeats 800000 in
theorem toIss_any (A : Option Addr) (l : List (List Int)) (cap : Nat) (w : World) (hr : RIss w w.heap.size A l) (hn : wIss l ≤ 1048576) :
    Calls Try.prog 22 #[.slice A l.length cap] w fun e w' => ∃ g, e = .returned (.slice (some ⟨g, 0, none⟩) l.length l.length) ∧ FIss w' w.heap.size g l ∧ Below w.heap.size w w' := by
  obtain ⟨i0, hi, hz0, hz1, hz2⟩ := info_parts infoIl
  have Hr := Lib.hid hr
  clear hr
  have hl : l.length ≤ 1048576 := by unfold wIss at hn; omega
  go_enter Try.func22, Try.ntmps22
  go_wp2_with (at_make; refine wpList_make_full _ rfl _ _ 44 rfl w.heap.size 69 i0 _ 1 Try.underlying44 hi hz0 hz1 _ _ _ _ l.length rfl rfl rfl rfl (by rw [hz2]; omega) (by unfold maxLen; omega) (Nat.le_refl _) ?_; intro w1 hown hgr)
  go_loopw [4] (fun i wr => ∃ k : Nat, k ≤ l.length ∧ i = .int .i64 k ∧ ∃ xs, wr.ownsRow w.heap.size 69 1 (.slice (some ⟨w.heap.size, 0, none⟩) l.length l.length) l.length xs ∧ JRow wr w.heap.size l xs k ∧ Below w.heap.size w wr) (fun i _ => l.length - (intOf i).toNat)
  case atStart => exact ⟨0, by omega, rfl, _, hown, fun j _ h => absurd h (by omega), below_of_grown hgr (Nat.le_refl _)⟩
  case round =>
    obtain ⟨k, hk, rfl, xs, hown, hrow, hb⟩ := hrel
    clear hgr hi hz0 hz1 hz2
    by_cases hlt : k < l.length
    · obtain ⟨b, off, A', cp, rfl, hbB, c0, hm⟩ := (Hr.out.below hb (Nat.le_refl _)).2 k hlt
      have hi : (k : Int) < (l.length : Int) := by omega
      have ha : l[k].length ≤ 1048576 := by
        have h1 := isum_succ l k hlt
        have h2 := isum_le l (k + 1)
        unfold wIss at hn; omega
      have Hm := Lib.hid (hm.keep (fun _ _ => rfl) hb.size)
      clear hm
      go_wp2_with (go_at_call 45; refine (toIs_own _ _ _ _ Hm.out ha).mono ?_; rintro e w2 ⟨g, rfl, hf, hb2⟩; have hown2 := own_below hown hb2; obtain ⟨v0, f0⟩ := own_cell hown2 k (by omega); have g0 := hown2.frozenAt k)
      have hx := hown2.1
      have s1 := (hown2.stored k (.slice (some ⟨g, 0, none⟩) l[k].length l[k].length)).1
      obtain ⟨cs0, hcs0⟩ := own_heap hown2
      have hrow2 : JRow w2 w.heap.size l xs k := hrow.keep (fun b cs _ hh => hb2.block b (heap_lt hh))
      have hf2 : FIs w2 w.heap.size g l[k] := hf.keep hb.size (fun _ _ _ _ => rfl)
      have hkeep : ∀ b cs, w.heap.size ≤ b → w2.heap[b]? = some (.cells cs 3 (0, 0)) → (w2.setCell ⟨w.heap.size, k, none⟩ (.slice (some ⟨g, 0, none⟩) l[k].length l[k].length)).heap[b]? = w2.heap[b]? := fun b cs _ hh => by
        have hne : b ≠ w.heap.size := other_blk hcs0 hh (by decide)
        rw [Below.heap_setCell _ _ _ _ hne]
      have hrow3 := (hrow2.step hlt (by omega) hf2).keep hkeep
      go_roundw
      case rel => exact ⟨k + 1, by omega, by go_num, _, s1, hrow3, (hb.trans (hb2.mono hb.size)).setCell (Nat.le_refl _) _⟩
      case measure => simp [intOf]; omega
    · go_wp2_with fail
      go_ret
      exact ⟨_, rfl, FIss.of_row hown (fun j hj _ => hrow j hj (by omega)) hl, hb⟩
set_option maxHeartbeats 800000 in
theorem eqIss_same (A A' : Option Addr) (l : List (List Int)) (cap cap' : Nat) (w : World) (hr : RIss w w.heap.size A l) (hr' : RIss w w.heap.size A' l) :
    Calls Try.prog 24 #[.slice A l.length cap, .slice A' l.length cap'] w fun e w' => e = .returned (.bool true) ∧ Below w.heap.size w w' := by
  have hn := hr.1
  unfold maxLen at hn
  have Hr := Lib.hid hr
  have Hr' := Lib.hid hr'
  clear hr hr'
  go_enter Try.func24, Try.ntmps24
  go_wp2_with fail
  go_loopw [5] (fun i wr => ∃ k : Nat, k ≤ l.length ∧ i = .int .i64 k ∧ Below w.heap.size w wr) (fun i _ => l.length - (intOf i).toNat)
  case atStart => exact ⟨0, by omega, rfl, Below.refl _ _⟩
  case round =>
    obtain ⟨k, hk, rfl, hb⟩ := hrel
    by_cases hlt : k < l.length
    · obtain ⟨b, off, B1, cp, rfl, hbB, c0, hm⟩ := (Hr.out.below hb (Nat.le_refl _)).2 k hlt
      obtain ⟨b', off', B2, cp', rfl, hbB', c0', hm'⟩ := (Hr'.out.below hb (Nat.le_refl _)).2 k hlt
      have d0 := cell_regrown c0
      have d0' := cell_regrown c0'
      have Hm : Hid (RIs wr wr.heap.size B1 l[k]) := hm.keep (fun _ _ => rfl) hb.size
      have Hm' : Hid (RIs wr wr.heap.size B2 l[k]) := hm'.keep (fun _ _ => rfl) hb.size
      clear c0 c0' hm hm'
      have hi : (k : Int) < (l.length : Int) := by omega
      go_wp2_with fail
      refine wp_region_quiet_below (by kernel_rfl) (by kernel_rfl) ?_
      repeat (quiet_step (exact Calls.regrown_of (eqInts_same _ _ _ _ _ _ (Hm.out.at_ (below_regrown wr _ _)) (Hm'.out.at_ (below_regrown wr _ _)))))
      refine wpQuiet_nil ?_
      intro _ hw'
      obtain ⟨⟨dq, osq⟩, hw''⟩ := hw'
      subst hw''
      have hb2 := hb.trans ((below_regrown wr dq osq).mono hb.size)
      clear d0 d0'
      go_wp2_with fail
      go_roundw
      case rel => exact ⟨k + 1, by omega, by go_num, hb2⟩
      case measure => simp [intOf]; omega
    · have hi : (l.length : Int) ≤ (k : Int) := by omega
      go_wp2_with fail
      go_ret
      exact ⟨rfl, hb⟩

/-! Marks. -/
def SIs (w : World) (lo hi : Nat) (A : Option Addr) (n : Nat) : Prop := 0 < n → ∃ g cs, A = some ⟨g, 0, none⟩ ∧ (lo ≤ g ∧ g < hi) ∧ w.heap[g]? = some (.cells cs 3 (0, 0)) ∧ ∀ i, i < n → ∃ x, cs[i]? = some (.int .i64 x)
def SIss (w : World) (lo hi : Nat) (A : Option Addr) (l : List (List Int)) : Prop := 0 < l.length → ∃ g cs, A = some ⟨g, 0, none⟩ ∧ (lo ≤ g ∧ g < hi) ∧ w.heap[g]? = some (.cells cs 69 (0, 0)) ∧
  ∀ k (h : k < l.length), ∃ A' cap, cs[k]? = some (.slice A' l[k].length cap) ∧ SIs w lo hi A' l[k].length
theorem SIs.kept {w w' : World} {lo hi : Nat} {A : Option Addr} {n : Nat} (h : SIs w lo hi A n) (hk : Kept lo hi w w') : SIs w' lo hi A n := fun hn => by
  obtain ⟨g, cs, e, hl, hg, hc⟩ := h hn
  obtain ⟨cs', hg', hs, hq⟩ := hk.2.2 g cs 3 hg
  refine ⟨g, cs', e, hl, hg', fun i hi => ?_⟩
  obtain ⟨x, hx⟩ := hc i hi
  obtain ⟨v', hv', ha⟩ := hq i _ hx
  obtain ⟨y, rfl⟩ := alike_int ha
  exact ⟨y, hv'⟩
theorem SIss.kept {w w' : World} {lo hi : Nat} {A : Option Addr} {l : List (List Int)} (h : SIss w lo hi A l) (hk : Kept lo hi w w') : SIss w' lo hi A l := fun hn => by
  obtain ⟨g, cs, e, hl, hg, hc⟩ := h hn
  obtain ⟨cs', hg', hs, hq⟩ := hk.2.2 g cs 69 hg
  refine ⟨g, cs', e, hl, hg', fun k hkl => ?_⟩
  obtain ⟨A', cap, e0, e1⟩ := hc k hkl
  obtain ⟨v0, f0, a0⟩ := hq _ _ e0
  rw [alike_slice a0] at f0
  exact ⟨A', cap, f0, e1.kept hk⟩
theorem FIs.shape {w : World} {lo g : Nat} {l : List Int} (h : FIs w lo g l) : SIs w lo w.heap.size (some ⟨g, 0, none⟩) l.length := fun _ => by
  obtain ⟨h1, h2, cs, h3, h4, h5⟩ := h
  exact ⟨g, cs, rfl, ⟨h1, heap_lt h3⟩, h3, fun i hi => ⟨_, h5 i hi⟩⟩
theorem FIss.shape {w : World} {lo g : Nat} {l : List (List Int)} (h : FIss w lo g l) : SIss w lo w.heap.size (some ⟨g, 0, none⟩) l := fun _ => by
  obtain ⟨h1, h2, cs, h3, h4, h5⟩ := h
  refine ⟨g, cs, rfl, ⟨h1, heap_lt h3⟩, h3, fun k hk => ?_⟩
  obtain ⟨g', e0, e1⟩ := h5 k hk
  exact ⟨_, _, e0, e1.shape⟩
set_option maxHeartbeats 800000 in
theorem markIs_any (A : Option Addr) (n cap lo hi : Nat) (k : Int) (w : World) (hn : n ≤ 1048576) (h0 : 0 ≤ k) (h1 : k ≤ 4194304) (hr : SIs w lo hi A n) :
    Calls Try.prog 51 #[.slice A n cap, .int .i64 k] w fun e w' => e = .returned (.int .i64 (k + n)) ∧ Kept lo hi w w' := by
  have Hr := Lib.hid hr
  clear hr
  go_enter Try.func51, Try.ntmps51
  go_wp2_with fail
  go_loopw [1, 5] (fun q i wr => ∃ j : Nat, j ≤ n ∧ i = .int .i64 j ∧ q = .int .i64 (k + j) ∧ Kept lo hi w wr) (fun _ i _ => n - (intOf i).toNat)
  case atStart => exact ⟨0, by omega, rfl, by simp, Kept.refl _ _ _⟩
  case round =>
    obtain ⟨j, hj, rfl, rfl, hk⟩ := hrel
    have HK := Lib.hid hk
    clear hk
    by_cases hlt : j < n
    · obtain ⟨g, cs, rfl, hlo, hg, hc⟩ := (Hr.out.kept HK.out) (by omega)
      obtain ⟨x0, e0⟩ := hc j hlt
      have c0 : wr.cell? ⟨g, j, none⟩ = some (.int .i64 x0) := (cell_of_blk hg _).trans e0
      have z0 := frozen_of_row wr g j cs 3 hg
      have K1 : Hid (Kept lo hi wr (wr.setCell ⟨g, j, none⟩ (.int .i64 (k + j)))) := Kept.set hg hlo e0 (.inr (.inl ⟨_, _, rfl, rfl⟩))
      clear hg hc e0
      go_wp2_with fail
      go_roundw
      case rel => exact ⟨j + 1, by omega, by go_num, by congr 1; push_cast; omega, HK.out.trans K1.out⟩
      case measure => simp [intOf]; omega
    · have he : j = n := by omega
      have HE := Lib.hid he
      clear he
      go_wp2_with fail
      go_ret
      exact ⟨ret_i64' (by rw [HE.out]), HK.out⟩
set_option maxHeartbeats 1600000 in
theorem markIss_any (A : Option Addr) (l : List (List Int)) (cap lo hi : Nat) (k : Int) (w : World) (hn : wIss l ≤ 1048576) (h0 : 1 ≤ k) (h1 : k + (wIss l : Nat) ≤ 4194304) (hr : SIss w lo hi A l) :
    Calls Try.prog 27 #[.slice A l.length cap, .int .i64 k] w fun e w' => e = .returned (.int .i64 (k + ((l.map List.length).sum : Nat))) ∧ Kept lo hi w w' := by
  have Hr := Lib.hid hr
  have hl : l.length ≤ 1048576 := by unfold wIss at hn; omega
  have hll : (l.map List.length).sum ≤ 1048576 := by unfold wIss at hn; omega
  have hk2 : k + ((l.map List.length).sum : Nat) ≤ 4194304 := by unfold wIss at h1; omega
  clear hr
  go_enter Try.func27, Try.ntmps27
  go_wp2_with fail
  go_loopw [1, 5] (fun q i wr => ∃ j : Nat, j ≤ l.length ∧ i = .int .i64 j ∧ ∃ S : Nat, q = .int .i64 (k + S) ∧ Hid (S = ((l.take j).map List.length).sum) ∧ Kept lo hi w wr) (fun _ i _ => l.length - (intOf i).toNat)
  case atStart => exact ⟨0, by omega, rfl, 0, by simp, by unfold Hid; simp, Kept.refl _ _ _⟩
  case round =>
    obtain ⟨j, hj, rfl, S, rfl, HS, hk⟩ := hrel
    have HK := Lib.hid hk
    clear hk
    by_cases hlt : j < l.length
    · have HT := Lib.hid (isum_succ l j hlt)
      have HL := Lib.hid (isum_le l (j + 1))
      have hSb : (S : Int) + l[j].length ≤ ((l.map List.length).sum : Nat) := by
        have a1 := HT.out; have a2 := HL.out; have a4 := HS.out; omega
      have hlj : l[j].length ≤ 1048576 := by omega
      obtain ⟨g, cs, rfl, hgl, hg, hc⟩ := (Hr.out.kept HK.out) (by omega)
      obtain ⟨A', cp, e0, e3⟩ := hc j hlt
      have c0 := (cell_of_blk hg j).trans e0
      have HSI := Lib.hid e3
      have hi : (j : Int) < (l.length : Int) := by omega
      clear hg hc e0 e3
      go_wp2_with (go_at_call 51; refine (markIs_any _ _ _ _ _ _ _ hlj (by omega) (by omega) HSI.out).mono ?_; rintro e w1 ⟨rfl, hk1⟩)
      go_roundw
      case rel => exact ⟨j + 1, by omega, by go_num, S + l[j].length, by congr 1; push_cast; omega, by unfold Hid; rw [HT.out, HS.out], HK.out.trans hk1⟩
      case measure => simp [intOf]; omega
    · have hi : (l.length : Int) ≤ (j : Int) := by omega
      go_wp2_with fail
      go_ret
      exact ⟨ret_i64' (by rw [HS.out, List.take_of_length_le (by omega)]), HK.out⟩
end Go.Proofs.Ytnfjjabeobcenaa
/-
  An append of no elements to a row of the call's own. No statement is proved here.
-/
namespace Go.Proofs.Ytnfjjabeobcenaa
open Go.RowKit
set_option maxRecDepth 100000
set_option linter.unusedVariables false
theorem run_append_owned_zero {P : Program} {w : World} (base : Nat) (t ty e : TypeId) (i : TypeInfo) (size : Nat) (ht : P.underlying t = some (.slice e)) (hi : P.info? e = some i) (v : Value) (n : Nat) (xs : List Value) (hown : w.ownsRow base e size v n xs) (A : Option Addr) (c : Nat) :
    (Builtin.append_ #[t, t] ty #[v, .slice A 0 c]).run P w = .ok v w := by
  rcases hown.2 with ⟨rfl, rfl⟩ | ⟨g, cap, cur, rfl, _, _, hnc, _⟩
  · cases A <;> simp [Builtin.append_, run_underlying ht, sizeOf, typeInfo, hi, Builtin.lenOf, Builtin.firstCells, loadCells, loadCellsFrom]
  · cases A <;> simp [Builtin.append_, run_underlying ht, sizeOf, typeInfo, hi, Builtin.lenOf, Builtin.firstCells, hnc, storeCells, loadCells, loadCellsFrom]
theorem wpList_append_own_zero {P : Program} {w : World} {ops : Array Oper} {rest : List Oper} {o : Oper} {a : Act} {Q : Exit → Act → World → Prop} (hgd : o.guard = none) (s x : Operand) (t : TypeId)
    (ho : o.op = .call { callee := .builtin .append, args := #[s, x], argTypes := #[t, t] })
    (base : Nat) (e : TypeId) (i : TypeInfo) (size : Nat) (ht : P.underlying t = some (.slice e)) (hi : P.info? e = some i)
    (v : Value) (n : Nat) (xs : List Value) (hs : a.eval s = v) (hown : w.ownsRow base e size v n xs) (A : Option Addr) (c : Nat) (hx : a.eval x = .slice A 0 c)
    (h : wpList P ops Q rest (a.put o.dst v) w) : wpList P ops Q (o :: rest) a w := by
  refine wpList_plain hgd fun K hK => ?_
  have hrun := run_append_owned_zero (P := P) (w := w) base t o.type e i size ht hi v n xs hown A c
  unfold Oper.wp
  simp [execOp, ho, resolve, invoke, builtin, hs, hx, hrun, Result.andThen]
  exact hK _ _ h
theorem wpList_append_own_any {P : Program} {w : World} {ops : Array Oper} {rest : List Oper} {o : Oper} {a : Act} {Q : Exit → Act → World → Prop} (hgd : o.guard = none) (s x : Operand) (t : TypeId)
    (ho : o.op = .call { callee := .builtin .append, args := #[s, x], argTypes := #[t, t] })
    (base : Nat) (e : TypeId) (i : TypeInfo) (z : Value) (size bytes : Nat) (ht : P.underlying t = some (.slice e)) (hi : P.info? e = some i) (hz : i.zero = some z)
    (hsize : i.size = size) (hby : i.bytes = bytes) (hzs : z.cells.size = size) (hsz : 0 < size)
    (v : Value) (n : Nat) (xs : List Value) (hs : a.eval s = v) (hown : w.ownsRow base e size v n xs)
    (A : Option Addr) (m c : Nat) (news : List Value) (hx : a.eval x = .slice A m c) (hl : news.length = m * size) (hnews : 0 < m → ∃ ad, A = some ad ∧ ∀ j u, news[j]? = some u → w.cell? (ad.add j) = some u) (h1 : ∀ u ∈ news, u.oneCell' = true)
    (h63 : n + m ≤ maxLen) (hbytes : (n + m) * bytes ≤ 140737488355328) (hbase : base ≤ w.heap.size)
    (h : ∀ v' w', w'.ownsRow base e size v' (n + m) (xs ++ news) → w.grownBy w' v.ownBlock → (v'.ownBlock = v.ownBlock ∨ v'.ownBlock = some w.heap.size) → wpList P ops Q rest (a.put o.dst v') w') : wpList P ops Q (o :: rest) a w := by
  by_cases hm : 0 < m
  · obtain ⟨ad, rfl, hc⟩ := hnews hm
    exact wpList_append_own_at w hgd s x t ho base e i z size bytes ht hi hz hsize hby hzs hsz v n xs hs hown ad m c news hx hl hc h1 h63 hbytes hbase (fun v' w' a1 a2 _ a4 => h v' w' a1 a2 a4)
  · obtain rfl : m = 0 := by omega
    have hn : news = [] := List.eq_nil_of_length_eq_zero (by omega)
    subst hn
    refine wpList_append_own_zero hgd s x t ho base e i size ht hi v n xs hs hown A c hx (h v w ?_ (World.grownBy.refl _ _) (.inl rfl))
    simpa using hown
end Go.Proofs.Ytnfjjabeobcenaa
