/-
  Values copied into memory of their own. No statement is proved here.
-/
import Derived.Test.YthebdlejoficmacDoorVal
import Derived.Test.YthebdlejoficmacDoorTo
namespace Go.Proofs.YthebdlejoficmacDoor
open Go.RowKit
set_option maxRecDepth 100000
set_option linter.unusedVariables false

theorem FVs.reads : ∀ (d : Nat) {w : World} {lo g : Nat} {l : List Vl}, FVs (d + 1) w lo g l → RVs d w w.heap.size (some ⟨g, 0, none⟩) l
  | d, w, lo, g, l, ⟨h1, h2, cs, h3, h4, h5⟩ => ⟨h2, fun k hk => ⟨g, 0, rfl, heap_lt h3, by
    obtain ⟨g', e0, e1, e2, e3⟩ := h5 k hk
    cases d with
    | zero => exact e3.elim
    | succ d =>
      obtain ⟨q1, q2⟩ := FVs.reads d e3
      exact ⟨_, _, by rw [cell_of_blk h3, Nat.zero_add]; exact e0, by rw [cell_of_blk h3, Nat.zero_add]; exact e1, by rw [cell_of_blk h3, Nat.zero_add]; exact e2, q1, q2⟩⟩⟩

theorem infoVl : (Tryd.prog.info? 37).map (fun i => (i.zero, i.size, i.bytes)) = some (some (.agg #[.int .i64 0, .int .i64 0, .slice none 0 0]), 3, 40) := by kernel_rfl

/-- What the first k rounds of a copy of values have left in the row. -/
def VlRow (d : Nat) (w : World) (lo : Nat) (l : List Vl) (xs : List Value) (k : Nat) : Prop := ∀ j (h : j < l.length), j < k → ∃ g', xs[j * 3]? = some (.int .i64 l[j].ctor) ∧ xs[j * 3 + 1]? = some (.int .i64 l[j].n) ∧ xs[j * 3 + 2]? = some (.slice (some ⟨g', 0, none⟩) l[j].kids.length l[j].kids.length) ∧ FVs d w lo g' l[j].kids
theorem VlRow.zero (d : Nat) (w : World) (lo : Nat) (l : List Vl) (xs : List Value) : VlRow d w lo l xs 0 := fun j _ h => absurd h (by omega)
theorem VlRow.keep {d : Nat} {w w' : World} {lo : Nat} {l : List Vl} {xs : List Value} {k : Nat} (h : VlRow d w lo l xs k) (hk : ∀ b o, lo ≤ b → w.heap[b]? = some o → w'.heap[b]? = w.heap[b]?) : VlRow d w' lo l xs k := by
  intro j hj hjk
  obtain ⟨g, e0, e1, e2, e4⟩ := h j hj hjk
  exact ⟨g, e0, e1, e2, e4.keep d (Nat.le_refl _) hk⟩
theorem VlRow.step {d : Nat} {w : World} {lo : Nat} {l : List Vl} {xs : List Value} {k g : Nat} (h : VlRow d w lo l xs k) (hk : k < l.length) (hx : xs.length = l.length * 3) (hf : FVs d w lo g l[k].kids) :
    VlRow d w lo l (((xs.set (k * 3) (.int .i64 l[k].ctor)).set (k * 3 + 1) (.int .i64 l[k].n)).set (k * 3 + 2) (.slice (some ⟨g, 0, none⟩) l[k].kids.length l[k].kids.length)) (k + 1) := by
  intro j hj hjk
  by_cases e : j = k
  · subst e
    refine ⟨g, ?_, ?_, ?_, hf⟩
    · rw [List.getElem?_set_ne (by omega), List.getElem?_set_ne (by omega), List.getElem?_set_self (by omega)]
    · rw [List.getElem?_set_ne (by omega), List.getElem?_set_self (by simp <;> omega)]
    · rw [List.getElem?_set_self (by simp <;> omega)]
  · have := h j hj (by omega)
    rw [List.getElem?_set_ne (by omega), List.getElem?_set_ne (by omega), List.getElem?_set_ne (by omega), List.getElem?_set_ne (by omega), List.getElem?_set_ne (by omega), List.getElem?_set_ne (by omega), List.getElem?_set_ne (by omega), List.getElem?_set_ne (by omega), List.getElem?_set_ne (by omega)]
    exact this
theorem FVs.of_row {d : Nat} {w : World} {lo g : Nat} {l : List Vl} {xs : List Value} (h : w.ownsRow lo 37 3 (.slice (some ⟨g, 0, none⟩) l.length l.length) l.length xs) (hx : VlRow d w (g + 1) l xs l.length) (hn : l.length ≤ 1048576) : FVs (d + 1) w lo g l := by
  rcases h.2 with ⟨h', _⟩ | ⟨g', cap', cur, h', hb, hg, hnc, hcm, hcs, htake⟩
  · simp at h'
  · simp only [Value.slice.injEq, Option.some.injEq, Addr.mk.injEq, and_true, true_and] at h'
    obtain ⟨rfl, rfl⟩ := h'
    refine ⟨hb, by unfold maxLen; omega, cur, hg, hcs, fun k hk => ?_⟩
    rw [List.take_of_length_le (by rw [Array.length_toList]; omega)] at htake
    rw [← Array.getElem?_toList, ← Array.getElem?_toList, ← Array.getElem?_toList, htake]
    exact hx k hk hk

def ToS (d : Nat) : Prop := ∀ (A : Option Addr) (l : List Vl) (cap : Nat) (w : World), RVs d w w.heap.size A l → wVs l ≤ 1048576 →
  Calls Tryd.prog 18 #[.slice A l.length cap] w fun e w' => ∃ g, e = .returned (.slice (some ⟨g, 0, none⟩) l.length l.length) ∧ FVs (d + 1) w' w.heap.size g l ∧ Below w.heap.size w w'

theorem toV_of {d : Nat} (ih : ToS d) (A : Option Addr) (l : List Vl) (cap : Nat) (c n : Int) (w : World) (hr : RVs d w w.heap.size A l) (hn : wVs l ≤ 1048576) :
    Calls Tryd.prog 9 #[.agg #[.int .i64 c, .int .i64 n, .slice A l.length cap]] w fun e w' => ∃ g, e = .returned (.agg #[.int .i64 c, .int .i64 n, .slice (some ⟨g, 0, none⟩) l.length l.length]) ∧ FVs (d + 1) w' w.heap.size g l ∧ Below w.heap.size w w' := by
  have Hr := Lib.hid hr
  have IH := Lib.hid ih
  clear hr ih
  go_enter Tryd.func9, Tryd.ntmps9
  go_wp2_with (go_at_call 18; refine (IH.out _ _ _ _ (by exact Hr.out.keep (fun p hp => by rw [World.cell?_alloc_lt _ _ _ (by simp <;> omega), World.cell?_alloc_lt _ _ _ (by simp <;> omega), World.cell?_alloc_lt _ _ _ hp]) (by simp <;> omega)) hn).mono ?_; rintro e w1 ⟨g, rfl, hf, hb⟩; obtain ⟨hc, hfz⟩ := bcell hb; have hz : w.heap.size + 2 < w1.heap.size := by have := hb.size; simp at this; omega)
  refine bodyPost_ret (v := .agg #[.int .i64 c, .int .i64 n, .slice (some ⟨g, 0, none⟩) l.length l.length]) (by simp [results, Tryd.results9, go_sem, hc]) rfl ⟨g, rfl, ?_, ?_⟩
  · refine hf.keep _ (by simp <;> omega) (fun b cs hb' _ => ?_)
    simp only [World.size_alloc] at hb'
    repeat rw [Below.heap_setCell _ _ _ _ (by simp <;> omega)]
  · refine Below.setCell ?_ (by simp <;> omega) _
    refine Below.setCell ?_ (by simp <;> omega) _
    refine Below.setCell ?_ (by simp <;> omega) _
    refine Below.setCell ?_ (by simp <;> omega) _
    refine Below.trans ?_ (hb.mono (by simp <;> omega))
    refine Below.alloc (Below.alloc (Below.alloc (Below.refl _ _) ?_ _) ?_ _) ?_ _ <;> simp <;> omega

set_option maxHeartbeats 800000 in
theorem toS_of (d : Nat) (ih : ∀ d', d = d' + 1 → ToS d') : ToS d := by
  intro A l cap w hr hn
  obtain ⟨i0, hi, hz0, hz1, hz2⟩ := info_parts infoVl
  have Hr := Lib.hid hr
  have IH := Lib.hid ih
  have HSum := Lib.hid (wVs_sum l)
  have hl : l.length ≤ 1048576 := by have := wVs_sum l; omega
  clear hr ih
  go_enter Tryd.func18, Tryd.ntmps18
  go_wp2_with (at_make; refine wpList_make_full _ rfl _ _ 35 rfl w.heap.size 37 i0 _ 3 Tryd.underlying35 hi hz0 hz1 _ _ _ _ l.length rfl rfl rfl rfl (by rw [hz2]; omega) (by unfold maxLen; omega) (Nat.le_refl _) ?_; intro w1 hown hgr)
  go_loopw [4] (fun i wr => ∃ k : Nat, k ≤ l.length ∧ i = .int .i64 k ∧ ∃ xs, wr.ownsRow w.heap.size 37 3 (.slice (some ⟨w.heap.size, 0, none⟩) l.length l.length) l.length xs ∧ VlRow d wr (w.heap.size + 1) l xs k ∧ Below w.heap.size w wr) (fun i _ => l.length - (intOf i).toNat)
  case atStart => exact ⟨0, by omega, rfl, _, hown, VlRow.zero _ _ _ _ _, below_of_grown hgr (Nat.le_refl _)⟩
  case round =>
    obtain ⟨k, hk, rfl, xs, hown, hrow, hb⟩ := hrel
    clear hgr hi hz0 hz1 hz2
    by_cases hlt : k < l.length
    · obtain ⟨b, off, rfl, hbB, hv⟩ := (Hr.out.below hb (Nat.le_refl _)).2 k hlt
      obtain ⟨d', hd, A', cp, c0, c1, c2, hm⟩ := hv.parts
      have ha : wVs l[k].kids ≤ 1048576 := by
        have h1 := sum_take_succ wV l k hlt
        have h2 := sum_take_le wV l (k + 1)
        have h3 := wV_kids l[k]
        have h4 := HSum.out
        omega
      have IHd := Lib.hid (IH.out d' hd)
      have Hm := Lib.hid (hm.keep (fun _ _ => rfl) hb.size)
      have HD := Lib.hid hd
      have hwl : w.heap.size < wr.heap.size := own_lt hown
      clear hm hv hd
      go_wp2_with (go_at_call 9; refine (toV_of IHd.out _ _ _ _ _ _ Hm.out ha).mono ?_; rintro e w2 ⟨g, rfl, hf, hb2⟩; have hown2 := own_below hown hb2; obtain ⟨v0, f0⟩ := own_cell hown2 (k * 3) (by omega); obtain ⟨v1, f1⟩ := own_cell hown2 (k * 3 + 1) (by omega); obtain ⟨v2, f2⟩ := own_cell hown2 (k * 3 + 2) (by omega); have g0 := hown2.frozenAt (k * 3); have g1 := hown2.frozenAt (k * 3 + 1); have g2 := hown2.frozenAt (k * 3 + 2))
      have hx := hown2.1
      have s1 := (hown2.stored (k * 3) (.int .i64 l[k].ctor)).1
      have s2 := (s1.stored (k * 3 + 1) (.int .i64 l[k].n)).1
      have s3 := (s2.stored (k * 3 + 2) (.slice (some ⟨g, 0, none⟩) l[k].kids.length l[k].kids.length)).1
      have hrow2 : VlRow d w2 (w.heap.size + 1) l xs k := hrow.keep (fun b cs _ hh => hb2.block b (heap_lt hh))
      have hf2 : FVs d w2 (w.heap.size + 1) g l[k].kids := by rw [HD.out]; exact hf.keep _ (by omega) (fun _ _ _ _ => rfl)
      have hkeep : ∀ b o, w.heap.size + 1 ≤ b → w2.heap[b]? = some o → (((w2.setCell ⟨w.heap.size, k * 3, none⟩ (.int .i64 l[k].ctor)).setCell ⟨w.heap.size, k * 3 + 1, none⟩ (.int .i64 l[k].n)).setCell ⟨w.heap.size, k * 3 + 2, none⟩ (.slice (some ⟨g, 0, none⟩) l[k].kids.length l[k].kids.length)).heap[b]? = w2.heap[b]? := fun b cs hbb hh => by
        have hne : b ≠ w.heap.size := by omega
        rw [Below.heap_setCell _ _ _ _ hne, Below.heap_setCell _ _ _ _ hne, Below.heap_setCell _ _ _ _ hne]
      have hrow3 := (hrow2.step hlt hx hf2).keep hkeep
      go_roundw
      case rel => exact ⟨k + 1, by omega, by go_num, _, s3, hrow3, (((hb.trans (hb2.mono hb.size)).setCell (Nat.le_refl _) _).setCell (Nat.le_refl _) _).setCell (Nat.le_refl _) _⟩
      case measure => simp [intOf]; omega
    · go_wp2_with fail
      go_ret
      exact ⟨_, rfl, FVs.of_row hown (fun j hj _ => hrow j hj (by omega)) hl, hb⟩
theorem toS_any : ∀ d, ToS d
  | 0 => toS_of 0 (fun _ h => by omega)
  | d + 1 => toS_of (d + 1) (fun d' h => (Nat.succ.inj h) ▸ toS_any d)
theorem toV_any (d : Nat) (A : Option Addr) (l : List Vl) (cap : Nat) (c n : Int) (w : World) (hr : RVs d w w.heap.size A l) (hn : wVs l ≤ 1048576) :
    Calls Tryd.prog 9 #[.agg #[.int .i64 c, .int .i64 n, .slice A l.length cap]] w fun e w' => ∃ g, e = .returned (.agg #[.int .i64 c, .int .i64 n, .slice (some ⟨g, 0, none⟩) l.length l.length]) ∧ FVs (d + 1) w' w.heap.size g l ∧ Below w.heap.size w w' := toV_of (toS_any d) A l cap c n w hr hn
end Go.Proofs.YthebdlejoficmacDoor
