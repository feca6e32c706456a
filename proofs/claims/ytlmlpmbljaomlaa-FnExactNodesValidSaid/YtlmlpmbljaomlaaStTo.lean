/-
  The functions that copy into memory of their own. No statement is proved here.
-/
import Derived.Test.YtlmlpmbljaomlaaSt
namespace Go.Proofs.Ytlmlpmbljaomlaa
open Go.RowKit
set_option maxRecDepth 100000
set_option linter.unusedVariables false

theorem bcell {W w1 : World} (hb : Below W.heap.size W w1) : (∀ b o, b < W.heap.size → w1.cell? ⟨b, o, none⟩ = W.cell? ⟨b, o, none⟩) ∧ (∀ b o, b < W.heap.size → w1.frozen? ⟨b, o, none⟩ = W.frozen? ⟨b, o, none⟩) :=
  ⟨fun b o h => hb.cell (p := ⟨b, o, none⟩) h, fun b o h => hb.frozen (p := ⟨b, o, none⟩) h⟩
theorem below_of_grown {B : Nat} {w w' : World} (h : w.grownBy w' none) (hB : B ≤ w.heap.size) : Below B w w' :=
  (Below.refl B w).grown h hB (fun k e => by cases e)
theorem own_below {w w' : World} {base : Nat} {e : TypeId} {size : Nat} {v : Value} {n : Nat} {xs : List Value} (h : w.ownsRow base e size v n xs) (hb : Below w.heap.size w w') : w'.ownsRow base e size v n xs :=
  h.kept (row := none) ⟨hb.os, hb.tape, hb.output, hb.size, fun k hk _ => hb.block k hk⟩ (by
    rcases h.2 with ⟨rfl, _⟩ | ⟨g, cap, cur, rfl, _⟩
    · exact .inl rfl
    · exact .inr (by simp [Value.ownBlock]))
theorem own_cell {w : World} {base : Nat} {e : TypeId} {size g n cap : Nat} {xs : List Value} (h : w.ownsRow base e size (.slice (some ⟨g, 0, none⟩) n cap) n xs) (j : Nat) (hj : j < n * size) : ∃ v, w.cell? ⟨g, j, none⟩ = some v := by
  have hl : j < xs.length := by have := h.1; omega
  exact ⟨xs[j], by rw [h.cellAt j hj]; exact List.getElem?_eq_getElem hl⟩
theorem own_lt {w : World} {base : Nat} {e : TypeId} {size g n cap : Nat} {xs : List Value} (h : w.ownsRow base e size (.slice (some ⟨g, 0, none⟩) n cap) n xs) : g < w.heap.size := (h.lt g rfl).2
theorem heap_lt {w : World} {g : Nat} {o : Obj} (h : w.heap[g]? = some o) : g < w.heap.size := by
  rcases Nat.lt_or_ge g w.heap.size with hlt | hge
  · exact hlt
  · rw [Array.getElem?_eq_none hge] at h; cases h
theorem cell_of_blk {w : World} {g : Nat} {cs : Array Value} {t : TypeId} (h : w.heap[g]? = some (.cells cs t (0, 0))) (i : Nat) : w.cell? ⟨g, i, none⟩ = cs[i]? := cell_of_row w g i cs t (0, 0) h
theorem blk_new (w : World) (o : Obj) : (w.alloc o).heap[w.heap.size]? = some o := by
  unfold World.alloc
  exact Array.getElem?_push_size
theorem blk_alloc {w : World} {b : Nat} {o : Obj} (h : w.heap[b]? = some o) (o' : Obj) : (w.alloc o').heap[b]? = some o := (Below.heap_alloc _ _ _ (heap_lt h)).trans h
theorem free_blk {w : World} {g : Nat} {cs : Array Value} {t : TypeId} (h : w.heap[g]? = some (.cells cs t (0, 0))) (i : Nat) : w.frozen? ⟨g, i, none⟩ = false := frozen_of_row w g i cs t h
theorem blk_set {w : World} {g i : Nat} {cs : Array Value} {t : TypeId} {v : Value} (h : w.heap[g]? = some (.cells cs t (0, 0))) : (w.setCell ⟨g, i, none⟩ v).heap[g]? = some (.cells (cs.setIfInBounds i v) t (0, 0)) := heap_setCell_same w g i cs t v h
theorem blk_far {w : World} {g b i : Nat} {o : Obj} {v : Value} (h : w.heap[b]? = some o) (hne : b ≠ g) : (w.setCell ⟨g, i, none⟩ v).heap[b]? = some o := (Below.heap_setCell _ _ _ _ hne).trans h
def RowIs (l : List Int) (xs : List Value) (k : Nat) : Prop := ∀ j (h : j < l.length), j < k → xs[j]? = some (.int .i64 l[j])
theorem infoI : (Try.prog.info? 3).map (fun i => (i.zero, i.size, i.bytes)) = some (some (.int .i64 0), 1, 8) := by kernel_rfl
set_option maxHeartbeats 800000 in
theorem toIs_any (A : Option Addr) (l : List Int) (cap : Nat) (w : World) (hr : QIs w 0 w.heap.size A l) (hn : l.length ≤ 1048576) :
    Calls Try.prog 20 #[.slice A l.length cap] w fun e w' => ∃ g, e = .returned (.slice (some ⟨g, 0, none⟩) l.length l.length) ∧ QIs w' w.heap.size w'.heap.size (some ⟨g, 0, none⟩) l ∧ Below w.heap.size w w' := by
  obtain ⟨i0, hi, hz0, hz1, hz2⟩ := info_parts infoI
  have Hr := Lib.hid hr
  clear hr
  go_enter Try.func20, Try.ntmps20
  go_wp2_with (at_make; refine wpList_make_full _ rfl _ _ 31 rfl w.heap.size 3 i0 _ 1 Try.underlying31 hi hz0 hz1 _ _ _ _ l.length rfl rfl rfl rfl (by rw [hz2]; omega) (by unfold maxLen; omega) (Nat.le_refl _) ?_; intro w1 hown hgr)
  go_loopw [4] (fun i wr => ∃ k : Nat, k ≤ l.length ∧ i = .int .i64 k ∧ ∃ xs, wr.ownsRow w.heap.size 3 1 (.slice (some ⟨w.heap.size, 0, none⟩) l.length l.length) l.length xs ∧ RowIs l xs k ∧ Below w.heap.size w wr) (fun i _ => l.length - (intOf i).toNat)
  case atStart => exact ⟨0, by omega, rfl, _, hown, fun j _ h => absurd h (by omega), below_of_grown hgr (Nat.le_refl _)⟩
  case round =>
    obtain ⟨k, hk, rfl, xs, hown, hrow, hb⟩ := hrel
    clear hgr hi hz0 hz1 hz2
    by_cases hlt : k < l.length
    · obtain ⟨b, off, rfl, hb0, hbB, c0⟩ := (Hr.out.below hb (Nat.le_refl _)).2 k hlt
      have hi : (k : Int) < (l.length : Int) := by omega
      obtain ⟨v0, f0⟩ := own_cell hown k (by omega)
      have g0 := hown.frozenAt k
      have hx := hown.1
      have s1 := (hown.stored k (.int .i64 l[k])).1
      go_wp2_with fail
      go_roundw
      case rel => exact ⟨k + 1, by omega, by go_num, _, s1, fun j hj hjk => by
        by_cases e : j = k
        · subst e; rw [List.getElem?_set_self (by omega)]
        · rw [List.getElem?_set_ne (by omega)]; exact hrow j hj (by omega), hb.setCell (Nat.le_refl _) _⟩
      case measure => simp [intOf]; omega
    · go_wp2_with fail
      go_ret
      refine ⟨_, rfl, ⟨by unfold maxLen; omega, fun k hk => ⟨_, 0, rfl, Nat.le_refl _, own_lt hown, ?_⟩⟩, hb⟩
      rw [Nat.zero_add, hown.cellAt k (by omega)]
      exact hrow k hk (by omega)
set_option maxHeartbeats 1600000 in
theorem toPb_any (A1 : Option Addr) (c1 : Nat) (x : Pb) (w : World) (q1 : QIs w 0 w.heap.size A1 x.path) (hn : wPb x ≤ 1048576) :
    Calls Try.prog 27 #[.agg #[.int .i64 x.var, .slice A1 x.path.length c1]] w fun e w' => ∃ g1, e = .returned (.agg #[.int .i64 x.var, .slice (some ⟨g1, 0, none⟩) x.path.length x.path.length]) ∧ (QIs w' (w.heap.size + 3) w'.heap.size (some ⟨g1, 0, none⟩) x.path) ∧ Below w.heap.size w w' := by
  have HNW : Hid (x.path.length ≤ 1048576) := by unfold wPb at hn; unfold Hid; omega
  generalize hw0 : ((w.alloc (.cells #[.int .i64 x.var, .slice A1 x.path.length c1] 59)).alloc (.cells #[.int .i64 0, .slice none 0 0] 60)).alloc (.cells #[.int .i64 x.var, .slice none 0 0] 60) = W0
  have hb0 : Below w.heap.size w W0 := by rw [← hw0]; exact (((Below.refl _ _).alloc (Nat.le_refl _) _).alloc (by simp) _).alloc (by simp; omega) _
  have hz0 : W0.heap.size = w.heap.size + 3 := by rw [← hw0]; simp
  have B0 : Hid (W0.heap[w.heap.size]? = some (.cells #[.int .i64 x.var, .slice A1 x.path.length c1] 59 (0, 0))) := by unfold Hid; rw [← hw0]; exact blk_alloc (blk_alloc (blk_new _ _) _) _
  have R0 : Hid (W0.heap[w.heap.size + 1]? = some (.cells #[.int .i64 0, .slice none 0 0] 60 (0, 0))) := by
    have h := blk_alloc (blk_new (w.alloc (.cells #[.int .i64 x.var, .slice A1 x.path.length c1] 59)) (.cells #[.int .i64 0, .slice none 0 0] 60)) (.cells #[.int .i64 x.var, .slice none 0 0] 60)
    rw [World.size_alloc] at h
    unfold Hid; rw [← hw0]; exact h
  have O0 : Hid (W0.heap[w.heap.size + 1 + 1]? = some (.cells #[.int .i64 x.var, .slice none 0 0] 60 (0, 0))) := by
    have h := blk_new ((w.alloc (.cells #[.int .i64 x.var, .slice A1 x.path.length c1] 59)).alloc (.cells #[.int .i64 0, .slice none 0 0] 60)) (.cells #[.int .i64 x.var, .slice none 0 0] 60)
    rw [World.size_alloc, World.size_alloc] at h
    unfold Hid; rw [← hw0]; exact h
  have BW0 := Lib.hid hb0
  have HW0 := Lib.hid hw0
  have hs0 : w.heap.size + 3 ≤ W0.heap.size := by omega
  have S1_0 := Lib.hid (q1.below hb0 (Nat.le_refl _))
  clear hw0 hb0 hz0 hn q1
  go_enter Try.func27, Try.ntmps27
  go_wp2_with fail
  rw [HW0.out]
  refine (toIs_any A1 x.path c1 W0 (S1_0.out.keep (fun _ _ _ => rfl) (Nat.le_refl _) (by omega)) (HNW.out)).mono ?_
  rintro e0 V0 ⟨g1, rfl, hq0, hb0⟩
  have bx0_0 := ((hb0.cell (p := ⟨w.heap.size, 0, none⟩) (heap_lt B0.out)).trans (cell_of_blk B0.out 0)).trans rfl
  have ox0_0 := ((hb0.cell (p := ⟨w.heap.size + 1 + 1, 0, none⟩) (heap_lt O0.out)).trans (cell_of_blk O0.out 0)).trans rfl
  have of0_0 := (hb0.frozen (p := ⟨w.heap.size + 1 + 1, 0, none⟩) (heap_lt O0.out)).trans (free_blk O0.out 0)
  have bx1_0 := ((hb0.cell (p := ⟨w.heap.size, 1, none⟩) (heap_lt B0.out)).trans (cell_of_blk B0.out 1)).trans rfl
  have ox1_0 := ((hb0.cell (p := ⟨w.heap.size + 1 + 1, 1, none⟩) (heap_lt O0.out)).trans (cell_of_blk O0.out 1)).trans rfl
  have of1_0 := (hb0.frozen (p := ⟨w.heap.size + 1 + 1, 1, none⟩) (heap_lt O0.out)).trans (free_blk O0.out 1)
  have rx0 := ((hb0.cell (p := ⟨w.heap.size + 1, 0, none⟩) (heap_lt R0.out)).trans (cell_of_blk R0.out 0)).trans rfl
  have rf0 := (hb0.frozen (p := ⟨w.heap.size + 1, 0, none⟩) (heap_lt R0.out)).trans (free_blk R0.out 0)
  have rx1 := ((hb0.cell (p := ⟨w.heap.size + 1, 1, none⟩) (heap_lt R0.out)).trans (cell_of_blk R0.out 1)).trans rfl
  have rf1 := (hb0.frozen (p := ⟨w.heap.size + 1, 1, none⟩) (heap_lt R0.out)).trans (free_blk R0.out 1)
  have B1v : V0.heap[w.heap.size]? = _ := (hb0.block _ (heap_lt B0.out)).trans B0.out
  have R1v : V0.heap[w.heap.size + 1]? = _ := (hb0.block _ (heap_lt R0.out)).trans R0.out
  have O1v : V0.heap[w.heap.size + 1 + 1]? = _ := (hb0.block _ (heap_lt O0.out)).trans O0.out
  have hbs0 := hb0.size
  have HK0 : ∀ p : Addr, w.heap.size + 3 ≤ p.block → p.block < V0.heap.size → (((V0.setCell ⟨w.heap.size + 1 + 1, 1, none⟩ (.slice (some ⟨g1, 0, none⟩) x.path.length x.path.length)).setCell ⟨w.heap.size + 1, 0, none⟩ (.int .i64 x.var)).setCell ⟨w.heap.size + 1, 1, none⟩ (.slice (some ⟨g1, 0, none⟩) x.path.length x.path.length)).cell? p = V0.cell? p := fun p h1 _ => (World.cell?_setCell_other _ _ _ _ (fun e => by have := congrArg Addr.block e; simp only at this; omega)).trans ((World.cell?_setCell_other _ _ _ _ (fun e => by have := congrArg Addr.block e; simp only at this; omega)).trans ((World.cell?_setCell_other _ _ _ _ (fun e => by have := congrArg Addr.block e; simp only at this; omega)).trans (rfl)))
  have HL0 : ∀ p : Addr, p.block < w.heap.size → (((V0.setCell ⟨w.heap.size + 1 + 1, 1, none⟩ (.slice (some ⟨g1, 0, none⟩) x.path.length x.path.length)).setCell ⟨w.heap.size + 1, 0, none⟩ (.int .i64 x.var)).setCell ⟨w.heap.size + 1, 1, none⟩ (.slice (some ⟨g1, 0, none⟩) x.path.length x.path.length)).cell? p = V0.cell? p := fun p h1 => (World.cell?_setCell_other _ _ _ _ (fun e => by have := congrArg Addr.block e; simp only at this; omega)).trans ((World.cell?_setCell_other _ _ _ _ (fun e => by have := congrArg Addr.block e; simp only at this; omega)).trans ((World.cell?_setCell_other _ _ _ _ (fun e => by have := congrArg Addr.block e; simp only at this; omega)).trans (rfl)))
  have hsz0 : (((V0.setCell ⟨w.heap.size + 1 + 1, 1, none⟩ (.slice (some ⟨g1, 0, none⟩) x.path.length x.path.length)).setCell ⟨w.heap.size + 1, 0, none⟩ (.int .i64 x.var)).setCell ⟨w.heap.size + 1, 1, none⟩ (.slice (some ⟨g1, 0, none⟩) x.path.length x.path.length)).heap.size = V0.heap.size := by simp [World.setCell]
  generalize hw1 : (((V0.setCell ⟨w.heap.size + 1 + 1, 1, none⟩ (.slice (some ⟨g1, 0, none⟩) x.path.length x.path.length)).setCell ⟨w.heap.size + 1, 0, none⟩ (.int .i64 x.var)).setCell ⟨w.heap.size + 1, 1, none⟩ (.slice (some ⟨g1, 0, none⟩) x.path.length x.path.length)) = W1 at HK0 HL0 hsz0
  have B1 : Hid (W1.heap[w.heap.size]? = some (.cells #[.int .i64 x.var, .slice A1 x.path.length c1] 59 (0, 0))) := by unfold Hid; rw [← hw1]; exact (blk_far (blk_far (blk_far B1v (by omega)) (by omega)) (by omega))
  have R1 : Hid (W1.heap[w.heap.size + 1]? = some (.cells #[.int .i64 x.var, .slice (some ⟨g1, 0, none⟩) x.path.length x.path.length] 60 (0, 0))) := by unfold Hid; rw [← hw1]; exact ((blk_set (i := 1) (blk_set (i := 0) (blk_far R1v (by omega))))).trans rfl
  have O1 : Hid (W1.heap[w.heap.size + 1 + 1]? = some (.cells #[.int .i64 x.var, .slice (some ⟨g1, 0, none⟩) x.path.length x.path.length] 60 (0, 0))) := by unfold Hid; rw [← hw1]; exact ((blk_far (blk_far (blk_set (i := 1) O1v) (by omega)) (by omega))).trans rfl
  have BW1 : Hid (Below w.heap.size w W1) := by unfold Hid; rw [← hw1]; exact ((((below_aft' BW0.out hb0 BW0.out.size).setCell (by (try simp) <;> omega) _).setCell (by (try simp) <;> omega) _).setCell (by (try simp) <;> omega) _)
  have hs1 : w.heap.size + 3 ≤ W1.heap.size := by omega
  have G1_1 : Hid (QIs W1 (w.heap.size + 3) W1.heap.size (some ⟨g1, 0, none⟩) x.path) := (hq0.low hs0).keep HK0 (Nat.le_refl _) (by omega)
  have HW1 := Lib.hid hw1
  clear hw1 HK0 HL0 hb0 hq0 hsz0 B1v R1v O1v
  have z0 := (cell_of_blk R1.out 0).trans rfl
  have z1 := (cell_of_blk R1.out 1).trans rfl
  go_wp2_with fail
  rw [HW1.out]
  exact bodyPost_ret (v := .agg #[.int .i64 x.var, .slice (some ⟨g1, 0, none⟩) x.path.length x.path.length]) (by simp [results, Try.results27, go_sem, z0, z1]) rfl ⟨g1, rfl, G1_1.out, BW1.out⟩
theorem infoPb : (Try.prog.info? 60).map (fun i => (i.zero, i.size, i.bytes)) = some (some (.agg #[.int .i64 0, .slice none 0 0]), 2, 32) := by kernel_rfl
def RowPb (w : World) (lo B : Nat) (l : List Pb) (xs : List Value) (k : Nat) : Prop := ∀ j (h : j < l.length), j < k → ∃ (A1 : Option Addr) (c1 : Nat), xs[j * 2]? = some (.int .i64 l[j].var) ∧ xs[j * 2 + 1]? = some (.slice A1 l[j].path.length c1) ∧ QIs w lo B A1 l[j].path
theorem RowPb.keep {w w' : World} {lo B B' : Nat} {l : List Pb} {xs : List Value} {k : Nat} (h : RowPb w lo B l xs k) (hk : ∀ p : Addr, lo ≤ p.block → p.block < B → w'.cell? p = w.cell? p) (hB : B ≤ B') : RowPb w' lo B' l xs k := fun j hj hjk => by
  obtain ⟨A1, c1, e0, e1, s1⟩ := h j hj hjk
  exact ⟨A1, c1, e0, e1, s1.keep hk (Nat.le_refl _) hB⟩
theorem RowPb.step {w : World} {lo B : Nat} {l : List Pb} {xs : List Value} {k : Nat} (g1 : Nat) (h : RowPb w lo B l xs k) (hk : k < l.length) (hx : xs.length = l.length * 2) (q1 : QIs w lo B (some ⟨g1, 0, none⟩) l[k].path) : RowPb w lo B l ((xs.set (k * 2) (.int .i64 l[k].var)).set (k * 2 + 1) (.slice (some ⟨g1, 0, none⟩) l[k].path.length l[k].path.length)) (k + 1) := by
  intro j hj hjk
  by_cases e : j = k
  · subst e
    refine ⟨some ⟨g1, 0, none⟩, l[j].path.length, ?_, ?_, q1⟩
    · rw [List.getElem?_set_ne (by omega), List.getElem?_set_self (by (try simp only [List.length_set]); omega)]
    · rw [List.getElem?_set_self (by (try simp only [List.length_set]); omega)]
  · obtain ⟨A1, c1, e0, e1, s1⟩ := h j hj (by omega)
    refine ⟨A1, c1, ?_, ?_, s1⟩
    · rw [List.getElem?_set_ne (by omega), List.getElem?_set_ne (by omega)]; exact e0
    · rw [List.getElem?_set_ne (by omega), List.getElem?_set_ne (by omega)]; exact e1
set_option maxHeartbeats 1600000 in
theorem toPbs_any (A : Option Addr) (l : List Pb) (cap : Nat) (w : World) (hr : QPbs w 0 w.heap.size A l) (hn : wPbs l ≤ 1048576) :
    Calls Try.prog 19 #[.slice A l.length cap] w fun e w' => ∃ g, e = .returned (.slice (some ⟨g, 0, none⟩) l.length l.length) ∧ QPbs w' w.heap.size w'.heap.size (some ⟨g, 0, none⟩) l ∧ Below w.heap.size w w' := by
  obtain ⟨i0, hi, hz0, hz1, hz2⟩ := info_parts infoPb
  have Hr := Lib.hid hr
  clear hr
  have hl : l.length ≤ 1048576 := by unfold wPbs at hn; omega
  go_enter Try.func19, Try.ntmps19
  go_wp2_with (at_make; refine wpList_make_full _ rfl _ _ 35 rfl w.heap.size 60 i0 _ 2 Try.underlying35 hi hz0 hz1 _ _ _ _ l.length rfl rfl rfl rfl (by rw [hz2]; omega) (by unfold maxLen; omega) (Nat.le_refl _) ?_; intro w1 hown hgr)
  go_loopw [4] (fun i wr => ∃ k : Nat, k ≤ l.length ∧ i = .int .i64 k ∧ ∃ xs, wr.ownsRow w.heap.size 60 2 (.slice (some ⟨w.heap.size, 0, none⟩) l.length l.length) l.length xs ∧ RowPb wr (w.heap.size + 1) wr.heap.size l xs k ∧ Below w.heap.size w wr) (fun i _ => l.length - (intOf i).toNat)
  case atStart => exact ⟨0, by omega, rfl, _, hown, fun j _ h => absurd h (by omega), below_of_grown hgr (Nat.le_refl _)⟩
  case round =>
    obtain ⟨k, hk, rfl, xs, hown, hrow, hb⟩ := hrel
    clear hgr hi hz0 hz1 hz2
    by_cases hlt : k < l.length
    · obtain ⟨b, off, rfl, hb0, hbB, A1, c1, x0, x1, s1⟩ := (Hr.out.below hb (Nat.le_refl _)).2 k hlt
      have hi : (k : Int) < (l.length : Int) := by omega
      have hgw := own_lt hown
      have ha : wPb l[k] ≤ 1048576 := by
        have h1 := sum_take_succ wPb l k hlt
        have h2 := sum_take_le wPb l (k + 1)
        unfold wPbs at hn; omega
      have S1 := Lib.hid (s1.keep (fun _ _ _ => rfl) (Nat.le_refl _) hb.size)
      clear s1
      go_wp2_with fail
      refine (toPb_any A1 c1 l[k] wr S1.out ha).mono ?_
      rintro e w2 ⟨g1, rfl, q1, hb2⟩
      have hown2 := own_below hown hb2
      have hx := hown2.1
      have hs2 := hb2.size
      have hbs := hb.size
      obtain ⟨v0, f0⟩ := own_cell hown2 (k * 2) (by omega)
      have u0 := hown2.frozenAt (k * 2)
      obtain ⟨v1, f1⟩ := own_cell hown2 (k * 2 + 1) (by omega)
      have u1 := hown2.frozenAt (k * 2 + 1)
      have t0 := (hown2.stored (k * 2) (.int .i64 l[k].var)).1
      have t1 := (t0.stored (k * 2 + 1) (.slice (some ⟨g1, 0, none⟩) l[k].path.length l[k].path.length)).1
      have hrow2 : RowPb w2 (w.heap.size + 1) w2.heap.size l xs k := hrow.keep (fun p _ hp => hb2.cell hp) hs2
      have hrow3 := hrow2.step g1 hlt hx (q1.low (by omega))
      have hkp : ∀ p : Addr, w.heap.size + 1 ≤ p.block → p.block < w2.heap.size → ((w2.setCell ⟨w.heap.size, k * 2, none⟩ (.int .i64 l[k].var)).setCell ⟨w.heap.size, k * 2 + 1, none⟩ (.slice (some ⟨g1, 0, none⟩) l[k].path.length l[k].path.length)).cell? p = w2.cell? p := fun p h1 _ => (World.cell?_setCell_other _ _ _ _ (fun e => by have := congrArg Addr.block e; simp only at this; omega)).trans ((World.cell?_setCell_other _ _ _ _ (fun e => by have := congrArg Addr.block e; simp only at this; omega)).trans (rfl))
      have hrow4 := hrow3.keep (B' := ((w2.setCell ⟨w.heap.size, k * 2, none⟩ (.int .i64 l[k].var)).setCell ⟨w.heap.size, k * 2 + 1, none⟩ (.slice (some ⟨g1, 0, none⟩) l[k].path.length l[k].path.length)).heap.size) hkp (by simp [World.setCell])
      go_wp2_with fail
      go_roundw
      case rel => exact ⟨k + 1, by omega, by go_num, _, t1, hrow4, (((hb.trans (hb2.mono hb.size)).setCell (Nat.le_refl _) _).setCell (Nat.le_refl _) _)⟩
      case measure => simp [intOf]; omega
    · go_wp2_with fail
      go_ret
      refine ⟨_, rfl, ⟨by unfold maxLen; omega, fun k hk => ⟨_, 0, rfl, Nat.le_refl _, own_lt hown, ?_⟩⟩, hb⟩
      obtain ⟨A1, c1, e0, e1, s1⟩ := hrow k hk (by omega)
      rw [Nat.zero_add]
      exact ⟨A1, c1, (hown.cellAt _ (by omega)).trans e0, (hown.cellAt _ (by omega)).trans e1, s1.low (by omega)⟩
theorem toEg_any (x : Eg) (w : World) :
    Calls Try.prog 28 #[.agg #[.int .i64 x.ctor, .int .i64 x.n, .int .i64 x.m, .int .i64 x.to]] w fun e w' => e = .returned (.agg #[.int .i64 x.ctor, .int .i64 x.n, .int .i64 x.m, .int .i64 x.to]) ∧ Below w.heap.size w w' := by
  go_enter Try.func28, Try.ntmps28
  go_wp2
  refine bodyPost_ret (v := .agg #[.int .i64 x.ctor, .int .i64 x.n, .int .i64 x.m, .int .i64 x.to]) (by simp [results, Try.results28, go_sem]) rfl ⟨rfl, ?_⟩
  exact (((Below.refl _ _).alloc (Nat.le_refl _) _).alloc (by simp) _).alloc (by simp; omega) _
theorem infoEg : (Try.prog.info? 41).map (fun i => (i.zero, i.size, i.bytes)) = some (some (.agg #[.int .i64 0, .int .i64 0, .int .i64 0, .int .i64 0]), 4, 32) := by kernel_rfl
def RowEg (w : World) (lo B : Nat) (l : List Eg) (xs : List Value) (k : Nat) : Prop := ∀ j (h : j < l.length), j < k → xs[j * 4]? = some (.int .i64 l[j].ctor) ∧ xs[j * 4 + 1]? = some (.int .i64 l[j].n) ∧ xs[j * 4 + 2]? = some (.int .i64 l[j].m) ∧ xs[j * 4 + 3]? = some (.int .i64 l[j].to)
theorem RowEg.keep {w w' : World} {lo B B' : Nat} {l : List Eg} {xs : List Value} {k : Nat} (h : RowEg w lo B l xs k) (hk : ∀ p : Addr, lo ≤ p.block → p.block < B → w'.cell? p = w.cell? p) (hB : B ≤ B') : RowEg w' lo B' l xs k := fun j hj hjk => by
  obtain ⟨e0, e1, e2, e3⟩ := h j hj hjk
  exact ⟨e0, e1, e2, e3⟩
theorem RowEg.step {w : World} {lo B : Nat} {l : List Eg} {xs : List Value} {k : Nat}  (h : RowEg w lo B l xs k) (hk : k < l.length) (hx : xs.length = l.length * 4)  : RowEg w lo B l ((((xs.set (k * 4) (.int .i64 l[k].ctor)).set (k * 4 + 1) (.int .i64 l[k].n)).set (k * 4 + 2) (.int .i64 l[k].m)).set (k * 4 + 3) (.int .i64 l[k].to)) (k + 1) := by
  intro j hj hjk
  by_cases e : j = k
  · subst e
    refine ⟨?_, ?_, ?_, ?_⟩
    · rw [List.getElem?_set_ne (by omega), List.getElem?_set_ne (by omega), List.getElem?_set_ne (by omega), List.getElem?_set_self (by (try simp only [List.length_set]); omega)]
    · rw [List.getElem?_set_ne (by omega), List.getElem?_set_ne (by omega), List.getElem?_set_self (by (try simp only [List.length_set]); omega)]
    · rw [List.getElem?_set_ne (by omega), List.getElem?_set_self (by (try simp only [List.length_set]); omega)]
    · rw [List.getElem?_set_self (by (try simp only [List.length_set]); omega)]
  · obtain ⟨e0, e1, e2, e3⟩ := h j hj (by omega)
    refine ⟨?_, ?_, ?_, ?_⟩
    · rw [List.getElem?_set_ne (by omega), List.getElem?_set_ne (by omega), List.getElem?_set_ne (by omega), List.getElem?_set_ne (by omega)]; exact e0
    · rw [List.getElem?_set_ne (by omega), List.getElem?_set_ne (by omega), List.getElem?_set_ne (by omega), List.getElem?_set_ne (by omega)]; exact e1
    · rw [List.getElem?_set_ne (by omega), List.getElem?_set_ne (by omega), List.getElem?_set_ne (by omega), List.getElem?_set_ne (by omega)]; exact e2
    · rw [List.getElem?_set_ne (by omega), List.getElem?_set_ne (by omega), List.getElem?_set_ne (by omega), List.getElem?_set_ne (by omega)]; exact e3
set_option maxHeartbeats 1600000 in
theorem toEgs_any (A : Option Addr) (l : List Eg) (cap : Nat) (w : World) (hr : QEgs w 0 w.heap.size A l) (hn : l.length ≤ 1048576) :
    Calls Try.prog 21 #[.slice A l.length cap] w fun e w' => ∃ g, e = .returned (.slice (some ⟨g, 0, none⟩) l.length l.length) ∧ QEgs w' w.heap.size w'.heap.size (some ⟨g, 0, none⟩) l ∧ Below w.heap.size w w' := by
  obtain ⟨i0, hi, hz0, hz1, hz2⟩ := info_parts infoEg
  have Hr := Lib.hid hr
  clear hr
  have hl : l.length ≤ 1048576 := by omega
  go_enter Try.func21, Try.ntmps21
  go_wp2_with (at_make; refine wpList_make_full _ rfl _ _ 36 rfl w.heap.size 41 i0 _ 4 Try.underlying36 hi hz0 hz1 _ _ _ _ l.length rfl rfl rfl rfl (by rw [hz2]; omega) (by unfold maxLen; omega) (Nat.le_refl _) ?_; intro w1 hown hgr)
  go_loopw [4] (fun i wr => ∃ k : Nat, k ≤ l.length ∧ i = .int .i64 k ∧ ∃ xs, wr.ownsRow w.heap.size 41 4 (.slice (some ⟨w.heap.size, 0, none⟩) l.length l.length) l.length xs ∧ RowEg wr (w.heap.size + 1) wr.heap.size l xs k ∧ Below w.heap.size w wr) (fun i _ => l.length - (intOf i).toNat)
  case atStart => exact ⟨0, by omega, rfl, _, hown, fun j _ h => absurd h (by omega), below_of_grown hgr (Nat.le_refl _)⟩
  case round =>
    obtain ⟨k, hk, rfl, xs, hown, hrow, hb⟩ := hrel
    clear hgr hi hz0 hz1 hz2
    by_cases hlt : k < l.length
    · obtain ⟨b, off, rfl, hb0, hbB, x0, x1, x2, x3⟩ := (Hr.out.below hb (Nat.le_refl _)).2 k hlt
      have hi : (k : Int) < (l.length : Int) := by omega
      have hgw := own_lt hown
      go_wp2_with fail
      refine (toEg_any l[k] wr).mono ?_
      rintro e w2 ⟨rfl, hb2⟩
      have hown2 := own_below hown hb2
      have hx := hown2.1
      have hs2 := hb2.size
      have hbs := hb.size
      obtain ⟨v0, f0⟩ := own_cell hown2 (k * 4) (by omega)
      have u0 := hown2.frozenAt (k * 4)
      obtain ⟨v1, f1⟩ := own_cell hown2 (k * 4 + 1) (by omega)
      have u1 := hown2.frozenAt (k * 4 + 1)
      obtain ⟨v2, f2⟩ := own_cell hown2 (k * 4 + 2) (by omega)
      have u2 := hown2.frozenAt (k * 4 + 2)
      obtain ⟨v3, f3⟩ := own_cell hown2 (k * 4 + 3) (by omega)
      have u3 := hown2.frozenAt (k * 4 + 3)
      have t0 := (hown2.stored (k * 4) (.int .i64 l[k].ctor)).1
      have t1 := (t0.stored (k * 4 + 1) (.int .i64 l[k].n)).1
      have t2 := (t1.stored (k * 4 + 2) (.int .i64 l[k].m)).1
      have t3 := (t2.stored (k * 4 + 3) (.int .i64 l[k].to)).1
      have hrow2 : RowEg w2 (w.heap.size + 1) w2.heap.size l xs k := hrow.keep (fun p _ hp => hb2.cell hp) hs2
      have hrow3 := hrow2.step  hlt hx 
      have hkp : ∀ p : Addr, w.heap.size + 1 ≤ p.block → p.block < w2.heap.size → ((((w2.setCell ⟨w.heap.size, k * 4, none⟩ (.int .i64 l[k].ctor)).setCell ⟨w.heap.size, k * 4 + 1, none⟩ (.int .i64 l[k].n)).setCell ⟨w.heap.size, k * 4 + 2, none⟩ (.int .i64 l[k].m)).setCell ⟨w.heap.size, k * 4 + 3, none⟩ (.int .i64 l[k].to)).cell? p = w2.cell? p := fun p h1 _ => (World.cell?_setCell_other _ _ _ _ (fun e => by have := congrArg Addr.block e; simp only at this; omega)).trans ((World.cell?_setCell_other _ _ _ _ (fun e => by have := congrArg Addr.block e; simp only at this; omega)).trans ((World.cell?_setCell_other _ _ _ _ (fun e => by have := congrArg Addr.block e; simp only at this; omega)).trans ((World.cell?_setCell_other _ _ _ _ (fun e => by have := congrArg Addr.block e; simp only at this; omega)).trans (rfl))))
      have hrow4 := hrow3.keep (B' := ((((w2.setCell ⟨w.heap.size, k * 4, none⟩ (.int .i64 l[k].ctor)).setCell ⟨w.heap.size, k * 4 + 1, none⟩ (.int .i64 l[k].n)).setCell ⟨w.heap.size, k * 4 + 2, none⟩ (.int .i64 l[k].m)).setCell ⟨w.heap.size, k * 4 + 3, none⟩ (.int .i64 l[k].to)).heap.size) hkp (by simp [World.setCell])
      go_wp2_with fail
      go_roundw
      case rel => exact ⟨k + 1, by omega, by go_num, _, t3, hrow4, (((((hb.trans (hb2.mono hb.size)).setCell (Nat.le_refl _) _).setCell (Nat.le_refl _) _).setCell (Nat.le_refl _) _).setCell (Nat.le_refl _) _)⟩
      case measure => simp [intOf]; omega
    · go_wp2_with fail
      go_ret
      refine ⟨_, rfl, ⟨by unfold maxLen; omega, fun k hk => ⟨_, 0, rfl, Nat.le_refl _, own_lt hown, ?_⟩⟩, hb⟩
      obtain ⟨e0, e1, e2, e3⟩ := hrow k hk (by omega)
      rw [Nat.zero_add]
      exact ⟨(hown.cellAt _ (by omega)).trans e0, (hown.cellAt _ (by omega)).trans e1, (hown.cellAt _ (by omega)).trans e2, (hown.cellAt _ (by omega)).trans e3⟩
set_option maxHeartbeats 1600000 in
theorem toNd_any (A2 : Option Addr) (c2 : Nat) (A3 : Option Addr) (c3 : Nat) (A4 : Option Addr) (c4 : Nat) (x : Nd) (w : World) (q2 : QPbs w 0 w.heap.size A2 x.binds) (q3 : QIs w 0 w.heap.size A3 x.path) (q4 : QEgs w 0 w.heap.size A4 x.edges) (hn : wNd x ≤ 1048576) :
    Calls Try.prog 11 #[.agg #[.int .i64 x.op, .int .i64 x.clause, .slice A2 x.binds.length c2, .slice A3 x.path.length c3, .slice A4 x.edges.length c4, .int .i64 x.els]] w fun e w' => ∃ g2 g3 g4, e = .returned (.agg #[.int .i64 x.op, .int .i64 x.clause, .slice (some ⟨g2, 0, none⟩) x.binds.length x.binds.length, .slice (some ⟨g3, 0, none⟩) x.path.length x.path.length, .slice (some ⟨g4, 0, none⟩) x.edges.length x.edges.length, .int .i64 x.els]) ∧ (QPbs w' (w.heap.size + 3) w'.heap.size (some ⟨g2, 0, none⟩) x.binds ∧ QIs w' (w.heap.size + 3) w'.heap.size (some ⟨g3, 0, none⟩) x.path ∧ QEgs w' (w.heap.size + 3) w'.heap.size (some ⟨g4, 0, none⟩) x.edges) ∧ Below w.heap.size w w' := by
  have HNW : Hid (wPbs x.binds ≤ 1048576 ∧ x.path.length ≤ 1048576 ∧ x.edges.length ≤ 1048576) := by unfold wNd at hn; unfold Hid; omega
  generalize hw0 : ((w.alloc (.cells #[.int .i64 x.op, .int .i64 x.clause, .slice A2 x.binds.length c2, .slice A3 x.path.length c3, .slice A4 x.edges.length c4, .int .i64 x.els] 34)).alloc (.cells #[.int .i64 0, .int .i64 0, .slice none 0 0, .slice none 0 0, .slice none 0 0, .int .i64 0] 38)).alloc (.cells #[.int .i64 x.op, .int .i64 x.clause, .slice none 0 0, .slice none 0 0, .slice none 0 0, .int .i64 0] 38) = W0
  have hb0 : Below w.heap.size w W0 := by rw [← hw0]; exact (((Below.refl _ _).alloc (Nat.le_refl _) _).alloc (by simp) _).alloc (by simp; omega) _
  have hz0 : W0.heap.size = w.heap.size + 3 := by rw [← hw0]; simp
  have B0 : Hid (W0.heap[w.heap.size]? = some (.cells #[.int .i64 x.op, .int .i64 x.clause, .slice A2 x.binds.length c2, .slice A3 x.path.length c3, .slice A4 x.edges.length c4, .int .i64 x.els] 34 (0, 0))) := by unfold Hid; rw [← hw0]; exact blk_alloc (blk_alloc (blk_new _ _) _) _
  have R0 : Hid (W0.heap[w.heap.size + 1]? = some (.cells #[.int .i64 0, .int .i64 0, .slice none 0 0, .slice none 0 0, .slice none 0 0, .int .i64 0] 38 (0, 0))) := by
    have h := blk_alloc (blk_new (w.alloc (.cells #[.int .i64 x.op, .int .i64 x.clause, .slice A2 x.binds.length c2, .slice A3 x.path.length c3, .slice A4 x.edges.length c4, .int .i64 x.els] 34)) (.cells #[.int .i64 0, .int .i64 0, .slice none 0 0, .slice none 0 0, .slice none 0 0, .int .i64 0] 38)) (.cells #[.int .i64 x.op, .int .i64 x.clause, .slice none 0 0, .slice none 0 0, .slice none 0 0, .int .i64 0] 38)
    rw [World.size_alloc] at h
    unfold Hid; rw [← hw0]; exact h
  have O0 : Hid (W0.heap[w.heap.size + 1 + 1]? = some (.cells #[.int .i64 x.op, .int .i64 x.clause, .slice none 0 0, .slice none 0 0, .slice none 0 0, .int .i64 0] 38 (0, 0))) := by
    have h := blk_new ((w.alloc (.cells #[.int .i64 x.op, .int .i64 x.clause, .slice A2 x.binds.length c2, .slice A3 x.path.length c3, .slice A4 x.edges.length c4, .int .i64 x.els] 34)).alloc (.cells #[.int .i64 0, .int .i64 0, .slice none 0 0, .slice none 0 0, .slice none 0 0, .int .i64 0] 38)) (.cells #[.int .i64 x.op, .int .i64 x.clause, .slice none 0 0, .slice none 0 0, .slice none 0 0, .int .i64 0] 38)
    rw [World.size_alloc, World.size_alloc] at h
    unfold Hid; rw [← hw0]; exact h
  have BW0 := Lib.hid hb0
  have HW0 := Lib.hid hw0
  have hs0 : w.heap.size + 3 ≤ W0.heap.size := by omega
  have S2_0 := Lib.hid (q2.below hb0 (Nat.le_refl _))
  have S3_0 := Lib.hid (q3.below hb0 (Nat.le_refl _))
  have S4_0 := Lib.hid (q4.below hb0 (Nat.le_refl _))
  clear hw0 hb0 hz0 hn q2 q3 q4
  go_enter Try.func11, Try.ntmps11
  go_wp2_with fail
  rw [HW0.out]
  refine (toPbs_any A2 x.binds c2 W0 (S2_0.out.keep (fun _ _ _ => rfl) (Nat.le_refl _) (by omega)) (HNW.out.1)).mono ?_
  rintro e0 V0 ⟨g2, rfl, hq0, hb0⟩
  have bx0_0 := ((hb0.cell (p := ⟨w.heap.size, 0, none⟩) (heap_lt B0.out)).trans (cell_of_blk B0.out 0)).trans rfl
  have ox0_0 := ((hb0.cell (p := ⟨w.heap.size + 1 + 1, 0, none⟩) (heap_lt O0.out)).trans (cell_of_blk O0.out 0)).trans rfl
  have of0_0 := (hb0.frozen (p := ⟨w.heap.size + 1 + 1, 0, none⟩) (heap_lt O0.out)).trans (free_blk O0.out 0)
  have bx1_0 := ((hb0.cell (p := ⟨w.heap.size, 1, none⟩) (heap_lt B0.out)).trans (cell_of_blk B0.out 1)).trans rfl
  have ox1_0 := ((hb0.cell (p := ⟨w.heap.size + 1 + 1, 1, none⟩) (heap_lt O0.out)).trans (cell_of_blk O0.out 1)).trans rfl
  have of1_0 := (hb0.frozen (p := ⟨w.heap.size + 1 + 1, 1, none⟩) (heap_lt O0.out)).trans (free_blk O0.out 1)
  have bx2_0 := ((hb0.cell (p := ⟨w.heap.size, 2, none⟩) (heap_lt B0.out)).trans (cell_of_blk B0.out 2)).trans rfl
  have ox2_0 := ((hb0.cell (p := ⟨w.heap.size + 1 + 1, 2, none⟩) (heap_lt O0.out)).trans (cell_of_blk O0.out 2)).trans rfl
  have of2_0 := (hb0.frozen (p := ⟨w.heap.size + 1 + 1, 2, none⟩) (heap_lt O0.out)).trans (free_blk O0.out 2)
  have bx3_0 := ((hb0.cell (p := ⟨w.heap.size, 3, none⟩) (heap_lt B0.out)).trans (cell_of_blk B0.out 3)).trans rfl
  have ox3_0 := ((hb0.cell (p := ⟨w.heap.size + 1 + 1, 3, none⟩) (heap_lt O0.out)).trans (cell_of_blk O0.out 3)).trans rfl
  have of3_0 := (hb0.frozen (p := ⟨w.heap.size + 1 + 1, 3, none⟩) (heap_lt O0.out)).trans (free_blk O0.out 3)
  have bx4_0 := ((hb0.cell (p := ⟨w.heap.size, 4, none⟩) (heap_lt B0.out)).trans (cell_of_blk B0.out 4)).trans rfl
  have ox4_0 := ((hb0.cell (p := ⟨w.heap.size + 1 + 1, 4, none⟩) (heap_lt O0.out)).trans (cell_of_blk O0.out 4)).trans rfl
  have of4_0 := (hb0.frozen (p := ⟨w.heap.size + 1 + 1, 4, none⟩) (heap_lt O0.out)).trans (free_blk O0.out 4)
  have bx5_0 := ((hb0.cell (p := ⟨w.heap.size, 5, none⟩) (heap_lt B0.out)).trans (cell_of_blk B0.out 5)).trans rfl
  have ox5_0 := ((hb0.cell (p := ⟨w.heap.size + 1 + 1, 5, none⟩) (heap_lt O0.out)).trans (cell_of_blk O0.out 5)).trans rfl
  have of5_0 := (hb0.frozen (p := ⟨w.heap.size + 1 + 1, 5, none⟩) (heap_lt O0.out)).trans (free_blk O0.out 5)
  have B1v : V0.heap[w.heap.size]? = _ := (hb0.block _ (heap_lt B0.out)).trans B0.out
  have R1v : V0.heap[w.heap.size + 1]? = _ := (hb0.block _ (heap_lt R0.out)).trans R0.out
  have O1v : V0.heap[w.heap.size + 1 + 1]? = _ := (hb0.block _ (heap_lt O0.out)).trans O0.out
  have hbs0 := hb0.size
  have HK0 : ∀ p : Addr, w.heap.size + 3 ≤ p.block → p.block < V0.heap.size → (V0.setCell ⟨w.heap.size + 1 + 1, 2, none⟩ (.slice (some ⟨g2, 0, none⟩) x.binds.length x.binds.length)).cell? p = V0.cell? p := fun p h1 _ => (World.cell?_setCell_other _ _ _ _ (fun e => by have := congrArg Addr.block e; simp only at this; omega)).trans (rfl)
  have HL0 : ∀ p : Addr, p.block < w.heap.size → (V0.setCell ⟨w.heap.size + 1 + 1, 2, none⟩ (.slice (some ⟨g2, 0, none⟩) x.binds.length x.binds.length)).cell? p = V0.cell? p := fun p h1 => (World.cell?_setCell_other _ _ _ _ (fun e => by have := congrArg Addr.block e; simp only at this; omega)).trans (rfl)
  have hsz0 : (V0.setCell ⟨w.heap.size + 1 + 1, 2, none⟩ (.slice (some ⟨g2, 0, none⟩) x.binds.length x.binds.length)).heap.size = V0.heap.size := by simp [World.setCell]
  generalize hw1 : (V0.setCell ⟨w.heap.size + 1 + 1, 2, none⟩ (.slice (some ⟨g2, 0, none⟩) x.binds.length x.binds.length)) = W1 at HK0 HL0 hsz0
  have B1 : Hid (W1.heap[w.heap.size]? = some (.cells #[.int .i64 x.op, .int .i64 x.clause, .slice A2 x.binds.length c2, .slice A3 x.path.length c3, .slice A4 x.edges.length c4, .int .i64 x.els] 34 (0, 0))) := by unfold Hid; rw [← hw1]; exact (blk_far B1v (by omega))
  have R1 : Hid (W1.heap[w.heap.size + 1]? = some (.cells #[.int .i64 0, .int .i64 0, .slice none 0 0, .slice none 0 0, .slice none 0 0, .int .i64 0] 38 (0, 0))) := by unfold Hid; rw [← hw1]; exact ((blk_far R1v (by omega))).trans rfl
  have O1 : Hid (W1.heap[w.heap.size + 1 + 1]? = some (.cells #[.int .i64 x.op, .int .i64 x.clause, .slice (some ⟨g2, 0, none⟩) x.binds.length x.binds.length, .slice none 0 0, .slice none 0 0, .int .i64 0] 38 (0, 0))) := by unfold Hid; rw [← hw1]; exact ((blk_set (i := 2) O1v)).trans rfl
  have BW1 : Hid (Below w.heap.size w W1) := by unfold Hid; rw [← hw1]; exact ((below_aft' BW0.out hb0 BW0.out.size).setCell (by (try simp) <;> omega) _)
  have hs1 : w.heap.size + 3 ≤ W1.heap.size := by omega
  have S3_1 : Hid (QIs W1 0 w.heap.size A3 x.path) := (S3_0.out.below hb0 (by omega)).keep (fun p _ hp => HL0 p hp) (Nat.le_refl _) (Nat.le_refl _)
  have S4_1 : Hid (QEgs W1 0 w.heap.size A4 x.edges) := (S4_0.out.below hb0 (by omega)).keep (fun p _ hp => HL0 p hp) (Nat.le_refl _) (Nat.le_refl _)
  have G2_1 : Hid (QPbs W1 (w.heap.size + 3) W1.heap.size (some ⟨g2, 0, none⟩) x.binds) := (hq0.low hs0).keep HK0 (Nat.le_refl _) (by omega)
  have HW1 := Lib.hid hw1
  clear hw1 HK0 HL0 hb0 hq0 hsz0 B1v R1v O1v
  go_wp2_with fail
  rw [HW1.out]
  refine (toIs_any A3 x.path c3 W1 (S3_1.out.keep (fun _ _ _ => rfl) (Nat.le_refl _) (by omega)) (HNW.out.2.1)).mono ?_
  rintro e1 V1 ⟨g3, rfl, hq1, hb1⟩
  have bx0_1 := ((hb1.cell (p := ⟨w.heap.size, 0, none⟩) (heap_lt B1.out)).trans (cell_of_blk B1.out 0)).trans rfl
  have ox0_1 := ((hb1.cell (p := ⟨w.heap.size + 1 + 1, 0, none⟩) (heap_lt O1.out)).trans (cell_of_blk O1.out 0)).trans rfl
  have of0_1 := (hb1.frozen (p := ⟨w.heap.size + 1 + 1, 0, none⟩) (heap_lt O1.out)).trans (free_blk O1.out 0)
  have bx1_1 := ((hb1.cell (p := ⟨w.heap.size, 1, none⟩) (heap_lt B1.out)).trans (cell_of_blk B1.out 1)).trans rfl
  have ox1_1 := ((hb1.cell (p := ⟨w.heap.size + 1 + 1, 1, none⟩) (heap_lt O1.out)).trans (cell_of_blk O1.out 1)).trans rfl
  have of1_1 := (hb1.frozen (p := ⟨w.heap.size + 1 + 1, 1, none⟩) (heap_lt O1.out)).trans (free_blk O1.out 1)
  have bx2_1 := ((hb1.cell (p := ⟨w.heap.size, 2, none⟩) (heap_lt B1.out)).trans (cell_of_blk B1.out 2)).trans rfl
  have ox2_1 := ((hb1.cell (p := ⟨w.heap.size + 1 + 1, 2, none⟩) (heap_lt O1.out)).trans (cell_of_blk O1.out 2)).trans rfl
  have of2_1 := (hb1.frozen (p := ⟨w.heap.size + 1 + 1, 2, none⟩) (heap_lt O1.out)).trans (free_blk O1.out 2)
  have bx3_1 := ((hb1.cell (p := ⟨w.heap.size, 3, none⟩) (heap_lt B1.out)).trans (cell_of_blk B1.out 3)).trans rfl
  have ox3_1 := ((hb1.cell (p := ⟨w.heap.size + 1 + 1, 3, none⟩) (heap_lt O1.out)).trans (cell_of_blk O1.out 3)).trans rfl
  have of3_1 := (hb1.frozen (p := ⟨w.heap.size + 1 + 1, 3, none⟩) (heap_lt O1.out)).trans (free_blk O1.out 3)
  have bx4_1 := ((hb1.cell (p := ⟨w.heap.size, 4, none⟩) (heap_lt B1.out)).trans (cell_of_blk B1.out 4)).trans rfl
  have ox4_1 := ((hb1.cell (p := ⟨w.heap.size + 1 + 1, 4, none⟩) (heap_lt O1.out)).trans (cell_of_blk O1.out 4)).trans rfl
  have of4_1 := (hb1.frozen (p := ⟨w.heap.size + 1 + 1, 4, none⟩) (heap_lt O1.out)).trans (free_blk O1.out 4)
  have bx5_1 := ((hb1.cell (p := ⟨w.heap.size, 5, none⟩) (heap_lt B1.out)).trans (cell_of_blk B1.out 5)).trans rfl
  have ox5_1 := ((hb1.cell (p := ⟨w.heap.size + 1 + 1, 5, none⟩) (heap_lt O1.out)).trans (cell_of_blk O1.out 5)).trans rfl
  have of5_1 := (hb1.frozen (p := ⟨w.heap.size + 1 + 1, 5, none⟩) (heap_lt O1.out)).trans (free_blk O1.out 5)
  have B2v : V1.heap[w.heap.size]? = _ := (hb1.block _ (heap_lt B1.out)).trans B1.out
  have R2v : V1.heap[w.heap.size + 1]? = _ := (hb1.block _ (heap_lt R1.out)).trans R1.out
  have O2v : V1.heap[w.heap.size + 1 + 1]? = _ := (hb1.block _ (heap_lt O1.out)).trans O1.out
  have hbs1 := hb1.size
  have HK1 : ∀ p : Addr, w.heap.size + 3 ≤ p.block → p.block < V1.heap.size → (V1.setCell ⟨w.heap.size + 1 + 1, 3, none⟩ (.slice (some ⟨g3, 0, none⟩) x.path.length x.path.length)).cell? p = V1.cell? p := fun p h1 _ => (World.cell?_setCell_other _ _ _ _ (fun e => by have := congrArg Addr.block e; simp only at this; omega)).trans (rfl)
  have HL1 : ∀ p : Addr, p.block < w.heap.size → (V1.setCell ⟨w.heap.size + 1 + 1, 3, none⟩ (.slice (some ⟨g3, 0, none⟩) x.path.length x.path.length)).cell? p = V1.cell? p := fun p h1 => (World.cell?_setCell_other _ _ _ _ (fun e => by have := congrArg Addr.block e; simp only at this; omega)).trans (rfl)
  have hsz1 : (V1.setCell ⟨w.heap.size + 1 + 1, 3, none⟩ (.slice (some ⟨g3, 0, none⟩) x.path.length x.path.length)).heap.size = V1.heap.size := by simp [World.setCell]
  generalize hw2 : (V1.setCell ⟨w.heap.size + 1 + 1, 3, none⟩ (.slice (some ⟨g3, 0, none⟩) x.path.length x.path.length)) = W2 at HK1 HL1 hsz1
  have B2 : Hid (W2.heap[w.heap.size]? = some (.cells #[.int .i64 x.op, .int .i64 x.clause, .slice A2 x.binds.length c2, .slice A3 x.path.length c3, .slice A4 x.edges.length c4, .int .i64 x.els] 34 (0, 0))) := by unfold Hid; rw [← hw2]; exact (blk_far B2v (by omega))
  have R2 : Hid (W2.heap[w.heap.size + 1]? = some (.cells #[.int .i64 0, .int .i64 0, .slice none 0 0, .slice none 0 0, .slice none 0 0, .int .i64 0] 38 (0, 0))) := by unfold Hid; rw [← hw2]; exact ((blk_far R2v (by omega))).trans rfl
  have O2 : Hid (W2.heap[w.heap.size + 1 + 1]? = some (.cells #[.int .i64 x.op, .int .i64 x.clause, .slice (some ⟨g2, 0, none⟩) x.binds.length x.binds.length, .slice (some ⟨g3, 0, none⟩) x.path.length x.path.length, .slice none 0 0, .int .i64 0] 38 (0, 0))) := by unfold Hid; rw [← hw2]; exact ((blk_set (i := 3) O2v)).trans rfl
  have BW2 : Hid (Below w.heap.size w W2) := by unfold Hid; rw [← hw2]; exact ((below_aft' BW1.out hb1 BW1.out.size).setCell (by (try simp) <;> omega) _)
  have hs2 : w.heap.size + 3 ≤ W2.heap.size := by omega
  have S4_2 : Hid (QEgs W2 0 w.heap.size A4 x.edges) := (S4_1.out.below hb1 (by omega)).keep (fun p _ hp => HL1 p hp) (Nat.le_refl _) (Nat.le_refl _)
  have G3_2 : Hid (QIs W2 (w.heap.size + 3) W2.heap.size (some ⟨g3, 0, none⟩) x.path) := (hq1.low hs1).keep HK1 (Nat.le_refl _) (by omega)
  have G2_2 : Hid (QPbs W2 (w.heap.size + 3) W2.heap.size (some ⟨g2, 0, none⟩) x.binds) := (G2_1.out.at_ hb1).keep HK1 (Nat.le_refl _) (by omega)
  have HW2 := Lib.hid hw2
  clear hw2 HK1 HL1 hb1 hq1 hsz1 B2v R2v O2v
  go_wp2_with fail
  rw [HW2.out]
  refine (toEgs_any A4 x.edges c4 W2 (S4_2.out.keep (fun _ _ _ => rfl) (Nat.le_refl _) (by omega)) (HNW.out.2.2)).mono ?_
  rintro e2 V2 ⟨g4, rfl, hq2, hb2⟩
  have bx0_2 := ((hb2.cell (p := ⟨w.heap.size, 0, none⟩) (heap_lt B2.out)).trans (cell_of_blk B2.out 0)).trans rfl
  have ox0_2 := ((hb2.cell (p := ⟨w.heap.size + 1 + 1, 0, none⟩) (heap_lt O2.out)).trans (cell_of_blk O2.out 0)).trans rfl
  have of0_2 := (hb2.frozen (p := ⟨w.heap.size + 1 + 1, 0, none⟩) (heap_lt O2.out)).trans (free_blk O2.out 0)
  have bx1_2 := ((hb2.cell (p := ⟨w.heap.size, 1, none⟩) (heap_lt B2.out)).trans (cell_of_blk B2.out 1)).trans rfl
  have ox1_2 := ((hb2.cell (p := ⟨w.heap.size + 1 + 1, 1, none⟩) (heap_lt O2.out)).trans (cell_of_blk O2.out 1)).trans rfl
  have of1_2 := (hb2.frozen (p := ⟨w.heap.size + 1 + 1, 1, none⟩) (heap_lt O2.out)).trans (free_blk O2.out 1)
  have bx2_2 := ((hb2.cell (p := ⟨w.heap.size, 2, none⟩) (heap_lt B2.out)).trans (cell_of_blk B2.out 2)).trans rfl
  have ox2_2 := ((hb2.cell (p := ⟨w.heap.size + 1 + 1, 2, none⟩) (heap_lt O2.out)).trans (cell_of_blk O2.out 2)).trans rfl
  have of2_2 := (hb2.frozen (p := ⟨w.heap.size + 1 + 1, 2, none⟩) (heap_lt O2.out)).trans (free_blk O2.out 2)
  have bx3_2 := ((hb2.cell (p := ⟨w.heap.size, 3, none⟩) (heap_lt B2.out)).trans (cell_of_blk B2.out 3)).trans rfl
  have ox3_2 := ((hb2.cell (p := ⟨w.heap.size + 1 + 1, 3, none⟩) (heap_lt O2.out)).trans (cell_of_blk O2.out 3)).trans rfl
  have of3_2 := (hb2.frozen (p := ⟨w.heap.size + 1 + 1, 3, none⟩) (heap_lt O2.out)).trans (free_blk O2.out 3)
  have bx4_2 := ((hb2.cell (p := ⟨w.heap.size, 4, none⟩) (heap_lt B2.out)).trans (cell_of_blk B2.out 4)).trans rfl
  have ox4_2 := ((hb2.cell (p := ⟨w.heap.size + 1 + 1, 4, none⟩) (heap_lt O2.out)).trans (cell_of_blk O2.out 4)).trans rfl
  have of4_2 := (hb2.frozen (p := ⟨w.heap.size + 1 + 1, 4, none⟩) (heap_lt O2.out)).trans (free_blk O2.out 4)
  have bx5_2 := ((hb2.cell (p := ⟨w.heap.size, 5, none⟩) (heap_lt B2.out)).trans (cell_of_blk B2.out 5)).trans rfl
  have ox5_2 := ((hb2.cell (p := ⟨w.heap.size + 1 + 1, 5, none⟩) (heap_lt O2.out)).trans (cell_of_blk O2.out 5)).trans rfl
  have of5_2 := (hb2.frozen (p := ⟨w.heap.size + 1 + 1, 5, none⟩) (heap_lt O2.out)).trans (free_blk O2.out 5)
  have rx0 := ((hb2.cell (p := ⟨w.heap.size + 1, 0, none⟩) (heap_lt R2.out)).trans (cell_of_blk R2.out 0)).trans rfl
  have rf0 := (hb2.frozen (p := ⟨w.heap.size + 1, 0, none⟩) (heap_lt R2.out)).trans (free_blk R2.out 0)
  have rx1 := ((hb2.cell (p := ⟨w.heap.size + 1, 1, none⟩) (heap_lt R2.out)).trans (cell_of_blk R2.out 1)).trans rfl
  have rf1 := (hb2.frozen (p := ⟨w.heap.size + 1, 1, none⟩) (heap_lt R2.out)).trans (free_blk R2.out 1)
  have rx2 := ((hb2.cell (p := ⟨w.heap.size + 1, 2, none⟩) (heap_lt R2.out)).trans (cell_of_blk R2.out 2)).trans rfl
  have rf2 := (hb2.frozen (p := ⟨w.heap.size + 1, 2, none⟩) (heap_lt R2.out)).trans (free_blk R2.out 2)
  have rx3 := ((hb2.cell (p := ⟨w.heap.size + 1, 3, none⟩) (heap_lt R2.out)).trans (cell_of_blk R2.out 3)).trans rfl
  have rf3 := (hb2.frozen (p := ⟨w.heap.size + 1, 3, none⟩) (heap_lt R2.out)).trans (free_blk R2.out 3)
  have rx4 := ((hb2.cell (p := ⟨w.heap.size + 1, 4, none⟩) (heap_lt R2.out)).trans (cell_of_blk R2.out 4)).trans rfl
  have rf4 := (hb2.frozen (p := ⟨w.heap.size + 1, 4, none⟩) (heap_lt R2.out)).trans (free_blk R2.out 4)
  have rx5 := ((hb2.cell (p := ⟨w.heap.size + 1, 5, none⟩) (heap_lt R2.out)).trans (cell_of_blk R2.out 5)).trans rfl
  have rf5 := (hb2.frozen (p := ⟨w.heap.size + 1, 5, none⟩) (heap_lt R2.out)).trans (free_blk R2.out 5)
  have B3v : V2.heap[w.heap.size]? = _ := (hb2.block _ (heap_lt B2.out)).trans B2.out
  have R3v : V2.heap[w.heap.size + 1]? = _ := (hb2.block _ (heap_lt R2.out)).trans R2.out
  have O3v : V2.heap[w.heap.size + 1 + 1]? = _ := (hb2.block _ (heap_lt O2.out)).trans O2.out
  have hbs2 := hb2.size
  have HK2 : ∀ p : Addr, w.heap.size + 3 ≤ p.block → p.block < V2.heap.size → ((((((((V2.setCell ⟨w.heap.size + 1 + 1, 4, none⟩ (.slice (some ⟨g4, 0, none⟩) x.edges.length x.edges.length)).setCell ⟨w.heap.size + 1 + 1, 5, none⟩ (.int .i64 x.els)).setCell ⟨w.heap.size + 1, 0, none⟩ (.int .i64 x.op)).setCell ⟨w.heap.size + 1, 1, none⟩ (.int .i64 x.clause)).setCell ⟨w.heap.size + 1, 2, none⟩ (.slice (some ⟨g2, 0, none⟩) x.binds.length x.binds.length)).setCell ⟨w.heap.size + 1, 3, none⟩ (.slice (some ⟨g3, 0, none⟩) x.path.length x.path.length)).setCell ⟨w.heap.size + 1, 4, none⟩ (.slice (some ⟨g4, 0, none⟩) x.edges.length x.edges.length)).setCell ⟨w.heap.size + 1, 5, none⟩ (.int .i64 x.els)).cell? p = V2.cell? p := fun p h1 _ => (World.cell?_setCell_other _ _ _ _ (fun e => by have := congrArg Addr.block e; simp only at this; omega)).trans ((World.cell?_setCell_other _ _ _ _ (fun e => by have := congrArg Addr.block e; simp only at this; omega)).trans ((World.cell?_setCell_other _ _ _ _ (fun e => by have := congrArg Addr.block e; simp only at this; omega)).trans ((World.cell?_setCell_other _ _ _ _ (fun e => by have := congrArg Addr.block e; simp only at this; omega)).trans ((World.cell?_setCell_other _ _ _ _ (fun e => by have := congrArg Addr.block e; simp only at this; omega)).trans ((World.cell?_setCell_other _ _ _ _ (fun e => by have := congrArg Addr.block e; simp only at this; omega)).trans ((World.cell?_setCell_other _ _ _ _ (fun e => by have := congrArg Addr.block e; simp only at this; omega)).trans ((World.cell?_setCell_other _ _ _ _ (fun e => by have := congrArg Addr.block e; simp only at this; omega)).trans (rfl))))))))
  have HL2 : ∀ p : Addr, p.block < w.heap.size → ((((((((V2.setCell ⟨w.heap.size + 1 + 1, 4, none⟩ (.slice (some ⟨g4, 0, none⟩) x.edges.length x.edges.length)).setCell ⟨w.heap.size + 1 + 1, 5, none⟩ (.int .i64 x.els)).setCell ⟨w.heap.size + 1, 0, none⟩ (.int .i64 x.op)).setCell ⟨w.heap.size + 1, 1, none⟩ (.int .i64 x.clause)).setCell ⟨w.heap.size + 1, 2, none⟩ (.slice (some ⟨g2, 0, none⟩) x.binds.length x.binds.length)).setCell ⟨w.heap.size + 1, 3, none⟩ (.slice (some ⟨g3, 0, none⟩) x.path.length x.path.length)).setCell ⟨w.heap.size + 1, 4, none⟩ (.slice (some ⟨g4, 0, none⟩) x.edges.length x.edges.length)).setCell ⟨w.heap.size + 1, 5, none⟩ (.int .i64 x.els)).cell? p = V2.cell? p := fun p h1 => (World.cell?_setCell_other _ _ _ _ (fun e => by have := congrArg Addr.block e; simp only at this; omega)).trans ((World.cell?_setCell_other _ _ _ _ (fun e => by have := congrArg Addr.block e; simp only at this; omega)).trans ((World.cell?_setCell_other _ _ _ _ (fun e => by have := congrArg Addr.block e; simp only at this; omega)).trans ((World.cell?_setCell_other _ _ _ _ (fun e => by have := congrArg Addr.block e; simp only at this; omega)).trans ((World.cell?_setCell_other _ _ _ _ (fun e => by have := congrArg Addr.block e; simp only at this; omega)).trans ((World.cell?_setCell_other _ _ _ _ (fun e => by have := congrArg Addr.block e; simp only at this; omega)).trans ((World.cell?_setCell_other _ _ _ _ (fun e => by have := congrArg Addr.block e; simp only at this; omega)).trans ((World.cell?_setCell_other _ _ _ _ (fun e => by have := congrArg Addr.block e; simp only at this; omega)).trans (rfl))))))))
  have hsz2 : ((((((((V2.setCell ⟨w.heap.size + 1 + 1, 4, none⟩ (.slice (some ⟨g4, 0, none⟩) x.edges.length x.edges.length)).setCell ⟨w.heap.size + 1 + 1, 5, none⟩ (.int .i64 x.els)).setCell ⟨w.heap.size + 1, 0, none⟩ (.int .i64 x.op)).setCell ⟨w.heap.size + 1, 1, none⟩ (.int .i64 x.clause)).setCell ⟨w.heap.size + 1, 2, none⟩ (.slice (some ⟨g2, 0, none⟩) x.binds.length x.binds.length)).setCell ⟨w.heap.size + 1, 3, none⟩ (.slice (some ⟨g3, 0, none⟩) x.path.length x.path.length)).setCell ⟨w.heap.size + 1, 4, none⟩ (.slice (some ⟨g4, 0, none⟩) x.edges.length x.edges.length)).setCell ⟨w.heap.size + 1, 5, none⟩ (.int .i64 x.els)).heap.size = V2.heap.size := by simp [World.setCell]
  generalize hw3 : ((((((((V2.setCell ⟨w.heap.size + 1 + 1, 4, none⟩ (.slice (some ⟨g4, 0, none⟩) x.edges.length x.edges.length)).setCell ⟨w.heap.size + 1 + 1, 5, none⟩ (.int .i64 x.els)).setCell ⟨w.heap.size + 1, 0, none⟩ (.int .i64 x.op)).setCell ⟨w.heap.size + 1, 1, none⟩ (.int .i64 x.clause)).setCell ⟨w.heap.size + 1, 2, none⟩ (.slice (some ⟨g2, 0, none⟩) x.binds.length x.binds.length)).setCell ⟨w.heap.size + 1, 3, none⟩ (.slice (some ⟨g3, 0, none⟩) x.path.length x.path.length)).setCell ⟨w.heap.size + 1, 4, none⟩ (.slice (some ⟨g4, 0, none⟩) x.edges.length x.edges.length)).setCell ⟨w.heap.size + 1, 5, none⟩ (.int .i64 x.els)) = W3 at HK2 HL2 hsz2
  have B3 : Hid (W3.heap[w.heap.size]? = some (.cells #[.int .i64 x.op, .int .i64 x.clause, .slice A2 x.binds.length c2, .slice A3 x.path.length c3, .slice A4 x.edges.length c4, .int .i64 x.els] 34 (0, 0))) := by unfold Hid; rw [← hw3]; exact (blk_far (blk_far (blk_far (blk_far (blk_far (blk_far (blk_far (blk_far B3v (by omega)) (by omega)) (by omega)) (by omega)) (by omega)) (by omega)) (by omega)) (by omega))
  have R3 : Hid (W3.heap[w.heap.size + 1]? = some (.cells #[.int .i64 x.op, .int .i64 x.clause, .slice (some ⟨g2, 0, none⟩) x.binds.length x.binds.length, .slice (some ⟨g3, 0, none⟩) x.path.length x.path.length, .slice (some ⟨g4, 0, none⟩) x.edges.length x.edges.length, .int .i64 x.els] 38 (0, 0))) := by unfold Hid; rw [← hw3]; exact ((blk_set (i := 5) (blk_set (i := 4) (blk_set (i := 3) (blk_set (i := 2) (blk_set (i := 1) (blk_set (i := 0) (blk_far (blk_far R3v (by omega)) (by omega))))))))).trans rfl
  have O3 : Hid (W3.heap[w.heap.size + 1 + 1]? = some (.cells #[.int .i64 x.op, .int .i64 x.clause, .slice (some ⟨g2, 0, none⟩) x.binds.length x.binds.length, .slice (some ⟨g3, 0, none⟩) x.path.length x.path.length, .slice (some ⟨g4, 0, none⟩) x.edges.length x.edges.length, .int .i64 x.els] 38 (0, 0))) := by unfold Hid; rw [← hw3]; exact ((blk_far (blk_far (blk_far (blk_far (blk_far (blk_far (blk_set (i := 5) (blk_set (i := 4) O3v)) (by omega)) (by omega)) (by omega)) (by omega)) (by omega)) (by omega))).trans rfl
  have BW3 : Hid (Below w.heap.size w W3) := by unfold Hid; rw [← hw3]; exact (((((((((below_aft' BW2.out hb2 BW2.out.size).setCell (by (try simp) <;> omega) _).setCell (by (try simp) <;> omega) _).setCell (by (try simp) <;> omega) _).setCell (by (try simp) <;> omega) _).setCell (by (try simp) <;> omega) _).setCell (by (try simp) <;> omega) _).setCell (by (try simp) <;> omega) _).setCell (by (try simp) <;> omega) _)
  have hs3 : w.heap.size + 3 ≤ W3.heap.size := by omega
  have G4_3 : Hid (QEgs W3 (w.heap.size + 3) W3.heap.size (some ⟨g4, 0, none⟩) x.edges) := (hq2.low hs2).keep HK2 (Nat.le_refl _) (by omega)
  have G2_3 : Hid (QPbs W3 (w.heap.size + 3) W3.heap.size (some ⟨g2, 0, none⟩) x.binds) := (G2_2.out.at_ hb2).keep HK2 (Nat.le_refl _) (by omega)
  have G3_3 : Hid (QIs W3 (w.heap.size + 3) W3.heap.size (some ⟨g3, 0, none⟩) x.path) := (G3_2.out.at_ hb2).keep HK2 (Nat.le_refl _) (by omega)
  have HW3 := Lib.hid hw3
  clear hw3 HK2 HL2 hb2 hq2 hsz2 B3v R3v O3v
  have z0 := (cell_of_blk R3.out 0).trans rfl
  have z1 := (cell_of_blk R3.out 1).trans rfl
  have z2 := (cell_of_blk R3.out 2).trans rfl
  have z3 := (cell_of_blk R3.out 3).trans rfl
  have z4 := (cell_of_blk R3.out 4).trans rfl
  have z5 := (cell_of_blk R3.out 5).trans rfl
  go_wp2_with fail
  rw [HW3.out]
  exact bodyPost_ret (v := .agg #[.int .i64 x.op, .int .i64 x.clause, .slice (some ⟨g2, 0, none⟩) x.binds.length x.binds.length, .slice (some ⟨g3, 0, none⟩) x.path.length x.path.length, .slice (some ⟨g4, 0, none⟩) x.edges.length x.edges.length, .int .i64 x.els]) (by simp [results, Try.results11, go_sem, z0, z1, z2, z3, z4, z5]) rfl ⟨g2, g3, g4, rfl, ⟨G2_3.out, G3_3.out, G4_3.out⟩, BW3.out⟩
theorem infoNd : (Try.prog.info? 38).map (fun i => (i.zero, i.size, i.bytes)) = some (some (.agg #[.int .i64 0, .int .i64 0, .slice none 0 0, .slice none 0 0, .slice none 0 0, .int .i64 0]), 6, 96) := by kernel_rfl
def RowNd (w : World) (lo B : Nat) (l : List Nd) (xs : List Value) (k : Nat) : Prop := ∀ j (h : j < l.length), j < k → ∃ (A2 : Option Addr) (c2 : Nat) (A3 : Option Addr) (c3 : Nat) (A4 : Option Addr) (c4 : Nat), xs[j * 6]? = some (.int .i64 l[j].op) ∧ xs[j * 6 + 1]? = some (.int .i64 l[j].clause) ∧ xs[j * 6 + 2]? = some (.slice A2 l[j].binds.length c2) ∧ xs[j * 6 + 3]? = some (.slice A3 l[j].path.length c3) ∧ xs[j * 6 + 4]? = some (.slice A4 l[j].edges.length c4) ∧ xs[j * 6 + 5]? = some (.int .i64 l[j].els) ∧ QPbs w lo B A2 l[j].binds ∧ QIs w lo B A3 l[j].path ∧ QEgs w lo B A4 l[j].edges
theorem RowNd.keep {w w' : World} {lo B B' : Nat} {l : List Nd} {xs : List Value} {k : Nat} (h : RowNd w lo B l xs k) (hk : ∀ p : Addr, lo ≤ p.block → p.block < B → w'.cell? p = w.cell? p) (hB : B ≤ B') : RowNd w' lo B' l xs k := fun j hj hjk => by
  obtain ⟨A2, c2, A3, c3, A4, c4, e0, e1, e2, e3, e4, e5, s2, s3, s4⟩ := h j hj hjk
  exact ⟨A2, c2, A3, c3, A4, c4, e0, e1, e2, e3, e4, e5, s2.keep hk (Nat.le_refl _) hB, s3.keep hk (Nat.le_refl _) hB, s4.keep hk (Nat.le_refl _) hB⟩
theorem RowNd.step {w : World} {lo B : Nat} {l : List Nd} {xs : List Value} {k : Nat} (g2 : Nat) (g3 : Nat) (g4 : Nat) (h : RowNd w lo B l xs k) (hk : k < l.length) (hx : xs.length = l.length * 6) (q2 : QPbs w lo B (some ⟨g2, 0, none⟩) l[k].binds) (q3 : QIs w lo B (some ⟨g3, 0, none⟩) l[k].path) (q4 : QEgs w lo B (some ⟨g4, 0, none⟩) l[k].edges) : RowNd w lo B l ((((((xs.set (k * 6) (.int .i64 l[k].op)).set (k * 6 + 1) (.int .i64 l[k].clause)).set (k * 6 + 2) (.slice (some ⟨g2, 0, none⟩) l[k].binds.length l[k].binds.length)).set (k * 6 + 3) (.slice (some ⟨g3, 0, none⟩) l[k].path.length l[k].path.length)).set (k * 6 + 4) (.slice (some ⟨g4, 0, none⟩) l[k].edges.length l[k].edges.length)).set (k * 6 + 5) (.int .i64 l[k].els)) (k + 1) := by
  intro j hj hjk
  by_cases e : j = k
  · subst e
    refine ⟨some ⟨g2, 0, none⟩, l[j].binds.length, some ⟨g3, 0, none⟩, l[j].path.length, some ⟨g4, 0, none⟩, l[j].edges.length, ?_, ?_, ?_, ?_, ?_, ?_, q2, q3, q4⟩
    · rw [List.getElem?_set_ne (by omega), List.getElem?_set_ne (by omega), List.getElem?_set_ne (by omega), List.getElem?_set_ne (by omega), List.getElem?_set_ne (by omega), List.getElem?_set_self (by (try simp only [List.length_set]); omega)]
    · rw [List.getElem?_set_ne (by omega), List.getElem?_set_ne (by omega), List.getElem?_set_ne (by omega), List.getElem?_set_ne (by omega), List.getElem?_set_self (by (try simp only [List.length_set]); omega)]
    · rw [List.getElem?_set_ne (by omega), List.getElem?_set_ne (by omega), List.getElem?_set_ne (by omega), List.getElem?_set_self (by (try simp only [List.length_set]); omega)]
    · rw [List.getElem?_set_ne (by omega), List.getElem?_set_ne (by omega), List.getElem?_set_self (by (try simp only [List.length_set]); omega)]
    · rw [List.getElem?_set_ne (by omega), List.getElem?_set_self (by (try simp only [List.length_set]); omega)]
    · rw [List.getElem?_set_self (by (try simp only [List.length_set]); omega)]
  · obtain ⟨A2, c2, A3, c3, A4, c4, e0, e1, e2, e3, e4, e5, s2, s3, s4⟩ := h j hj (by omega)
    refine ⟨A2, c2, A3, c3, A4, c4, ?_, ?_, ?_, ?_, ?_, ?_, s2, s3, s4⟩
    · rw [List.getElem?_set_ne (by omega), List.getElem?_set_ne (by omega), List.getElem?_set_ne (by omega), List.getElem?_set_ne (by omega), List.getElem?_set_ne (by omega), List.getElem?_set_ne (by omega)]; exact e0
    · rw [List.getElem?_set_ne (by omega), List.getElem?_set_ne (by omega), List.getElem?_set_ne (by omega), List.getElem?_set_ne (by omega), List.getElem?_set_ne (by omega), List.getElem?_set_ne (by omega)]; exact e1
    · rw [List.getElem?_set_ne (by omega), List.getElem?_set_ne (by omega), List.getElem?_set_ne (by omega), List.getElem?_set_ne (by omega), List.getElem?_set_ne (by omega), List.getElem?_set_ne (by omega)]; exact e2
    · rw [List.getElem?_set_ne (by omega), List.getElem?_set_ne (by omega), List.getElem?_set_ne (by omega), List.getElem?_set_ne (by omega), List.getElem?_set_ne (by omega), List.getElem?_set_ne (by omega)]; exact e3
    · rw [List.getElem?_set_ne (by omega), List.getElem?_set_ne (by omega), List.getElem?_set_ne (by omega), List.getElem?_set_ne (by omega), List.getElem?_set_ne (by omega), List.getElem?_set_ne (by omega)]; exact e4
    · rw [List.getElem?_set_ne (by omega), List.getElem?_set_ne (by omega), List.getElem?_set_ne (by omega), List.getElem?_set_ne (by omega), List.getElem?_set_ne (by omega), List.getElem?_set_ne (by omega)]; exact e5
set_option maxHeartbeats 1600000 in
theorem toNds_any (A : Option Addr) (l : List Nd) (cap : Nat) (w : World) (hr : QNds w 0 w.heap.size A l) (hn : wNds l ≤ 1048576) :
    Calls Try.prog 6 #[.slice A l.length cap] w fun e w' => ∃ g, e = .returned (.slice (some ⟨g, 0, none⟩) l.length l.length) ∧ QNds w' w.heap.size w'.heap.size (some ⟨g, 0, none⟩) l ∧ Below w.heap.size w w' := by
  obtain ⟨i0, hi, hz0, hz1, hz2⟩ := info_parts infoNd
  have Hr := Lib.hid hr
  clear hr
  have hl : l.length ≤ 1048576 := by unfold wNds at hn; omega
  go_enter Try.func6, Try.ntmps6
  go_wp2_with (at_make; refine wpList_make_full _ rfl _ _ 25 rfl w.heap.size 38 i0 _ 6 Try.underlying25 hi hz0 hz1 _ _ _ _ l.length rfl rfl rfl rfl (by rw [hz2]; omega) (by unfold maxLen; omega) (Nat.le_refl _) ?_; intro w1 hown hgr)
  go_loopw [4] (fun i wr => ∃ k : Nat, k ≤ l.length ∧ i = .int .i64 k ∧ ∃ xs, wr.ownsRow w.heap.size 38 6 (.slice (some ⟨w.heap.size, 0, none⟩) l.length l.length) l.length xs ∧ RowNd wr (w.heap.size + 1) wr.heap.size l xs k ∧ Below w.heap.size w wr) (fun i _ => l.length - (intOf i).toNat)
  case atStart => exact ⟨0, by omega, rfl, _, hown, fun j _ h => absurd h (by omega), below_of_grown hgr (Nat.le_refl _)⟩
  case round =>
    obtain ⟨k, hk, rfl, xs, hown, hrow, hb⟩ := hrel
    clear hgr hi hz0 hz1 hz2
    by_cases hlt : k < l.length
    · obtain ⟨b, off, rfl, hb0, hbB, A2, c2, A3, c3, A4, c4, x0, x1, x2, x3, x4, x5, s2, s3, s4⟩ := (Hr.out.below hb (Nat.le_refl _)).2 k hlt
      have hi : (k : Int) < (l.length : Int) := by omega
      have hgw := own_lt hown
      have ha : wNd l[k] ≤ 1048576 := by
        have h1 := sum_take_succ wNd l k hlt
        have h2 := sum_take_le wNd l (k + 1)
        unfold wNds at hn; omega
      have S2 := Lib.hid (s2.keep (fun _ _ _ => rfl) (Nat.le_refl _) hb.size)
      have S3 := Lib.hid (s3.keep (fun _ _ _ => rfl) (Nat.le_refl _) hb.size)
      have S4 := Lib.hid (s4.keep (fun _ _ _ => rfl) (Nat.le_refl _) hb.size)
      clear s2 s3 s4
      go_wp2_with fail
      refine (toNd_any A2 c2 A3 c3 A4 c4 l[k] wr S2.out S3.out S4.out ha).mono ?_
      rintro e w2 ⟨g2, g3, g4, rfl, ⟨q2, q3, q4⟩, hb2⟩
      have hown2 := own_below hown hb2
      have hx := hown2.1
      have hs2 := hb2.size
      have hbs := hb.size
      obtain ⟨v0, f0⟩ := own_cell hown2 (k * 6) (by omega)
      have u0 := hown2.frozenAt (k * 6)
      obtain ⟨v1, f1⟩ := own_cell hown2 (k * 6 + 1) (by omega)
      have u1 := hown2.frozenAt (k * 6 + 1)
      obtain ⟨v2, f2⟩ := own_cell hown2 (k * 6 + 2) (by omega)
      have u2 := hown2.frozenAt (k * 6 + 2)
      obtain ⟨v3, f3⟩ := own_cell hown2 (k * 6 + 3) (by omega)
      have u3 := hown2.frozenAt (k * 6 + 3)
      obtain ⟨v4, f4⟩ := own_cell hown2 (k * 6 + 4) (by omega)
      have u4 := hown2.frozenAt (k * 6 + 4)
      obtain ⟨v5, f5⟩ := own_cell hown2 (k * 6 + 5) (by omega)
      have u5 := hown2.frozenAt (k * 6 + 5)
      have t0 := (hown2.stored (k * 6) (.int .i64 l[k].op)).1
      have t1 := (t0.stored (k * 6 + 1) (.int .i64 l[k].clause)).1
      have t2 := (t1.stored (k * 6 + 2) (.slice (some ⟨g2, 0, none⟩) l[k].binds.length l[k].binds.length)).1
      have t3 := (t2.stored (k * 6 + 3) (.slice (some ⟨g3, 0, none⟩) l[k].path.length l[k].path.length)).1
      have t4 := (t3.stored (k * 6 + 4) (.slice (some ⟨g4, 0, none⟩) l[k].edges.length l[k].edges.length)).1
      have t5 := (t4.stored (k * 6 + 5) (.int .i64 l[k].els)).1
      have hrow2 : RowNd w2 (w.heap.size + 1) w2.heap.size l xs k := hrow.keep (fun p _ hp => hb2.cell hp) hs2
      have hrow3 := hrow2.step g2 g3 g4 hlt hx (q2.low (by omega)) (q3.low (by omega)) (q4.low (by omega))
      have hkp : ∀ p : Addr, w.heap.size + 1 ≤ p.block → p.block < w2.heap.size → ((((((w2.setCell ⟨w.heap.size, k * 6, none⟩ (.int .i64 l[k].op)).setCell ⟨w.heap.size, k * 6 + 1, none⟩ (.int .i64 l[k].clause)).setCell ⟨w.heap.size, k * 6 + 2, none⟩ (.slice (some ⟨g2, 0, none⟩) l[k].binds.length l[k].binds.length)).setCell ⟨w.heap.size, k * 6 + 3, none⟩ (.slice (some ⟨g3, 0, none⟩) l[k].path.length l[k].path.length)).setCell ⟨w.heap.size, k * 6 + 4, none⟩ (.slice (some ⟨g4, 0, none⟩) l[k].edges.length l[k].edges.length)).setCell ⟨w.heap.size, k * 6 + 5, none⟩ (.int .i64 l[k].els)).cell? p = w2.cell? p := fun p h1 _ => (World.cell?_setCell_other _ _ _ _ (fun e => by have := congrArg Addr.block e; simp only at this; omega)).trans ((World.cell?_setCell_other _ _ _ _ (fun e => by have := congrArg Addr.block e; simp only at this; omega)).trans ((World.cell?_setCell_other _ _ _ _ (fun e => by have := congrArg Addr.block e; simp only at this; omega)).trans ((World.cell?_setCell_other _ _ _ _ (fun e => by have := congrArg Addr.block e; simp only at this; omega)).trans ((World.cell?_setCell_other _ _ _ _ (fun e => by have := congrArg Addr.block e; simp only at this; omega)).trans ((World.cell?_setCell_other _ _ _ _ (fun e => by have := congrArg Addr.block e; simp only at this; omega)).trans (rfl))))))
      have hrow4 := hrow3.keep (B' := ((((((w2.setCell ⟨w.heap.size, k * 6, none⟩ (.int .i64 l[k].op)).setCell ⟨w.heap.size, k * 6 + 1, none⟩ (.int .i64 l[k].clause)).setCell ⟨w.heap.size, k * 6 + 2, none⟩ (.slice (some ⟨g2, 0, none⟩) l[k].binds.length l[k].binds.length)).setCell ⟨w.heap.size, k * 6 + 3, none⟩ (.slice (some ⟨g3, 0, none⟩) l[k].path.length l[k].path.length)).setCell ⟨w.heap.size, k * 6 + 4, none⟩ (.slice (some ⟨g4, 0, none⟩) l[k].edges.length l[k].edges.length)).setCell ⟨w.heap.size, k * 6 + 5, none⟩ (.int .i64 l[k].els)).heap.size) hkp (by simp [World.setCell])
      go_wp2_with fail
      go_roundw
      case rel => exact ⟨k + 1, by omega, by go_num, _, t5, hrow4, (((((((hb.trans (hb2.mono hb.size)).setCell (Nat.le_refl _) _).setCell (Nat.le_refl _) _).setCell (Nat.le_refl _) _).setCell (Nat.le_refl _) _).setCell (Nat.le_refl _) _).setCell (Nat.le_refl _) _)⟩
      case measure => simp [intOf]; omega
    · go_wp2_with fail
      go_ret
      refine ⟨_, rfl, ⟨by unfold maxLen; omega, fun k hk => ⟨_, 0, rfl, Nat.le_refl _, own_lt hown, ?_⟩⟩, hb⟩
      obtain ⟨A2, c2, A3, c3, A4, c4, e0, e1, e2, e3, e4, e5, s2, s3, s4⟩ := hrow k hk (by omega)
      rw [Nat.zero_add]
      exact ⟨A2, c2, A3, c3, A4, c4, (hown.cellAt _ (by omega)).trans e0, (hown.cellAt _ (by omega)).trans e1, (hown.cellAt _ (by omega)).trans e2, (hown.cellAt _ (by omega)).trans e3, (hown.cellAt _ (by omega)).trans e4, (hown.cellAt _ (by omega)).trans e5, s2.low (by omega), s3.low (by omega), s4.low (by omega)⟩
end Go.Proofs.Ytlmlpmbljaomlaa
