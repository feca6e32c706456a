/-
  The functions that copy types, constructors and data types into memory of their own. No statement is proved here.
-/
import Derived.Test.YtnfjjabeobcenaaU00
namespace Go.Proofs.Ytnfjjabeobcenaa
open Go.RowKit
set_option maxRecDepth 100000
set_option linter.unusedVariables false
theorem info34 : (Try.prog.info? 33).map (fun i => (i.zero, i.size, i.bytes)) = some (some (.agg #[.int .i64 0, .int .i64 0]), 2, 16) := by kernel_rfl
theorem info59 : (Try.prog.info? 93).map (fun i => (i.zero, i.size, i.bytes)) = some (some (.agg #[.string ByteArray.empty, .slice none 0 0, .int .i64 0]), 3, 48) := by kernel_rfl
theorem info56 : (Try.prog.info? 61).map (fun i => (i.zero, i.size, i.bytes)) = some (some (.agg #[.string ByteArray.empty, .slice none 0 0]), 2, 40) := by kernel_rfl
theorem bcell {W w1 : World} (hb : Below W.heap.size W w1) : (∀ b o, b < W.heap.size → w1.cell? ⟨b, o, none⟩ = W.cell? ⟨b, o, none⟩) ∧ (∀ b o, b < W.heap.size → w1.frozen? ⟨b, o, none⟩ = W.frozen? ⟨b, o, none⟩) :=
  ⟨fun b o h => hb.cell (p := ⟨b, o, none⟩) h, fun b o h => hb.frozen (p := ⟨b, o, none⟩) h⟩
/-- Types in a block of their own. -/
def FTys (w : World) (lo g : Nat) (l : List Ty) : Prop :=
  lo ≤ g ∧ l.length ≤ maxLen ∧ ∃ cs, w.heap[g]? = some (.cells cs 33 (0, 0)) ∧ cs.size = l.length * 2 ∧ ∀ k (h : k < l.length), cs[k * 2]? = some (.int .i64 l[k].data) ∧ cs[k * 2 + 1]? = some (.int .i64 l[k].index)
theorem toType_any (d i : Int) (w : World) :
    Calls Try.prog 11 #[.agg #[.int .i64 d, .int .i64 i]] w fun e w' => e = .returned (.agg #[.int .i64 d, .int .i64 i]) ∧ Below w.heap.size w w' := by
  go_enter Try.func11, Try.ntmps11
  go_wp2
  refine bodyPost_ret (v := .agg #[.int .i64 d, .int .i64 i]) (by simp [results, Try.results11, go_sem]) rfl ⟨rfl, ?_⟩
  exact (((Below.refl _ _).alloc (Nat.le_refl _) _).alloc (by simp) _).alloc (by simp; omega) _
theorem below_of_grown {B : Nat} {w w' : World} (h : w.grownBy w' none) (hB : B ≤ w.heap.size) : Below B w w' :=
  (Below.refl B w).grown h hB (fun k e => by cases e)
theorem own_below {w w' : World} {base : Nat} {e : TypeId} {size : Nat} {v : Value} {n : Nat} {xs : List Value} (h : w.ownsRow base e size v n xs) (hb : Below w.heap.size w w') : w'.ownsRow base e size v n xs :=
  h.kept (row := none) ⟨hb.os, hb.tape, hb.output, hb.size, fun k hk _ => hb.block k hk⟩ (by
    rcases h.2 with ⟨rfl, _⟩ | ⟨g, cap, cur, rfl, _⟩
    · exact .inl rfl
    · exact .inr (by simp [Value.ownBlock]))
theorem own_cell {w : World} {base : Nat} {e : TypeId} {size g n cap : Nat} {xs : List Value} (h : w.ownsRow base e size (.slice (some ⟨g, 0, none⟩) n cap) n xs) (j : Nat) (hj : j < n * size) : ∃ v, w.cell? ⟨g, j, none⟩ = some v := by
  have hl : j < xs.length := by have := h.1; omega
  exact ⟨xs[j], by rw [h.cellAt j hj]; exact List.getElem?_eq_getElem hl⟩
theorem own_lt {w : World} {base : Nat} {e : TypeId} {size g n cap : Nat} {xs : List Value} (h : w.ownsRow base e size (.slice (some ⟨g, 0, none⟩) n cap) n xs) : g < w.heap.size := (h.lt g rfl).2
/-- What the first k rounds of a copy of types have left in the row. -/
def TyRow (l : List Ty) (xs : List Value) (k : Nat) : Prop := ∀ j (h : j < l.length), j < k → xs[j * 2]? = some (.int .i64 l[j].data) ∧ xs[j * 2 + 1]? = some (.int .i64 l[j].index)
theorem TyRow.zero (l : List Ty) (xs : List Value) : TyRow l xs 0 := fun j _ h => absurd h (by omega)
theorem TyRow.step {l : List Ty} {xs : List Value} {k : Nat} (h : TyRow l xs k) (hk : k < l.length) (hx : xs.length = l.length * 2) :
    TyRow l ((xs.set (k * 2) (.int .i64 l[k].data)).set (k * 2 + 1) (.int .i64 l[k].index)) (k + 1) := by
  intro j hj hjk
  by_cases e : j = k
  · subst e
    constructor
    · rw [List.getElem?_set_ne (by omega), List.getElem?_set_self (by omega)]
    · rw [List.getElem?_set_self (by simp; omega)]
  · obtain ⟨a, b⟩ := h j hj (by omega)
    constructor
    · rw [List.getElem?_set_ne (by omega), List.getElem?_set_ne (by omega), a]
    · rw [List.getElem?_set_ne (by omega), List.getElem?_set_ne (by omega), b]
theorem FTys.of_row {w : World} {lo g : Nat} {l : List Ty} {xs : List Value} (h : w.ownsRow lo 33 2 (.slice (some ⟨g, 0, none⟩) l.length l.length) l.length xs) (hx : TyRow l xs l.length) (hn : l.length ≤ 1048576) : FTys w lo g l := by
  rcases h.2 with ⟨h', _⟩ | ⟨g', cap', cur, h', hb, hg, hnc, hcm, hcs, htake⟩
  · simp at h'
  · simp only [Value.slice.injEq, Option.some.injEq, Addr.mk.injEq, and_true, true_and] at h'
    obtain ⟨rfl, rfl⟩ := h'
    refine ⟨hb, by unfold maxLen; omega, cur, hg, hcs, fun k hk => ?_⟩
    rw [List.take_of_length_le (by rw [Array.length_toList]; omega)] at htake
    rw [← Array.getElem?_toList, ← Array.getElem?_toList, htake]
    exact hx k hk hk
set_option maxHeartbeats 800000 in
theorem toTypeS_any (A : Option Addr) (l : List Ty) (cap : Nat) (w : World) (hr : RTys w w.heap.size A l) (hn : l.length ≤ 1048576) :
    Calls Try.prog 94 #[.slice A l.length cap] w fun e w' => ∃ g, e = .returned (.slice (some ⟨g, 0, none⟩) l.length l.length) ∧ FTys w' w.heap.size g l ∧ Below w.heap.size w w' := by
  obtain ⟨i0, hi, hz0, hz1, hz2⟩ := info_parts info34
  have Hr := Lib.hid hr
  clear hr
  go_enter Try.func94, Try.ntmps94
  go_wp2_with (at_make; refine wpList_make_full _ rfl _ _ 91 rfl w.heap.size 33 i0 _ 2 Try.underlying91 hi hz0 hz1 _ _ _ _ l.length rfl rfl rfl rfl (by rw [hz2]; omega) (by unfold maxLen; omega) (Nat.le_refl _) ?_; intro w1 hown hgr)
  go_loopw [4] (fun i wr => ∃ k : Nat, k ≤ l.length ∧ i = .int .i64 k ∧ ∃ xs, wr.ownsRow w.heap.size 33 2 (.slice (some ⟨w.heap.size, 0, none⟩) l.length l.length) l.length xs ∧ TyRow l xs k ∧ Below w.heap.size w wr) (fun i _ => l.length - (intOf i).toNat)
  case atStart => exact ⟨0, by omega, rfl, _, hown, TyRow.zero _ _, below_of_grown hgr (Nat.le_refl _)⟩
  case round =>
    obtain ⟨k, hk, rfl, xs, hown, hrow, hb⟩ := hrel
    clear hgr hi hz0 hz1 hz2
    by_cases hlt : k < l.length
    · obtain ⟨b, off, rfl, hbB, c0, c1⟩ := (Hr.out.below hb (Nat.le_refl _)).2 k hlt
      go_wp2_with (go_at_call 11; refine (toType_any _ _ _).mono ?_; rintro e w2 ⟨rfl, hb2⟩; have hown2 := own_below hown hb2; obtain ⟨v0, f0⟩ := own_cell hown2 (k * 2) (by omega); obtain ⟨v1, f1⟩ := own_cell hown2 (k * 2 + 1) (by omega); have g0 := hown2.frozenAt (k * 2); have g1 := hown2.frozenAt (k * 2 + 1))
      have hx := hown2.1
      have s1 := (hown2.stored (k * 2) (.int .i64 l[k].data)).1
      have s2 := (s1.stored (k * 2 + 1) (.int .i64 l[k].index)).1
      go_roundw
      case rel => exact ⟨k + 1, by omega, by go_num, _, s2, hrow.step hlt hx, ((hb.trans (hb2.mono hb.size)).setCell (Nat.le_refl _) _).setCell (Nat.le_refl _) _⟩
      case measure => simp [intOf]; omega
    · go_wp2_with fail
      go_ret
      exact ⟨_, rfl, FTys.of_row hown (fun j hj _ => hrow j hj (by omega)) hn, hb⟩
/-- Constructors in blocks of their own. -/
def FCt (w : World) (lo : Nat) (c : Ct) (x0 x1 x2 : Option Value) : Prop :=
  ∃ g, x0 = some (.string c.name) ∧ x1 = some (.slice (some ⟨g, 0, none⟩) c.args.length c.args.length) ∧ x2 = some (.int .i64 c.index) ∧ c.name.size ≤ maxLen ∧ FTys w lo g c.args
def FCts (w : World) (lo g : Nat) (l : List Ct) : Prop :=
  lo ≤ g ∧ l.length ≤ maxLen ∧ ∃ cs, w.heap[g]? = some (.cells cs 93 (0, 0)) ∧ cs.size = l.length * 3 ∧ ∀ k (h : k < l.length), FCt w lo l[k] cs[k * 3]? cs[k * 3 + 1]? cs[k * 3 + 2]?
def FDa (w : World) (lo : Nat) (d : Da) (x0 x1 : Option Value) : Prop :=
  ∃ g, x0 = some (.string d.name) ∧ x1 = some (.slice (some ⟨g, 0, none⟩) d.ctors.length d.ctors.length) ∧ d.name.size ≤ maxLen ∧ FCts w lo g d.ctors
def FDas (w : World) (lo g : Nat) (l : List Da) : Prop :=
  lo ≤ g ∧ l.length ≤ maxLen ∧ ∃ cs, w.heap[g]? = some (.cells cs 61 (0, 0)) ∧ cs.size = l.length * 2 ∧ ∀ k (h : k < l.length), FDa w lo l[k] cs[k * 2]? cs[k * 2 + 1]?
theorem heap_lt {w : World} {g : Nat} {o : Obj} (h : w.heap[g]? = some o) : g < w.heap.size := by
  rcases Nat.lt_or_ge g w.heap.size with hlt | hge
  · exact hlt
  · rw [Array.getElem?_eq_none hge] at h; cases h
/-- Blocks of types stay, whatever else is written. -/
theorem FTys.keep {w w' : World} {lo lo' g : Nat} {l : List Ty} (h : FTys w lo g l) (hl : lo' ≤ lo) (hk : ∀ b cs, lo ≤ b → w.heap[b]? = some (.cells cs 33 (0, 0)) → w'.heap[b]? = w.heap[b]?) : FTys w' lo' g l := by
  obtain ⟨h1, h2, cs, h3, h4, h5⟩ := h
  exact ⟨by omega, h2, cs, (hk g cs h1 h3).trans h3, h4, h5⟩
theorem FCts.keep {w w' : World} {lo lo' g : Nat} {l : List Ct} (h : FCts w lo g l) (hl : lo' ≤ lo) (hk : ∀ b cs t, t = 33 ∨ t = 93 → lo ≤ b → w.heap[b]? = some (.cells cs t (0, 0)) → w'.heap[b]? = w.heap[b]?) : FCts w' lo' g l := by
  obtain ⟨h1, h2, cs, h3, h4, h5⟩ := h
  refine ⟨by omega, h2, cs, (hk g cs 93 (.inr rfl) h1 h3).trans h3, h4, fun k hk' => ?_⟩
  obtain ⟨g', e0, e1, e2, e3, e4⟩ := h5 k hk'
  exact ⟨g', e0, e1, e2, e3, e4.keep hl (fun b cs => hk b cs 33 (.inl rfl))⟩
theorem FDas.keep {w w' : World} {lo lo' g : Nat} {l : List Da} (h : FDas w lo g l) (hl : lo' ≤ lo) (hk : ∀ b o, lo ≤ b → w.heap[b]? = some o → w'.heap[b]? = w.heap[b]?) : FDas w' lo' g l := by
  obtain ⟨h1, h2, cs, h3, h4, h5⟩ := h
  refine ⟨by omega, h2, cs, (hk g _ h1 h3).trans h3, h4, fun k hk' => ?_⟩
  obtain ⟨g', e0, e1, e2, e3⟩ := h5 k hk'
  exact ⟨g', e0, e1, e2, e3.keep hl (fun b cs t _ hb he => hk b _ hb he)⟩
theorem cell_of_blk {w : World} {g : Nat} {cs : Array Value} {t : TypeId} (h : w.heap[g]? = some (.cells cs t (0, 0))) (i : Nat) : w.cell? ⟨g, i, none⟩ = cs[i]? := cell_of_row w g i cs t (0, 0) h
theorem FTys.reads {w : World} {lo g : Nat} {l : List Ty} (h : FTys w lo g l) : RTys w w.heap.size (some ⟨g, 0, none⟩) l := by
  obtain ⟨h1, h2, cs, h3, h4, h5⟩ := h
  refine ⟨h2, fun k hk => ⟨g, 0, rfl, heap_lt h3, ?_, ?_⟩⟩
  · rw [cell_of_blk h3, Nat.zero_add]; exact (h5 k hk).1
  · rw [cell_of_blk h3, Nat.zero_add]; exact (h5 k hk).2
theorem FCts.reads {w : World} {lo g : Nat} {l : List Ct} (h : FCts w lo g l) : RCts w w.heap.size (some ⟨g, 0, none⟩) l := by
  obtain ⟨h1, h2, cs, h3, h4, h5⟩ := h
  refine ⟨h2, fun k hk => ⟨g, 0, rfl, heap_lt h3, ?_⟩⟩
  obtain ⟨g', e0, e1, e2, e3, e4⟩ := h5 k hk
  exact ⟨_, _, by rw [cell_of_blk h3, Nat.zero_add]; exact e0, by rw [cell_of_blk h3, Nat.zero_add]; exact e1, by rw [cell_of_blk h3, Nat.zero_add]; exact e2, e3, e4.reads⟩
theorem FDas.reads {w : World} {lo g : Nat} {l : List Da} (h : FDas w lo g l) : RDas w w.heap.size (some ⟨g, 0, none⟩) l := by
  obtain ⟨h1, h2, cs, h3, h4, h5⟩ := h
  refine ⟨h2, fun k hk => ⟨g, 0, rfl, heap_lt h3, ?_⟩⟩
  obtain ⟨g', e0, e1, e3, e4⟩ := h5 k hk
  exact ⟨_, _, by rw [cell_of_blk h3, Nat.zero_add]; exact e0, by rw [cell_of_blk h3, Nat.zero_add]; exact e1, e3, e4.reads⟩
theorem toCtor_any (nm : ByteArray) (A : Option Addr) (l : List Ty) (cap : Nat) (ix : Int) (w : World) (hr : RTys w w.heap.size A l) (hn : l.length ≤ 1048576) :
    Calls Try.prog 77 #[.agg #[.string nm, .slice A l.length cap, .int .i64 ix]] w fun e w' => ∃ g, e = .returned (.agg #[.string nm, .slice (some ⟨g, 0, none⟩) l.length l.length, .int .i64 ix]) ∧ FTys w' w.heap.size g l ∧ Below w.heap.size w w' := by
  have Hr := Lib.hid hr
  clear hr
  go_enter Try.func77, Try.ntmps77
  go_wp2_with (go_at_call 94; refine (toTypeS_any _ _ _ _ (by exact Hr.out.keep (fun p hp => by rw [World.cell?_alloc_lt _ _ _ (by simp; omega), World.cell?_alloc_lt _ _ _ (by simp; omega), World.cell?_alloc_lt _ _ _ hp]) (by simp; omega)) hn).mono ?_; rintro e w1 ⟨g, rfl, hf, hb⟩; obtain ⟨hc, hfz⟩ := bcell hb; have hz : w.heap.size + 2 < w1.heap.size := by have := hb.size; simp at this; omega)
  refine bodyPost_ret (v := .agg #[.string nm, .slice (some ⟨g, 0, none⟩) l.length l.length, .int .i64 ix]) (by simp [results, Try.results77, go_sem, hc]) rfl ⟨g, rfl, ?_, ?_⟩
  · refine hf.keep (by simp; omega) (fun b cs hb' _ => ?_)
    simp only [World.size_alloc] at hb'
    rw [Below.heap_setCell _ _ _ _ (by simp; omega), Below.heap_setCell _ _ _ _ (by simp; omega), Below.heap_setCell _ _ _ _ (by simp; omega), Below.heap_setCell _ _ _ _ (by simp; omega), Below.heap_setCell _ _ _ _ (by simp; omega)]
  · have h3 := ((((Below.refl w.heap.size w).alloc (Nat.le_refl _) (Obj.cells #[Value.string nm, Value.slice A l.length cap, Value.int IntKind.i64 ix] 98)).alloc (by simp) (Obj.cells #[Value.string { data := #[] }, Value.slice none 0 0, Value.int IntKind.i64 0] 93)).alloc (by simp; omega) (Obj.cells #[Value.string nm, Value.slice none 0 0, Value.int IntKind.i64 0] 93)).trans (hb.mono (by simp; omega))
    exact ((((h3.setCell (by simp; omega) _).setCell (by simp; omega) _).setCell (by simp) _).setCell (by simp) _).setCell (by simp) _
/-- What the first k rounds of a copy of constructors have left in the row. -/
def CtRow (w : World) (lo : Nat) (l : List Ct) (xs : List Value) (k : Nat) : Prop := ∀ j (h : j < l.length), j < k → FCt w lo l[j] xs[j * 3]? xs[j * 3 + 1]? xs[j * 3 + 2]?
theorem CtRow.zero (w : World) (lo : Nat) (l : List Ct) (xs : List Value) : CtRow w lo l xs 0 := fun j _ h => absurd h (by omega)
theorem CtRow.keep {w w' : World} {lo : Nat} {l : List Ct} {xs : List Value} {k : Nat} (h : CtRow w lo l xs k) (hk : ∀ b cs, lo ≤ b → w.heap[b]? = some (.cells cs 33 (0, 0)) → w'.heap[b]? = w.heap[b]?) : CtRow w' lo l xs k := by
  intro j hj hjk
  obtain ⟨g, e0, e1, e2, e3, e4⟩ := h j hj hjk
  exact ⟨g, e0, e1, e2, e3, e4.keep (Nat.le_refl _) hk⟩
theorem CtRow.step {w : World} {lo : Nat} {l : List Ct} {xs : List Value} {k g : Nat} (h : CtRow w lo l xs k) (hk : k < l.length) (hx : xs.length = l.length * 3) (hs : l[k].name.size ≤ maxLen) (hf : FTys w lo g l[k].args) :
    CtRow w lo l (((xs.set (k * 3) (.string l[k].name)).set (k * 3 + 1) (.slice (some ⟨g, 0, none⟩) l[k].args.length l[k].args.length)).set (k * 3 + 2) (.int .i64 l[k].index)) (k + 1) := by
  intro j hj hjk
  by_cases e : j = k
  · subst e
    refine ⟨g, ?_, ?_, ?_, hs, hf⟩
    · rw [List.getElem?_set_ne (by omega), List.getElem?_set_ne (by omega), List.getElem?_set_self (by omega)]
    · rw [List.getElem?_set_ne (by omega), List.getElem?_set_self (by simp; omega)]
    · rw [List.getElem?_set_self (by simp; omega)]
  · have := h j hj (by omega)
    rw [List.getElem?_set_ne (by omega), List.getElem?_set_ne (by omega), List.getElem?_set_ne (by omega), List.getElem?_set_ne (by omega), List.getElem?_set_ne (by omega), List.getElem?_set_ne (by omega), List.getElem?_set_ne (by omega), List.getElem?_set_ne (by omega), List.getElem?_set_ne (by omega)]
    exact this
theorem own_heap {w : World} {base : Nat} {e : TypeId} {size g n cap : Nat} {xs : List Value} (h : w.ownsRow base e size (.slice (some ⟨g, 0, none⟩) n cap) n xs) : ∃ cs, w.heap[g]? = some (.cells cs e (0, 0)) := by
  rcases h.2 with ⟨h', _⟩ | ⟨g', cap', cur, h', hb, hg, hnc, hcm, hcs, htake⟩
  · simp at h'
  · simp only [Value.slice.injEq, Option.some.injEq, Addr.mk.injEq, and_true, true_and] at h'
    obtain ⟨rfl, rfl⟩ := h'
    exact ⟨cur, hg⟩
/-- A block of another element type is another block. -/
theorem other_blk {w : World} {g b : Nat} {cs ds : Array Value} {s t : TypeId} (h : w.heap[g]? = some (.cells cs s (0, 0))) (h' : w.heap[b]? = some (.cells ds t (0, 0))) (hne : s ≠ t) : b ≠ g := by
  rintro rfl; rw [h] at h'; injection h' with h'; injection h' with _ ht; exact hne ht
theorem FCts.of_row {w : World} {lo g : Nat} {l : List Ct} {xs : List Value} (h : w.ownsRow lo 93 3 (.slice (some ⟨g, 0, none⟩) l.length l.length) l.length xs) (hx : CtRow w lo l xs l.length) (hn : l.length ≤ 1048576) : FCts w lo g l := by
  rcases h.2 with ⟨h', _⟩ | ⟨g', cap', cur, h', hb, hg, hnc, hcm, hcs, htake⟩
  · simp at h'
  · simp only [Value.slice.injEq, Option.some.injEq, Addr.mk.injEq, and_true, true_and] at h'
    obtain ⟨rfl, rfl⟩ := h'
    refine ⟨hb, by unfold maxLen; omega, cur, hg, hcs, fun k hk => ?_⟩
    rw [List.take_of_length_le (by rw [Array.length_toList]; omega)] at htake
    rw [← Array.getElem?_toList, ← Array.getElem?_toList, ← Array.getElem?_toList, htake]
    exact hx k hk hk
set_option maxHeartbeats 800000 in
theorem toCtorS_any (A : Option Addr) (l : List Ct) (cap : Nat) (w : World) (hr : RCts w w.heap.size A l) (hn : wCts l ≤ 1048576) :
    Calls Try.prog 58 #[.slice A l.length cap] w fun e w' => ∃ g, e = .returned (.slice (some ⟨g, 0, none⟩) l.length l.length) ∧ FCts w' w.heap.size g l ∧ Below w.heap.size w w' := by
  obtain ⟨i0, hi, hz0, hz1, hz2⟩ := info_parts info59
  have Hr := Lib.hid hr
  clear hr
  have hl : l.length ≤ 1048576 := by unfold wCts at hn; omega
  go_enter Try.func58, Try.ntmps58
  go_wp2_with (at_make; refine wpList_make_full _ rfl _ _ 59 rfl w.heap.size 93 i0 _ 3 Try.underlying59 hi hz0 hz1 _ _ _ _ l.length rfl rfl rfl rfl (by rw [hz2]; omega) (by unfold maxLen; omega) (Nat.le_refl _) ?_; intro w1 hown hgr)
  go_loopw [4] (fun i wr => ∃ k : Nat, k ≤ l.length ∧ i = .int .i64 k ∧ ∃ xs, wr.ownsRow w.heap.size 93 3 (.slice (some ⟨w.heap.size, 0, none⟩) l.length l.length) l.length xs ∧ CtRow wr w.heap.size l xs k ∧ Below w.heap.size w wr) (fun i _ => l.length - (intOf i).toNat)
  case atStart => exact ⟨0, by omega, rfl, _, hown, CtRow.zero _ _ _ _, below_of_grown hgr (Nat.le_refl _)⟩
  case round =>
    obtain ⟨k, hk, rfl, xs, hown, hrow, hb⟩ := hrel
    clear hgr hi hz0 hz1 hz2
    by_cases hlt : k < l.length
    · obtain ⟨b, off, rfl, hbB, A', cp, c0, c1, c2, hs, hm⟩ := (Hr.out.below hb (Nat.le_refl _)).2 k hlt
      have ha : l[k].args.length ≤ 1048576 := by
        have h1 := sum_take_succ wCt l k hlt
        have h2 := sum_take_le wCt l (k + 1)
        have h3 : wCt l[k] = l[k].name.size + l[k].args.length := rfl
        unfold wCts at hn; omega
      have Hm := Lib.hid (hm.keep (fun _ _ => rfl) hb.size)
      clear hm
      go_wp2_with (go_at_call 77; refine (toCtor_any _ _ _ _ _ _ Hm.out ha).mono ?_; rintro e w2 ⟨g, rfl, hf, hb2⟩; have hown2 := own_below hown hb2; obtain ⟨v0, f0⟩ := own_cell hown2 (k * 3) (by omega); obtain ⟨v1, f1⟩ := own_cell hown2 (k * 3 + 1) (by omega); obtain ⟨v2, f2⟩ := own_cell hown2 (k * 3 + 2) (by omega); have g0 := hown2.frozenAt (k * 3); have g1 := hown2.frozenAt (k * 3 + 1); have g2 := hown2.frozenAt (k * 3 + 2))
      have hx := hown2.1
      have s1 := (hown2.stored (k * 3) (.string l[k].name)).1
      have s2 := (s1.stored (k * 3 + 1) (.slice (some ⟨g, 0, none⟩) l[k].args.length l[k].args.length)).1
      have s3 := (s2.stored (k * 3 + 2) (.int .i64 l[k].index)).1
      obtain ⟨cs0, hcs0⟩ := own_heap hown2
      have hrow2 : CtRow w2 w.heap.size l xs k := hrow.keep (fun b cs _ hh => hb2.block b (heap_lt hh))
      have hf2 : FTys w2 w.heap.size g l[k].args := hf.keep hb.size (fun _ _ _ _ => rfl)
      have hkeep : ∀ b cs, w.heap.size ≤ b → w2.heap[b]? = some (.cells cs 33 (0, 0)) → (((w2.setCell ⟨w.heap.size, k * 3, none⟩ (.string l[k].name)).setCell ⟨w.heap.size, k * 3 + 1, none⟩ (.slice (some ⟨g, 0, none⟩) l[k].args.length l[k].args.length)).setCell ⟨w.heap.size, k * 3 + 2, none⟩ (.int .i64 l[k].index)).heap[b]? = w2.heap[b]? := fun b cs _ hh => by
        have hne : b ≠ w.heap.size := other_blk hcs0 hh (by decide)
        rw [Below.heap_setCell _ _ _ _ hne, Below.heap_setCell _ _ _ _ hne, Below.heap_setCell _ _ _ _ hne]
      have hrow3 := (hrow2.step hlt hx hs hf2).keep hkeep
      go_roundw
      case rel => exact ⟨k + 1, by omega, by go_num, _, s3, hrow3, (((hb.trans (hb2.mono hb.size)).setCell (Nat.le_refl _) _).setCell (Nat.le_refl _) _).setCell (Nat.le_refl _) _⟩
      case measure => simp [intOf]; omega
    · go_wp2_with fail
      go_ret
      exact ⟨_, rfl, FCts.of_row hown (fun j hj _ => hrow j hj (by omega)) hl, hb⟩
theorem toData_any (nm : ByteArray) (A : Option Addr) (l : List Ct) (cap : Nat) (w : World) (hr : RCts w w.heap.size A l) (hn : wCts l ≤ 1048576) :
    Calls Try.prog 33 #[.agg #[.string nm, .slice A l.length cap]] w fun e w' => ∃ g, e = .returned (.agg #[.string nm, .slice (some ⟨g, 0, none⟩) l.length l.length]) ∧ FCts w' w.heap.size g l ∧ Below w.heap.size w w' := by
  have Hr := Lib.hid hr
  clear hr
  go_enter Try.func33, Try.ntmps33
  go_wp2_with (go_at_call 58; refine (toCtorS_any _ _ _ _ (by exact Hr.out.keep (fun p hp => by rw [World.cell?_alloc_lt _ _ _ (by simp; omega), World.cell?_alloc_lt _ _ _ (by simp; omega), World.cell?_alloc_lt _ _ _ hp]) (by simp; omega)) hn).mono ?_; rintro e w1 ⟨g, rfl, hf, hb⟩; obtain ⟨hc, hfz⟩ := bcell hb; have hz : w.heap.size + 2 < w1.heap.size := by have := hb.size; simp at this; omega)
  refine bodyPost_ret (v := .agg #[.string nm, .slice (some ⟨g, 0, none⟩) l.length l.length]) (by simp [results, Try.results33, go_sem, hc]) rfl ⟨g, rfl, ?_, ?_⟩
  · refine hf.keep (by simp; omega) (fun b cs t _ hb' _ => ?_)
    simp only [World.size_alloc] at hb'
    rw [Below.heap_setCell _ _ _ _ (by simp; omega), Below.heap_setCell _ _ _ _ (by simp; omega), Below.heap_setCell _ _ _ _ (by simp; omega)]
  · have h3 := ((((Below.refl w.heap.size w).alloc (Nat.le_refl _) (Obj.cells #[Value.string nm, Value.slice A l.length cap] 56)).alloc (by simp) (Obj.cells #[Value.string { data := #[] }, Value.slice none 0 0] 61)).alloc (by simp; omega) (Obj.cells #[Value.string nm, Value.slice none 0 0] 61)).trans (hb.mono (by simp; omega))
    exact ((h3.setCell (by simp; omega) _).setCell (by simp) _).setCell (by simp) _
/-- What the first k rounds of a copy of data types have left in the row. -/
def DaRow (w : World) (lo : Nat) (l : List Da) (xs : List Value) (k : Nat) : Prop := ∀ j (h : j < l.length), j < k → FDa w lo l[j] xs[j * 2]? xs[j * 2 + 1]?
theorem DaRow.zero (w : World) (lo : Nat) (l : List Da) (xs : List Value) : DaRow w lo l xs 0 := fun j _ h => absurd h (by omega)
theorem DaRow.keep {w w' : World} {lo : Nat} {l : List Da} {xs : List Value} {k : Nat} (h : DaRow w lo l xs k) (hk : ∀ b cs t, t = 33 ∨ t = 93 → lo ≤ b → w.heap[b]? = some (.cells cs t (0, 0)) → w'.heap[b]? = w.heap[b]?) : DaRow w' lo l xs k := by
  intro j hj hjk
  obtain ⟨g, e0, e1, e2, e3⟩ := h j hj hjk
  exact ⟨g, e0, e1, e2, e3.keep (Nat.le_refl _) hk⟩
theorem DaRow.step {w : World} {lo : Nat} {l : List Da} {xs : List Value} {k g : Nat} (h : DaRow w lo l xs k) (hk : k < l.length) (hx : xs.length = l.length * 2) (hs : l[k].name.size ≤ maxLen) (hf : FCts w lo g l[k].ctors) :
    DaRow w lo l ((xs.set (k * 2) (.string l[k].name)).set (k * 2 + 1) (.slice (some ⟨g, 0, none⟩) l[k].ctors.length l[k].ctors.length)) (k + 1) := by
  intro j hj hjk
  by_cases e : j = k
  · subst e
    refine ⟨g, ?_, ?_, hs, hf⟩
    · rw [List.getElem?_set_ne (by omega), List.getElem?_set_self (by omega)]
    · rw [List.getElem?_set_self (by simp; omega)]
  · have := h j hj (by omega)
    rw [List.getElem?_set_ne (by omega), List.getElem?_set_ne (by omega), List.getElem?_set_ne (by omega), List.getElem?_set_ne (by omega)]
    exact this
theorem FDas.of_row {w : World} {lo g : Nat} {l : List Da} {xs : List Value} (h : w.ownsRow lo 61 2 (.slice (some ⟨g, 0, none⟩) l.length l.length) l.length xs) (hx : DaRow w lo l xs l.length) (hn : l.length ≤ 1048576) : FDas w lo g l := by
  rcases h.2 with ⟨h', _⟩ | ⟨g', cap', cur, h', hb, hg, hnc, hcm, hcs, htake⟩
  · simp at h'
  · simp only [Value.slice.injEq, Option.some.injEq, Addr.mk.injEq, and_true, true_and] at h'
    obtain ⟨rfl, rfl⟩ := h'
    refine ⟨hb, by unfold maxLen; omega, cur, hg, hcs, fun k hk => ?_⟩
    rw [List.take_of_length_le (by rw [Array.length_toList]; omega)] at htake
    rw [← Array.getElem?_toList, ← Array.getElem?_toList, htake]
    exact hx k hk hk
set_option maxHeartbeats 800000 in
theorem toDataS_any (A : Option Addr) (l : List Da) (cap : Nat) (w : World) (hr : RDas w w.heap.size A l) (hn : wDas l ≤ 1048576) :
    Calls Try.prog 10 #[.slice A l.length cap] w fun e w' => ∃ g, e = .returned (.slice (some ⟨g, 0, none⟩) l.length l.length) ∧ FDas w' w.heap.size g l ∧ Below w.heap.size w w' := by
  obtain ⟨i0, hi, hz0, hz1, hz2⟩ := info_parts info56
  have Hr := Lib.hid hr
  clear hr
  have hl : l.length ≤ 1048576 := by unfold wDas at hn; omega
  go_enter Try.func10, Try.ntmps10
  go_wp2_with (at_make; refine wpList_make_full _ rfl _ _ 31 rfl w.heap.size 61 i0 _ 2 Try.underlying31 hi hz0 hz1 _ _ _ _ l.length rfl rfl rfl rfl (by rw [hz2]; omega) (by unfold maxLen; omega) (Nat.le_refl _) ?_; intro w1 hown hgr)
  go_loopw [4] (fun i wr => ∃ k : Nat, k ≤ l.length ∧ i = .int .i64 k ∧ ∃ xs, wr.ownsRow w.heap.size 61 2 (.slice (some ⟨w.heap.size, 0, none⟩) l.length l.length) l.length xs ∧ DaRow wr w.heap.size l xs k ∧ Below w.heap.size w wr) (fun i _ => l.length - (intOf i).toNat)
  case atStart => exact ⟨0, by omega, rfl, _, hown, DaRow.zero _ _ _ _, below_of_grown hgr (Nat.le_refl _)⟩
  case round =>
    obtain ⟨k, hk, rfl, xs, hown, hrow, hb⟩ := hrel
    clear hgr hi hz0 hz1 hz2
    by_cases hlt : k < l.length
    · obtain ⟨b, off, rfl, hbB, A', cp, c0, c1, hs, hm⟩ := (Hr.out.below hb (Nat.le_refl _)).2 k hlt
      have ha : wCts l[k].ctors ≤ 1048576 := by
        have h1 := sum_take_succ wDa l k hlt
        have h2 := sum_take_le wDa l (k + 1)
        have h3 : wDa l[k] = l[k].name.size + wCts l[k].ctors := rfl
        unfold wDas at hn; omega
      have Hm := Lib.hid (hm.keep (fun _ _ => rfl) hb.size)
      clear hm
      go_wp2_with (go_at_call 33; refine (toData_any _ _ _ _ _ Hm.out ha).mono ?_; rintro e w2 ⟨g, rfl, hf, hb2⟩; have hown2 := own_below hown hb2; obtain ⟨v0, f0⟩ := own_cell hown2 (k * 2) (by omega); obtain ⟨v1, f1⟩ := own_cell hown2 (k * 2 + 1) (by omega); have g0 := hown2.frozenAt (k * 2); have g1 := hown2.frozenAt (k * 2 + 1))
      have hx := hown2.1
      have s1 := (hown2.stored (k * 2) (.string l[k].name)).1
      have s2 := (s1.stored (k * 2 + 1) (.slice (some ⟨g, 0, none⟩) l[k].ctors.length l[k].ctors.length)).1
      obtain ⟨cs0, hcs0⟩ := own_heap hown2
      have hrow2 : DaRow w2 w.heap.size l xs k := hrow.keep (fun b cs _ _ _ hh => hb2.block b (heap_lt hh))
      have hf2 : FCts w2 w.heap.size g l[k].ctors := hf.keep hb.size (fun _ _ _ _ _ _ => rfl)
      have hkeep : ∀ b cs t, t = 33 ∨ t = 93 → w.heap.size ≤ b → w2.heap[b]? = some (.cells cs t (0, 0)) → ((w2.setCell ⟨w.heap.size, k * 2, none⟩ (.string l[k].name)).setCell ⟨w.heap.size, k * 2 + 1, none⟩ (.slice (some ⟨g, 0, none⟩) l[k].ctors.length l[k].ctors.length)).heap[b]? = w2.heap[b]? := fun b cs t ht _ hh => by
        have hne : b ≠ w.heap.size := other_blk hcs0 hh (by rcases ht with rfl | rfl <;> decide)
        rw [Below.heap_setCell _ _ _ _ hne, Below.heap_setCell _ _ _ _ hne]
      have hrow3 := (hrow2.step hlt hx hs hf2).keep hkeep
      go_roundw
      case rel => exact ⟨k + 1, by omega, by go_num, _, s2, hrow3, ((hb.trans (hb2.mono hb.size)).setCell (Nat.le_refl _) _).setCell (Nat.le_refl _) _⟩
      case measure => simp [intOf]; omega
    · go_wp2_with fail
      go_ret
      exact ⟨_, rfl, FDas.of_row hown (fun j hj _ => hrow j hj (by omega)) hl, hb⟩
end Go.Proofs.Ytnfjjabeobcenaa
/-
  When types, constructors and data types are valid: the leaves, the program's and the document's. No statement is proved here.
-/
namespace Go.Proofs.Ytnfjjabeobcenaa
open Go.RowKit
set_option maxRecDepth 100000
set_option linter.unusedVariables false
def argB (n : Int) (least : Int) (t : Ty) : Bool := if t.data = -1 then decide (t.index = 0) else decide (0 ≤ t.data ∧ t.data < n ∧ least ≤ t.index ∧ t.index ≤ 3)
def ctorB (n : Int) (c : Ct) : Bool := nameB c.name && (decide (c.args.length ≤ 3) && (decide (0 ≤ c.index ∧ c.index ≤ 3) && c.args.all (argB n (-1))))
def dnameB (s : ByteArray) : Bool := decide (s.size = 1) && (upB ((s.data.toList.headD 0).toNat) && decide (¬ s.toList = [73]))
def dataB (n : Int) (d : Da) : Bool := dnameB d.name && (decide (1 ≤ d.ctors.length ∧ d.ctors.length ≤ 4) && d.ctors.all (ctorB n))
def btw (j i : Int) : Bool := decide (j ≤ i ∧ i ≤ 3)
theorem between_any (i j : Int) (w : World) :
    Calls Try.prog 97 #[.int .i64 i, .int .i64 j] w fun e w' => e = .returned (.bool (btw j i)) ∧ w = w' := by
  by_cases h1 : j ≤ i
  · by_cases h2 : i ≤ 3
    · go_enter Try.func97, Try.ntmps97
      go_wp2_with fail
      go_ret
      exact ⟨ret_bool (decide_eq_true (by omega)).symm, rfl⟩
    · go_enter Try.func97, Try.ntmps97
      go_wp2_with fail
      go_ret
      exact ⟨ret_bool (decide_eq_false (by omega)).symm, rfl⟩
  · go_enter Try.func97, Try.ntmps97
    go_wp2_with fail
    go_ret
    exact ⟨ret_bool (decide_eq_false (by omega)).symm, rfl⟩
theorem argB_int {n least : Int} {t : Ty} (h : t.data = -1) : argB n least t = decide (t.index = 0) := if_pos h
theorem argB_data {n least : Int} {t : Ty} (h : ¬ t.data = -1) : argB n least t = decide (0 ≤ t.data ∧ t.data < n ∧ least ≤ t.index ∧ t.index ≤ 3) := if_neg h
theorem within_any (d i n least : Int) (w : World) :
    Calls Try.prog 79 #[.agg #[.int .i64 d, .int .i64 i], .int .i64 n, .int .i64 least] w fun e w' => e = .returned (.bool (argB n least ⟨d, i⟩)) ∧ Below w.heap.size w w' := by
  have hB : ∀ o : Obj, Below w.heap.size w (w.alloc o) := fun o => (Below.refl _ _).alloc (Nat.le_refl _) _
  have HB := Lib.hid hB
  clear hB
  by_cases h0 : d = -1
  · subst h0
    have H := Lib.hid (argB_int (n := n) (least := least) (t := ⟨-1, i⟩) rfl)
    by_cases h1 : i = 0
    · subst h1
      go_enter Try.func79, Try.ntmps79
      go_wp2_with fail
      go_ret
      exact ⟨ret_bool (by rw [H.out]; rfl), HB.out _⟩
    · have h1' : (i == 0) = false := beq_eq_false_iff_ne.2 h1
      go_enter Try.func79, Try.ntmps79
      go_wp2_with fail
      go_ret
      exact ⟨ret_bool (by rw [H.out]; simp [h1]), HB.out _⟩
  · have h0' : (d == -1) = false := beq_eq_false_iff_ne.2 h0
    have H := Lib.hid (argB_data (n := n) (least := least) (t := ⟨d, i⟩) h0)
    by_cases h1 : 0 ≤ d
    · by_cases h2 : d < n
      · go_enter Try.func79, Try.ntmps79
        go_wp2_with (go_at_call 97; refine (between_any _ _ _).mono ?_; rintro e w1 ⟨rfl, rfl⟩)
        go_ret
        exact ⟨ret_bool (by rw [H.out]; unfold btw; simp only [h1, h2, true_and]), HB.out _⟩
      · go_enter Try.func79, Try.ntmps79
        go_wp2_with fail
        go_ret
        exact ⟨ret_bool (by rw [H.out]; exact (decide_eq_false (by omega)).symm), HB.out _⟩
    · go_enter Try.func79, Try.ntmps79
      go_wp2_with fail
      go_ret
      exact ⟨ret_bool (by rw [H.out]; exact (decide_eq_false (by omega)).symm), HB.out _⟩
theorem arg_any (d i n : Int) (w : World) :
    Calls Try.prog 73 #[.int .i64 n, .agg #[.int .i64 d, .int .i64 i]] w fun e w' => e = .returned (.bool (argB n (-1) ⟨d, i⟩)) ∧ Below w.heap.size w w' := by
  have hB : ∀ o : Obj, Below w.heap.size w (w.alloc o) := fun o => (Below.refl _ _).alloc (Nat.le_refl _) _
  have HB := Lib.hid hB
  clear hB
  by_cases h0 : d = -1
  · subst h0
    have H := Lib.hid (argB_int (n := n) (least := -1) (t := ⟨-1, i⟩) rfl)
    by_cases h1 : i = 0
    · subst h1
      go_enter Try.func73, Try.ntmps73
      go_wp2_with fail
      go_ret
      exact ⟨ret_bool (by rw [H.out]; rfl), HB.out _⟩
    · have h1' : (i == 0) = false := beq_eq_false_iff_ne.2 h1
      go_enter Try.func73, Try.ntmps73
      go_wp2_with fail
      go_ret
      exact ⟨ret_bool (by rw [H.out]; simp [h1]), HB.out _⟩
  · have h0' : (d == -1) = false := beq_eq_false_iff_ne.2 h0
    have H := Lib.hid (argB_data (n := n) (least := -1) (t := ⟨d, i⟩) h0)
    by_cases h1 : 0 ≤ d
    · by_cases h2 : d < n
      · by_cases h3 : -1 ≤ i
        · by_cases h4 : i ≤ 3
          · go_enter Try.func73, Try.ntmps73
            go_wp2_with fail
            go_ret
            exact ⟨ret_bool (by rw [H.out]; exact (decide_eq_true (by omega)).symm), HB.out _⟩
          · go_enter Try.func73, Try.ntmps73
            go_wp2_with fail
            go_ret
            exact ⟨ret_bool (by rw [H.out]; exact (decide_eq_false (by omega)).symm), HB.out _⟩
        · go_enter Try.func73, Try.ntmps73
          go_wp2_with fail
          go_ret
          exact ⟨ret_bool (by rw [H.out]; exact (decide_eq_false (by omega)).symm), HB.out _⟩
      · go_enter Try.func73, Try.ntmps73
        go_wp2_with fail
        go_ret
        exact ⟨ret_bool (by rw [H.out]; exact (decide_eq_false (by omega)).symm), HB.out _⟩
    · go_enter Try.func73, Try.ntmps73
      go_wp2_with fail
      go_ret
      exact ⟨ret_bool (by rw [H.out]; exact (decide_eq_false (by omega)).symm), HB.out _⟩
end Go.Proofs.Ytnfjjabeobcenaa
