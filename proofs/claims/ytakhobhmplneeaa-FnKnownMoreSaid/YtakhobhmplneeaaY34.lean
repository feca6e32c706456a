/-
  cmp.Compare and cmp.Or at int. No statement is proved here.
-/
import Derived.Test.YtakhobhmplneeaaY22
import Derived.Test.YtakhobhmplneeaaY09
import Derived.Test.YtakhobhmplneeaaY33
import Derived.Deep.RegionHeld3
import Derived.Deep.DeepCutAuto
import Derived.BigRegion
namespace Go.Proofs.Ytakhobhmplneeaa
open Go.RowKit Go.Sort Go.Deep
set_option maxRecDepth 100000
set_option linter.unusedVariables false
def cmpI (a b : Int) : Int := if a < b then -1 else if b < a then 1 else 0
theorem cmpI_lt {a b : Int} (h : a < b) : cmpI a b = -1 := if_pos h
theorem cmpI_gt {a b : Int} (h : b < a) : cmpI a b = 1 := by unfold cmpI; rw [if_neg (by omega), if_pos h]
theorem cmpI_eq {a b : Int} (h : a = b) : cmpI a b = 0 := by unfold cmpI; rw [if_neg (by omega), if_neg (by omega)]
theorem cmpI_ne {a b : Int} (h : ¬ a = b) : ¬ cmpI a b = 0 := by
  unfold cmpI
  by_cases h1 : a < b
  · rw [if_pos h1]; omega
  · rw [if_neg h1, if_pos (by omega)]; omega
theorem nan_any (a : Int) (w : World) : Calls Try.prog 61 #[.int .i64 a] w fun e w' => e = .returned (.bool false) ∧ w' = w := by
  have h : (a != a) = false := by simp
  go_enter Try.func61, Try.ntmps61
  go_wp2_with fail
  go_ret
  exact ⟨rfl, rfl⟩
set_option maxHeartbeats 1600000 in
theorem cmp_any (a b : Int) (w : World) : Calls Try.prog 39 #[.int .i64 a, .int .i64 b] w fun e w' => e = .returned (.int .i64 (cmpI a b)) ∧ w' = w := by
  by_cases h : a < b
  · have HE := Lib.hid (cmpI_lt h)
    go_enter Try.func39, Try.ntmps39
    go_wp2_with (go_at_call 61; refine (nan_any _ _).mono ?_; rintro e1 w1 ⟨rfl, rfl⟩)
    go_ret
    exact ⟨ret_i64 HE.out.symm, rfl⟩
  · by_cases h' : b < a
    · have HE := Lib.hid (cmpI_gt h')
      have q1 : decide (a < b) = false := decide_eq_false h
      clear h
      go_enter Try.func39, Try.ntmps39
      go_wp2_with (go_at_call 61; refine (nan_any _ _).mono ?_; rintro e1 w1 ⟨rfl, rfl⟩)
      go_ret
      exact ⟨ret_i64 HE.out.symm, rfl⟩
    · have HE := Lib.hid (cmpI_eq (show a = b by omega))
      have q1 : decide (a < b) = false := decide_eq_false h
      have q2 : decide (b < a) = false := decide_eq_false h'
      clear h h'
      go_enter Try.func39, Try.ntmps39
      go_wp2_with (go_at_call 61; refine (nan_any _ _).mono ?_; rintro e1 w1 ⟨rfl, rfl⟩)
      go_ret
      exact ⟨ret_i64 HE.out.symm, rfl⟩
def orI (a b : Int) : Int := if a = 0 then b else a
theorem orI_zero {a b : Int} : orI a b = 0 ↔ a = 0 ∧ b = 0 := by
  unfold orI
  by_cases h : a = 0
  · rw [if_pos h]; exact ⟨fun h' => ⟨h, h'⟩, fun h' => h'.2⟩
  · rw [if_neg h]; exact ⟨fun h' => absurd h' h, fun h' => h'.1⟩
set_option maxHeartbeats 1600000 in
theorem or_any (g : Nat) (a b : Int) (c : Nat) (w : World) (h0 : w.cell? ⟨g, 0, none⟩ = some (.int .i64 a)) (h1 : w.cell? ⟨g, 1, none⟩ = some (.int .i64 b)) : Calls Try.prog 40 #[.slice (some ⟨g, 0, none⟩) 2 c] w fun e w' => e = .returned (.int .i64 (orI a b)) ∧ w' = w := by
  go_enter Try.func40, Try.ntmps40
  go_wp2_with fail
  go_loopw [8] (fun i wr => ∃ k : Nat, k ≤ 2 ∧ i = .int .i64 k ∧ Hid ((0 < k → a = 0) ∧ (1 < k → b = 0)) ∧ wr = w) (fun i _ => 2 - (intOf i).toNat)
  case atStart => exact ⟨0, by omega, rfl, ⟨fun h => by omega, fun h => by omega⟩, rfl⟩
  case round =>
    obtain ⟨k, hk, rfl, HZ, rfl⟩ := hrel
    by_cases hlt : k < 2
    · have hkI : (k : Int) < 2 := by omega
      obtain ⟨v, hc, hv⟩ : ∃ v : Int, wr.cell? ⟨g, k, none⟩ = some (.int .i64 v) ∧ ((k = 0 ∧ v = a) ∨ (k = 1 ∧ v = b)) := by
        by_cases e : k = 0
        · subst e; exact ⟨a, h0, .inl ⟨rfl, rfl⟩⟩
        · have e : k = 1 := by omega
          subst e; exact ⟨b, h1, .inr ⟨rfl, rfl⟩⟩
      have HV := Lib.hid hv
      clear hv
      by_cases hz : v = 0
      · have u : (v != 0) = false := by simp [hz]
        have HN : Hid ((0 < k + 1 → a = 0) ∧ (1 < k + 1 → b = 0)) := by
          rcases HV.out with ⟨e, h⟩ | ⟨e, h⟩
          · exact ⟨fun _ => by omega, fun h' => by omega⟩
          · exact ⟨fun _ => HZ.out.1 (by omega), fun _ => by omega⟩
        clear hz
        go_wp2_with fail
        go_roundw
        case rel => exact ⟨k + 1, by omega, by go_num, HN, by first | rfl | trivial⟩
        case measure => simp [intOf]; omega
      · have u : (v != 0) = true := by simp [hz]
        have HE : Hid (orI a b = v) := by
          rcases HV.out with ⟨e, h⟩ | ⟨e, h⟩
          · unfold Hid; rw [h]; exact if_neg (by omega)
          · unfold Hid; rw [h]; exact if_pos (HZ.out.1 (by omega))
        clear hz
        go_wp2_with fail
        go_ret
        exact ⟨ret_i64 HE.out.symm, rfl⟩
    · have e2 : k = 2 := by omega
      have HE : Hid (orI a b = 0) := orI_zero.2 ⟨HZ.out.1 (by omega), HZ.out.2 (by omega)⟩
      subst e2
      go_wp2_with fail
      go_ret
      exact ⟨ret_i64 HE.out.symm, rfl⟩
end Go.Proofs.Ytakhobhmplneeaa
/-
  What the walk of CompareValues of the program needs. No statement is proved here.
-/
namespace Go.Proofs.Ytakhobhmplneeaa
open Go.RowKit Go.Sort Go.Deep
set_option maxRecDepth 100000
set_option linter.unusedVariables false
theorem wp_mapUpdate_kyV {w : World} {ops : Array Oper} {rest : List Oper} {o : Oper} {a : Act} {Q : Exit → Act → World → Prop}
    (hg : o.guard = none) (m x v : Operand) (hop : o.op = Op.mapUpdate 65 m x v) (b : Nat) (S : List KyV) (k : KyV)
    (hm : a.eval m = .map (some b)) (hS : MapKyV w b S) (hk : LiesKV w k) (hl : ∀ k' ∈ S, LiesKV w k') (hn : ¬ k ∈ S) (hx : a.eval x = k.v) (hv : a.eval v = .bool true)
    (hK : ∀ w', MapKyV w' b (S ++ [k]) → w.grownBy w' (some b) → wpList Try.prog ops Q rest (a.put o.dst undef) w') :
    wpList Try.prog ops Q (o :: rest) a w := by
  refine wpList_plain hg fun K' hK' => ?_
  obtain ⟨w', hrun, r1, r2⟩ := hS.put hk hl hn
  unfold Oper.wp
  simp [execOp, hop, hm, hx, hv, hrun, Result.andThen]
  exact hK' _ _ (hK w' r1 r2)
theorem infoPairV : (Try.prog.info? 67).map (fun i => (i.zero, i.size, i.bytes)) = some (some (.agg #[.slice none 0 0, .slice none 0 0]), 2, 48) := by kernel_rfl
theorem SfV.single {d m : Nat} {w : World} {P : Nat → Prop} {D : Option Addr} {c L : Nat} {p : Vl} (h : OVc d w P D p.kids) (hc : p.kids.length ≤ c ∧ c ≤ maxLen) (hL : w.heap[L]? = some (.cells #[.int .i64 p.ctor, .int .i64 p.n, .slice D p.kids.length c] 28 (0, 0))) (hP : ∀ b, P b → b < w.heap.size ∧ b ≠ m) (hm : L ≠ m) : SfV d w m P (some ⟨L, 0, none⟩) [p] := by
  refine ⟨by unfold maxLen; simp, hP, fun _ => ⟨L, 0, fun _ => P, rfl, heap_lt hL, hm, fun k b hk hb => ⟨hb, fun j hj hjk => ?_⟩, fun k hk => ?_⟩⟩
  · simp at hk hj; omega
  · have : k = 0 := by simp at hk; omega
    subst this
    exact ⟨D, c, (cell_of_blk hL _).trans rfl, (cell_of_blk hL _).trans rfl, (cell_of_blk hL _).trans rfl, hc, h⟩
def ZbKV (w : World) (g : Nat) : Prop := w.heap[g]? = some (.cells #[.pointer none, .int .i64 0, .pointer none, .int .i64 0] 76 (0, 0))
theorem heap_newV (w : World) (o : Obj) : (w.alloc o).heap[w.heap.size]? = some o := by show (w.heap.push o)[w.heap.size]? = _; simp
theorem ZbKV.new (w : World) : ZbKV (w.alloc (.cells #[.pointer none, .int .i64 0, .pointer none, .int .i64 0] 76)) w.heap.size := heap_newV _ _
theorem ZbKV.at_ {w w' : World} {g : Nat} (h : ZbKV w g) (hb : Below w.heap.size w w') : ZbKV w' g := (hb.block g (heap_lt h)).trans h
theorem ZbKV.cells {w : World} {g : Nat} (h : ZbKV w g) : w.cell? ⟨g, 0, none⟩ = some (.pointer none) ∧ w.cell? ⟨g, 1, none⟩ = some (.int .i64 0) ∧ w.cell? ⟨g, 2, none⟩ = some (.pointer none) ∧ w.cell? ⟨g, 3, none⟩ = some (.int .i64 0) ∧ w.frozen? ⟨g, 0, none⟩ = false ∧ w.frozen? ⟨g, 1, none⟩ = false ∧ w.frozen? ⟨g, 2, none⟩ = false ∧ w.frozen? ⟨g, 3, none⟩ = false :=
  ⟨(cell_of_blk h 0).trans rfl, (cell_of_blk h 1).trans rfl, (cell_of_blk h 2).trans rfl, (cell_of_blk h 3).trans rfl, frozen_of_row w g 0 _ 76 h, frozen_of_row w g 1 _ 76 h, frozen_of_row w g 2 _ 76 h, frozen_of_row w g 3 _ 76 h⟩
def StKV (w1 : World) (g : Nat) (k : KyV) (wx : World) : Prop := w1.heap.size ≤ g ∧ Below w1.heap.size w1 wx ∧ wx.heap[g]? = some (.cells #[.pointer k.a, .int .i64 k.n, .pointer k.b, .int .i64 k.m] 76 (0, 0))
theorem StKV.new {w1 w3 : World} {a b : Option Addr} {n m : Nat} (hb : Below w1.heap.size w1 w3) : StKV w1 w3.heap.size ⟨a, n, b, m⟩ (w3.alloc (.cells #[.pointer a, .int .i64 n, .pointer b, .int .i64 m] 76)) := ⟨hb.size, hb.alloc hb.size _, heap_newV _ _⟩
theorem StKV.set {w1 w3 : World} {g : Nat} {a b : Option Addr} {n m : Nat} (hb : Below w1.heap.size w1 w3) (hz : ZbKV w3 g) (hg : w1.heap.size ≤ g) : StKV w1 g ⟨a, n, b, m⟩ ((((w3.setCell ⟨g, 0, none⟩ (.pointer a)).setCell ⟨g, 1, none⟩ (.int .i64 n)).setCell ⟨g, 2, none⟩ (.pointer b)).setCell ⟨g, 3, none⟩ (.int .i64 m)) :=
  ⟨hg, (((hb.setCell hg _).setCell hg _).setCell hg _).setCell hg _, heap_setCell_same _ g _ _ _ _ (heap_setCell_same _ g _ _ _ _ (heap_setCell_same _ g _ _ _ _ (heap_setCell_same _ g _ _ _ _ hz)))⟩
theorem StKV.cells {w1 wx : World} {g : Nat} {k : KyV} (h : StKV w1 g k wx) : wx.cell? ⟨g, 0, none⟩ = some (.pointer k.a) ∧ wx.cell? ⟨g, 1, none⟩ = some (.int .i64 k.n) ∧ wx.cell? ⟨g, 2, none⟩ = some (.pointer k.b) ∧ wx.cell? ⟨g, 3, none⟩ = some (.int .i64 k.m) :=
  ⟨(cell_of_blk h.2.2 0).trans rfl, (cell_of_blk h.2.2 1).trans rfl, (cell_of_blk h.2.2 2).trans rfl, (cell_of_blk h.2.2 3).trans rfl⟩
theorem below_set4V {w1 w3 : World} {g : Nat} (hb : Below w1.heap.size w1 w3) (hg : w1.heap.size ≤ g) (a b c d : Value) : Below w1.heap.size w1 ((((w3.setCell ⟨g, 0, none⟩ a).setCell ⟨g, 1, none⟩ b).setCell ⟨g, 2, none⟩ c).setCell ⟨g, 3, none⟩ d) := (((hb.setCell hg _).setCell hg _).setCell hg _).setCell hg _
/-- Two values that stand in blocks of their own. -/
def TwoV (w1 : World) (g g2 : Nat) (u v : Vl) (A B : Option Addr) (ca cb : Nat) (wx : World) : Prop := w1.heap.size ≤ g ∧ w1.heap.size ≤ g2 ∧ Below w1.heap.size w1 wx ∧ wx.heap[g]? = some (.cells #[.int .i64 u.ctor, .int .i64 u.n, .slice A u.kids.length ca] 28 (0, 0)) ∧ wx.heap[g2]? = some (.cells #[.int .i64 v.ctor, .int .i64 v.n, .slice B v.kids.length cb] 28 (0, 0))
theorem TwoV.new1 (w1 : World) (u v : Vl) (A B : Option Addr) (ca cb : Nat) : TwoV w1 w1.heap.size (w1.heap.size + 1) u v A B ca cb (((w1.alloc (.cells #[.int .i64 u.ctor, .int .i64 u.n, .slice A u.kids.length ca] 28)).alloc (.cells #[.int .i64 v.ctor, .int .i64 v.n, .slice B v.kids.length cb] 28)).drew) := by
  refine ⟨Nat.le_refl _, by omega, (((Below.refl _ _).alloc (Nat.le_refl _) _).alloc (by simp) _).drew, (Below.heap_alloc _ _ _ (by simp)).trans (heap_newV _ _), ?_⟩
  have h := heap_newV (w1.alloc (.cells #[.int .i64 u.ctor, .int .i64 u.n, .slice A u.kids.length ca] 28)) (.cells #[.int .i64 v.ctor, .int .i64 v.n, .slice B v.kids.length cb] 28)
  rw [World.size_alloc] at h
  exact h
theorem TwoV.new2 (w1 : World) (u v : Vl) (A B : Option Addr) (ca cb : Nat) : TwoV w1 (w1.heap.size + 1) w1.heap.size u v A B ca cb (((w1.alloc (.cells #[.int .i64 v.ctor, .int .i64 v.n, .slice B v.kids.length cb] 28)).alloc (.cells #[.int .i64 u.ctor, .int .i64 u.n, .slice A u.kids.length ca] 28)).drew) := by
  refine ⟨by omega, Nat.le_refl _, (((Below.refl _ _).alloc (Nat.le_refl _) _).alloc (by simp) _).drew, ?_, (Below.heap_alloc _ _ _ (by simp)).trans (heap_newV _ _)⟩
  have h := heap_newV (w1.alloc (.cells #[.int .i64 v.ctor, .int .i64 v.n, .slice B v.kids.length cb] 28)) (.cells #[.int .i64 u.ctor, .int .i64 u.n, .slice A u.kids.length ca] 28)
  rw [World.size_alloc] at h
  exact h
theorem or_row (a b : Int) (w : World) : Calls Try.prog 40 #[.slice (some ⟨w.heap.size, 0, none⟩) 2 2] ((w.alloc (.cells #[.int .i64 a, .int .i64 b] 3)).drew) fun e w' => e = .returned (.int .i64 (orI a b)) ∧ w' = (w.alloc (.cells #[.int .i64 a, .int .i64 b] 3)).drew := or_any _ _ _ _ _ ((cell_of_blk (heap_newV w (.cells #[.int .i64 a, .int .i64 b] 3)) 0).trans rfl) ((cell_of_blk (heap_newV w (.cells #[.int .i64 a, .int .i64 b] 3)) 1).trans rfl)
def RsV (wc : World) (g i gA offA gB offB : Nat) (la lb : List Vl) (wx : World) : Prop := ∃ A3 B3 c3 c4, (A3 = some ⟨gA, offA + 3, none⟩ ∨ la = []) ∧ (B3 = some ⟨gB, offB + 3, none⟩ ∨ lb = []) ∧ (la.length ≤ c3 ∧ c3 ≤ maxLen) ∧ (lb.length ≤ c4 ∧ c4 ≤ maxLen) ∧ wx.heap[g]? = ((wc.setCell ⟨g, i, none⟩ (.slice A3 la.length c3)).setCell ⟨g, i + 1, none⟩ (.slice B3 lb.length c4)).heap[g]? ∧ Fr (fun b => b = g) wc wx
theorem RsV.mk {wc : World} {g i gA offA gB offB : Nat} {la lb : List Vl} {A3 B3 : Option Addr} {c3 c4 : Nat} (hA : A3 = some ⟨gA, offA + 3, none⟩ ∨ la = []) (hB : B3 = some ⟨gB, offB + 3, none⟩ ∨ lb = []) (hc : la.length ≤ c3 ∧ c3 ≤ maxLen) (hd : lb.length ≤ c4 ∧ c4 ≤ maxLen) : RsV wc g i gA offA gB offB la lb (((wc.setCell ⟨g, i, none⟩ (.slice A3 la.length c3)).setCell ⟨g, i + 1, none⟩ (.slice B3 lb.length c4)).drew) :=
  ⟨A3, B3, c3, c4, hA, hB, hc, hd, rfl, ((Fr.set (P := fun b => b = g) _ _ _ _ rfl).trans (Fr.set (P := fun b => b = g) _ _ _ _ rfl)).trans (Fr.below (Below.refl _ _).drew)⟩
theorem Fr.highV {m g : Nat} {w wr w' : World} (h : Fr (fun b => b = m) w wr) (hg : Fr (fun b => b = g) wr w') (hlo : w.heap.size ≤ g) : Fr (fun b => b = m) w w' :=
  ⟨hg.1.trans h.1, hg.2.1.trans h.2.1, hg.2.2.1.trans h.2.2.1, Nat.le_trans h.size hg.size, fun b hb hn => (hg.2.2.2.2 b (Nat.lt_of_lt_of_le hb h.size) (by omega)).trans (h.2.2.2.2 b hb hn)⟩
theorem SfV.at_ {d m : Nat} {w : World} {P : Nat → Prop} {A A3 : Option Addr} {l : List Vl} (h : SfV d w m P A l) (hA : A3 = A ∨ l = []) : SfV d w m P A3 l := by
  rcases hA with rfl | rfl
  · exact h
  · exact SfV.empty _ h.2.1
theorem TwoV.cells {w1 wx : World} {g g2 : Nat} {u v : Vl} {A B : Option Addr} {ca cb : Nat} (h : TwoV w1 g g2 u v A B ca cb wx) : wx.cell? ⟨g, 0, none⟩ = some (.int .i64 u.ctor) ∧ wx.cell? ⟨g, 1, none⟩ = some (.int .i64 u.n) ∧ wx.cell? ⟨g, 2, none⟩ = some (.slice A u.kids.length ca) ∧ wx.cell? ⟨g2, 0, none⟩ = some (.int .i64 v.ctor) ∧ wx.cell? ⟨g2, 1, none⟩ = some (.int .i64 v.n) ∧ wx.cell? ⟨g2, 2, none⟩ = some (.slice B v.kids.length cb) :=
  ⟨(cell_of_blk h.2.2.2.1 0).trans rfl, (cell_of_blk h.2.2.2.1 1).trans rfl, (cell_of_blk h.2.2.2.1 2).trans rfl, (cell_of_blk h.2.2.2.2 0).trans rfl, (cell_of_blk h.2.2.2.2 1).trans rfl, (cell_of_blk h.2.2.2.2 2).trans rfl⟩
end Go.Proofs.Ytakhobhmplneeaa
