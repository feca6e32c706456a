/-
  operandOf: what stands behind the names of a pattern. No statement is proved here.
-/
import Derived.Test.YtbdiahnelnbdnaaW00
import Derived.Test.YtbdiahnelnbdnaaW01
import Derived.Maps.Own
import Derived.Maps.OwnOps
import Derived.Maps.Views
import Derived.Outline
import Derived.Lib.QuietBelow
import Derived.Deep.QuietTactic
import Derived.Deep.RegionHeld3
namespace Go.Proofs.Ytbdiahnelnbdnaa
open Go.RowKit Go.Sort Go.Deep
set_option maxRecDepth 100000
set_option linter.unusedVariables false
theorem wp_mapUpdate_kvB {w : World} {ops : Array Oper} {rest : List Oper} {o : Oper} {a : Act} {Q : Exit → Act → World → Prop}
    (hg : o.guard = none) (m x v : Operand) (hop : o.op = Op.mapUpdate 46 m x v) (b : Nat) (S : List Kv) (k : Kv)
    (hm : a.eval m = .map (some b)) (hS : MapKv w b S) (hk : LiesKv w k) (hl : ∀ k' ∈ S, LiesKv w k') (hn : ¬ k ∈ S) (hx : a.eval x = k.v)
    (hK : ∀ w', MapKv w' b (S ++ [k]) → w.grownBy w' (some b) → wpList Try.prog ops Q rest (a.put o.dst undef) w') :
    wpList Try.prog ops Q (o :: rest) a w := by
  refine wpList_plain hg fun K' hK' => ?_
  obtain ⟨w', hrun, r1, r2⟩ := hS.putB hk hl hn (a.eval v)
  unfold Oper.wp
  simp [execOp, hop, hm, hx, hrun, Result.andThen]
  exact hK' _ _ (hK w' r1 r2)
/-- The least number that has a property. -/
noncomputable def lstB (P : Nat → Prop) : Nat := @dite _ (∃ n, P n ∧ ∀ m, P m → n ≤ m) (Classical.propDecidable _) (fun h => Classical.choose h) (fun _ => 0)
theorem least_exB (P : Nat → Prop) : ∀ n, P n → ∃ n, P n ∧ ∀ m, P m → n ≤ m := by
  intro n
  induction n using Nat.strongRecOn with
  | ind n ih =>
    intro h
    by_cases e : ∃ m, m < n ∧ P m
    · obtain ⟨m, hm, hp⟩ := e; exact ih m hm hp
    · exact ⟨n, h, fun m hm => by
        by_cases hl : m < n
        · exact absurd ⟨m, hl, hm⟩ e
        · omega⟩
theorem lstB_spec {P : Nat → Prop} {n : Nat} (h : P n) : P (lstB P) ∧ ∀ m, P m → lstB P ≤ m := by
  have hx := least_exB P n h
  unfold lstB
  rw [dif_pos hx]
  exact Classical.choose_spec hx
theorem LiesKv.at_ {w w' : World} {k : Kv} (h : LiesKv w k) (hb : Below w.heap.size w w') : LiesKv w' k := fun x hx => by
  obtain ⟨c, t, h1⟩ := h x hx
  exact ⟨c, t, (hb.block _ (heap_lt h1)).trans h1⟩
theorem MapKv.at_ {w w' : World} {b : Nat} {S : List Kv} (h : MapKv w b S) (hb : Below w.heap.size w w') : MapKv w' b S := h.keep (hb.block b (by obtain ⟨_, _, h1, _⟩ := h; exact heap_lt h1))
theorem wPs_head (l : List Pt) (h : 0 < l.length) : 1 + wP l[0] ≤ wPs l := by
  cases l with
  | nil => cases h
  | cons a l => rw [wPs]; show 1 + wP a ≤ _; omega
/-- What operandOf returns. -/
def OpQ (d : Nat) (P : Nat → Prop) (p : Pt) (w : World) (e : Ending) (w' : World) : Prop := ∃ (q : Pt) (E : Option Addr) (c : Nat), e = .returned (.agg #[.int .i64 q.op, .int .i64 q.ctor, .int .i64 q.n, .int .i64 q.m, .int .i64 q.var, .slice E q.kids.length c]) ∧ bareP p = .mk q.op q.ctor q.n q.m q.var (barePs q.kids) ∧ OPs d w' P E q.kids ∧ wPs q.kids ≤ wPs p.kids ∧ Below w.heap.size w w'
/-- What holds before each round: the box has a node that stands for the same; no list behind it has been met. -/
def RelO (w wS : World) (d : Nat) (P : Nat → Prop) (p : Pt) (wr : World) (n : Nat) : Prop := ∃ (q : Pt) (E : Option Addr) (c : Nat) (S : List Kv) (P' : Nat → Prop), n = wPs q.kids ∧ wr.heap[w.heap.size]? = some (.cells #[.int .i64 q.op, .int .i64 q.ctor, .int .i64 q.n, .int .i64 q.m, .int .i64 q.var, .slice E q.kids.length c] 28 (0, 0)) ∧ MapKv wr (w.heap.size + 2) S ∧ OPs d wr P' E q.kids ∧ (∀ b, P' b → P b) ∧ bareP q = bareP p ∧ wPs q.kids ≤ wPs p.kids ∧ (∀ k ∈ S, LiesKv wr k ∧ ∃ g, k.a = some ⟨g, 0, none⟩ ∧ P g ∧ ¬ P' g) ∧ Fr (fun b => b = w.heap.size ∨ b = w.heap.size + 2) wS wr
theorem heap_set6 {w : World} {g : Nat} {x0 x1 x2 x3 x4 x5 : Value} {t : TypeId} (h : w.heap[g]? = some (.cells #[x0, x1, x2, x3, x4, x5] t (0, 0))) (u0 u1 u2 u3 u4 u5 : Value) :
    ((((((w.setCell ⟨g, 0, none⟩ u0).setCell ⟨g, 1, none⟩ u1).setCell ⟨g, 2, none⟩ u2).setCell ⟨g, 3, none⟩ u3).setCell ⟨g, 4, none⟩ u4).setCell ⟨g, 5, none⟩ u5).heap[g]? = some (.cells #[u0, u1, u2, u3, u4, u5] t (0, 0)) ∧
    Fr (fun b => b = g) w ((((((w.setCell ⟨g, 0, none⟩ u0).setCell ⟨g, 1, none⟩ u1).setCell ⟨g, 2, none⟩ u2).setCell ⟨g, 3, none⟩ u3).setCell ⟨g, 4, none⟩ u4).setCell ⟨g, 5, none⟩ u5) := by
  refine ⟨?_, (((((Fr.set (P := fun b => b = g) _ _ _ _ rfl).trans (Fr.set _ _ _ _ rfl)).trans (Fr.set _ _ _ _ rfl)).trans (Fr.set _ _ _ _ rfl)).trans (Fr.set _ _ _ _ rfl)).trans (Fr.set _ _ _ _ rfl)⟩
  have h1 := heap_setCell_same w g 0 _ _ u0 h
  have h2 := heap_setCell_same _ g 1 _ _ u1 h1
  have h3 := heap_setCell_same _ g 2 _ _ u2 h2
  have h4 := heap_setCell_same _ g 3 _ _ u3 h3
  have h5 := heap_setCell_same _ g 4 _ _ u4 h4
  exact heap_setCell_same _ g 5 _ _ u5 h5
theorem OPs.first {d : Nat} {w : World} {P : Nat → Prop} {A : Option Addr} {l : List Pt} (h : OPs d w P A l) (h0 : 0 < l.length) : ∃ g cs Q A' cap, A = some ⟨g, 0, none⟩ ∧ P g ∧ l.length ≤ maxLen ∧ w.heap[g]? = some (.cells cs 28 (0, 0)) ∧ (∀ b, Q b → P b ∧ b ≠ g) ∧ w.cell? ⟨g, 0, none⟩ = some (.int .i64 l[0].op) ∧ w.cell? ⟨g, 1, none⟩ = some (.int .i64 l[0].ctor) ∧ w.cell? ⟨g, 2, none⟩ = some (.int .i64 l[0].n) ∧ w.cell? ⟨g, 3, none⟩ = some (.int .i64 l[0].m) ∧ w.cell? ⟨g, 4, none⟩ = some (.int .i64 l[0].var) ∧ w.cell? ⟨g, 5, none⟩ = some (.slice A' l[0].kids.length cap) ∧ OPs d w Q A' l[0].kids := by
  obtain ⟨d', hd, hl, hp⟩ := h.parts
  obtain ⟨g, cs, Q, e, hg, hh, hq, hc⟩ := hp h0
  obtain ⟨A', cap, e0, e1, e2, e3, e4, e5, e6⟩ := hc 0 h0
  exact ⟨g, cs, Q 0, A', cap, e, hg, hl, hh, fun b hb => ⟨(hq 0 b h0 hb).1, (hq 0 b h0 hb).2.1⟩, (cell_of_blk hh _).trans e0, (cell_of_blk hh _).trans e1, (cell_of_blk hh _).trans e2, (cell_of_blk hh _).trans e3, (cell_of_blk hh _).trans e4, (cell_of_blk hh _).trans e5, e6.more (by omega)⟩
set_option maxHeartbeats 8000000 in
theorem op_any (d : Nat) (P : Nat → Prop) (D : Option Addr) (ep : Nat) (p : Pt) (w : World) (h : OPs d w P D p.kids) (hP : ∀ b, P b → b < w.heap.size) :
    Calls Try.prog 13 #[.agg #[.int .i64 p.op, .int .i64 p.ctor, .int .i64 p.n, .int .i64 p.m, .int .i64 p.var, .slice D p.kids.length ep]] w (OpQ d P p w) := by
  generalize hws : (((w.alloc (.cells #[.int .i64 p.op, .int .i64 p.ctor, .int .i64 p.n, .int .i64 p.m, .int .i64 p.var, .slice D p.kids.length ep] 28)).alloc (.cells #[.int .i64 0, .int .i64 0, .int .i64 0, .int .i64 0, .int .i64 0, .slice none 0 0] 28)).alloc (.map #[] 0)) = wS
  have hbs : Below w.heap.size w wS := by rw [← hws]; exact (((Below.refl _ _).alloc (Nat.le_refl _) _).alloc (by simp) _).alloc (by simp; omega) _
  have hss : w.heap.size + 3 ≤ wS.heap.size := by rw [← hws]; simp
  have HZ : Hid (ZbP wS (w.heap.size + 1)) := by
    have h := ZbP.new (w.alloc (.cells #[.int .i64 p.op, .int .i64 p.ctor, .int .i64 p.n, .int .i64 p.m, .int .i64 p.var, .slice D p.kids.length ep] 28))
    simp only [World.size_alloc] at h
    unfold Hid; rw [← hws]; exact (Below.heap_alloc _ _ _ (by simp)).trans h
  have HBS := Lib.hid hbs
  have HR0 : Hid (RelO w wS d P p wS (wPs p.kids)) := by
    have hk := MapKv.made ((w.alloc (.cells #[.int .i64 p.op, .int .i64 p.ctor, .int .i64 p.n, .int .i64 p.m, .int .i64 p.var, .slice D p.kids.length ep] 28)).alloc (.cells #[.int .i64 0, .int .i64 0, .int .i64 0, .int .i64 0, .int .i64 0, .slice none 0 0] 28))
    simp only [World.size_alloc] at hk
    refine ⟨p, D, ep, [], P, rfl, ?_, by rw [← hws]; exact hk, h.fr _ (Fr.below (P := fun _ => False) hbs) (fun _ _ h => h), fun _ h => h, rfl, Nat.le_refl _, fun k hk => (by cases hk), Fr.refl _ _⟩
    rw [← hws, Below.heap_alloc _ _ _ (by simp; omega), Below.heap_alloc _ _ _ (by simp)]
    exact heap_alloc_new _ _
  have HWS := Lib.hid hws
  clear hws h hbs
  have hmm := @run_makeMap Try.prog
  go_enter Try.func13, Try.ntmps13
  go_wp2_with fail
  rw [HWS.out]
  clear hmm
  go_loopw [22] (fun _ wr => ∃ n, RelO w wS d P p wr n) (fun _ wr => lstB (RelO w wS d P p wr))
  case atStart => exact ⟨_, HR0.out⟩
  case round =>
    clear HR0
    obtain ⟨n0, hn0⟩ := hrel
    obtain ⟨hrl, _⟩ := lstB_spec hn0
    obtain ⟨q, E, c, S, P', hmu, hbx, hmap, hop, hsub, hbare, hw, hS, hfr⟩ := hrl
    clear hn0
    have HMU := Lib.hid hmu
    have HFR := Lib.hid hfr
    have HBXX := Lib.hid hbx
    have HMAP := Lib.hid hmap
    have HOP := Lib.hid hop
    have HSUB := Lib.hid hsub
    have HBARE := Lib.hid hbare
    have HS := Lib.hid hS
    have hfs := hfr.size
    have x0 := (cell_of_blk hbx 0).trans rfl
    have x1 := (cell_of_blk hbx 1).trans rfl
    have x2 := (cell_of_blk hbx 2).trans rfl
    have x3 := (cell_of_blk hbx 3).trans rfl
    have x4 := (cell_of_blk hbx 4).trans rfl
    have x5 := (cell_of_blk hbx 5).trans rfl
    have HZ9 : Hid (wr.heap[w.heap.size + 1]? = some (.cells #[.int .i64 0, .int .i64 0, .int .i64 0, .int .i64 0, .int .i64 0, .slice none 0 0] 28 (0, 0))) := hfr.block HZ.out (by omega)
    have HBW : Hid (Below w.heap.size w wr) := HBS.out.trans (hfr.to HBS.out.size (fun b h => by show ¬ (b = _ ∨ b = _); omega))
    clear hmu hfr hbx hmap hop hsub hbare hS
    have hr6 := HZ9.out
    have f0 := frozen_of_row wr (w.heap.size + 1) 0 _ 28 hr6
    have f1 := frozen_of_row wr (w.heap.size + 1) 1 _ 28 hr6
    have f2 := frozen_of_row wr (w.heap.size + 1) 2 _ 28 hr6
    have f3 := frozen_of_row wr (w.heap.size + 1) 3 _ 28 hr6
    have f4 := frozen_of_row wr (w.heap.size + 1) 4 _ 28 hr6
    have f5 := frozen_of_row wr (w.heap.size + 1) 5 _ 28 hr6
    have r0 := (cell_of_blk hr6 0).trans rfl
    have r1 := (cell_of_blk hr6 1).trans rfl
    have r2 := (cell_of_blk hr6 2).trans rfl
    have r3 := (cell_of_blk hr6 3).trans rfl
    have r4 := (cell_of_blk hr6 4).trans rfl
    have r5 := (cell_of_blk hr6 5).trans rfl
    clear hr6
    by_cases h6 : q.op = 6
    · have u6 : (q.op == 6) = true := ieq_t h6
      have u2 : (q.op == 2) = false := ieq_f (by omega)
      have H6 := Lib.hid h6
      clear h6
      by_cases h0 : 0 < q.kids.length
      · have u0 : (q.kids.length : Int) > 0 := by omega
        obtain ⟨g, cs, Q, A', cap, rfl, hPg, hml, hh, hQ, e0, e1, e2, e3, e4, e5, hq0⟩ := HOP.out.first h0
        have HKK : Hid (LiesKv wr ⟨some ⟨g, 0, none⟩, q.kids.length⟩) := fun x hx => by cases hx; exact ⟨_, _, hh⟩
        have HNS : Hid (¬ (Kv.mk (some ⟨g, 0, none⟩) q.kids.length) ∈ S) := fun h => by
          obtain ⟨_, g', hg', _, h2⟩ := HS.out _ h
          cases hg'
          exact h2 hPg
        have HKY := Lib.hid (keyOfP_any g q.kids.length c wr hml h0)
        have hgw : g < wr.heap.size := heap_lt hh
        have hgP := hP g (HSUB.out g hPg)
        have HHH := Lib.hid hh
        have HQ := Lib.hid hQ
        have HQ0 := Lib.hid hq0
        clear hh hQ hq0 f0 f1 f2 f3 f4 f5 r0 r1 r2 r3 r4 r5
        have HX5 : Hid (∀ W, Below wr.heap.size wr W → W.cell? ⟨w.heap.size, 5, none⟩ = some (.slice (some ⟨g, 0, none⟩) q.kids.length c)) := fun W h => (h.cell (p := ⟨w.heap.size, 5, none⟩) (heap_lt HBXX.out)).trans x5
        have HE : Hid (∀ W : World, W.heap[g]? = wr.heap[g]? → W.cell? ⟨g, 0, none⟩ = some (.int .i64 q.kids[0].op) ∧ W.cell? ⟨g, 1, none⟩ = some (.int .i64 q.kids[0].ctor) ∧ W.cell? ⟨g, 2, none⟩ = some (.int .i64 q.kids[0].n) ∧ W.cell? ⟨g, 3, none⟩ = some (.int .i64 q.kids[0].m) ∧ W.cell? ⟨g, 4, none⟩ = some (.int .i64 q.kids[0].var) ∧ W.cell? ⟨g, 5, none⟩ = some (.slice A' q.kids[0].kids.length cap)) := fun W h => ⟨(World.cell?_of_block (a := ⟨g, 0, none⟩) h).trans e0, (World.cell?_of_block (a := ⟨g, 1, none⟩) h).trans e1, (World.cell?_of_block (a := ⟨g, 2, none⟩) h).trans e2, (World.cell?_of_block (a := ⟨g, 3, none⟩) h).trans e3, (World.cell?_of_block (a := ⟨g, 4, none⟩) h).trans e4, (World.cell?_of_block (a := ⟨g, 5, none⟩) h).trans e5⟩
        have hmb : w.heap.size + 2 < wr.heap.size := by omega
        clear e0 e1 e2 e3 e4 e5
        go_wp2_with (first
          | (go_at_call 14; refine HKY.out.mono ?_; rintro e1 w1 ⟨rfl, hb1⟩; have HB1 := Lib.hid hb1; have hlook : (Instr.lookup 46 (.map (some (w.heap.size + 2))) (.agg #[.pointer (some ⟨g, 0, none⟩), .int .i64 q.kids.length]) false).run Try.prog w1 = .ok (.bool false) w1 := (HMAP.out.at_ hb1).lookB (HKK.out.at_ hb1) (fun k hk => (HS.out k hk).1.at_ hb1) HNS.out; have y5 := HX5.out w1 hb1; clear hb1)
          | (go_at_call 14; refine (keyOfP_any g q.kids.length c w1 hml h0).mono ?_; rintro e2 w2 ⟨rfl, hb2⟩; have HB2 : Hid (Below wr.heap.size wr w2) := HB1.out.trans (hb2.mono HB1.out.size); clear hb2)
          | (at_mapUpdate; (with_reducible refine wp_mapUpdate_kvB rfl _ _ _ rfl (w.heap.size + 2) S (Kv.mk (some ⟨g, 0, none⟩) q.kids.length) rfl (HMAP.out.at_ HB2.out) (HKK.out.at_ HB2.out) (fun k hk => (HS.out k hk).1.at_ HB2.out) HNS.out rfl ?_); intro w3 hm3 hg3; have HM3 := Lib.hid hm3; have HG3 := Lib.hid hg3; have HS3 := Lib.hid hg3.size; have hbx3 := (hg3.block w.heap.size (Nat.lt_of_lt_of_le (heap_lt HBXX.out) HB2.out.size) (by intro e; injection e with e; omega)).trans ((HB2.out.block w.heap.size (heap_lt HBXX.out)).trans HBXX.out); have HBX3 := Lib.hid hbx3; have hg3g : w3.heap[g]? = wr.heap[g]? := (hg3.block g (Nat.lt_of_lt_of_le hgw HB2.out.size) (by intro e; injection e with e; omega)).trans (HB2.out.block g hgw); obtain ⟨e0, e1, e2, e3, e4, e5⟩ := HE.out w3 hg3g; have d0 := (cell_of_blk hbx3 0).trans rfl; have d1 := (cell_of_blk hbx3 1).trans rfl; have d2 := (cell_of_blk hbx3 2).trans rfl; have d3 := (cell_of_blk hbx3 3).trans rfl; have d4 := (cell_of_blk hbx3 4).trans rfl; have d5 := (cell_of_blk hbx3 5).trans rfl; have f0 := frozen_of_row w3 w.heap.size 0 _ 28 hbx3; have f1 := frozen_of_row w3 w.heap.size 1 _ 28 hbx3; have f2 := frozen_of_row w3 w.heap.size 2 _ 28 hbx3; have f3 := frozen_of_row w3 w.heap.size 3 _ 28 hbx3; have f4 := frozen_of_row w3 w.heap.size 4 _ 28 hbx3; have f5 := frozen_of_row w3 w.heap.size 5 _ 28 hbx3; clear hm3 hg3 hbx3 hg3g))
        obtain ⟨hb6, hf6⟩ := heap_set6 HBX3.out (.int .i64 q.kids[0].op) (.int .i64 q.kids[0].ctor) (.int .i64 q.kids[0].n) (.int .i64 q.kids[0].m) (.int .i64 q.kids[0].var) (.slice A' q.kids[0].kids.length cap)
        generalize ((((((w3.setCell ⟨w.heap.size, 0, none⟩ (.int .i64 q.kids[0].op)).setCell ⟨w.heap.size, 1, none⟩ (.int .i64 q.kids[0].ctor)).setCell ⟨w.heap.size, 2, none⟩ (.int .i64 q.kids[0].n)).setCell ⟨w.heap.size, 3, none⟩ (.int .i64 q.kids[0].m)).setCell ⟨w.heap.size, 4, none⟩ (.int .i64 q.kids[0].var)).setCell ⟨w.heap.size, 5, none⟩ (.slice A' q.kids[0].kids.length cap)) = w6 at hb6 hf6 ⊢
        have hfw : Fr (fun b => b = w.heap.size ∨ b = w.heap.size + 2) wr w6 := ((Fr.below HB2.out).trans (Fr.grown HG3.out (fun b e => by injection e with e; exact .inr e))).trans (hf6.wide (fun b h => .inl h))
        have hwk := wPs_head q.kids h0
        have hm6 : MapKv w6 (w.heap.size + 2) (S ++ [Kv.mk (some ⟨g, 0, none⟩) q.kids.length]) := HM3.out.keep (hf6.2.2.2.2 _ (by obtain ⟨_, _, h1, _⟩ := HM3.out; exact heap_lt h1) (by omega))
        have HREL : Hid (RelO w wS d P p w6 (wPs q.kids[0].kids)) := by
          refine ⟨q.kids[0], A', cap, _, Q, rfl, hb6, hm6, HQ0.out.fr _ hfw (fun b hb e => ?_), fun b hb => HSUB.out b (HQ.out b hb).1, (bareP_as q H6.out h0).symm.trans HBARE.out, ?_, fun k hk => ?_, HFR.out.trans hfw⟩
          · have := hP b (HSUB.out b (HQ.out b hb).1)
            rcases e with e | e <;> omega
          · have := wP_kids q.kids[0]; omega
          · have hly : ∀ (x : Kv), LiesKv wr x → (∃ g', x.a = some ⟨g', 0, none⟩ ∧ P g') → LiesKv w6 x := fun x hx ⟨g', hg', hp'⟩ => fun y hy => by
              obtain ⟨c', t', h1⟩ := hx y hy
              have hyb : y.block < w.heap.size := by rw [hg'] at hy; cases hy; exact hP g' hp'
              exact ⟨c', t', hfw.block h1 (by intro h; rcases h with h | h <;> omega)⟩
            rcases List.mem_append.1 hk with hk | hk
            · obtain ⟨h1, g', h2, h3, h4⟩ := HS.out k hk
              exact ⟨hly k h1 ⟨g', h2, h3⟩, g', h2, h3, fun h => h4 (HQ.out g' h).1⟩
            · rw [List.mem_singleton.1 hk]
              exact ⟨hly _ HKK.out ⟨g, rfl, HSUB.out g hPg⟩, g, rfl, HSUB.out g hPg, fun h => (HQ.out g h).2 rfl⟩
        refine ⟨⟨_, HREL.out⟩, ?_⟩
        rw [HMU.out]
        refine Nat.lt_of_le_of_lt ((lstB_spec HREL.out).2 _ HREL.out) ?_
        have := wP_kids q.kids[0]
        omega
      · have u0 : ¬ (q.kids.length : Int) > 0 := by omega
        have HBE := Lib.hid (bareP_other q (by have := H6.out; omega) (fun h => h0 h.2))
        have b5 := frozen_of_row wr w.heap.size 5 _ 28 HBXX.out
        have HBXN : Hid ((wr.setCell ⟨w.heap.size, 5, none⟩ (.slice none 0 0)).heap[w.heap.size]? = some (.cells #[.int .i64 q.op, .int .i64 q.ctor, .int .i64 q.n, .int .i64 q.m, .int .i64 q.var, .slice none 0 0] 28 (0, 0))) := (heap_setCell_same wr w.heap.size 5 _ _ _ HBXX.out).trans rfl
        have HZN : Hid ((wr.setCell ⟨w.heap.size, 5, none⟩ (.slice none 0 0)).heap[w.heap.size + 1]? = some (.cells #[.int .i64 0, .int .i64 0, .int .i64 0, .int .i64 0, .int .i64 0, .slice none 0 0] 28 (0, 0))) := (Fr.set (P := fun b => b = w.heap.size) wr _ _ _ rfl).block HZ9.out (by omega)
        have hbn := HBXN.out
        have hzn := HZN.out
        have z0 := (cell_of_blk hbn 0).trans rfl
        have z1 := (cell_of_blk hbn 1).trans rfl
        have z2 := (cell_of_blk hbn 2).trans rfl
        have z3 := (cell_of_blk hbn 3).trans rfl
        have z4 := (cell_of_blk hbn 4).trans rfl
        have z5 := (cell_of_blk hbn 5).trans rfl
        have k0 := (cell_of_blk hzn 0).trans rfl
        have l0 := frozen_of_row _ (w.heap.size + 1) 0 _ 28 hzn
        have k1 := (cell_of_blk hzn 1).trans rfl
        have l1 := frozen_of_row _ (w.heap.size + 1) 1 _ 28 hzn
        have k2 := (cell_of_blk hzn 2).trans rfl
        have l2 := frozen_of_row _ (w.heap.size + 1) 2 _ 28 hzn
        have k3 := (cell_of_blk hzn 3).trans rfl
        have l3 := frozen_of_row _ (w.heap.size + 1) 3 _ 28 hzn
        have k4 := (cell_of_blk hzn 4).trans rfl
        have l4 := frozen_of_row _ (w.heap.size + 1) 4 _ 28 hzn
        have k5 := (cell_of_blk hzn 5).trans rfl
        have l5 := frozen_of_row _ (w.heap.size + 1) 5 _ 28 hzn
        have hbwn : Below w.heap.size w (wr.setCell ⟨w.heap.size, 5, none⟩ (.slice none 0 0)) := Below.setCell HBW.out (Nat.le_refl _) _
        have hkn : q.kids = [] := List.length_eq_zero_iff.1 (by omega)
        have HKN := Lib.hid hkn
        clear f0 f1 f2 f3 f4 f5 r0 r1 r2 r3 r4 r5 hbn hzn hkn
        go_wp2_with fail
        refine bodyPost_ret (v := .agg #[.int .i64 q.op, .int .i64 q.ctor, .int .i64 q.n, .int .i64 q.m, .int .i64 q.var, .slice none 0 0]) (by simp [results, Try.results13, go_sem, k0, k1, k2, k3, k4, k5]) rfl ⟨.mk q.op q.ctor q.n q.m q.var [], none, 0, rfl, by rw [← HBARE.out, HBE.out, HKN.out]; rfl, ?_, Nat.zero_le _, ?_⟩
        · obtain ⟨d', hd, _⟩ := HOP.out.parts
          rw [hd]; exact OPs.nil _ _ _ _
        · refine Below.setCell (Below.setCell (Below.setCell (Below.setCell (Below.setCell (Below.setCell hbwn ?_ _) ?_ _) ?_ _) ?_ _) ?_ _) ?_ _ <;> (simp <;> omega)
    · have u6 : (q.op == 6) = false := ieq_f h6
      by_cases h2 : q.op = 2
      · have u2 : (q.op == 2) = true := ieq_t h2
        have HBE := Lib.hid (bareP_var q h2)
        clear h2
        go_wp2_with fail
        refine bodyPost_ret (v := .agg #[.int .i64 1, .int .i64 0, .int .i64 0, .int .i64 0, .int .i64 0, .slice none 0 0]) (by simp [results, Try.results13, go_sem, r0, r1, r2, r3, r4, r5]) rfl ⟨.mk 1 0 0 0 0 [], none, 0, rfl, by rw [← HBARE.out]; exact HBE.out, ?_, Nat.zero_le _, ?_⟩
        · obtain ⟨d', hd, _⟩ := HOP.out.parts
          rw [hd]; exact OPs.nil _ _ _ _
        · refine Below.setCell (Below.setCell (Below.setCell (Below.setCell (Below.setCell (Below.setCell HBW.out ?_ _) ?_ _) ?_ _) ?_ _) ?_ _) ?_ _ <;> (simp <;> omega)
      · have u2 : (q.op == 2) = false := ieq_f h2
        have HBE := Lib.hid (bareP_other q h2 (fun h => h6 h.1))
        clear h2 h6
        go_wp2_with fail
        refine bodyPost_ret (v := .agg #[.int .i64 q.op, .int .i64 q.ctor, .int .i64 q.n, .int .i64 q.m, .int .i64 q.var, .slice E q.kids.length c]) (by simp [results, Try.results13, go_sem, r0, r1, r2, r3, r4, r5]) rfl ⟨q, E, c, rfl, by rw [← HBARE.out]; exact HBE.out, ?_, hw, ?_⟩
        · exact (HOP.out.wide _ HSUB.out).fr _ (heap_set6 HZ9.out _ _ _ _ _ _).2 (fun b hb e => by have := hP b hb; have e : b = _ := e; omega)
        · refine Below.setCell (Below.setCell (Below.setCell (Below.setCell (Below.setCell (Below.setCell HBW.out ?_ _) ?_ _) ?_ _) ?_ _) ?_ _) ?_ _ <;> (simp <;> omega)
end Go.Proofs.Ytbdiahnelnbdnaa
/-
  Pt trees copied into blocks of their own: no part has a block of another part. No statement is proved here.
-/
namespace Go.Proofs.Ytbdiahnelnbdnaa
open Go.RowKit
set_option maxRecDepth 100000
set_option linter.unusedVariables false
theorem infoOP : (Try.prog.info? 28).map (fun i => (i.zero, i.size, i.bytes)) = some (some (.agg #[.int .i64 0, .int .i64 0, .int .i64 0, .int .i64 0, .int .i64 0, .slice none 0 0]), 6, 64) := by kernel_rfl
def ToPO (d : Nat) : Prop := ∀ (A : Option Addr) (l : List Pt) (cap : Nat) (w : World), RPs d w w.heap.size A l → wPs l ≤ 1048576 →
  Calls Try.prog 12 #[.slice A l.length cap] w fun e w' => ∃ A2, e = .returned (.slice A2 l.length l.length) ∧ OPs (d + 1) w' (Nw w w') A2 l ∧ Below w.heap.size w w'
theorem toPO_of {d : Nat} (ih : ToPO d) (A : Option Addr) (l : List Pt) (cap : Nat) (x0 x1 x2 x3 x4 : Int) (w : World) (hr : RPs d w w.heap.size A l) (hn : wPs l ≤ 1048576) :
    Calls Try.prog 6 #[.agg #[.int .i64 x0, .int .i64 x1, .int .i64 x2, .int .i64 x3, .int .i64 x4, .slice A l.length cap]] w fun e w' => ∃ A2, e = .returned (.agg #[.int .i64 x0, .int .i64 x1, .int .i64 x2, .int .i64 x3, .int .i64 x4, .slice A2 l.length l.length]) ∧ OPs (d + 1) w' (Nw w w') A2 l ∧ Below w.heap.size w w' := by
  have Hr := Lib.hid hr
  have IH := Lib.hid ih
  clear hr ih
  go_enter Try.func6, Try.ntmps6
  go_wp2_with (go_at_call 12; refine (IH.out _ _ _ _ (by exact Hr.out.keep (fun p hp => by rw [World.cell?_alloc_lt _ _ _ (by simp <;> omega), World.cell?_alloc_lt _ _ _ (by simp <;> omega), World.cell?_alloc_lt _ _ _ hp]) (by simp <;> omega)) hn).mono ?_; rintro e w1 ⟨A2, rfl, hf, hb⟩; obtain ⟨hc, hfz⟩ := bcell hb; have hz : w.heap.size + 2 < w1.heap.size := by have := hb.size; simp at this; omega)
  refine bodyPost_ret (v := .agg #[.int .i64 x0, .int .i64 x1, .int .i64 x2, .int .i64 x3, .int .i64 x4, .slice A2 l.length l.length]) (by simp [results, Try.results6, go_sem, hc]) rfl ⟨A2, rfl, ?_, ?_⟩
  · refine (hf.fr _ (P' := fun b => b < w.heap.size + 3) ?_ (fun b hq => by have := hq.1; simp only [World.size_alloc] at this; omega)).wide _ (fun b hq => ⟨by have := hq.1; simp only [World.size_alloc] at this; omega, by have h2 := hq.2; simpa [World.setCell] using h2⟩)
    refine Fr.trans ?_ (Fr.set _ _ _ _ (by simp <;> omega))
    refine Fr.trans ?_ (Fr.set _ _ _ _ (by simp <;> omega))
    refine Fr.trans ?_ (Fr.set _ _ _ _ (by simp <;> omega))
    refine Fr.trans ?_ (Fr.set _ _ _ _ (by simp <;> omega))
    refine Fr.trans ?_ (Fr.set _ _ _ _ (by simp <;> omega))
    refine Fr.trans ?_ (Fr.set _ _ _ _ (by simp <;> omega))
    refine Fr.trans ?_ (Fr.set _ _ _ _ (by simp <;> omega))
    exact Fr.refl _ _
  · skip
    refine Below.setCell ?_ (by simp <;> omega) _
    refine Below.setCell ?_ (by simp <;> omega) _
    refine Below.setCell ?_ (by simp <;> omega) _
    refine Below.setCell ?_ (by simp <;> omega) _
    refine Below.setCell ?_ (by simp <;> omega) _
    refine Below.setCell ?_ (by simp <;> omega) _
    refine Below.setCell ?_ (by simp <;> omega) _
    refine Below.trans ?_ (hb.mono (by simp <;> omega))
    refine Below.alloc (Below.alloc (Below.alloc (Below.refl _ _) ?_ _) ?_ _) ?_ _ <;> simp <;> omega
set_option maxHeartbeats 1600000 in
theorem toPOs_of (d : Nat) (ih : ∀ d', d = d' + 1 → ToPO d') : ToPO d := by
  intro A l cap w hr hn
  obtain ⟨i0, hi, hz0, hz1, hz2⟩ := info_parts infoOP
  have Hr := Lib.hid hr
  have IH := Lib.hid ih
  have HSum := Lib.hid (wPs_sum l)
  have hl : l.length ≤ 1048576 := by have := wPs_sum l; omega
  clear hr ih
  go_enter Try.func12, Try.ntmps12
  go_wp2_with (at_make; refine wpList_make_full _ rfl _ _ 26 rfl w.heap.size 28 i0 _ 6 Try.underlying26 hi hz0 hz1 _ _ _ _ l.length rfl rfl rfl rfl (by rw [hz2]; omega) (by unfold maxLen; omega) (Nat.le_refl _) ?_; intro w1 hown hgr)
  go_loopw [4] (fun i wr => ∃ k : Nat, k ≤ l.length ∧ i = .int .i64 k ∧ ∃ xs Q, wr.ownsRow w.heap.size 28 6 (.slice (some ⟨w.heap.size, 0, none⟩) l.length l.length) l.length xs ∧ RowP d wr w.heap.size (some w.heap.size) Q l xs k ∧ Below w.heap.size w wr) (fun i _ => l.length - (intOf i).toNat)
  case atStart => exact ⟨0, by omega, rfl, _, fun _ _ => False, hown, RowP.zero _ _ _ _ _ _ _, below_of_grown hgr (Nat.le_refl _)⟩
  case round =>
    obtain ⟨k, hk, rfl, xs, Q, hown, hrow, hb⟩ := hrel
    clear hgr hi hz0 hz1 hz2
    by_cases hlt : k < l.length
    · obtain ⟨b, off, rfl, hbB, hv⟩ := (Hr.out.below hb (Nat.le_refl _)).2 k hlt
      obtain ⟨d', hd, A', cp, c0, c1, c2, c3, c4, c5, hm⟩ := hv.parts
      have ha : wPs l[k].kids ≤ 1048576 := by
        have h1 := sum_take_succ wP l k hlt
        have h2 := sum_take_le wP l (k + 1)
        have h3 := wP_kids l[k]
        have h4 := HSum.out
        omega
      have IHd := Lib.hid (IH.out d' hd)
      have Hm := Lib.hid (hm.keep (fun _ _ => rfl) hb.size)
      have HD := Lib.hid hd
      have hwl : w.heap.size < wr.heap.size := own_lt hown
      have HROW := Lib.hid hrow
      clear hm hv hd hrow
      go_wp2_with (go_at_call 6; refine (toPO_of IHd.out _ _ _ _ _ _ _ _ _ Hm.out ha).mono ?_; rintro e w2 ⟨A2, rfl, hf, hb2⟩; have hown2 := own_below hown hb2; obtain ⟨v0, f0⟩ := own_cell hown2 (k * 6) (by omega); obtain ⟨v1, f1⟩ := own_cell hown2 (k * 6 + 1) (by omega); obtain ⟨v2, f2⟩ := own_cell hown2 (k * 6 + 2) (by omega); obtain ⟨v3, f3⟩ := own_cell hown2 (k * 6 + 3) (by omega); obtain ⟨v4, f4⟩ := own_cell hown2 (k * 6 + 4) (by omega); obtain ⟨v5, f5⟩ := own_cell hown2 (k * 6 + 5) (by omega); have g0 := hown2.frozenAt (k * 6); have g1 := hown2.frozenAt (k * 6 + 1); have g2 := hown2.frozenAt (k * 6 + 2); have g3 := hown2.frozenAt (k * 6 + 3); have g4 := hown2.frozenAt (k * 6 + 4); have g5 := hown2.frozenAt (k * 6 + 5); skip)
      have hx := hown2.1
      have s1 := (hown2.stored (k * 6) (.int .i64 l[k].op)).1
      have s2 := (s1.stored (k * 6 + 1) (.int .i64 l[k].ctor)).1
      have s3 := (s2.stored (k * 6 + 2) (.int .i64 l[k].n)).1
      have s4 := (s3.stored (k * 6 + 3) (.int .i64 l[k].m)).1
      have s5 := (s4.stored (k * 6 + 4) (.int .i64 l[k].var)).1
      have s6 := (s5.stored (k * 6 + 5) (.slice A2 l[k].kids.length l[k].kids.length)).1
      have hf2 : OPs d w2 (Nw wr w2) A2 l[k].kids := by rw [HD.out]; exact hf
      have hrow2 := HROW.out.more (xs' := ((((((xs.set (k * 6) (.int .i64 l[k].op)).set (k * 6 + 1) (.int .i64 l[k].ctor)).set (k * 6 + 2) (.int .i64 l[k].n)).set (k * 6 + 3) (.int .i64 l[k].m)).set (k * 6 + 4) (.int .i64 l[k].var)).set (k * 6 + 5) (.slice A2 l[k].kids.length l[k].kids.length))) hb2 hlt (by omega) (fun g e => by injection e with e; omega) hf2 (fun j c hj hc => by rw [List.getElem?_set_ne (by omega), List.getElem?_set_ne (by omega), List.getElem?_set_ne (by omega), List.getElem?_set_ne (by omega), List.getElem?_set_ne (by omega), List.getElem?_set_ne (by omega)]) (by rw [List.getElem?_set_ne (by omega), List.getElem?_set_ne (by omega), List.getElem?_set_ne (by omega), List.getElem?_set_ne (by omega), List.getElem?_set_ne (by omega), List.getElem?_set_self (by first | omega | (simp <;> omega))]) (by rw [List.getElem?_set_ne (by omega), List.getElem?_set_ne (by omega), List.getElem?_set_ne (by omega), List.getElem?_set_ne (by omega), List.getElem?_set_self (by first | omega | (simp <;> omega))]) (by rw [List.getElem?_set_ne (by omega), List.getElem?_set_ne (by omega), List.getElem?_set_ne (by omega), List.getElem?_set_self (by first | omega | (simp <;> omega))]) (by rw [List.getElem?_set_ne (by omega), List.getElem?_set_ne (by omega), List.getElem?_set_self (by first | omega | (simp <;> omega))]) (by rw [List.getElem?_set_ne (by omega), List.getElem?_set_self (by first | omega | (simp <;> omega))]) (by rw [List.getElem?_set_self (by first | omega | (simp <;> omega))])
      have hrow3 := hrow2.fr (w' := ((((((w2.setCell ⟨w.heap.size, k * 6, none⟩ (.int .i64 l[k].op)).setCell ⟨w.heap.size, k * 6 + 1, none⟩ (.int .i64 l[k].ctor)).setCell ⟨w.heap.size, k * 6 + 2, none⟩ (.int .i64 l[k].n)).setCell ⟨w.heap.size, k * 6 + 3, none⟩ (.int .i64 l[k].m)).setCell ⟨w.heap.size, k * 6 + 4, none⟩ (.int .i64 l[k].var)).setCell ⟨w.heap.size, k * 6 + 5, none⟩ (.slice A2 l[k].kids.length l[k].kids.length))) (P' := fun b => b = w.heap.size) ((((((Fr.set (P := fun b => b = w.heap.size) _ _ _ _ rfl).trans (Fr.set (P := fun b => b = w.heap.size) _ _ _ _ rfl)).trans (Fr.set (P := fun b => b = w.heap.size) _ _ _ _ rfl)).trans (Fr.set (P := fun b => b = w.heap.size) _ _ _ _ rfl)).trans (Fr.set (P := fun b => b = w.heap.size) _ _ _ _ rfl)).trans (Fr.set (P := fun b => b = w.heap.size) _ _ _ _ rfl)) (fun b _ hb' _ e => hb' (by rw [e]))
      go_roundw
      case rel => exact ⟨k + 1, by omega, by go_num, _, _, s6, hrow3, ((((((hb.trans (hb2.mono hb.size)).setCell (Nat.le_refl _) _).setCell (Nat.le_refl _) _).setCell (Nat.le_refl _) _).setCell (Nat.le_refl _) _).setCell (Nat.le_refl _) _).setCell (Nat.le_refl _) _⟩
      case measure => simp [intOf]; omega
    · go_wp2_with fail
      go_ret
      have he : k = l.length := by omega
      obtain ⟨A2, c2, e2, ho⟩ := OPs.of_row hown (he ▸ hrow) hl
      injection e2 with e3 e4 e5
      subst e3
      exact ⟨_, rfl, ho, hb⟩
theorem toPOs_any : ∀ d, ToPO d
  | 0 => toPOs_of 0 (fun _ h => by omega)
  | d + 1 => toPOs_of (d + 1) (fun d' h => (Nat.succ.inj h) ▸ toPOs_any d)
theorem toPO_any (d : Nat) (A : Option Addr) (l : List Pt) (cap : Nat) (x0 x1 x2 x3 x4 : Int) (w : World) (hr : RPs d w w.heap.size A l) (hn : wPs l ≤ 1048576) :
    Calls Try.prog 6 #[.agg #[.int .i64 x0, .int .i64 x1, .int .i64 x2, .int .i64 x3, .int .i64 x4, .slice A l.length cap]] w fun e w' => ∃ A2, e = .returned (.agg #[.int .i64 x0, .int .i64 x1, .int .i64 x2, .int .i64 x3, .int .i64 x4, .slice A2 l.length l.length]) ∧ OPs (d + 1) w' (Nw w w') A2 l ∧ Below w.heap.size w w' := toPO_of (toPOs_any d) A l cap x0 x1 x2 x3 x4 w hr hn
end Go.Proofs.Ytbdiahnelnbdnaa
/-
  The pattern that only one value matches: the document's function. No statement is proved here.
-/
namespace Go.Proofs.Ytbdiahnelnbdnaa
open Go.RowKit Go.Sort Go.Deep
set_option maxRecDepth 100000
set_option linter.unusedVariables false
theorem cell_six_new (w : World) (a b c d e f : Value) (t : TypeId) : ∀ j u, [a, b, c, d, e, f][j]? = some u → (w.alloc (.cells #[a, b, c, d, e, f] t)).cell? ((⟨w.heap.size, 0, none⟩ : Addr).add j) = some u := by
  intro j u hj
  match j, hj with
  | 0, hj => simp at hj; subst hj; simp [Addr.add, go_sem]
  | 1, hj => simp at hj; subst hj; simp [Addr.add, go_sem]
  | 2, hj => simp at hj; subst hj; simp [Addr.add, go_sem]
  | 3, hj => simp at hj; subst hj; simp [Addr.add, go_sem]
  | 4, hj => simp at hj; subst hj; simp [Addr.add, go_sem]
  | 5, hj => simp at hj; subst hj; simp [Addr.add, go_sem]
end Go.Proofs.Ytbdiahnelnbdnaa
/-
  When a tree is a pattern for a type: plain mathematics. No statement is proved here.
-/
namespace Go.Proofs.Ytbdiahnelnbdnaa
open Go.RowKit
set_option maxRecDepth 100000
set_option linter.unusedVariables false
instance : Inhabited Pt := ⟨.mk 0 0 0 0 0 []⟩
end Go.Proofs.Ytbdiahnelnbdnaa
/-
  How many nodes a pattern has, up to a number: the document's function. No statement is proved here.
-/
namespace Go.Proofs.Ytbdiahnelnbdnaa
open Go.RowKit Go.Sort Go.Deep
set_option maxRecDepth 100000
set_option linter.unusedVariables false
/-- The nodes of a pattern of which the first k parts have been counted. -/
def upKP (ks : List Pt) (k : Nat) : Nat := 1 + k + ((ks.take k).map wP).sum
theorem upKP_succ (ks : List Pt) (k : Nat) (h : k < ks.length) : upKP ks (k + 1) = upKP ks k + (1 + wP ks[k]) := by
  unfold upKP; rw [sum_take_succ wP ks k h]; omega
theorem upKP_le (v : Pt) (k : Nat) (h : k ≤ v.kids.length) : upKP v.kids k ≤ 1 + wP v := by
  have := sum_take_le wP v.kids k
  unfold upKP; rw [wP_kids, wPs_sum]; omega
theorem wP_kid (v : Pt) (k : Nat) (h : k < v.kids.length) : wP v.kids[k] ≤ wP v := by
  have h1 := upKP_le v (k + 1) h
  rw [upKP_succ _ _ h] at h1
  omega
end Go.Proofs.Ytbdiahnelnbdnaa
