/-
  PatternSame of the program. No statement is proved here.
-/
import Derived.Test.YthdnfnmglhifmaaU01
import Derived.Test.YthdnfnmglhifmaaU00
import Derived.Deep.RegionHeld3
import Derived.Deep.DeepCutAuto
namespace Go.Proofs.Ythdnfnmglhifmaa
open Go.RowKit Go.Sort Go.Deep
set_option maxRecDepth 100000
set_option linter.unusedVariables false
theorem wp_mapUpdate_ky {w : World} {ops : Array Oper} {rest : List Oper} {o : Oper} {a : Act} {Q : Exit → Act → World → Prop}
    (hg : o.guard = none) (m x v : Operand) (hop : o.op = Op.mapUpdate 116 m x v) (b : Nat) (S : List KyP) (k : KyP)
    (hm : a.eval m = .map (some b)) (hS : MapKyP w b S) (hk : LiesKP w k) (hl : ∀ k' ∈ S, LiesKP w k') (hn : ¬ k ∈ S) (hx : a.eval x = k.v) (hv : a.eval v = .bool true)
    (hK : ∀ w', MapKyP w' b (S ++ [k]) → w.grownBy w' (some b) → wpList Try.prog ops Q rest (a.put o.dst undef) w') :
    wpList Try.prog ops Q (o :: rest) a w := by
  refine wpList_plain hg fun K' hK' => ?_
  obtain ⟨w', hrun, r1, r2⟩ := hS.put hk hl hn
  unfold Oper.wp
  simp [execOp, hop, hm, hx, hv, hrun, Result.andThen]
  exact hK' _ _ (hK w' r1 r2)
/-- What a round knows. -/
def RelP (p q : Pt) (wS : World) (m lo N : Nat) (u : Value) (wr : World) (n : Nat) : Prop := ∃ W S, muP W = n ∧ n ≤ N ∧ OpnP wr lo u W ∧ MapKyP wr m S ∧ InvP p q wS m W S ∧ Fr (fun b => b = m) wS wr
theorem infoPair : (Try.prog.info? 118).map (fun i => (i.zero, i.size, i.bytes)) = some (some (.agg #[.slice none 0 0, .slice none 0 0]), 2, 48) := by kernel_rfl
theorem OPs.topd {d : Nat} {w : World} {P : Nat → Prop} {D : Option Addr} {c L : Nat} {p : Pt} (h : OPs d w P D p.kids) (hL : w.heap[L]? = some (.cells #[.int .i64 p.op, .int .i64 p.ctor, .int .i64 p.n, .int .i64 p.m, .int .i64 p.var, .slice D p.kids.length c] 37 (0, 0))) (hP : ¬ P L) : OPs (d + 1) w (fun b => P b ∨ b = L) (some ⟨L, 0, none⟩) [p] := by
  refine ⟨by unfold maxLen; simp, fun _ => ⟨L, _, fun _ => P, rfl, .inr rfl, hL, fun k b _ hb => ⟨.inl hb, fun e => hP (e ▸ hb), fun j hj hjk => ?_⟩, fun k hk => ?_⟩⟩
  · simp at *; omega
  · have : k = 0 := by simp at hk; omega
    subst this
    exact ⟨D, c, rfl, rfl, rfl, rfl, rfl, rfl, h⟩
def ZbK (w : World) (g : Nat) : Prop := w.heap[g]? = some (.cells #[.pointer none, .int .i64 0, .pointer none, .int .i64 0] 125 (0, 0))
theorem heap_new1 (w : World) (o : Obj) : (w.alloc o).heap[w.heap.size]? = some o := by show (w.heap.push o)[w.heap.size]? = _; simp
theorem ZbK.new (w : World) : ZbK (w.alloc (.cells #[.pointer none, .int .i64 0, .pointer none, .int .i64 0] 125)) w.heap.size := heap_new1 _ _
theorem ZbK.at_ {w w' : World} {g : Nat} (h : ZbK w g) (hb : Below w.heap.size w w') : ZbK w' g := (hb.block g (heap_lt h)).trans h
theorem ZbK.cells {w : World} {g : Nat} (h : ZbK w g) : w.cell? ⟨g, 0, none⟩ = some (.pointer none) ∧ w.cell? ⟨g, 1, none⟩ = some (.int .i64 0) ∧ w.cell? ⟨g, 2, none⟩ = some (.pointer none) ∧ w.cell? ⟨g, 3, none⟩ = some (.int .i64 0) ∧ w.frozen? ⟨g, 0, none⟩ = false ∧ w.frozen? ⟨g, 1, none⟩ = false ∧ w.frozen? ⟨g, 2, none⟩ = false ∧ w.frozen? ⟨g, 3, none⟩ = false :=
  ⟨(cell_of_blk h 0).trans rfl, (cell_of_blk h 1).trans rfl, (cell_of_blk h 2).trans rfl, (cell_of_blk h 3).trans rfl, frozen_of_row w g 0 _ 125 h, frozen_of_row w g 1 _ 125 h, frozen_of_row w g 2 _ 125 h, frozen_of_row w g 3 _ 125 h⟩
/-- A key that stands in a block of its own. -/
def StK (w1 : World) (g : Nat) (k : KyP) (wx : World) : Prop := w1.heap.size ≤ g ∧ Below w1.heap.size w1 wx ∧ wx.heap[g]? = some (.cells #[.pointer k.a, .int .i64 k.n, .pointer k.b, .int .i64 k.m] 125 (0, 0))
theorem StK.new {w1 w3 : World} {a b : Option Addr} {n m : Nat} (hb : Below w1.heap.size w1 w3) : StK w1 w3.heap.size ⟨a, n, b, m⟩ (w3.alloc (.cells #[.pointer a, .int .i64 n, .pointer b, .int .i64 m] 125)) := ⟨hb.size, hb.alloc hb.size _, heap_new1 _ _⟩
theorem StK.set {w1 w3 : World} {g : Nat} {a b : Option Addr} {n m : Nat} (hb : Below w1.heap.size w1 w3) (hz : ZbK w3 g) (hg : w1.heap.size ≤ g) : StK w1 g ⟨a, n, b, m⟩ ((((w3.setCell ⟨g, 0, none⟩ (.pointer a)).setCell ⟨g, 1, none⟩ (.int .i64 n)).setCell ⟨g, 2, none⟩ (.pointer b)).setCell ⟨g, 3, none⟩ (.int .i64 m)) :=
  ⟨hg, (((hb.setCell hg _).setCell hg _).setCell hg _).setCell hg _, heap_setCell_same _ g _ _ _ _ (heap_setCell_same _ g _ _ _ _ (heap_setCell_same _ g _ _ _ _ (heap_setCell_same _ g _ _ _ _ hz)))⟩
theorem StK.cells {w1 wx : World} {g : Nat} {k : KyP} (h : StK w1 g k wx) : wx.cell? ⟨g, 0, none⟩ = some (.pointer k.a) ∧ wx.cell? ⟨g, 1, none⟩ = some (.int .i64 k.n) ∧ wx.cell? ⟨g, 2, none⟩ = some (.pointer k.b) ∧ wx.cell? ⟨g, 3, none⟩ = some (.int .i64 k.m) :=
  ⟨(cell_of_blk h.2.2 0).trans rfl, (cell_of_blk h.2.2 1).trans rfl, (cell_of_blk h.2.2 2).trans rfl, (cell_of_blk h.2.2 3).trans rfl⟩
theorem below_set4 {w1 w3 : World} {g : Nat} (hb : Below w1.heap.size w1 w3) (hg : w1.heap.size ≤ g) (a b c d : Value) : Below w1.heap.size w1 ((((w3.setCell ⟨g, 0, none⟩ a).setCell ⟨g, 1, none⟩ b).setCell ⟨g, 2, none⟩ c).setCell ⟨g, 3, none⟩ d) := (((hb.setCell hg _).setCell hg _).setCell hg _).setCell hg _
set_option maxHeartbeats 16000000 in
theorem ps_impl (D E : Option Addr) (p q : Pt) (cp cq d e : Nat) (PP QQ : Nat → Prop) (w : World) (hp : OPs d w PP D p.kids) (hq : OPs e w QQ E q.kids) (hPP : ∀ b, PP b → b < w.heap.size) (hQQ : ∀ b, QQ b → b < w.heap.size) (hN : wP p ≤ 1048576) :
    Calls Try.prog 32 #[.agg #[.int .i64 p.op, .int .i64 p.ctor, .int .i64 p.n, .int .i64 p.m, .int .i64 p.var, .slice D p.kids.length cp], .agg #[.int .i64 q.op, .int .i64 q.ctor, .int .i64 q.n, .int .i64 q.m, .int .i64 q.var, .slice E q.kids.length cq]] w fun e w' => e = .returned (.bool (dec (p = q))) ∧ Below w.heap.size w w' := by
  obtain ⟨i0, hi, hz0, hz1, hz2⟩ := info_parts infoPair
  generalize hwx : ((((w.alloc (.cells #[.int .i64 p.op, .int .i64 p.ctor, .int .i64 p.n, .int .i64 p.m, .int .i64 p.var, .slice D p.kids.length cp] 37)).alloc (.cells #[.int .i64 q.op, .int .i64 q.ctor, .int .i64 q.n, .int .i64 q.m, .int .i64 q.var, .slice E q.kids.length cq] 37)).alloc (.map #[] 0)).alloc (.cells #[.int .i64 p.op, .int .i64 p.ctor, .int .i64 p.n, .int .i64 p.m, .int .i64 p.var, .slice D p.kids.length cp] 37)).alloc (.cells #[.int .i64 q.op, .int .i64 q.ctor, .int .i64 q.n, .int .i64 q.m, .int .i64 q.var, .slice E q.kids.length cq] 37) = wS
  have hbS : Below w.heap.size w wS := by rw [← hwx]; exact (((((Below.refl _ _).alloc (Nat.le_refl _) _).alloc (by simp) _).alloc (by simp; omega) _).alloc (by simp; omega) _).alloc (by simp; omega) _
  have HSZ : Hid (wS.heap.size = w.heap.size + 5) := by unfold Hid; rw [← hwx]; simp
  have HMK : Hid (MapKyP wS (w.heap.size + 2) []) := by
    rw [← hwx]
    refine MapKyP.keep (w := ((w.alloc (.cells #[.int .i64 p.op, .int .i64 p.ctor, .int .i64 p.n, .int .i64 p.m, .int .i64 p.var, .slice D p.kids.length cp] 37)).alloc (.cells #[.int .i64 q.op, .int .i64 q.ctor, .int .i64 q.n, .int .i64 q.m, .int .i64 q.var, .slice E q.kids.length cq] 37)).alloc (.map #[] 0)) ?_ (by rw [Below.heap_alloc _ _ _ (by simp), Below.heap_alloc _ _ _ (by simp)])
    have := MapKyP.made ((w.alloc (.cells #[.int .i64 p.op, .int .i64 p.ctor, .int .i64 p.n, .int .i64 p.m, .int .i64 p.var, .slice D p.kids.length cp] 37)).alloc (.cells #[.int .i64 q.op, .int .i64 q.ctor, .int .i64 q.n, .int .i64 q.m, .int .i64 q.var, .slice E q.kids.length cq] 37))
    simpa using this
  have HL1 : Hid (wS.heap[w.heap.size + 3]? = some (.cells #[.int .i64 p.op, .int .i64 p.ctor, .int .i64 p.n, .int .i64 p.m, .int .i64 p.var, .slice D p.kids.length cp] 37 (0, 0))) := by rw [← hwx]; exact (Below.heap_alloc _ _ _ (by simp)).trans (by have h := heap_new1 (((w.alloc (.cells #[.int .i64 p.op, .int .i64 p.ctor, .int .i64 p.n, .int .i64 p.m, .int .i64 p.var, .slice D p.kids.length cp] 37)).alloc (.cells #[.int .i64 q.op, .int .i64 q.ctor, .int .i64 q.n, .int .i64 q.m, .int .i64 q.var, .slice E q.kids.length cq] 37)).alloc (.map #[] 0)) (.cells #[.int .i64 p.op, .int .i64 p.ctor, .int .i64 p.n, .int .i64 p.m, .int .i64 p.var, .slice D p.kids.length cp] 37); rw [show (((w.alloc (.cells #[.int .i64 p.op, .int .i64 p.ctor, .int .i64 p.n, .int .i64 p.m, .int .i64 p.var, .slice D p.kids.length cp] 37)).alloc (.cells #[.int .i64 q.op, .int .i64 q.ctor, .int .i64 q.n, .int .i64 q.m, .int .i64 q.var, .slice E q.kids.length cq] 37)).alloc (.map #[] 0)).heap.size = w.heap.size + 3 by simp] at h; exact h)
  have HL2 : Hid (wS.heap[w.heap.size + 4]? = some (.cells #[.int .i64 q.op, .int .i64 q.ctor, .int .i64 q.n, .int .i64 q.m, .int .i64 q.var, .slice E q.kids.length cq] 37 (0, 0))) := by rw [← hwx]; have h := heap_new1 ((((w.alloc (.cells #[.int .i64 p.op, .int .i64 p.ctor, .int .i64 p.n, .int .i64 p.m, .int .i64 p.var, .slice D p.kids.length cp] 37)).alloc (.cells #[.int .i64 q.op, .int .i64 q.ctor, .int .i64 q.n, .int .i64 q.m, .int .i64 q.var, .slice E q.kids.length cq] 37)).alloc (.map #[] 0)).alloc (.cells #[.int .i64 p.op, .int .i64 p.ctor, .int .i64 p.n, .int .i64 p.m, .int .i64 p.var, .slice D p.kids.length cp] 37)) (.cells #[.int .i64 q.op, .int .i64 q.ctor, .int .i64 q.n, .int .i64 q.m, .int .i64 q.var, .slice E q.kids.length cq] 37); rw [show ((((w.alloc (.cells #[.int .i64 p.op, .int .i64 p.ctor, .int .i64 p.n, .int .i64 p.m, .int .i64 p.var, .slice D p.kids.length cp] 37)).alloc (.cells #[.int .i64 q.op, .int .i64 q.ctor, .int .i64 q.n, .int .i64 q.m, .int .i64 q.var, .slice E q.kids.length cq] 37)).alloc (.map #[] 0)).alloc (.cells #[.int .i64 p.op, .int .i64 p.ctor, .int .i64 p.n, .int .i64 p.m, .int .i64 p.var, .slice D p.kids.length cp] 37)).heap.size = w.heap.size + 4 by simp] at h; exact h
  have HX1 : Hid (PBx wS w.heap.size p (.slice D p.kids.length cp)) := by rw [← hwx]; exact ⟨by simp [go_sem], by simp [go_sem], by simp [go_sem], by simp [go_sem], by simp [go_sem], by simp [go_sem]⟩
  have HWS := Lib.hid hwx
  clear hwx
  have hpS := hp.fr _ (Fr.below (P := fun _ => False) hbS) (fun _ _ h => h)
  have hqS := hq.fr _ (Fr.below (P := fun _ => False) hbS) (fun _ _ h => h)
  have HP1 : Hid (OPs (d + 1) wS (fun b => PP b ∨ b = w.heap.size + 3) (some ⟨w.heap.size + 3, 0, none⟩) [p]) := hpS.topd HL1.out (fun h => by have := hPP _ h; omega)
  have HQ1 : Hid (OPs (e + 1) wS (fun b => QQ b ∨ b = w.heap.size + 4) (some ⟨w.heap.size + 4, 0, none⟩) [q]) := hqS.topd HL2.out (fun h => by have := hQQ _ h; omega)
  have HIV : Hid (InvP p q wS (w.heap.size + 2) [⟨some ⟨w.heap.size + 3, 0, none⟩, [p], 1, some ⟨w.heap.size + 4, 0, none⟩, [q], 1, d + 1, fun b => PP b ∨ b = w.heap.size + 3, e + 1, fun b => QQ b ∨ b = w.heap.size + 4⟩] []) := by
    refine ⟨?_, fun x hx => ?_, List.pairwise_singleton _ _, fun _ _ k hk => (by cases hk), fun k hk => (by cases hk), fun k hk => (by cases hk)⟩
    · simp
    · rw [List.mem_singleton.1 hx]
      refine ⟨HP1.out, HQ1.out, fun b hb => ?_, fun b hb => ?_⟩
      · have := HSZ.out
        rcases hb with hb | rfl
        · have := hPP b hb; omega
        · omega
      · have := HSZ.out
        rcases hb with hb | rfl
        · have := hQQ b hb; omega
        · omega
  obtain ⟨wR, hwR⟩ : ∃ wR, wR = wS.alloc (.cells #[.slice (some ⟨w.heap.size + 3, 0, none⟩) 1 1, .slice (some ⟨w.heap.size + 4, 0, none⟩) 1 1] 118) := ⟨_, rfl⟩
  have hbR : Below wS.heap.size wS wR := by rw [hwR]; exact (Below.refl _ _).alloc (Nat.le_refl _) _
  have HO0 : Hid (OpnP wR (w.heap.size + 5) (.slice (some ⟨w.heap.size + 5, 0, none⟩) 1 1) [⟨some ⟨w.heap.size + 3, 0, none⟩, [p], 1, some ⟨w.heap.size + 4, 0, none⟩, [q], 1, d + 1, fun b => PP b ∨ b = w.heap.size + 3, e + 1, fun b => QQ b ∨ b = w.heap.size + 4⟩]) := by
    rw [hwR]
    refine ⟨[.slice (some ⟨w.heap.size + 3, 0, none⟩) 1 1, .slice (some ⟨w.heap.size + 4, 0, none⟩) 1 1], ?_, fun j hj => ?_⟩
    · have h := World.ownsRow_lit (e := 118) wS #[.slice (some ⟨w.heap.size + 3, 0, none⟩) 1 1, .slice (some ⟨w.heap.size + 4, 0, none⟩) 1 1] (size := 2) (base := w.heap.size + 5) 1 (by rw [HSZ.out]; exact Nat.le_refl _) (by unfold maxLen; omega) rfl
      rw [HSZ.out] at h
      exact h
    · have : j = 0 := by simp at hj; omega
      subst this
      exact ⟨rfl, rfl⟩
  have HR0 : Hid (RelP p q wS (w.heap.size + 2) (w.heap.size + 5) (2 + wP p) (.slice (some ⟨w.heap.size + 5, 0, none⟩) 1 1) wR (2 + wP p)) := by
    refine ⟨_, [], ?_, Nat.le_refl _, HO0.out, HMK.out.keep (hbR.block _ (by have := HSZ.out; omega)), HIV.out, Fr.below hbR⟩
    unfold muP
    simp only [List.map_cons, List.map_nil, List.sum_cons, List.sum_nil, wPs]
    omega
  have HWR := Lib.hid hwR
  have HNN := Lib.hid hN
  have HBS := Lib.hid hbS
  clear hp hq hPP hQQ hpS hqS HL1 HL2 HP1 HQ1 HIV HO0 HMK hwR hN hbR hbS
  have hmm := @run_makeMap Try.prog
  go_enter Try.func32, Try.ntmps32
  go_wp2_with fail
  rw [HWS.out, ← HWR.out]
  clear hmm
  go_loopw [6] (fun u wr => ∃ n, RelP p q wS (w.heap.size + 2) (w.heap.size + 5) (2 + wP p) u wr n) (fun u wr => lst (RelP p q wS (w.heap.size + 2) (w.heap.size + 5) (2 + wP p) u wr))
  case atStart => exact ⟨_, HR0.out⟩
  case round =>
    clear HR0
    obtain ⟨n0, hn0⟩ := hrel
    obtain ⟨hrl, _⟩ := lst_spec hn0
    obtain ⟨W0, S0, hmu, hle, ho, hmk, hiv, hfr⟩ := hrl
    clear hn0
    have HMU := Lib.hid hmu
    clear hmu
    have HFR := Lib.hid hfr
    have hfs := hfr.size
    clear hfr
    rcases last_or W0 with rfl | ⟨W, x, rfl⟩
    · have HE : Hid (dec (p = q) = true) := dec_t (hiv.goal.2 (fun x hx => by cases hx))
      obtain ⟨A, c, rfl⟩ := ho.nil_form
      clear hiv ho hmk
      go_wp2_with fail
      go_ret
      exact ⟨ret_bool HE.out.symm, HBS.out.trans (HFR.out.to (B := w.heap.size) (by have := HSZ.out; omega) (fun b hb e => by omega))⟩
    · obtain ⟨XA, la, ca, XB, lb, cb, xd, XP, xe, XQ⟩ := x
      obtain ⟨hpa, hpb, hPx, hQx⟩ := hiv.ok _ (List.mem_append.2 (.inr (List.mem_singleton.2 rfl)))
      obtain ⟨g, cap, rfl, hlo, hgs, hlc, hcm, c0, c1, hpop⟩ := ho.top
      obtain ⟨d', hd', hlal, _⟩ := hpa.parts
      obtain ⟨e', he', hlbl, _⟩ := hpb.parts
      change xd = d' + 1 at hd'
      change xe = e' + 1 at he'
      subst hd' he'
      change OPs (d' + 1) wS XP XA la at hpa
      change OPs (e' + 1) wS XQ XB lb at hpb
      change la.length ≤ maxLen at hlal
      change lb.length ≤ maxLen at hlbl
      change wr.cell? ⟨g, W.length * 2, none⟩ = some (.slice XA la.length ca) at c0
      change wr.cell? ⟨g, W.length * 2 + 1, none⟩ = some (.slice XB lb.length cb) at c1
      have HPX := Lib.hid hPx
      have HQX := Lib.hid hQx
      have HPA := Lib.hid hpa
      have HPB := Lib.hid hpb
      have HIV := Lib.hid hiv
      have HMK := Lib.hid hmk
      have HPOP := Lib.hid hpop
      have hmuW : muP (W ++ [⟨XA, la, ca, XB, lb, cb, d' + 1, XP, e' + 1, XQ⟩]) = muP W + (1 + wPs la) := muP_app W _
      rw [hmuW] at HMU
      have HLE : Hid (muP W + (1 + wPs la) ≤ 2 + wP p) := by unfold Hid; rw [HMU.out]; exact hle
      have hWl : W.length ≤ 1048578 := by have := muP_len W; have := HLE.out; have := HNN.out; omega
      have hcm' : cap ≤ 9223372036854775807 := by unfold maxLen at hcm; omega
      have hla' : la.length ≤ 9223372036854775807 := by unfold maxLen at hlal; omega
      have hlb' : lb.length ≤ 9223372036854775807 := by unfold maxLen at hlbl; omega
      have HLO := Lib.hid hlo
      clear ho hiv hmk hpop hPx hQx hpa hpb hmuW hle hcm hlal hlbl
      obtain ⟨wb, hwb⟩ : ∃ wb, wb = wr.alloc (.cells #[.slice XA la.length ca, .slice XB lb.length cb] 118) := ⟨_, rfl⟩
      have hbb : Below wr.heap.size wr wb := by rw [hwb]; exact (Below.refl _ _).alloc (Nat.le_refl _) _
      have HN0 : Hid (wb.cell? ⟨wr.heap.size, 0, none⟩ = some (.slice XA la.length ca) ∧ wb.cell? ⟨wr.heap.size, 1, none⟩ = some (.slice XB lb.length cb)) := by rw [hwb]; exact ⟨by simp [go_sem], by simp [go_sem]⟩
      have HSB : Hid (wb.heap.size = wr.heap.size + 1) := by unfold Hid; rw [hwb]; simp
      have HWB := Lib.hid hwb
      have HFB := Lib.hid (HFR.out.next hbb)
      clear hwb
      have HEQ : Hid (Calls Try.prog 70 #[.slice XA la.length ca, .slice XB lb.length cb, .func (.func 71) #[] #[]] wb fun e w' => ∃ r : Bool, e = .returned (.bool r) ∧ EqfR la lb r ∧ Below wb.heap.size wb w') := eqf_any XA XB la lb ca cb d' e' wb (OPs.reads d' (HPA.out.fr _ HFB.out (fun b hb e => (HPX.out b hb).2 e))) (OPs.reads e' (HPB.out.fr _ HFB.out (fun b hb e => (HQX.out b hb).2 e)))
      go_wp2_with fail
      rw [← HWB.out]
      refine HEQ.out.mono ?_
      rintro e1 w1 ⟨r, rfl, hr, hb1⟩
      have HF1 := Lib.hid (HFB.out.next hb1)
      rcases hr with ⟨rfl, hl, hq⟩ | ⟨rfl, hne⟩
      · obtain ⟨QA, hQA, hKA⟩ := HPA.out.kidsQ
        obtain ⟨QB, hQB, hKB⟩ := HPB.out.kidsQ
        have HII0 := Lib.hid (HIV.out.pop hl hq (Q := QA) (fun j b hj hb => ⟨(hQA j b hj hb).1, (hQA j b hj hb).2.1⟩))
        have HL := Lib.hid hl
        clear hl hq
        have HQA := Lib.hid hQA
        have HQB := Lib.hid hQB
        have HKA := Lib.hid hKA
        have HKB := Lib.hid hKB
        clear hQA hQB hKA hKB
        have HP1 : Hid (OpnP w1 (w.heap.size + 5) (.slice (some ⟨g, 0, none⟩) W.length cap) W) := (HPOP.out.below hbb).below hb1
        have HM1 : Hid (MapKyP w1 (w.heap.size + 2) S0) := (HMK.out.keep (hbb.block _ (by have := HSZ.out; omega))).keep (hb1.block _ (by have := HSZ.out; have := hbb.size; omega))
        obtain ⟨n0', n1'⟩ := HN0.out
        have hsb := hb1.size
        have HN1 : Hid (w1.cell? ⟨wr.heap.size, 0, none⟩ = some (.slice XA la.length ca) ∧ w1.cell? ⟨wr.heap.size, 1, none⟩ = some (.slice XB lb.length cb)) := by have := HSB.out; exact ⟨(hb1.cell (p := ⟨wr.heap.size, 0, none⟩) (by show wr.heap.size < _; omega)).trans n0', (hb1.cell (p := ⟨wr.heap.size, 1, none⟩) (by show wr.heap.size < _; omega)).trans n1'⟩
        have HS1 : Hid (wr.heap.size < w1.heap.size) := by unfold Hid; have := HSB.out; omega
        have hwo : ∃ wo, wo = wr := ⟨_, rfl⟩
        obtain ⟨wo, rfl⟩ := hwo
        obtain ⟨nn0, nn1⟩ := HN1.out
        have hs1 := HS1.out
        clear n0' n1' c0 c1 hb1 hsb hbb
        go_wp2_with fail
        go_loopw [6, 42] (fun u i wq => ∃ k : Nat, k ≤ la.length ∧ i = .int .i64 k ∧ ∃ V S, Hid (muP V ≤ muP W + (k + ((la.take k).map wP).sum)) ∧ Hid (OpnP wq (w.heap.size + 5) u V) ∧ Hid (MapKyP wq (w.heap.size + 2) S) ∧ Hid (InvI p q wS (w.heap.size + 2) V S la lb QA k) ∧ Hid (Fr (fun b => b = w.heap.size + 2) wS wq) ∧ Hid (wq.cell? ⟨wo.heap.size, 1, none⟩ = some (.slice XB lb.length cb) ∧ (∀ b, u.ownBlock = some b → b ≠ wo.heap.size) ∧ wo.heap.size < wq.heap.size)) (fun _ i _ => la.length - (intOf i).toNat)
        case atStart => exact ⟨0, by omega, rfl, W, S0, by unfold Hid; simp, HP1, HM1, HII0, HF1, ⟨HN1.out.2, fun b hb => by injection hb with hb; subst hb; exact fun e => by have e : g = wo.heap.size := e; omega, HS1.out⟩⟩
        case round =>
          have hwq : ∃ wq, wq = wr := ⟨_, rfl⟩
          obtain ⟨wq, rfl⟩ := hwq
          obtain ⟨k, hk, rfl, V, S, HMV, HO, HM, HI, HF, HNB⟩ := hrel
          by_cases hlt : k < la.length
          · have hltb : k < lb.length := by rw [← HL.out]; exact hlt
            obtain ⟨gA, A', capA, rfl, hPg, hgl, a0, a1, a2, a3, a4, a5, hka⟩ := HKA.out k hlt
            obtain ⟨gB, B', capB, rfl, hPgB, hglB, b0, b1, b2, b3, b4, b5, hkb⟩ := HKB.out k hltb
            have hmA := (HPX.out gA hPg).2
            have hmB := (HQX.out gB hPgB).2
            have hfs' := HF.out.size
            have f0 := (HF.out.cell (a := ⟨gA, _, none⟩) hgl hmA).trans a0
            have f1 := (HF.out.cell (a := ⟨gA, _, none⟩) hgl hmA).trans a1
            have f2 := (HF.out.cell (a := ⟨gA, _, none⟩) hgl hmA).trans a2
            have f3 := (HF.out.cell (a := ⟨gA, _, none⟩) hgl hmA).trans a3
            have f4 := (HF.out.cell (a := ⟨gA, _, none⟩) hgl hmA).trans a4
            have f5 := (HF.out.cell (a := ⟨gA, _, none⟩) hgl hmA).trans a5
            have h0 := (HF.out.cell (a := ⟨gB, _, none⟩) hglB hmB).trans b0
            have h1 := (HF.out.cell (a := ⟨gB, _, none⟩) hglB hmB).trans b1
            have h2 := (HF.out.cell (a := ⟨gB, _, none⟩) hglB hmB).trans b2
            have h3 := (HF.out.cell (a := ⟨gB, _, none⟩) hglB hmB).trans b3
            have h4 := (HF.out.cell (a := ⟨gB, _, none⟩) hglB hmB).trans b4
            have h5 := (HF.out.cell (a := ⟨gB, _, none⟩) hglB hmB).trans b5
            have hn1 := HNB.out.1
            have hn2 := HNB.out.2.2
            have hkI : (k : Int) < (la.length : Int) := by omega
            have hkI2 : (k : Int) < (lb.length : Int) := by omega
            have hgA' : gA < wq.heap.size := by omega
            have hgB' : gB < wq.heap.size := by omega
            have HKK := Lib.hid hka
            have HKL := Lib.hid hkb
            clear a0 a1 a2 a3 a4 a5 b0 b1 b2 b3 b4 b5 hka hkb
            obtain ⟨wy, hwy⟩ : ∃ wy, wy = (wq.alloc (.cells #[.int .i64 la[k].op, .int .i64 la[k].ctor, .int .i64 la[k].n, .int .i64 la[k].m, .int .i64 la[k].var, .slice A' la[k].kids.length capA] 37)).alloc (.cells #[.int .i64 lb[k].op, .int .i64 lb[k].ctor, .int .i64 lb[k].n, .int .i64 lb[k].m, .int .i64 lb[k].var, .slice B' lb[k].kids.length capB] 37) := ⟨_, rfl⟩
            have hby : Below wq.heap.size wq wy := by rw [hwy]; exact ((Below.refl _ _).alloc (Nat.le_refl _) _).alloc (by simp) _
            have HKY : Hid (∀ W', Below wy.heap.size wy W' → W'.cell? ⟨wq.heap.size, 5, none⟩ = some (.slice A' la[k].kids.length capA) ∧ W'.cell? ⟨wq.heap.size + 1, 5, none⟩ = some (.slice B' lb[k].kids.length capB)) := by
              have e1 : wy.cell? ⟨wq.heap.size, 5, none⟩ = some (.slice A' la[k].kids.length capA) := by rw [hwy]; simp [go_sem]
              have e2 : wy.cell? ⟨wq.heap.size + 1, 5, none⟩ = some (.slice B' lb[k].kids.length capB) := by rw [hwy]; simp [go_sem]
              have e3 : wy.heap.size = wq.heap.size + 2 := by rw [hwy]; simp
              exact fun W' h => ⟨(h.cell (p := ⟨wq.heap.size, 5, none⟩) (by show wq.heap.size < _; omega)).trans e1, (h.cell (p := ⟨wq.heap.size + 1, 5, none⟩) (by show wq.heap.size + 1 < _; omega)).trans e2⟩
            have HSY : Hid (wy.heap.size = wq.heap.size + 2) := by unfold Hid; rw [hwy]; simp
            have HWY := Lib.hid hwy
            clear hwy
            have HK1 : Hid (∀ W', Calls Try.prog 72 #[.slice A' la[k].kids.length capA] W' fun e w' => e = .returned (.agg #[.pointer (kA A' la[k].kids.length), .int .i64 la[k].kids.length]) ∧ Below W'.heap.size W' w') := fun W' => keyOfP_own HKK.out capA W'
            have HK2 : Hid (∀ W', Calls Try.prog 72 #[.slice B' lb[k].kids.length capB] W' fun e w' => e = .returned (.agg #[.pointer (kA B' lb[k].kids.length), .int .i64 lb[k].kids.length]) ∧ Below W'.heap.size W' w') := fun W' => keyOfP_own HKL.out capB W'
            have SQ := HKY.out wy.drew (Below.refl _ wy).drew
            have SQ1 := HKY.out ((wy.alloc (.cells #[.pointer none, .int .i64 0, .pointer none, .int .i64 0] 125)).drew) ((Below.refl _ wy).alloc (Nat.le_refl _) _).drew
            go_upto_region 12 with fail
            rw [← HWY.out]
            go_cut [11] (fun s12 wx => ∃ g12, s12 = .pointer (some ⟨g12, 0, none⟩) ∧ StK wy g12 (KyP.mk (kA A' la[k].kids.length) la[k].kids.length (kA B' lb[k].kids.length) lb[k].kids.length) wx)
            case first =>
              go_region_held3 (fun w' => w'.cell? ⟨wq.heap.size, 5, none⟩ = some (.slice A' la[k].kids.length capA) ∧ w'.cell? ⟨wq.heap.size + 1, 5, none⟩ = some (.slice B' lb[k].kids.length capB)) (first | with_reducible exact SQ | with_reducible exact (HKY.out _ (hbq.alloc hbq.size _)) | with_reducible exact SQ1 | with_reducible exact (HKY.out _ (below_set4 hbq hgz _ _ _ _))) (first
                | (go_at_call 72; (with_reducible refine (HK1.out wy.drew).mono ?_); rintro e3 w3 ⟨rfl, hb'⟩; have hbq : Below wy.heap.size wy w3 := ⟨hb'.os, hb'.tape, hb'.output, hb'.size, hb'.block⟩; have SQ := HKY.out _ hbq; have hs3 := hbq.size; clear hb')
                | (go_at_call 72; (with_reducible refine (HK1.out ((wy.alloc (.cells #[.pointer none, .int .i64 0, .pointer none, .int .i64 0] 125)).drew)).mono ?_); rintro e3 w3 ⟨rfl, hb'⟩; have hbq : Below wy.heap.size wy w3 := ((Below.refl _ wy).alloc (Nat.le_refl _) _).drew.trans (hb'.mono (by simp)); have SQ := HKY.out _ hbq; have hzb : ZbK w3 wy.heap.size := ZbK.at_ (w := (wy.alloc (.cells #[.pointer none, .int .i64 0, .pointer none, .int .i64 0] 125)).drew) (ZbK.new wy) hb'; have hgz : wy.heap.size ≤ wy.heap.size := Nat.le_refl _; have hs3 := hbq.size; clear hb')
                | (go_at_call 72; (with_reducible refine (HK2.out w3).mono ?_); rintro e4 w4 ⟨rfl, hb'⟩; have hbq := below_aft hbq hb' hbq.size; have SQ := HKY.out _ hbq; (try (have hzd := hzb.at_ hb'; obtain ⟨k0, k1, k2, k3, k4, k5, k6, k7⟩ := hzd.cells)); clear hb')
                | (go_at_call 72; (with_reducible refine (HK2.out (w3.alloc (.cells #[.pointer none, .int .i64 0, .pointer none, .int .i64 0] 125))).mono ?_); rintro e4 w4 ⟨rfl, hb'⟩; have hbq0 := hbq; have hbq := below_aft (hbq.alloc hbq.size _) hb' (by simp; have := hbq0.size; omega); have SQ := HKY.out _ hbq; have hzd : ZbK w4 w3.heap.size := ZbK.at_ (ZbK.new w3) hb'; have hgz : wy.heap.size ≤ w3.heap.size := hbq0.size; obtain ⟨k0, k1, k2, k3, k4, k5, k6, k7⟩ := hzd.cells; clear hb'))
              all_goals
                go_wp2_with fail
                go_meet
                refine ⟨_, rfl, ?_⟩
                first
                | (with_reducible exact StK.new hbq)
                | (with_reducible exact StK.set hbq hzd hgz)
            clear SQ SQ1
            obtain ⟨g12, rfl, hst⟩ := hcut
            have hcb := hst.2.1
            obtain ⟨r0, r1, r2, r3⟩ := hst.cells
            obtain ⟨v5, v6⟩ := HKY.out wc hcb
            have hz12 : g12 < wc.heap.size := heap_lt hst.2.2
            have hz13 := hst.1
            have hbc : Below wq.heap.size wq wc := below_aft hby hcb hby.size
            have HFC := Lib.hid (HF.out.next hbc)
            have hszm : w.heap.size + 2 < wq.heap.size := by have := HSZ.out; omega
            have HMC : Hid (MapKyP wc (w.heap.size + 2) S) := HM.out.keep (hbc.block _ hszm)
            have hLyA := HKK.out.ly (m := w.heap.size + 2) (fun b hb => HPX.out b (HQA.out k b hlt hb).1)
            have hLyB := HKL.out.ly (m := w.heap.size + 2) (fun b hb => HQX.out b (HQB.out k b hltb hb).1)
            have HKL2 : Hid (LiesKP wc (KyP.mk (kA A' la[k].kids.length) la[k].kids.length (kA B' lb[k].kids.length) lb[k].kids.length)) := ⟨hLyA.lies HFC.out, hLyB.lies HFC.out⟩
            have HAL : Hid (∀ k' ∈ S, LiesKP wc k') := fun k' hk' => ⟨(HI.out.lies k' hk').1.lies HFC.out, (HI.out.lies k' hk').2.lies HFC.out⟩
            have hlook := HMC.out.look HKL2.out HAL.out
            have hlook1 : (Instr.lookup 116 (.map (some (w.heap.size + 1 + 1))) (.agg #[.pointer (kA A' la[k].kids.length), .int .i64 la[k].kids.length, .pointer (kA B' lb[k].kids.length), .int .i64 lb[k].kids.length]) false).run Try.prog wc = .ok (.bool (decide ((KyP.mk (kA A' la[k].kids.length) la[k].kids.length (kA B' lb[k].kids.length) lb[k].kids.length) ∈ S))) wc := hlook
            have hlook2 : (Instr.lookup 116 (.map (some (w.heap.size + 2))) (.agg #[.pointer (kA A' la[k].kids.length), .int .i64 la[k].kids.length, .pointer (kA B' lb[k].kids.length), .int .i64 lb[k].kids.length]) false).run Try.prog wc = .ok (.bool (decide ((KyP.mk (kA A' la[k].kids.length) la[k].kids.length (kA B' lb[k].kids.length) lb[k].kids.length) ∈ S))) wc := hlook
            have HTK := Lib.hid (sum_take_succ wP la k hlt)
            have HWK : Hid (wP la[k] = wPs la[k].kids) := wP_kids la[k]
            have HTL := Lib.hid (sum_take_le wP la (k + 1))
            have HPS := Lib.hid (wPs_sum la)
            have hwoq := HNB.out.2.2
            have HNC : Hid (wc.cell? ⟨wo.heap.size, 1, none⟩ = some (.slice (some ⟨gB, 0, none⟩) lb.length cb)) := (hbc.cell (p := ⟨wo.heap.size, 1, none⟩) hwoq).trans HNB.out.1
            have hsc := hbc.size
            have hsy := HSY.out
            have hsyc := hcb.size
            clear hlook hLyA hLyB hst hcb f0 f1 f2 f3 f4 f5 h0 h1 h2 h3 h4 h5 hn1
            by_cases hin : (KyP.mk (kA A' la[k].kids.length) la[k].kids.length (kA B' lb[k].kids.length) lb[k].kids.length) ∈ S
            · have HI2 := Lib.hid (HI.out.skip hlt hltb HKK.out HKL.out hin)
              rw [decide_eq_true hin] at hlook1 hlook2
              clear hin
              go_wp2_with fail
              go_roundw
              case rel => exact ⟨k + 1, by omega, by go_num, V, S, by unfold Hid; have a := HMV.out; have b := HTK.out; omega, HO.out.below hbc, HMC, HI2, HFC, ⟨HNC.out, HNB.out.2.1, by omega⟩⟩
              case measure => simp [intOf]; omega
            · have HI2 := Lib.hid (HI.out.push (ca := capA) (cb := capB) hlt hltb HKK.out HKL.out (fun j b hj hb => ⟨HPX.out b (HQA.out j b hj hb).1, (HQA.out j b hj hb).2.2⟩) (fun b hb => HQX.out b (HQB.out k b hltb hb).1))
              have HIN := Lib.hid hin
              rw [decide_eq_false hin] at hlook1 hlook2
              clear hin
              obtain ⟨xs, hown, hxs⟩ := HO.out
              have hob := HNB.out.2.1
              obtain ⟨Au, cu, rfl, hof⟩ := own_form hown
              have HOW := Lib.hid hown
              have HXS := Lib.hid hxs
              have HOB := Lib.hid hob
              have HOF := Lib.hid hof
              have HVL : Hid (V.length ≤ 1048580) := by unfold Hid; have := muP_len V; have := HMV.out; have := HTK.out; have := HTL.out; have := HPS.out; have := HLE.out; have := HNN.out; omega
              have HC3 : Hid (V.length + 1 ≤ maxLen) := by unfold Hid maxLen; have := HVL.out; omega
              have HC4 : Hid ((V.length + 1) * 48 ≤ 140737488355328) := by unfold Hid; have := HVL.out; omega
              clear hown hxs hob hof
              go_wp2_with (first
                | (at_mapUpdate; (with_reducible refine wp_mapUpdate_ky rfl _ _ _ rfl (w.heap.size + 2) S (KyP.mk (kA A' la[k].kids.length) la[k].kids.length (kA B' lb[k].kids.length) lb[k].kids.length) rfl HMC.out HKL2.out HAL.out HIN.out rfl rfl ?_); intro w5 hm5 hg5;
                    have HM5 := Lib.hid hm5; have HG5 := Lib.hid hg5; have hs5 := hg5.size; clear hm5 hg5;
                    have v5 := (World.cell?_of_block (a := ⟨wq.heap.size, 5, none⟩) (HG5.out.block wq.heap.size (by omega) (by intro e; injection e with e; omega))).trans v5; have v6 := (World.cell?_of_block (a := ⟨wq.heap.size + 1, 5, none⟩) (HG5.out.block (wq.heap.size + 1) (by omega) (by intro e; injection e with e; omega))).trans v6;
                    have HOA : Hid ((w5.alloc (.cells #[.slice A' la[k].kids.length capA, .slice B' lb[k].kids.length capB] 118)).ownsRow (w.heap.size + 5) 118 2 (.slice Au V.length cu) V.length xs) := own_at HOW.out (fun b e => by have h1 := HOF.out b e; rw [Below.heap_alloc _ _ _ (by omega), HG5.out.block b (by omega) (by intro e; injection e with e; omega)]; exact hbc.block b h1.2);
                    have HC1 := Lib.hid (cell_two_new w5 (.slice A' la[k].kids.length capA) (.slice B' lb[k].kids.length capB) 118);
                    have HC2 : Hid (∀ q ∈ [Value.slice A' la[k].kids.length capA, .slice B' lb[k].kids.length capB], q.oneCell' = true) := (by intro q hq; simp at hq; rcases hq with rfl | rfl <;> rfl);
                    have HC5 : Hid (w.heap.size + 5 ≤ (w5.alloc (.cells #[.slice A' la[k].kids.length capA, .slice B' lb[k].kids.length capB] 118)).heap.size) := (by unfold Hid; rw [World.size_alloc]; omega))
                | (at_builtin; refine wpList_append_own_at _ rfl _ _ 119 rfl (w.heap.size + 5) 118 i0 _ 2 48 Try.underlying119 hi hz0 hz1 hz2 rfl (by decide) (.slice Au V.length cu) _ xs rfl HOA.out ⟨w5.heap.size, 0, none⟩ 1 1 [Value.slice A' la[k].kids.length capA, .slice B' lb[k].kids.length capB] rfl rfl HC1.out HC2.out HC3.out HC4.out HC5.out ?_; intro v' w6 hown' hgr' hnn' hat')
                | fail)
              have hsA : (w5.alloc (.cells #[.slice A' la[k].kids.length capA, .slice B' lb[k].kids.length capB] 118)).heap.size = w5.heap.size + 1 := by simp
              have hs6 := hgr'.size
              have hrow : ∀ b, (Value.slice Au V.length cu).ownBlock = some b → w.heap.size + 5 ≤ b ∧ b < wq.heap.size := fun b e => HOF.out b e
              have HF5 : Hid (Fr (fun b => b = w.heap.size + 2) wS (w5.alloc (.cells #[.slice A' la[k].kids.length capA, .slice B' lb[k].kids.length capB] 118))) := ((HFC.out.trans (Fr.grown HG5.out (fun b e => by injection e))).next ((Below.refl _ _).alloc (Nat.le_refl _) _))
              have HF6 : Hid (Fr (fun b => b = w.heap.size + 2) wS w6) := HF5.out.row hgr' (fun b e => by have := hrow b e; have := HSZ.out; omega)
              have hk6 : ∀ b, b < w5.heap.size → (∀ b', (Value.slice Au V.length cu).ownBlock = some b' → b ≠ b') → w6.heap[b]? = w5.heap[b]? := fun b hb hn => (hgr'.block b (by omega) (fun e => hn b e.symm rfl)).trans (Below.heap_alloc _ _ _ hb)
              have HM6 : Hid (MapKyP w6 (w.heap.size + 2) (S ++ [(KyP.mk (kA A' la[k].kids.length) la[k].kids.length (kA B' lb[k].kids.length) lb[k].kids.length)])) := HM5.out.keep (hk6 _ (by omega) (fun b' e h => by have := hrow b' e; omega))
              have HN6 : Hid (w6.cell? ⟨wo.heap.size, 1, none⟩ = some (.slice (some ⟨gB, 0, none⟩) lb.length cb)) := (World.cell?_of_block (a := ⟨wo.heap.size, 1, none⟩) ((hk6 _ (by omega) (fun b' e h => HOB.out b' e h.symm)).trans (HG5.out.block _ (by omega) (by intro e; injection e with e; omega)))).trans HNC.out
              have HO6 : Hid (OpnP w6 (w.heap.size + 5) v' (V ++ [(EnP.mk A' la[k].kids capA B' lb[k].kids capB d' (QA k) e' (QB k))])) := OpnP.push (x := (EnP.mk A' la[k].kids capA B' lb[k].kids capB d' (QA k) e' (QB k))) HOW.out.1 HXS.out hown'
              have HB6 : Hid (∀ b, v'.ownBlock = some b → b ≠ wo.heap.size) := fun b hb => by
                rcases hat' with h | h
                · rw [h] at hb; exact HOB.out b hb
                · rw [h] at hb; injection hb with hb; omega
              have HMU6 : Hid (muP (V ++ [(EnP.mk A' la[k].kids capA B' lb[k].kids capB d' (QA k) e' (QB k))]) ≤ muP W + (k + 1 + ((la.take (k + 1)).map wP).sum)) := by
                unfold Hid
                have e := muP_app V (EnP.mk A' la[k].kids capA B' lb[k].kids capB d' (QA k) e' (QB k))
                have e2 : wPs (EnP.mk A' la[k].kids capA B' lb[k].kids capB d' (QA k) e' (QB k)).la = wPs la[k].kids := rfl
                have a := HMV.out; have b := HTK.out; have c := HWK.out
                omega
              have hw6 : wo.heap.size < w6.heap.size := by rw [hsA] at hs6; omega
              clear hown' hgr' hnn' hat' hk6 hrow hsA
              go_roundw
              case rel => exact ⟨k + 1, by omega, by go_num, _, _, HMU6, HO6, HM6, HI2, HF6, ⟨HN6.out, HB6.out, hw6⟩⟩
              case measure => simp [intOf]; omega
          · have HIP := Lib.hid (HI.out.done (by omega))
            have HPS := Lib.hid (wPs_sum la)
            have hkl : k = la.length := by omega
            have HMV2 : Hid (muP V ≤ muP W + wPs la) := by unfold Hid; have h := HMV.out; rw [hkl, List.take_of_length_le (Nat.le_refl _)] at h; have := HPS.out; omega
            have HREL : Hid (RelP p q wS (w.heap.size + 2) (w.heap.size + 5) (2 + wP p) _ wq (muP V)) := ⟨V, S, rfl, by have := HMV2.out; have := HLE.out; omega, HO.out, HM.out, HIP.out, HF.out⟩
            have HLT := Lib.hid ((lst_spec HREL.out).2 _ HREL.out)
            have HMU2 := HMU.out
            clear hkl
            go_wp2_with fail
            go_roundw
            case rel => exact ⟨_, HREL.out⟩
            case measure =>
              rw [← HMU.out]
              refine Nat.lt_of_le_of_lt HLT.out ?_
              have := HMV2.out
              omega
      · have HE : Hid (dec (p = q) = false) := dec_f (fun h => hne (HIV.out.goal.1 h _ (List.mem_append.2 (.inr (List.mem_singleton.2 rfl)))))
        clear hne
        go_wp2_with fail
        go_ret
        exact ⟨ret_bool HE.out.symm, HBS.out.trans (HF1.out.to (B := w.heap.size) (by have := HSZ.out; omega) (fun b hb e => by omega))⟩
end Go.Proofs.Ythdnfnmglhifmaa
/-
  The functions that count how much Pt trees hold. No statement is proved here.
-/
namespace Go.Proofs.Ythdnfnmglhifmaa
open Go.RowKit
set_option maxRecDepth 100000
set_option linter.unusedVariables false
def SzP (d : Nat) : Prop := ∀ (A : Option Addr) (l : List Pt) (cap : Nat) (q : Int) (w : World), RPs d w w.heap.size A l → 0 ≤ q → q ≤ 1048576 →
  Calls Try.prog 68 #[.slice A l.length cap, .int .i64 q] w fun e w' => e = .returned (.int .i64 (left q (wPs l))) ∧ Below w.heap.size w w'
theorem szP_of {d : Nat} (ih : SzP d) (A : Option Addr) (l : List Pt) (cap : Nat) (x0 x1 x2 x3 x4 q : Int) (w : World) (hr : RPs d w w.heap.size A l) (h0 : 0 ≤ q) (h1 : q ≤ 1048576) :
    Calls Try.prog 29 #[.agg #[.int .i64 x0, .int .i64 x1, .int .i64 x2, .int .i64 x3, .int .i64 x4, .slice A l.length cap], .int .i64 q] w fun e w' => e = .returned (.int .i64 (left q (wPs l))) ∧ Below w.heap.size w w' := by
  have Hr := Lib.hid hr
  have IH := Lib.hid ih
  clear hr ih
  by_cases hc2 : (wPs l : Int) ≤ q
  · have H2 := Lib.hid (left_ok hc2)
    go_enter Try.func29, Try.ntmps29
    go_wp2_with (go_at_call 68; refine (IH.out _ _ _ _ _ (by exact Hr.out.keep (fun p hp => World.cell?_alloc_lt _ _ _ hp) (by simp)) h0 h1).mono ?_; rw [H2.out]; rintro e w' ⟨rfl, hb⟩)
    go_ret
    exact ⟨ret_i64 (by rw [H2.out]), ((Below.refl _ _).alloc (Nat.le_refl _) _).trans (hb.mono (by simp))⟩
  · have H2 := Lib.hid (left_no hc2)
    go_enter Try.func29, Try.ntmps29
    go_wp2_with (go_at_call 68; refine (IH.out _ _ _ _ _ (by exact Hr.out.keep (fun p hp => World.cell?_alloc_lt _ _ _ hp) (by simp)) h0 h1).mono ?_; rw [H2.out]; rintro e w' ⟨rfl, hb⟩)
    go_ret
    exact ⟨ret_i64 (by rw [H2.out]), ((Below.refl _ _).alloc (Nat.le_refl _) _).trans (hb.mono (by simp))⟩
set_option maxHeartbeats 800000 in
theorem szPs_of (d : Nat) (ih : ∀ d', d = d' + 1 → SzP d') : SzP d := by
  intro A l cap q0 w hr h0 h1
  have hn := hr.1
  unfold maxLen at hn
  have Hr := Lib.hid hr
  have IH := Lib.hid ih
  have HSum := Lib.hid (wPs_sum l)
  clear hr ih
  by_cases hc : (l.length : Int) ≤ q0
  · go_enter Try.func68, Try.ntmps68
    go_wp2_with fail
    go_loopw [1, 5] (fun t i wr => ∃ k : Nat, k ≤ l.length ∧ i = .int .i64 k ∧ ∃ q : Int, 0 ≤ q ∧ q ≤ 1048576 ∧ t = .int .i64 q ∧ Hid (q = q0 - (l.length + ((l.take k).map wP).sum : Nat)) ∧ Below w.heap.size w wr) (fun _ i _ => l.length - (intOf i).toNat)
    case atStart => exact ⟨0, by omega, rfl, _, by omega, by omega, rfl, by unfold Hid; simp, Below.refl _ _⟩
    case round =>
      obtain ⟨k, hk, rfl, q, hq0, hq1, rfl, HQ, hb⟩ := hrel
      by_cases hlt : k < l.length
      · obtain ⟨b, off, rfl, hbB, hv⟩ := (Hr.out.below hb (Nat.le_refl _)).2 k hlt
        obtain ⟨d', hd, A', cp, c0, c1, c2, c3, c4, c5, hm⟩ := hv.parts
        have HS := Lib.hid (sum_take_succ wP l k hlt)
        have HL := Lib.hid (sum_take_le wP l (k + 1))
        have HW := Lib.hid (wP_kids l[k])
        have Hm := Lib.hid (hm.keep (fun _ _ => rfl) hb.size)
        have IHd := Lib.hid (IH.out d' hd)
        clear hm hv hd
        by_cases hc2 : (wPs l[k].kids : Int) ≤ q
        · have H2 := Lib.hid (left_ok hc2)
          go_wp2_with (go_at_call 29; refine (szP_of IHd.out _ _ _ _ _ _ _ _ _ _ Hm.out (by omega) (by omega)).mono ?_; rw [H2.out]; rintro e w' ⟨rfl, hb'⟩)
          have hb2 := hb.trans (hb'.mono hb.size)
          go_roundw
          case rel => exact ⟨k + 1, by omega, by go_num, _, by omega, by omega, rfl, by unfold Hid; rw [HS.out, HW.out, HQ.out]; omega, hb2⟩
          case measure => simp [intOf]; omega
        · have H2 := Lib.hid (left_no hc2)
          have H := Lib.hid (left_no (l := q0) (n := wPs l) (by rw [HSum.out]; rw [HQ.out] at hc2; rw [HS.out, HW.out] at HL; have := HL.out; omega))
          go_wp2_with (go_at_call 29; refine (szP_of IHd.out _ _ _ _ _ _ _ _ _ _ Hm.out (by omega) (by omega)).mono ?_; rw [H2.out]; rintro e w' ⟨rfl, hb'⟩)
          have hb2 := hb.trans (hb'.mono hb.size)
          go_ret
          exact ⟨ret_i64 (by rw [H.out]), hb2⟩
      · go_wp2_with fail
        go_ret
        refine ⟨ret_i64 ?_, hb⟩
        have h2 := HQ.out
        rw [List.take_of_length_le (by omega), ← HSum.out] at h2
        rw [left_ok (by omega)]
        exact h2
  · have H := Lib.hid (left_no (l := q0) (n := wPs l) (by rw [HSum.out]; omega))
    go_enter Try.func68, Try.ntmps68
    go_wp2_with fail
    go_ret
    exact ⟨ret_i64 (by rw [H.out]), Below.refl _ _⟩
theorem szPs_any : ∀ d, SzP d
  | 0 => szPs_of 0 (fun _ h => by omega)
  | d + 1 => szPs_of (d + 1) (fun d' h => (Nat.succ.inj h) ▸ szPs_any d)
theorem szP_any (d : Nat) (A : Option Addr) (l : List Pt) (cap : Nat) (x0 x1 x2 x3 x4 q : Int) (w : World) (hr : RPs d w w.heap.size A l) (h0 : 0 ≤ q) (h1 : q ≤ 1048576) :
    Calls Try.prog 29 #[.agg #[.int .i64 x0, .int .i64 x1, .int .i64 x2, .int .i64 x3, .int .i64 x4, .slice A l.length cap], .int .i64 q] w fun e w' => e = .returned (.int .i64 (left q (wPs l))) ∧ Below w.heap.size w w' := szP_of (szPs_any d) A l cap x0 x1 x2 x3 x4 q w hr h0 h1
end Go.Proofs.Ythdnfnmglhifmaa
/-
  The law FnExactPatternSame walked. No statement is proved here.
-/
namespace Go.Proofs.Ythdnfnmglhifmaa
open Go.RowKit Go.Sort Go.Deep
set_option maxRecDepth 100000
set_option linter.unusedVariables false
theorem below_box2p {w w0 : World} {o o' : Obj} (h : (w.alloc o).alloc o' = w0) : Below w.heap.size w w0 := by rw [← h]; exact ((Below.refl _ _).alloc (Nat.le_refl _) _).alloc (by simp) _
theorem OPs.later2 {d : Nat} {w w' : World} {P : Nat → Prop} {A : Option Addr} {l : List Pt} (h : OPs d w P A l) (hb : Below w.heap.size w w') : OPs d w' P A l := h.fr _ (Fr.below (P := fun _ => False) hb) (fun _ _ h => h)
set_option maxHeartbeats 8000000 in
theorem ps_law (D E : Option Addr) (cp cq d : Nat) (p q : Pt) (w : World) (hp : RPs d w w.heap.size D p.kids) (hq : RPs d w w.heap.size E q.kids) :
    Calls Try.prog 8 #[.agg #[.int .i64 p.op, .int .i64 p.ctor, .int .i64 p.n, .int .i64 p.m, .int .i64 p.var, .slice D p.kids.length cp], .agg #[.int .i64 q.op, .int .i64 q.ctor, .int .i64 q.n, .int .i64 q.m, .int .i64 q.var, .slice E q.kids.length cq]] w fun e w' => e = .returned (.bool true) ∧ Below w.heap.size w w' := by
  have HP := Lib.hid hp
  have HQ := Lib.hid hq
  clear hp hq
  generalize hw0 : (w.alloc (.cells #[.int .i64 p.op, .int .i64 p.ctor, .int .i64 p.n, .int .i64 p.m, .int .i64 p.var, .slice D p.kids.length cp] 64)).alloc (.cells #[.int .i64 q.op, .int .i64 q.ctor, .int .i64 q.n, .int .i64 q.m, .int .i64 q.var, .slice E q.kids.length cq] 64) = w0
  have hb0 : Below w.heap.size w w0 := below_box2p hw0
  have HXP : Hid (PBx w0 w.heap.size p (.slice D p.kids.length cp)) := by rw [← hw0]; exact ⟨by simp [go_sem], by simp [go_sem], by simp [go_sem], by simp [go_sem], by simp [go_sem], by simp [go_sem]⟩
  have HXQ : Hid (PBx w0 (w.heap.size + 1) q (.slice E q.kids.length cq)) := by rw [← hw0]; exact ⟨by simp [go_sem], by simp [go_sem], by simp [go_sem], by simp [go_sem], by simp [go_sem], by simp [go_sem]⟩
  have HW := Lib.hid hw0
  clear hw0
  obtain ⟨x0, x1, x2, x3, x4, x5⟩ := HXP.out
  by_cases h1 : (wPs p.kids : Int) ≤ 1048576
  case neg =>
    have H1 := Lib.hid (left_no h1)
    go_enter Try.func8, Try.ntmps8
    go_wp2_with (go_at_call 29; (try rw [HW.out]); refine (szP_any d D p.kids cp p.op p.ctor p.n p.m p.var _ w0 (HP.out.at_ hb0) (by omega) (by omega)).mono ?_; rw [H1.out]; rintro e1 w1 ⟨rfl, hb1⟩; obtain ⟨y0, y1, y2, y3, y4, y5⟩ := HXQ.out.at_ hb1; have hb1w := below_aft hb0 hb1 hb0.size)
    go_ret
    exact ⟨rfl, hb1w⟩
  have H1 := Lib.hid (left_ok h1)
  by_cases h2 : (wPs q.kids : Int) ≤ 1048576 - (wPs p.kids : Int)
  case neg =>
    have H2 := Lib.hid (left_no h2)
    go_enter Try.func8, Try.ntmps8
    go_wp2_with (first | (go_at_call 29; refine (szP_any d E q.kids cq q.op q.ctor q.n q.m q.var _ w1 (HQ.out.at_ hb1w) (by omega) (by omega)).mono ?_; rw [H2.out]; rintro e2 w2 ⟨rfl, hb2⟩; have hb2w := below_aft hb1w hb2 hb1w.size; have hb20 := below_aft hb1 hb2 hb1.size) | (go_at_call 29; (try rw [HW.out]); refine (szP_any d D p.kids cp p.op p.ctor p.n p.m p.var _ w0 (HP.out.at_ hb0) (by omega) (by omega)).mono ?_; rw [H1.out]; rintro e1 w1 ⟨rfl, hb1⟩; obtain ⟨y0, y1, y2, y3, y4, y5⟩ := HXQ.out.at_ hb1; have hb1w := below_aft hb0 hb1 hb0.size))
    go_ret
    exact ⟨rfl, hb2w⟩
  have H2 := Lib.hid (left_ok h2)
  have hnp : wPs p.kids ≤ 1048576 := by omega
  have hnq : wPs q.kids ≤ 1048576 := by omega
  have hnpw : wP p ≤ 1048576 := by rw [wP_kids]; exact hnp
  have HSP : Hid (∀ (E1 E2 : Option Addr) (c1 c2 : Nat) (W : World), RPs d W W.heap.size E1 p.kids → RPs d W W.heap.size E2 q.kids → Calls Try.prog 30 #[.agg #[.int .i64 p.op, .int .i64 p.ctor, .int .i64 p.n, .int .i64 p.m, .int .i64 p.var, .slice E1 p.kids.length c1], .agg #[.int .i64 q.op, .int .i64 q.ctor, .int .i64 q.n, .int .i64 q.m, .int .i64 q.var, .slice E2 q.kids.length c2]] W fun e w' => e = .returned (.bool (dec (p = q))) ∧ Below W.heap.size W w') := fun E1 E2 c1 c2 W h h' => ps_spec d d E1 E2 p q c1 c2 W h h'
  have HIM : Hid (∀ (E1 E2 : Option Addr) (c1 c2 : Nat) (P1 P2 : Nat → Prop) (W : World), OPs (d + 1) W P1 E1 p.kids → OPs (d + 1) W P2 E2 q.kids → (∀ b, P1 b → b < W.heap.size) → (∀ b, P2 b → b < W.heap.size) → Calls Try.prog 32 #[.agg #[.int .i64 p.op, .int .i64 p.ctor, .int .i64 p.n, .int .i64 p.m, .int .i64 p.var, .slice E1 p.kids.length c1], .agg #[.int .i64 q.op, .int .i64 q.ctor, .int .i64 q.n, .int .i64 q.m, .int .i64 q.var, .slice E2 q.kids.length c2]] W fun e w' => e = .returned (.bool (dec (p = q))) ∧ Below W.heap.size W w') := fun E1 E2 c1 c2 P1 P2 W h h' h1 h2 => ps_impl E1 E2 p q c1 c2 (d + 1) (d + 1) P1 P2 W h h' h1 h2 hnpw
  generalize dec (p = q) = bb at HSP HIM
  have hbb : (bb != bb) = false := by simp
  go_enter Try.func8, Try.ntmps8
  go_wp2_with (first | (go_at_call 29; refine (szP_any d E q.kids cq q.op q.ctor q.n q.m q.var _ w1 (HQ.out.at_ hb1w) (by omega) (by omega)).mono ?_; rw [H2.out]; rintro e2 w2 ⟨rfl, hb2⟩; have hb2w := below_aft hb1w hb2 hb1w.size; have hb20 := below_aft hb1 hb2 hb1.size) | (go_at_call 29; (try rw [HW.out]); refine (szP_any d D p.kids cp p.op p.ctor p.n p.m p.var _ w0 (HP.out.at_ hb0) (by omega) (by omega)).mono ?_; rw [H1.out]; rintro e1 w1 ⟨rfl, hb1⟩; obtain ⟨y0, y1, y2, y3, y4, y5⟩ := HXQ.out.at_ hb1; have hb1w := below_aft hb0 hb1 hb0.size))
  have HKS : Hid (∀ W, Below w2.heap.size w2 W → W.cell? ⟨w.heap.size, 0, none⟩ = some (.int .i64 p.op) ∧ W.cell? ⟨w.heap.size, 1, none⟩ = some (.int .i64 p.ctor) ∧ W.cell? ⟨w.heap.size, 2, none⟩ = some (.int .i64 p.n) ∧ W.cell? ⟨w.heap.size, 3, none⟩ = some (.int .i64 p.m) ∧ W.cell? ⟨w.heap.size, 4, none⟩ = some (.int .i64 p.var) ∧ W.cell? ⟨w.heap.size, 5, none⟩ = some (.slice D p.kids.length cp) ∧ W.cell? ⟨w.heap.size + 1, 0, none⟩ = some (.int .i64 q.op) ∧ W.cell? ⟨w.heap.size + 1, 1, none⟩ = some (.int .i64 q.ctor) ∧ W.cell? ⟨w.heap.size + 1, 2, none⟩ = some (.int .i64 q.n) ∧ W.cell? ⟨w.heap.size + 1, 3, none⟩ = some (.int .i64 q.m) ∧ W.cell? ⟨w.heap.size + 1, 4, none⟩ = some (.int .i64 q.var) ∧ W.cell? ⟨w.heap.size + 1, 5, none⟩ = some (.slice E q.kids.length cq)) := fun W h => by
    obtain ⟨a0, a1, a2, a3, a4, a5⟩ := HXP.out.at_ (below_aft hb20 h hb20.size)
    exact ⟨a0, a1, a2, a3, a4, a5, HXQ.out.at_ (below_aft hb20 h hb20.size)⟩
  have SQ := HKS.out w2.drew (Below.refl _ w2).drew
  clear hb1 hb2 y0 y1 y2 y3 y4 y5 x0 x1 x2 x3 x4 x5
  go_region_held3 (fun w' => w'.cell? ⟨w.heap.size, 0, none⟩ = some (.int .i64 p.op) ∧ w'.cell? ⟨w.heap.size, 1, none⟩ = some (.int .i64 p.ctor) ∧ w'.cell? ⟨w.heap.size, 2, none⟩ = some (.int .i64 p.n) ∧ w'.cell? ⟨w.heap.size, 3, none⟩ = some (.int .i64 p.m) ∧ w'.cell? ⟨w.heap.size, 4, none⟩ = some (.int .i64 p.var) ∧ w'.cell? ⟨w.heap.size, 5, none⟩ = some (.slice D p.kids.length cp) ∧ w'.cell? ⟨w.heap.size + 1, 0, none⟩ = some (.int .i64 q.op) ∧ w'.cell? ⟨w.heap.size + 1, 1, none⟩ = some (.int .i64 q.ctor) ∧ w'.cell? ⟨w.heap.size + 1, 2, none⟩ = some (.int .i64 q.n) ∧ w'.cell? ⟨w.heap.size + 1, 3, none⟩ = some (.int .i64 q.m) ∧ w'.cell? ⟨w.heap.size + 1, 4, none⟩ = some (.int .i64 q.var) ∧ w'.cell? ⟨w.heap.size + 1, 5, none⟩ = some (.slice E q.kids.length cq)) (with_reducible exact SQ) (first
    | (go_at_call 31; (with_reducible refine (toPO_any d E q.kids cq q.op q.ctor q.n q.m q.var w3 (HQ.out.at_ (below_aft hb2w hbq hb2w.size)) hnq).mono ?_); rintro e4 w4 ⟨A4, rfl, ho4, hb'⟩; have hbq := below_aft hbq hb' hbq.size; have SQ := HKS.out _ hbq; have R4 := Lib.hid (R3.out.at_ hb'); have V4 := Lib.hid (OPs.reads _ ho4); clear ho4 hb')
    | (go_at_call 31; (with_reducible refine (toPO_any d D p.kids cp p.op p.ctor p.n p.m p.var w2.drew (HP.out.at_ hb2w.drew) hnp).mono ?_); rintro e3 w3 ⟨A3, rfl, ho3, hb'⟩; have hbq : Below w2.heap.size w2 w3 := ⟨hb'.os, hb'.tape, hb'.output, hb'.size, hb'.block⟩; have SQ := HKS.out _ hbq; have R3 := Lib.hid (OPs.reads _ ho3); clear ho3 hb')
    | (go_at_call 30; (with_reducible refine (HSP.out _ _ _ _ w4 R4.out V4.out).mono ?_); rintro e5 w5 ⟨rfl, hb'⟩; have hbq := below_aft hbq hb' hbq.size; have SQ := HKS.out _ hbq; clear hb'))
  have hb5w := below_aft hb2w hbq hb2w.size
  have B25 := Lib.hid hbq
  clear SQ hbq R3 R4 V4
  obtain ⟨x0, x1, x2, x3, x4, x5, _⟩ := HKS.out w5 B25.out
  go_wp2_with fail
  refine (toPO_any d D p.kids cp p.op p.ctor p.n p.m p.var w5 (HP.out.at_ hb5w) hnp).mono ?_; rintro e6 w6 ⟨A6, rfl, ho6, hb6'⟩
  obtain ⟨w6b, hw6b⟩ : ∃ w6b, w6b = w6.alloc (.cells #[.int .i64 p.op, .int .i64 p.ctor, .int .i64 p.n, .int .i64 p.m, .int .i64 p.var, .slice A6 p.kids.length p.kids.length] 37) := ⟨_, rfl⟩
  have hb6b : Below w6.heap.size w6 w6b := by rw [hw6b]; exact (Below.refl _ _).alloc (Nat.le_refl _) _
  have X6 : Hid (PBx w6b w6.heap.size p (.slice A6 p.kids.length p.kids.length)) := by rw [hw6b]; exact ⟨by simp [go_sem], by simp [go_sem], by simp [go_sem], by simp [go_sem], by simp [go_sem], by simp [go_sem]⟩
  have O6 : Hid (OPs (d + 1) w6b (Nw w5 w6) A6 p.kids) := ho6.later2 hb6b
  have hs6b : w6.heap.size < w6b.heap.size := by rw [hw6b]; simp
  have HWB6 := Lib.hid hw6b
  have B5b := Lib.hid (below_aft hb6' hb6b hb6'.size)
  have B2b := Lib.hid (below_aft B25.out B5b.out B25.out.size)
  have hb6w := below_aft hb5w B5b.out hb5w.size
  have hs56 := hb6'.size
  clear hw6b ho6 hb6' hb6b x0 x1 x2 x3 x4 x5
  obtain ⟨_, _, _, _, _, _, y0, y1, y2, y3, y4, y5⟩ := HKS.out w6b B2b.out
  go_upto_region 10 with fail
  rw [← HWB6.out]
  go_wp2_with fail
  refine (toPO_any d E q.kids cq q.op q.ctor q.n q.m q.var w6b (HQ.out.at_ hb6w) hnq).mono ?_; rintro e7 w7 ⟨A7, rfl, ho7, hb7'⟩
  obtain ⟨w7b, hw7b⟩ : ∃ w7b, w7b = w7.alloc (.cells #[.int .i64 q.op, .int .i64 q.ctor, .int .i64 q.n, .int .i64 q.m, .int .i64 q.var, .slice A7 q.kids.length q.kids.length] 37) := ⟨_, rfl⟩
  have hb7b : Below w7.heap.size w7 w7b := by rw [hw7b]; exact (Below.refl _ _).alloc (Nat.le_refl _) _
  have X7 : Hid (PBx w7b w7.heap.size q (.slice A7 q.kids.length q.kids.length)) := by rw [hw7b]; exact ⟨by simp [go_sem], by simp [go_sem], by simp [go_sem], by simp [go_sem], by simp [go_sem], by simp [go_sem]⟩
  have O7 : Hid (OPs (d + 1) w7b (Nw w6b w7) A7 q.kids) := ho7.later2 hb7b
  have hs7b : w7.heap.size < w7b.heap.size := by rw [hw7b]; simp
  have HWB7 := Lib.hid hw7b
  have B67 := Lib.hid (below_aft hb7' hb7b hb7'.size)
  have B27 := Lib.hid (below_aft B2b.out B67.out B2b.out.size)
  have hb7w := below_aft hb6w B67.out hb6w.size
  have hs67 := hb7'.size
  have P7 : Hid (OPs (d + 1) w7b (Nw w5 w6) A6 p.kids) := O6.out.later2 B67.out
  have X67 := Lib.hid (X6.out.at_ B67.out)
  clear hw7b ho7 hb7' hb7b y0 y1 y2 y3 y4 y5
  obtain ⟨a0, a1, a2, a3, a4, a5⟩ := X67.out
  obtain ⟨b0, b1, b2, b3, b4, b5⟩ := X7.out
  go_upto_region 11 with fail
  rw [← HWB7.out]
  go_wp2_with fail
  refine (HIM.out A6 A7 _ _ _ _ w7b P7.out O7.out (fun b h => by have := h.2; omega) (fun b h => by have := h.2; omega)).mono ?_; rintro e8 w8 ⟨rfl, hb8'⟩
  have hb8w := below_aft hb7w hb8' hb7w.size
  have B78 := Lib.hid hb8'
  have B28 := Lib.hid (below_aft B27.out hb8' B27.out.size)
  have RP : Hid (RPs d w7b w7b.heap.size A6 p.kids) := OPs.reads d P7.out
  have RQ : Hid (RPs d w7b w7b.heap.size A7 q.kids) := OPs.reads d O7.out
  clear a0 a1 a2 a3 a4 a5 b0 b1 b2 b3 b4 b5 hb8'
  have HKC : Hid (∀ W, Below w7b.heap.size w7b W → W.cell? ⟨w6.heap.size, 0, none⟩ = some (.int .i64 p.op) ∧ W.cell? ⟨w6.heap.size, 1, none⟩ = some (.int .i64 p.ctor) ∧ W.cell? ⟨w6.heap.size, 2, none⟩ = some (.int .i64 p.n) ∧ W.cell? ⟨w6.heap.size, 3, none⟩ = some (.int .i64 p.m) ∧ W.cell? ⟨w6.heap.size, 4, none⟩ = some (.int .i64 p.var) ∧ W.cell? ⟨w6.heap.size, 5, none⟩ = some (.slice A6 p.kids.length p.kids.length) ∧ W.cell? ⟨w.heap.size, 0, none⟩ = some (.int .i64 p.op) ∧ W.cell? ⟨w.heap.size, 1, none⟩ = some (.int .i64 p.ctor) ∧ W.cell? ⟨w.heap.size, 2, none⟩ = some (.int .i64 p.n) ∧ W.cell? ⟨w.heap.size, 3, none⟩ = some (.int .i64 p.m) ∧ W.cell? ⟨w.heap.size, 4, none⟩ = some (.int .i64 p.var) ∧ W.cell? ⟨w.heap.size, 5, none⟩ = some (.slice D p.kids.length cp)) := fun W h => by
    obtain ⟨x0, x1, x2, x3, x4, x5, _⟩ := HKS.out W (below_aft B27.out h B27.out.size)
    obtain ⟨c0, c1, c2, c3, c4, c5⟩ := X67.out.at_ h
    exact ⟨c0, c1, c2, c3, c4, c5, x0, x1, x2, x3, x4, x5⟩
  have HKD : Hid (∀ W, Below w7b.heap.size w7b W → W.cell? ⟨w7.heap.size, 0, none⟩ = some (.int .i64 q.op) ∧ W.cell? ⟨w7.heap.size, 1, none⟩ = some (.int .i64 q.ctor) ∧ W.cell? ⟨w7.heap.size, 2, none⟩ = some (.int .i64 q.n) ∧ W.cell? ⟨w7.heap.size, 3, none⟩ = some (.int .i64 q.m) ∧ W.cell? ⟨w7.heap.size, 4, none⟩ = some (.int .i64 q.var) ∧ W.cell? ⟨w7.heap.size, 5, none⟩ = some (.slice A7 q.kids.length q.kids.length) ∧ W.cell? ⟨w.heap.size + 1, 0, none⟩ = some (.int .i64 q.op) ∧ W.cell? ⟨w.heap.size + 1, 1, none⟩ = some (.int .i64 q.ctor) ∧ W.cell? ⟨w.heap.size + 1, 2, none⟩ = some (.int .i64 q.n) ∧ W.cell? ⟨w.heap.size + 1, 3, none⟩ = some (.int .i64 q.m) ∧ W.cell? ⟨w.heap.size + 1, 4, none⟩ = some (.int .i64 q.var) ∧ W.cell? ⟨w.heap.size + 1, 5, none⟩ = some (.slice E q.kids.length cq)) := fun W h => by
    obtain ⟨_, _, _, _, _, _, x0, x1, x2, x3, x4, x5⟩ := HKS.out W (below_aft B27.out h B27.out.size)
    obtain ⟨c0, c1, c2, c3, c4, c5⟩ := X7.out.at_ h
    exact ⟨c0, c1, c2, c3, c4, c5, x0, x1, x2, x3, x4, x5⟩
  have SQ := HKC.out w8.drew B78.out.drew
  go_wp2_with fail
  go_region_held3 (fun w' => w'.cell? ⟨w6.heap.size, 0, none⟩ = some (.int .i64 p.op) ∧ w'.cell? ⟨w6.heap.size, 1, none⟩ = some (.int .i64 p.ctor) ∧ w'.cell? ⟨w6.heap.size, 2, none⟩ = some (.int .i64 p.n) ∧ w'.cell? ⟨w6.heap.size, 3, none⟩ = some (.int .i64 p.m) ∧ w'.cell? ⟨w6.heap.size, 4, none⟩ = some (.int .i64 p.var) ∧ w'.cell? ⟨w6.heap.size, 5, none⟩ = some (.slice A6 p.kids.length p.kids.length) ∧ w'.cell? ⟨w.heap.size, 0, none⟩ = some (.int .i64 p.op) ∧ w'.cell? ⟨w.heap.size, 1, none⟩ = some (.int .i64 p.ctor) ∧ w'.cell? ⟨w.heap.size, 2, none⟩ = some (.int .i64 p.n) ∧ w'.cell? ⟨w.heap.size, 3, none⟩ = some (.int .i64 p.m) ∧ w'.cell? ⟨w.heap.size, 4, none⟩ = some (.int .i64 p.var) ∧ w'.cell? ⟨w.heap.size, 5, none⟩ = some (.slice D p.kids.length cp)) (with_reducible exact SQ) (first
    | (go_at_call 31; (with_reducible refine (toPO_any d D p.kids cp p.op p.ctor p.n p.m p.var w8.drew (HP.out.at_ hb8w.drew) hnp).mono ?_); rintro e9 w9 ⟨A9, rfl, ho9, hb'⟩; have hb9' : Below w8.heap.size w8 w9 := ⟨hb'.os, hb'.tape, hb'.output, hb'.size, hb'.block⟩; have hbq := below_aft B78.out hb9' B78.out.size; have SQ := HKC.out _ hbq; have V9 := Lib.hid (OPs.reads _ ho9); clear ho9 hb')
    | (go_at_call 33; (with_reducible refine (eqP_same d _ _ p.kids _ _ p.op p.ctor p.n p.m p.var w9 (RP.out.at_ hbq) V9.out).mono ?_); rintro e10 w10 ⟨rfl, hb'⟩; have hb10' := below_aft hb9' hb' hb9'.size; have hbq := below_aft hbq hb' hbq.size; have SQ := HKC.out _ hbq; clear hb'))
  have hb10w := below_aft hb8w hb10' hb8w.size
  have B710 := Lib.hid hbq
  clear SQ hbq hb10' hb9' V9
  have SQ := HKD.out w10.drew B710.out.drew
  go_wp2_with fail
  go_region_held3 (fun w' => w'.cell? ⟨w7.heap.size, 0, none⟩ = some (.int .i64 q.op) ∧ w'.cell? ⟨w7.heap.size, 1, none⟩ = some (.int .i64 q.ctor) ∧ w'.cell? ⟨w7.heap.size, 2, none⟩ = some (.int .i64 q.n) ∧ w'.cell? ⟨w7.heap.size, 3, none⟩ = some (.int .i64 q.m) ∧ w'.cell? ⟨w7.heap.size, 4, none⟩ = some (.int .i64 q.var) ∧ w'.cell? ⟨w7.heap.size, 5, none⟩ = some (.slice A7 q.kids.length q.kids.length) ∧ w'.cell? ⟨w.heap.size + 1, 0, none⟩ = some (.int .i64 q.op) ∧ w'.cell? ⟨w.heap.size + 1, 1, none⟩ = some (.int .i64 q.ctor) ∧ w'.cell? ⟨w.heap.size + 1, 2, none⟩ = some (.int .i64 q.n) ∧ w'.cell? ⟨w.heap.size + 1, 3, none⟩ = some (.int .i64 q.m) ∧ w'.cell? ⟨w.heap.size + 1, 4, none⟩ = some (.int .i64 q.var) ∧ w'.cell? ⟨w.heap.size + 1, 5, none⟩ = some (.slice E q.kids.length cq)) (with_reducible exact SQ) (first
    | (go_at_call 31; (with_reducible refine (toPO_any d E q.kids cq q.op q.ctor q.n q.m q.var w10.drew (HQ.out.at_ hb10w.drew) hnq).mono ?_); rintro e11 w11 ⟨A11, rfl, ho11, hb'⟩; have hb11' : Below w10.heap.size w10 w11 := ⟨hb'.os, hb'.tape, hb'.output, hb'.size, hb'.block⟩; have hbq := below_aft B710.out hb11' B710.out.size; have SQ := HKD.out _ hbq; have V11 := Lib.hid (OPs.reads _ ho11); clear ho11 hb')
    | (go_at_call 33; (with_reducible refine (eqP_same d _ _ q.kids _ _ q.op q.ctor q.n q.m q.var w11 (RQ.out.at_ hbq) V11.out).mono ?_); rintro e12 w12 ⟨rfl, hb'⟩; have hb12' := below_aft hb11' hb' hb11'.size; have hbq := below_aft hbq hb' hbq.size; have SQ := HKD.out _ hbq; clear hb'))
  have hb12w := below_aft hb10w hb12' hb10w.size
  clear SQ hbq
  go_wp2_with fail
  go_ret
  exact ⟨rfl, hb12w⟩
end Go.Proofs.Ythdnfnmglhifmaa
