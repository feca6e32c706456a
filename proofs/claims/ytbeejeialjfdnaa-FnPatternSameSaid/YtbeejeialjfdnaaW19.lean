/-
  PatternSame of the program. No statement is proved here.
-/
import Derived.Test.YtbeejeialjfdnaaW18
import Derived.Test.YtbeejeialjfdnaaW17
import Derived.Test.YtbeejeialjfdnaaW07
import Derived.Deep.RegionHeld3
import Derived.Deep.DeepCutAuto
import Derived.Deep.Slices
import Derived.ChangeArms
namespace Go.Proofs.Ytbeejeialjfdnaa
open Go.RowKit Go.Sort Go.Deep
set_option maxRecDepth 100000
set_option linter.unusedVariables false
theorem wp_mapUpdate_ky {w : World} {ops : Array Oper} {rest : List Oper} {o : Oper} {a : Act} {Q : Exit → Act → World → Prop}
    (hg : o.guard = none) (m x v : Operand) (hop : o.op = Op.mapUpdate 111 m x v) (b : Nat) (S : List KyP) (k : KyP)
    (hm : a.eval m = .map (some b)) (hS : MapKyP w b S) (hk : LiesKP w k) (hl : ∀ k' ∈ S, LiesKP w k') (hn : ¬ k ∈ S) (hx : a.eval x = k.v) (hv : a.eval v = .bool true)
    (hK : ∀ w', MapKyP w' b (S ++ [k]) → w.grownBy w' (some b) → wpList Try.prog ops Q rest (a.put o.dst undef) w') :
    wpList Try.prog ops Q (o :: rest) a w := by
  refine wpList_plain hg fun K' hK' => ?_
  obtain ⟨w', hrun, r1, r2⟩ := hS.put hk hl hn
  unfold Oper.wp
  simp [execOp, hop, hm, hx, hv, hrun, Result.andThen]
  exact hK' _ _ (hK w' r1 r2)
/-- What a round knows. -/
def RelP (p q : Pt) (wS : World) (m lo N : Nat) (u : Value) (wr : World) (n : Nat) : Prop := ∃ W S, muP W = n ∧ n ≤ N ∧ OpnP wr lo u W ∧ MapKyP wr m S ∧ InvP p q wS m W S ∧ Fr (fun b => b = m) wS wr
theorem infoPair : (Try.prog.info? 113).map (fun i => (i.zero, i.size, i.bytes)) = some (some (.agg #[.slice none 0 0, .slice none 0 0]), 2, 48) := by kernel_rfl
theorem OPs.topd {d : Nat} {w : World} {P : Nat → Prop} {D : Option Addr} {c L : Nat} {p : Pt} (h : OPs d w P D p.kids) (hL : w.heap[L]? = some (.cells #[.int .i64 p.op, .int .i64 p.ctor, .int .i64 p.n, .int .i64 p.m, .int .i64 p.var, .slice D p.kids.length c] 50 (0, 0))) (hP : ¬ P L) : OPs (d + 1) w (fun b => P b ∨ b = L) (some ⟨L, 0, none⟩) [p] := by
  refine ⟨by unfold maxLen; simp, fun _ => ⟨L, _, fun _ => P, rfl, .inr rfl, hL, fun k b _ hb => ⟨.inl hb, fun e => hP (e ▸ hb), fun j hj hjk => ?_⟩, fun k hk => ?_⟩⟩
  · simp at *; omega
  · have : k = 0 := by simp at hk; omega
    subst this
    exact ⟨D, c, rfl, rfl, rfl, rfl, rfl, rfl, h⟩
def ZbK (w : World) (g : Nat) : Prop := w.heap[g]? = some (.cells #[.pointer none, .int .i64 0, .pointer none, .int .i64 0] 120 (0, 0))
theorem heap_new1 (w : World) (o : Obj) : (w.alloc o).heap[w.heap.size]? = some o := by show (w.heap.push o)[w.heap.size]? = _; simp
theorem ZbK.new (w : World) : ZbK (w.alloc (.cells #[.pointer none, .int .i64 0, .pointer none, .int .i64 0] 120)) w.heap.size := heap_new1 _ _
theorem ZbK.at_ {w w' : World} {g : Nat} (h : ZbK w g) (hb : Below w.heap.size w w') : ZbK w' g := (hb.block g (heap_lt h)).trans h
theorem ZbK.cells {w : World} {g : Nat} (h : ZbK w g) : w.cell? ⟨g, 0, none⟩ = some (.pointer none) ∧ w.cell? ⟨g, 1, none⟩ = some (.int .i64 0) ∧ w.cell? ⟨g, 2, none⟩ = some (.pointer none) ∧ w.cell? ⟨g, 3, none⟩ = some (.int .i64 0) ∧ w.frozen? ⟨g, 0, none⟩ = false ∧ w.frozen? ⟨g, 1, none⟩ = false ∧ w.frozen? ⟨g, 2, none⟩ = false ∧ w.frozen? ⟨g, 3, none⟩ = false :=
  ⟨(cell_of_blk h 0).trans rfl, (cell_of_blk h 1).trans rfl, (cell_of_blk h 2).trans rfl, (cell_of_blk h 3).trans rfl, frozen_of_row w g 0 _ 120 h, frozen_of_row w g 1 _ 120 h, frozen_of_row w g 2 _ 120 h, frozen_of_row w g 3 _ 120 h⟩
/-- A key that stands in a block of its own. -/
def StK (w1 : World) (g : Nat) (k : KyP) (wx : World) : Prop := w1.heap.size ≤ g ∧ Below w1.heap.size w1 wx ∧ wx.heap[g]? = some (.cells #[.pointer k.a, .int .i64 k.n, .pointer k.b, .int .i64 k.m] 120 (0, 0))
theorem StK.new {w1 w3 : World} {a b : Option Addr} {n m : Nat} (hb : Below w1.heap.size w1 w3) : StK w1 w3.heap.size ⟨a, n, b, m⟩ (w3.alloc (.cells #[.pointer a, .int .i64 n, .pointer b, .int .i64 m] 120)) := ⟨hb.size, hb.alloc hb.size _, heap_new1 _ _⟩
theorem StK.set {w1 w3 : World} {g : Nat} {a b : Option Addr} {n m : Nat} (hb : Below w1.heap.size w1 w3) (hz : ZbK w3 g) (hg : w1.heap.size ≤ g) : StK w1 g ⟨a, n, b, m⟩ ((((w3.setCell ⟨g, 0, none⟩ (.pointer a)).setCell ⟨g, 1, none⟩ (.int .i64 n)).setCell ⟨g, 2, none⟩ (.pointer b)).setCell ⟨g, 3, none⟩ (.int .i64 m)) :=
  ⟨hg, (((hb.setCell hg _).setCell hg _).setCell hg _).setCell hg _, heap_setCell_same _ g _ _ _ _ (heap_setCell_same _ g _ _ _ _ (heap_setCell_same _ g _ _ _ _ (heap_setCell_same _ g _ _ _ _ hz)))⟩
theorem StK.cells {w1 wx : World} {g : Nat} {k : KyP} (h : StK w1 g k wx) : wx.cell? ⟨g, 0, none⟩ = some (.pointer k.a) ∧ wx.cell? ⟨g, 1, none⟩ = some (.int .i64 k.n) ∧ wx.cell? ⟨g, 2, none⟩ = some (.pointer k.b) ∧ wx.cell? ⟨g, 3, none⟩ = some (.int .i64 k.m) :=
  ⟨(cell_of_blk h.2.2 0).trans rfl, (cell_of_blk h.2.2 1).trans rfl, (cell_of_blk h.2.2 2).trans rfl, (cell_of_blk h.2.2 3).trans rfl⟩
theorem below_set4 {w1 w3 : World} {g : Nat} (hb : Below w1.heap.size w1 w3) (hg : w1.heap.size ≤ g) (a b c d : Value) : Below w1.heap.size w1 ((((w3.setCell ⟨g, 0, none⟩ a).setCell ⟨g, 1, none⟩ b).setCell ⟨g, 2, none⟩ c).setCell ⟨g, 3, none⟩ d) := (((hb.setCell hg _).setCell hg _).setCell hg _).setCell hg _
set_option maxHeartbeats 16000000 in
theorem ps_impl (D E : Option Addr) (p q : Pt) (cp cq d e : Nat) (PP QQ : Nat → Prop) (w : World) (hp : OPs d w PP D p.kids) (hq : OPs e w QQ E q.kids) (hPP : ∀ b, PP b → b < w.heap.size) (hQQ : ∀ b, QQ b → b < w.heap.size) (hN : wP p ≤ 1048576) :
    Calls Try.prog 35 #[.agg #[.int .i64 p.op, .int .i64 p.ctor, .int .i64 p.n, .int .i64 p.m, .int .i64 p.var, .slice D p.kids.length cp], .agg #[.int .i64 q.op, .int .i64 q.ctor, .int .i64 q.n, .int .i64 q.m, .int .i64 q.var, .slice E q.kids.length cq]] w fun e w' => e = .returned (.bool (dec (p = q))) ∧ Below w.heap.size w w' := by
  obtain ⟨i0, hi, hz0, hz1, hz2⟩ := info_parts infoPair
  generalize hwx : ((((w.alloc (.cells #[.int .i64 p.op, .int .i64 p.ctor, .int .i64 p.n, .int .i64 p.m, .int .i64 p.var, .slice D p.kids.length cp] 50)).alloc (.cells #[.int .i64 q.op, .int .i64 q.ctor, .int .i64 q.n, .int .i64 q.m, .int .i64 q.var, .slice E q.kids.length cq] 50)).alloc (.map #[] 0)).alloc (.cells #[.int .i64 p.op, .int .i64 p.ctor, .int .i64 p.n, .int .i64 p.m, .int .i64 p.var, .slice D p.kids.length cp] 50)).alloc (.cells #[.int .i64 q.op, .int .i64 q.ctor, .int .i64 q.n, .int .i64 q.m, .int .i64 q.var, .slice E q.kids.length cq] 50) = wS
  have hbS : Below w.heap.size w wS := by rw [← hwx]; exact (((((Below.refl _ _).alloc (Nat.le_refl _) _).alloc (by simp) _).alloc (by simp; omega) _).alloc (by simp; omega) _).alloc (by simp; omega) _
  have HSZ : Hid (wS.heap.size = w.heap.size + 5) := by unfold Hid; rw [← hwx]; simp
  have HMK : Hid (MapKyP wS (w.heap.size + 2) []) := by
    rw [← hwx]
    refine MapKyP.keep (w := ((w.alloc (.cells #[.int .i64 p.op, .int .i64 p.ctor, .int .i64 p.n, .int .i64 p.m, .int .i64 p.var, .slice D p.kids.length cp] 50)).alloc (.cells #[.int .i64 q.op, .int .i64 q.ctor, .int .i64 q.n, .int .i64 q.m, .int .i64 q.var, .slice E q.kids.length cq] 50)).alloc (.map #[] 0)) ?_ (by rw [Below.heap_alloc _ _ _ (by simp), Below.heap_alloc _ _ _ (by simp)])
    have := MapKyP.made ((w.alloc (.cells #[.int .i64 p.op, .int .i64 p.ctor, .int .i64 p.n, .int .i64 p.m, .int .i64 p.var, .slice D p.kids.length cp] 50)).alloc (.cells #[.int .i64 q.op, .int .i64 q.ctor, .int .i64 q.n, .int .i64 q.m, .int .i64 q.var, .slice E q.kids.length cq] 50))
    simpa using this
  have HL1 : Hid (wS.heap[w.heap.size + 3]? = some (.cells #[.int .i64 p.op, .int .i64 p.ctor, .int .i64 p.n, .int .i64 p.m, .int .i64 p.var, .slice D p.kids.length cp] 50 (0, 0))) := by rw [← hwx]; exact (Below.heap_alloc _ _ _ (by simp)).trans (by have h := heap_new1 (((w.alloc (.cells #[.int .i64 p.op, .int .i64 p.ctor, .int .i64 p.n, .int .i64 p.m, .int .i64 p.var, .slice D p.kids.length cp] 50)).alloc (.cells #[.int .i64 q.op, .int .i64 q.ctor, .int .i64 q.n, .int .i64 q.m, .int .i64 q.var, .slice E q.kids.length cq] 50)).alloc (.map #[] 0)) (.cells #[.int .i64 p.op, .int .i64 p.ctor, .int .i64 p.n, .int .i64 p.m, .int .i64 p.var, .slice D p.kids.length cp] 50); rw [show (((w.alloc (.cells #[.int .i64 p.op, .int .i64 p.ctor, .int .i64 p.n, .int .i64 p.m, .int .i64 p.var, .slice D p.kids.length cp] 50)).alloc (.cells #[.int .i64 q.op, .int .i64 q.ctor, .int .i64 q.n, .int .i64 q.m, .int .i64 q.var, .slice E q.kids.length cq] 50)).alloc (.map #[] 0)).heap.size = w.heap.size + 3 by simp] at h; exact h)
  have HL2 : Hid (wS.heap[w.heap.size + 4]? = some (.cells #[.int .i64 q.op, .int .i64 q.ctor, .int .i64 q.n, .int .i64 q.m, .int .i64 q.var, .slice E q.kids.length cq] 50 (0, 0))) := by rw [← hwx]; have h := heap_new1 ((((w.alloc (.cells #[.int .i64 p.op, .int .i64 p.ctor, .int .i64 p.n, .int .i64 p.m, .int .i64 p.var, .slice D p.kids.length cp] 50)).alloc (.cells #[.int .i64 q.op, .int .i64 q.ctor, .int .i64 q.n, .int .i64 q.m, .int .i64 q.var, .slice E q.kids.length cq] 50)).alloc (.map #[] 0)).alloc (.cells #[.int .i64 p.op, .int .i64 p.ctor, .int .i64 p.n, .int .i64 p.m, .int .i64 p.var, .slice D p.kids.length cp] 50)) (.cells #[.int .i64 q.op, .int .i64 q.ctor, .int .i64 q.n, .int .i64 q.m, .int .i64 q.var, .slice E q.kids.length cq] 50); rw [show ((((w.alloc (.cells #[.int .i64 p.op, .int .i64 p.ctor, .int .i64 p.n, .int .i64 p.m, .int .i64 p.var, .slice D p.kids.length cp] 50)).alloc (.cells #[.int .i64 q.op, .int .i64 q.ctor, .int .i64 q.n, .int .i64 q.m, .int .i64 q.var, .slice E q.kids.length cq] 50)).alloc (.map #[] 0)).alloc (.cells #[.int .i64 p.op, .int .i64 p.ctor, .int .i64 p.n, .int .i64 p.m, .int .i64 p.var, .slice D p.kids.length cp] 50)).heap.size = w.heap.size + 4 by simp] at h; exact h
  have HX1 : Hid (PBx wS w.heap.size p (.slice D p.kids.length cp)) := by rw [← hwx]; exact ⟨by simp [go_sem], by simp [go_sem], by simp [go_sem], by simp [go_sem], by simp [go_sem], by simp [go_sem]⟩
  have HWS := Lib.hid hwx
  clear hwx
  have hpS := hp.fr _ (Fr.below (P := fun _ => False) hbS) (fun _ _ h => h)
  have hqS := hq.fr _ (Fr.below (P := fun _ => False) hbS) (fun _ _ h => h)
  have HP1 : Hid (OPs (d + 1) wS (fun b => PP b ∨ b = w.heap.size + 3) (some ⟨w.heap.size + 3, 0, none⟩) [p]) := hpS.topd HL1.out (fun h => by have := hPP _ h; omega)
  have HQ1 : Hid (OPs (e + 1) wS (fun b => QQ b ∨ b = w.heap.size + 4) (some ⟨w.heap.size + 4, 0, none⟩) [q]) := hqS.topd HL2.out (fun h => by have := hQQ _ h; omega)
  have HIV : Hid (InvP p q wS (w.heap.size + 2) [⟨some ⟨w.heap.size + 3, 0, none⟩, [p], 1, some ⟨w.heap.size + 4, 0, none⟩, [q], 1, d + 1, fun b => PP b ∨ b = w.heap.size + 3, e + 1, fun b => QQ b ∨ b = w.heap.size + 4⟩] []) := by
    refine ⟨?_, fun x hx => ?_, List.pairwise_singleton _ _, fun _ _ k hk => (by cases hk), fun k hk => (by cases hk), fun k hk => (by cases hk)⟩
    · simp
    · rw [List.mem_singleton.1 hx]
      refine ⟨HP1.out, HQ1.out, fun b hb => ?_, fun b hb => ?_⟩
      · have := HSZ.out
        rcases hb with hb | rfl
        · have := hPP b hb; omega
        · omega
      · have := HSZ.out
        rcases hb with hb | rfl
        · have := hQQ b hb; omega
        · omega
  obtain ⟨wR, hwR⟩ : ∃ wR, wR = wS.alloc (.cells #[.slice (some ⟨w.heap.size + 3, 0, none⟩) 1 1, .slice (some ⟨w.heap.size + 4, 0, none⟩) 1 1] 113) := ⟨_, rfl⟩
  have hbR : Below wS.heap.size wS wR := by rw [hwR]; exact (Below.refl _ _).alloc (Nat.le_refl _) _
  have HO0 : Hid (OpnP wR (w.heap.size + 5) (.slice (some ⟨w.heap.size + 5, 0, none⟩) 1 1) [⟨some ⟨w.heap.size + 3, 0, none⟩, [p], 1, some ⟨w.heap.size + 4, 0, none⟩, [q], 1, d + 1, fun b => PP b ∨ b = w.heap.size + 3, e + 1, fun b => QQ b ∨ b = w.heap.size + 4⟩]) := by
    rw [hwR]
    refine ⟨[.slice (some ⟨w.heap.size + 3, 0, none⟩) 1 1, .slice (some ⟨w.heap.size + 4, 0, none⟩) 1 1], ?_, fun j hj => ?_⟩
    · have h := World.ownsRow_lit (e := 113) wS #[.slice (some ⟨w.heap.size + 3, 0, none⟩) 1 1, .slice (some ⟨w.heap.size + 4, 0, none⟩) 1 1] (size := 2) (base := w.heap.size + 5) 1 (by rw [HSZ.out]; exact Nat.le_refl _) (by unfold maxLen; omega) rfl
      rw [HSZ.out] at h
      exact h
    · have : j = 0 := by simp at hj; omega
      subst this
      exact ⟨rfl, rfl⟩
  have HR0 : Hid (RelP p q wS (w.heap.size + 2) (w.heap.size + 5) (2 + wP p) (.slice (some ⟨w.heap.size + 5, 0, none⟩) 1 1) wR (2 + wP p)) := by
    refine ⟨_, [], ?_, Nat.le_refl _, HO0.out, HMK.out.keep (hbR.block _ (by have := HSZ.out; omega)), HIV.out, Fr.below hbR⟩
    unfold muP
    simp only [List.map_cons, List.map_nil, List.sum_cons, List.sum_nil, wPs]
    omega
  have HWR := Lib.hid hwR
  have HNN := Lib.hid hN
  have HBS := Lib.hid hbS
  clear hp hq hPP hQQ hpS hqS HL1 HL2 HP1 HQ1 HIV HO0 HMK hwR hN hbR hbS
  have hmm := @run_makeMap Try.prog
  go_enter Try.func35, Try.ntmps35
  go_wp2_with fail
  rw [HWS.out, ← HWR.out]
  clear hmm
  go_loopw [6] (fun u wr => ∃ n, RelP p q wS (w.heap.size + 2) (w.heap.size + 5) (2 + wP p) u wr n) (fun u wr => lst (RelP p q wS (w.heap.size + 2) (w.heap.size + 5) (2 + wP p) u wr))
  case atStart => exact ⟨_, HR0.out⟩
  case round =>
    clear HR0
    obtain ⟨n0, hn0⟩ := hrel
    obtain ⟨hrl, _⟩ := lst_spec hn0
    obtain ⟨W0, S0, hmu, hle, ho, hmk, hiv, hfr⟩ := hrl
    clear hn0
    have HMU := Lib.hid hmu
    clear hmu
    have HFR := Lib.hid hfr
    have hfs := hfr.size
    clear hfr
    rcases last_or W0 with rfl | ⟨W, x, rfl⟩
    · have HE : Hid (dec (p = q) = true) := dec_t (hiv.goal.2 (fun x hx => by cases hx))
      obtain ⟨A, c, rfl⟩ := ho.nil_form
      clear hiv ho hmk
      go_wp2_with fail
      go_ret
      exact ⟨ret_bool HE.out.symm, HBS.out.trans (HFR.out.to (B := w.heap.size) (by have := HSZ.out; omega) (fun b hb e => by omega))⟩
    · obtain ⟨XA, la, ca, XB, lb, cb, xd, XP, xe, XQ⟩ := x
      obtain ⟨hpa, hpb, hPx, hQx⟩ := hiv.ok _ (List.mem_append.2 (.inr (List.mem_singleton.2 rfl)))
      obtain ⟨g, cap, rfl, hlo, hgs, hlc, hcm, c0, c1, hpop⟩ := ho.top
      obtain ⟨d', hd', hlal, _⟩ := hpa.parts
      obtain ⟨e', he', hlbl, _⟩ := hpb.parts
      change xd = d' + 1 at hd'
      change xe = e' + 1 at he'
      subst hd' he'
      change OPs (d' + 1) wS XP XA la at hpa
      change OPs (e' + 1) wS XQ XB lb at hpb
      change la.length ≤ maxLen at hlal
      change lb.length ≤ maxLen at hlbl
      change wr.cell? ⟨g, W.length * 2, none⟩ = some (.slice XA la.length ca) at c0
      change wr.cell? ⟨g, W.length * 2 + 1, none⟩ = some (.slice XB lb.length cb) at c1
      have HPX := Lib.hid hPx
      have HQX := Lib.hid hQx
      have HPA := Lib.hid hpa
      have HPB := Lib.hid hpb
      have HIV := Lib.hid hiv
      have HMK := Lib.hid hmk
      have HPOP := Lib.hid hpop
      have hmuW : muP (W ++ [⟨XA, la, ca, XB, lb, cb, d' + 1, XP, e' + 1, XQ⟩]) = muP W + (1 + wPs la) := muP_app W _
      rw [hmuW] at HMU
      have HLE : Hid (muP W + (1 + wPs la) ≤ 2 + wP p) := by unfold Hid; rw [HMU.out]; exact hle
      have hWl : W.length ≤ 1048578 := by have := muP_len W; have := HLE.out; have := HNN.out; omega
      have hcm' : cap ≤ 9223372036854775807 := by unfold maxLen at hcm; omega
      have hla' : la.length ≤ 9223372036854775807 := by unfold maxLen at hlal; omega
      have hlb' : lb.length ≤ 9223372036854775807 := by unfold maxLen at hlbl; omega
      have HLO := Lib.hid hlo
      clear ho hiv hmk hpop hPx hQx hpa hpb hmuW hle hcm hlal hlbl
      obtain ⟨wb, hwb⟩ : ∃ wb, wb = wr.alloc (.cells #[.slice XA la.length ca, .slice XB lb.length cb] 113) := ⟨_, rfl⟩
      have hbb : Below wr.heap.size wr wb := by rw [hwb]; exact (Below.refl _ _).alloc (Nat.le_refl _) _
      have HN0 : Hid (wb.cell? ⟨wr.heap.size, 0, none⟩ = some (.slice XA la.length ca) ∧ wb.cell? ⟨wr.heap.size, 1, none⟩ = some (.slice XB lb.length cb)) := by rw [hwb]; exact ⟨by simp [go_sem], by simp [go_sem]⟩
      have HSB : Hid (wb.heap.size = wr.heap.size + 1) := by unfold Hid; rw [hwb]; simp
      have HWB := Lib.hid hwb
      have HFB := Lib.hid (HFR.out.next hbb)
      clear hwb
      have HEQ : Hid (Calls Try.prog 72 #[.slice XA la.length ca, .slice XB lb.length cb, .func (.func 73) #[] #[]] wb fun e w' => ∃ r : Bool, e = .returned (.bool r) ∧ EqfR la lb r ∧ Below wb.heap.size wb w') := eqf_any XA XB la lb ca cb d' e' wb (OPs.reads d' (HPA.out.fr _ HFB.out (fun b hb e => (HPX.out b hb).2 e))) (OPs.reads e' (HPB.out.fr _ HFB.out (fun b hb e => (HQX.out b hb).2 e)))
      go_wp2_with fail
      rw [← HWB.out]
      refine HEQ.out.mono ?_
      rintro e1 w1 ⟨r, rfl, hr, hb1⟩
      have HF1 := Lib.hid (HFB.out.next hb1)
      rcases hr with ⟨rfl, hl, hq⟩ | ⟨rfl, hne⟩
      · obtain ⟨QA, hQA, hKA⟩ := HPA.out.kidsQ
        obtain ⟨QB, hQB, hKB⟩ := HPB.out.kidsQ
        have HII0 := Lib.hid (HIV.out.pop hl hq (Q := QA) (fun j b hj hb => ⟨(hQA j b hj hb).1, (hQA j b hj hb).2.1⟩))
        have HL := Lib.hid hl
        clear hl hq
        have HQA := Lib.hid hQA
        have HQB := Lib.hid hQB
        have HKA := Lib.hid hKA
        have HKB := Lib.hid hKB
        clear hQA hQB hKA hKB
        have HP1 : Hid (OpnP w1 (w.heap.size + 5) (.slice (some ⟨g, 0, none⟩) W.length cap) W) := (HPOP.out.below hbb).below hb1
        have HM1 : Hid (MapKyP w1 (w.heap.size + 2) S0) := (HMK.out.keep (hbb.block _ (by have := HSZ.out; omega))).keep (hb1.block _ (by have := HSZ.out; have := hbb.size; omega))
        obtain ⟨n0', n1'⟩ := HN0.out
        have hsb := hb1.size
        have HN1 : Hid (w1.cell? ⟨wr.heap.size, 0, none⟩ = some (.slice XA la.length ca) ∧ w1.cell? ⟨wr.heap.size, 1, none⟩ = some (.slice XB lb.length cb)) := by have := HSB.out; exact ⟨(hb1.cell (p := ⟨wr.heap.size, 0, none⟩) (by show wr.heap.size < _; omega)).trans n0', (hb1.cell (p := ⟨wr.heap.size, 1, none⟩) (by show wr.heap.size < _; omega)).trans n1'⟩
        have HS1 : Hid (wr.heap.size < w1.heap.size) := by unfold Hid; have := HSB.out; omega
        have hwo : ∃ wo, wo = wr := ⟨_, rfl⟩
        obtain ⟨wo, rfl⟩ := hwo
        obtain ⟨nn0, nn1⟩ := HN1.out
        have hs1 := HS1.out
        clear n0' n1' c0 c1 hb1 hsb hbb
        go_wp2_with fail
        go_loopw [6, 42] (fun u i wq => ∃ k : Nat, k ≤ la.length ∧ i = .int .i64 k ∧ ∃ V S, Hid (muP V ≤ muP W + (k + ((la.take k).map wP).sum)) ∧ Hid (OpnP wq (w.heap.size + 5) u V) ∧ Hid (MapKyP wq (w.heap.size + 2) S) ∧ Hid (InvI p q wS (w.heap.size + 2) V S la lb QA k) ∧ Hid (Fr (fun b => b = w.heap.size + 2) wS wq) ∧ Hid (wq.cell? ⟨wo.heap.size, 1, none⟩ = some (.slice XB lb.length cb) ∧ (∀ b, u.ownBlock = some b → b ≠ wo.heap.size) ∧ wo.heap.size < wq.heap.size)) (fun _ i _ => la.length - (intOf i).toNat)
        case atStart => exact ⟨0, by omega, rfl, W, S0, by unfold Hid; simp, HP1, HM1, HII0, HF1, ⟨HN1.out.2, fun b hb => by injection hb with hb; subst hb; exact fun e => by have e : g = wo.heap.size := e; omega, HS1.out⟩⟩
        case round =>
          have hwq : ∃ wq, wq = wr := ⟨_, rfl⟩
          obtain ⟨wq, rfl⟩ := hwq
          obtain ⟨k, hk, rfl, V, S, HMV, HO, HM, HI, HF, HNB⟩ := hrel
          by_cases hlt : k < la.length
          · have hltb : k < lb.length := by rw [← HL.out]; exact hlt
            obtain ⟨gA, A', capA, rfl, hPg, hgl, a0, a1, a2, a3, a4, a5, hka⟩ := HKA.out k hlt
            obtain ⟨gB, B', capB, rfl, hPgB, hglB, b0, b1, b2, b3, b4, b5, hkb⟩ := HKB.out k hltb
            have hmA := (HPX.out gA hPg).2
            have hmB := (HQX.out gB hPgB).2
            have hfs' := HF.out.size
            have f0 := (HF.out.cell (a := ⟨gA, _, none⟩) hgl hmA).trans a0
            have f1 := (HF.out.cell (a := ⟨gA, _, none⟩) hgl hmA).trans a1
            have f2 := (HF.out.cell (a := ⟨gA, _, none⟩) hgl hmA).trans a2
            have f3 := (HF.out.cell (a := ⟨gA, _, none⟩) hgl hmA).trans a3
            have f4 := (HF.out.cell (a := ⟨gA, _, none⟩) hgl hmA).trans a4
            have f5 := (HF.out.cell (a := ⟨gA, _, none⟩) hgl hmA).trans a5
            have h0 := (HF.out.cell (a := ⟨gB, _, none⟩) hglB hmB).trans b0
            have h1 := (HF.out.cell (a := ⟨gB, _, none⟩) hglB hmB).trans b1
            have h2 := (HF.out.cell (a := ⟨gB, _, none⟩) hglB hmB).trans b2
            have h3 := (HF.out.cell (a := ⟨gB, _, none⟩) hglB hmB).trans b3
            have h4 := (HF.out.cell (a := ⟨gB, _, none⟩) hglB hmB).trans b4
            have h5 := (HF.out.cell (a := ⟨gB, _, none⟩) hglB hmB).trans b5
            have hn1 := HNB.out.1
            have hn2 := HNB.out.2.2
            have hkI : (k : Int) < (la.length : Int) := by omega
            have hkI2 : (k : Int) < (lb.length : Int) := by omega
            have hgA' : gA < wq.heap.size := by omega
            have hgB' : gB < wq.heap.size := by omega
            have HKK := Lib.hid hka
            have HKL := Lib.hid hkb
            clear a0 a1 a2 a3 a4 a5 b0 b1 b2 b3 b4 b5 hka hkb
            obtain ⟨wy, hwy⟩ : ∃ wy, wy = (wq.alloc (.cells #[.int .i64 la[k].op, .int .i64 la[k].ctor, .int .i64 la[k].n, .int .i64 la[k].m, .int .i64 la[k].var, .slice A' la[k].kids.length capA] 50)).alloc (.cells #[.int .i64 lb[k].op, .int .i64 lb[k].ctor, .int .i64 lb[k].n, .int .i64 lb[k].m, .int .i64 lb[k].var, .slice B' lb[k].kids.length capB] 50) := ⟨_, rfl⟩
            have hby : Below wq.heap.size wq wy := by rw [hwy]; exact ((Below.refl _ _).alloc (Nat.le_refl _) _).alloc (by simp) _
            have HKY : Hid (∀ W', Below wy.heap.size wy W' → W'.cell? ⟨wq.heap.size, 5, none⟩ = some (.slice A' la[k].kids.length capA) ∧ W'.cell? ⟨wq.heap.size + 1, 5, none⟩ = some (.slice B' lb[k].kids.length capB)) := by
              have e1 : wy.cell? ⟨wq.heap.size, 5, none⟩ = some (.slice A' la[k].kids.length capA) := by rw [hwy]; simp [go_sem]
              have e2 : wy.cell? ⟨wq.heap.size + 1, 5, none⟩ = some (.slice B' lb[k].kids.length capB) := by rw [hwy]; simp [go_sem]
              have e3 : wy.heap.size = wq.heap.size + 2 := by rw [hwy]; simp
              exact fun W' h => ⟨(h.cell (p := ⟨wq.heap.size, 5, none⟩) (by show wq.heap.size < _; omega)).trans e1, (h.cell (p := ⟨wq.heap.size + 1, 5, none⟩) (by show wq.heap.size + 1 < _; omega)).trans e2⟩
            have HSY : Hid (wy.heap.size = wq.heap.size + 2) := by unfold Hid; rw [hwy]; simp
            have HWY := Lib.hid hwy
            clear hwy
            have HK1 : Hid (∀ W', Calls Try.prog 74 #[.slice A' la[k].kids.length capA] W' fun e w' => e = .returned (.agg #[.pointer (kA A' la[k].kids.length), .int .i64 la[k].kids.length]) ∧ Below W'.heap.size W' w') := fun W' => keyOfP_own HKK.out capA W'
            have HK2 : Hid (∀ W', Calls Try.prog 74 #[.slice B' lb[k].kids.length capB] W' fun e w' => e = .returned (.agg #[.pointer (kA B' lb[k].kids.length), .int .i64 lb[k].kids.length]) ∧ Below W'.heap.size W' w') := fun W' => keyOfP_own HKL.out capB W'
            have SQ := HKY.out wy.drew (Below.refl _ wy).drew
            have SQ1 := HKY.out ((wy.alloc (.cells #[.pointer none, .int .i64 0, .pointer none, .int .i64 0] 120)).drew) ((Below.refl _ wy).alloc (Nat.le_refl _) _).drew
            go_upto_region 12 with fail
            rw [← HWY.out]
            go_cut [11] (fun s12 wx => ∃ g12, s12 = .pointer (some ⟨g12, 0, none⟩) ∧ StK wy g12 (KyP.mk (kA A' la[k].kids.length) la[k].kids.length (kA B' lb[k].kids.length) lb[k].kids.length) wx)
            case first =>
              go_region_held3 (fun w' => w'.cell? ⟨wq.heap.size, 5, none⟩ = some (.slice A' la[k].kids.length capA) ∧ w'.cell? ⟨wq.heap.size + 1, 5, none⟩ = some (.slice B' lb[k].kids.length capB)) (first | with_reducible exact SQ | with_reducible exact (HKY.out _ (hbq.alloc hbq.size _)) | with_reducible exact SQ1 | with_reducible exact (HKY.out _ (below_set4 hbq hgz _ _ _ _))) (first
                | (go_at_call 74; (with_reducible refine (HK1.out wy.drew).mono ?_); rintro e3 w3 ⟨rfl, hb'⟩; have hbq : Below wy.heap.size wy w3 := ⟨hb'.os, hb'.tape, hb'.output, hb'.size, hb'.block⟩; have SQ := HKY.out _ hbq; have hs3 := hbq.size; clear hb')
                | (go_at_call 74; (with_reducible refine (HK1.out ((wy.alloc (.cells #[.pointer none, .int .i64 0, .pointer none, .int .i64 0] 120)).drew)).mono ?_); rintro e3 w3 ⟨rfl, hb'⟩; have hbq : Below wy.heap.size wy w3 := ((Below.refl _ wy).alloc (Nat.le_refl _) _).drew.trans (hb'.mono (by simp)); have SQ := HKY.out _ hbq; have hzb : ZbK w3 wy.heap.size := ZbK.at_ (w := (wy.alloc (.cells #[.pointer none, .int .i64 0, .pointer none, .int .i64 0] 120)).drew) (ZbK.new wy) hb'; have hgz : wy.heap.size ≤ wy.heap.size := Nat.le_refl _; have hs3 := hbq.size; clear hb')
                | (go_at_call 74; (with_reducible refine (HK2.out w3).mono ?_); rintro e4 w4 ⟨rfl, hb'⟩; have hbq := below_aft hbq hb' hbq.size; have SQ := HKY.out _ hbq; (try (have hzd := hzb.at_ hb'; obtain ⟨k0, k1, k2, k3, k4, k5, k6, k7⟩ := hzd.cells)); clear hb')
                | (go_at_call 74; (with_reducible refine (HK2.out (w3.alloc (.cells #[.pointer none, .int .i64 0, .pointer none, .int .i64 0] 120))).mono ?_); rintro e4 w4 ⟨rfl, hb'⟩; have hbq0 := hbq; have hbq := below_aft (hbq.alloc hbq.size _) hb' (by simp; have := hbq0.size; omega); have SQ := HKY.out _ hbq; have hzd : ZbK w4 w3.heap.size := ZbK.at_ (ZbK.new w3) hb'; have hgz : wy.heap.size ≤ w3.heap.size := hbq0.size; obtain ⟨k0, k1, k2, k3, k4, k5, k6, k7⟩ := hzd.cells; clear hb'))
              all_goals
                go_wp2_with fail
                go_meet
                refine ⟨_, rfl, ?_⟩
                first
                | (with_reducible exact StK.new hbq)
                | (with_reducible exact StK.set hbq hzd hgz)
            clear SQ SQ1
            obtain ⟨g12, rfl, hst⟩ := hcut
            have hcb := hst.2.1
            obtain ⟨r0, r1, r2, r3⟩ := hst.cells
            obtain ⟨v5, v6⟩ := HKY.out wc hcb
            have hz12 : g12 < wc.heap.size := heap_lt hst.2.2
            have hz13 := hst.1
            have hbc : Below wq.heap.size wq wc := below_aft hby hcb hby.size
            have HFC := Lib.hid (HF.out.next hbc)
            have hszm : w.heap.size + 2 < wq.heap.size := by have := HSZ.out; omega
            have HMC : Hid (MapKyP wc (w.heap.size + 2) S) := HM.out.keep (hbc.block _ hszm)
            have hLyA := HKK.out.ly (m := w.heap.size + 2) (fun b hb => HPX.out b (HQA.out k b hlt hb).1)
            have hLyB := HKL.out.ly (m := w.heap.size + 2) (fun b hb => HQX.out b (HQB.out k b hltb hb).1)
            have HKL2 : Hid (LiesKP wc (KyP.mk (kA A' la[k].kids.length) la[k].kids.length (kA B' lb[k].kids.length) lb[k].kids.length)) := ⟨hLyA.lies HFC.out, hLyB.lies HFC.out⟩
            have HAL : Hid (∀ k' ∈ S, LiesKP wc k') := fun k' hk' => ⟨(HI.out.lies k' hk').1.lies HFC.out, (HI.out.lies k' hk').2.lies HFC.out⟩
            have hlook := HMC.out.look HKL2.out HAL.out
            have hlook1 : (Instr.lookup 111 (.map (some (w.heap.size + 1 + 1))) (.agg #[.pointer (kA A' la[k].kids.length), .int .i64 la[k].kids.length, .pointer (kA B' lb[k].kids.length), .int .i64 lb[k].kids.length]) false).run Try.prog wc = .ok (.bool (decide ((KyP.mk (kA A' la[k].kids.length) la[k].kids.length (kA B' lb[k].kids.length) lb[k].kids.length) ∈ S))) wc := hlook
            have hlook2 : (Instr.lookup 111 (.map (some (w.heap.size + 2))) (.agg #[.pointer (kA A' la[k].kids.length), .int .i64 la[k].kids.length, .pointer (kA B' lb[k].kids.length), .int .i64 lb[k].kids.length]) false).run Try.prog wc = .ok (.bool (decide ((KyP.mk (kA A' la[k].kids.length) la[k].kids.length (kA B' lb[k].kids.length) lb[k].kids.length) ∈ S))) wc := hlook
            have HTK := Lib.hid (sum_take_succ wP la k hlt)
            have HWK : Hid (wP la[k] = wPs la[k].kids) := wP_kids la[k]
            have HTL := Lib.hid (sum_take_le wP la (k + 1))
            have HPS := Lib.hid (wPs_sum la)
            have hwoq := HNB.out.2.2
            have HNC : Hid (wc.cell? ⟨wo.heap.size, 1, none⟩ = some (.slice (some ⟨gB, 0, none⟩) lb.length cb)) := (hbc.cell (p := ⟨wo.heap.size, 1, none⟩) hwoq).trans HNB.out.1
            have hsc := hbc.size
            have hsy := HSY.out
            have hsyc := hcb.size
            clear hlook hLyA hLyB hst hcb f0 f1 f2 f3 f4 f5 h0 h1 h2 h3 h4 h5 hn1
            by_cases hin : (KyP.mk (kA A' la[k].kids.length) la[k].kids.length (kA B' lb[k].kids.length) lb[k].kids.length) ∈ S
            · have HI2 := Lib.hid (HI.out.skip hlt hltb HKK.out HKL.out hin)
              rw [decide_eq_true hin] at hlook1 hlook2
              clear hin
              go_wp2_with fail
              go_roundw
              case rel => exact ⟨k + 1, by omega, by go_num, V, S, by unfold Hid; have a := HMV.out; have b := HTK.out; omega, HO.out.below hbc, HMC, HI2, HFC, ⟨HNC.out, HNB.out.2.1, by omega⟩⟩
              case measure => simp [intOf]; omega
            · have HI2 := Lib.hid (HI.out.push (ca := capA) (cb := capB) hlt hltb HKK.out HKL.out (fun j b hj hb => ⟨HPX.out b (HQA.out j b hj hb).1, (HQA.out j b hj hb).2.2⟩) (fun b hb => HQX.out b (HQB.out k b hltb hb).1))
              have HIN := Lib.hid hin
              rw [decide_eq_false hin] at hlook1 hlook2
              clear hin
              obtain ⟨xs, hown, hxs⟩ := HO.out
              have hob := HNB.out.2.1
              obtain ⟨Au, cu, rfl, hof⟩ := own_form hown
              have HOW := Lib.hid hown
              have HXS := Lib.hid hxs
              have HOB := Lib.hid hob
              have HOF := Lib.hid hof
              have HVL : Hid (V.length ≤ 1048580) := by unfold Hid; have := muP_len V; have := HMV.out; have := HTK.out; have := HTL.out; have := HPS.out; have := HLE.out; have := HNN.out; omega
              have HC3 : Hid (V.length + 1 ≤ maxLen) := by unfold Hid maxLen; have := HVL.out; omega
              have HC4 : Hid ((V.length + 1) * 48 ≤ 140737488355328) := by unfold Hid; have := HVL.out; omega
              clear hown hxs hob hof
              go_wp2_with (first
                | (at_mapUpdate; (with_reducible refine wp_mapUpdate_ky rfl _ _ _ rfl (w.heap.size + 2) S (KyP.mk (kA A' la[k].kids.length) la[k].kids.length (kA B' lb[k].kids.length) lb[k].kids.length) rfl HMC.out HKL2.out HAL.out HIN.out rfl rfl ?_); intro w5 hm5 hg5;
                    have HM5 := Lib.hid hm5; have HG5 := Lib.hid hg5; have hs5 := hg5.size; clear hm5 hg5;
                    have v5 := (World.cell?_of_block (a := ⟨wq.heap.size, 5, none⟩) (HG5.out.block wq.heap.size (by omega) (by intro e; injection e with e; omega))).trans v5; have v6 := (World.cell?_of_block (a := ⟨wq.heap.size + 1, 5, none⟩) (HG5.out.block (wq.heap.size + 1) (by omega) (by intro e; injection e with e; omega))).trans v6;
                    have HOA : Hid ((w5.alloc (.cells #[.slice A' la[k].kids.length capA, .slice B' lb[k].kids.length capB] 113)).ownsRow (w.heap.size + 5) 113 2 (.slice Au V.length cu) V.length xs) := own_at HOW.out (fun b e => by have h1 := HOF.out b e; rw [Below.heap_alloc _ _ _ (by omega), HG5.out.block b (by omega) (by intro e; injection e with e; omega)]; exact hbc.block b h1.2);
                    have HC1 := Lib.hid (cell_two_new w5 (.slice A' la[k].kids.length capA) (.slice B' lb[k].kids.length capB) 113);
                    have HC2 : Hid (∀ q ∈ [Value.slice A' la[k].kids.length capA, .slice B' lb[k].kids.length capB], q.oneCell' = true) := (by intro q hq; simp at hq; rcases hq with rfl | rfl <;> rfl);
                    have HC5 : Hid (w.heap.size + 5 ≤ (w5.alloc (.cells #[.slice A' la[k].kids.length capA, .slice B' lb[k].kids.length capB] 113)).heap.size) := (by unfold Hid; rw [World.size_alloc]; omega))
                | (at_builtin; refine wpList_append_own_at _ rfl _ _ 114 rfl (w.heap.size + 5) 113 i0 _ 2 48 Try.underlying114 hi hz0 hz1 hz2 rfl (by decide) (.slice Au V.length cu) _ xs rfl HOA.out ⟨w5.heap.size, 0, none⟩ 1 1 [Value.slice A' la[k].kids.length capA, .slice B' lb[k].kids.length capB] rfl rfl HC1.out HC2.out HC3.out HC4.out HC5.out ?_; intro v' w6 hown' hgr' hnn' hat')
                | fail)
              have hsA : (w5.alloc (.cells #[.slice A' la[k].kids.length capA, .slice B' lb[k].kids.length capB] 113)).heap.size = w5.heap.size + 1 := by simp
              have hs6 := hgr'.size
              have hrow : ∀ b, (Value.slice Au V.length cu).ownBlock = some b → w.heap.size + 5 ≤ b ∧ b < wq.heap.size := fun b e => HOF.out b e
              have HF5 : Hid (Fr (fun b => b = w.heap.size + 2) wS (w5.alloc (.cells #[.slice A' la[k].kids.length capA, .slice B' lb[k].kids.length capB] 113))) := ((HFC.out.trans (Fr.grown HG5.out (fun b e => by injection e))).next ((Below.refl _ _).alloc (Nat.le_refl _) _))
              have HF6 : Hid (Fr (fun b => b = w.heap.size + 2) wS w6) := HF5.out.row hgr' (fun b e => by have := hrow b e; have := HSZ.out; omega)
              have hk6 : ∀ b, b < w5.heap.size → (∀ b', (Value.slice Au V.length cu).ownBlock = some b' → b ≠ b') → w6.heap[b]? = w5.heap[b]? := fun b hb hn => (hgr'.block b (by omega) (fun e => hn b e.symm rfl)).trans (Below.heap_alloc _ _ _ hb)
              have HM6 : Hid (MapKyP w6 (w.heap.size + 2) (S ++ [(KyP.mk (kA A' la[k].kids.length) la[k].kids.length (kA B' lb[k].kids.length) lb[k].kids.length)])) := HM5.out.keep (hk6 _ (by omega) (fun b' e h => by have := hrow b' e; omega))
              have HN6 : Hid (w6.cell? ⟨wo.heap.size, 1, none⟩ = some (.slice (some ⟨gB, 0, none⟩) lb.length cb)) := (World.cell?_of_block (a := ⟨wo.heap.size, 1, none⟩) ((hk6 _ (by omega) (fun b' e h => HOB.out b' e h.symm)).trans (HG5.out.block _ (by omega) (by intro e; injection e with e; omega)))).trans HNC.out
              have HO6 : Hid (OpnP w6 (w.heap.size + 5) v' (V ++ [(EnP.mk A' la[k].kids capA B' lb[k].kids capB d' (QA k) e' (QB k))])) := OpnP.push (x := (EnP.mk A' la[k].kids capA B' lb[k].kids capB d' (QA k) e' (QB k))) HOW.out.1 HXS.out hown'
              have HB6 : Hid (∀ b, v'.ownBlock = some b → b ≠ wo.heap.size) := fun b hb => by
                rcases hat' with h | h
                · rw [h] at hb; exact HOB.out b hb
                · rw [h] at hb; injection hb with hb; omega
              have HMU6 : Hid (muP (V ++ [(EnP.mk A' la[k].kids capA B' lb[k].kids capB d' (QA k) e' (QB k))]) ≤ muP W + (k + 1 + ((la.take (k + 1)).map wP).sum)) := by
                unfold Hid
                have e := muP_app V (EnP.mk A' la[k].kids capA B' lb[k].kids capB d' (QA k) e' (QB k))
                have e2 : wPs (EnP.mk A' la[k].kids capA B' lb[k].kids capB d' (QA k) e' (QB k)).la = wPs la[k].kids := rfl
                have a := HMV.out; have b := HTK.out; have c := HWK.out
                omega
              have hw6 : wo.heap.size < w6.heap.size := by rw [hsA] at hs6; omega
              clear hown' hgr' hnn' hat' hk6 hrow hsA
              go_roundw
              case rel => exact ⟨k + 1, by omega, by go_num, _, _, HMU6, HO6, HM6, HI2, HF6, ⟨HN6.out, HB6.out, hw6⟩⟩
              case measure => simp [intOf]; omega
          · have HIP := Lib.hid (HI.out.done (by omega))
            have HPS := Lib.hid (wPs_sum la)
            have hkl : k = la.length := by omega
            have HMV2 : Hid (muP V ≤ muP W + wPs la) := by unfold Hid; have h := HMV.out; rw [hkl, List.take_of_length_le (Nat.le_refl _)] at h; have := HPS.out; omega
            have HREL : Hid (RelP p q wS (w.heap.size + 2) (w.heap.size + 5) (2 + wP p) _ wq (muP V)) := ⟨V, S, rfl, by have := HMV2.out; have := HLE.out; omega, HO.out, HM.out, HIP.out, HF.out⟩
            have HLT := Lib.hid ((lst_spec HREL.out).2 _ HREL.out)
            have HMU2 := HMU.out
            clear hkl
            go_wp2_with fail
            go_roundw
            case rel => exact ⟨_, HREL.out⟩
            case measure =>
              rw [← HMU.out]
              refine Nat.lt_of_le_of_lt HLT.out ?_
              have := HMV2.out
              omega
      · have HE : Hid (dec (p = q) = false) := dec_f (fun h => hne (HIV.out.goal.1 h _ (List.mem_append.2 (.inr (List.mem_singleton.2 rfl)))))
        clear hne
        go_wp2_with fail
        go_ret
        exact ⟨ret_bool HE.out.symm, HBS.out.trans (HF1.out.to (B := w.heap.size) (by have := HSZ.out; omega) (fun b hb e => by omega))⟩
end Go.Proofs.Ytbeejeialjfdnaa
/-
  The law FnPatternSame walked. No statement is proved here.
-/
namespace Go.Proofs.Ytbeejeialjfdnaa
open Go.RowKit Go.Sort Go.Deep
set_option maxRecDepth 100000
set_option linter.unusedVariables false
theorem dec_eq_symm (p q : Pt) : dec (q = p) = dec (p = q) := by
  by_cases h : p = q
  · subst h; rfl
  · rw [dec_f h, dec_f (fun e => h e.symm)]
/-- Two patterns that lie in blocks of their own. -/
def TwoP (w : World) (p q : Pt) (A B : Option Addr) : Prop := (∃ PP : Nat → Prop, OPs 10 w PP A p.kids ∧ ∀ b, PP b → b < w.heap.size) ∧ (∃ PP : Nat → Prop, OPs 10 w PP B q.kids ∧ ∀ b, PP b → b < w.heap.size)
theorem TwoP.below {w w' : World} {p q : Pt} {A B : Option Addr} (h : TwoP w p q A B) (hb : Below w.heap.size w w') : TwoP w' p q A B := by
  obtain ⟨⟨P, h1, h2⟩, ⟨Q, h3, h4⟩⟩ := h
  have hs := hb.size
  exact ⟨⟨P, h1.fr _ (Fr.below (P := fun _ => False) hb) (fun _ _ h => h), fun b h => by have := h2 b h; omega⟩, ⟨Q, h3.fr _ (Fr.below (P := fun _ => False) hb) (fun _ _ h => h), fun b h => by have := h4 b h; omega⟩⟩
theorem TwoP.swap {w : World} {p q : Pt} {A B : Option Addr} (h : TwoP w p q A B) : TwoP w q p B A := ⟨h.2, h.1⟩
theorem TwoP.left {w : World} {p q : Pt} {A B : Option Addr} (h : TwoP w p q A B) : TwoP w p p A A := ⟨h.1, h.1⟩
theorem TwoP.impl {w : World} {p q : Pt} {A B : Option Addr} (h : TwoP w p q A B) (c c' : Nat) (hN : wP p ≤ 1000) : Calls Try.prog 35 #[.agg #[.int .i64 p.op, .int .i64 p.ctor, .int .i64 p.n, .int .i64 p.m, .int .i64 p.var, .slice A p.kids.length c], .agg #[.int .i64 q.op, .int .i64 q.ctor, .int .i64 q.n, .int .i64 q.m, .int .i64 q.var, .slice B q.kids.length c']] w fun e w' => e = .returned (.bool (dec (p = q))) ∧ Below w.heap.size w w' := by
  obtain ⟨⟨P, h1, h2⟩, ⟨Q, h3, h4⟩⟩ := h
  exact ps_impl A B p q c c' 10 10 P Q w h1 h3 h2 h4 (by omega)
theorem TwoP.spec {w : World} {p q : Pt} {A B : Option Addr} (h : TwoP w p q A B) (c c' : Nat) : Calls Try.prog 36 #[.agg #[.int .i64 p.op, .int .i64 p.ctor, .int .i64 p.n, .int .i64 p.m, .int .i64 p.var, .slice A p.kids.length c], .agg #[.int .i64 q.op, .int .i64 q.ctor, .int .i64 q.n, .int .i64 q.m, .int .i64 q.var, .slice B q.kids.length c']] w fun e w' => e = .returned (.bool (dec (p = q))) ∧ Below w.heap.size w w' := by
  obtain ⟨⟨P, h1, h2⟩, ⟨Q, h3, h4⟩⟩ := h
  exact ps_spec 9 9 A B p q c c' w (OPs.reads 9 h1) (OPs.reads 9 h3)
/-- The two patterns as the law keeps them. -/
def AB (w : World) (a : Nat) (p q : Pt) (A B : Option Addr) (c c' : Nat) : Prop := w.heap[a]? = some (.cells #[.int .i64 p.op, .int .i64 p.ctor, .int .i64 p.n, .int .i64 p.m, .int .i64 p.var, .slice A p.kids.length c] 50 (0, 0)) ∧ w.heap[a + 1]? = some (.cells #[.int .i64 q.op, .int .i64 q.ctor, .int .i64 q.n, .int .i64 q.m, .int .i64 q.var, .slice B q.kids.length c'] 50 (0, 0))
theorem AB.below {w w' : World} {a : Nat} {p q : Pt} {A B : Option Addr} {c c' : Nat} (h : AB w a p q A B c c') (hb : Below w.heap.size w w') (hl : a + 1 < w.heap.size) : AB w' a p q A B c c' :=
  ⟨(Fr.below (P := fun _ => False) hb).block h.1 id, (Fr.below (P := fun _ => False) hb).block h.2 id⟩
set_option maxHeartbeats 4000000 in
theorem patSame_law (n cap : Nat) (A : Option Addr) (w : World) (hn : n ≤ maxLen) (hc : n ≤ cap) (h : RBy w w.heap.size A n) : Calls Try.prog 9 #[.slice A n cap] w fun e w' => e = .returned (.bool true) ∧ Below w.heap.size w w' := by
  have HC := Lib.hid hc
  have HNM := Lib.hid hn
  have H := Lib.hid h
  clear hc hn h
  by_cases hb : n ≤ 1048576
  · have hbI : (n : Int) ≤ 1048576 := by omega
    go_enter Try.func9, Try.ntmps9
    go_wp2_with fail
    refine (drawPS_any n cap A w HNM.out HC.out H.out).mono ?_
    rintro e w1 ⟨p, q, D, E, c, c', PP, QQ, rfl, hop, hoq, hPP, hQQ, hwp, hwq, hb1⟩
    have H1 : Hid (TwoP w1 p q D E) := ⟨⟨PP, hop, hPP⟩, ⟨QQ, hoq, hQQ⟩⟩
    have HB1 := Lib.hid hb1
    have HWP := Lib.hid hwp
    have HWQ := Lib.hid hwq
    have HSY := Lib.hid (dec_eq_symm p q)
    have HRF := Lib.hid (Nat.le_refl 0)
    clear hop hoq hPP hQQ hwp hwq hb1
    generalize hwb : (w1.alloc (.cells #[.int .i64 p.op, .int .i64 p.ctor, .int .i64 p.n, .int .i64 p.m, .int .i64 p.var, .slice D p.kids.length c] 50)).alloc (.cells #[.int .i64 q.op, .int .i64 q.ctor, .int .i64 q.n, .int .i64 q.m, .int .i64 q.var, .slice E q.kids.length c'] 50) = wb
    have hbb : Below w1.heap.size w1 wb := by rw [← hwb]; exact ((Below.refl _ _).alloc (Nat.le_refl _) _).alloc (by simp) _
    have hsb : wb.heap.size = w1.heap.size + 2 := by rw [← hwb]; simp
    have Z1 : Hid (AB wb w1.heap.size p q D E c c') := by
      refine ⟨?_, ?_⟩
      · rw [← hwb]; exact (Below.heap_alloc _ _ _ (by simp)).trans (heap_alloc_new w1 _)
      · have h := heap_alloc_new (w1.alloc (.cells #[.int .i64 p.op, .int .i64 p.ctor, .int .i64 p.n, .int .i64 p.m, .int .i64 p.var, .slice D p.kids.length c] 50)) (.cells #[.int .i64 q.op, .int .i64 q.ctor, .int .i64 q.n, .int .i64 q.m, .int .i64 q.var, .slice E q.kids.length c'] 50)
        rw [World.size_alloc] at h
        rw [← hwb]; exact h
    have HWB := Lib.hid hwb
    have K1 : Hid (TwoP wb p q D E) := H1.out.below hbb
    have KB1 : Hid (Below w.heap.size w wb) := below_after HB1.out hbb HB1.out.size
    have HL1 : Hid (w1.heap.size + 1 < wb.heap.size) := by unfold Hid; omega
    clear hwb hbb hsb
    obtain ⟨a0, a1, a2, a3, a4, a5, _⟩ := cellsP Z1.out.1
    obtain ⟨b0, b1, b2, b3, b4, b5, _⟩ := cellsP Z1.out.2
    go_wp2_with fail
    rw [HWB.out]
    refine (K1.out.impl c c' HWP.out).mono ?_
    rintro e w2 ⟨rfl, hb2⟩
    have H2 : Hid (TwoP w2 p q D E) := K1.out.below hb2
    have HB2 : Hid (Below w.heap.size w w2) := below_after KB1.out hb2 KB1.out.size
    have Z2 : Hid (AB w2 w1.heap.size p q D E c c') := Z1.out.below hb2 HL1.out
    have HL2 : Hid (w1.heap.size + 1 < w2.heap.size) := by have := HL1.out; have := hb2.size; unfold Hid; omega
    clear hb2 a0 a1 a2 a3 a4 a5 b0 b1 b2 b3 b4 b5
    obtain ⟨a0, a1, a2, a3, a4, a5, _⟩ := cellsP Z2.out.1
    obtain ⟨b0, b1, b2, b3, b4, b5, _⟩ := cellsP Z2.out.2
    go_wp2_with fail
    refine (H2.out.spec c c').mono ?_
    rintro e w3 ⟨rfl, hb3⟩
    have H3 : Hid (TwoP w3 p q D E) := H2.out.below hb3
    have HB3 : Hid (Below w.heap.size w w3) := below_after HB2.out hb3 HB2.out.size
    have Z3 : Hid (AB w3 w1.heap.size p q D E c c') := Z2.out.below hb3 HL2.out
    have HL3 : Hid (w1.heap.size + 1 < w3.heap.size) := by have := HL2.out; have := hb3.size; unfold Hid; omega
    clear hb3 a0 a1 a2 a3 a4 a5 b0 b1 b2 b3 b4 b5
    obtain ⟨a0, a1, a2, a3, a4, a5, _⟩ := cellsP Z3.out.1
    obtain ⟨b0, b1, b2, b3, b4, b5, _⟩ := cellsP Z3.out.2
    generalize dec (p = q) = r at HSY ⊢
    have hrr : (r == r) = true := by cases r <;> rfl
    go_wp2_with fail
    refine (H3.out.swap.impl c' c HWQ.out).mono ?_
    rw [HSY.out]
    rintro e w4 ⟨rfl, hb4⟩
    have H4 : Hid (TwoP w4 p q D E) := H3.out.below hb4
    have HB4 : Hid (Below w.heap.size w w4) := below_after HB3.out hb4 HB3.out.size
    have Z4 : Hid (AB w4 w1.heap.size p q D E c c') := Z3.out.below hb4 HL3.out
    have HL4 : Hid (w1.heap.size + 1 < w4.heap.size) := by have := HL3.out; have := hb4.size; unfold Hid; omega
    clear hb4 a0 a1 a2 a3 a4 a5 b0 b1 b2 b3 b4 b5
    obtain ⟨a0, a1, a2, a3, a4, a5, _⟩ := cellsP Z4.out.1
    obtain ⟨b0, b1, b2, b3, b4, b5, _⟩ := cellsP Z4.out.2
    go_wp2_with fail
    refine (H4.out.left.impl c c HWP.out).mono ?_
    rw [show dec (p = p) = true from dec_t rfl]
    rintro e w5 ⟨rfl, hb5⟩
    have HB5 : Hid (Below w.heap.size w w5) := below_after HB4.out hb5 HB4.out.size
    clear hb5
    go_wp2_with fail
    go_ret
    exact ⟨rfl, HB5.out⟩
  · have hbI : (1048576 : Int) < (n : Int) := by omega
    go_enter Try.func9, Try.ntmps9
    go_wp2_with fail
    go_ret
    exact ⟨rfl, Below.refl _ _⟩
end Go.Proofs.Ytbeejeialjfdnaa
/-
  The argument of the statements, opened; lists of numbers compared: the statements' own functions. No statement is proved here.
-/
namespace Go.Proofs.Ytbeejeialjfdnaa
open Go.RowKit Go.Deep
open Go.ChangeShapes Go.WideShapes Go.ChangeAt
set_option maxRecDepth 100000
set_option linter.unusedVariables false
section
variable {H : Type} {enc : TypeId × Value → H} {w : World} {spare : Nat → Bool} {held : Bool}
theorem spot_none {w : World} {a : Addr} {v : Value} (h : w.cell? a = some v) : a.spot = none := by
  unfold World.cell? at h
  split at h
  · split at h
    · cases h
    · simpa using ‹¬ a.spot.isSome = true›
  · cases h
theorem open_code {v : Value} {d : DataW H} {p : List MemPlace} (hval : Value.okWide Try.prog w .any w.heap.size 22 v) (h : DataW.Trod enc Try.prog w 0 spare held 22 v d p) :
    ∃ A n cap, v = .slice A n cap ∧ n ≤ maxLen ∧ n ≤ cap ∧ RBy w w.heap.size A n := by
  obtain ⟨fuel, hf⟩ := h
  have hv : ∃ A n cap, v = .slice A n cap := okWide_slice Try.underlying22 hval
  obtain ⟨A, n, cap, rfl⟩ := hv
  rcases open_slice Try.underlying22 hf with ⟨hcs, _⟩ | ⟨a, len, cap', m, n', D, Pl, hcs, hb, hl, hm, hmm, hx, hi⟩
  · simp [Value.cells] at hcs
    obtain ⟨rfl, rfl, rfl⟩ := hcs
    exact ⟨none, 0, 0, rfl, Nat.zero_le _, Nat.le_refl _, fun k hk => absurd hk (by omega)⟩
  · simp [Value.cells] at hcs
    obtain ⟨rfl, rfl, rfl⟩ := hcs
    have hlm : n ≤ m := by rw [hmm]; split <;> omega
    refine ⟨some a, n, cap, rfl, by omega, hl, fun k hk => ?_⟩
    obtain ⟨cs', q1, q2⟩ := hi k (by omega)
    have h1 : Try.prog.cellsOf 5 = 1 := by kernel_rfl
    rw [h1] at q1
    obtain ⟨_, hcl, hat⟩ := World.cells?_some q1
    obtain ⟨x, rfl, _, hwf⟩ := DataW.trod_int Try.underlying5 q2
    have hc := (hat 0 (by omega)).trans rfl
    have hsp : a.spot = none := by
      obtain ⟨cs0, r1, r2⟩ := hi 0 (by omega)
      rw [h1] at r1
      obtain ⟨_, _, hat0⟩ := World.cells?_some r1
      obtain ⟨x0, rfl, _, _⟩ := DataW.trod_int Try.underlying5 r2
      have h0 := (hat0 0 (by omega)).trans rfl
      exact spot_none (w := w) (a := a) (by simpa [Addr.add] using h0)
    obtain ⟨b, off, sp⟩ := a
    simp only at hsp
    subst hsp
    simp only [Addr.add_lit, Nat.add_zero, Nat.mul_one] at hc
    have hw : 0 ≤ x ∧ x ≤ 255 := by
      have : (IntKind.u8.min ≤ x ∧ x ≤ IntKind.u8.max) := by simpa [Lit.wf] using hwf
      exact this
    exact ⟨b, off, x, rfl, block_lt_of_cell hc, hc, hw.1, hw.2⟩
end
end Go.Proofs.Ytbeejeialjfdnaa
