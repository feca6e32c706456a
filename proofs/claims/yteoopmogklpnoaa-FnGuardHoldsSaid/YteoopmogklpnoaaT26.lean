/-
  Variables are put into a pattern: the document's function. No statement is proved here.
-/
import Derived.Test.YteoopmogklpnoaaT25
import Derived.Maps.AppendAt
namespace Go.Proofs.Yteoopmogklpnoaa
open Go.RowKit Go.Sort Go.Deep
set_option maxRecDepth 100000
set_option linter.unusedVariables false
/-- How many nodes the first k parts have. -/
def upP (ks : List Pt) (k : Nat) : Nat := wPs (ks.take k)
theorem upP_succ (ks : List Pt) (k : Nat) (h : k < ks.length) : upP ks (k + 1) = upP ks k + (1 + wP ks[k]) := by
  unfold upP
  rw [wPs_sum, wPs_sum, sum_take_succ wP ks k h, List.length_take, List.length_take]
  omega
theorem upP_all (ks : List Pt) : upP ks ks.length = wPs ks := by unfold upP; rw [List.take_length]
theorem upP_le (p : Pt) (k : Nat) (h : k ≤ p.kids.length) : upP p.kids k ≤ wP p := by
  unfold upP
  rw [wP_kids, wPs_sum, wPs_sum]
  have := sum_take_le wP p.kids k
  have := List.length_take_le k p.kids
  rw [List.length_take]
  omega
theorem upP_len (ks : List Pt) (k : Nat) : min k ks.length ≤ upP ks k := by
  unfold upP
  rw [wPs_sum, List.length_take]
  omega
/-- Each part made has at most twice the nodes of its origin. -/
def AllSz (ks vs : List Pt) : Prop := wPs vs ≤ 2 * upP ks vs.length
theorem AllSz.nil (ks : List Pt) : AllSz ks [] := by unfold AllSz; rw [wPs]; omega
theorem wPs_snoc (l : List Pt) (v : Pt) : wPs (l ++ [v]) = wPs l + (1 + wP v) := by
  rw [wPs_sum, wPs_sum]; simp; omega
theorem AllSz.snoc {ks vs : List Pt} {v : Pt} (h : AllSz ks vs) (hk : vs.length < ks.length) (hv : 1 + wP v ≤ 2 * (1 + wP ks[vs.length])) : AllSz ks (vs ++ [v]) := by
  unfold AllSz at h ⊢
  rw [wPs_snoc, List.length_append]
  have := upP_succ ks vs.length hk
  simp only [List.length_singleton]
  omega
theorem wPs_all {ks vs : List Pt} (h : AllSz ks vs) : wPs vs ≤ 2 * upP ks vs.length := h
theorem OPs.slots {d : Nat} {w : World} {P : Nat → Prop} {A : Option Addr} {l : List Pt} (h : OPs (d + 1) w P A l) : ∃ Qa : Nat → Nat → Prop, (∀ k b, k < l.length → Qa k b → P b ∧ ∀ j, j < l.length → j ≠ k → ¬ Qa j b) ∧ ∀ k (h : k < l.length), ∃ g0 A' cap, A = some ⟨g0, 0, none⟩ ∧ g0 < w.heap.size ∧ P g0 ∧ w.cell? ⟨g0, k * 6, none⟩ = some (.int .i64 l[k].op) ∧ w.cell? ⟨g0, k * 6 + 1, none⟩ = some (.int .i64 l[k].ctor) ∧ w.cell? ⟨g0, k * 6 + 2, none⟩ = some (.int .i64 l[k].n) ∧ w.cell? ⟨g0, k * 6 + 3, none⟩ = some (.int .i64 l[k].m) ∧ w.cell? ⟨g0, k * 6 + 4, none⟩ = some (.int .i64 l[k].var) ∧ w.cell? ⟨g0, k * 6 + 5, none⟩ = some (.slice A' l[k].kids.length cap) ∧ OPs d w (Qa k) A' l[k].kids ∧ ∀ b, Qa k b → b ≠ g0 := by
  obtain ⟨d', hd, hl, hp⟩ := h.parts
  obtain rfl : d = d' := Nat.succ.inj hd
  by_cases h0 : 0 < l.length
  · obtain ⟨g, cs, Q, e, hPg, hg, hq, hc⟩ := hp h0
    refine ⟨Q, fun k b hk hb => ⟨(hq k b hk hb).1, (hq k b hk hb).2.2⟩, fun k hk => ?_⟩
    obtain ⟨A', cap, e0, e1, e2, e3, e4, e5, e6⟩ := hc k hk
    exact ⟨g, A', cap, e, heap_lt hg, hPg, by rw [cell_of_blk hg]; exact e0, by rw [cell_of_blk hg]; exact e1, by rw [cell_of_blk hg]; exact e2, by rw [cell_of_blk hg]; exact e3, by rw [cell_of_blk hg]; exact e4, by rw [cell_of_blk hg]; exact e5, e6, fun b hb => (hq k b hk hb).2.1⟩
  · exact ⟨fun _ _ => False, fun k b hk => by omega, fun k hk => by omega⟩
def PnQ (d : Nat) (P : Nat → Prop) (p : Pt) (B rb N : Nat) (w : World) (e : Ending) (w' : World) : Prop := ∃ (v : Pt) (A : Option Addr) (c n' : Nat), e = .returned (.tuple #[.agg #[.int .i64 v.op, .int .i64 v.ctor, .int .i64 v.n, .int .i64 v.m, .int .i64 v.var, .slice A v.kids.length c], .int .i64 n']) ∧ n' ≤ 6 ∧ 1 + wP v ≤ 2 * (1 + wP p) ∧ OPs (2 * d + 2) w' (fun b => (P b ∨ w.heap.size ≤ b) ∧ b < w'.heap.size) A v.kids ∧ RRd w' B rb (N + 2 * (1 + wP p)) ∧ Fr (fun b => b = rb) w w'
def PnS (d : Nat) : Prop := ∀ (p : Pt) (A : Option Addr) (cap : Nat) (P : Nat → Prop) (n B rb N : Nat) (w : World), OPs (d + 1) w P A p.kids → (∀ b, P b → b < w.heap.size ∧ b ≠ rb) → n ≤ 6 → RRd w B rb N → N + 2 * (1 + wP p) ≤ 90000 →
  Calls Try.prog 109 #[.pointer (some ⟨rb, 0, none⟩), .agg #[.int .i64 p.op, .int .i64 p.ctor, .int .i64 p.n, .int .i64 p.m, .int .i64 p.var, .slice A p.kids.length cap], .int .i64 n] w (PnQ d P p B rb N w)
set_option maxHeartbeats 16000000 in
theorem pn_of (d : Nat) (ih : ∀ m, d = m + 1 → PnS m) : PnS d := by
  intro p A cap P n B rb N w hO hP hn6 hR hN
  obtain ⟨i0, hi0, hz0, hz1, hz2⟩ := info_parts infoOP
  have hrl := hR.lt
  have hrg := hR.ge
  have HN := Lib.hid hN
  have HP := Lib.hid hP
  have IH := Lib.hid ih
  have HSAME : Hid (PnQ d P p B rb N w (.returned (.tuple #[.agg #[.int .i64 p.op, .int .i64 p.ctor, .int .i64 p.n, .int .i64 p.m, .int .i64 p.var, .slice A p.kids.length cap], .int .i64 n])) ((w.alloc (.cells #[.int .i64 p.op, .int .i64 p.ctor, .int .i64 p.n, .int .i64 p.m, .int .i64 p.var, .slice A p.kids.length cap] 50)).alloc (.cells #[.int .i64 p.op, .int .i64 p.ctor, .int .i64 p.n, .int .i64 p.m, .int .i64 p.var, .slice A p.kids.length cap] 50))) := by
    have hb := below_box2 (w := w) (o := .cells #[.int .i64 p.op, .int .i64 p.ctor, .int .i64 p.n, .int .i64 p.m, .int .i64 p.var, .slice A p.kids.length cap] 50) (o' := .cells #[.int .i64 p.op, .int .i64 p.ctor, .int .i64 p.n, .int .i64 p.m, .int .i64 p.var, .slice A p.kids.length cap] 50) rfl
    exact ⟨p, A, cap, n, rfl, hn6, by omega, ((hO.fr _ (Fr.below (P := fun _ => False) hb) (fun _ _ h => h)).more (by omega)).wide _ (fun b hb' => ⟨.inl hb', by have := hP b hb'; simp; omega⟩), (hR.below hb).more (by omega), Fr.below hb⟩
  by_cases h5 : 5 < n
  · have h5I : (5 : Int) < (n : Int) := by omega
    go_enter Try.func109, Try.ntmps109
    go_wp2_with fail
    exact bodyPost_ret (v := .tuple #[.agg #[.int .i64 p.op, .int .i64 p.ctor, .int .i64 p.n, .int .i64 p.m, .int .i64 p.var, .slice A p.kids.length cap], .int .i64 n]) (by simp [results, Try.results109, go_sem]) rfl HSAME.out
  by_cases ho5 : p.op = 5
  · have h5I : (n : Int) ≤ 5 := by omega
    have q := ieq_t ho5
    clear ho5
    go_enter Try.func109, Try.ntmps109
    go_wp2_with fail
    exact bodyPost_ret (v := .tuple #[.agg #[.int .i64 p.op, .int .i64 p.ctor, .int .i64 p.n, .int .i64 p.m, .int .i64 p.var, .slice A p.kids.length cap], .int .i64 n]) (by simp [results, Try.results109, go_sem]) rfl HSAME.out
  by_cases ho3 : p.op = 3
  · have h5I : (n : Int) ≤ 5 := by omega
    have q := ieq_f ho5
    have q3 := ieq_t ho3
    clear ho5 ho3
    go_enter Try.func109, Try.ntmps109
    go_wp2_with fail
    exact bodyPost_ret (v := .tuple #[.agg #[.int .i64 p.op, .int .i64 p.ctor, .int .i64 p.n, .int .i64 p.m, .int .i64 p.var, .slice A p.kids.length cap], .int .i64 n]) (by simp [results, Try.results109, go_sem]) rfl HSAME.out
  have h5I : (n : Int) ≤ 5 := by omega
  have q := ieq_f ho5
  have q3 := ieq_f ho3
  clear HSAME ho5 ho3
  obtain ⟨Qa, hsl⟩ := hO.slots
  have HDM : Hid (0 < p.kids.length → ∃ m, d = m + 1) := fun h0 => by
    cases d with
    | zero =>
      obtain ⟨_, _, _, _, _, _, _, _, _, _, _, _, hk, _⟩ := hsl.2 0 h0
      exact hk.elim
    | succ m => exact ⟨m, rfl⟩
  have HSL := Lib.hid hsl
  generalize hwx : (w.alloc (.cells #[.int .i64 p.op, .int .i64 p.ctor, .int .i64 p.n, .int .i64 p.m, .int .i64 p.var, .slice A p.kids.length cap] 50)).alloc (.cells #[.int .i64 0, .int .i64 0, .int .i64 0, .int .i64 0, .int .i64 0, .slice none 0 0] 50) = wx
  have hbx := below_box2 hwx
  have HXP : Hid (wx.heap[w.heap.size]? = some (.cells #[.int .i64 p.op, .int .i64 p.ctor, .int .i64 p.n, .int .i64 p.m, .int .i64 p.var, .slice A p.kids.length cap] 50 (0, 0))) := by unfold Hid; rw [← hwx]; exact (Below.heap_alloc _ _ _ (by simp)).trans (heap_alloc_new w _)
  have HXR : Hid (wx.heap[w.heap.size + 1]? = some (.cells #[.int .i64 0, .int .i64 0, .int .i64 0, .int .i64 0, .int .i64 0, .slice none 0 0] 50 (0, 0))) := by
    have h := heap_alloc_new (w.alloc (.cells #[.int .i64 p.op, .int .i64 p.ctor, .int .i64 p.n, .int .i64 p.m, .int .i64 p.var, .slice A p.kids.length cap] 50)) (.cells #[.int .i64 0, .int .i64 0, .int .i64 0, .int .i64 0, .int .i64 0, .slice none 0 0] 50)
    simp only [World.size_alloc] at h
    unfold Hid; rw [← hwx]; exact h
  have HRX := Lib.hid (hR.below hbx)
  have HBX := Lib.hid hbx
  have HSX : Hid (wx.heap.size = w.heap.size + 1 + 1) := by unfold Hid; rw [← hwx]; simp
  have HWX := Lib.hid hwx
  have hzx := heap_lt HXR.out
  clear hwx hbx hO hP hR hN hsl ih
  have hxp := HXP.out
  obtain ⟨x0, x1, x2, x3, x4, x5, _⟩ := cellsP hxp
  clear hxp
  by_cases ho1 : p.op = 1
  · have q1 := ieq_t ho1
    clear ho1
    go_enter Try.func109, Try.ntmps109
    go_wp2_with fail
    rw [HWX.out]
    refine (pick_any rb B N 2 _ HRX.out (by have := HN.out; omega)).mono ?_
    rintro e w1 ⟨k1, rfl, hk1, hR1, hg1⟩
    have hf1 : Fr (fun b => b = rb) wx w1 := Fr.grown hg1 (fun b e => by injection e)
    have HFc : Hid (Fr (fun b => b = rb) w w1) := (Fr.below HBX.out).trans hf1
    have HRc := Lib.hid hR1
    have HXPc : Hid (w1.heap[w.heap.size]? = some (.cells #[.int .i64 p.op, .int .i64 p.ctor, .int .i64 p.n, .int .i64 p.m, .int .i64 p.var, .slice A p.kids.length cap] 50 (0, 0))) := hf1.block HXP.out (by omega)
    have HXRc : Hid (w1.heap[w.heap.size + 1]? = some (.cells #[.int .i64 0, .int .i64 0, .int .i64 0, .int .i64 0, .int .i64 0, .slice none 0 0] 50 (0, 0))) := hf1.block HXR.out (by omega)
    clear hR1 hg1 hf1 hk1 x0 x1 x2 x3 x4 x5
    by_cases hk0 : k1 = 0
    · have q0 : ((k1 : Int) == 0) = true := ieq_t (by omega)
      have hwn : IntKind.i64.wrap ((n : Int) + 1) = (n : Int) + 1 := IntWalk.i64_in _ (by omega)
      have hxr := HXRc.out
      obtain ⟨k0, k1', k2', k3, k4, k5, k6, k7, k8, k9, k10, k11⟩ := cellsP hxr
      have HFIN : Hid (PnQ d P p B rb N w (.returned (.tuple #[.agg #[.int .i64 2, .int .i64 0, .int .i64 0, .int .i64 0, .int .i64 n, .slice none 0 0], .int .i64 ((n : Int) + 1)])) ((((((w1.setCell ⟨w.heap.size + 1, 0, none⟩ (.int .i64 2)).setCell ⟨w.heap.size + 1, 1, none⟩ (.int .i64 0)).setCell ⟨w.heap.size + 1, 2, none⟩ (.int .i64 0)).setCell ⟨w.heap.size + 1, 3, none⟩ (.int .i64 0)).setCell ⟨w.heap.size + 1, 4, none⟩ (.int .i64 n)).setCell ⟨w.heap.size + 1, 5, none⟩ (.slice none 0 0))) :=
        ⟨.mk 2 0 0 0 n [], none, 0, n + 1, rfl, by omega, by rw [wP, wPs]; omega, OPs.nil _ _ _ _, (HRc.out.fr (Fr.six _ _ _ _ _ _ _ _) (fun b hb => by omega)).more (by omega), HFc.out.put6 (by omega) _ _ _ _ _ _⟩
      go_wp2_with fail
      exact bodyPost_ret (v := .tuple #[.agg #[.int .i64 2, .int .i64 0, .int .i64 0, .int .i64 0, .int .i64 n, .slice none 0 0], .int .i64 ((n : Int) + 1)]) (by simp [results, Try.results109, go_sem, k0, k1', k2', k3, k4, k5]) rfl HFIN.out
    · have q0 : ((k1 : Int) == 0) = false := ieq_f (by omega)
      have hxp := HXPc.out
      have hxr := HXRc.out
      obtain ⟨b0, b1, b2, b3, b4, b5, _⟩ := cellsP hxp
      have hcl := heap_lt hxr
      have hcl2 : w.heap.size ≠ w1.heap.size := by omega
      go_wp2_with fail
      generalize hwl : w1.alloc (.cells #[.int .i64 p.op, .int .i64 p.ctor, .int .i64 p.n, .int .i64 p.m, .int .i64 p.var, .slice none 0 0] 50) = wl
      have hbl : Below w1.heap.size w1 wl := by rw [← hwl]; exact (Below.refl _ _).alloc (Nat.le_refl _) _
      have HGL0 : Hid (wl.heap[w1.heap.size]? = some (.cells #[.int .i64 p.op, .int .i64 p.ctor, .int .i64 p.n, .int .i64 p.m, .int .i64 p.var, .slice none 0 0] 50 (0, 0))) := by unfold Hid; rw [← hwl]; exact heap_alloc_new _ _
      clear hwl
      have HFL : Hid (Fr (fun b => b = rb) w wl) := HFc.out.trans (Fr.below hbl)
      have HXPl : Hid (wl.heap[w.heap.size]? = some (.cells #[.int .i64 p.op, .int .i64 p.ctor, .int .i64 p.n, .int .i64 p.m, .int .i64 p.var, .slice A p.kids.length cap] 50 (0, 0))) := (hbl.block _ (by omega)).trans hxp
      have HXRl : Hid (wl.heap[w.heap.size + 1]? = some (.cells #[.int .i64 0, .int .i64 0, .int .i64 0, .int .i64 0, .int .i64 0, .slice none 0 0] 50 (0, 0))) := (hbl.block _ hcl).trans hxr
      have HRl := Lib.hid (HRc.out.below hbl)
      have hgl0 := heap_lt HGL0.out
      generalize hg : w1.heap.size = g at hcl hcl2 HGL0 hgl0 ⊢
      clear hxp hxr b0 b1 b2 b3 b4 b5 hbl hg
      go_loopw [9, 10] (fun u i wr => ∃ (vs : List Pt) (Q : Nat → Nat → Prop) (nx : Nat), vs.length ≤ p.kids.length ∧ u = .int .i64 nx ∧ i = .int .i64 (vs.length : Nat) ∧ nx ≤ 6 ∧ Hid (BldG (2 * d) wl wr g rb (fun b => P b ∨ wl.heap.size ≤ b) p.op p.ctor p.n p.m p.var vs Q) ∧ Hid (∀ j b, j < vs.length → Q j b → Qa j b ∨ wl.heap.size ≤ b) ∧ Hid (AllSz p.kids vs) ∧ Hid (RRd wr B rb (N + 1 + 2 * upP p.kids vs.length))) (fun _ i _ => p.kids.length - (intOf i).toNat)
      case atStart => exact ⟨[], fun _ _ => False, n, by simp, rfl, rfl, hn6, BldG.zero _ HGL0.out (by have := HFL.out.size; omega) (by omega), fun j b h => absurd h (by simp), AllSz.nil _, HRl.out.more (by omega)⟩
      case round =>
        obtain ⟨vs, Q, nx, hk, rfl, rfl, hnx6, HBd, HQI, HVS, HRr⟩ := hrel
        have hxp : wr.heap[w.heap.size]? = some (.cells #[.int .i64 p.op, .int .i64 p.ctor, .int .i64 p.n, .int .i64 p.m, .int .i64 p.var, .slice A p.kids.length cap] 50 (0, 0)) := HBd.out.2.2.2.1.block HXPl.out (by omega)
        obtain ⟨b0, b1, b2, b3, b4, b5, _⟩ := cellsP hxp
        have hfwr : Fr (fun b => b = rb) w wr := HFL.out.andThen HBd.out.2.2.2.1 (fun y hy hq => hq.elim (fun e => by omega) id)
        have HFWr := Lib.hid hfwr
        have hszl := HFL.out.size
        have hszr := HBd.out.2.2.2.1.size
        clear hfwr
        by_cases hlt : vs.length < p.kids.length
        · have hkI : (vs.length : Int) < (p.kids.length : Int) := by omega
          obtain ⟨m, rfl⟩ := HDM.out (by omega)
          have IHm := Lib.hid (IH.out m rfl)
          obtain ⟨g0, A', cap', rfl, hg0, hPg0, c0, c1, c2, c3, c4, c5, hkid, hQg⟩ := HSL.out.2 vs.length hlt
          obtain ⟨hgl, hrbl, hne, hf, Ak, ck, ys, hgc, hown, hrow⟩ := HBd.out
          have hg0r : g0 ≠ rb := (HP.out g0 hPg0).2
          have he0 : wr.heap[g0]? = w.heap[g0]? := HFWr.out.2.2.2.2 g0 hg0 hg0r
          have d0 := (World.cell?_of_block (a := ⟨g0, vs.length * 6, none⟩) he0).trans c0
          have d1 := (World.cell?_of_block (a := ⟨g0, vs.length * 6 + 1, none⟩) he0).trans c1
          have d2 := (World.cell?_of_block (a := ⟨g0, vs.length * 6 + 2, none⟩) he0).trans c2
          have d3 := (World.cell?_of_block (a := ⟨g0, vs.length * 6 + 3, none⟩) he0).trans c3
          have d4 := (World.cell?_of_block (a := ⟨g0, vs.length * 6 + 4, none⟩) he0).trans c4
          have d5 := (World.cell?_of_block (a := ⟨g0, vs.length * 6 + 5, none⟩) he0).trans c5
          obtain ⟨_, _, _, hob⟩ := own_form hown
          have HOB := Lib.hid hob
          have HGL : Hid (g < wl.heap.size ∧ rb < wl.heap.size ∧ g ≠ rb) := ⟨hgl, hrbl, hne⟩
          have HFR := Lib.hid hf
          have HGC := Lib.hid hgc
          have HOW := Lib.hid hown
          have HRW := Lib.hid hrow
          have hgw := heap_lt hgc
          have hkO : OPs (m + 1) wr (Qa vs.length) A' p.kids[vs.length].kids := hkid.fr _ HFWr.out (fun b hb e => (HP.out b (HSL.out.1 vs.length b hlt hb).1).2 e)
          have hup := upP_succ p.kids vs.length hlt
          have hupl := upP_le p (vs.length + 1) (by omega)
          have HIH := Lib.hid (IHm.out p.kids[vs.length] A' cap' (Qa vs.length) nx B rb (N + 1 + 2 * upP p.kids vs.length) wr hkO (fun b hb => by have := HP.out b (HSL.out.1 vs.length b hlt hb).1; omega) hnx6 HRr.out (by have := HN.out; omega))
          have HKD := Lib.hid (show ∀ b, Qa vs.length b → P b ∧ b < w.heap.size ∧ ∀ j, j < p.kids.length → j ≠ vs.length → ¬ Qa j b from fun b hb => ⟨(HSL.out.1 vs.length b hlt hb).1, (HP.out b (HSL.out.1 vs.length b hlt hb).1).1, (HSL.out.1 vs.length b hlt hb).2⟩)
          have hupw : upP p.kids vs.length + (1 + wP p.kids[vs.length]) = upP p.kids (vs.length + 1) := hup.symm
          have HUP := Lib.hid hupw
          clear c0 c1 c2 c3 c4 c5 hkid he0 hf hgc hown hrow hob hkO hup hupl hupw hQg
          go_wp2_with fail
          refine HIH.out.mono ?_
          rintro e w2 ⟨v2, A4, c4, n4, rfl, hn4, hs2, ho4, hR4, hf4⟩
          have hbz := hf4.size
          have hg2 : w2.heap[g]? = wr.heap[g]? := hf4.2.2.2.2 g hgw hne
          have e5 : w2.cell? ⟨g, 5, none⟩ = some (.slice Ak vs.length ck) := (World.cell?_of_block (a := ⟨g, 5, none⟩) hg2).trans ((cell_of_blk HGC.out 5).trans rfl)
          have e5' : (w2.alloc (.cells #[.int .i64 v2.op, .int .i64 v2.ctor, .int .i64 v2.n, .int .i64 v2.m, .int .i64 v2.var, .slice A4 v2.kids.length c4] 50)).cell? ⟨g, 5, none⟩ = some (.slice Ak vs.length ck) := (World.cell?_alloc_lt _ _ _ (by simp only; omega)).trans e5
          have HF4 : Hid (Fr (fun b => b = rb) wr (w2.alloc (.cells #[.int .i64 v2.op, .int .i64 v2.ctor, .int .i64 v2.n, .int .i64 v2.m, .int .i64 v2.var, .slice A4 v2.kids.length c4] 50))) := hf4.trans (Fr.below ((Below.refl _ _).alloc (Nat.le_refl _) _))
          have HO4 : Hid (OPs (2 * (m + 1)) (w2.alloc (.cells #[.int .i64 v2.op, .int .i64 v2.ctor, .int .i64 v2.n, .int .i64 v2.m, .int .i64 v2.var, .slice A4 v2.kids.length c4] 50)) (fun b => (Qa vs.length b ∨ wr.heap.size ≤ b) ∧ b < w2.heap.size) A4 v2.kids) := ho4.fr _ (Fr.below (P := fun _ => False) ((Below.refl _ _).alloc (Nat.le_refl _) _)) (fun _ _ h => h)
          have HOX : Hid (((w2.alloc (.cells #[.int .i64 v2.op, .int .i64 v2.ctor, .int .i64 v2.n, .int .i64 v2.m, .int .i64 v2.var, .slice A4 v2.kids.length c4] 50)).alloc (.cells #[.int .i64 v2.op, .int .i64 v2.ctor, .int .i64 v2.n, .int .i64 v2.m, .int .i64 v2.var, .slice A4 v2.kids.length c4] 50)).ownsRow wl.heap.size 50 6 (.slice Ak vs.length ck) vs.length ys) := own_at HOW.out (fun b e => by
            have h2 := (HOB.out b e).2
            have h1 := (HOB.out b e).1
            rw [Below.heap_alloc _ _ _ (by simp; omega), Below.heap_alloc _ _ _ (by omega), hf4.2.2.2.2 b h2 (by have := HGL.out; omega)])
          have HC1 : Hid (∀ j u, ([.int .i64 v2.op, .int .i64 v2.ctor, .int .i64 v2.n, .int .i64 v2.m, .int .i64 v2.var, .slice A4 v2.kids.length c4] : List Value)[j]? = some u → ((w2.alloc (.cells #[.int .i64 v2.op, .int .i64 v2.ctor, .int .i64 v2.n, .int .i64 v2.m, .int .i64 v2.var, .slice A4 v2.kids.length c4] 50)).alloc (.cells #[.int .i64 v2.op, .int .i64 v2.ctor, .int .i64 v2.n, .int .i64 v2.m, .int .i64 v2.var, .slice A4 v2.kids.length c4] 50)).cell? ((⟨w2.heap.size + 1, 0, none⟩ : Addr).add j) = some u) := by
            have h := cell_six_new (w2.alloc (.cells #[.int .i64 v2.op, .int .i64 v2.ctor, .int .i64 v2.n, .int .i64 v2.m, .int .i64 v2.var, .slice A4 v2.kids.length c4] 50)) (.int .i64 v2.op) (.int .i64 v2.ctor) (.int .i64 v2.n) (.int .i64 v2.m) (.int .i64 v2.var) (.slice A4 v2.kids.length c4) 50
            rw [World.size_alloc] at h
            exact h
          have HC2 : Hid (∀ u ∈ ([.int .i64 v2.op, .int .i64 v2.ctor, .int .i64 v2.n, .int .i64 v2.m, .int .i64 v2.var, .slice A4 v2.kids.length c4] : List Value), u.oneCell' = true) := by intro u hu; simp at hu; rcases hu with rfl | rfl | rfl | rfl | rfl | rfl <;> rfl
          have HC3 : Hid (vs.length + 1 ≤ maxLen) := by unfold Hid maxLen; have := upP_len p.kids vs.length; have := upP_le p (vs.length + 1) (by omega); have := HN.out; have := HUP.out; omega
          have HC4 : Hid ((vs.length + 1) * 64 ≤ 140737488355328) := by unfold Hid; have := upP_len p.kids vs.length; have := upP_le p (vs.length + 1) (by omega); have := HN.out; have := HUP.out; omega
          have HC5 : Hid (wl.heap.size ≤ ((w2.alloc (.cells #[.int .i64 v2.op, .int .i64 v2.ctor, .int .i64 v2.n, .int .i64 v2.m, .int .i64 v2.var, .slice A4 v2.kids.length c4] 50)).alloc (.cells #[.int .i64 v2.op, .int .i64 v2.ctor, .int .i64 v2.n, .int .i64 v2.m, .int .i64 v2.var, .slice A4 v2.kids.length c4] 50)).heap.size) := by unfold Hid; rw [World.size_alloc, World.size_alloc]; omega
          have hvb : (vs.length : Int) ≤ 90000 := by have := upP_len p.kids vs.length; have := upP_le p (vs.length + 1) (by omega); have := HN.out; have := HUP.out; omega
          have HS2 := Lib.hid hs2
          have HR4 := Lib.hid hR4
          have hl2 : g ≠ w2.heap.size := by omega
          have hl3 : w2.heap.size ≠ w2.heap.size + 1 := by omega
          clear hs2 ho4 hR4 hf4 hg2 d0 d1 d2 d3 d4 d5 b0 b1 b2 b3 b4 b5
          go_wp2_with (at_builtin; refine wpList_append_own_at _ rfl _ _ 48 rfl wl.heap.size 50 i0 (.agg #[.int .i64 0, .int .i64 0, .int .i64 0, .int .i64 0, .int .i64 0, .slice none 0 0]) 6 64 Try.underlying48 hi0 hz0 hz1 hz2 rfl (by decide) (.slice Ak vs.length ck) vs.length ys rfl HOX.out ⟨w2.heap.size + 1, 0, none⟩ 1 1 [.int .i64 v2.op, .int .i64 v2.ctor, .int .i64 v2.n, .int .i64 v2.m, .int .i64 v2.var, .slice A4 v2.kids.length c4] rfl rfl HC1.out HC2.out HC3.out HC4.out HC5.out ?_)
          intro v4 w4 hown4 hgr4 hnn4 hat4
          obtain ⟨A5, c5', rfl, hg4, hbl4⟩ := BldG.step (K := fun b => (Qa vs.length b ∨ wr.heap.size ≤ b) ∧ b < w2.heap.size) HGL.out.1 HGL.out.2.1 HGL.out.2.2 HFR.out HGC.out HOW.out HRW.out (fun b hb => by rcases hb with hb | hb <;> (first | (have := HP.out b hb; omega) | (have hb' : wl.heap.size ≤ b := hb; have := HGL.out; omega))) HF4.out HO4.out (fun b hb => ⟨by rcases hb.1 with h | h <;> (first | exact .inl (HKD.out b h).1 | exact .inr (by omega)), by rw [World.size_alloc]; have := hb.2; omega, fun e => by have h1 := HOB.out b e.symm; rcases hb.1 with h | h <;> (first | (have := (HKD.out b h).2.1; omega) | omega), fun j hj hq => by rcases hb.1 with h | h <;> (first | (rcases HQI.out j b hj hq with h2 | h2 <;> (first | exact (HKD.out b h).2.2 j (by omega) (by omega) h2 | (have := (HKD.out b h).2.1; omega))) | (have := ((HRW.out j hj).1 b hq).2.1; omega))⟩) hown4 hgr4 (by rw [World.size_alloc, World.size_alloc]; exact hat4)
          have HRR : Hid (RRd w4 B rb (N + 1 + 2 * upP p.kids vs.length + 2 * (1 + wP p.kids[vs.length]))) := ((HR4.out.alloc _).alloc _).fr (Fr.grown (P := fun b => wl.heap.size ≤ b) hgr4 (fun b e => (HOB.out b e.symm).1)) (fun b h => by have := HGL.out; omega)
          have hfz : w4.frozen? ⟨g, 5, none⟩ = false := frozen_of_row w4 g 5 _ 50 hg4
          have c4x : w4.cell? ⟨g, 5, none⟩ = some (.slice Ak vs.length ck) := (cell_of_blk hg4 5).trans rfl
          have HBL := Lib.hid hbl4
          clear hown4 hgr4 hnn4 hat4 hg4 hbl4 e5 e5'
          go_wp2_with fail
          have hll : ((vs ++ [v2]).length : Int) = (vs.length : Int) + 1 := by simp
          go_roundw
          case rel =>
            refine ⟨vs ++ [v2], _, n4, by simp; omega, rfl, by rw [hll], hn4, HBL.out, fun j b hj hq => ?_, HVS.out.snoc hlt HS2.out, ?_⟩
            · replace hq : (if j = vs.length then (fun b => (Qa vs.length b ∨ wr.heap.size ≤ b) ∧ b < w2.heap.size) else Q j) b := hq
              by_cases e : j = vs.length
              · rw [if_pos e] at hq
                subst e
                rcases hq.1 with h | h
                · exact .inl h
                · exact .inr (by omega)
              · rw [if_neg e] at hq
                exact HQI.out j b (by simp at hj; omega) hq
            · have e : N + 1 + 2 * upP p.kids (vs ++ [v2]).length = N + 1 + 2 * upP p.kids vs.length + 2 * (1 + wP p.kids[vs.length]) := by rw [List.length_append]; have := HUP.out; simp only [List.length_singleton]; omega
              rw [e]
              exact HRR.out.setCell (by have := HGL.out; omega) (by have := HGL.out; omega)
          case measure => simp [intOf]; omega
        · have hke : vs.length = p.kids.length := by omega
          obtain ⟨A6, c6, hg6, ho6, hf6⟩ := HBd.out.all (by have := upP_len p.kids vs.length; have := upP_le p vs.length (by omega); have := HN.out; omega)
          have hr6 : wr.heap[w.heap.size + 1]? = some (.cells #[.int .i64 0, .int .i64 0, .int .i64 0, .int .i64 0, .int .i64 0, .slice none 0 0] 50 (0, 0)) := hf6.block HXRl.out (by omega)
          have HO6 := Lib.hid ho6
          have HOB6 : Hid (∀ b, ((fun b => P b ∨ wl.heap.size ≤ b) b ∨ wl.heap.size ≤ b) → b ≠ w.heap.size + 1 ∧ b ≠ rb) := fun b h => by
            rcases h with (h | h) | h
            · have := HP.out b h; omega
            · have h' : wl.heap.size ≤ b := h; have := HBd.out.2.1; omega
            · have := HBd.out.2.1; omega
          have HOBP : Hid (∀ b, ((fun b => P b ∨ wl.heap.size ≤ b) b ∨ wl.heap.size ≤ b) → P b ∨ w.heap.size ≤ b) := fun b h => by
            rcases h with (h | h) | h
            · exact .inl h
            · exact .inr (by have h' : wl.heap.size ≤ b := h; omega)
            · exact .inr (by omega)
          have HSZv : Hid (vs.length = p.kids.length ∧ upP p.kids vs.length = wPs p.kids) := ⟨hke, by rw [hke]; exact upP_all p.kids⟩
          have hkI : (p.kids.length : Int) ≤ (vs.length : Int) := by omega
          have hup := HSZv.out.2
          have hwk := wP_kids p
          clear hke ho6 hf6 hxp
          by_cases hn5 : nx ≤ 5
          · have hn5I : (nx : Int) ≤ 5 := by omega
            have hHR := HN.out
            clear b0 b1 b2 b3 b4
            go_wp2_with fail
            refine (pick_any rb B (N + 1 + 2 * upP p.kids vs.length) 6 _ HRr.out (by omega)).mono ?_
            rintro e w5 ⟨k5, rfl, hk5, hR5, hg5x⟩
            have hf5 : Fr (fun b => b = rb) wr w5 := Fr.grown hg5x (fun b e => by injection e)
            have HR5 := Lib.hid hR5
            have HFW5 : Hid (Fr (fun b => b = rb) w w5) := HFWr.out.trans hf5
            have hr5 : w5.heap[w.heap.size + 1]? = some (.cells #[.int .i64 0, .int .i64 0, .int .i64 0, .int .i64 0, .int .i64 0, .slice none 0 0] 50 (0, 0)) := hf5.block hr6 (by omega)
            have hg5 : w5.heap[g]? = some (.cells #[.int .i64 p.op, .int .i64 p.ctor, .int .i64 p.n, .int .i64 p.m, .int .i64 p.var, .slice A6 vs.length c6] 50 (0, 0)) := hf5.block hg6 (by have := HBd.out.2.2.1; omega)
            have hsz5 := hf5.size
            have HO5 : Hid (OPs (2 * d + 1) w5 (fun b => ((fun b => P b ∨ wl.heap.size ≤ b) b ∨ wl.heap.size ≤ b) ∧ b < w5.heap.size) A6 vs) := (HO6.out.fr _ hf5 (fun b hq e => (HOB6.out b hq.1).2 e)).wide _ (fun b hq => ⟨hq.1, by have := hq.2; omega⟩)
            clear hR5 hg5x hf5 hk5
            by_cases hk0 : k5 = 0
            · have q5 : ((k5 : Int) == 0) = true := ieq_t (by omega)
              obtain ⟨g0', g1', g2', g3', g4', g5', _⟩ := cellsP hg5
              have HG5 := heap_alloc_new w5 (.cells #[.int .i64 p.op, .int .i64 p.ctor, .int .i64 p.n, .int .i64 p.m, .int .i64 p.var, .slice A6 vs.length c6] 50)
              have hba : Below w5.heap.size w5 (w5.alloc (.cells #[.int .i64 p.op, .int .i64 p.ctor, .int .i64 p.n, .int .i64 p.m, .int .i64 p.var, .slice A6 vs.length c6] 50)) := (Below.refl _ _).alloc (Nat.le_refl _) _
              have hra := (hba.block _ (heap_lt hr5)).trans hr5
              obtain ⟨k0, k1', k2', k3, k4, k5, k6, k7, k8, k9, k10, k11⟩ := cellsP hra
              have hl5 : w.heap.size + 1 ≠ w5.heap.size := by have := heap_lt hr5; omega
              have hwn : IntKind.i64.wrap ((nx : Int) + 1) = (nx : Int) + 1 := IntWalk.i64_in _ (by omega)
              go_wp2_with fail
              generalize (w5.alloc (.cells #[.int .i64 p.op, .int .i64 p.ctor, .int .i64 p.n, .int .i64 p.m, .int .i64 p.var, .slice A6 vs.length c6] 50)) = wa at HG5 hba hra ⊢
              have hza := hba.size
              have hll := heap_lt HG5
              have hf6 := Fr.six wa (w.heap.size + 1) (.int .i64 6) (.int .i64 0) (.int .i64 0) (.int .i64 0) (.int .i64 nx) (.slice (some ⟨w5.heap.size, 0, none⟩) 1 1)
              have hp2 := ZP.put hra 6 0 0 0 nx (.slice (some ⟨w5.heap.size, 0, none⟩) 1 1)
              have HG6 := hf6.block HG5 (by omega)
              have hszb := hf6.size
              generalize ((((((wa.setCell ⟨w.heap.size + 1, 0, none⟩ (.int .i64 6)).setCell ⟨w.heap.size + 1, 1, none⟩ (.int .i64 0)).setCell ⟨w.heap.size + 1, 2, none⟩ (.int .i64 0)).setCell ⟨w.heap.size + 1, 3, none⟩ (.int .i64 0)).setCell ⟨w.heap.size + 1, 4, none⟩ (.int .i64 nx)).setCell ⟨w.heap.size + 1, 5, none⟩ (.slice (some ⟨w5.heap.size, 0, none⟩) 1 1)) = wb at hf6 hp2 HG6 hszb ⊢
              have hO6 : OPs (2 * d + 1) wb (fun b => ((fun b => P b ∨ wl.heap.size ≤ b) b ∨ wl.heap.size ≤ b) ∧ b < w5.heap.size) A6 vs := (HO5.out.fr _ (Fr.below (P := fun _ => False) hba) (fun _ _ h => h)).fr _ hf6 (fun b hq e => by have := HOB6.out b hq.1; omega)
              have hO7 : OPs (2 * d + 2) wb (fun b => (P b ∨ w.heap.size ≤ b) ∧ b < wb.heap.size) (some ⟨w5.heap.size, 0, none⟩) [Pt.mk p.op p.ctor p.n p.m p.var vs] := OPs.one (p := Pt.mk p.op p.ctor p.n p.m p.var vs) HG6 hO6 ⟨.inr (by omega), by omega⟩ (fun b hq => ⟨⟨HOBP.out b hq.1, by have := hq.2; omega⟩, by have := hq.2; omega⟩)
              have HFIN : Hid (PnQ d P p B rb N w (.returned (.tuple #[.agg #[.int .i64 6, .int .i64 0, .int .i64 0, .int .i64 0, .int .i64 nx, .slice (some ⟨w5.heap.size, 0, none⟩) 1 1], .int .i64 ((nx : Int) + 1)])) wb) := by
                have hsz := HSZv.out
                have hwk := wP_kids p
                have hws := wPs_all HVS.out
                refine ⟨.mk 6 0 0 0 nx [.mk p.op p.ctor p.n p.m p.var vs], some ⟨w5.heap.size, 0, none⟩, 1, nx + 1, rfl, by omega, by rw [wP, wPs, wP, wPs]; omega, hO7, ((HR5.out.below hba).fr hf6 (fun b hb => by omega)).more (by omega), (HFW5.out.trans (Fr.below hba)).andThen hf6 (fun x hx e => by omega)⟩
              obtain ⟨r0, r1, r2, r3, r4, r5, _⟩ := cellsP hp2
              clear hO6 hO7 HG5 HG6 hba hp2 hra hf6
              go_wp2_with fail
              exact bodyPost_ret (v := .tuple #[.agg #[.int .i64 6, .int .i64 0, .int .i64 0, .int .i64 0, .int .i64 nx, .slice (some ⟨w5.heap.size, 0, none⟩) 1 1], .int .i64 ((nx : Int) + 1)]) (by simp [results, Try.results109, go_sem, r0, r1, r2, r3, r4, r5]) rfl HFIN.out
            · have q5 : ((k5 : Int) == 0) = false := ieq_f (by omega)
              obtain ⟨k0, k1', k2', k3, k4, k5, k6, k7, k8, k9, k10, k11⟩ := cellsP hr5
              obtain ⟨g0', g1', g2', g3', g4', g5', _⟩ := cellsP hg5
              have HFIN : Hid (PnQ d P p B rb N w (.returned (.tuple #[.agg #[.int .i64 p.op, .int .i64 p.ctor, .int .i64 p.n, .int .i64 p.m, .int .i64 p.var, .slice A6 vs.length c6], .int .i64 nx])) ((((((w5.setCell ⟨w.heap.size + 1, 0, none⟩ (.int .i64 p.op)).setCell ⟨w.heap.size + 1, 1, none⟩ (.int .i64 p.ctor)).setCell ⟨w.heap.size + 1, 2, none⟩ (.int .i64 p.n)).setCell ⟨w.heap.size + 1, 3, none⟩ (.int .i64 p.m)).setCell ⟨w.heap.size + 1, 4, none⟩ (.int .i64 p.var)).setCell ⟨w.heap.size + 1, 5, none⟩ (.slice A6 vs.length c6))) := by
                have hsz := HSZv.out
                refine ⟨.mk p.op p.ctor p.n p.m p.var vs, A6, c6, nx, rfl, by omega, by rw [wP]; have hwk := wP_kids p; have hws := wPs_all HVS.out; omega, (((HO5.out).fr _ (Fr.six _ _ _ _ _ _ _ _) (fun b hq e => by have := HOB6.out b hq.1; omega)).more (by omega)).wide _ (fun b hq => ⟨HOBP.out b hq.1, by have h2 := hq.2; simpa [World.setCell] using h2⟩), ((HR5.out).fr (Fr.six _ _ _ _ _ _ _ _) (fun b hb => by omega)).more (by have hwk := wP_kids p; omega), (HFW5.out).put6 (by omega) _ _ _ _ _ _⟩
              go_wp2_with fail
              exact bodyPost_ret (v := .tuple #[.agg #[.int .i64 p.op, .int .i64 p.ctor, .int .i64 p.n, .int .i64 p.m, .int .i64 p.var, .slice A6 vs.length c6], .int .i64 nx]) (by simp [results, Try.results109, go_sem, k0, k1', k2', k3, k4, k5]) rfl HFIN.out
          · have hn5I : (5 : Int) < (nx : Int) := by omega
            clear b0 b1 b2 b3 b4
            obtain ⟨k0, k1', k2', k3, k4, k5, k6, k7, k8, k9, k10, k11⟩ := cellsP hr6
            obtain ⟨g0', g1', g2', g3', g4', g5', _⟩ := cellsP hg6
            have HFIN : Hid (PnQ d P p B rb N w (.returned (.tuple #[.agg #[.int .i64 p.op, .int .i64 p.ctor, .int .i64 p.n, .int .i64 p.m, .int .i64 p.var, .slice A6 vs.length c6], .int .i64 nx])) ((((((wr.setCell ⟨w.heap.size + 1, 0, none⟩ (.int .i64 p.op)).setCell ⟨w.heap.size + 1, 1, none⟩ (.int .i64 p.ctor)).setCell ⟨w.heap.size + 1, 2, none⟩ (.int .i64 p.n)).setCell ⟨w.heap.size + 1, 3, none⟩ (.int .i64 p.m)).setCell ⟨w.heap.size + 1, 4, none⟩ (.int .i64 p.var)).setCell ⟨w.heap.size + 1, 5, none⟩ (.slice A6 vs.length c6))) := by
              have hsz := HSZv.out
              refine ⟨.mk p.op p.ctor p.n p.m p.var vs, A6, c6, nx, rfl, by omega, by rw [wP]; have hwk := wP_kids p; have hws := wPs_all HVS.out; omega, (((HO6.out).fr _ (Fr.six _ _ _ _ _ _ _ _) (fun b hq e => by have := HOB6.out b hq.1; omega)).more (by omega)).wide _ (fun b hq => ⟨HOBP.out b hq.1, by have h2 := hq.2; simpa [World.setCell] using h2⟩), ((HRr.out).fr (Fr.six _ _ _ _ _ _ _ _) (fun b hb => by omega)).more (by have hwk := wP_kids p; omega), (HFWr.out).put6 (by omega) _ _ _ _ _ _⟩
            go_wp2_with fail
            exact bodyPost_ret (v := .tuple #[.agg #[.int .i64 p.op, .int .i64 p.ctor, .int .i64 p.n, .int .i64 p.m, .int .i64 p.var, .slice A6 vs.length c6], .int .i64 nx]) (by simp [results, Try.results109, go_sem, k0, k1', k2', k3, k4, k5]) rfl HFIN.out
  · have q1 := ieq_f ho1
    have HFc : Hid (Fr (fun b => b = rb) w wx) := Fr.below HBX.out
    have HRc := HRX
    have HXPc := HXP
    have HXRc := HXR
    clear ho1
    go_enter Try.func109, Try.ntmps109
    have hxp := HXPc.out
    have hxr := HXRc.out
    obtain ⟨b0, b1, b2, b3, b4, b5, _⟩ := cellsP hxp
    have hcl := heap_lt hxr
    have hcl2 : w.heap.size ≠ wx.heap.size := by omega
    go_wp2_with fail
    rw [HWX.out]
    generalize hwl : wx.alloc (.cells #[.int .i64 p.op, .int .i64 p.ctor, .int .i64 p.n, .int .i64 p.m, .int .i64 p.var, .slice none 0 0] 50) = wl
    have hbl : Below wx.heap.size wx wl := by rw [← hwl]; exact (Below.refl _ _).alloc (Nat.le_refl _) _
    have HGL0 : Hid (wl.heap[wx.heap.size]? = some (.cells #[.int .i64 p.op, .int .i64 p.ctor, .int .i64 p.n, .int .i64 p.m, .int .i64 p.var, .slice none 0 0] 50 (0, 0))) := by unfold Hid; rw [← hwl]; exact heap_alloc_new _ _
    clear hwl
    have HFL : Hid (Fr (fun b => b = rb) w wl) := HFc.out.trans (Fr.below hbl)
    have HXPl : Hid (wl.heap[w.heap.size]? = some (.cells #[.int .i64 p.op, .int .i64 p.ctor, .int .i64 p.n, .int .i64 p.m, .int .i64 p.var, .slice A p.kids.length cap] 50 (0, 0))) := (hbl.block _ (by omega)).trans hxp
    have HXRl : Hid (wl.heap[w.heap.size + 1]? = some (.cells #[.int .i64 0, .int .i64 0, .int .i64 0, .int .i64 0, .int .i64 0, .slice none 0 0] 50 (0, 0))) := (hbl.block _ hcl).trans hxr
    have HRl := Lib.hid (HRc.out.below hbl)
    have hgl0 := heap_lt HGL0.out
    have hsx := HSX.out
    rw [hsx] at hcl hcl2 HGL0 hgl0
    clear hsx
    generalize hg : w.heap.size + 1 + 1 = g at hcl hcl2 HGL0 hgl0 ⊢
    clear hxp hxr b0 b1 b2 b3 b4 b5 hbl hg
    go_loopw [9, 10] (fun u i wr => ∃ (vs : List Pt) (Q : Nat → Nat → Prop) (nx : Nat), vs.length ≤ p.kids.length ∧ u = .int .i64 nx ∧ i = .int .i64 (vs.length : Nat) ∧ nx ≤ 6 ∧ Hid (BldG (2 * d) wl wr g rb (fun b => P b ∨ wl.heap.size ≤ b) p.op p.ctor p.n p.m p.var vs Q) ∧ Hid (∀ j b, j < vs.length → Q j b → Qa j b ∨ wl.heap.size ≤ b) ∧ Hid (AllSz p.kids vs) ∧ Hid (RRd wr B rb (N + 1 + 2 * upP p.kids vs.length))) (fun _ i _ => p.kids.length - (intOf i).toNat)
    case atStart => exact ⟨[], fun _ _ => False, n, by simp, rfl, rfl, hn6, BldG.zero _ HGL0.out (by have := HFL.out.size; omega) (by omega), fun j b h => absurd h (by simp), AllSz.nil _, HRl.out.more (by omega)⟩
    case round =>
      obtain ⟨vs, Q, nx, hk, rfl, rfl, hnx6, HBd, HQI, HVS, HRr⟩ := hrel
      have hxp : wr.heap[w.heap.size]? = some (.cells #[.int .i64 p.op, .int .i64 p.ctor, .int .i64 p.n, .int .i64 p.m, .int .i64 p.var, .slice A p.kids.length cap] 50 (0, 0)) := HBd.out.2.2.2.1.block HXPl.out (by omega)
      obtain ⟨b0, b1, b2, b3, b4, b5, _⟩ := cellsP hxp
      have hfwr : Fr (fun b => b = rb) w wr := HFL.out.andThen HBd.out.2.2.2.1 (fun y hy hq => hq.elim (fun e => by omega) id)
      have HFWr := Lib.hid hfwr
      have hszl := HFL.out.size
      have hszr := HBd.out.2.2.2.1.size
      clear hfwr
      by_cases hlt : vs.length < p.kids.length
      · have hkI : (vs.length : Int) < (p.kids.length : Int) := by omega
        obtain ⟨m, rfl⟩ := HDM.out (by omega)
        have IHm := Lib.hid (IH.out m rfl)
        obtain ⟨g0, A', cap', rfl, hg0, hPg0, c0, c1, c2, c3, c4, c5, hkid, hQg⟩ := HSL.out.2 vs.length hlt
        obtain ⟨hgl, hrbl, hne, hf, Ak, ck, ys, hgc, hown, hrow⟩ := HBd.out
        have hg0r : g0 ≠ rb := (HP.out g0 hPg0).2
        have he0 : wr.heap[g0]? = w.heap[g0]? := HFWr.out.2.2.2.2 g0 hg0 hg0r
        have d0 := (World.cell?_of_block (a := ⟨g0, vs.length * 6, none⟩) he0).trans c0
        have d1 := (World.cell?_of_block (a := ⟨g0, vs.length * 6 + 1, none⟩) he0).trans c1
        have d2 := (World.cell?_of_block (a := ⟨g0, vs.length * 6 + 2, none⟩) he0).trans c2
        have d3 := (World.cell?_of_block (a := ⟨g0, vs.length * 6 + 3, none⟩) he0).trans c3
        have d4 := (World.cell?_of_block (a := ⟨g0, vs.length * 6 + 4, none⟩) he0).trans c4
        have d5 := (World.cell?_of_block (a := ⟨g0, vs.length * 6 + 5, none⟩) he0).trans c5
        obtain ⟨_, _, _, hob⟩ := own_form hown
        have HOB := Lib.hid hob
        have HGL : Hid (g < wl.heap.size ∧ rb < wl.heap.size ∧ g ≠ rb) := ⟨hgl, hrbl, hne⟩
        have HFR := Lib.hid hf
        have HGC := Lib.hid hgc
        have HOW := Lib.hid hown
        have HRW := Lib.hid hrow
        have hgw := heap_lt hgc
        have hkO : OPs (m + 1) wr (Qa vs.length) A' p.kids[vs.length].kids := hkid.fr _ HFWr.out (fun b hb e => (HP.out b (HSL.out.1 vs.length b hlt hb).1).2 e)
        have hup := upP_succ p.kids vs.length hlt
        have hupl := upP_le p (vs.length + 1) (by omega)
        have HIH := Lib.hid (IHm.out p.kids[vs.length] A' cap' (Qa vs.length) nx B rb (N + 1 + 2 * upP p.kids vs.length) wr hkO (fun b hb => by have := HP.out b (HSL.out.1 vs.length b hlt hb).1; omega) hnx6 HRr.out (by have := HN.out; omega))
        have HKD := Lib.hid (show ∀ b, Qa vs.length b → P b ∧ b < w.heap.size ∧ ∀ j, j < p.kids.length → j ≠ vs.length → ¬ Qa j b from fun b hb => ⟨(HSL.out.1 vs.length b hlt hb).1, (HP.out b (HSL.out.1 vs.length b hlt hb).1).1, (HSL.out.1 vs.length b hlt hb).2⟩)
        have hupw : upP p.kids vs.length + (1 + wP p.kids[vs.length]) = upP p.kids (vs.length + 1) := hup.symm
        have HUP := Lib.hid hupw
        clear c0 c1 c2 c3 c4 c5 hkid he0 hf hgc hown hrow hob hkO hup hupl hupw hQg
        go_wp2_with fail
        refine HIH.out.mono ?_
        rintro e w2 ⟨v2, A4, c4, n4, rfl, hn4, hs2, ho4, hR4, hf4⟩
        have hbz := hf4.size
        have hg2 : w2.heap[g]? = wr.heap[g]? := hf4.2.2.2.2 g hgw hne
        have e5 : w2.cell? ⟨g, 5, none⟩ = some (.slice Ak vs.length ck) := (World.cell?_of_block (a := ⟨g, 5, none⟩) hg2).trans ((cell_of_blk HGC.out 5).trans rfl)
        have e5' : (w2.alloc (.cells #[.int .i64 v2.op, .int .i64 v2.ctor, .int .i64 v2.n, .int .i64 v2.m, .int .i64 v2.var, .slice A4 v2.kids.length c4] 50)).cell? ⟨g, 5, none⟩ = some (.slice Ak vs.length ck) := (World.cell?_alloc_lt _ _ _ (by simp only; omega)).trans e5
        have HF4 : Hid (Fr (fun b => b = rb) wr (w2.alloc (.cells #[.int .i64 v2.op, .int .i64 v2.ctor, .int .i64 v2.n, .int .i64 v2.m, .int .i64 v2.var, .slice A4 v2.kids.length c4] 50))) := hf4.trans (Fr.below ((Below.refl _ _).alloc (Nat.le_refl _) _))
        have HO4 : Hid (OPs (2 * (m + 1)) (w2.alloc (.cells #[.int .i64 v2.op, .int .i64 v2.ctor, .int .i64 v2.n, .int .i64 v2.m, .int .i64 v2.var, .slice A4 v2.kids.length c4] 50)) (fun b => (Qa vs.length b ∨ wr.heap.size ≤ b) ∧ b < w2.heap.size) A4 v2.kids) := ho4.fr _ (Fr.below (P := fun _ => False) ((Below.refl _ _).alloc (Nat.le_refl _) _)) (fun _ _ h => h)
        have HOX : Hid (((w2.alloc (.cells #[.int .i64 v2.op, .int .i64 v2.ctor, .int .i64 v2.n, .int .i64 v2.m, .int .i64 v2.var, .slice A4 v2.kids.length c4] 50)).alloc (.cells #[.int .i64 v2.op, .int .i64 v2.ctor, .int .i64 v2.n, .int .i64 v2.m, .int .i64 v2.var, .slice A4 v2.kids.length c4] 50)).ownsRow wl.heap.size 50 6 (.slice Ak vs.length ck) vs.length ys) := own_at HOW.out (fun b e => by
          have h2 := (HOB.out b e).2
          have h1 := (HOB.out b e).1
          rw [Below.heap_alloc _ _ _ (by simp; omega), Below.heap_alloc _ _ _ (by omega), hf4.2.2.2.2 b h2 (by have := HGL.out; omega)])
        have HC1 : Hid (∀ j u, ([.int .i64 v2.op, .int .i64 v2.ctor, .int .i64 v2.n, .int .i64 v2.m, .int .i64 v2.var, .slice A4 v2.kids.length c4] : List Value)[j]? = some u → ((w2.alloc (.cells #[.int .i64 v2.op, .int .i64 v2.ctor, .int .i64 v2.n, .int .i64 v2.m, .int .i64 v2.var, .slice A4 v2.kids.length c4] 50)).alloc (.cells #[.int .i64 v2.op, .int .i64 v2.ctor, .int .i64 v2.n, .int .i64 v2.m, .int .i64 v2.var, .slice A4 v2.kids.length c4] 50)).cell? ((⟨w2.heap.size + 1, 0, none⟩ : Addr).add j) = some u) := by
          have h := cell_six_new (w2.alloc (.cells #[.int .i64 v2.op, .int .i64 v2.ctor, .int .i64 v2.n, .int .i64 v2.m, .int .i64 v2.var, .slice A4 v2.kids.length c4] 50)) (.int .i64 v2.op) (.int .i64 v2.ctor) (.int .i64 v2.n) (.int .i64 v2.m) (.int .i64 v2.var) (.slice A4 v2.kids.length c4) 50
          rw [World.size_alloc] at h
          exact h
        have HC2 : Hid (∀ u ∈ ([.int .i64 v2.op, .int .i64 v2.ctor, .int .i64 v2.n, .int .i64 v2.m, .int .i64 v2.var, .slice A4 v2.kids.length c4] : List Value), u.oneCell' = true) := by intro u hu; simp at hu; rcases hu with rfl | rfl | rfl | rfl | rfl | rfl <;> rfl
        have HC3 : Hid (vs.length + 1 ≤ maxLen) := by unfold Hid maxLen; have := upP_len p.kids vs.length; have := upP_le p (vs.length + 1) (by omega); have := HN.out; have := HUP.out; omega
        have HC4 : Hid ((vs.length + 1) * 64 ≤ 140737488355328) := by unfold Hid; have := upP_len p.kids vs.length; have := upP_le p (vs.length + 1) (by omega); have := HN.out; have := HUP.out; omega
        have HC5 : Hid (wl.heap.size ≤ ((w2.alloc (.cells #[.int .i64 v2.op, .int .i64 v2.ctor, .int .i64 v2.n, .int .i64 v2.m, .int .i64 v2.var, .slice A4 v2.kids.length c4] 50)).alloc (.cells #[.int .i64 v2.op, .int .i64 v2.ctor, .int .i64 v2.n, .int .i64 v2.m, .int .i64 v2.var, .slice A4 v2.kids.length c4] 50)).heap.size) := by unfold Hid; rw [World.size_alloc, World.size_alloc]; omega
        have hvb : (vs.length : Int) ≤ 90000 := by have := upP_len p.kids vs.length; have := upP_le p (vs.length + 1) (by omega); have := HN.out; have := HUP.out; omega
        have HS2 := Lib.hid hs2
        have HR4 := Lib.hid hR4
        have hl2 : g ≠ w2.heap.size := by omega
        have hl3 : w2.heap.size ≠ w2.heap.size + 1 := by omega
        clear hs2 ho4 hR4 hf4 hg2 d0 d1 d2 d3 d4 d5 b0 b1 b2 b3 b4 b5
        go_wp2_with (at_builtin; refine wpList_append_own_at _ rfl _ _ 48 rfl wl.heap.size 50 i0 (.agg #[.int .i64 0, .int .i64 0, .int .i64 0, .int .i64 0, .int .i64 0, .slice none 0 0]) 6 64 Try.underlying48 hi0 hz0 hz1 hz2 rfl (by decide) (.slice Ak vs.length ck) vs.length ys rfl HOX.out ⟨w2.heap.size + 1, 0, none⟩ 1 1 [.int .i64 v2.op, .int .i64 v2.ctor, .int .i64 v2.n, .int .i64 v2.m, .int .i64 v2.var, .slice A4 v2.kids.length c4] rfl rfl HC1.out HC2.out HC3.out HC4.out HC5.out ?_)
        intro v4 w4 hown4 hgr4 hnn4 hat4
        obtain ⟨A5, c5', rfl, hg4, hbl4⟩ := BldG.step (K := fun b => (Qa vs.length b ∨ wr.heap.size ≤ b) ∧ b < w2.heap.size) HGL.out.1 HGL.out.2.1 HGL.out.2.2 HFR.out HGC.out HOW.out HRW.out (fun b hb => by rcases hb with hb | hb <;> (first | (have := HP.out b hb; omega) | (have hb' : wl.heap.size ≤ b := hb; have := HGL.out; omega))) HF4.out HO4.out (fun b hb => ⟨by rcases hb.1 with h | h <;> (first | exact .inl (HKD.out b h).1 | exact .inr (by omega)), by rw [World.size_alloc]; have := hb.2; omega, fun e => by have h1 := HOB.out b e.symm; rcases hb.1 with h | h <;> (first | (have := (HKD.out b h).2.1; omega) | omega), fun j hj hq => by rcases hb.1 with h | h <;> (first | (rcases HQI.out j b hj hq with h2 | h2 <;> (first | exact (HKD.out b h).2.2 j (by omega) (by omega) h2 | (have := (HKD.out b h).2.1; omega))) | (have := ((HRW.out j hj).1 b hq).2.1; omega))⟩) hown4 hgr4 (by rw [World.size_alloc, World.size_alloc]; exact hat4)
        have HRR : Hid (RRd w4 B rb (N + 1 + 2 * upP p.kids vs.length + 2 * (1 + wP p.kids[vs.length]))) := ((HR4.out.alloc _).alloc _).fr (Fr.grown (P := fun b => wl.heap.size ≤ b) hgr4 (fun b e => (HOB.out b e.symm).1)) (fun b h => by have := HGL.out; omega)
        have hfz : w4.frozen? ⟨g, 5, none⟩ = false := frozen_of_row w4 g 5 _ 50 hg4
        have c4x : w4.cell? ⟨g, 5, none⟩ = some (.slice Ak vs.length ck) := (cell_of_blk hg4 5).trans rfl
        have HBL := Lib.hid hbl4
        clear hown4 hgr4 hnn4 hat4 hg4 hbl4 e5 e5'
        go_wp2_with fail
        have hll : ((vs ++ [v2]).length : Int) = (vs.length : Int) + 1 := by simp
        go_roundw
        case rel =>
          refine ⟨vs ++ [v2], _, n4, by simp; omega, rfl, by rw [hll], hn4, HBL.out, fun j b hj hq => ?_, HVS.out.snoc hlt HS2.out, ?_⟩
          · replace hq : (if j = vs.length then (fun b => (Qa vs.length b ∨ wr.heap.size ≤ b) ∧ b < w2.heap.size) else Q j) b := hq
            by_cases e : j = vs.length
            · rw [if_pos e] at hq
              subst e
              rcases hq.1 with h | h
              · exact .inl h
              · exact .inr (by omega)
            · rw [if_neg e] at hq
              exact HQI.out j b (by simp at hj; omega) hq
          · have e : N + 1 + 2 * upP p.kids (vs ++ [v2]).length = N + 1 + 2 * upP p.kids vs.length + 2 * (1 + wP p.kids[vs.length]) := by rw [List.length_append]; have := HUP.out; simp only [List.length_singleton]; omega
            rw [e]
            exact HRR.out.setCell (by have := HGL.out; omega) (by have := HGL.out; omega)
        case measure => simp [intOf]; omega
      · have hke : vs.length = p.kids.length := by omega
        obtain ⟨A6, c6, hg6, ho6, hf6⟩ := HBd.out.all (by have := upP_len p.kids vs.length; have := upP_le p vs.length (by omega); have := HN.out; omega)
        have hr6 : wr.heap[w.heap.size + 1]? = some (.cells #[.int .i64 0, .int .i64 0, .int .i64 0, .int .i64 0, .int .i64 0, .slice none 0 0] 50 (0, 0)) := hf6.block HXRl.out (by omega)
        have HO6 := Lib.hid ho6
        have HOB6 : Hid (∀ b, ((fun b => P b ∨ wl.heap.size ≤ b) b ∨ wl.heap.size ≤ b) → b ≠ w.heap.size + 1 ∧ b ≠ rb) := fun b h => by
          rcases h with (h | h) | h
          · have := HP.out b h; omega
          · have h' : wl.heap.size ≤ b := h; have := HBd.out.2.1; omega
          · have := HBd.out.2.1; omega
        have HOBP : Hid (∀ b, ((fun b => P b ∨ wl.heap.size ≤ b) b ∨ wl.heap.size ≤ b) → P b ∨ w.heap.size ≤ b) := fun b h => by
          rcases h with (h | h) | h
          · exact .inl h
          · exact .inr (by have h' : wl.heap.size ≤ b := h; omega)
          · exact .inr (by omega)
        have HSZv : Hid (vs.length = p.kids.length ∧ upP p.kids vs.length = wPs p.kids) := ⟨hke, by rw [hke]; exact upP_all p.kids⟩
        have hkI : (p.kids.length : Int) ≤ (vs.length : Int) := by omega
        have hup := HSZv.out.2
        have hwk := wP_kids p
        clear hke ho6 hf6 hxp
        by_cases hn5 : nx ≤ 5
        · have hn5I : (nx : Int) ≤ 5 := by omega
          have hHR := HN.out
          clear b0 b1 b2 b3 b4
          go_wp2_with fail
          refine (pick_any rb B (N + 1 + 2 * upP p.kids vs.length) 6 _ HRr.out (by omega)).mono ?_
          rintro e w5 ⟨k5, rfl, hk5, hR5, hg5x⟩
          have hf5 : Fr (fun b => b = rb) wr w5 := Fr.grown hg5x (fun b e => by injection e)
          have HR5 := Lib.hid hR5
          have HFW5 : Hid (Fr (fun b => b = rb) w w5) := HFWr.out.trans hf5
          have hr5 : w5.heap[w.heap.size + 1]? = some (.cells #[.int .i64 0, .int .i64 0, .int .i64 0, .int .i64 0, .int .i64 0, .slice none 0 0] 50 (0, 0)) := hf5.block hr6 (by omega)
          have hg5 : w5.heap[g]? = some (.cells #[.int .i64 p.op, .int .i64 p.ctor, .int .i64 p.n, .int .i64 p.m, .int .i64 p.var, .slice A6 vs.length c6] 50 (0, 0)) := hf5.block hg6 (by have := HBd.out.2.2.1; omega)
          have hsz5 := hf5.size
          have HO5 : Hid (OPs (2 * d + 1) w5 (fun b => ((fun b => P b ∨ wl.heap.size ≤ b) b ∨ wl.heap.size ≤ b) ∧ b < w5.heap.size) A6 vs) := (HO6.out.fr _ hf5 (fun b hq e => (HOB6.out b hq.1).2 e)).wide _ (fun b hq => ⟨hq.1, by have := hq.2; omega⟩)
          clear hR5 hg5x hf5 hk5
          by_cases hk0 : k5 = 0
          · have q5 : ((k5 : Int) == 0) = true := ieq_t (by omega)
            obtain ⟨g0', g1', g2', g3', g4', g5', _⟩ := cellsP hg5
            have HG5 := heap_alloc_new w5 (.cells #[.int .i64 p.op, .int .i64 p.ctor, .int .i64 p.n, .int .i64 p.m, .int .i64 p.var, .slice A6 vs.length c6] 50)
            have hba : Below w5.heap.size w5 (w5.alloc (.cells #[.int .i64 p.op, .int .i64 p.ctor, .int .i64 p.n, .int .i64 p.m, .int .i64 p.var, .slice A6 vs.length c6] 50)) := (Below.refl _ _).alloc (Nat.le_refl _) _
            have hra := (hba.block _ (heap_lt hr5)).trans hr5
            obtain ⟨k0, k1', k2', k3, k4, k5, k6, k7, k8, k9, k10, k11⟩ := cellsP hra
            have hl5 : w.heap.size + 1 ≠ w5.heap.size := by have := heap_lt hr5; omega
            have hwn : IntKind.i64.wrap ((nx : Int) + 1) = (nx : Int) + 1 := IntWalk.i64_in _ (by omega)
            go_wp2_with fail
            generalize (w5.alloc (.cells #[.int .i64 p.op, .int .i64 p.ctor, .int .i64 p.n, .int .i64 p.m, .int .i64 p.var, .slice A6 vs.length c6] 50)) = wa at HG5 hba hra ⊢
            have hza := hba.size
            have hll := heap_lt HG5
            have hf6 := Fr.six wa (w.heap.size + 1) (.int .i64 6) (.int .i64 0) (.int .i64 0) (.int .i64 0) (.int .i64 nx) (.slice (some ⟨w5.heap.size, 0, none⟩) 1 1)
            have hp2 := ZP.put hra 6 0 0 0 nx (.slice (some ⟨w5.heap.size, 0, none⟩) 1 1)
            have HG6 := hf6.block HG5 (by omega)
            have hszb := hf6.size
            generalize ((((((wa.setCell ⟨w.heap.size + 1, 0, none⟩ (.int .i64 6)).setCell ⟨w.heap.size + 1, 1, none⟩ (.int .i64 0)).setCell ⟨w.heap.size + 1, 2, none⟩ (.int .i64 0)).setCell ⟨w.heap.size + 1, 3, none⟩ (.int .i64 0)).setCell ⟨w.heap.size + 1, 4, none⟩ (.int .i64 nx)).setCell ⟨w.heap.size + 1, 5, none⟩ (.slice (some ⟨w5.heap.size, 0, none⟩) 1 1)) = wb at hf6 hp2 HG6 hszb ⊢
            have hO6 : OPs (2 * d + 1) wb (fun b => ((fun b => P b ∨ wl.heap.size ≤ b) b ∨ wl.heap.size ≤ b) ∧ b < w5.heap.size) A6 vs := (HO5.out.fr _ (Fr.below (P := fun _ => False) hba) (fun _ _ h => h)).fr _ hf6 (fun b hq e => by have := HOB6.out b hq.1; omega)
            have hO7 : OPs (2 * d + 2) wb (fun b => (P b ∨ w.heap.size ≤ b) ∧ b < wb.heap.size) (some ⟨w5.heap.size, 0, none⟩) [Pt.mk p.op p.ctor p.n p.m p.var vs] := OPs.one (p := Pt.mk p.op p.ctor p.n p.m p.var vs) HG6 hO6 ⟨.inr (by omega), by omega⟩ (fun b hq => ⟨⟨HOBP.out b hq.1, by have := hq.2; omega⟩, by have := hq.2; omega⟩)
            have HFIN : Hid (PnQ d P p B rb N w (.returned (.tuple #[.agg #[.int .i64 6, .int .i64 0, .int .i64 0, .int .i64 0, .int .i64 nx, .slice (some ⟨w5.heap.size, 0, none⟩) 1 1], .int .i64 ((nx : Int) + 1)])) wb) := by
              have hsz := HSZv.out
              have hwk := wP_kids p
              have hws := wPs_all HVS.out
              refine ⟨.mk 6 0 0 0 nx [.mk p.op p.ctor p.n p.m p.var vs], some ⟨w5.heap.size, 0, none⟩, 1, nx + 1, rfl, by omega, by rw [wP, wPs, wP, wPs]; omega, hO7, ((HR5.out.below hba).fr hf6 (fun b hb => by omega)).more (by omega), (HFW5.out.trans (Fr.below hba)).andThen hf6 (fun x hx e => by omega)⟩
            obtain ⟨r0, r1, r2, r3, r4, r5, _⟩ := cellsP hp2
            clear hO6 hO7 HG5 HG6 hba hp2 hra hf6
            go_wp2_with fail
            exact bodyPost_ret (v := .tuple #[.agg #[.int .i64 6, .int .i64 0, .int .i64 0, .int .i64 0, .int .i64 nx, .slice (some ⟨w5.heap.size, 0, none⟩) 1 1], .int .i64 ((nx : Int) + 1)]) (by simp [results, Try.results109, go_sem, r0, r1, r2, r3, r4, r5]) rfl HFIN.out
          · have q5 : ((k5 : Int) == 0) = false := ieq_f (by omega)
            obtain ⟨k0, k1', k2', k3, k4, k5, k6, k7, k8, k9, k10, k11⟩ := cellsP hr5
            obtain ⟨g0', g1', g2', g3', g4', g5', _⟩ := cellsP hg5
            have HFIN : Hid (PnQ d P p B rb N w (.returned (.tuple #[.agg #[.int .i64 p.op, .int .i64 p.ctor, .int .i64 p.n, .int .i64 p.m, .int .i64 p.var, .slice A6 vs.length c6], .int .i64 nx])) ((((((w5.setCell ⟨w.heap.size + 1, 0, none⟩ (.int .i64 p.op)).setCell ⟨w.heap.size + 1, 1, none⟩ (.int .i64 p.ctor)).setCell ⟨w.heap.size + 1, 2, none⟩ (.int .i64 p.n)).setCell ⟨w.heap.size + 1, 3, none⟩ (.int .i64 p.m)).setCell ⟨w.heap.size + 1, 4, none⟩ (.int .i64 p.var)).setCell ⟨w.heap.size + 1, 5, none⟩ (.slice A6 vs.length c6))) := by
              have hsz := HSZv.out
              refine ⟨.mk p.op p.ctor p.n p.m p.var vs, A6, c6, nx, rfl, by omega, by rw [wP]; have hwk := wP_kids p; have hws := wPs_all HVS.out; omega, (((HO5.out).fr _ (Fr.six _ _ _ _ _ _ _ _) (fun b hq e => by have := HOB6.out b hq.1; omega)).more (by omega)).wide _ (fun b hq => ⟨HOBP.out b hq.1, by have h2 := hq.2; simpa [World.setCell] using h2⟩), ((HR5.out).fr (Fr.six _ _ _ _ _ _ _ _) (fun b hb => by omega)).more (by have hwk := wP_kids p; omega), (HFW5.out).put6 (by omega) _ _ _ _ _ _⟩
            go_wp2_with fail
            exact bodyPost_ret (v := .tuple #[.agg #[.int .i64 p.op, .int .i64 p.ctor, .int .i64 p.n, .int .i64 p.m, .int .i64 p.var, .slice A6 vs.length c6], .int .i64 nx]) (by simp [results, Try.results109, go_sem, k0, k1', k2', k3, k4, k5]) rfl HFIN.out
        · have hn5I : (5 : Int) < (nx : Int) := by omega
          clear b0 b1 b2 b3 b4
          obtain ⟨k0, k1', k2', k3, k4, k5, k6, k7, k8, k9, k10, k11⟩ := cellsP hr6
          obtain ⟨g0', g1', g2', g3', g4', g5', _⟩ := cellsP hg6
          have HFIN : Hid (PnQ d P p B rb N w (.returned (.tuple #[.agg #[.int .i64 p.op, .int .i64 p.ctor, .int .i64 p.n, .int .i64 p.m, .int .i64 p.var, .slice A6 vs.length c6], .int .i64 nx])) ((((((wr.setCell ⟨w.heap.size + 1, 0, none⟩ (.int .i64 p.op)).setCell ⟨w.heap.size + 1, 1, none⟩ (.int .i64 p.ctor)).setCell ⟨w.heap.size + 1, 2, none⟩ (.int .i64 p.n)).setCell ⟨w.heap.size + 1, 3, none⟩ (.int .i64 p.m)).setCell ⟨w.heap.size + 1, 4, none⟩ (.int .i64 p.var)).setCell ⟨w.heap.size + 1, 5, none⟩ (.slice A6 vs.length c6))) := by
            have hsz := HSZv.out
            refine ⟨.mk p.op p.ctor p.n p.m p.var vs, A6, c6, nx, rfl, by omega, by rw [wP]; have hwk := wP_kids p; have hws := wPs_all HVS.out; omega, (((HO6.out).fr _ (Fr.six _ _ _ _ _ _ _ _) (fun b hq e => by have := HOB6.out b hq.1; omega)).more (by omega)).wide _ (fun b hq => ⟨HOBP.out b hq.1, by have h2 := hq.2; simpa [World.setCell] using h2⟩), ((HRr.out).fr (Fr.six _ _ _ _ _ _ _ _) (fun b hb => by omega)).more (by have hwk := wP_kids p; omega), (HFWr.out).put6 (by omega) _ _ _ _ _ _⟩
          go_wp2_with fail
          exact bodyPost_ret (v := .tuple #[.agg #[.int .i64 p.op, .int .i64 p.ctor, .int .i64 p.n, .int .i64 p.m, .int .i64 p.var, .slice A6 vs.length c6], .int .i64 nx]) (by simp [results, Try.results109, go_sem, k0, k1', k2', k3, k4, k5]) rfl HFIN.out
theorem pn_any : ∀ d, PnS d
  | 0 => pn_of 0 (fun m h => by omega)
  | d + 1 => pn_of (d + 1) (fun m h => (Nat.succ.inj h) ▸ pn_any d)
end Go.Proofs.Yteoopmogklpnoaa
