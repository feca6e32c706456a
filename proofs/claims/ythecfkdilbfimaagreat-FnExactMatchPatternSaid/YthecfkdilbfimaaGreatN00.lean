/-
  The functions that count how much values hold. No statement is proved here.
-/
import Derived.Test.YthecfkdilbfimaaGreatG04
import Derived.Test.YthecfkdilbfimaaGreatG02
import Derived.Test.YthecfkdilbfimaaGreatH05
import Derived.Test.YthecfkdilbfimaaGreatK07
import Derived.Test.YthecfkdilbfimaaGreatH03
import Derived.Test.YthecfkdilbfimaaGreatH04
import Derived.Test.YthecfkdilbfimaaGreatG15
import Derived.OwnWalk
import Derived.Deep.RegionHeld3
namespace Go.Proofs.YthecfkdilbfimaaGreat
open Go.RowKit
set_option maxRecDepth 100000
set_option linter.unusedVariables false

def SzS (d : Nat) : Prop := ∀ (A : Option Addr) (l : List Vl) (cap : Nat) (q : Int) (w : World), RVs d w w.heap.size A l → 0 ≤ q → q ≤ 1048576 →
  Calls Tryz.prog 82 #[.slice A l.length cap, .int .i64 q] w fun e w' => e = .returned (.int .i64 (left q (wVs l))) ∧ Below w.heap.size w w'

theorem szV_of {d : Nat} (ih : SzS d) (A : Option Addr) (l : List Vl) (cap : Nat) (c n q : Int) (w : World) (hr : RVs d w w.heap.size A l) (h0 : 0 ≤ q) (h1 : q ≤ 1048576) :
    Calls Tryz.prog 32 #[.agg #[.int .i64 c, .int .i64 n, .slice A l.length cap], .int .i64 q] w fun e w' => e = .returned (.int .i64 (left q (wVs l))) ∧ Below w.heap.size w w' := by
  have Hr := Lib.hid hr
  have IH := Lib.hid ih
  clear hr ih
  by_cases hc2 : (wVs l : Int) ≤ q
  · have H2 := Lib.hid (left_ok hc2)
    go_enter Tryz.func32, Tryz.ntmps32
    go_wp2_with (go_at_call 82; refine (IH.out _ _ _ _ _ (by exact Hr.out.keep (fun p hp => World.cell?_alloc_lt _ _ _ hp) (by simp)) h0 h1).mono ?_; rw [H2.out]; rintro e w' ⟨rfl, hb⟩)
    go_ret
    exact ⟨ret_i64 (by rw [H2.out]), ((Below.refl _ _).alloc (Nat.le_refl _) _).trans (hb.mono (by simp))⟩
  · have H2 := Lib.hid (left_no hc2)
    go_enter Tryz.func32, Tryz.ntmps32
    go_wp2_with (go_at_call 82; refine (IH.out _ _ _ _ _ (by exact Hr.out.keep (fun p hp => World.cell?_alloc_lt _ _ _ hp) (by simp)) h0 h1).mono ?_; rw [H2.out]; rintro e w' ⟨rfl, hb⟩)
    go_ret
    exact ⟨ret_i64 (by rw [H2.out]), ((Below.refl _ _).alloc (Nat.le_refl _) _).trans (hb.mono (by simp))⟩

set_option maxHeartbeats 400000 in
theorem szS_of (d : Nat) (ih : ∀ d', d = d' + 1 → SzS d') : SzS d := by
  intro A l cap q0 w hr h0 h1
  have hn := hr.1
  unfold maxLen at hn
  have Hr := Lib.hid hr
  have IH := Lib.hid ih
  have HSum := Lib.hid (wVs_sum l)
  clear hr ih
  by_cases hc : (l.length : Int) ≤ q0
  · go_enter Tryz.func82, Tryz.ntmps82
    go_wp2_with fail
    go_loopw [1, 5] (fun t i wr => ∃ k : Nat, k ≤ l.length ∧ i = .int .i64 k ∧ ∃ q : Int, 0 ≤ q ∧ q ≤ 1048576 ∧ t = .int .i64 q ∧ Hid (q = q0 - (l.length + ((l.take k).map wV).sum : Nat)) ∧ Below w.heap.size w wr) (fun _ i _ => l.length - (intOf i).toNat)
    case atStart => exact ⟨0, by omega, rfl, _, by omega, by omega, rfl, by unfold Hid; simp, Below.refl _ _⟩
    case round =>
      obtain ⟨k, hk, rfl, q, hq0, hq1, rfl, HQ, hb⟩ := hrel
      by_cases hlt : k < l.length
      · obtain ⟨b, off, rfl, hbB, hv⟩ := (Hr.out.below hb (Nat.le_refl _)).2 k hlt
        obtain ⟨d', hd, A', cp, c0, c1, c2, hm⟩ := hv.parts
        have HS := Lib.hid (sum_take_succ wV l k hlt)
        have HL := Lib.hid (sum_take_le wV l (k + 1))
        have HW := Lib.hid (wV_kids l[k])
        have Hm := Lib.hid (hm.keep (fun _ _ => rfl) hb.size)
        have IHd := Lib.hid (IH.out d' hd)
        clear hm hv hd
        by_cases hc2 : (wVs l[k].kids : Int) ≤ q
        · have H2 := Lib.hid (left_ok hc2)
          go_wp2_with (go_at_call 32; refine (szV_of IHd.out _ _ _ _ _ _ _ Hm.out (by omega) (by omega)).mono ?_; rw [H2.out]; rintro e w' ⟨rfl, hb'⟩)
          have hb2 := hb.trans (hb'.mono hb.size)
          go_roundw
          case rel => exact ⟨k + 1, by omega, by go_num, _, by omega, by omega, rfl, by unfold Hid; rw [HS.out, HW.out, HQ.out]; omega, hb2⟩
          case measure => simp [intOf]; omega
        · have H2 := Lib.hid (left_no hc2)
          have H := Lib.hid (left_no (l := q0) (n := wVs l) (by rw [HSum.out]; rw [HQ.out] at hc2; rw [HS.out, HW.out] at HL; have := HL.out; omega))
          go_wp2_with (go_at_call 32; refine (szV_of IHd.out _ _ _ _ _ _ _ Hm.out (by omega) (by omega)).mono ?_; rw [H2.out]; rintro e w' ⟨rfl, hb'⟩)
          have hb2 := hb.trans (hb'.mono hb.size)
          go_ret
          exact ⟨ret_i64 (by rw [H.out]), hb2⟩
      · go_wp2_with fail
        go_ret
        refine ⟨ret_i64 ?_, hb⟩
        have h2 := HQ.out
        rw [List.take_of_length_le (by omega), ← HSum.out] at h2
        rw [left_ok (by omega)]
        exact h2
  · have H := Lib.hid (left_no (l := q0) (n := wVs l) (by rw [HSum.out]; omega))
    go_enter Tryz.func82, Tryz.ntmps82
    go_wp2_with fail
    go_ret
    exact ⟨ret_i64 (by rw [H.out]), Below.refl _ _⟩
theorem szS_any : ∀ d, SzS d
  | 0 => szS_of 0 (fun _ h => by omega)
  | d + 1 => szS_of (d + 1) (fun d' h => (Nat.succ.inj h) ▸ szS_any d)
theorem szV_any (d : Nat) (A : Option Addr) (l : List Vl) (cap : Nat) (c n q : Int) (w : World) (hr : RVs d w w.heap.size A l) (h0 : 0 ≤ q) (h1 : q ≤ 1048576) :
    Calls Tryz.prog 32 #[.agg #[.int .i64 c, .int .i64 n, .slice A l.length cap], .int .i64 q] w fun e w' => e = .returned (.int .i64 (left q (wVs l))) ∧ Below w.heap.size w w' := szV_of (szS_any d) A l cap c n q w hr h0 h1
end Go.Proofs.YthecfkdilbfimaaGreat
namespace Go.Proofs.YthecfkdilbfimaaGreat
open Go.RowKit Go.Sort
set_option maxRecDepth 100000
set_option linter.unusedVariables false


structure Bn where
  var : Int
  val : Vl
instance : Inhabited Bn := ⟨⟨0, default⟩⟩
def wB (b : Bn) : Nat := wVs b.val.kids
def wBs (l : List Bn) : Nat := l.length + (l.map wB).sum
def RBn (d : Nat) (w : World) (B b o : Nat) (x : Bn) : Prop := ∃ A' cap, w.cell? ⟨b, o, none⟩ = some (.int .i64 x.var) ∧ w.cell? ⟨b, o + 1, none⟩ = some (.int .i64 x.val.ctor) ∧ w.cell? ⟨b, o + 2, none⟩ = some (.int .i64 x.val.n) ∧ w.cell? ⟨b, o + 3, none⟩ = some (.slice A' x.val.kids.length cap) ∧ RVs d w B A' x.val.kids
def RBs (d : Nat) (w : World) (B : Nat) (A : Option Addr) (l : List Bn) : Prop := l.length ≤ maxLen ∧ ∀ k (h : k < l.length), ∃ b off, A = some ⟨b, off, none⟩ ∧ b < B ∧ RBn d w B b (off + k * 4) l[k]
section
variable {w w' : World} {B B' d : Nat} {A : Option Addr} {l : List Bn}
theorem RBs.keep (h : RBs d w B A l) (hk : ∀ p : Addr, p.block < B → w'.cell? p = w.cell? p) (hB : B ≤ B') : RBs d w' B' A l :=
  ⟨h.1, fun k hk' => by
    obtain ⟨b, off, e, hb, A', cap, h0, h1, h2, h3, hv⟩ := h.2 k hk'
    exact ⟨b, off, e, by omega, A', cap, (hk _ hb).trans h0, (hk _ hb).trans h1, (hk _ hb).trans h2, (hk _ hb).trans h3, hv.keep hk hB⟩⟩
theorem RBs.below {B0 : Nat} (h : RBs d w B A l) (hb : Below B0 w w') (hB : B ≤ B0) : RBs d w' B A l := h.keep (fun _ hp => hb.cell (Nat.lt_of_lt_of_le hp hB)) (Nat.le_refl _)
theorem RBs.at_ (h : RBs d w w.heap.size A l) (hb : Below w.heap.size w w') : RBs d w' w'.heap.size A l := h.keep (fun _ hp => hb.cell hp) hb.size
theorem RBs.nil : RBs d w B A [] := ⟨Nat.zero_le _, fun k h => absurd h (Nat.not_lt_zero _)⟩
end

end Go.Proofs.YthecfkdilbfimaaGreat
namespace Go.Proofs.YthecfkdilbfimaaGreat
open Go.RowKit Go.Sort Go.Deep
set_option maxRecDepth 100000
set_option linter.unusedVariables false

def catO (f : Nat → Option (List Bn)) : Nat → Option (List Bn)
  | 0 => some []
  | k + 1 => match catO f k with
    | none => none
    | some l => (f k).map (l ++ ·)
theorem catO_some {f : Nat → Option (List Bn)} {k : Nat} {l m : List Bn} (h : catO f k = some l) (h' : f k = some m) : catO f (k + 1) = some (l ++ m) := by
  show (match catO f k with | none => none | some l => (f k).map (l ++ ·)) = _
  rw [h, h']; rfl
theorem catO_up {f : Nat → Option (List Bn)} {k : Nat} (e : Nat) (h : catO f k = none) : catO f (k + e) = none := by
  induction e with
  | zero => exact h
  | succ e ih =>
    show (match catO f (k + e) with | none => none | some l => (f (k + e)).map (l ++ ·)) = _
    rw [ih]
theorem catO_none {f : Nat → Option (List Bn)} {k n : Nat} (hk : k < n) (h : f k = none) : catO f n = none := by
  have h1 : catO f (k + 1) = none := by
    show (match catO f k with | none => none | some l => (f k).map (l ++ ·)) = _
    rw [h]; cases catO f k <;> rfl
  have := catO_up (n - (k + 1)) h1
  rwa [show k + 1 + (n - (k + 1)) = n by omega] at this
def mtI : Nat → Pt → Vl → Option (List Bn)
  | 0, _, _ => none
  | d + 1, p, v =>
    if p.op = 2 then some [⟨p.var, v⟩]
    else if p.op = 3 then (if p.n ≤ v.n ∧ v.n ≤ p.m then some [] else none)
    else if p.op = 4 then (if p.ctor = v.ctor then catO (fun i => mtI d (p.kids.getD i default) (v.kids.getD i default)) p.kids.length else none)
    else if p.op = 5 then (match mtI d (p.kids.getD 0 default) v with | some l => some l | none => mtI d (p.kids.getD 1 default) v)
    else if p.op = 6 then (mtI d (p.kids.getD 0 default) v).map (· ++ [⟨p.var, v⟩])
    else some []
theorem wP_kid1 (v : Pt) (k : Nat) (h : k < v.kids.length) : 1 + wP v.kids[k] ≤ wP v := by
  have h1 := upKP_le v (k + 1) h
  rw [upKP_succ _ _ h] at h1
  have h2 : 1 ≤ upKP v.kids k := by unfold upKP; omega
  omega
def kidB (d : Nat) (ps : List Pt) (vs : List Vl) (i : Nat) : Option (List Bn) := mtI d (ps.getD i default) (vs.getD i default)
section
variable {d : Nat} {p : Pt} {v : Vl} {ps : List Pt} {vs : List Vl}
theorem getD_vl {i : Nat} (h : i < vs.length) : vs.getD i default = vs[i] := by
  rw [List.getD_eq_getElem?_getD, List.getElem?_eq_getElem h]; rfl
theorem kidB_at {i : Nat} (h : i < ps.length) (h' : i < vs.length) : kidB d ps vs i = mtI d ps[i] vs[i] := by unfold kidB; rw [getD_kid h, getD_vl h']
theorem mtI_any (h : p.op = 1) : mtI (d + 1) p v = some [] := by rw [mtI, if_neg (by omega), if_neg (by omega), if_neg (by omega), if_neg (by omega), if_neg (by omega)]
theorem mtI_var (h : p.op = 2) : mtI (d + 1) p v = some [⟨p.var, v⟩] := by rw [mtI, if_pos h]
theorem mtI_in (h : p.op = 3) (h1 : p.n ≤ v.n) (h2 : v.n ≤ p.m) : mtI (d + 1) p v = some [] := by rw [mtI, if_neg (by omega), if_pos h, if_pos ⟨h1, h2⟩]
theorem mtI_out (h : p.op = 3) (h1 : ¬ (p.n ≤ v.n ∧ v.n ≤ p.m)) : mtI (d + 1) p v = none := by rw [mtI, if_neg (by omega), if_pos h, if_neg h1]
theorem mtI_ctor (h : p.op = 4) (h1 : p.ctor = v.ctor) : mtI (d + 1) p v = catO (kidB d p.kids v.kids) p.kids.length := by
  rw [mtI, if_neg (by omega), if_neg (by omega), if_pos h, if_pos h1]; rfl
theorem mtI_other (h : p.op = 4) (h1 : ¬ p.ctor = v.ctor) : mtI (d + 1) p v = none := by rw [mtI, if_neg (by omega), if_neg (by omega), if_pos h, if_neg h1]
theorem mtI_or0 {l : List Bn} (h : p.op = 5) (h0 : 0 < p.kids.length) (h1 : mtI d p.kids[0] v = some l) : mtI (d + 1) p v = some l := by
  rw [mtI, if_neg (by omega), if_neg (by omega), if_neg (by omega), if_pos h, getD_kid h0, h1]
theorem mtI_or1 (h : p.op = 5) (h0 : 0 < p.kids.length) (h2 : 1 < p.kids.length) (h1 : mtI d p.kids[0] v = none) : mtI (d + 1) p v = mtI d p.kids[1] v := by
  rw [mtI, if_neg (by omega), if_neg (by omega), if_neg (by omega), if_pos h, getD_kid h0, h1, getD_kid h2]
theorem mtI_as (h : p.op = 6) (h0 : 0 < p.kids.length) : mtI (d + 1) p v = (mtI d p.kids[0] v).map (· ++ [⟨p.var, v⟩]) := by
  rw [mtI, if_neg (by omega), if_neg (by omega), if_neg (by omega), if_neg (by omega), if_pos h, getD_kid h0]
end
theorem fit_kids {l : List Da} {n : Nat} {t : Ty} {p : Pt} {v : Vl} (hm : p.ctor ∈ ctR l t) (hc : p.ctor = v.ctor) (hf : fitV l n t v = true) : ∃ n', n = n' + 1 ∧ v.kids.length = (agR l t p.ctor).length ∧ ∀ i (h : i < (agR l t p.ctor).length) (h' : i < v.kids.length), fitV l n' (agR l t p.ctor)[i] v.kids[i] = true := by
  cases n with
  | zero => rw [fit_zero] at hf; cases hf
  | succ n =>
    obtain ⟨_, d0, m0, hd0, he0, _, _⟩ := mem_ctR hm
    have h1 : ¬ t.data = -1 := by omega
    have hvm : v.ctor ∈ ctR l t := hc ▸ hm
    have hn : v.n = 0 := by
      by_cases e : v.n = 0
      · exact e
      · rw [fit_n h1 e] at hf; cases hf
    have hl : v.kids.length = (agR l t v.ctor).length := by
      by_cases e : v.kids.length = (agR l t v.ctor).length
      · exact e
      · rw [fit_len h1 e] at hf; cases hf
    rw [fit_go h1 hn hvm hl] at hf
    rw [hc]
    exact ⟨n, rfl, hl, fun i hi hi' => by rw [← kidV_at hi hi']; exact upto_get hf hi⟩
end Go.Proofs.YthecfkdilbfimaaGreat
namespace Go.Proofs.YthecfkdilbfimaaGreat
open Go.RowKit
set_option maxRecDepth 100000
set_option linter.unusedVariables false

def OBs (d : Nat) (w : World) (P : Nat → Prop) (A : Option Addr) (l : List Bn) : Prop := l.length ≤ maxLen ∧ (0 < l.length → ∃ (g : Nat) (cs : Array Value) (Q : Nat → Nat → Prop), A = some ⟨g, 0, none⟩ ∧ P g ∧ w.heap[g]? = some (.cells cs 128 (0, 0)) ∧ (∀ k b, k < l.length → Q k b → P b ∧ b ≠ g ∧ ∀ j, j < l.length → j ≠ k → ¬ Q j b) ∧ ∀ k (h : k < l.length), ∃ A' cap, cs[k * 4]? = some (.int .i64 l[k].var) ∧ cs[k * 4 + 1]? = some (.int .i64 l[k].val.ctor) ∧ cs[k * 4 + 2]? = some (.int .i64 l[k].val.n) ∧ cs[k * 4 + 3]? = some (.slice A' l[k].val.kids.length cap) ∧ OVs d w (Q k) A' l[k].val.kids)
theorem OBs.nil (d : Nat) (w : World) (P : Nat → Prop) (A : Option Addr) : OBs d w P A [] := ⟨Nat.zero_le _, fun h => absurd h (Nat.not_lt_zero _)⟩
theorem OBs.wide {d : Nat} {w : World} {P P' : Nat → Prop} {A : Option Addr} {l : List Bn} (h : OBs d w P A l) (hp : ∀ b, P b → P' b) : OBs d w P' A l := ⟨h.1, fun hl => by
  obtain ⟨g, cs, Q, e, hg, hh, hq, hc⟩ := h.2 hl
  exact ⟨g, cs, Q, e, hp g hg, hh, fun k b hk hb => ⟨hp b (hq k b hk hb).1, (hq k b hk hb).2⟩, hc⟩⟩
theorem OBs.fr {d : Nat} {w w' : World} {P P' : Nat → Prop} {A : Option Addr} {l : List Bn} (h : OBs d w P A l) (hf : Fr P' w w') (hp : ∀ b, P b → ¬ P' b) : OBs d w' P A l := ⟨h.1, fun hl => by
  obtain ⟨g, cs, Q, e, hg, hh, hq, hc⟩ := h.2 hl
  refine ⟨g, cs, Q, e, hg, hf.block hh (hp g hg), hq, fun k hk => ?_⟩
  obtain ⟨A', cap, e0, e1, e2, e8, e9⟩ := hc k hk
  exact ⟨A', cap, e0, e1, e2, e8, e9.fr _ hf (fun b hb => hp b (hq k b hk hb).1)⟩⟩
theorem OBs.later_ {d : Nat} {w w' : World} {P : Nat → Prop} {A : Option Addr} {l : List Bn} (h : OBs d w P A l) (hb : Below w.heap.size w w') : OBs d w' P A l := h.fr (Fr.below (P := fun _ => False) hb) (fun _ _ h => h)
theorem OBs.more {d d' : Nat} {w : World} {P : Nat → Prop} {A : Option Addr} {l : List Bn} (h : OBs d w P A l) (hd : d ≤ d') : OBs d' w P A l := ⟨h.1, fun hl => by
  obtain ⟨g, cs, Q, e, hg, hh, hq, hc⟩ := h.2 hl
  refine ⟨g, cs, Q, e, hg, hh, hq, fun k hk => ?_⟩
  obtain ⟨A', cap, e0, e1, e2, e8, e9⟩ := hc k hk
  exact ⟨A', cap, e0, e1, e2, e8, e9.more hd⟩⟩
theorem OBs.reads {d : Nat} {w : World} {P : Nat → Prop} {A : Option Addr} {l : List Bn} (h : OBs (d + 1) w P A l) : RBs d w w.heap.size A l := ⟨h.1, fun k hk => by
  obtain ⟨g, cs, Q, e, hg, hh, hq, hc⟩ := h.2 (by omega)
  obtain ⟨A', cap, e0, e1, e2, e8, e9⟩ := hc k hk
  exact ⟨g, 0, e, heap_lt hh, A', cap, by rw [cell_of_blk hh, Nat.zero_add]; exact e0, by rw [cell_of_blk hh, Nat.zero_add]; exact e1, by rw [cell_of_blk hh, Nat.zero_add]; exact e2, by rw [cell_of_blk hh, Nat.zero_add]; exact e8, OVs.reads d e9⟩⟩

def RowB (d : Nat) (w : World) (lo : Nat) (og : Option Nat) (Q : Nat → Nat → Prop) (l : List Bn) (xs : List Value) (k : Nat) : Prop := ∀ j (h : j < l.length), j < k → (∀ b, Q j b → lo ≤ b ∧ b < w.heap.size ∧ some b ≠ og ∧ ∀ i, i < k → i ≠ j → ¬ Q i b) ∧ ∃ A' cap, xs[j * 4]? = some (.int .i64 l[j].var) ∧ xs[j * 4 + 1]? = some (.int .i64 l[j].val.ctor) ∧ xs[j * 4 + 2]? = some (.int .i64 l[j].val.n) ∧ xs[j * 4 + 3]? = some (.slice A' l[j].val.kids.length cap) ∧ OVs d w (Q j) A' l[j].val.kids
theorem RowB.zero (d : Nat) (w : World) (lo : Nat) (og : Option Nat) (Q : Nat → Nat → Prop) (l : List Bn) (xs : List Value) : RowB d w lo og Q l xs 0 := fun j _ h => absurd h (by omega)
theorem RowB.fr {d : Nat} {w w' : World} {lo : Nat} {og : Option Nat} {Q : Nat → Nat → Prop} {l : List Bn} {xs : List Value} {k : Nat} {P' : Nat → Prop} (h : RowB d w lo og Q l xs k) (hf : Fr P' w w') (hp : ∀ b, lo ≤ b → some b ≠ og → b < w.heap.size → ¬ P' b) : RowB d w' lo og Q l xs k := fun j hj hjk => by
  obtain ⟨h1, A', cap, e0, e1, e2, e8, e9⟩ := h j hj hjk
  refine ⟨fun b hb => ?_, A', cap, e0, e1, e2, e8, e9.fr d hf (fun b hb => ?_)⟩
  · obtain ⟨a1, a2, a3, a4⟩ := h1 b hb
    exact ⟨a1, Nat.lt_of_lt_of_le a2 hf.size, a3, a4⟩
  · obtain ⟨a1, a2, a3, a4⟩ := h1 b hb
    exact hp b a1 a3 a2
theorem RowB.og {d : Nat} {w : World} {lo : Nat} {og og' : Option Nat} {Q : Nat → Nat → Prop} {l : List Bn} {xs : List Value} {k : Nat} (h : RowB d w lo og Q l xs k) (hp : ∀ b, lo ≤ b → some b ≠ og → b < w.heap.size → some b ≠ og') : RowB d w lo og' Q l xs k := fun j hj hjk => by
  obtain ⟨h1, h2⟩ := h j hj hjk
  exact ⟨fun b hb => by obtain ⟨a1, a2, a3, a4⟩ := h1 b hb; exact ⟨a1, a2, hp b a1 a3 a2, a4⟩, h2⟩
theorem RowB.more {d : Nat} {w w' : World} {lo : Nat} {og : Option Nat} {Q : Nat → Nat → Prop} {l : List Bn} {xs xs' : List Value} {k cap : Nat} {A' : Option Addr} (h : RowB d w lo og Q l xs k) (hb : Below w.heap.size w w') (hk : k < l.length) (hlo : lo ≤ w.heap.size) (hog : ∀ g, og = some g → g < w.heap.size)
    (ho : OVs d w' (Nw w w') A' l[k].val.kids) (hx : ∀ j c, j < k → c < 4 → xs'[j * 4 + c]? = xs[j * 4 + c]?) (e0 : xs'[k * 4]? = some (.int .i64 l[k].var)) (e1 : xs'[k * 4 + 1]? = some (.int .i64 l[k].val.ctor)) (e2 : xs'[k * 4 + 2]? = some (.int .i64 l[k].val.n)) (e8 : xs'[k * 4 + 3]? = some (.slice A' l[k].val.kids.length cap)) :
    RowB d w' lo og (fun i => if i = k then Nw w w' else Q i) l xs' (k + 1) := by
  have h' := h.fr (P' := fun _ => False) (Fr.below hb) (fun _ _ _ _ h => h)
  intro j hj hjk
  by_cases e : j = k
  · subst e
    refine ⟨fun b hq => ?_, A', cap, e0, e1, e2, e8, ?_⟩
    · replace hq : (if j = j then Nw w w' else Q j) b := hq
      rw [if_pos rfl] at hq
      refine ⟨Nat.le_trans hlo hq.1, hq.2, fun e => ?_, fun i hi hij hqi => ?_⟩
      · have := hog b e.symm; have := hq.1; omega
      · replace hqi : (if i = j then Nw w w' else Q i) b := hqi
        rw [if_neg hij] at hqi
        have := ((h i (by omega) (by omega)).1 b hqi).2.1
        have := hq.1
        omega
    · show OVs d w' (if j = j then Nw w w' else Q j) A' l[j].val.kids
      rw [if_pos rfl]; exact ho
  · obtain ⟨h1, A2, c2, f0, f1, f2, f8, f9⟩ := h' j hj (by omega)
    refine ⟨fun b hq => ?_, A2, c2, (hx j 0 (by omega) (by omega)).trans f0, (hx j 1 (by omega) (by omega)).trans f1, (hx j 2 (by omega) (by omega)).trans f2, (hx j 3 (by omega) (by omega)).trans f8, ?_⟩
    · replace hq : (if j = k then Nw w w' else Q j) b := hq
      rw [if_neg e] at hq
      obtain ⟨a1, a2, a3, a4⟩ := h1 b hq
      refine ⟨a1, a2, a3, fun i hi hij hqi => ?_⟩
      replace hqi : (if i = k then Nw w w' else Q i) b := hqi
      by_cases e2 : i = k
      · rw [if_pos e2] at hqi
        have := ((h j hj (by omega)).1 b hq).2.1
        have := hqi.1
        omega
      · rw [if_neg e2] at hqi
        exact a4 i (by omega) hij hqi
    · show OVs d w' (if j = k then Nw w w' else Q j) A2 l[j].val.kids
      rw [if_neg e]; exact f9
theorem OBs.of_row {d : Nat} {w : World} {lo : Nat} {v : Value} {l : List Bn} {xs : List Value} {Q : Nat → Nat → Prop} (h : w.ownsRow lo 128 4 v l.length xs) (hx : RowB d w lo v.ownBlock Q l xs l.length) (hn : l.length ≤ 1048576) : ∃ A cap, v = .slice A l.length cap ∧ OBs d w (fun b => lo ≤ b ∧ b < w.heap.size) A l := by
  rcases h.2 with ⟨h', h0⟩ | ⟨g, cap, cur, h', hb, hg, hnc, hcm, hcs, htake⟩
  · refine ⟨none, 0, by rw [h0]; exact h', by unfold maxLen; omega, fun hl => absurd hl (by omega)⟩
  · subst h'
    refine ⟨_, cap, rfl, by unfold maxLen; omega, fun _ => ⟨g, cur, Q, rfl, ⟨hb, heap_lt hg⟩, hg, fun k b hk hq => ?_, fun k hk => ?_⟩⟩
    · obtain ⟨a1, a2, a3, a4⟩ := (hx k hk hk).1 b hq
      exact ⟨⟨a1, a2⟩, fun e => a3 (by rw [e]; rfl), a4⟩
    · obtain ⟨_, A', c', e0, e1, e2, e8, e9⟩ := hx k hk hk
      have hat : ∀ i, i < l.length * 4 → cur[i]? = xs[i]? := fun i hi => by
        rw [← htake, List.getElem?_take_of_lt hi, Array.getElem?_toList]
      exact ⟨A', c', (hat _ (by omega)).trans e0, (hat _ (by omega)).trans e1, (hat _ (by omega)).trans e2, (hat _ (by omega)).trans e8, e9⟩
end Go.Proofs.YthecfkdilbfimaaGreat
namespace Go.Proofs.YthecfkdilbfimaaGreat
open Go.RowKit
set_option maxRecDepth 100000
set_option linter.unusedVariables false

theorem infoBn : (Tryz.prog.info? 128).map (fun i => (i.zero, i.size, i.bytes)) = some (some (.agg #[.int .i64 0, .int .i64 0, .int .i64 0, .slice none 0 0]), 4, 48) := by kernel_rfl
def RBr (d : Nat) (w : World) (B : Nat) (L : List Bn) (xs : List Value) : Prop := ∀ j (h : j < L.length), ∃ A' cap, xs[j * 4]? = some (.int .i64 L[j].var) ∧ xs[j * 4 + 1]? = some (.int .i64 L[j].val.ctor) ∧ xs[j * 4 + 2]? = some (.int .i64 L[j].val.n) ∧ xs[j * 4 + 3]? = some (.slice A' L[j].val.kids.length cap) ∧ RVs d w B A' L[j].val.kids
theorem RBr.keep {d : Nat} {w w' : World} {B : Nat} {L : List Bn} {xs : List Value} (h : RBr d w B L xs) (hk : ∀ p : Addr, p.block < B → w'.cell? p = w.cell? p) : RBr d w' B L xs := fun j hj => by
  obtain ⟨A', cap, e0, e1, e2, e3, hv⟩ := h j hj
  exact ⟨A', cap, e0, e1, e2, e3, hv.keep hk (Nat.le_refl _)⟩
theorem RBr.more {d d' : Nat} {w : World} {B : Nat} {L : List Bn} {xs : List Value} (h : RBr d w B L xs) (hd : d ≤ d') : RBr d' w B L xs := fun j hj => by
  obtain ⟨A', cap, e0, e1, e2, e3, hv⟩ := h j hj
  exact ⟨A', cap, e0, e1, e2, e3, hv.more hd⟩
theorem RBr.nil {d : Nat} {w : World} {B : Nat} {xs : List Value} : RBr d w B [] xs := fun j h => absurd h (Nat.not_lt_zero _)
theorem RBr.single {d : Nat} {w : World} {B : Nat} {A : Option Addr} {cap : Nat} (x : Int) (v : Vl) (h : RVs d w B A v.kids) : RBr d w B [⟨x, v⟩] [.int .i64 x, .int .i64 v.ctor, .int .i64 v.n, .slice A v.kids.length cap] := fun j hj => by
  have e : j = 0 := by simp at hj; omega
  subst e
  exact ⟨A, cap, rfl, rfl, rfl, rfl, h⟩
theorem RBr.cat {d : Nat} {w : World} {B : Nat} {L L' : List Bn} {xs ys : List Value} (h : RBr d w B L xs) (hx : xs.length = L.length * 4) (h' : RBr d w B L' ys) : RBr d w B (L ++ L') (xs ++ ys) := by
  intro j hj
  by_cases e : j < L.length
  · obtain ⟨A', cap, a, b, c, f, hv⟩ := h j e
    rw [List.getElem_append_left e]
    exact ⟨A', cap, by rw [List.getElem?_append_left (by omega)]; exact a, by rw [List.getElem?_append_left (by omega)]; exact b, by rw [List.getElem?_append_left (by omega)]; exact c, by rw [List.getElem?_append_left (by omega)]; exact f, hv⟩
  · have hj' : j - L.length < L'.length := by simp at hj; omega
    obtain ⟨A', cap, a, b, c, f, hv⟩ := h' (j - L.length) hj'
    rw [List.getElem_append_right (by omega)]
    refine ⟨A', cap, ?_, ?_, ?_, ?_, hv⟩
    · rw [List.getElem?_append_right (by omega), hx, show j * 4 - L.length * 4 = (j - L.length) * 4 by omega]; exact a
    · rw [List.getElem?_append_right (by omega), hx, show j * 4 + 1 - L.length * 4 = (j - L.length) * 4 + 1 by omega]; exact b
    · rw [List.getElem?_append_right (by omega), hx, show j * 4 + 2 - L.length * 4 = (j - L.length) * 4 + 2 by omega]; exact c
    · rw [List.getElem?_append_right (by omega), hx, show j * 4 + 3 - L.length * 4 = (j - L.length) * 4 + 3 by omega]; exact f
theorem RBr.one {d : Nat} {w : World} {B : Nat} {L : List Bn} {xs : List Value} (h : RBr d w B L xs) (hx : xs.length = L.length * 4) : ∀ u ∈ xs, u.oneCell' = true := by
  intro u hu
  obtain ⟨i, hi, rfl⟩ := List.mem_iff_getElem.1 hu
  have hj : i / 4 < L.length := by omega
  obtain ⟨A', cap, h0, h1, h2, h3, _⟩ := h (i / 4) hj
  have hr : i % 4 = 0 ∨ i % 4 = 1 ∨ i % 4 = 2 ∨ i % 4 = 3 := by omega
  rcases hr with hr | hr | hr | hr
  · rw [show i / 4 * 4 = i by omega, List.getElem?_eq_getElem hi] at h0
    injection h0 with h0; rw [h0]; rfl
  · rw [show i / 4 * 4 + 1 = i by omega, List.getElem?_eq_getElem hi] at h1
    injection h1 with h1; rw [h1]; rfl
  · rw [show i / 4 * 4 + 2 = i by omega, List.getElem?_eq_getElem hi] at h2
    injection h2 with h2; rw [h2]; rfl
  · rw [show i / 4 * 4 + 3 = i by omega, List.getElem?_eq_getElem hi] at h3
    injection h3 with h3; rw [h3]; rfl
def OBr (d : Nat) (w : World) (lo B : Nat) (u : Value) (L : List Bn) : Prop := ∃ xs, w.ownsRow lo 128 4 u L.length xs ∧ RBr d w B L xs
theorem OBr.nil (d : Nat) (w : World) (lo B : Nat) : OBr d w lo B (.slice none 0 0) [] := ⟨[], World.ownsRow_nil _ _ _ _, RBr.nil⟩
theorem OBr.lt {d : Nat} {w : World} {lo B : Nat} {u : Value} {L : List Bn} (h : OBr d w lo B u L) : ∀ g, u.ownBlock = some g → lo ≤ g ∧ g < w.heap.size := by
  obtain ⟨xs, ho, _⟩ := h; exact ho.lt
theorem OBr.at_ {d : Nat} {w w' : World} {lo B : Nat} {u : Value} {L : List Bn} (h : OBr d w lo B u L) (hb : Below w.heap.size w w') (hB : B ≤ w.heap.size) : OBr d w' lo B u L := by
  obtain ⟨xs, ho, hx⟩ := h
  exact ⟨xs, own_at ho (fun b e => hb.block b (ho.lt b e).2), hx.keep (fun p hp => hb.cell (Nat.lt_of_lt_of_le hp hB))⟩
theorem OBr.more {d d' : Nat} {w : World} {lo B : Nat} {u : Value} {L : List Bn} (h : OBr d w lo B u L) (hd : d ≤ d') : OBr d' w lo B u L := by
  obtain ⟨xs, ho, hx⟩ := h; exact ⟨xs, ho, hx.more hd⟩
theorem OBr.lower {d : Nat} {w : World} {lo lo' B : Nat} {u : Value} {L : List Bn} (h : OBr d w lo B u L) (hl : lo' ≤ lo) : OBr d w lo' B u L := by
  obtain ⟨xs, ho, hx⟩ := h
  refine ⟨xs, ⟨ho.1, ?_⟩, hx⟩
  rcases ho.2 with h0 | ⟨g, cap, cur, e, hb, hg⟩
  · exact .inl h0
  · exact .inr ⟨g, cap, cur, e, by omega, hg⟩
theorem OBr.is {d : Nat} {w : World} {lo B : Nat} {u : Value} {L : List Bn} (h : OBr d w lo B u L) : (u = .slice none 0 0 ∧ L = []) ∨ ∃ g cap xs, u = .slice (some ⟨g, 0, none⟩) L.length cap ∧ lo ≤ g ∧ g < w.heap.size ∧ xs.length = L.length * 4 ∧ RBr d w B L xs ∧ ∀ j u', xs[j]? = some u' → w.cell? ((⟨g, 0, none⟩ : Addr).add j) = some u' := by
  obtain ⟨xs, ho, hx⟩ := h
  have hc := fun g (hg : u.ownBlock = some g) => ho.cells hg
  have hlen := ho.1
  rcases ho.2 with ⟨rfl, h0⟩ | ⟨g, cap, cur, rfl, hb, hg, _⟩
  · exact .inl ⟨rfl, List.eq_nil_of_length_eq_zero h0⟩
  · exact .inr ⟨g, cap, xs, rfl, hb, heap_lt hg, hlen, hx, hc g rfl⟩
end Go.Proofs.YthecfkdilbfimaaGreat
