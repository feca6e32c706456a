/-
  The functions that count how much Pt trees hold. No statement is proved here.
-/
import Derived.Test.YtbdiahnelnbdnaaGreatW01
import Derived.Test.YtbdiahnelnbdnaaGreatW00
import Derived.Test.YtbdiahnelnbdnaaGreatW03
import Derived.Test.YtbdiahnelnbdnaaGreatW05
import Derived.Test.YtbdiahnelnbdnaaGreatW18
import Derived.Test.YtbdiahnelnbdnaaGreatW04
import Derived.Deep.RegionHeld3
import Derived.Deep.DeepCutAuto
import Derived.Lib.SmallJoins
namespace Go.Proofs.YtbdiahnelnbdnaaGreat
open Go.RowKit
set_option maxRecDepth 100000
set_option linter.unusedVariables false
def SzP (d : Nat) : Prop := ∀ (A : Option Addr) (l : List Pt) (cap : Nat) (q : Int) (w : World), RPs d w w.heap.size A l → 0 ≤ q → q ≤ 1048576 →
  Calls Tryz.prog 19 #[.slice A l.length cap, .int .i64 q] w fun e w' => e = .returned (.int .i64 (left q (wPs l))) ∧ Below w.heap.size w w'
theorem szP_of {d : Nat} (ih : SzP d) (A : Option Addr) (l : List Pt) (cap : Nat) (x0 x1 x2 x3 x4 q : Int) (w : World) (hr : RPs d w w.heap.size A l) (h0 : 0 ≤ q) (h1 : q ≤ 1048576) :
    Calls Tryz.prog 5 #[.agg #[.int .i64 x0, .int .i64 x1, .int .i64 x2, .int .i64 x3, .int .i64 x4, .slice A l.length cap], .int .i64 q] w fun e w' => e = .returned (.int .i64 (left q (wPs l))) ∧ Below w.heap.size w w' := by
  have Hr := Lib.hid hr
  have IH := Lib.hid ih
  clear hr ih
  by_cases hc2 : (wPs l : Int) ≤ q
  · have H2 := Lib.hid (left_ok hc2)
    go_enter Tryz.func5, Tryz.ntmps5
    go_wp2_with (go_at_call 19; refine (IH.out _ _ _ _ _ (by exact Hr.out.keep (fun p hp => World.cell?_alloc_lt _ _ _ hp) (by simp)) h0 h1).mono ?_; rw [H2.out]; rintro e w' ⟨rfl, hb⟩)
    go_ret
    exact ⟨ret_i64 (by rw [H2.out]), ((Below.refl _ _).alloc (Nat.le_refl _) _).trans (hb.mono (by simp))⟩
  · have H2 := Lib.hid (left_no hc2)
    go_enter Tryz.func5, Tryz.ntmps5
    go_wp2_with (go_at_call 19; refine (IH.out _ _ _ _ _ (by exact Hr.out.keep (fun p hp => World.cell?_alloc_lt _ _ _ hp) (by simp)) h0 h1).mono ?_; rw [H2.out]; rintro e w' ⟨rfl, hb⟩)
    go_ret
    exact ⟨ret_i64 (by rw [H2.out]), ((Below.refl _ _).alloc (Nat.le_refl _) _).trans (hb.mono (by simp))⟩
set_option maxHeartbeats 800000 in
theorem szPs_of (d : Nat) (ih : ∀ d', d = d' + 1 → SzP d') : SzP d := by
  intro A l cap q0 w hr h0 h1
  have hn := hr.1
  unfold maxLen at hn
  have Hr := Lib.hid hr
  have IH := Lib.hid ih
  have HSum := Lib.hid (wPs_sum l)
  clear hr ih
  by_cases hc : (l.length : Int) ≤ q0
  · go_enter Tryz.func19, Tryz.ntmps19
    go_wp2_with fail
    go_loopw [1, 5] (fun t i wr => ∃ k : Nat, k ≤ l.length ∧ i = .int .i64 k ∧ ∃ q : Int, 0 ≤ q ∧ q ≤ 1048576 ∧ t = .int .i64 q ∧ Hid (q = q0 - (l.length + ((l.take k).map wP).sum : Nat)) ∧ Below w.heap.size w wr) (fun _ i _ => l.length - (intOf i).toNat)
    case atStart => exact ⟨0, by omega, rfl, _, by omega, by omega, rfl, by unfold Hid; simp, Below.refl _ _⟩
    case round =>
      obtain ⟨k, hk, rfl, q, hq0, hq1, rfl, HQ, hb⟩ := hrel
      by_cases hlt : k < l.length
      · obtain ⟨b, off, rfl, hbB, hv⟩ := (Hr.out.below hb (Nat.le_refl _)).2 k hlt
        obtain ⟨d', hd, A', cp, c0, c1, c2, c3, c4, c5, hm⟩ := hv.parts
        have HS := Lib.hid (sum_take_succ wP l k hlt)
        have HL := Lib.hid (sum_take_le wP l (k + 1))
        have HW := Lib.hid (wP_kids l[k])
        have Hm := Lib.hid (hm.keep (fun _ _ => rfl) hb.size)
        have IHd := Lib.hid (IH.out d' hd)
        clear hm hv hd
        by_cases hc2 : (wPs l[k].kids : Int) ≤ q
        · have H2 := Lib.hid (left_ok hc2)
          go_wp2_with (go_at_call 5; refine (szP_of IHd.out _ _ _ _ _ _ _ _ _ _ Hm.out (by omega) (by omega)).mono ?_; rw [H2.out]; rintro e w' ⟨rfl, hb'⟩)
          have hb2 := hb.trans (hb'.mono hb.size)
          go_roundw
          case rel => exact ⟨k + 1, by omega, by go_num, _, by omega, by omega, rfl, by unfold Hid; rw [HS.out, HW.out, HQ.out]; omega, hb2⟩
          case measure => simp [intOf]; omega
        · have H2 := Lib.hid (left_no hc2)
          have H := Lib.hid (left_no (l := q0) (n := wPs l) (by rw [HSum.out]; rw [HQ.out] at hc2; rw [HS.out, HW.out] at HL; have := HL.out; omega))
          go_wp2_with (go_at_call 5; refine (szP_of IHd.out _ _ _ _ _ _ _ _ _ _ Hm.out (by omega) (by omega)).mono ?_; rw [H2.out]; rintro e w' ⟨rfl, hb'⟩)
          have hb2 := hb.trans (hb'.mono hb.size)
          go_ret
          exact ⟨ret_i64 (by rw [H.out]), hb2⟩
      · go_wp2_with fail
        go_ret
        refine ⟨ret_i64 ?_, hb⟩
        have h2 := HQ.out
        rw [List.take_of_length_le (by omega), ← HSum.out] at h2
        rw [left_ok (by omega)]
        exact h2
  · have H := Lib.hid (left_no (l := q0) (n := wPs l) (by rw [HSum.out]; omega))
    go_enter Tryz.func19, Tryz.ntmps19
    go_wp2_with fail
    go_ret
    exact ⟨ret_i64 (by rw [H.out]), Below.refl _ _⟩
theorem szPs_any : ∀ d, SzP d
  | 0 => szPs_of 0 (fun _ h => by omega)
  | d + 1 => szPs_of (d + 1) (fun d' h => (Nat.succ.inj h) ▸ szPs_any d)
theorem szP_any (d : Nat) (A : Option Addr) (l : List Pt) (cap : Nat) (x0 x1 x2 x3 x4 q : Int) (w : World) (hr : RPs d w w.heap.size A l) (h0 : 0 ≤ q) (h1 : q ≤ 1048576) :
    Calls Tryz.prog 5 #[.agg #[.int .i64 x0, .int .i64 x1, .int .i64 x2, .int .i64 x3, .int .i64 x4, .slice A l.length cap], .int .i64 q] w fun e w' => e = .returned (.int .i64 (left q (wPs l))) ∧ Below w.heap.size w w' := szP_of (szPs_any d) A l cap x0 x1 x2 x3 x4 q w hr h0 h1
end Go.Proofs.YtbdiahnelnbdnaaGreat
/-
  The functions that compare Pt trees, where both sides read as the same. No statement is proved here.
-/
namespace Go.Proofs.YtbdiahnelnbdnaaGreat
open Go.RowKit Go.Sort
set_option maxRecDepth 100000
set_option linter.unusedVariables false
def EqP (d : Nat) : Prop := ∀ (A A' : Option Addr) (l : List Pt) (cap cap' : Nat) (w : World), RPs d w w.heap.size A l → RPs d w w.heap.size A' l →
  Calls Tryz.prog 11 #[.slice A l.length cap, .slice A' l.length cap'] w fun e w' => e = .returned (.bool true) ∧ Below w.heap.size w w'
theorem eqP_of {d : Nat} (ih : EqP d) (A A' : Option Addr) (l : List Pt) (cap cap' : Nat) (x0 x1 x2 x3 x4 : Int) (w : World) (hr : RPs d w w.heap.size A l) (hr' : RPs d w w.heap.size A' l) :
    Calls Tryz.prog 13 #[.agg #[.int .i64 x0, .int .i64 x1, .int .i64 x2, .int .i64 x3, .int .i64 x4, .slice A l.length cap], .agg #[.int .i64 x0, .int .i64 x1, .int .i64 x2, .int .i64 x3, .int .i64 x4, .slice A' l.length cap']] w fun e w' => e = .returned (.bool true) ∧ Below w.heap.size w w' := by
  have Hr := Lib.hid hr
  have Hr' := Lib.hid hr'
  have IH := Lib.hid ih
  clear hr hr' ih
  go_enter Tryz.func13, Tryz.ntmps13
  go_wp2_with (go_at_call 11; refine (IH.out _ _ _ _ _ _ (by exact Hr.out.keep (keep_two _ _) (by simp; omega)) (by exact Hr'.out.keep (keep_two _ _) (by simp; omega))).mono ?_; rintro e w1 ⟨rfl, hb⟩; obtain ⟨hc, hfz⟩ := bcell hb)
  go_ret
  exact ⟨rfl, below_two hb⟩
set_option maxHeartbeats 1600000 in
theorem eqPs_of (d : Nat) (ih : ∀ d', d = d' + 1 → EqP d') : EqP d := by
  intro A A' l cap cap' w hr hr'
  have hn := hr.1
  unfold maxLen at hn
  have Hr := Lib.hid hr
  have Hr' := Lib.hid hr'
  have IH := Lib.hid ih
  clear hr hr' ih
  go_enter Tryz.func11, Tryz.ntmps11
  go_wp2_with fail
  go_loopw [5] (fun i wr => ∃ k : Nat, k ≤ l.length ∧ i = .int .i64 k ∧ Below w.heap.size w wr) (fun i _ => l.length - (intOf i).toNat)
  case atStart => exact ⟨0, by omega, rfl, Below.refl _ _⟩
  case round =>
    obtain ⟨k, hk, rfl, hb⟩ := hrel
    by_cases hlt : k < l.length
    · obtain ⟨b, off, rfl, hbB, hv⟩ := (Hr.out.below hb (Nat.le_refl _)).2 k hlt
      obtain ⟨d', hd, B1, cp, c0, c1, c2, c3, c4, c5, hm⟩ := hv.parts
      obtain ⟨b', off', rfl, hbB', hv'⟩ := (Hr'.out.below hb (Nat.le_refl _)).2 k hlt
      obtain ⟨d'', hd', B2, cp', c0', c1', c2', c3', c4', c5', hm'⟩ := hv'.parts
      obtain rfl : d'' = d' := by omega
      have d0 := cell_regrown c0
      have d1 := cell_regrown c1
      have d2 := cell_regrown c2
      have d3 := cell_regrown c3
      have d4 := cell_regrown c4
      have d5 := cell_regrown c5
      have d0' := cell_regrown c0'
      have d1' := cell_regrown c1'
      have d2' := cell_regrown c2'
      have d3' := cell_regrown c3'
      have d4' := cell_regrown c4'
      have d5' := cell_regrown c5'
      have Hm := Lib.hid hm
      have Hm' := Lib.hid hm'
      have IHd := Lib.hid (IH.out d'' hd)
      clear c0 c1 c2 c3 c4 c5 c0' c1' c2' c3' c4' c5' hm hm' hv hv' hd hd'
      have hi : (k : Int) < (l.length : Int) := by omega
      go_wp2_with fail
      refine wp_region_quiet_below (by kernel_rfl) (by kernel_rfl) ?_
      repeat (quiet_step (exact Calls.regrown_of (eqP_of IHd.out _ _ _ _ _ _ _ _ _ _ _ (Hm.out.keep (fun p hp => (below_regrown wr _ _).cell (Nat.lt_of_lt_of_le hp hb.size)) (Nat.le_trans hb.size (below_regrown wr _ _).size)) (Hm'.out.keep (fun p hp => (below_regrown wr _ _).cell (Nat.lt_of_lt_of_le hp hb.size)) (Nat.le_trans hb.size (below_regrown wr _ _).size)))))
      refine wpQuiet_nil ?_
      intro _ hw'
      obtain ⟨⟨dq, osq⟩, hw''⟩ := hw'
      subst hw''
      have hb2 := hb.trans ((below_regrown wr dq osq).mono hb.size)
      clear d0 d1 d2 d3 d4 d5 d0' d1' d2' d3' d4' d5'
      go_wp2_with fail
      go_roundw
      case rel => exact ⟨k + 1, by omega, by go_num, hb2⟩
      case measure => simp [intOf]; omega
    · go_wp2_with fail
      go_ret
      exact ⟨rfl, hb⟩
theorem eqPs_any : ∀ d, EqP d
  | 0 => eqPs_of 0 (fun _ h => by omega)
  | d + 1 => eqPs_of (d + 1) (fun d' h => (Nat.succ.inj h) ▸ eqPs_any d)
theorem eqP_same (d : Nat) (A A' : Option Addr) (l : List Pt) (cap cap' : Nat) (x0 x1 x2 x3 x4 : Int) (w : World) (hr : RPs d w w.heap.size A l) (hr' : RPs d w w.heap.size A' l) :
    Calls Tryz.prog 13 #[.agg #[.int .i64 x0, .int .i64 x1, .int .i64 x2, .int .i64 x3, .int .i64 x4, .slice A l.length cap], .agg #[.int .i64 x0, .int .i64 x1, .int .i64 x2, .int .i64 x3, .int .i64 x4, .slice A' l.length cap']] w fun e w' => e = .returned (.bool true) ∧ Below w.heap.size w w' := eqP_of (eqPs_any d) A A' l cap cap' x0 x1 x2 x3 x4 w hr hr'
end Go.Proofs.YtbdiahnelnbdnaaGreat
/-
  Pt trees that are marked where they lie, and looked at again. No statement is proved here.
-/
namespace Go.Proofs.YtbdiahnelnbdnaaGreat
open Go.RowKit
set_option maxRecDepth 100000
set_option linter.unusedVariables false
mutual
/-- The tree that marking leaves. -/
def numP : Int → Pt → Pt | k, .mk _ _ _ _ _ ks => .mk k (k + 1) (k + 2) (k + 3) (k + 4) (numPs (k + 5) ks)
def numPs : Int → List Pt → List Pt | _, [] => [] | k, v :: vs => numP k v :: numPs (k + 5 * ((1 + wP v : Nat) : Int)) vs
end
theorem numP_kids (k : Int) (v : Pt) : (numP k v).kids = numPs (k + 5) v.kids := by cases v; rw [numP]; rfl
theorem numP_op (k : Int) (v : Pt) : (numP k v).op = k := by cases v; rw [numP]; rfl
theorem numP_ctor (k : Int) (v : Pt) : (numP k v).ctor = k + 1 := by cases v; rw [numP]; rfl
theorem numP_n (k : Int) (v : Pt) : (numP k v).n = k + 2 := by cases v; rw [numP]; rfl
theorem numP_m (k : Int) (v : Pt) : (numP k v).m = k + 3 := by cases v; rw [numP]; rfl
theorem numP_var (k : Int) (v : Pt) : (numP k v).var = k + 4 := by cases v; rw [numP]; rfl
theorem numPs_len : ∀ (k : Int) (l : List Pt), (numPs k l).length = l.length
  | _, [] => by rw [numPs]
  | k, v :: vs => by rw [numPs, List.length_cons, numPs_len, List.length_cons]
theorem numPs_at : ∀ (k : Int) (l : List Pt) (j : Nat) (h : j < (numPs k l).length) (h' : j < l.length), (numPs k l)[j] = numP (k + 5 * ((j + ((l.take j).map wP).sum : Nat) : Int)) l[j]
  | _, [], j, _, h' => absurd h' (Nat.not_lt_zero _)
  | k, v :: vs, 0, h, h' => by
    simp only [numPs, List.getElem_cons_zero, List.take_zero, List.map_nil, List.sum_nil]
    congr 1
    omega
  | k, v :: vs, j + 1, h, h' => by
    have h2 : j < (numPs (k + 5 * ((1 + wP v : Nat) : Int)) vs).length := by rw [numPs_len]; simpa using h'
    simp only [numPs, List.getElem_cons_succ]
    rw [numPs_at _ vs j h2 (by simpa using h')]
    congr 1
    simp only [List.take_succ_cons, List.map_cons, List.sum_cons]
    omega
/-- Marked up to the element j. -/
def HalfP (d : Nat) (P : Nat → Prop) (A : Option Addr) (l : List Pt) (k : Int) (j : Nat) (w wr : World) : Prop := Fr P w wr ∧ ∃ m : List Pt, m.length = l.length ∧ (∀ i (h : i < m.length) (h' : i < (numPs k l).length), i < j → m[i] = (numPs k l)[i]) ∧ (∀ i (h : i < m.length) (h' : i < l.length), j ≤ i → m[i] = l[i]) ∧ OPs (d + 1) wr P A m
theorem HalfP.zero {d : Nat} {P : Nat → Prop} {A : Option Addr} {l : List Pt} {k : Int} {w : World} (h : OPs (d + 1) w P A l) : HalfP d P A l k 0 w w := ⟨Fr.refl _ _, l, rfl, fun _ _ _ h => absurd h (Nat.not_lt_zero _), fun _ _ _ _ => rfl, h⟩
theorem HalfP.all {d : Nat} {P : Nat → Prop} {A : Option Addr} {l : List Pt} {k : Int} {j : Nat} {w wr : World} (h : HalfP d P A l k j w wr) (hj : l.length ≤ j) : OPs (d + 1) wr P A (numPs k l) := by
  obtain ⟨_, m, hm, h1, _, h3⟩ := h
  have e : m = numPs k l := List.ext_getElem (by rw [hm, numPs_len]) (fun i a b => h1 i a b (by omega))
  rw [← e]; exact h3
theorem HalfP.at_ {d : Nat} {P : Nat → Prop} {A : Option Addr} {l : List Pt} {k S : Int} {j : Nat} {w wr : World} (h : HalfP d P A l k j w wr) (hj : j < l.length) (hS : S = 5 * ((j + ((l.take j).map wP).sum : Nat) : Int)) :
    ∃ (g : Nat) (cs : Array Value) (Q : Nat → Prop) (A' : Option Addr) (cap : Nat), A = some ⟨g, 0, none⟩ ∧ wr.heap[g]? = some (.cells cs 38 (0, 0)) ∧ cs[j * 6]? = some (.int .i64 l[j].op) ∧ cs[j * 6 + 1]? = some (.int .i64 l[j].ctor) ∧ cs[j * 6 + 2]? = some (.int .i64 l[j].n) ∧ cs[j * 6 + 3]? = some (.int .i64 l[j].m) ∧ cs[j * 6 + 4]? = some (.int .i64 l[j].var) ∧ cs[j * 6 + 5]? = some (.slice A' l[j].kids.length cap) ∧ OPs d wr Q A' l[j].kids ∧ ¬ Q g ∧
      ∀ (w3 : World) (cs3 : Array Value), w3.heap[g]? = some (.cells cs3 38 (0, 0)) → (∀ i c, i ≠ j → c < 6 → cs3[i * 6 + c]? = cs[i * 6 + c]?) → cs3[j * 6]? = some (.int .i64 (k + S)) → cs3[j * 6 + 1]? = some (.int .i64 (k + S + 1)) → cs3[j * 6 + 2]? = some (.int .i64 (k + S + 2)) → cs3[j * 6 + 3]? = some (.int .i64 (k + S + 3)) → cs3[j * 6 + 4]? = some (.int .i64 (k + S + 4)) → cs3[j * 6 + 5]? = some (.slice A' l[j].kids.length cap) → OPs d w3 Q A' (numPs (k + S + 5) l[j].kids) → Fr (fun b => Q b ∨ b = g) wr w3 → HalfP d P A l k (j + 1) w w3 := by
  obtain ⟨hf, m, hm, h1, h2, h3⟩ := h
  obtain ⟨hl, hp⟩ := h3
  obtain ⟨g, cs, Q, rfl, hg, hh, hq, hc⟩ := hp (by omega)
  have hc' := hc
  obtain ⟨A', cap, e0, e1, e2, e3, e4, e8, e9⟩ := hc j (by omega)
  have hmj : m[j]'(by omega) = l[j] := h2 j (by omega) hj (Nat.le_refl _)
  simp only [hmj] at e0 e1 e2 e3 e4 e8 e9
  refine ⟨g, cs, Q j, A', cap, rfl, hh, e0, e1, e2, e3, e4, e8, e9, fun hqg => (hq j g (by omega) hqg).2.1 rfl, ?_⟩
  intro w3 cs3 hg3 hsame f0 f1 f2 f3 f4 f8 ho3 hf3
  have hnj : (numPs k l)[j]'(by rw [numPs_len]; exact hj) = numP (k + S) l[j] := by rw [numPs_at _ _ _ _ hj, hS]
  refine ⟨hf.trans (hf3.wide (fun b hb => ?_)), m.set j (numP (k + S) l[j]), by simp [hm], fun i h h' hij => ?_, fun i h h' hij => ?_, by simpa using hl, fun _ => ⟨g, cs3, Q, rfl, hg, hg3, fun i b hi hb => ?_, fun i hi => ?_⟩⟩
  · rcases hb with hb | hb
    · exact (hq j b (by omega) hb).1
    · rw [hb]; exact hg
  · by_cases e : i = j
    · subst e
      simp only [List.getElem_set_self]
      exact hnj.symm
    · rw [List.getElem_set_ne (by omega)]
      exact h1 i (by simpa using h) h' (by omega)
  · rw [List.getElem_set_ne (by omega)]
    exact h2 i (by simpa using h) h' (by omega)
  · simp only [List.length_set] at hi
    obtain ⟨a1, a2, a3⟩ := hq i b hi hb
    exact ⟨a1, a2, fun i' hi' => a3 i' (by simpa using hi')⟩
  · simp only [List.length_set] at hi
    by_cases e : i = j
    · subst e
      simp only [List.getElem_set_self, numP_op, numP_ctor, numP_n, numP_m, numP_var, numP_kids, numPs_len]
      exact ⟨A', cap, f0, f1, f2, f3, f4, f8, ho3⟩
    · rw [List.getElem_set_ne (by omega)]
      obtain ⟨A2, c2, q0, q1, q2, q3, q4, q8, q9⟩ := hc' i hi
      refine ⟨A2, c2, (hsame i 0 e (by omega)).trans q0, (hsame i 1 e (by omega)).trans q1, (hsame i 2 e (by omega)).trans q2, (hsame i 3 e (by omega)).trans q3, (hsame i 4 e (by omega)).trans q4, (hsame i 5 e (by omega)).trans q8, q9.fr d hf3 (fun b hb => ?_)⟩
      rintro (hb' | hb')
      · exact (hq i b hi hb).2.2 j (by omega) (by omega) hb'
      · exact (hq i b hi hb).2.1 hb'
def MkP (d : Nat) : Prop := ∀ (P : Nat → Prop) (A : Option Addr) (l : List Pt) (cap : Nat) (k : Int) (w : World), OPs d w P A l → wPs l ≤ 1048576 → 0 ≤ k → k + 5 * (wPs l : Int) ≤ 16777216 →
  Calls Tryz.prog 16 #[.slice A l.length cap, .int .i64 k] w fun e w' => e = .returned (.int .i64 (k + 5 * (wPs l : Nat))) ∧ OPs d w' P A (numPs k l) ∧ Fr P w w'
set_option maxHeartbeats 1600000 in
theorem mkP_of (d : Nat) (ih : ∀ d', d = d' + 1 → MkP d') : MkP d := by
  intro P A l cap k w hr hn h0 h1
  obtain ⟨d', hd, _⟩ := hr.parts
  have IH := Lib.hid (ih d' hd)
  subst hd
  have HSum := Lib.hid (wPs_sum l)
  have hlb : l.length ≤ 1048576 := by have := wPs_sum l; omega
  have HZ := Lib.hid (HalfP.zero (k := k) hr)
  clear hr ih
  go_enter Tryz.func16, Tryz.ntmps16
  go_wp2_with fail
  go_loopw [1, 5] (fun q i wr => ∃ j : Nat, j ≤ l.length ∧ i = .int .i64 j ∧ ∃ S : Nat, q = .int .i64 (k + S) ∧ Hid ((S : Int) = 5 * ((j + ((l.take j).map wP).sum : Nat) : Int)) ∧ Hid (HalfP d' P A l k j w wr)) (fun _ i _ => l.length - (intOf i).toNat)
  case atStart => exact ⟨0, by omega, rfl, 0, by simp, by unfold Hid; simp, HZ⟩
  case round =>
    obtain ⟨j, hj, rfl, S, rfl, HS, HH⟩ := hrel
    clear HZ
    by_cases hlt : j < l.length
    · have HT := Lib.hid (sum_take_succ wP l j hlt)
      have HL := Lib.hid (sum_take_le wP l (j + 1))
      have hwk : wP l[j] = wPs l[j].kids := wP_kids l[j]
      have hSb : k + (S : Int) + 5 * (1 + (wPs l[j].kids : Int)) ≤ 16777216 ∧ wPs l[j].kids ≤ 1048576 := by
        have a1 := HT.out; have a2 := HL.out; have a3 := HSum.out; have a4 := HS.out; omega
      have HWK := Lib.hid hwk
      obtain ⟨hSb, hwb⟩ := hSb
      clear hwk
      obtain ⟨g, cs, Q, A', cp, rfl, hg, e0, e1, e2, e3, e4, e8, ho, hQg, hnext⟩ := HH.out.at_ hlt HS.out
      have c0 := (cell_of_blk hg (j * 6)).trans e0
      have c1 := (cell_of_blk hg (j * 6 + 1)).trans e1
      have c2 := (cell_of_blk hg (j * 6 + 2)).trans e2
      have c3 := (cell_of_blk hg (j * 6 + 3)).trans e3
      have c4 := (cell_of_blk hg (j * 6 + 4)).trans e4
      have c8 := (cell_of_blk hg (j * 6 + 5)).trans e8
      have z0 := frozen_of_row wr g (j * 6) cs 38 hg
      have z1 := frozen_of_row wr g (j * 6 + 1) cs 38 hg
      have z2 := frozen_of_row wr g (j * 6 + 2) cs 38 hg
      have z3 := frozen_of_row wr g (j * 6 + 3) cs 38 hg
      have z4 := frozen_of_row wr g (j * 6 + 4) cs 38 hg
      obtain ⟨w2, hw2⟩ : ∃ w2, w2 = (((((wr.setCell ⟨g, j * 6, none⟩ (.int .i64 (k + S))).setCell ⟨g, j * 6 + 1, none⟩ (.int .i64 (k + S + 1))).setCell ⟨g, j * 6 + 2, none⟩ (.int .i64 (k + S + 1 + 1))).setCell ⟨g, j * 6 + 3, none⟩ (.int .i64 (k + S + 1 + 1 + 1))).setCell ⟨g, j * 6 + 4, none⟩ (.int .i64 (k + S + 1 + 1 + 1 + 1))) := ⟨_, rfl⟩
      have F2 : Fr (fun b => b = g) wr w2 := by rw [hw2]; exact (((((Fr.set (P := fun b => b = g) _ _ _ _ rfl).trans (Fr.set _ _ _ _ rfl)).trans (Fr.set _ _ _ _ rfl)).trans (Fr.set _ _ _ _ rfl)).trans (Fr.set _ _ _ _ rfl))
      have G2 : Hid (w2.heap[g]? = some (.cells (((((cs.setIfInBounds (j * 6) (.int .i64 (k + S))).setIfInBounds (j * 6 + 1) (.int .i64 (k + S + 1))).setIfInBounds (j * 6 + 2) (.int .i64 (k + S + 1 + 1))).setIfInBounds (j * 6 + 3) (.int .i64 (k + S + 1 + 1 + 1))).setIfInBounds (j * 6 + 4) (.int .i64 (k + S + 1 + 1 + 1 + 1))) 38 (0, 0))) := by
        rw [hw2]
        unfold Hid
        refine heap_setCell_same _ g _ _ _ _ ?_
        refine heap_setCell_same _ g _ _ _ _ ?_
        refine heap_setCell_same _ g _ _ _ _ ?_
        refine heap_setCell_same _ g _ _ _ _ ?_
        refine heap_setCell_same _ g _ _ _ _ ?_
        exact hg
      have O2 := Lib.hid (ho.fr _ F2 (fun b hb e => hQg (e ▸ hb)))
      have HF2 := Lib.hid F2
      have HQg := Lib.hid hQg
      have HN := Lib.hid hnext
      have HW2 := Lib.hid hw2
      clear hw2 F2 hQg hnext ho
      go_wp2_with fail
      rw [← HW2.out]
      refine (IH.out Q A' l[j].kids cp _ w2 O2.out hwb (by omega) (by omega)).mono ?_
      rintro e w3 ⟨rfl, ho3, hf3⟩
      have hk2 : k + S + 1 + 1 + 1 + 1 + 1 = k + S + 5 := by omega
      have ho3' : OPs d' w3 Q A' (numPs (k + S + 5) l[j].kids) := by rw [← hk2]; exact ho3
      have HH3 : Hid (HalfP d' P (some ⟨g, 0, none⟩) l k (j + 1) w w3) := by
        refine HN.out w3 _ (hf3.block G2.out HQg.out) (fun i c hi hc => ?_) ?_ ?_ ?_ ?_ ?_ ?_ ho3' ((HF2.out.wide (fun b hb => .inr hb)).trans (hf3.wide (fun b hb => .inl hb)))
        · have h1 : i * 6 + c ≠ j * 6 ∧ i * 6 + c ≠ j * 6 + 1 ∧ i * 6 + c ≠ j * 6 + 2 ∧ i * 6 + c ≠ j * 6 + 3 ∧ i * 6 + c ≠ j * 6 + 4 := by omega
          simp only [Array.getElem?_setIfInBounds_ne (Ne.symm h1.1), Array.getElem?_setIfInBounds_ne (Ne.symm h1.2.1), Array.getElem?_setIfInBounds_ne (Ne.symm h1.2.2.1), Array.getElem?_setIfInBounds_ne (Ne.symm h1.2.2.2.1), Array.getElem?_setIfInBounds_ne (Ne.symm h1.2.2.2.2)]
        · have hz : j * 6 + 5 < cs.size := (Array.getElem?_eq_some_iff.1 e8).1
          simp [show j * 6 < cs.size by omega]
        · have hz : j * 6 + 5 < cs.size := (Array.getElem?_eq_some_iff.1 e8).1
          simp [show j * 6 + 1 < cs.size by omega]
        · have hz : j * 6 + 5 < cs.size := (Array.getElem?_eq_some_iff.1 e8).1
          simp [show j * 6 + 2 < cs.size by omega] <;> omega
        · have hz : j * 6 + 5 < cs.size := (Array.getElem?_eq_some_iff.1 e8).1
          simp [show j * 6 + 3 < cs.size by omega] <;> omega
        · have hz : j * 6 + 5 < cs.size := (Array.getElem?_eq_some_iff.1 e8).1
          simp [show j * 6 + 4 < cs.size by omega] <;> omega
        · simpa using e8
      clear c0 c1 c2 c3 c4 c8 z0 z1 z2 z3 z4
      go_wp2_with fail
      go_roundw
      case rel => exact ⟨j + 1, by omega, by go_num, S + 5 * (1 + wPs l[j].kids), by congr 1; push_cast; omega, by unfold Hid; have a1 := HT.out; have a2 := HS.out; have a3 := HWK.out; omega, HH3⟩
      case measure => simp [intOf]; omega
    · have HE : Hid ((S : Int) = 5 * (wPs l : Int)) := by unfold Hid; rw [HS.out, HSum.out, List.take_of_length_le (by omega), show j = l.length by omega]
      have HA := Lib.hid (HH.out.all (by omega))
      go_wp2_with fail
      go_ret
      exact ⟨ret_i64 (by rw [HE.out]), HA.out, HH.out.1⟩
theorem mkP_any : ∀ d, MkP d
  | 0 => mkP_of 0 (fun _ h => by omega)
  | d + 1 => mkP_of (d + 1) (fun d' h => (Nat.succ.inj h) ▸ mkP_any d)
theorem markP_any (d : Nat) (P : Nat → Prop) (A : Option Addr) (l : List Pt) (cap : Nat) (x0 x1 x2 x3 x4 k : Int) (w : World) (hr : OPs d w P A l) (hP : ∀ b, P b → b < w.heap.size) (hn : wPs l ≤ 1048576) (h0 : 0 ≤ k) (h1 : k + 5 * (wPs l : Int) ≤ 16777216) :
    Calls Tryz.prog 15 #[.agg #[.int .i64 x0, .int .i64 x1, .int .i64 x2, .int .i64 x3, .int .i64 x4, .slice A l.length cap], .int .i64 k] w fun e w' => e = .returned (.int .i64 (k + 5 * (wPs l : Nat))) ∧ OPs d w' P A (numPs k l) ∧ Fr P w w' := by
  have Hr := Lib.hid (hr.fr _ (Fr.below (P := fun _ => False) ((Below.refl _ w).alloc (Nat.le_refl _) (.cells #[.int .i64 x0, .int .i64 x1, .int .i64 x2, .int .i64 x3, .int .i64 x4, .slice A l.length cap] 38))) (fun _ _ h => h))
  clear hr
  go_enter Tryz.func15, Tryz.ntmps15
  go_wp2_with (go_at_call 16; refine (mkP_any _ P _ _ _ _ _ Hr.out hn h0 h1).mono ?_; rintro e w1 ⟨rfl, ho, hf⟩)
  go_ret
  exact ⟨rfl, ho, (Fr.below ((Below.refl _ _).alloc (Nat.le_refl _) _)).trans hf⟩
end Go.Proofs.YtbdiahnelnbdnaaGreat
/-
  Pt trees that are looked at behind the marking. No statement is proved here.
-/
namespace Go.Proofs.YtbdiahnelnbdnaaGreat
open Go.RowKit
set_option maxRecDepth 100000
set_option linter.unusedVariables false
def HdP (d : Nat) : Prop := ∀ (A : Option Addr) (l : List Pt) (cap : Nat) (k : Int) (w : World), RPs d w w.heap.size A (numPs k l) → wPs l ≤ 1048576 → 0 ≤ k → k + 5 * (wPs l : Int) ≤ 16777216 →
  Calls Tryz.prog 17 #[.slice A l.length cap, .int .i64 k] w fun e w' => e = .returned (.int .i64 (k + 5 * (wPs l : Nat))) ∧ w = w'
set_option maxHeartbeats 1600000 in
theorem hdP_of (d : Nat) (ih : ∀ d', d = d' + 1 → HdP d') : HdP d := by
  intro A l cap k w hr hn h0 h1
  have IH := Lib.hid ih
  have HSum := Lib.hid (wPs_sum l)
  have hlb : l.length ≤ 1048576 := by have := wPs_sum l; omega
  have Hr := Lib.hid hr
  clear hr ih
  go_enter Tryz.func17, Tryz.ntmps17
  go_wp2_with fail
  go_loopw [1, 5] (fun q i wr => ∃ j : Nat, j ≤ l.length ∧ i = .int .i64 j ∧ ∃ S : Nat, q = .int .i64 (k + S) ∧ Hid ((S : Int) = 5 * ((j + ((l.take j).map wP).sum : Nat) : Int)) ∧ w = wr) (fun _ i _ => l.length - (intOf i).toNat)
  case atStart => exact ⟨0, by omega, rfl, 0, by simp, by unfold Hid; simp, rfl⟩
  case round =>
    obtain ⟨j, hj, rfl, S, rfl, HS, rfl⟩ := hrel
    by_cases hlt : j < l.length
    · have HT := Lib.hid (sum_take_succ wP l j hlt)
      have HL := Lib.hid (sum_take_le wP l (j + 1))
      have hwk : wP l[j] = wPs l[j].kids := wP_kids l[j]
      have hSb : k + (S : Int) + 5 * (1 + (wPs l[j].kids : Int)) ≤ 16777216 ∧ wPs l[j].kids ≤ 1048576 := by
        have a1 := HT.out; have a2 := HL.out; have a3 := HSum.out; have a4 := HS.out; omega
      have HWK := Lib.hid hwk
      obtain ⟨hSb, hwb⟩ := hSb
      clear hwk
      obtain ⟨b, off, rfl, hbB, hv⟩ := Hr.out.2 j (by rw [numPs_len]; exact hlt)
      rw [numPs_at _ _ _ _ hlt, ← HS.out] at hv
      obtain ⟨d', hd, A', cp, c0, c1, c2, c3, c4, c8, hm⟩ := hv.parts
      rw [numP_kids, numPs_len] at c8
      rw [numP_kids] at hm
      simp only [numP_op, numP_ctor, numP_n, numP_m, numP_var] at c0 c1 c2 c3 c4
      have Hm : Hid (RPs d' w w.heap.size A' (numPs (k + (S : Int) + 1 + 1 + 1 + 1 + 1) l[j].kids)) := by unfold Hid; rw [show k + (S : Int) + 1 + 1 + 1 + 1 + 1 = k + (S : Int) + 5 by omega]; exact hm
      have IHd := Lib.hid (IH.out d' hd)
      clear hm hv hd
      go_wp2_with (go_at_call 17; refine (IHd.out A' l[j].kids cp (k + (S : Int) + 1 + 1 + 1 + 1 + 1) _ Hm.out hwb (by omega) (by omega)).mono ?_; rintro e w3 ⟨rfl, rfl⟩)
      go_roundw
      case rel => exact ⟨j + 1, by omega, by go_num, S + 5 * (1 + wPs l[j].kids), by congr 1; push_cast; omega, by unfold Hid; have a1 := HT.out; have a2 := HS.out; have a3 := HWK.out; omega, by first | rfl | trivial⟩
      case measure => simp [intOf]; omega
    · have HE : Hid ((S : Int) = 5 * (wPs l : Int)) := by unfold Hid; rw [HS.out, HSum.out, List.take_of_length_le (by omega), show j = l.length by omega]
      go_wp2_with fail
      go_ret
      exact ⟨ret_i64 (by rw [HE.out]), rfl⟩
theorem hdP_any : ∀ d, HdP d
  | 0 => hdP_of 0 (fun _ h => by omega)
  | d + 1 => hdP_of (d + 1) (fun d' h => (Nat.succ.inj h) ▸ hdP_any d)
end Go.Proofs.YtbdiahnelnbdnaaGreat
/-
  The function FnExactCtorsOf returns true for every list of data types and every type, and both read behind the call as they read before. No condition.
-/
namespace Go.Proofs.YtbdiahnelnbdnaaGreat
open Go.RowKit Go.Deep
open Go.ChangeShapes Go.WideShapes Go.ChangeAt
set_option maxRecDepth 100000
set_option linter.unusedVariables false
theorem sum_ge {α : Type} (f : α → Nat) (l : List α) (i : Nat) (h : i < l.length) : f l[i] ≤ (l.map f).sum := by
  have h1 := sum_take_succ f l i h
  have h2 := sum_take_le f l (i + 1)
  omega
theorem mC_le (cs : List Ct) : (cs.map mC).sum ≤ 2 * wCts cs := by
  unfold wCts
  induction cs with
  | nil => simp
  | cons c cs ih =>
    simp only [List.map_cons, List.sum_cons, List.length_cons]
    have : mC c ≤ 2 + 2 * wCt c := by unfold mC wCt; omega
    omega
theorem mD_le (l : List Da) : (l.map mD).sum ≤ 2 * wDas l := by
  unfold wDas
  induction l with
  | nil => simp
  | cons d l ih =>
    simp only [List.map_cons, List.sum_cons, List.length_cons]
    have h1 := mC_le d.ctors
    have : mD d ≤ 1 + 2 * wDa d := by unfold mD wDa; omega
    omega
theorem lens_le {l : List Da} {N : Nat} (h : wDas l ≤ N) : l.length ≤ N ∧ ∀ i (h : i < l.length), l[i].ctors.length ≤ N ∧ ∀ m (h' : m < l[i].ctors.length), l[i].ctors[m].args.length ≤ N := by
  unfold wDas at h
  refine ⟨by omega, fun i hi => ?_⟩
  have h1 := sum_ge wDa l i hi
  have h2 : wDa l[i] = l[i].name.size + wCts l[i].ctors := rfl
  have h3 : wCts l[i].ctors = l[i].ctors.length + (l[i].ctors.map wCt).sum := rfl
  refine ⟨by omega, fun m hm => ?_⟩
  have h4 := sum_ge wCt l[i].ctors m hm
  have h5 : wCt l[i].ctors[m] = l[i].ctors[m].name.size + l[i].ctors[m].args.length := rfl
  omega
/-- Integers stay where nothing of theirs is written. -/
theorem RInts.kept {w w' : World} {A : Option Addr} {l : List Int} (h : RInts w A l) (hk : ∀ g o, A = some ⟨g, o, none⟩ → w'.heap[g]? = w.heap[g]?) : RInts w' A l :=
  ⟨h.1, fun k hkl => by
    obtain ⟨b, off, e, hbl, h1⟩ := h.2 k hkl
    have h2 := (World.cell?_of_block (w := w) (w' := w') (a := ⟨b, off + k, none⟩) (hk b off e)).trans h1
    exact ⟨b, off, e, Go.block_lt_of_cell h2, h2⟩⟩
theorem RInts.nil (w : World) (A : Option Addr) : RInts w A [] := ⟨by simp, fun k hk => absurd hk (by simp)⟩
end Go.Proofs.YtbdiahnelnbdnaaGreat
/-
  The law FnExactSplitOr walked. No statement is proved here.
-/
namespace Go.Proofs.YtbdiahnelnbdnaaGreat
open Go.RowKit Go.Sort Go.Deep
set_option maxRecDepth 100000
set_option linter.unusedVariables false
theorem PBx.fr4 {w w' : World} {b : Nat} {p : Pt} {s : Value} {P : Nat → Prop} (h : PBx w b p s) (hf : Fr P w w') (hp : ¬ P b) : PBx w' b p s := h.keep (hf.2.2.2.2 b (Go.block_lt_of_cell h.1) hp)
theorem OPs.later4 {d : Nat} {w w' : World} {P : Nat → Prop} {A : Option Addr} {l : List Pt} (h : OPs d w P A l) (hb : Below w.heap.size w w') : OPs d w' P A l := h.fr _ (Fr.below (P := fun _ => False) hb) (fun _ _ h => h)
set_option maxHeartbeats 16000000 in
theorem spl_law (A D : Option Addr) (l : List Da) (cap ep e : Nat) (t : Ty) (p : Pt) (w : World) (hr : RDas w w.heap.size A l) (hp : RPs e w w.heap.size D p.kids) :
    Calls Tryz.prog 3 #[.slice A l.length cap, .agg #[.int .i64 t.data, .int .i64 t.index], .agg #[.int .i64 p.op, .int .i64 p.ctor, .int .i64 p.n, .int .i64 p.m, .int .i64 p.var, .slice D p.kids.length ep]] w fun e' w' => e' = .returned (.bool true) ∧ Below w.heap.size w w' := by
  have Hr := Lib.hid hr
  have HP := Lib.hid hp
  clear hr hp
  generalize hw0 : (w.alloc (.cells #[.int .i64 t.data, .int .i64 t.index] 24)).alloc (.cells #[.int .i64 p.op, .int .i64 p.ctor, .int .i64 p.n, .int .i64 p.m, .int .i64 p.var, .slice D p.kids.length ep] 27) = w0
  have hb0 : Below w.heap.size w w0 := below_box2 hw0
  have HXT : Hid (Bx w0 w.heap.size t) := by rw [← hw0]; exact ⟨by simp [go_sem], by simp [go_sem]⟩
  have HXP : Hid (PBx w0 (w.heap.size + 1) p (.slice D p.kids.length ep)) := by rw [← hw0]; exact ⟨by simp [go_sem], by simp [go_sem], by simp [go_sem], by simp [go_sem], by simp [go_sem], by simp [go_sem]⟩
  have HW := Lib.hid hw0
  clear hw0
  by_cases h1 : (wDas l : Int) ≤ 1048576
  case neg =>
    have H1 := Lib.hid (left_no h1)
    go_enter Tryz.func3, Tryz.ntmps3
    go_wp2_with (go_at_call 4; rw [HW.out]; refine (szDataS_any _ _ _ _ _ (Hr.out.at_ hb0) (by omega) (by omega)).mono ?_; rw [H1.out]; rintro e1 w1 ⟨rfl, hb1⟩; obtain ⟨y0, y1, y2, y3, y4, y5⟩ := HXP.out.at_ hb1; have hb1w := below_aft hb0 hb1 hb0.size)
    go_ret
    exact ⟨rfl, hb1w⟩
  have H1 := Lib.hid (left_ok h1)
  by_cases h2 : (wPs p.kids : Int) ≤ 1048576 - (wDas l : Int)
  case neg =>
    have H2 := Lib.hid (left_no h2)
    go_enter Tryz.func3, Tryz.ntmps3
    go_wp2_with (first | (go_at_call 4; rw [HW.out]; refine (szDataS_any _ _ _ _ _ (Hr.out.at_ hb0) (by omega) (by omega)).mono ?_; rw [H1.out]; rintro e1 w1 ⟨rfl, hb1⟩; obtain ⟨y0, y1, y2, y3, y4, y5⟩ := HXP.out.at_ hb1; have hb1w := below_aft hb0 hb1 hb0.size) | (go_at_call 5; refine (szP_any e D p.kids ep p.op p.ctor p.n p.m p.var _ _ (HP.out.at_ hb1w) (by omega) (by omega)).mono ?_; rw [H2.out]; rintro e2 w2 ⟨rfl, hb2⟩; have hb2w := below_aft hb1w hb2 hb1w.size; have hb20 := below_aft hb1 hb2 hb1.size))
    go_ret
    exact ⟨rfl, hb2w⟩
  · have H2 := Lib.hid (left_ok h2)
    have hnp : wPs p.kids ≤ 1048576 := by omega
    have hnpw : wP p ≤ 1048576 := by rw [wP_kids]; exact hnp
    have hnd : wDas l ≤ 1048576 := by omega
    have hlens := lens_le (l := l) (N := 1048576) (by omega)
    have hmd := mD_le l
    have HLN := Lib.hid hlens
    have hmm : ∀ x : Int, (x != x) = false := fun x => by simp
    have HSP : Hid (∀ (B E1 : Option Addr) (c c1 : Nat) (W : World), RDas W W.heap.size B l → RPs e W W.heap.size E1 p.kids → Calls Tryz.prog 6 #[.slice B l.length c, .agg #[.int .i64 t.data, .int .i64 t.index], .agg #[.int .i64 p.op, .int .i64 p.ctor, .int .i64 p.n, .int .i64 p.m, .int .i64 p.var, .slice E1 p.kids.length c1]] W fun e' w' => ∃ A c, e' = .returned (.tuple #[.slice A (soR l t p).length c, .bool (soK l t p)]) ∧ RPs (e + 2) w' w'.heap.size A (soR l t p) ∧ Below W.heap.size W w') := fun B E1 c c1 W h h' => (so_spec B E1 l c c1 e t p W h h' hnpw).mono (by rintro e1 w1 ⟨A, c, rfl, h, hb⟩; exact ⟨A, c, rfl, OPs.reads _ h, hb⟩)
    have HIM : Hid (∀ (B E1 : Option Addr) (c c1 : Nat) (W : World), RDas W W.heap.size B l → RPs e W W.heap.size E1 p.kids → Calls Tryz.prog 10 #[.slice B l.length c, .agg #[.int .i64 t.data, .int .i64 t.index], .agg #[.int .i64 p.op, .int .i64 p.ctor, .int .i64 p.n, .int .i64 p.m, .int .i64 p.var, .slice E1 p.kids.length c1]] W fun e' w' => ∃ A c, e' = .returned (.tuple #[.slice A (soR l t p).length c, .bool (soK l t p)]) ∧ OPs (e + 3) w' (Nw W w') A (soR l t p) ∧ Below W.heap.size W w') := fun B E1 c c1 W h h' => so_impl B E1 l c c1 e t p W h h' hnpw
    have hst := soR_w l t p
    generalize soR l t p = S at HSP HIM hst
    generalize soK l t p = bb at HSP HIM
    have hbb : (bb != bb) = false := by simp
    have hws : wPs S ≤ 1048576 := by omega
    clear hlens
    go_enter Tryz.func3, Tryz.ntmps3
    go_wp2_with (first | (go_at_call 4; rw [HW.out]; refine (szDataS_any _ _ _ _ _ (Hr.out.at_ hb0) (by omega) (by omega)).mono ?_; rw [H1.out]; rintro e1 w1 ⟨rfl, hb1⟩; obtain ⟨y0, y1, y2, y3, y4, y5⟩ := HXP.out.at_ hb1; have hb1w := below_aft hb0 hb1 hb0.size) | (go_at_call 5; refine (szP_any e D p.kids ep p.op p.ctor p.n p.m p.var _ _ (HP.out.at_ hb1w) (by omega) (by omega)).mono ?_; rw [H2.out]; rintro e2 w2 ⟨rfl, hb2⟩; have hb2w := below_aft hb1w hb2 hb1w.size; have hb20 := below_aft hb1 hb2 hb1.size))
    have HKS : Hid (∀ W, Below w2.heap.size w2 W → W.cell? ⟨w.heap.size, 0, none⟩ = some (.int .i64 t.data) ∧ W.cell? ⟨w.heap.size, 1, none⟩ = some (.int .i64 t.index) ∧ W.cell? ⟨w.heap.size + 1, 0, none⟩ = some (.int .i64 p.op) ∧ W.cell? ⟨w.heap.size + 1, 1, none⟩ = some (.int .i64 p.ctor) ∧ W.cell? ⟨w.heap.size + 1, 2, none⟩ = some (.int .i64 p.n) ∧ W.cell? ⟨w.heap.size + 1, 3, none⟩ = some (.int .i64 p.m) ∧ W.cell? ⟨w.heap.size + 1, 4, none⟩ = some (.int .i64 p.var) ∧ W.cell? ⟨w.heap.size + 1, 5, none⟩ = some (.slice D p.kids.length ep)) := fun W h => by
      obtain ⟨a0, a1⟩ := HXT.out.at_ (below_aft hb20 h hb20.size)
      obtain ⟨c0, c1, c2, c3, c4, c5⟩ := HXP.out.at_ (below_aft hb20 h hb20.size)
      exact ⟨a0, a1, c0, c1, c2, c3, c4, c5⟩
    have SQ := HKS.out w2.drew (Below.refl _ w2).drew
    clear y0 y1 y2 y3 y4 y5 hb1 hb2
    go_region_held3 (fun w' => w'.cell? ⟨w.heap.size, 0, none⟩ = some (.int .i64 t.data) ∧ w'.cell? ⟨w.heap.size, 1, none⟩ = some (.int .i64 t.index) ∧ w'.cell? ⟨w.heap.size + 1, 0, none⟩ = some (.int .i64 p.op) ∧ w'.cell? ⟨w.heap.size + 1, 1, none⟩ = some (.int .i64 p.ctor) ∧ w'.cell? ⟨w.heap.size + 1, 2, none⟩ = some (.int .i64 p.n) ∧ w'.cell? ⟨w.heap.size + 1, 3, none⟩ = some (.int .i64 p.m) ∧ w'.cell? ⟨w.heap.size + 1, 4, none⟩ = some (.int .i64 p.var) ∧ w'.cell? ⟨w.heap.size + 1, 5, none⟩ = some (.slice D p.kids.length ep)) (with_reducible exact SQ) (first
        | (go_at_call 7; (with_reducible refine (toDataS_any _ _ _ w2.drew (Hr.out.at_ hb2w.drew) (by omega)).mono ?_); rintro e3 w3 ⟨g3, rfl, hf3, hb'⟩; have hbq : Below w2.heap.size w2 w3 := ⟨hb'.os, hb'.tape, hb'.output, hb'.size, hb'.block⟩; have SQ := HKS.out _ hbq; have R3 := Lib.hid hf3.reads; clear hf3 hb')
        | (go_at_call 8; (with_reducible refine (toType_any _ _ w3).mono ?_); rintro e4 w4 ⟨rfl, hb'⟩; have hbq := below_aft hbq hb' hbq.size; have SQ := HKS.out _ hbq; have R4 := Lib.hid (R3.out.at_ hb'); clear hb')
        | (go_at_call 9; (with_reducible refine (toPO_any e D p.kids ep p.op p.ctor p.n p.m p.var w4 (HP.out.at_ (below_aft hb2w hbq hb2w.size)) hnp).mono ?_); rintro e5 w5 ⟨A5, rfl, ho5, hb'⟩; have hbq := below_aft hbq hb' hbq.size; have SQ := HKS.out _ hbq; have R5 := Lib.hid (R4.out.at_ hb'); have V5 := Lib.hid (OPs.reads _ ho5); clear ho5 hb')
        | (go_at_call 6; (with_reducible refine (HSP.out _ _ _ _ w5 R5.out V5.out).mono ?_); rintro e7 w6 ⟨A6, c6, rfl, hr6, hb'⟩; have hbq := below_aft hbq hb' hbq.size; have SQ := HKS.out _ hbq; have Q6 := Lib.hid hr6; clear hr6 hb'))
    have hb6w := below_aft hb2w hbq hb2w.size
    have B26 := Lib.hid hbq
    have hs26 := hbq.size
    clear SQ hbq R3 R4 R5 V5
    go_wp2_with fail
    refine (toDataS_any _ _ _ _ (Hr.out.at_ hb6w) (by omega)).mono ?_; rintro e7 w7 ⟨g7, rfl, hf7, hb7'⟩
    have B67 := Lib.hid hb7'
    have R7 := Lib.hid hf7.reads
    have SH7 := Lib.hid hf7.shape
    have hb7w := below_aft hb6w hb7' hb6w.size
    have hs67 := hb7'.size
    have B27 := Lib.hid (below_aft B26.out hb7' hs26)
    clear hb7' hf7
    obtain ⟨_, _, y0, y1, y2, y3, y4, y5⟩ := HKS.out w7 B27.out
    go_wp2_with fail
    refine (toPO_any e D p.kids ep p.op p.ctor p.n p.m p.var w7 (HP.out.at_ hb7w) hnp).mono ?_; rintro e8 w8 ⟨A8, rfl, ho8, hb8'⟩
    have B78 := Lib.hid hb8'
    have hs78 := hb8'.size
    obtain ⟨wb, hwb⟩ : ∃ wb, wb = w8.alloc (.cells #[.int .i64 p.op, .int .i64 p.ctor, .int .i64 p.n, .int .i64 p.m, .int .i64 p.var, .slice A8 p.kids.length p.kids.length] 38) := ⟨_, rfl⟩
    have hb8b : Below w8.heap.size w8 wb := by rw [hwb]; exact (Below.refl _ _).alloc (Nat.le_refl _) _
    have X10 : Hid (PBx wb w8.heap.size p (.slice A8 p.kids.length p.kids.length)) := by rw [hwb]; exact ⟨by simp [go_sem], by simp [go_sem], by simp [go_sem], by simp [go_sem], by simp [go_sem], by simp [go_sem]⟩
    have O8 : Hid (OPs (e + 1) wb (Nw w7 w8) A8 p.kids) := ho8.later4 hb8b
    have hs8b : w8.heap.size < wb.heap.size := by rw [hwb]; simp
    have HWB := Lib.hid hwb
    have B7b := Lib.hid (below_aft B78.out hb8b hs78)
    have B6b := Lib.hid (below_aft B67.out B7b.out hs67)
    have B2b := Lib.hid (below_aft B27.out B7b.out B27.out.size)
    have hbbw := below_aft hb7w B7b.out hb7w.size
    have RD : Hid (RDas wb wb.heap.size (some ⟨g7, 0, none⟩) l) := R7.out.at_ B7b.out
    have RP : Hid (RPs e wb wb.heap.size A8 p.kids) := OPs.reads e O8.out
    clear hwb ho8 hb8' hb8b y0 y1 y2 y3 y4 y5
    have HKB : Hid (∀ W, Below wb.heap.size wb W → W.cell? ⟨w.heap.size, 0, none⟩ = some (.int .i64 t.data) ∧ W.cell? ⟨w.heap.size, 1, none⟩ = some (.int .i64 t.index) ∧ W.cell? ⟨w8.heap.size, 0, none⟩ = some (.int .i64 p.op) ∧ W.cell? ⟨w8.heap.size, 1, none⟩ = some (.int .i64 p.ctor) ∧ W.cell? ⟨w8.heap.size, 2, none⟩ = some (.int .i64 p.n) ∧ W.cell? ⟨w8.heap.size, 3, none⟩ = some (.int .i64 p.m) ∧ W.cell? ⟨w8.heap.size, 4, none⟩ = some (.int .i64 p.var) ∧ W.cell? ⟨w8.heap.size, 5, none⟩ = some (.slice A8 p.kids.length p.kids.length)) := fun W h => by
      obtain ⟨a0, a1, _⟩ := HKS.out W (below_aft B2b.out h B2b.out.size)
      obtain ⟨c0, c1, c2, c3, c4, c5⟩ := X10.out.at_ h
      exact ⟨a0, a1, c0, c1, c2, c3, c4, c5⟩
    have SQ := HKB.out wb.drew (Below.refl _ wb).drew
    go_wp2_with fail
    rw [← HWB.out]
    go_region_held3 (fun w' => w'.cell? ⟨w.heap.size, 0, none⟩ = some (.int .i64 t.data) ∧ w'.cell? ⟨w.heap.size, 1, none⟩ = some (.int .i64 t.index) ∧ w'.cell? ⟨w8.heap.size, 0, none⟩ = some (.int .i64 p.op) ∧ w'.cell? ⟨w8.heap.size, 1, none⟩ = some (.int .i64 p.ctor) ∧ w'.cell? ⟨w8.heap.size, 2, none⟩ = some (.int .i64 p.n) ∧ w'.cell? ⟨w8.heap.size, 3, none⟩ = some (.int .i64 p.m) ∧ w'.cell? ⟨w8.heap.size, 4, none⟩ = some (.int .i64 p.var) ∧ w'.cell? ⟨w8.heap.size, 5, none⟩ = some (.slice A8 p.kids.length p.kids.length)) (with_reducible exact SQ) (first
        | (go_at_call 8; (with_reducible refine (toType_any _ _ wb.drew).mono ?_); rintro e10 w9b ⟨rfl, hb'⟩; have hbq : Below wb.heap.size wb w9b := ⟨hb'.os, hb'.tape, hb'.output, hb'.size, hb'.block⟩; have SQ := HKB.out _ hbq; have hsc9 := hbq.size; clear hb')
        | (go_at_call 10; (with_reducible refine (HIM.out _ _ _ _ w9b (RD.out.at_ hbq) (RP.out.at_ hbq)).mono ?_); rintro e11 w10 ⟨A10, c10, rfl, ho10, hb'⟩; have hbq := below_aft hbq hb' hbq.size; have SQ := HKB.out _ hbq; have O10 := Lib.hid ho10; clear ho10 hb'))
    have hb10w := below_aft hbbw hbq hbbw.size
    have BC10 := Lib.hid hbq
    have B610 := Lib.hid (below_aft B6b.out hbq B6b.out.size)
    have hsc10 := hbq.size
    clear SQ hbq
    go_wp2_with fail
    refine (eqPs_any (e + 2) _ _ S _ _ w10 (OPs.reads _ O10.out) (Q6.out.at_ B610.out)).mono ?_; rintro e11 w11 ⟨rfl, hb11'⟩
    have hb11w := below_aft hb10w hb11' hb10w.size
    have BC11 := Lib.hid (below_aft BC10.out hb11' hsc10)
    have B611 := Lib.hid (below_aft B610.out hb11' B610.out.size)
    have O11 : Hid (OPs (e + 3) w11 (Nw w9b w10) A10 S) := O10.out.later4 hb11'
    clear hb11'
    go_wp2_with fail
    refine (toDataS_any _ _ _ _ (Hr.out.at_ hb11w) (by omega)).mono ?_; rintro e12 w12 ⟨g12, rfl, hf12, hb12'⟩
    have hb12w := below_aft hb11w hb12' hb11w.size
    have R12 := Lib.hid hf12.reads
    have BC12 := Lib.hid (below_aft BC11.out hb12' BC11.out.size)
    have B612 := Lib.hid (below_aft B611.out hb12' B611.out.size)
    have O12 : Hid (OPs (e + 3) w12 (Nw w9b w10) A10 S) := O11.out.later4 hb12'
    clear hb12' hf12
    go_wp2_with fail
    refine (eqDataS_same _ _ _ _ _ _ (RD.out.at_ BC12.out) R12.out).mono ?_; rintro e13 w13 ⟨rfl, hb13'⟩
    have hb13w := below_aft hb12w hb13' hb12w.size
    have BC13 := Lib.hid (below_aft BC12.out hb13' BC12.out.size)
    have B613 := Lib.hid (below_aft B612.out hb13' B612.out.size)
    have O13 : Hid (OPs (e + 3) w13 (Nw w9b w10) A10 S) := O12.out.later4 hb13'
    clear hb13' R12
    have HKC : Hid (∀ W, Below wb.heap.size wb W → W.cell? ⟨w8.heap.size, 0, none⟩ = some (.int .i64 p.op) ∧ W.cell? ⟨w8.heap.size, 1, none⟩ = some (.int .i64 p.ctor) ∧ W.cell? ⟨w8.heap.size, 2, none⟩ = some (.int .i64 p.n) ∧ W.cell? ⟨w8.heap.size, 3, none⟩ = some (.int .i64 p.m) ∧ W.cell? ⟨w8.heap.size, 4, none⟩ = some (.int .i64 p.var) ∧ W.cell? ⟨w8.heap.size, 5, none⟩ = some (.slice A8 p.kids.length p.kids.length) ∧ W.cell? ⟨w.heap.size + 1, 0, none⟩ = some (.int .i64 p.op) ∧ W.cell? ⟨w.heap.size + 1, 1, none⟩ = some (.int .i64 p.ctor) ∧ W.cell? ⟨w.heap.size + 1, 2, none⟩ = some (.int .i64 p.n) ∧ W.cell? ⟨w.heap.size + 1, 3, none⟩ = some (.int .i64 p.m) ∧ W.cell? ⟨w.heap.size + 1, 4, none⟩ = some (.int .i64 p.var) ∧ W.cell? ⟨w.heap.size + 1, 5, none⟩ = some (.slice D p.kids.length ep)) := fun W h => by
      obtain ⟨_, _, x0, x1, x2, x3, x4, x5⟩ := HKS.out W (below_aft B2b.out h B2b.out.size)
      obtain ⟨c0, c1, c2, c3, c4, c5⟩ := X10.out.at_ h
      exact ⟨c0, c1, c2, c3, c4, c5, x0, x1, x2, x3, x4, x5⟩
    have SQ := HKC.out w13.drew BC13.out.drew
    go_wp2_with fail
    go_region_held3 (fun w' => w'.cell? ⟨w8.heap.size, 0, none⟩ = some (.int .i64 p.op) ∧ w'.cell? ⟨w8.heap.size, 1, none⟩ = some (.int .i64 p.ctor) ∧ w'.cell? ⟨w8.heap.size, 2, none⟩ = some (.int .i64 p.n) ∧ w'.cell? ⟨w8.heap.size, 3, none⟩ = some (.int .i64 p.m) ∧ w'.cell? ⟨w8.heap.size, 4, none⟩ = some (.int .i64 p.var) ∧ w'.cell? ⟨w8.heap.size, 5, none⟩ = some (.slice A8 p.kids.length p.kids.length) ∧ w'.cell? ⟨w.heap.size + 1, 0, none⟩ = some (.int .i64 p.op) ∧ w'.cell? ⟨w.heap.size + 1, 1, none⟩ = some (.int .i64 p.ctor) ∧ w'.cell? ⟨w.heap.size + 1, 2, none⟩ = some (.int .i64 p.n) ∧ w'.cell? ⟨w.heap.size + 1, 3, none⟩ = some (.int .i64 p.m) ∧ w'.cell? ⟨w.heap.size + 1, 4, none⟩ = some (.int .i64 p.var) ∧ w'.cell? ⟨w.heap.size + 1, 5, none⟩ = some (.slice D p.kids.length ep)) (with_reducible exact SQ) (first
        | (go_at_call 9; (with_reducible refine (toPO_any e D p.kids ep p.op p.ctor p.n p.m p.var w13.drew (HP.out.at_ hb13w.drew) hnp).mono ?_); rintro e14 w14 ⟨A14, rfl, ho14, hb'⟩; have hb14' : Below w13.heap.size w13 w14 := ⟨hb'.os, hb'.tape, hb'.output, hb'.size, hb'.block⟩; have hbq := below_aft BC13.out hb14' BC13.out.size; have SQ := HKC.out _ hbq; have V14 := Lib.hid (OPs.reads _ ho14); clear ho14 hb')
        | (go_at_call 13; (with_reducible refine (eqP_same e _ _ p.kids _ _ p.op p.ctor p.n p.m p.var w14 (RP.out.at_ hbq) V14.out).mono ?_); rintro e15 w15 ⟨rfl, hb'⟩; have hb15' := below_aft hb14' hb' hb14'.size; have hbq := below_aft hbq hb' hbq.size; have SQ := HKC.out _ hbq; clear hb'))
    have hb17w := below_aft hb13w hb15' hb13w.size
    have BC17 := Lib.hid hbq
    have B617 := Lib.hid (below_aft B613.out hb15' B613.out.size)
    have O17 : Hid (OPs (e + 3) w15 (Nw w9b w10) A10 S) := O13.out.later4 hb15'
    have P17 : Hid (OPs (e + 1) w15 (Nw w7 w8) A8 p.kids) := O8.out.later4 hbq
    have X17 := Lib.hid (X10.out.at_ hbq)
    have hsc17 := hbq.size
    clear SQ hbq hb15' V14 hb14'
    have hlens := HLN.out
    go_wp2_with fail
    refine (markDataS_any _ l _ w6.heap.size w7.heap.size 1 _ B617.out.size hlens.1 hlens.2 (by omega) (by omega) (SH7.out.kept (Kept.below (below_aft B7b.out BC17.out B7b.out.size) hs67))).mono ?_; rintro e18 w18 ⟨rfl, hk18⟩
    have hb18w : Below w.heap.size w w18 := hb17w.trans (hk18.1.mono hb6w.size)
    have B618 : Hid (Below w6.heap.size w6 w18) := B617.out.trans hk18.1
    have F18 := Fr.kept hk18
    have hs1718 := hk18.1.size
    have P18 : Hid (OPs (e + 1) w18 (Nw w7 w8) A8 p.kids) := P17.out.fr _ F18 (fun b h1 h2 => by have := h1.1; have := h2.2; omega)
    have X18 := Lib.hid (X17.out.fr4 F18 (fun h2 => by have := h2.2; omega))
    have O18 : Hid (OPs (e + 3) w18 (Nw w9b w10) A10 S) := O17.out.fr _ F18 (fun b h1 h2 => by have := h1.1; have := h2.2; omega)
    clear hk18 F18
    obtain ⟨y0, y1, y2, y3, y4, y5⟩ := X18.out
    go_wp2_with fail
    refine (markP_any (e + 1) (Nw w7 w8) _ p.kids _ p.op p.ctor p.n p.m p.var _ w18 P18.out (fun b h => by have := h.2; omega) hnp (by omega) (by omega)).mono ?_; rintro e19 w20 ⟨rfl, _, hf20⟩
    have hn20 : ∀ b, b < w6.heap.size → ¬ Nw w7 w8 b := fun b h h2 => by have := h2.1; omega
    have hb20w : Below w.heap.size w w20 := hb18w.trans (hf20.to hb18w.size (fun b h => hn20 b (by have := hb6w.size; omega)))
    have B620 : Hid (Below w6.heap.size w6 w20) := B618.out.trans (hf20.to B618.out.size hn20)
    have O20 : Hid (OPs (e + 3) w20 (Nw w9b w10) A10 S) := O18.out.fr _ hf20 (fun b h1 h2 => by have := h1.1; have := h2.2; omega)
    have hkd : decide (1 + ((l.map mD).sum : Int) + 5 * (wPs p.kids : Int) < 0) = false := decide_eq_false (by omega)
    clear hf20 y0 y1 y2 y3 y4 y5
    go_wp2_with fail
    refine (eqPs_any (e + 2) _ _ S _ _ w20 (OPs.reads _ O20.out) (Q6.out.at_ B620.out)).mono ?_; rintro e21 w21 ⟨rfl, hb21'⟩
    have hb21w := below_aft hb20w hb21' hb20w.size
    have B621 := Lib.hid (below_aft B620.out hb21' B620.out.size)
    have O21 : Hid (OPs (e + 3) w21 (Nw w9b w10) A10 S) := O20.out.later4 hb21'
    clear hb21'
    go_wp2_with fail
    refine (mkP_any (e + 3) (Nw w9b w10) A10 S c10 1 w21 O21.out hws (by omega) (by omega)).mono ?_; rintro e22 w22 ⟨rfl, ho22, hf22⟩
    have hn22 : ∀ b, b < w6.heap.size → ¬ Nw w9b w10 b := fun b h h2 => by have := h2.1; have := B6b.out.size; omega
    have hb22w : Below w.heap.size w w22 := hb21w.trans (hf22.to hb21w.size (fun b h => hn22 b (by have := hb6w.size; omega)))
    have B622 : Hid (Below w6.heap.size w6 w22) := B621.out.trans (hf22.to B621.out.size hn22)
    have O22 := Lib.hid ho22
    have hqd : decide (1 + 5 * (wPs S : Int) < 0) = false := decide_eq_false (by omega)
    have hqm := hmm (1 + 5 * (wPs S : Int))
    clear hf22 ho22
    go_wp2_with fail
    refine (hdP_any (e + 2) A10 S c10 1 w22 (OPs.reads _ O22.out) hws (by omega) (by omega)).mono ?_; rintro e23 w23 ⟨rfl, rfl⟩
    have B222 := Lib.hid (below_aft B26.out B622.out hs26)
    have SQ := HKS.out w22.drew B222.out.drew
    go_wp2_with fail
    go_region_held3 (fun w' => w'.cell? ⟨w.heap.size, 0, none⟩ = some (.int .i64 t.data) ∧ w'.cell? ⟨w.heap.size, 1, none⟩ = some (.int .i64 t.index) ∧ w'.cell? ⟨w.heap.size + 1, 0, none⟩ = some (.int .i64 p.op) ∧ w'.cell? ⟨w.heap.size + 1, 1, none⟩ = some (.int .i64 p.ctor) ∧ w'.cell? ⟨w.heap.size + 1, 2, none⟩ = some (.int .i64 p.n) ∧ w'.cell? ⟨w.heap.size + 1, 3, none⟩ = some (.int .i64 p.m) ∧ w'.cell? ⟨w.heap.size + 1, 4, none⟩ = some (.int .i64 p.var) ∧ w'.cell? ⟨w.heap.size + 1, 5, none⟩ = some (.slice D p.kids.length ep)) (with_reducible exact SQ) (first
        | (go_at_call 7; (with_reducible refine (toDataS_any _ _ _ w22.drew (Hr.out.at_ hb22w.drew) (by omega)).mono ?_); rintro e3 w3 ⟨g3, rfl, hf3, hb'⟩; have hbz : Below w22.heap.size w22 w3 := ⟨hb'.os, hb'.tape, hb'.output, hb'.size, hb'.block⟩; have hbq := below_aft B222.out hbz B222.out.size; have SQ := HKS.out _ hbq; have R3 := Lib.hid hf3.reads; clear hf3 hb')
        | (go_at_call 8; (with_reducible refine (toType_any _ _ w3).mono ?_); rintro e4 w4 ⟨rfl, hb'⟩; have hbz := below_aft hbz hb' hbz.size; have hbq := below_aft B222.out hbz B222.out.size; have SQ := HKS.out _ hbq; have R4 := Lib.hid (R3.out.at_ hb'); clear hb')
        | (go_at_call 9; (with_reducible refine (toPO_any e D p.kids ep p.op p.ctor p.n p.m p.var w4 (HP.out.at_ (below_aft hb22w hbz hb22w.size)) hnp).mono ?_); rintro e5 w5 ⟨A5, rfl, ho5, hb'⟩; have hbz := below_aft hbz hb' hbz.size; have hbq := below_aft B222.out hbz B222.out.size; have SQ := HKS.out _ hbq; have R5 := Lib.hid (R4.out.at_ hb'); have V5 := Lib.hid (OPs.reads _ ho5); clear ho5 hb')
        | (go_at_call 10; (with_reducible refine (HIM.out _ _ _ _ w5 R5.out V5.out).mono ?_); rintro e24 w24 ⟨A24, c24, rfl, ho24, hb'⟩; have hbz := below_aft hbz hb' hbz.size; have hbq := below_aft B222.out hbz B222.out.size; have SQ := HKS.out _ hbq; have Q24 := Lib.hid (OPs.reads _ ho24); clear ho24 hb'))
    have hb24w := below_aft hb22w hbz hb22w.size
    have B624 := Lib.hid (below_aft B622.out hbz B622.out.size)
    have O24 : Hid (OPs (e + 3) w24 (Nw w9b w10) A10 (numPs 1 S)) := O22.out.later4 hbz
    clear SQ hbq hbz
    go_wp2_with fail
    refine (eqPs_any (e + 2) _ _ S _ _ w24 Q24.out (Q6.out.at_ B624.out)).mono ?_; rintro e25 w25 ⟨rfl, hb25'⟩
    have hb25w := below_aft hb24w hb25' hb24w.size
    have O25 : Hid (OPs (e + 3) w25 (Nw w9b w10) A10 (numPs 1 S)) := O24.out.later4 hb25'
    clear hb25'
    go_wp2_with fail
    refine (hdP_any (e + 2) A10 S c10 1 w25 (OPs.reads _ O25.out) hws (by omega) (by omega)).mono ?_; rintro e26 w26 ⟨rfl, rfl⟩
    go_wp2_with fail
    go_ret
    exact ⟨rfl, hb25w⟩
end Go.Proofs.YtbdiahnelnbdnaaGreat
/-
  What an argument that is a value reads as. No statement is proved here.
-/
namespace Go.Proofs.YtbdiahnelnbdnaaGreat
open Go.RowKit Go.Deep
open Go.ChangeShapes Go.WideShapes
set_option maxRecDepth 100000
set_option linter.unusedVariables false
section
variable {H : Type} {enc : TypeId × Value → H} {w : World} {spare : Nat → Bool} {held : Bool}
theorem field_atn {e : TypeId} {fs : Array Field} {fuel : Nat} {cs : List Value} {x : DataW H × List MemPlace} (he : Tryz.prog.underlying e = some (.struct fs)) (hone : oneCellFields Tryz.prog fs = true) (hlen : cs.length = fs.size)
    (h : DataW.trod enc Tryz.prog w 0 spare held fuel e cs = some x) :
    ∃ m, fuel = m + 1 ∧ ∀ (j : Nat) (f : Field), fs[j]? = some f → ∃ v y, cs[j]? = some v ∧ DataW.trod enc Tryz.prog w 0 spare held m f.type [v] = some y := by
  obtain ⟨ys, m, hfu, _, _, hyl, hf⟩ := DataW.trod_struct he h
  refine ⟨m, hfu, fun j f hj => ?_⟩
  obtain ⟨ho, hk⟩ := hone_of hone j f hj
  have hjl : j < fs.size := (Array.getElem?_eq_some_iff.1 hj).1
  have h1 := hf j f hj
  rw [ho, hk] at h1
  have hd : (cs.drop j).take 1 = [cs[j]'(by omega)] := by
    rw [List.drop_eq_getElem_cons (by omega)]; rfl
  rw [hd, List.getElem?_eq_getElem (by omega)] at h1
  exact ⟨_, _, List.getElem?_eq_getElem (by omega), h1⟩
theorem deep_all {P : Nat → Nat → Prop} (hup : ∀ i d d', d ≤ d' → P i d → P i d') : ∀ n, (∀ i, i < n → ∃ d, P i d) → ∃ D, ∀ i, i < n → P i D
  | 0, _ => ⟨0, fun i h => absurd h (Nat.not_lt_zero _)⟩
  | n + 1, h => by
    obtain ⟨D, hD⟩ := deep_all hup n (fun i hi => h i (by omega))
    obtain ⟨d, hd⟩ := h n (by omega)
    refine ⟨max D d, fun i hi => ?_⟩
    by_cases e : i = n
    · subst e; exact hup _ _ _ (Nat.le_max_right _ _) hd
    · exact hup _ _ _ (Nat.le_max_left _ _) (hD i (by omega))
end
end Go.Proofs.YtbdiahnelnbdnaaGreat
