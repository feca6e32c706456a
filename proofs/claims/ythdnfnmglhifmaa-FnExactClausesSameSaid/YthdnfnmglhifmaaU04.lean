/-
  Clauses: sizes, copies, comparison. No statement is proved here.
-/
import Derived.Test.YthdnfnmglhifmaaU01
import Derived.Test.YthdnfnmglhifmaaU02
import Derived.Test.YthdnfnmglhifmaaU00
import Derived.Laws.CopyOwn
import Derived.StillTailTactics
import Derived.Lib.AppendZerosOnto
import Derived.Laws.AppendOwnNone
import Derived.Outline
import Derived.Maps.OwnSet
import Derived.OwnWalk
import Derived.Laws.StructEq
import Derived.BigQuiet
import Derived.Lib.QuietBelow
import Derived.Deep.QuietTactic
import Derived.Deep.RegionHeld3
namespace Go.Proofs.Ythdnfnmglhifmaa
open Go.RowKit Go.Sort
set_option maxRecDepth 100000
set_option linter.unusedVariables false
theorem szC_any (d : Nat) (A : Option Addr) (l : List Pt) (cap : Nat) (x0 x1 x2 x3 x4 g0 g1 g2 q : Int) (w : World) (hr : RPs d w w.heap.size A l) (h0 : 0 ≤ q) (h1 : q ≤ 1048576) :
    Calls Try.prog 74 #[.agg #[.int .i64 x0, .int .i64 x1, .int .i64 x2, .int .i64 x3, .int .i64 x4, .slice A l.length cap, .int .i64 g0, .int .i64 g1, .int .i64 g2], .int .i64 q] w fun e w' => e = .returned (.int .i64 (left q (wPs l))) ∧ Below w.heap.size w w' := by
  have Hr := Lib.hid hr
  clear hr
  by_cases hc2 : (wPs l : Int) ≤ q
  · have H2 := Lib.hid (left_ok hc2)
    go_enter Try.func74, Try.ntmps74
    go_wp2_with (go_at_call 29; refine (szP_any d _ _ _ _ _ _ _ _ _ _ (by exact Hr.out.keep (fun p hp => World.cell?_alloc_lt _ _ _ hp) (by simp)) h0 h1).mono ?_; rw [H2.out]; rintro e w' ⟨rfl, hb⟩)
    go_ret
    exact ⟨ret_i64 (by rw [H2.out]), ((Below.refl _ _).alloc (Nat.le_refl _) _).trans (hb.mono (by simp))⟩
  · have H2 := Lib.hid (left_no hc2)
    go_enter Try.func74, Try.ntmps74
    go_wp2_with (go_at_call 29; refine (szP_any d _ _ _ _ _ _ _ _ _ _ (by exact Hr.out.keep (fun p hp => World.cell?_alloc_lt _ _ _ hp) (by simp)) h0 h1).mono ?_; rw [H2.out]; rintro e w' ⟨rfl, hb⟩)
    go_ret
    exact ⟨ret_i64 (by rw [H2.out]), ((Below.refl _ _).alloc (Nat.le_refl _) _).trans (hb.mono (by simp))⟩
theorem toG_any (g0 g1 g2 : Int) (w : World) : Calls Try.prog 104 #[.agg #[.int .i64 g0, .int .i64 g1, .int .i64 g2]] w fun e w' => e = .returned (.agg #[.int .i64 g0, .int .i64 g1, .int .i64 g2]) ∧ Below w.heap.size w w' := by
  go_enter Try.func104, Try.ntmps104
  go_wp2_with fail
  refine bodyPost_ret (v := .agg #[.int .i64 g0, .int .i64 g1, .int .i64 g2]) (by simp [results, Try.results104, go_sem]) rfl ⟨rfl, ?_⟩
  repeat (first | exact Below.refl _ _ | refine Below.setCell ?_ (by simp <;> omega) _ | refine Below.alloc ?_ (by simp <;> omega) _)
theorem eqG_same (g0 g1 g2 : Int) (w : World) : Calls Try.prog 105 #[.agg #[.int .i64 g0, .int .i64 g1, .int .i64 g2], .agg #[.int .i64 g0, .int .i64 g1, .int .i64 g2]] w fun e w' => e = .returned (.bool true) ∧ Below w.heap.size w w' := by
  go_enter Try.func105, Try.ntmps105
  go_wp2_with fail
  go_ret
  exact ⟨rfl, ((Below.refl _ _).alloc (Nat.le_refl _) _).alloc (by simp) _⟩
set_option maxHeartbeats 1600000 in
theorem eqC_same (d : Nat) (A A' : Option Addr) (l : List Pt) (cap cap' : Nat) (x0 x1 x2 x3 x4 g0 g1 g2 : Int) (w : World) (hr : RPs d w w.heap.size A l) (hr' : RPs d w w.heap.size A' l) :
    Calls Try.prog 78 #[.agg #[.int .i64 x0, .int .i64 x1, .int .i64 x2, .int .i64 x3, .int .i64 x4, .slice A l.length cap, .int .i64 g0, .int .i64 g1, .int .i64 g2], .agg #[.int .i64 x0, .int .i64 x1, .int .i64 x2, .int .i64 x3, .int .i64 x4, .slice A' l.length cap', .int .i64 g0, .int .i64 g1, .int .i64 g2]] w fun e w' => e = .returned (.bool true) ∧ Below w.heap.size w w' := by
  have Hr := Lib.hid hr
  have Hr' := Lib.hid hr'
  clear hr hr'
  go_enter Try.func78, Try.ntmps78
  go_wp2_with (first | (go_at_call 33; refine (eqP_same d _ _ l _ _ _ _ _ _ _ _ (by exact Hr.out.keep (keep_two _ _) (by simp; omega)) (by exact Hr'.out.keep (keep_two _ _) (by simp; omega))).mono ?_; rintro e w1 ⟨rfl, hb⟩; obtain ⟨hc, hfz⟩ := bcell hb; have hz : w.heap.size + 1 < w1.heap.size := by have := hb.size; simp at this; omega) | (go_at_call 105; refine (eqG_same _ _ _ _).mono ?_; rintro e w2 ⟨rfl, hb2⟩))
  go_ret
  exact ⟨rfl, (below_two hb).trans (hb2.mono (by have := (below_two hb).size; omega))⟩
set_option maxHeartbeats 3200000 in
theorem toC_any (d : Nat) (A : Option Addr) (l : List Pt) (cap : Nat) (x0 x1 x2 x3 x4 g0 g1 g2 : Int) (w : World) (hr : RPs d w w.heap.size A l) (hn : wPs l ≤ 1048576) :
    Calls Try.prog 75 #[.agg #[.int .i64 x0, .int .i64 x1, .int .i64 x2, .int .i64 x3, .int .i64 x4, .slice A l.length cap, .int .i64 g0, .int .i64 g1, .int .i64 g2]] w fun e w' => ∃ A2, e = .returned (.agg #[.int .i64 x0, .int .i64 x1, .int .i64 x2, .int .i64 x3, .int .i64 x4, .slice A2 l.length l.length, .int .i64 g0, .int .i64 g1, .int .i64 g2]) ∧ OPs (d + 1) w' (Nw w w') A2 l ∧ Below w.heap.size w w' := by
  have Hr := Lib.hid hr
  clear hr
  go_enter Try.func75, Try.ntmps75
  go_wp2_with (first | (go_at_call 31; refine (toPO_any d _ _ _ _ _ _ _ _ _ (by exact Hr.out.keep (fun p hp => by rw [World.cell?_alloc_lt _ _ _ (by simp <;> omega), World.cell?_alloc_lt _ _ _ (by simp <;> omega), World.cell?_alloc_lt _ _ _ hp]) (by simp <;> omega)) hn).mono ?_; rintro e w1 ⟨A2, rfl, hf, hb⟩; have HF := Lib.hid (OPs.reads d hf); obtain ⟨hc, hfz⟩ := bcell hb; have hz : w.heap.size + 2 < w1.heap.size := (by have := hb.size; simp at this; omega); have hza : w.heap.size + 1 + 1 < w1.heap.size := (by omega); have hzb : w.heap.size + 1 < w1.heap.size := (by omega); have hzc : w.heap.size < w1.heap.size := (by omega)) | (go_at_call 104; refine (toG_any _ _ _ _).mono ?_; rintro e w2 ⟨rfl, hb2⟩; obtain ⟨hc2, hfz2⟩ := bcell hb2; have hz2 : w.heap.size + 1 + 1 < w2.heap.size := by have := hb2.size; simp at this; omega))
  refine bodyPost_ret (v := .agg #[.int .i64 x0, .int .i64 x1, .int .i64 x2, .int .i64 x3, .int .i64 x4, .slice A2 l.length l.length, .int .i64 g0, .int .i64 g1, .int .i64 g2]) (by simp [results, Try.results75, go_sem, hc, hc2, hzb]) rfl ⟨A2, rfl, ?_, ?_⟩
  · refine (hf.fr _ (P' := fun b => b < w.heap.size + 3) ?_ (fun b hq => by have := hq.1; simp only [World.size_alloc] at this; omega)).wide _ (fun b hq => ⟨by have := hq.1; simp only [World.size_alloc] at this; omega, by have h2 := hq.2; have h3 := hb2.size; simp [World.setCell] at h3 ⊢; omega⟩)
    repeat (refine Fr.trans ?_ (Fr.set _ _ _ _ (by simp <;> omega)))
    refine Fr.trans ?_ (Fr.below hb2)
    repeat (refine Fr.trans ?_ (Fr.set _ _ _ _ (by simp <;> omega)))
    exact Fr.refl _ _
  · skip
    repeat (refine Below.setCell ?_ (by simp <;> omega) _)
    refine Below.trans ?_ (hb2.mono (by simp <;> omega))
    repeat (refine Below.setCell ?_ (by simp <;> omega) _)
    refine Below.trans ?_ (hb.mono (by simp <;> omega))
    refine Below.alloc (Below.alloc (Below.alloc (Below.refl _ _) ?_ _) ?_ _) ?_ _ <;> simp <;> omega
end Go.Proofs.Ythdnfnmglhifmaa
/-
  Lists of clauses: how they lie in memory, and what they hold. No statement is proved here.
-/
namespace Go.Proofs.Ythdnfnmglhifmaa
open Go.RowKit Go.Sort
set_option maxRecDepth 100000
set_option linter.unusedVariables false
structure Cn where
  pat : Pt
  g0 : Int
  g1 : Int
  g2 : Int
instance : Inhabited Cn := ⟨⟨default, 0, 0, 0⟩⟩
def wC (b : Cn) : Nat := wPs b.pat.kids
def wCs (l : List Cn) : Nat := l.length + (l.map wC).sum
def RCn (d : Nat) (w : World) (B b o : Nat) (x : Cn) : Prop := ∃ A' cap, w.cell? ⟨b, o, none⟩ = some (.int .i64 x.pat.op) ∧ w.cell? ⟨b, o + 1, none⟩ = some (.int .i64 x.pat.ctor) ∧ w.cell? ⟨b, o + 2, none⟩ = some (.int .i64 x.pat.n) ∧ w.cell? ⟨b, o + 3, none⟩ = some (.int .i64 x.pat.m) ∧ w.cell? ⟨b, o + 4, none⟩ = some (.int .i64 x.pat.var) ∧ w.cell? ⟨b, o + 5, none⟩ = some (.slice A' x.pat.kids.length cap) ∧ w.cell? ⟨b, o + 6, none⟩ = some (.int .i64 x.g0) ∧ w.cell? ⟨b, o + 7, none⟩ = some (.int .i64 x.g1) ∧ w.cell? ⟨b, o + 8, none⟩ = some (.int .i64 x.g2) ∧ RPs d w B A' x.pat.kids
def RCs (d : Nat) (w : World) (B : Nat) (A : Option Addr) (l : List Cn) : Prop := l.length ≤ maxLen ∧ ∀ k (h : k < l.length), ∃ b off, A = some ⟨b, off, none⟩ ∧ b < B ∧ RCn d w B b (off + k * 9) l[k]
section
variable {w w' : World} {B B' d : Nat} {A : Option Addr} {l : List Cn}
theorem RCn.keep {b o : Nat} {x : Cn} (h : RCn d w B b o x) (hb : b < B) (hk : ∀ p : Addr, p.block < B → w'.cell? p = w.cell? p) (hB : B ≤ B') : RCn d w' B' b o x := by
  obtain ⟨A', cap, h0, h1, h2, h3, h4, h5, h6, h7, h8, hv⟩ := h
  exact ⟨A', cap, (hk _ hb).trans h0, (hk _ hb).trans h1, (hk _ hb).trans h2, (hk _ hb).trans h3, (hk _ hb).trans h4, (hk _ hb).trans h5, (hk _ hb).trans h6, (hk _ hb).trans h7, (hk _ hb).trans h8, hv.keep hk hB⟩
theorem RCs.keep (h : RCs d w B A l) (hk : ∀ p : Addr, p.block < B → w'.cell? p = w.cell? p) (hB : B ≤ B') : RCs d w' B' A l :=
  ⟨h.1, fun k hk' => by
    obtain ⟨b, off, e, hb, hc⟩ := h.2 k hk'
    exact ⟨b, off, e, by omega, hc.keep hb hk hB⟩⟩
theorem RCs.below {B0 : Nat} (h : RCs d w B A l) (hb : Below B0 w w') (hB : B ≤ B0) : RCs d w' B A l := h.keep (fun _ hp => hb.cell (Nat.lt_of_lt_of_le hp hB)) (Nat.le_refl _)
theorem RCs.at_ (h : RCs d w w.heap.size A l) (hb : Below w.heap.size w w') : RCs d w' w'.heap.size A l := h.keep (fun _ hp => hb.cell hp) hb.size
theorem RCs.nil : RCs d w B A [] := ⟨Nat.zero_le _, fun k h => absurd h (Nat.not_lt_zero _)⟩
theorem RCn.more {d' b o : Nat} {x : Cn} (h : RCn d w B b o x) (hd : d ≤ d') : RCn d' w B b o x := by
  obtain ⟨A', cap, h0, h1, h2, h3, h4, h5, h6, h7, h8, hv⟩ := h
  exact ⟨A', cap, h0, h1, h2, h3, h4, h5, h6, h7, h8, hv.more hd⟩
end
set_option maxHeartbeats 1600000 in
theorem szCs_any (d : Nat) (A : Option Addr) (l : List Cn) (cap : Nat) (q0 : Int) (w : World) (hr : RCs d w w.heap.size A l) (h0 : 0 ≤ q0) (h1 : q0 ≤ 1048576) :
    Calls Try.prog 34 #[.slice A l.length cap, .int .i64 q0] w fun e w' => e = .returned (.int .i64 (left q0 (wCs l))) ∧ Below w.heap.size w w' := by
  have hn := hr.1
  unfold maxLen at hn
  have Hr := Lib.hid hr
  have HSum : Hid (wCs l = l.length + (l.map wC).sum) := rfl
  clear hr
  by_cases hc : (l.length : Int) ≤ q0
  · go_enter Try.func34, Try.ntmps34
    go_wp2_with fail
    go_loopw [1, 5] (fun t i wr => ∃ k : Nat, k ≤ l.length ∧ i = .int .i64 k ∧ ∃ q : Int, 0 ≤ q ∧ q ≤ 1048576 ∧ t = .int .i64 q ∧ Hid (q = q0 - (l.length + ((l.take k).map wC).sum : Nat)) ∧ Below w.heap.size w wr) (fun _ i _ => l.length - (intOf i).toNat)
    case atStart => exact ⟨0, by omega, rfl, _, by omega, by omega, rfl, by unfold Hid; simp, Below.refl _ _⟩
    case round =>
      obtain ⟨k, hk, rfl, q, hq0, hq1, rfl, HQ, hb⟩ := hrel
      by_cases hlt : k < l.length
      · obtain ⟨b, off, rfl, hbB, A', cp, c0, c1, c2, c3, c4, c5, c6, c7, c8, hm⟩ := (Hr.out.below hb (Nat.le_refl _)).2 k hlt
        have HSS := Lib.hid (sum_take_succ wC l k hlt)
        have HL := Lib.hid (sum_take_le wC l (k + 1))
        have HW : Hid (wC l[k] = wPs l[k].pat.kids) := rfl
        have Hm := Lib.hid (hm.keep (fun _ _ => rfl) hb.size)
        clear hm
        by_cases hc2 : (wPs l[k].pat.kids : Int) ≤ q
        · have H2 := Lib.hid (left_ok hc2)
          go_wp2_with (go_at_call 74; refine (szC_any d _ _ _ _ _ _ _ _ _ _ _ _ _ Hm.out (by omega) (by omega)).mono ?_; rw [H2.out]; rintro e w' ⟨rfl, hb'⟩)
          have hb2 := hb.trans (hb'.mono hb.size)
          go_roundw
          case rel => exact ⟨k + 1, by omega, by go_num, _, by omega, by omega, rfl, by unfold Hid; rw [HSS.out, HW.out, HQ.out]; omega, hb2⟩
          case measure => simp [intOf]; omega
        · have H2 := Lib.hid (left_no hc2)
          have H := Lib.hid (left_no (l := q0) (n := wCs l) (by rw [HSum.out]; rw [HQ.out] at hc2; rw [HSS.out, HW.out] at HL; have := HL.out; omega))
          go_wp2_with (go_at_call 74; refine (szC_any d _ _ _ _ _ _ _ _ _ _ _ _ _ Hm.out (by omega) (by omega)).mono ?_; rw [H2.out]; rintro e w' ⟨rfl, hb'⟩)
          have hb2 := hb.trans (hb'.mono hb.size)
          go_ret
          exact ⟨ret_i64 (by rw [H.out]), hb2⟩
      · go_wp2_with fail
        go_ret
        refine ⟨ret_i64 ?_, hb⟩
        have h2 := HQ.out
        rw [List.take_of_length_le (by omega), ← HSum.out] at h2
        rw [left_ok (by omega)]
        exact h2
  · have H := Lib.hid (left_no (l := q0) (n := wCs l) (by rw [HSum.out]; omega))
    go_enter Try.func34, Try.ntmps34
    go_wp2_with fail
    go_ret
    exact ⟨ret_i64 (by rw [H.out]), Below.refl _ _⟩
end Go.Proofs.Ythdnfnmglhifmaa
/-
  The types of the parts of a pattern: the program's function. No statement is proved here.
-/
namespace Go.Proofs.Ythdnfnmglhifmaa
open Go.RowKit Go.Sort Go.Deep
set_option maxRecDepth 100000
set_option linter.unusedVariables false
section
variable {P : Program} {ops : Array Oper} {Q : Exit → Act → World → Prop} {md : Region.Mode} {S : World → Prop}
theorem held_take {i : Nat} {oi : Oper} {d : Option Tmp} {v : Value} {n : Nat} {ls ls' : Array Bool} {a : Act} {w : World} (hi : ops[i]? = some oi) (hd : ops[i]?.map (fun o => o.dst) = some d) (hs : Region.noSelect ops = true) (hf : Region.free md ops ls i = true)
    (hr : (Region.ready md ops ls).contains i = true) (hQ : ∀ c a w, Q (.panic c) (a.put d v) w → Q (.panic c) a w) (hS : S w) (hl : ls.setIfInBounds i true = ls') (hy : YieldsIf P ops S oi v a)
    (h : wpAnyH P md ops Q S n ls' (a.put d v) w) : wpAnyH P md ops Q S (n + 1) ls a w := by
  have e : oi.dst = d := by rw [hi] at hd; injection hd
  subst e hl
  exact wpAnyH_take hi hs hf hr hQ hy hS h
end
end Go.Proofs.Ythdnfnmglhifmaa
/-
  When a guard is right for the variables of a pattern: both functions. No statement is proved here.
-/
namespace Go.Proofs.Ythdnfnmglhifmaa
open Go.RowKit Go.Sort Go.Deep
set_option maxRecDepth 100000
set_option linter.unusedVariables false
theorem guardGd (x y : Operand) (xs ys : Array Value) (w : World) : (eqGuard .eql 47 x y (.agg xs) (.agg ys)).run Try.prog w = .ok () w := run_eqGuard_agg (P := Try.prog) w .eql 47 x y xs ys (by kernel_rfl)
end Go.Proofs.Ythdnfnmglhifmaa
/-
  ClausesSame of the document. No statement is proved here.
-/
namespace Go.Proofs.Ythdnfnmglhifmaa
open Go.RowKit Go.Sort Go.Deep
set_option maxRecDepth 100000
set_option linter.unusedVariables false
theorem neqGd (a b c a' b' c' : Int) (w : World) : (Go.binOp .neq 47 (.agg #[.int .i64 a, .int .i64 b, .int .i64 c]) (.agg #[.int .i64 a', .int .i64 b', .int .i64 c'])).run Try.prog w = .ok (.bool (!decide (a = a' ∧ b = b' ∧ c = c'))) w := by
  have hS : Try.prog.underlying 47 = some (.struct (Try.prog.fieldsOf 47)) := by kernel_rfl
  have hp : Try.prog.stoodInHeld 47 = false := by kernel_rfl
  have u3 := Try.underlying3
  have a3 := Try.isAgg3
  have z3 := Try.sizeOf3
  rw [run_neq_struct, show (10000 : Nat) = 9999 + 1 from rfl, run_equalIn_agg w 9999 47 _ _ hS hp]
  simp only [Program.fieldsOf, Try.underlying47]
  go_simp
  by_cases h1 : a = a' <;> by_cases h2 : b = b' <;> by_cases h3 : c = c' <;> simp_all
theorem guardGdN (x y : Operand) (xs ys : Array Value) (w : World) : (eqGuard .neq 47 x y (.agg xs) (.agg ys)).run Try.prog w = .ok () w := run_eqGuard_agg (P := Try.prog) w .neq 47 x y xs ys (by kernel_rfl)
def AllE (l m : List Cn) (k : Nat) : Prop := ∀ j (h : j < l.length) (h' : j < m.length), j < k → l[j] = m[j]
theorem AllE.zero {l m : List Cn} : AllE l m 0 := fun j _ _ h => absurd h (by omega)
theorem AllE.step {l m : List Cn} {k : Nat} (h : AllE l m k) (hk : k < l.length) (hk' : k < m.length) (e : l[k] = m[k]) : AllE l m (k + 1) := by
  intro j hj hj' hjk
  by_cases e' : j = k
  · subst e'; exact e
  · exact h j hj hj' (by omega)
theorem AllE.all {l m : List Cn} (h : AllE l m l.length) (hl : l.length = m.length) : l = m := List.ext_getElem hl (fun i a b => h i a b a)
theorem cn_eq {x y : Cn} (hp : x.pat = y.pat) (hg : x.g0 = y.g0 ∧ x.g1 = y.g1 ∧ x.g2 = y.g2) : x = y := by
  cases x; cases y
  simp only at hp hg
  obtain ⟨h0, h1, h2⟩ := hg
  subst hp h0 h1 h2
  rfl
theorem eqGd2 (a b c a' b' c' : Int) (w : World) : (Go.binOp .eql 47 (.agg #[.int .i64 a, .int .i64 b, .int .i64 c]) (.agg #[.int .i64 a', .int .i64 b', .int .i64 c'])).run Try.prog w = .ok (.bool (decide (a = a' ∧ b = b' ∧ c = c'))) w := by
  have hS : Try.prog.underlying 47 = some (.struct (Try.prog.fieldsOf 47)) := by kernel_rfl
  have hp : Try.prog.stoodInHeld 47 = false := by kernel_rfl
  have u3 := Try.underlying3
  have a3 := Try.isAgg3
  have z3 := Try.sizeOf3
  rw [run_eql_struct, show (10000 : Nat) = 9999 + 1 from rfl, run_equalIn_agg w 9999 47 _ _ hS hp]
  simp only [Program.fieldsOf, Try.underlying47]
  go_simp
  by_cases h1 : a = a' <;> by_cases h2 : b = b' <;> by_cases h3 : c = c' <;> simp_all
set_option maxHeartbeats 16000000 in
theorem csm_spec (d d' : Nat) (A A' : Option Addr) (l m : List Cn) (cap cap' : Nat) (w : World) (hr : RCs d w w.heap.size A l) (hr' : RCs d' w w.heap.size A' m) :
    Calls Try.prog 35 #[.slice A l.length cap, .slice A' m.length cap'] w fun e w' => e = .returned (.bool (dec (l = m))) ∧ Below w.heap.size w w' := by
  have hn := hr.1
  have hn' := hr'.1
  unfold maxLen at hn hn'
  have Hr := Lib.hid hr
  have Hr' := Lib.hid hr'
  clear hr hr'
  by_cases hl : (l.length : Int) = (m.length : Int)
  · have u := ine_f hl
    have hlen : l.length = m.length := by omega
    have HL := Lib.hid hlen
    clear hl hlen
    have hgN := guardGdN
    go_enter Try.func35, Try.ntmps35
    go_wp2_with fail
    clear u
    go_loopw [5] (fun i wr => ∃ k : Nat, k ≤ l.length ∧ i = .int .i64 k ∧ Hid (AllE l m k) ∧ Below w.heap.size w wr) (fun i _ => l.length - (intOf i).toNat)
    case atStart => exact ⟨0, by omega, rfl, AllE.zero, Below.refl _ _⟩
    case round =>
      obtain ⟨k, hk, rfl, hno, hb⟩ := hrel
      by_cases hlt : k < l.length
      · have hlq : k < m.length := by have := HL.out; omega
        obtain ⟨b, off, rfl, hbB, B1, cp, c0, c1, c2, c3, c4, c5, c6, c7, c8, hm⟩ := (Hr.out.below hb (Nat.le_refl _)).2 k hlt
        obtain ⟨b', off', rfl, hbB', B2, cp', c0q, c1q, c2q, c3q, c4q, c5q, c6q, c7q, c8q, hm'⟩ := (Hr'.out.below hb (Nat.le_refl _)).2 k hlq
        have hsb := hb.size
        have hbr : b < wr.heap.size := by omega
        have hbr' : b' < wr.heap.size := by omega
        have HKS : Hid (∀ W, Below wr.heap.size wr W → W.cell? ⟨b, off + k * 9, none⟩ = some (.int .i64 l[k].pat.op) ∧ W.cell? ⟨b, off + k * 9 + 1, none⟩ = some (.int .i64 l[k].pat.ctor) ∧ W.cell? ⟨b, off + k * 9 + 2, none⟩ = some (.int .i64 l[k].pat.n) ∧ W.cell? ⟨b, off + k * 9 + 3, none⟩ = some (.int .i64 l[k].pat.m) ∧ W.cell? ⟨b, off + k * 9 + 4, none⟩ = some (.int .i64 l[k].pat.var) ∧ W.cell? ⟨b, off + k * 9 + 5, none⟩ = some (.slice B1 l[k].pat.kids.length cp) ∧ W.cell? ⟨b, off + k * 9 + 6, none⟩ = some (.int .i64 l[k].g0) ∧ W.cell? ⟨b, off + k * 9 + 6 + 1, none⟩ = some (.int .i64 l[k].g1) ∧ W.cell? ⟨b, off + k * 9 + 6 + 2, none⟩ = some (.int .i64 l[k].g2) ∧ W.cell? ⟨b', off' + k * 9, none⟩ = some (.int .i64 m[k].pat.op) ∧ W.cell? ⟨b', off' + k * 9 + 1, none⟩ = some (.int .i64 m[k].pat.ctor) ∧ W.cell? ⟨b', off' + k * 9 + 2, none⟩ = some (.int .i64 m[k].pat.n) ∧ W.cell? ⟨b', off' + k * 9 + 3, none⟩ = some (.int .i64 m[k].pat.m) ∧ W.cell? ⟨b', off' + k * 9 + 4, none⟩ = some (.int .i64 m[k].pat.var) ∧ W.cell? ⟨b', off' + k * 9 + 5, none⟩ = some (.slice B2 m[k].pat.kids.length cp') ∧ W.cell? ⟨b', off' + k * 9 + 6, none⟩ = some (.int .i64 m[k].g0) ∧ W.cell? ⟨b', off' + k * 9 + 6 + 1, none⟩ = some (.int .i64 m[k].g1) ∧ W.cell? ⟨b', off' + k * 9 + 6 + 2, none⟩ = some (.int .i64 m[k].g2)) := fun W h => ⟨(h.cell (p := ⟨b, _, none⟩) hbr).trans c0, (h.cell (p := ⟨b, _, none⟩) hbr).trans c1, (h.cell (p := ⟨b, _, none⟩) hbr).trans c2, (h.cell (p := ⟨b, _, none⟩) hbr).trans c3, (h.cell (p := ⟨b, _, none⟩) hbr).trans c4, (h.cell (p := ⟨b, _, none⟩) hbr).trans c5, (h.cell (p := ⟨b, _, none⟩) hbr).trans c6, (h.cell (p := ⟨b, _, none⟩) hbr).trans c7, (h.cell (p := ⟨b, _, none⟩) hbr).trans c8, (h.cell (p := ⟨b', _, none⟩) hbr').trans c0q, (h.cell (p := ⟨b', _, none⟩) hbr').trans c1q, (h.cell (p := ⟨b', _, none⟩) hbr').trans c2q, (h.cell (p := ⟨b', _, none⟩) hbr').trans c3q, (h.cell (p := ⟨b', _, none⟩) hbr').trans c4q, (h.cell (p := ⟨b', _, none⟩) hbr').trans c5q, (h.cell (p := ⟨b', _, none⟩) hbr').trans c6q, (h.cell (p := ⟨b', _, none⟩) hbr').trans c7q, (h.cell (p := ⟨b', _, none⟩) hbr').trans c8q⟩
        have Hm := Lib.hid (hm.keep (fun _ _ => rfl) hb.size)
        have Hm' := Lib.hid (hm'.keep (fun _ _ => rfl) hb.size)
        clear c0 c0q c1 c1q c2 c2q c3 c3q c4 c4q c5 c5q c6 c6q c7 c7q c8 c8q hm hm'
        have hi : (k : Int) < (l.length : Int) := by omega
        have hiq : (k : Int) < (m.length : Int) := by omega
        have hq := fun w => neqGd l[k].g0 l[k].g1 l[k].g2 m[k].g0 m[k].g1 m[k].g2 w
        by_cases hg : l[k].g0 = m[k].g0 ∧ l[k].g1 = m[k].g1 ∧ l[k].g2 = m[k].g2
        · rw [decide_eq_true hg] at hq
          by_cases hs : l[k].pat = m[k].pat
          · have HD : Hid (dec (l[k].pat = m[k].pat) = true) := dec_t hs
            have HN := Lib.hid (hno.out.step hlt hlq (cn_eq hs hg))
            clear hs hno hg
            have HPS : Hid (∀ W, Below wr.heap.size wr W → Calls Try.prog 30 #[.agg #[.int .i64 l[k].pat.op, .int .i64 l[k].pat.ctor, .int .i64 l[k].pat.n, .int .i64 l[k].pat.m, .int .i64 l[k].pat.var, .slice B1 l[k].pat.kids.length cp], .agg #[.int .i64 m[k].pat.op, .int .i64 m[k].pat.ctor, .int .i64 m[k].pat.n, .int .i64 m[k].pat.m, .int .i64 m[k].pat.var, .slice B2 m[k].pat.kids.length cp']] W fun e' w' => e' = .returned (.bool true) ∧ Below W.heap.size W w') := fun W h => by
              have h1 := ps_spec d d' B1 B2 l[k].pat m[k].pat cp cp' W (Hm.out.at_ h) (Hm'.out.at_ h)
              rw [HD.out] at h1
              exact h1
            have SQ := HKS.out wr.drew (Below.refl _ wr).drew
            go_wp2_with fail
            go_region_held3 (fun w' => w'.cell? ⟨b, off + k * 9, none⟩ = some (.int .i64 l[k].pat.op) ∧ w'.cell? ⟨b, off + k * 9 + 1, none⟩ = some (.int .i64 l[k].pat.ctor) ∧ w'.cell? ⟨b, off + k * 9 + 2, none⟩ = some (.int .i64 l[k].pat.n) ∧ w'.cell? ⟨b, off + k * 9 + 3, none⟩ = some (.int .i64 l[k].pat.m) ∧ w'.cell? ⟨b, off + k * 9 + 4, none⟩ = some (.int .i64 l[k].pat.var) ∧ w'.cell? ⟨b, off + k * 9 + 5, none⟩ = some (.slice B1 l[k].pat.kids.length cp) ∧ w'.cell? ⟨b, off + k * 9 + 6, none⟩ = some (.int .i64 l[k].g0) ∧ w'.cell? ⟨b, off + k * 9 + 6 + 1, none⟩ = some (.int .i64 l[k].g1) ∧ w'.cell? ⟨b, off + k * 9 + 6 + 2, none⟩ = some (.int .i64 l[k].g2) ∧ w'.cell? ⟨b', off' + k * 9, none⟩ = some (.int .i64 m[k].pat.op) ∧ w'.cell? ⟨b', off' + k * 9 + 1, none⟩ = some (.int .i64 m[k].pat.ctor) ∧ w'.cell? ⟨b', off' + k * 9 + 2, none⟩ = some (.int .i64 m[k].pat.n) ∧ w'.cell? ⟨b', off' + k * 9 + 3, none⟩ = some (.int .i64 m[k].pat.m) ∧ w'.cell? ⟨b', off' + k * 9 + 4, none⟩ = some (.int .i64 m[k].pat.var) ∧ w'.cell? ⟨b', off' + k * 9 + 5, none⟩ = some (.slice B2 m[k].pat.kids.length cp') ∧ w'.cell? ⟨b', off' + k * 9 + 6, none⟩ = some (.int .i64 m[k].g0) ∧ w'.cell? ⟨b', off' + k * 9 + 6 + 1, none⟩ = some (.int .i64 m[k].g1) ∧ w'.cell? ⟨b', off' + k * 9 + 6 + 2, none⟩ = some (.int .i64 m[k].g2)) (with_reducible exact SQ) (first
              | (go_at_call 30; (with_reducible refine (HPS.out wr.drew (Below.refl _ wr).drew).mono ?_); rintro e3 w3 ⟨rfl, hb'⟩; have hbq : Below wr.heap.size wr w3 := ⟨hb'.os, hb'.tape, hb'.output, hb'.size, hb'.block⟩; have SQ := HKS.out _ hbq; clear hb'))
            clear SQ
            have hb2 := hb.trans (hbq.mono hb.size)
            go_wp2_with fail
            go_roundw
            case rel => exact ⟨k + 1, by omega, by go_num, HN, hb2⟩
            case measure => simp [intOf]; omega
          · have HD : Hid (dec (l[k].pat = m[k].pat) = false) := dec_f hs
            have HF : Hid (dec (l = m) = false) := dec_f (fun h => hs (by subst h; rfl))
            clear hs hno hg
            have HPS : Hid (∀ W, Below wr.heap.size wr W → Calls Try.prog 30 #[.agg #[.int .i64 l[k].pat.op, .int .i64 l[k].pat.ctor, .int .i64 l[k].pat.n, .int .i64 l[k].pat.m, .int .i64 l[k].pat.var, .slice B1 l[k].pat.kids.length cp], .agg #[.int .i64 m[k].pat.op, .int .i64 m[k].pat.ctor, .int .i64 m[k].pat.n, .int .i64 m[k].pat.m, .int .i64 m[k].pat.var, .slice B2 m[k].pat.kids.length cp']] W fun e' w' => e' = .returned (.bool false) ∧ Below W.heap.size W w') := fun W h => by
              have h1 := ps_spec d d' B1 B2 l[k].pat m[k].pat cp cp' W (Hm.out.at_ h) (Hm'.out.at_ h)
              rw [HD.out] at h1
              exact h1
            have SQ := HKS.out wr.drew (Below.refl _ wr).drew
            go_wp2_with fail
            go_region_held3 (fun w' => w'.cell? ⟨b, off + k * 9, none⟩ = some (.int .i64 l[k].pat.op) ∧ w'.cell? ⟨b, off + k * 9 + 1, none⟩ = some (.int .i64 l[k].pat.ctor) ∧ w'.cell? ⟨b, off + k * 9 + 2, none⟩ = some (.int .i64 l[k].pat.n) ∧ w'.cell? ⟨b, off + k * 9 + 3, none⟩ = some (.int .i64 l[k].pat.m) ∧ w'.cell? ⟨b, off + k * 9 + 4, none⟩ = some (.int .i64 l[k].pat.var) ∧ w'.cell? ⟨b, off + k * 9 + 5, none⟩ = some (.slice B1 l[k].pat.kids.length cp) ∧ w'.cell? ⟨b, off + k * 9 + 6, none⟩ = some (.int .i64 l[k].g0) ∧ w'.cell? ⟨b, off + k * 9 + 6 + 1, none⟩ = some (.int .i64 l[k].g1) ∧ w'.cell? ⟨b, off + k * 9 + 6 + 2, none⟩ = some (.int .i64 l[k].g2) ∧ w'.cell? ⟨b', off' + k * 9, none⟩ = some (.int .i64 m[k].pat.op) ∧ w'.cell? ⟨b', off' + k * 9 + 1, none⟩ = some (.int .i64 m[k].pat.ctor) ∧ w'.cell? ⟨b', off' + k * 9 + 2, none⟩ = some (.int .i64 m[k].pat.n) ∧ w'.cell? ⟨b', off' + k * 9 + 3, none⟩ = some (.int .i64 m[k].pat.m) ∧ w'.cell? ⟨b', off' + k * 9 + 4, none⟩ = some (.int .i64 m[k].pat.var) ∧ w'.cell? ⟨b', off' + k * 9 + 5, none⟩ = some (.slice B2 m[k].pat.kids.length cp') ∧ w'.cell? ⟨b', off' + k * 9 + 6, none⟩ = some (.int .i64 m[k].g0) ∧ w'.cell? ⟨b', off' + k * 9 + 6 + 1, none⟩ = some (.int .i64 m[k].g1) ∧ w'.cell? ⟨b', off' + k * 9 + 6 + 2, none⟩ = some (.int .i64 m[k].g2)) (with_reducible exact SQ) (first
              | (go_at_call 30; (with_reducible refine (HPS.out wr.drew (Below.refl _ wr).drew).mono ?_); rintro e3 w3 ⟨rfl, hb'⟩; have hbq : Below wr.heap.size wr w3 := ⟨hb'.os, hb'.tape, hb'.output, hb'.size, hb'.block⟩; have SQ := HKS.out _ hbq; clear hb'))
            clear SQ
            have hb2 := hb.trans (hbq.mono hb.size)
            go_wp2_with fail
            go_ret
            exact ⟨ret_bool HF.out.symm, hb2⟩
        · rw [decide_eq_false hg] at hq
          have HF : Hid (dec (l = m) = false) := dec_f (fun h => hg (by subst h; exact ⟨rfl, rfl, rfl⟩))
          clear hno hg
          have SQ := HKS.out wr.drew (Below.refl _ wr).drew
          go_wp2_with fail
          refine wp_region_held_drew (S := fun w' => w'.cell? ⟨b, off + k * 9, none⟩ = some (.int .i64 l[k].pat.op) ∧ w'.cell? ⟨b, off + k * 9 + 1, none⟩ = some (.int .i64 l[k].pat.ctor) ∧ w'.cell? ⟨b, off + k * 9 + 2, none⟩ = some (.int .i64 l[k].pat.n) ∧ w'.cell? ⟨b, off + k * 9 + 3, none⟩ = some (.int .i64 l[k].pat.m) ∧ w'.cell? ⟨b, off + k * 9 + 4, none⟩ = some (.int .i64 l[k].pat.var) ∧ w'.cell? ⟨b, off + k * 9 + 5, none⟩ = some (.slice B1 l[k].pat.kids.length cp) ∧ w'.cell? ⟨b, off + k * 9 + 6, none⟩ = some (.int .i64 l[k].g0) ∧ w'.cell? ⟨b, off + k * 9 + 6 + 1, none⟩ = some (.int .i64 l[k].g1) ∧ w'.cell? ⟨b, off + k * 9 + 6 + 2, none⟩ = some (.int .i64 l[k].g2) ∧ w'.cell? ⟨b', off' + k * 9, none⟩ = some (.int .i64 m[k].pat.op) ∧ w'.cell? ⟨b', off' + k * 9 + 1, none⟩ = some (.int .i64 m[k].pat.ctor) ∧ w'.cell? ⟨b', off' + k * 9 + 2, none⟩ = some (.int .i64 m[k].pat.n) ∧ w'.cell? ⟨b', off' + k * 9 + 3, none⟩ = some (.int .i64 m[k].pat.m) ∧ w'.cell? ⟨b', off' + k * 9 + 4, none⟩ = some (.int .i64 m[k].pat.var) ∧ w'.cell? ⟨b', off' + k * 9 + 5, none⟩ = some (.slice B2 m[k].pat.kids.length cp') ∧ w'.cell? ⟨b', off' + k * 9 + 6, none⟩ = some (.int .i64 m[k].g0) ∧ w'.cell? ⟨b', off' + k * 9 + 6 + 1, none⟩ = some (.int .i64 m[k].g1) ∧ w'.cell? ⟨b', off' + k * 9 + 6 + 2, none⟩ = some (.int .i64 m[k].g2)) (by kernel_rfl) SQ (fun hHeld => ?_)
          refine held_take (i := 0) (d := some 17) (v := .slice (some ⟨b, off, none⟩) l.length cap) (ls' := #[true, false, false, false, false, false, false, false, false, false, false, false, false, false, false, false, false, false, false, false, false, false, false, false, false]) rfl rfl (by kernel_rfl) (by kernel_rfl) (by kernel_rfl) (fun _ _ _ h => h) hHeld rfl (Or.inl ⟨by rfl, fun wq hSw => ?_⟩) ?_
          · obtain ⟨hs0, hs1, hs2, hs3, hs4, hs5, hs6, hs7, hs8, hs9, hs10, hs11, hs12, hs13, hs14, hs15, hs16, hs17⟩ := hSw
            go_simp
          simp only [Act.put, List.setIfInBounds_toArray, List.set_cons_zero, List.set_cons_succ]
          refine held_take (i := 1) (d := some 18) (v := .int .i64 k) (ls' := #[true, true, false, false, false, false, false, false, false, false, false, false, false, false, false, false, false, false, false, false, false, false, false, false, false]) rfl rfl (by kernel_rfl) (by kernel_rfl) (by kernel_rfl) (fun _ _ _ h => h) hHeld rfl (Or.inl ⟨by rfl, fun wq hSw => ?_⟩) ?_
          · obtain ⟨hs0, hs1, hs2, hs3, hs4, hs5, hs6, hs7, hs8, hs9, hs10, hs11, hs12, hs13, hs14, hs15, hs16, hs17⟩ := hSw
            go_simp
          simp only [Act.put, List.setIfInBounds_toArray, List.set_cons_zero, List.set_cons_succ]
          refine held_take (i := 2) (d := some 19) (v := .pointer (some ⟨b, off + k * 9, none⟩)) (ls' := #[true, true, true, false, false, false, false, false, false, false, false, false, false, false, false, false, false, false, false, false, false, false, false, false, false]) rfl rfl (by kernel_rfl) (by kernel_rfl) (by kernel_rfl) (fun _ _ _ h => h) hHeld rfl (Or.inl ⟨by rfl, fun wq hSw => ?_⟩) ?_
          · obtain ⟨hs0, hs1, hs2, hs3, hs4, hs5, hs6, hs7, hs8, hs9, hs10, hs11, hs12, hs13, hs14, hs15, hs16, hs17⟩ := hSw
            go_simp
          simp only [Act.put, List.setIfInBounds_toArray, List.set_cons_zero, List.set_cons_succ]
          refine held_take (i := 3) (d := some 20) (v := .pointer (some ⟨b, off + k * 9 + 6, none⟩)) (ls' := #[true, true, true, true, false, false, false, false, false, false, false, false, false, false, false, false, false, false, false, false, false, false, false, false, false]) rfl rfl (by kernel_rfl) (by kernel_rfl) (by kernel_rfl) (fun _ _ _ h => h) hHeld rfl (Or.inl ⟨by rfl, fun wq hSw => ?_⟩) ?_
          · obtain ⟨hs0, hs1, hs2, hs3, hs4, hs5, hs6, hs7, hs8, hs9, hs10, hs11, hs12, hs13, hs14, hs15, hs16, hs17⟩ := hSw
            go_simp
          simp only [Act.put, List.setIfInBounds_toArray, List.set_cons_zero, List.set_cons_succ]
          refine held_take (i := 4) (d := some 21) (v := .agg #[.int .i64 l[k].g0, .int .i64 l[k].g1, .int .i64 l[k].g2]) (ls' := #[true, true, true, true, true, false, false, false, false, false, false, false, false, false, false, false, false, false, false, false, false, false, false, false, false]) rfl rfl (by kernel_rfl) (by kernel_rfl) (by kernel_rfl) (fun _ _ _ h => h) hHeld rfl (Or.inl ⟨by rfl, fun wq hSw => ?_⟩) ?_
          · obtain ⟨hs0, hs1, hs2, hs3, hs4, hs5, hs6, hs7, hs8, hs9, hs10, hs11, hs12, hs13, hs14, hs15, hs16, hs17⟩ := hSw
            go_simp
          simp only [Act.put, List.setIfInBounds_toArray, List.set_cons_zero, List.set_cons_succ]
          refine held_take (i := 5) (d := some 22) (v := .slice (some ⟨b', off', none⟩) m.length cap') (ls' := #[true, true, true, true, true, true, false, false, false, false, false, false, false, false, false, false, false, false, false, false, false, false, false, false, false]) rfl rfl (by kernel_rfl) (by kernel_rfl) (by kernel_rfl) (fun _ _ _ h => h) hHeld rfl (Or.inl ⟨by rfl, fun wq hSw => ?_⟩) ?_
          · obtain ⟨hs0, hs1, hs2, hs3, hs4, hs5, hs6, hs7, hs8, hs9, hs10, hs11, hs12, hs13, hs14, hs15, hs16, hs17⟩ := hSw
            go_simp
          simp only [Act.put, List.setIfInBounds_toArray, List.set_cons_zero, List.set_cons_succ]
          refine held_take (i := 6) (d := some 23) (v := .int .i64 k) (ls' := #[true, true, true, true, true, true, true, false, false, false, false, false, false, false, false, false, false, false, false, false, false, false, false, false, false]) rfl rfl (by kernel_rfl) (by kernel_rfl) (by kernel_rfl) (fun _ _ _ h => h) hHeld rfl (Or.inl ⟨by rfl, fun wq hSw => ?_⟩) ?_
          · obtain ⟨hs0, hs1, hs2, hs3, hs4, hs5, hs6, hs7, hs8, hs9, hs10, hs11, hs12, hs13, hs14, hs15, hs16, hs17⟩ := hSw
            go_simp
          simp only [Act.put, List.setIfInBounds_toArray, List.set_cons_zero, List.set_cons_succ]
          refine held_take (i := 7) (d := some 24) (v := .pointer (some ⟨b', off' + k * 9, none⟩)) (ls' := #[true, true, true, true, true, true, true, true, false, false, false, false, false, false, false, false, false, false, false, false, false, false, false, false, false]) rfl rfl (by kernel_rfl) (by kernel_rfl) (by kernel_rfl) (fun _ _ _ h => h) hHeld rfl (Or.inl ⟨by rfl, fun wq hSw => ?_⟩) ?_
          · obtain ⟨hs0, hs1, hs2, hs3, hs4, hs5, hs6, hs7, hs8, hs9, hs10, hs11, hs12, hs13, hs14, hs15, hs16, hs17⟩ := hSw
            go_simp
          simp only [Act.put, List.setIfInBounds_toArray, List.set_cons_zero, List.set_cons_succ]
          refine held_take (i := 8) (d := some 25) (v := .pointer (some ⟨b', off' + k * 9 + 6, none⟩)) (ls' := #[true, true, true, true, true, true, true, true, true, false, false, false, false, false, false, false, false, false, false, false, false, false, false, false, false]) rfl rfl (by kernel_rfl) (by kernel_rfl) (by kernel_rfl) (fun _ _ _ h => h) hHeld rfl (Or.inl ⟨by rfl, fun wq hSw => ?_⟩) ?_
          · obtain ⟨hs0, hs1, hs2, hs3, hs4, hs5, hs6, hs7, hs8, hs9, hs10, hs11, hs12, hs13, hs14, hs15, hs16, hs17⟩ := hSw
            go_simp
          simp only [Act.put, List.setIfInBounds_toArray, List.set_cons_zero, List.set_cons_succ]
          refine held_take (i := 9) (d := some 26) (v := .agg #[.int .i64 m[k].g0, .int .i64 m[k].g1, .int .i64 m[k].g2]) (ls' := #[true, true, true, true, true, true, true, true, true, true, false, false, false, false, false, false, false, false, false, false, false, false, false, false, false]) rfl rfl (by kernel_rfl) (by kernel_rfl) (by kernel_rfl) (fun _ _ _ h => h) hHeld rfl (Or.inl ⟨by rfl, fun wq hSw => ?_⟩) ?_
          · obtain ⟨hs0, hs1, hs2, hs3, hs4, hs5, hs6, hs7, hs8, hs9, hs10, hs11, hs12, hs13, hs14, hs15, hs16, hs17⟩ := hSw
            go_simp
          simp only [Act.put, List.setIfInBounds_toArray, List.set_cons_zero, List.set_cons_succ]
          refine held_take (i := 10) (d := some 27) (v := .bool true) (ls' := #[true, true, true, true, true, true, true, true, true, true, true, false, false, false, false, false, false, false, false, false, false, false, false, false, false]) rfl rfl (by kernel_rfl) (by kernel_rfl) (by kernel_rfl) (fun _ _ _ h => h) hHeld rfl (Or.inl ⟨by rfl, fun wq hSw => ?_⟩) ?_
          · obtain ⟨hs0, hs1, hs2, hs3, hs4, hs5, hs6, hs7, hs8, hs9, hs10, hs11, hs12, hs13, hs14, hs15, hs16, hs17⟩ := hSw
            go_simp
          simp only [Act.put, List.setIfInBounds_toArray, List.set_cons_zero, List.set_cons_succ]
          refine held_take (i := 11) (d := some 28) (v := .bool true) (ls' := #[true, true, true, true, true, true, true, true, true, true, true, true, false, false, false, false, false, false, false, false, false, false, false, false, false]) rfl rfl (by kernel_rfl) (by kernel_rfl) (by kernel_rfl) (fun _ _ _ h => h) hHeld rfl (Or.inl ⟨by rfl, fun wq hSw => ?_⟩) ?_
          · obtain ⟨hs0, hs1, hs2, hs3, hs4, hs5, hs6, hs7, hs8, hs9, hs10, hs11, hs12, hs13, hs14, hs15, hs16, hs17⟩ := hSw
            go_simp
          simp only [Act.put, List.setIfInBounds_toArray, List.set_cons_zero, List.set_cons_succ]
          refine held_take (i := 12) (d := some 29) (v := undef) (ls' := #[true, true, true, true, true, true, true, true, true, true, true, true, true, false, false, false, false, false, false, false, false, false, false, false, false]) rfl rfl (by kernel_rfl) (by kernel_rfl) (by kernel_rfl) (fun _ _ _ h => h) hHeld rfl (Or.inr ⟨by rfl, rfl⟩) ?_
          simp only [Act.put, List.setIfInBounds_toArray, List.set_cons_zero, List.set_cons_succ]
          refine held_take (i := 13) (d := some 30) (v := undef) (ls' := #[true, true, true, true, true, true, true, true, true, true, true, true, true, true, false, false, false, false, false, false, false, false, false, false, false]) rfl rfl (by kernel_rfl) (by kernel_rfl) (by kernel_rfl) (fun _ _ _ h => h) hHeld rfl (Or.inr ⟨by rfl, rfl⟩) ?_
          simp only [Act.put, List.setIfInBounds_toArray, List.set_cons_zero, List.set_cons_succ]
          refine held_take (i := 14) (d := some 31) (v := undef) (ls' := #[true, true, true, true, true, true, true, true, true, true, true, true, true, true, true, false, false, false, false, false, false, false, false, false, false]) rfl rfl (by kernel_rfl) (by kernel_rfl) (by kernel_rfl) (fun _ _ _ h => h) hHeld rfl (Or.inr ⟨by rfl, rfl⟩) ?_
          simp only [Act.put, List.setIfInBounds_toArray, List.set_cons_zero, List.set_cons_succ]
          refine held_take (i := 15) (d := some 32) (v := undef) (ls' := #[true, true, true, true, true, true, true, true, true, true, true, true, true, true, true, true, false, false, false, false, false, false, false, false, false]) rfl rfl (by kernel_rfl) (by kernel_rfl) (by kernel_rfl) (fun _ _ _ h => h) hHeld rfl (Or.inr ⟨by rfl, rfl⟩) ?_
          simp only [Act.put, List.setIfInBounds_toArray, List.set_cons_zero, List.set_cons_succ]
          refine held_take (i := 16) (d := some 33) (v := undef) (ls' := #[true, true, true, true, true, true, true, true, true, true, true, true, true, true, true, true, true, false, false, false, false, false, false, false, false]) rfl rfl (by kernel_rfl) (by kernel_rfl) (by kernel_rfl) (fun _ _ _ h => h) hHeld rfl (Or.inr ⟨by rfl, rfl⟩) ?_
          simp only [Act.put, List.setIfInBounds_toArray, List.set_cons_zero, List.set_cons_succ]
          refine held_take (i := 17) (d := some 34) (v := undef) (ls' := #[true, true, true, true, true, true, true, true, true, true, true, true, true, true, true, true, true, true, false, false, false, false, false, false, false]) rfl rfl (by kernel_rfl) (by kernel_rfl) (by kernel_rfl) (fun _ _ _ h => h) hHeld rfl (Or.inr ⟨by rfl, rfl⟩) ?_
          simp only [Act.put, List.setIfInBounds_toArray, List.set_cons_zero, List.set_cons_succ]
          refine held_take (i := 18) (d := some 35) (v := undef) (ls' := #[true, true, true, true, true, true, true, true, true, true, true, true, true, true, true, true, true, true, true, false, false, false, false, false, false]) rfl rfl (by kernel_rfl) (by kernel_rfl) (by kernel_rfl) (fun _ _ _ h => h) hHeld rfl (Or.inr ⟨by rfl, rfl⟩) ?_
          simp only [Act.put, List.setIfInBounds_toArray, List.set_cons_zero, List.set_cons_succ]
          refine held_take (i := 19) (d := some 36) (v := undef) (ls' := #[true, true, true, true, true, true, true, true, true, true, true, true, true, true, true, true, true, true, true, true, false, false, false, false, false]) rfl rfl (by kernel_rfl) (by kernel_rfl) (by kernel_rfl) (fun _ _ _ h => h) hHeld rfl (Or.inr ⟨by rfl, rfl⟩) ?_
          simp only [Act.put, List.setIfInBounds_toArray, List.set_cons_zero, List.set_cons_succ]
          refine held_take (i := 20) (d := some 37) (v := undef) (ls' := #[true, true, true, true, true, true, true, true, true, true, true, true, true, true, true, true, true, true, true, true, true, false, false, false, false]) rfl rfl (by kernel_rfl) (by kernel_rfl) (by kernel_rfl) (fun _ _ _ h => h) hHeld rfl (Or.inr ⟨by rfl, rfl⟩) ?_
          simp only [Act.put, List.setIfInBounds_toArray, List.set_cons_zero, List.set_cons_succ]
          refine held_take (i := 21) (d := some 38) (v := undef) (ls' := #[true, true, true, true, true, true, true, true, true, true, true, true, true, true, true, true, true, true, true, true, true, true, false, false, false]) rfl rfl (by kernel_rfl) (by kernel_rfl) (by kernel_rfl) (fun _ _ _ h => h) hHeld rfl (Or.inr ⟨by rfl, rfl⟩) ?_
          simp only [Act.put, List.setIfInBounds_toArray, List.set_cons_zero, List.set_cons_succ]
          refine held_take (i := 22) (d := some 39) (v := undef) (ls' := #[true, true, true, true, true, true, true, true, true, true, true, true, true, true, true, true, true, true, true, true, true, true, true, false, false]) rfl rfl (by kernel_rfl) (by kernel_rfl) (by kernel_rfl) (fun _ _ _ h => h) hHeld rfl (Or.inr ⟨by rfl, rfl⟩) ?_
          simp only [Act.put, List.setIfInBounds_toArray, List.set_cons_zero, List.set_cons_succ]
          refine held_take (i := 23) (d := some 40) (v := undef) (ls' := #[true, true, true, true, true, true, true, true, true, true, true, true, true, true, true, true, true, true, true, true, true, true, true, true, false]) rfl rfl (by kernel_rfl) (by kernel_rfl) (by kernel_rfl) (fun _ _ _ h => h) hHeld rfl (Or.inr ⟨by rfl, rfl⟩) ?_
          simp only [Act.put, List.setIfInBounds_toArray, List.set_cons_zero, List.set_cons_succ]
          refine held_take (i := 24) (d := some 41) (v := .bool true) (ls' := #[true, true, true, true, true, true, true, true, true, true, true, true, true, true, true, true, true, true, true, true, true, true, true, true, true]) rfl rfl (by kernel_rfl) (by kernel_rfl) (by kernel_rfl) (fun _ _ _ h => h) hHeld rfl (Or.inl ⟨by rfl, fun wq hSw => ?_⟩) ?_
          · obtain ⟨hs0, hs1, hs2, hs3, hs4, hs5, hs6, hs7, hs8, hs9, hs10, hs11, hs12, hs13, hs14, hs15, hs16, hs17⟩ := hSw
            go_simp
          simp only [Act.put, List.setIfInBounds_toArray, List.set_cons_zero, List.set_cons_succ]
          refine wpAnyH_done (by kernel_rfl) ?_ _
          have hb2 := hb.drew
          go_wp2_with fail
          go_ret
          exact ⟨ret_bool HF.out.symm, hb2⟩
      · have HF : Hid (dec (l = m) = true) := dec_t (AllE.all (fun j h h' hj => hno.out j h h' (by omega)) HL.out)
        clear hno
        go_wp2_with fail
        go_ret
        exact ⟨ret_bool HF.out.symm, hb⟩
  · have u := ine_t hl
    have HF : Hid (dec (l = m) = false) := dec_f (fun h => hl (by rw [h]))
    clear hl
    go_enter Try.func35, Try.ntmps35
    go_wp2_with fail
    go_ret
    exact ⟨ret_bool HF.out.symm, Below.refl _ _⟩
end Go.Proofs.Ythdnfnmglhifmaa
/-
  Copies of lists of clauses. No statement is proved here.
-/
namespace Go.Proofs.Ythdnfnmglhifmaa
open Go.RowKit Go.Sort
set_option maxRecDepth 100000
set_option linter.unusedVariables false
theorem infoCn : (Try.prog.info? 102).map (fun i => (i.zero, i.size, i.bytes)) = some (some (.agg #[.int .i64 0, .int .i64 0, .int .i64 0, .int .i64 0, .int .i64 0, .slice none 0 0, .int .i64 0, .int .i64 0, .int .i64 0]), 9, 88) := by kernel_rfl
/-- The row of a list of clauses while it is made. -/
def RowCn (d : Nat) (w : World) (g : Nat) (l : List Cn) (xs : List Value) (k : Nat) : Prop := ∀ j (h : j < l.length), j < k → ∃ A' cap, xs[j * 9]? = some (.int .i64 l[j].pat.op) ∧ xs[j * 9 + 1]? = some (.int .i64 l[j].pat.ctor) ∧ xs[j * 9 + 2]? = some (.int .i64 l[j].pat.n) ∧ xs[j * 9 + 3]? = some (.int .i64 l[j].pat.m) ∧ xs[j * 9 + 4]? = some (.int .i64 l[j].pat.var) ∧ xs[j * 9 + 5]? = some (.slice A' l[j].pat.kids.length cap) ∧ xs[j * 9 + 6]? = some (.int .i64 l[j].g0) ∧ xs[j * 9 + 7]? = some (.int .i64 l[j].g1) ∧ xs[j * 9 + 8]? = some (.int .i64 l[j].g2) ∧ OPs (d + 1) w (fun b => b ≠ g ∧ b < w.heap.size) A' l[j].pat.kids
theorem RowCn.zero (d : Nat) (w : World) (g : Nat) (l : List Cn) (xs : List Value) : RowCn d w g l xs 0 := fun j _ h => absurd h (by omega)
theorem RowCn.fr {d : Nat} {w w' : World} {g : Nat} {l : List Cn} {xs : List Value} {k : Nat} {P' : Nat → Prop} (h : RowCn d w g l xs k) (hf : Fr P' w w') (hp : ∀ b, b ≠ g → b < w.heap.size → ¬ P' b) : RowCn d w' g l xs k := fun j hj hjk => by
  obtain ⟨A', cap, e0, e1, e2, e3, e4, e5, e6, e7, e8, e9⟩ := h j hj hjk
  exact ⟨A', cap, e0, e1, e2, e3, e4, e5, e6, e7, e8, (e9.fr _ hf (fun b hb => hp b hb.1 hb.2)).wide _ (fun b hb => ⟨hb.1, Nat.lt_of_lt_of_le hb.2 hf.size⟩)⟩
theorem RowCn.more {d : Nat} {w w' : World} {g : Nat} {l : List Cn} {xs xs' : List Value} {k cap : Nat} {A' : Option Addr} (h : RowCn d w g l xs k) (hb : Below w.heap.size w w') (hg : g < w.heap.size) (hk : k < l.length)
    (ho : OPs (d + 1) w' (Nw w w') A' l[k].pat.kids) (hx : ∀ j c, j < k → c < 9 → xs'[j * 9 + c]? = xs[j * 9 + c]?) (e0 : xs'[k * 9]? = some (.int .i64 l[k].pat.op)) (e1 : xs'[k * 9 + 1]? = some (.int .i64 l[k].pat.ctor)) (e2 : xs'[k * 9 + 2]? = some (.int .i64 l[k].pat.n)) (e3 : xs'[k * 9 + 3]? = some (.int .i64 l[k].pat.m)) (e4 : xs'[k * 9 + 4]? = some (.int .i64 l[k].pat.var)) (e5 : xs'[k * 9 + 5]? = some (.slice A' l[k].pat.kids.length cap)) (e6 : xs'[k * 9 + 6]? = some (.int .i64 l[k].g0)) (e7 : xs'[k * 9 + 7]? = some (.int .i64 l[k].g1)) (e8 : xs'[k * 9 + 8]? = some (.int .i64 l[k].g2)) :
    RowCn d w' g l xs' (k + 1) := by
  have h' := h.fr (P' := fun _ => False) (Fr.below hb) (fun _ _ _ h => h)
  intro j hj hjk
  by_cases e : j = k
  · subst e
    exact ⟨A', cap, e0, e1, e2, e3, e4, e5, e6, e7, e8, ho.wide _ (fun b hq => ⟨by have := hq.1; omega, hq.2⟩)⟩
  · obtain ⟨A2, c2, f0, f1, f2, f3, f4, f5, f6, f7, f8, f9⟩ := h' j hj (by omega)
    exact ⟨A2, c2, (hx j 0 (by omega) (by omega)).trans f0, (hx j 1 (by omega) (by omega)).trans f1, (hx j 2 (by omega) (by omega)).trans f2, (hx j 3 (by omega) (by omega)).trans f3, (hx j 4 (by omega) (by omega)).trans f4, (hx j 5 (by omega) (by omega)).trans f5, (hx j 6 (by omega) (by omega)).trans f6, (hx j 7 (by omega) (by omega)).trans f7, (hx j 8 (by omega) (by omega)).trans f8, f9⟩
theorem RCs.of_row {d : Nat} {w : World} {lo g0 : Nat} {v : Value} {l : List Cn} {xs : List Value} (h : w.ownsRow lo 102 9 v l.length xs) (hx : RowCn d w g0 l xs l.length) (hn : l.length ≤ 1048576) : ∃ A cap, v = .slice A l.length cap ∧ RCs d w w.heap.size A l := by
  rcases h.2 with ⟨h', h0⟩ | ⟨g, cap, cur, h', hb, hg, hnc, hcm, hcs, htake⟩
  · refine ⟨none, 0, by rw [h0]; exact h', by unfold maxLen; omega, fun k hl => absurd hl (by omega)⟩
  · subst h'
    refine ⟨_, cap, rfl, by unfold maxLen; omega, fun k hk => ?_⟩
    obtain ⟨A', c', e0, e1, e2, e3, e4, e5, e6, e7, e8, e9⟩ := hx k hk hk
    have hat : ∀ i, i < l.length * 9 → cur[i]? = xs[i]? := fun i hi => by
      rw [← htake, List.getElem?_take_of_lt hi, Array.getElem?_toList]
    have hc : ∀ i v, i < l.length * 9 → xs[i]? = some v → w.cell? ⟨g, 0 + i, none⟩ = some v := fun i v hi hv => by rw [cell_of_blk hg, Nat.zero_add]; exact (hat i hi).trans hv
    refine ⟨g, 0, rfl, heap_lt hg, A', c', ?_, ?_, ?_, ?_, ?_, ?_, ?_, ?_, ?_, OPs.reads d e9⟩
    · simpa using hc _ _ (by omega) e0
    · simpa using hc _ _ (by omega) e1
    · simpa using hc _ _ (by omega) e2
    · simpa using hc _ _ (by omega) e3
    · simpa using hc _ _ (by omega) e4
    · simpa using hc _ _ (by omega) e5
    · simpa using hc _ _ (by omega) e6
    · simpa using hc _ _ (by omega) e7
    · simpa using hc _ _ (by omega) e8
end Go.Proofs.Ythdnfnmglhifmaa
/-
  Lists of clauses in blocks of their own: no pattern has a block of another one. No statement is proved here.
-/
namespace Go.Proofs.Ythdnfnmglhifmaa
open Go.RowKit
set_option maxRecDepth 100000
set_option linter.unusedVariables false
/-- A list in a block of P; each pattern in blocks of P that no other one has. -/
def OCs (d : Nat) (w : World) (P : Nat → Prop) (A : Option Addr) (l : List Cn) : Prop := l.length ≤ maxLen ∧ (0 < l.length → ∃ (g : Nat) (cs : Array Value) (Q : Nat → Nat → Prop), A = some ⟨g, 0, none⟩ ∧ P g ∧ w.heap[g]? = some (.cells cs 102 (0, 0)) ∧ (∀ k b, k < l.length → Q k b → P b ∧ b ≠ g ∧ ∀ j, j < l.length → j ≠ k → ¬ Q j b) ∧ ∀ k (h : k < l.length), ∃ A' cap, cs[k * 9]? = some (.int .i64 l[k].pat.op) ∧ cs[k * 9 + 1]? = some (.int .i64 l[k].pat.ctor) ∧ cs[k * 9 + 2]? = some (.int .i64 l[k].pat.n) ∧ cs[k * 9 + 3]? = some (.int .i64 l[k].pat.m) ∧ cs[k * 9 + 4]? = some (.int .i64 l[k].pat.var) ∧ cs[k * 9 + 5]? = some (.slice A' l[k].pat.kids.length cap) ∧ cs[k * 9 + 6]? = some (.int .i64 l[k].g0) ∧ cs[k * 9 + 7]? = some (.int .i64 l[k].g1) ∧ cs[k * 9 + 8]? = some (.int .i64 l[k].g2) ∧ OPs d w (Q k) A' l[k].pat.kids)
theorem OCs.nil (d : Nat) (w : World) (P : Nat → Prop) (A : Option Addr) : OCs d w P A [] := ⟨Nat.zero_le _, fun h => absurd h (Nat.not_lt_zero _)⟩
theorem OCs.wide {d : Nat} {w : World} {P P' : Nat → Prop} {A : Option Addr} {l : List Cn} (h : OCs d w P A l) (hp : ∀ b, P b → P' b) : OCs d w P' A l := ⟨h.1, fun hl => by
  obtain ⟨g, cs, Q, e, hg, hh, hq, hc⟩ := h.2 hl
  exact ⟨g, cs, Q, e, hp g hg, hh, fun k b hk hb => ⟨hp b (hq k b hk hb).1, (hq k b hk hb).2⟩, hc⟩⟩
theorem OCs.fr {d : Nat} {w w' : World} {P P' : Nat → Prop} {A : Option Addr} {l : List Cn} (h : OCs d w P A l) (hf : Fr P' w w') (hp : ∀ b, P b → ¬ P' b) : OCs d w' P A l := ⟨h.1, fun hl => by
  obtain ⟨g, cs, Q, e, hg, hh, hq, hc⟩ := h.2 hl
  refine ⟨g, cs, Q, e, hg, hf.block hh (hp g hg), hq, fun k hk => ?_⟩
  obtain ⟨A', cap, e0, e1, e2, e3, e4, e5, e6, e7, e8, e9⟩ := hc k hk
  exact ⟨A', cap, e0, e1, e2, e3, e4, e5, e6, e7, e8, e9.fr _ hf (fun b hb => hp b (hq k b hk hb).1)⟩⟩
theorem OCs.later_ {d : Nat} {w w' : World} {P : Nat → Prop} {A : Option Addr} {l : List Cn} (h : OCs d w P A l) (hb : Below w.heap.size w w') : OCs d w' P A l := h.fr (Fr.below (P := fun _ => False) hb) (fun _ _ h => h)
theorem OCs.reads {d : Nat} {w : World} {P : Nat → Prop} {A : Option Addr} {l : List Cn} (h : OCs (d + 1) w P A l) : RCs d w w.heap.size A l := ⟨h.1, fun k hk => by
  obtain ⟨g, cs, Q, e, hg, hh, hq, hc⟩ := h.2 (by omega)
  obtain ⟨A', cap, e0, e1, e2, e3, e4, e5, e6, e7, e8, e9⟩ := hc k hk
  exact ⟨g, 0, e, heap_lt hh, A', cap, by rw [cell_of_blk hh, Nat.zero_add]; exact e0, by rw [cell_of_blk hh, Nat.zero_add]; exact e1, by rw [cell_of_blk hh, Nat.zero_add]; exact e2, by rw [cell_of_blk hh, Nat.zero_add]; exact e3, by rw [cell_of_blk hh, Nat.zero_add]; exact e4, by rw [cell_of_blk hh, Nat.zero_add]; exact e5, by rw [cell_of_blk hh, Nat.zero_add]; exact e6, by rw [cell_of_blk hh, Nat.zero_add]; exact e7, by rw [cell_of_blk hh, Nat.zero_add]; exact e8, OPs.reads d e9⟩⟩
/-- The row of a list while it is made: k are there, each pattern with blocks of its own, from lo on. -/
def RowC (d : Nat) (w : World) (lo : Nat) (og : Option Nat) (Q : Nat → Nat → Prop) (l : List Cn) (xs : List Value) (k : Nat) : Prop := ∀ j (h : j < l.length), j < k → (∀ b, Q j b → lo ≤ b ∧ b < w.heap.size ∧ some b ≠ og ∧ ∀ i, i < k → i ≠ j → ¬ Q i b) ∧ ∃ A' cap, xs[j * 9]? = some (.int .i64 l[j].pat.op) ∧ xs[j * 9 + 1]? = some (.int .i64 l[j].pat.ctor) ∧ xs[j * 9 + 2]? = some (.int .i64 l[j].pat.n) ∧ xs[j * 9 + 3]? = some (.int .i64 l[j].pat.m) ∧ xs[j * 9 + 4]? = some (.int .i64 l[j].pat.var) ∧ xs[j * 9 + 5]? = some (.slice A' l[j].pat.kids.length cap) ∧ xs[j * 9 + 6]? = some (.int .i64 l[j].g0) ∧ xs[j * 9 + 7]? = some (.int .i64 l[j].g1) ∧ xs[j * 9 + 8]? = some (.int .i64 l[j].g2) ∧ OPs d w (Q j) A' l[j].pat.kids
theorem RowC.zero (d : Nat) (w : World) (lo : Nat) (og : Option Nat) (Q : Nat → Nat → Prop) (l : List Cn) (xs : List Value) : RowC d w lo og Q l xs 0 := fun j _ h => absurd h (by omega)
theorem RowC.fr {d : Nat} {w w' : World} {lo : Nat} {og : Option Nat} {Q : Nat → Nat → Prop} {l : List Cn} {xs : List Value} {k : Nat} {P' : Nat → Prop} (h : RowC d w lo og Q l xs k) (hf : Fr P' w w') (hp : ∀ b, lo ≤ b → some b ≠ og → b < w.heap.size → ¬ P' b) : RowC d w' lo og Q l xs k := fun j hj hjk => by
  obtain ⟨h1, A', cap, e0, e1, e2, e3, e4, e5, e6, e7, e8, e9⟩ := h j hj hjk
  refine ⟨fun b hb => ?_, A', cap, e0, e1, e2, e3, e4, e5, e6, e7, e8, e9.fr d hf (fun b hb => ?_)⟩
  · obtain ⟨a1, a2, a3, a4⟩ := h1 b hb
    exact ⟨a1, Nat.lt_of_lt_of_le a2 hf.size, a3, a4⟩
  · obtain ⟨a1, a2, a3, a4⟩ := h1 b hb
    exact hp b a1 a3 a2
/-- One more: its pattern's blocks are new. -/
theorem RowC.more {d : Nat} {w w' : World} {lo : Nat} {og : Option Nat} {Q : Nat → Nat → Prop} {l : List Cn} {xs xs' : List Value} {k cap : Nat} {A' : Option Addr} (h : RowC d w lo og Q l xs k) (hb : Below w.heap.size w w') (hk : k < l.length) (hlo : lo ≤ w.heap.size) (hog : ∀ g, og = some g → g < w.heap.size)
    (ho : OPs d w' (Nw w w') A' l[k].pat.kids) (hx : ∀ j c, j < k → c < 9 → xs'[j * 9 + c]? = xs[j * 9 + c]?) (e0 : xs'[k * 9]? = some (.int .i64 l[k].pat.op)) (e1 : xs'[k * 9 + 1]? = some (.int .i64 l[k].pat.ctor)) (e2 : xs'[k * 9 + 2]? = some (.int .i64 l[k].pat.n)) (e3 : xs'[k * 9 + 3]? = some (.int .i64 l[k].pat.m)) (e4 : xs'[k * 9 + 4]? = some (.int .i64 l[k].pat.var)) (e5 : xs'[k * 9 + 5]? = some (.slice A' l[k].pat.kids.length cap)) (e6 : xs'[k * 9 + 6]? = some (.int .i64 l[k].g0)) (e7 : xs'[k * 9 + 7]? = some (.int .i64 l[k].g1)) (e8 : xs'[k * 9 + 8]? = some (.int .i64 l[k].g2)) :
    RowC d w' lo og (fun i => if i = k then Nw w w' else Q i) l xs' (k + 1) := by
  have h' := h.fr (P' := fun _ => False) (Fr.below hb) (fun _ _ _ _ h => h)
  intro j hj hjk
  by_cases e : j = k
  · subst e
    refine ⟨fun b hq => ?_, A', cap, e0, e1, e2, e3, e4, e5, e6, e7, e8, ?_⟩
    · replace hq : (if j = j then Nw w w' else Q j) b := hq
      rw [if_pos rfl] at hq
      refine ⟨Nat.le_trans hlo hq.1, hq.2, fun e => ?_, fun i hi hij hqi => ?_⟩
      · have := hog b e.symm; have := hq.1; omega
      · replace hqi : (if i = j then Nw w w' else Q i) b := hqi
        rw [if_neg hij] at hqi
        have := ((h i (by omega) (by omega)).1 b hqi).2.1
        have := hq.1
        omega
    · show OPs d w' (if j = j then Nw w w' else Q j) A' l[j].pat.kids
      rw [if_pos rfl]; exact ho
  · obtain ⟨h1, A2, c2, f0, f1, f2, f3, f4, f5, f6, f7, f8, f9⟩ := h' j hj (by omega)
    refine ⟨fun b hq => ?_, A2, c2, (hx j 0 (by omega) (by omega)).trans f0, (hx j 1 (by omega) (by omega)).trans f1, (hx j 2 (by omega) (by omega)).trans f2, (hx j 3 (by omega) (by omega)).trans f3, (hx j 4 (by omega) (by omega)).trans f4, (hx j 5 (by omega) (by omega)).trans f5, (hx j 6 (by omega) (by omega)).trans f6, (hx j 7 (by omega) (by omega)).trans f7, (hx j 8 (by omega) (by omega)).trans f8, ?_⟩
    · replace hq : (if j = k then Nw w w' else Q j) b := hq
      rw [if_neg e] at hq
      obtain ⟨a1, a2, a3, a4⟩ := h1 b hq
      refine ⟨a1, a2, a3, fun i hi hij hqi => ?_⟩
      replace hqi : (if i = k then Nw w w' else Q i) b := hqi
      by_cases e2 : i = k
      · rw [if_pos e2] at hqi
        have := ((h j hj (by omega)).1 b hq).2.1
        have := hqi.1
        omega
      · rw [if_neg e2] at hqi
        exact a4 i (by omega) hij hqi
    · show OPs d w' (if j = k then Nw w w' else Q j) A2 l[j].pat.kids
      rw [if_neg e]; exact f9
theorem OCs.of_row {d : Nat} {w : World} {lo : Nat} {v : Value} {l : List Cn} {xs : List Value} {Q : Nat → Nat → Prop} (h : w.ownsRow lo 102 9 v l.length xs) (hx : RowC d w lo v.ownBlock Q l xs l.length) (hn : l.length ≤ 1048576) : ∃ A cap, v = .slice A l.length cap ∧ OCs d w (fun b => lo ≤ b ∧ b < w.heap.size) A l := by
  rcases h.2 with ⟨h', h0⟩ | ⟨g, cap, cur, h', hb, hg, hnc, hcm, hcs, htake⟩
  · refine ⟨none, 0, by rw [h0]; exact h', by unfold maxLen; omega, fun hl => absurd hl (by omega)⟩
  · subst h'
    refine ⟨_, cap, rfl, by unfold maxLen; omega, fun _ => ⟨g, cur, Q, rfl, ⟨hb, heap_lt hg⟩, hg, fun k b hk hq => ?_, fun k hk => ?_⟩⟩
    · obtain ⟨a1, a2, a3, a4⟩ := (hx k hk hk).1 b hq
      exact ⟨⟨a1, a2⟩, fun e => a3 (by rw [e]; rfl), a4⟩
    · obtain ⟨_, A', c', e0, e1, e2, e3, e4, e5, e6, e7, e8, e9⟩ := hx k hk hk
      have hat : ∀ i, i < l.length * 9 → cur[i]? = xs[i]? := fun i hi => by
        rw [← htake, List.getElem?_take_of_lt hi, Array.getElem?_toList]
      exact ⟨A', c', (hat _ (by omega)).trans e0, (hat _ (by omega)).trans e1, (hat _ (by omega)).trans e2, (hat _ (by omega)).trans e3, (hat _ (by omega)).trans e4, (hat _ (by omega)).trans e5, (hat _ (by omega)).trans e6, (hat _ (by omega)).trans e7, (hat _ (by omega)).trans e8, e9⟩
end Go.Proofs.Ythdnfnmglhifmaa
