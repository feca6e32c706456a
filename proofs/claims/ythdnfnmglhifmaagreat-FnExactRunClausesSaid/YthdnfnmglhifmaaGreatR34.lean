/-
  Lists of what variables stand for that are looked at behind the marking. No statement is proved here.
-/
import Derived.Test.YthdnfnmglhifmaaGreatR33
import Derived.Test.YthdnfnmglhifmaaGreatR04
import Derived.Test.YthdnfnmglhifmaaGreatR05
import Derived.Test.YthdnfnmglhifmaaGreatR07
import Derived.Test.YthdnfnmglhifmaaGreatR27
import Derived.Test.YthdnfnmglhifmaaGreatR28
import Derived.Test.YthdnfnmglhifmaaGreatR13
import Derived.Test.YthdnfnmglhifmaaGreatR14
import Derived.Test.YthdnfnmglhifmaaGreatR32
import Derived.Test.YthdnfnmglhifmaaGreatR29
import Derived.Deep.RegionHeld3
import Derived.Deep.DeepCutAuto
namespace Go.Proofs.YthdnfnmglhifmaaGreat
open Go.RowKit
set_option maxRecDepth 100000
set_option linter.unusedVariables false
set_option maxHeartbeats 1600000 in
theorem hdB_any (d : Nat) (A : Option Addr) (l : List Bn) (cap : Nat) (k : Int) (w : World) (hr : RBs d w w.heap.size A (numBs k l)) (hn : stB l l.length ≤ 1048576) (h0 : 0 ≤ k) (h1 : k + (stB l l.length : Nat) ≤ 16777216) :
    Calls Tryz.prog 50 #[.slice A l.length cap, .int .i64 k] w fun e w' => e = .returned (.int .i64 (k + (stB l l.length : Nat))) ∧ w = w' := by
  have hlb : l.length ≤ 1048576 := by unfold stB at hn; omega
  have Hr := Lib.hid hr
  have IH := Lib.hid (hdV_any d)
  clear hr
  go_enter Tryz.func50, Tryz.ntmps50
  go_wp2_with fail
  go_loopw [1, 5] (fun q i wr => ∃ j : Nat, j ≤ l.length ∧ i = .int .i64 j ∧ ∃ S : Nat, q = .int .i64 (k + S) ∧ Hid ((S : Int) = (stB l j : Nat)) ∧ w = wr) (fun _ i _ => l.length - (intOf i).toNat)
  case atStart => exact ⟨0, by omega, rfl, 0, by simp, by unfold Hid; rw [stB_zero], rfl⟩
  case round =>
    obtain ⟨j, hj, rfl, S, rfl, HS, rfl⟩ := hrel
    by_cases hlt : j < l.length
    · have HT := Lib.hid (stB_succ l j hlt)
      have HL := Lib.hid (stB_le l (j + 1) hlt)
      have HWB : Hid (wB l[j] = wVs l[j].val.kids) := rfl
      have hSb : k + (S : Int) + 3 + 2 * (wVs l[j].val.kids : Int) ≤ 16777216 ∧ wVs l[j].val.kids ≤ 1048576 := by
        have a1 := HT.out; have a2 := HL.out; have a4 := HS.out; have a5 := HWB.out; omega
      obtain ⟨hSb, hwb⟩ := hSb
      obtain ⟨b, off, rfl, hbB, hv⟩ := Hr.out.2 j (by rw [numBs_len]; exact hlt)
      rw [numBs_at _ _ _ _ hlt, ← HS.out] at hv
      obtain ⟨A', cp, c0, c1, c2, c8, hm⟩ := hv
      simp only [numB, Vl.ctor, Vl.n, Vl.kids, numVs_len] at c0 c1 c2 c8 hm
      have hk3 : k + (S : Int) + 1 + 1 = k + S + 2 := by omega
      rw [← hk3] at c2
      have Hm : Hid (RVs d w w.heap.size A' (numVs (k + (S : Int) + 1 + 1 + 1) l[j].val.kids)) := by unfold Hid; rw [show k + (S : Int) + 1 + 1 + 1 = k + (S : Int) + 3 by omega]; exact hm
      clear hm hk3
      go_wp2_with (go_at_call 114; refine (IH.out A' l[j].val.kids cp (k + (S : Int) + 1 + 1 + 1) _ Hm.out hwb (by omega) (by omega)).mono ?_; rintro e w3 ⟨rfl, rfl⟩)
      go_roundw
      case rel => exact ⟨j + 1, by omega, by go_num, S + (3 + 2 * wVs l[j].val.kids), by congr 1; push_cast; omega, by unfold Hid; have a1 := HT.out; have a2 := HS.out; have a3 := HWB.out; omega, by first | rfl | trivial⟩
      case measure => simp [intOf]; omega
    · have HE : Hid ((S : Int) = (stB l l.length : Nat)) := by unfold Hid; rw [HS.out, show j = l.length by omega]
      go_wp2_with fail
      go_ret
      exact ⟨ret_i64 (by rw [HE.out]), rfl⟩
end Go.Proofs.YthdnfnmglhifmaaGreat
/-
  The function FnExactCtorsOf returns true for every list of data types and every type, and both read behind the call as they read before. No condition.
-/
namespace Go.Proofs.YthdnfnmglhifmaaGreat
open Go.RowKit Go.Deep
open Go.ChangeShapes Go.WideShapes Go.ChangeAt
set_option maxRecDepth 100000
set_option linter.unusedVariables false
theorem sum_ge {α : Type} (f : α → Nat) (l : List α) (i : Nat) (h : i < l.length) : f l[i] ≤ (l.map f).sum := by
  have h1 := sum_take_succ f l i h
  have h2 := sum_take_le f l (i + 1)
  omega
theorem mC_le (cs : List Ct) : (cs.map mC).sum ≤ 2 * wCts cs := by
  unfold wCts
  induction cs with
  | nil => simp
  | cons c cs ih =>
    simp only [List.map_cons, List.sum_cons, List.length_cons]
    have : mC c ≤ 2 + 2 * wCt c := by unfold mC wCt; omega
    omega
theorem mD_le (l : List Da) : (l.map mD).sum ≤ 2 * wDas l := by
  unfold wDas
  induction l with
  | nil => simp
  | cons d l ih =>
    simp only [List.map_cons, List.sum_cons, List.length_cons]
    have h1 := mC_le d.ctors
    have : mD d ≤ 1 + 2 * wDa d := by unfold mD wDa; omega
    omega
theorem lens_le {l : List Da} {N : Nat} (h : wDas l ≤ N) : l.length ≤ N ∧ ∀ i (h : i < l.length), l[i].ctors.length ≤ N ∧ ∀ m (h' : m < l[i].ctors.length), l[i].ctors[m].args.length ≤ N := by
  unfold wDas at h
  refine ⟨by omega, fun i hi => ?_⟩
  have h1 := sum_ge wDa l i hi
  have h2 : wDa l[i] = l[i].name.size + wCts l[i].ctors := rfl
  have h3 : wCts l[i].ctors = l[i].ctors.length + (l[i].ctors.map wCt).sum := rfl
  refine ⟨by omega, fun m hm => ?_⟩
  have h4 := sum_ge wCt l[i].ctors m hm
  have h5 : wCt l[i].ctors[m] = l[i].ctors[m].name.size + l[i].ctors[m].args.length := rfl
  omega
/-- Integers stay where nothing of theirs is written. -/
theorem RInts.kept {w w' : World} {A : Option Addr} {l : List Int} (h : RInts w A l) (hk : ∀ g o, A = some ⟨g, o, none⟩ → w'.heap[g]? = w.heap[g]?) : RInts w' A l :=
  ⟨h.1, fun k hkl => by
    obtain ⟨b, off, e, hbl, h1⟩ := h.2 k hkl
    have h2 := (World.cell?_of_block (w := w) (w' := w') (a := ⟨b, off + k, none⟩) (hk b off e)).trans h1
    exact ⟨b, off, e, Go.block_lt_of_cell h2, h2⟩⟩
theorem RInts.nil (w : World) (A : Option Addr) : RInts w A [] := ⟨by simp, fun k hk => absurd hk (by simp)⟩
end Go.Proofs.YthdnfnmglhifmaaGreat
/-
  The law FnExactMatchPattern walked. No statement is proved here.
-/
namespace Go.Proofs.YthdnfnmglhifmaaGreat
open Go.RowKit Go.Sort Go.Deep
set_option maxRecDepth 100000
set_option linter.unusedVariables false
theorem sum_most {l : List Bn} {c : Nat} (h : ∀ b ∈ l, wB b ≤ c) : (l.map wB).sum ≤ l.length * c := by
  induction l with
  | nil => simp
  | cons a l ih =>
    have h1 := h a (List.mem_cons_self ..)
    have h2 := ih (fun b hb => h b (List.mem_cons_of_mem _ hb))
    rw [List.map_cons, List.sum_cons, List.length_cons, Nat.succ_mul]; omega
theorem mq_small (l : List Da) (t : Ty) (p : Pt) (v : Vl) : stB ((mqO l t p v).getD []) ((mqO l t p v).getD []).length ≤ 5000 := by
  cases h0 : pvT l t p with
  | false => rw [mqO_no1 h0]; simp [stB]
  | true =>
    cases h1 : isV l t v with
    | false => rw [mqO_no2 h1]; simp [stB]
    | true =>
      rw [mqO_yes h0 h1]
      cases hI : mtI 10 p v with
      | none =>
        rcases mt_both 10 p v with ⟨_, h2⟩ | ⟨M, L', h2, _, _⟩
        · rw [h2]; simp [stB]
        · rw [hI] at h2; cases h2
      | some L =>
        obtain ⟨L', h2, _, _, h6, hso, hw⟩ := mi_facts h0 hI
        rw [h2]
        show stB (sortB L' 6) (sortB L' 6).length ≤ 5000
        rw [← hso]
        have hl := sort_len L 6
        have h60 := (isV_parts h1).2
        have hs := sum_most (l := sortB L 6) (c := 60) (fun b hb => by have := hw b hb; unfold wB; rw [← wV_kids]; omega)
        unfold stB
        rw [List.take_length]
        have : (sortB L 6).length * 60 ≤ 36 * 60 := Nat.mul_le_mul_right _ (by omega)
        omega
theorem PBx.fr3 {w w' : World} {b : Nat} {p : Pt} {s : Value} {P : Nat → Prop} (h : PBx w b p s) (hf : Fr P w w') (hp : ¬ P b) : PBx w' b p s := h.keep (hf.2.2.2.2 b (Go.block_lt_of_cell h.1) hp)
theorem VBx.fr3 {w w' : World} {b : Nat} {c n : Int} {s : Value} {P : Nat → Prop} (h : VBx w b c n s) (hf : Fr P w w') (hp : ¬ P b) : VBx w' b c n s := by
  have hk := hf.2.2.2.2 b (Go.block_lt_of_cell h.1) hp
  exact ⟨(World.cell?_of_block (a := ⟨b, 0, none⟩) hk).trans h.1, (World.cell?_of_block (a := ⟨b, 1, none⟩) hk).trans h.2.1, (World.cell?_of_block (a := ⟨b, 2, none⟩) hk).trans h.2.2⟩
theorem OPs.later3 {d : Nat} {w w' : World} {P : Nat → Prop} {A : Option Addr} {l : List Pt} (h : OPs d w P A l) (hb : Below w.heap.size w w') : OPs d w' P A l := h.fr _ (Fr.below (P := fun _ => False) hb) (fun _ _ h => h)
theorem OVs.later3 {d : Nat} {w w' : World} {P : Nat → Prop} {A : Option Addr} {l : List Vl} (h : OVs d w P A l) (hb : Below w.heap.size w w') : OVs d w' P A l := h.fr _ (Fr.below (P := fun _ => False) hb) (fun _ _ h => h)
end Go.Proofs.YthdnfnmglhifmaaGreat
/-
  Copies of lists of clauses. No statement is proved here.
-/
namespace Go.Proofs.YthdnfnmglhifmaaGreat
open Go.RowKit Go.Sort
set_option maxRecDepth 100000
set_option linter.unusedVariables false
theorem infoCn : (Tryz.prog.info? 57).map (fun i => (i.zero, i.size, i.bytes)) = some (some (.agg #[.int .i64 0, .int .i64 0, .int .i64 0, .int .i64 0, .int .i64 0, .slice none 0 0, .int .i64 0, .int .i64 0, .int .i64 0]), 9, 88) := by kernel_rfl
/-- The row of a list of clauses while it is made. -/
def RowCn (d : Nat) (w : World) (g : Nat) (l : List Cn) (xs : List Value) (k : Nat) : Prop := ∀ j (h : j < l.length), j < k → ∃ A' cap, xs[j * 9]? = some (.int .i64 l[j].pat.op) ∧ xs[j * 9 + 1]? = some (.int .i64 l[j].pat.ctor) ∧ xs[j * 9 + 2]? = some (.int .i64 l[j].pat.n) ∧ xs[j * 9 + 3]? = some (.int .i64 l[j].pat.m) ∧ xs[j * 9 + 4]? = some (.int .i64 l[j].pat.var) ∧ xs[j * 9 + 5]? = some (.slice A' l[j].pat.kids.length cap) ∧ xs[j * 9 + 6]? = some (.int .i64 l[j].g0) ∧ xs[j * 9 + 7]? = some (.int .i64 l[j].g1) ∧ xs[j * 9 + 8]? = some (.int .i64 l[j].g2) ∧ OPs (d + 1) w (fun b => b ≠ g ∧ b < w.heap.size) A' l[j].pat.kids
theorem RowCn.zero (d : Nat) (w : World) (g : Nat) (l : List Cn) (xs : List Value) : RowCn d w g l xs 0 := fun j _ h => absurd h (by omega)
theorem RowCn.fr {d : Nat} {w w' : World} {g : Nat} {l : List Cn} {xs : List Value} {k : Nat} {P' : Nat → Prop} (h : RowCn d w g l xs k) (hf : Fr P' w w') (hp : ∀ b, b ≠ g → b < w.heap.size → ¬ P' b) : RowCn d w' g l xs k := fun j hj hjk => by
  obtain ⟨A', cap, e0, e1, e2, e3, e4, e5, e6, e7, e8, e9⟩ := h j hj hjk
  exact ⟨A', cap, e0, e1, e2, e3, e4, e5, e6, e7, e8, (e9.fr _ hf (fun b hb => hp b hb.1 hb.2)).wide _ (fun b hb => ⟨hb.1, Nat.lt_of_lt_of_le hb.2 hf.size⟩)⟩
theorem RowCn.more {d : Nat} {w w' : World} {g : Nat} {l : List Cn} {xs xs' : List Value} {k cap : Nat} {A' : Option Addr} (h : RowCn d w g l xs k) (hb : Below w.heap.size w w') (hg : g < w.heap.size) (hk : k < l.length)
    (ho : OPs (d + 1) w' (Nw w w') A' l[k].pat.kids) (hx : ∀ j c, j < k → c < 9 → xs'[j * 9 + c]? = xs[j * 9 + c]?) (e0 : xs'[k * 9]? = some (.int .i64 l[k].pat.op)) (e1 : xs'[k * 9 + 1]? = some (.int .i64 l[k].pat.ctor)) (e2 : xs'[k * 9 + 2]? = some (.int .i64 l[k].pat.n)) (e3 : xs'[k * 9 + 3]? = some (.int .i64 l[k].pat.m)) (e4 : xs'[k * 9 + 4]? = some (.int .i64 l[k].pat.var)) (e5 : xs'[k * 9 + 5]? = some (.slice A' l[k].pat.kids.length cap)) (e6 : xs'[k * 9 + 6]? = some (.int .i64 l[k].g0)) (e7 : xs'[k * 9 + 7]? = some (.int .i64 l[k].g1)) (e8 : xs'[k * 9 + 8]? = some (.int .i64 l[k].g2)) :
    RowCn d w' g l xs' (k + 1) := by
  have h' := h.fr (P' := fun _ => False) (Fr.below hb) (fun _ _ _ h => h)
  intro j hj hjk
  by_cases e : j = k
  · subst e
    exact ⟨A', cap, e0, e1, e2, e3, e4, e5, e6, e7, e8, ho.wide _ (fun b hq => ⟨by have := hq.1; omega, hq.2⟩)⟩
  · obtain ⟨A2, c2, f0, f1, f2, f3, f4, f5, f6, f7, f8, f9⟩ := h' j hj (by omega)
    exact ⟨A2, c2, (hx j 0 (by omega) (by omega)).trans f0, (hx j 1 (by omega) (by omega)).trans f1, (hx j 2 (by omega) (by omega)).trans f2, (hx j 3 (by omega) (by omega)).trans f3, (hx j 4 (by omega) (by omega)).trans f4, (hx j 5 (by omega) (by omega)).trans f5, (hx j 6 (by omega) (by omega)).trans f6, (hx j 7 (by omega) (by omega)).trans f7, (hx j 8 (by omega) (by omega)).trans f8, f9⟩
theorem RCs.of_row {d : Nat} {w : World} {lo g0 : Nat} {v : Value} {l : List Cn} {xs : List Value} (h : w.ownsRow lo 57 9 v l.length xs) (hx : RowCn d w g0 l xs l.length) (hn : l.length ≤ 1048576) : ∃ A cap, v = .slice A l.length cap ∧ RCs d w w.heap.size A l := by
  rcases h.2 with ⟨h', h0⟩ | ⟨g, cap, cur, h', hb, hg, hnc, hcm, hcs, htake⟩
  · refine ⟨none, 0, by rw [h0]; exact h', by unfold maxLen; omega, fun k hl => absurd hl (by omega)⟩
  · subst h'
    refine ⟨_, cap, rfl, by unfold maxLen; omega, fun k hk => ?_⟩
    obtain ⟨A', c', e0, e1, e2, e3, e4, e5, e6, e7, e8, e9⟩ := hx k hk hk
    have hat : ∀ i, i < l.length * 9 → cur[i]? = xs[i]? := fun i hi => by
      rw [← htake, List.getElem?_take_of_lt hi, Array.getElem?_toList]
    have hc : ∀ i v, i < l.length * 9 → xs[i]? = some v → w.cell? ⟨g, 0 + i, none⟩ = some v := fun i v hi hv => by rw [cell_of_blk hg, Nat.zero_add]; exact (hat i hi).trans hv
    refine ⟨g, 0, rfl, heap_lt hg, A', c', ?_, ?_, ?_, ?_, ?_, ?_, ?_, ?_, ?_, OPs.reads d e9⟩
    · simpa using hc _ _ (by omega) e0
    · simpa using hc _ _ (by omega) e1
    · simpa using hc _ _ (by omega) e2
    · simpa using hc _ _ (by omega) e3
    · simpa using hc _ _ (by omega) e4
    · simpa using hc _ _ (by omega) e5
    · simpa using hc _ _ (by omega) e6
    · simpa using hc _ _ (by omega) e7
    · simpa using hc _ _ (by omega) e8
end Go.Proofs.YthdnfnmglhifmaaGreat
/-
  Lists of clauses in blocks of their own: no pattern has a block of another one. No statement is proved here.
-/
namespace Go.Proofs.YthdnfnmglhifmaaGreat
open Go.RowKit
set_option maxRecDepth 100000
set_option linter.unusedVariables false
/-- A list in a block of P; each pattern in blocks of P that no other one has. -/
def OCs (d : Nat) (w : World) (P : Nat → Prop) (A : Option Addr) (l : List Cn) : Prop := l.length ≤ maxLen ∧ (0 < l.length → ∃ (g : Nat) (cs : Array Value) (Q : Nat → Nat → Prop), A = some ⟨g, 0, none⟩ ∧ P g ∧ w.heap[g]? = some (.cells cs 57 (0, 0)) ∧ (∀ k b, k < l.length → Q k b → P b ∧ b ≠ g ∧ ∀ j, j < l.length → j ≠ k → ¬ Q j b) ∧ ∀ k (h : k < l.length), ∃ A' cap, cs[k * 9]? = some (.int .i64 l[k].pat.op) ∧ cs[k * 9 + 1]? = some (.int .i64 l[k].pat.ctor) ∧ cs[k * 9 + 2]? = some (.int .i64 l[k].pat.n) ∧ cs[k * 9 + 3]? = some (.int .i64 l[k].pat.m) ∧ cs[k * 9 + 4]? = some (.int .i64 l[k].pat.var) ∧ cs[k * 9 + 5]? = some (.slice A' l[k].pat.kids.length cap) ∧ cs[k * 9 + 6]? = some (.int .i64 l[k].g0) ∧ cs[k * 9 + 7]? = some (.int .i64 l[k].g1) ∧ cs[k * 9 + 8]? = some (.int .i64 l[k].g2) ∧ OPs d w (Q k) A' l[k].pat.kids)
theorem OCs.nil (d : Nat) (w : World) (P : Nat → Prop) (A : Option Addr) : OCs d w P A [] := ⟨Nat.zero_le _, fun h => absurd h (Nat.not_lt_zero _)⟩
theorem OCs.wide {d : Nat} {w : World} {P P' : Nat → Prop} {A : Option Addr} {l : List Cn} (h : OCs d w P A l) (hp : ∀ b, P b → P' b) : OCs d w P' A l := ⟨h.1, fun hl => by
  obtain ⟨g, cs, Q, e, hg, hh, hq, hc⟩ := h.2 hl
  exact ⟨g, cs, Q, e, hp g hg, hh, fun k b hk hb => ⟨hp b (hq k b hk hb).1, (hq k b hk hb).2⟩, hc⟩⟩
theorem OCs.fr {d : Nat} {w w' : World} {P P' : Nat → Prop} {A : Option Addr} {l : List Cn} (h : OCs d w P A l) (hf : Fr P' w w') (hp : ∀ b, P b → ¬ P' b) : OCs d w' P A l := ⟨h.1, fun hl => by
  obtain ⟨g, cs, Q, e, hg, hh, hq, hc⟩ := h.2 hl
  refine ⟨g, cs, Q, e, hg, hf.block hh (hp g hg), hq, fun k hk => ?_⟩
  obtain ⟨A', cap, e0, e1, e2, e3, e4, e5, e6, e7, e8, e9⟩ := hc k hk
  exact ⟨A', cap, e0, e1, e2, e3, e4, e5, e6, e7, e8, e9.fr _ hf (fun b hb => hp b (hq k b hk hb).1)⟩⟩
theorem OCs.later_ {d : Nat} {w w' : World} {P : Nat → Prop} {A : Option Addr} {l : List Cn} (h : OCs d w P A l) (hb : Below w.heap.size w w') : OCs d w' P A l := h.fr (Fr.below (P := fun _ => False) hb) (fun _ _ h => h)
theorem OCs.reads {d : Nat} {w : World} {P : Nat → Prop} {A : Option Addr} {l : List Cn} (h : OCs (d + 1) w P A l) : RCs d w w.heap.size A l := ⟨h.1, fun k hk => by
  obtain ⟨g, cs, Q, e, hg, hh, hq, hc⟩ := h.2 (by omega)
  obtain ⟨A', cap, e0, e1, e2, e3, e4, e5, e6, e7, e8, e9⟩ := hc k hk
  exact ⟨g, 0, e, heap_lt hh, A', cap, by rw [cell_of_blk hh, Nat.zero_add]; exact e0, by rw [cell_of_blk hh, Nat.zero_add]; exact e1, by rw [cell_of_blk hh, Nat.zero_add]; exact e2, by rw [cell_of_blk hh, Nat.zero_add]; exact e3, by rw [cell_of_blk hh, Nat.zero_add]; exact e4, by rw [cell_of_blk hh, Nat.zero_add]; exact e5, by rw [cell_of_blk hh, Nat.zero_add]; exact e6, by rw [cell_of_blk hh, Nat.zero_add]; exact e7, by rw [cell_of_blk hh, Nat.zero_add]; exact e8, OPs.reads d e9⟩⟩
/-- The row of a list while it is made: k are there, each pattern with blocks of its own, from lo on. -/
def RowC (d : Nat) (w : World) (lo : Nat) (og : Option Nat) (Q : Nat → Nat → Prop) (l : List Cn) (xs : List Value) (k : Nat) : Prop := ∀ j (h : j < l.length), j < k → (∀ b, Q j b → lo ≤ b ∧ b < w.heap.size ∧ some b ≠ og ∧ ∀ i, i < k → i ≠ j → ¬ Q i b) ∧ ∃ A' cap, xs[j * 9]? = some (.int .i64 l[j].pat.op) ∧ xs[j * 9 + 1]? = some (.int .i64 l[j].pat.ctor) ∧ xs[j * 9 + 2]? = some (.int .i64 l[j].pat.n) ∧ xs[j * 9 + 3]? = some (.int .i64 l[j].pat.m) ∧ xs[j * 9 + 4]? = some (.int .i64 l[j].pat.var) ∧ xs[j * 9 + 5]? = some (.slice A' l[j].pat.kids.length cap) ∧ xs[j * 9 + 6]? = some (.int .i64 l[j].g0) ∧ xs[j * 9 + 7]? = some (.int .i64 l[j].g1) ∧ xs[j * 9 + 8]? = some (.int .i64 l[j].g2) ∧ OPs d w (Q j) A' l[j].pat.kids
theorem RowC.zero (d : Nat) (w : World) (lo : Nat) (og : Option Nat) (Q : Nat → Nat → Prop) (l : List Cn) (xs : List Value) : RowC d w lo og Q l xs 0 := fun j _ h => absurd h (by omega)
theorem RowC.fr {d : Nat} {w w' : World} {lo : Nat} {og : Option Nat} {Q : Nat → Nat → Prop} {l : List Cn} {xs : List Value} {k : Nat} {P' : Nat → Prop} (h : RowC d w lo og Q l xs k) (hf : Fr P' w w') (hp : ∀ b, lo ≤ b → some b ≠ og → b < w.heap.size → ¬ P' b) : RowC d w' lo og Q l xs k := fun j hj hjk => by
  obtain ⟨h1, A', cap, e0, e1, e2, e3, e4, e5, e6, e7, e8, e9⟩ := h j hj hjk
  refine ⟨fun b hb => ?_, A', cap, e0, e1, e2, e3, e4, e5, e6, e7, e8, e9.fr d hf (fun b hb => ?_)⟩
  · obtain ⟨a1, a2, a3, a4⟩ := h1 b hb
    exact ⟨a1, Nat.lt_of_lt_of_le a2 hf.size, a3, a4⟩
  · obtain ⟨a1, a2, a3, a4⟩ := h1 b hb
    exact hp b a1 a3 a2
/-- One more: its pattern's blocks are new. -/
theorem RowC.more {d : Nat} {w w' : World} {lo : Nat} {og : Option Nat} {Q : Nat → Nat → Prop} {l : List Cn} {xs xs' : List Value} {k cap : Nat} {A' : Option Addr} (h : RowC d w lo og Q l xs k) (hb : Below w.heap.size w w') (hk : k < l.length) (hlo : lo ≤ w.heap.size) (hog : ∀ g, og = some g → g < w.heap.size)
    (ho : OPs d w' (Nw w w') A' l[k].pat.kids) (hx : ∀ j c, j < k → c < 9 → xs'[j * 9 + c]? = xs[j * 9 + c]?) (e0 : xs'[k * 9]? = some (.int .i64 l[k].pat.op)) (e1 : xs'[k * 9 + 1]? = some (.int .i64 l[k].pat.ctor)) (e2 : xs'[k * 9 + 2]? = some (.int .i64 l[k].pat.n)) (e3 : xs'[k * 9 + 3]? = some (.int .i64 l[k].pat.m)) (e4 : xs'[k * 9 + 4]? = some (.int .i64 l[k].pat.var)) (e5 : xs'[k * 9 + 5]? = some (.slice A' l[k].pat.kids.length cap)) (e6 : xs'[k * 9 + 6]? = some (.int .i64 l[k].g0)) (e7 : xs'[k * 9 + 7]? = some (.int .i64 l[k].g1)) (e8 : xs'[k * 9 + 8]? = some (.int .i64 l[k].g2)) :
    RowC d w' lo og (fun i => if i = k then Nw w w' else Q i) l xs' (k + 1) := by
  have h' := h.fr (P' := fun _ => False) (Fr.below hb) (fun _ _ _ _ h => h)
  intro j hj hjk
  by_cases e : j = k
  · subst e
    refine ⟨fun b hq => ?_, A', cap, e0, e1, e2, e3, e4, e5, e6, e7, e8, ?_⟩
    · replace hq : (if j = j then Nw w w' else Q j) b := hq
      rw [if_pos rfl] at hq
      refine ⟨Nat.le_trans hlo hq.1, hq.2, fun e => ?_, fun i hi hij hqi => ?_⟩
      · have := hog b e.symm; have := hq.1; omega
      · replace hqi : (if i = j then Nw w w' else Q i) b := hqi
        rw [if_neg hij] at hqi
        have := ((h i (by omega) (by omega)).1 b hqi).2.1
        have := hq.1
        omega
    · show OPs d w' (if j = j then Nw w w' else Q j) A' l[j].pat.kids
      rw [if_pos rfl]; exact ho
  · obtain ⟨h1, A2, c2, f0, f1, f2, f3, f4, f5, f6, f7, f8, f9⟩ := h' j hj (by omega)
    refine ⟨fun b hq => ?_, A2, c2, (hx j 0 (by omega) (by omega)).trans f0, (hx j 1 (by omega) (by omega)).trans f1, (hx j 2 (by omega) (by omega)).trans f2, (hx j 3 (by omega) (by omega)).trans f3, (hx j 4 (by omega) (by omega)).trans f4, (hx j 5 (by omega) (by omega)).trans f5, (hx j 6 (by omega) (by omega)).trans f6, (hx j 7 (by omega) (by omega)).trans f7, (hx j 8 (by omega) (by omega)).trans f8, ?_⟩
    · replace hq : (if j = k then Nw w w' else Q j) b := hq
      rw [if_neg e] at hq
      obtain ⟨a1, a2, a3, a4⟩ := h1 b hq
      refine ⟨a1, a2, a3, fun i hi hij hqi => ?_⟩
      replace hqi : (if i = k then Nw w w' else Q i) b := hqi
      by_cases e2 : i = k
      · rw [if_pos e2] at hqi
        have := ((h j hj (by omega)).1 b hq).2.1
        have := hqi.1
        omega
      · rw [if_neg e2] at hqi
        exact a4 i (by omega) hij hqi
    · show OPs d w' (if j = k then Nw w w' else Q j) A2 l[j].pat.kids
      rw [if_neg e]; exact f9
theorem OCs.of_row {d : Nat} {w : World} {lo : Nat} {v : Value} {l : List Cn} {xs : List Value} {Q : Nat → Nat → Prop} (h : w.ownsRow lo 57 9 v l.length xs) (hx : RowC d w lo v.ownBlock Q l xs l.length) (hn : l.length ≤ 1048576) : ∃ A cap, v = .slice A l.length cap ∧ OCs d w (fun b => lo ≤ b ∧ b < w.heap.size) A l := by
  rcases h.2 with ⟨h', h0⟩ | ⟨g, cap, cur, h', hb, hg, hnc, hcm, hcs, htake⟩
  · refine ⟨none, 0, by rw [h0]; exact h', by unfold maxLen; omega, fun hl => absurd hl (by omega)⟩
  · subst h'
    refine ⟨_, cap, rfl, by unfold maxLen; omega, fun _ => ⟨g, cur, Q, rfl, ⟨hb, heap_lt hg⟩, hg, fun k b hk hq => ?_, fun k hk => ?_⟩⟩
    · obtain ⟨a1, a2, a3, a4⟩ := (hx k hk hk).1 b hq
      exact ⟨⟨a1, a2⟩, fun e => a3 (by rw [e]; rfl), a4⟩
    · obtain ⟨_, A', c', e0, e1, e2, e3, e4, e5, e6, e7, e8, e9⟩ := hx k hk hk
      have hat : ∀ i, i < l.length * 9 → cur[i]? = xs[i]? := fun i hi => by
        rw [← htake, List.getElem?_take_of_lt hi, Array.getElem?_toList]
      exact ⟨A', c', (hat _ (by omega)).trans e0, (hat _ (by omega)).trans e1, (hat _ (by omega)).trans e2, (hat _ (by omega)).trans e3, (hat _ (by omega)).trans e4, (hat _ (by omega)).trans e5, (hat _ (by omega)).trans e6, (hat _ (by omega)).trans e7, (hat _ (by omega)).trans e8, e9⟩
end Go.Proofs.YthdnfnmglhifmaaGreat
/-
  Copies of lists of clauses in blocks of their own. No statement is proved here.
-/
namespace Go.Proofs.YthdnfnmglhifmaaGreat
open Go.RowKit Go.Sort
set_option maxRecDepth 100000
set_option linter.unusedVariables false
set_option maxHeartbeats 3200000 in
theorem toCO_any (d : Nat) (A : Option Addr) (l : List Cn) (cap : Nat) (w : World) (hr : RCs d w w.heap.size A l) (hn : wCs l ≤ 1048576) :
    Calls Tryz.prog 40 #[.slice A l.length cap] w fun e w' => ∃ A2, e = .returned (.slice A2 l.length l.length) ∧ OCs (d + 1) w' (Nw w w') A2 l ∧ Below w.heap.size w w' := by
  obtain ⟨i0, hi, hz0, hz1, hz2⟩ := info_parts infoCn
  have Hr := Lib.hid hr
  have HSum : Hid (wCs l = l.length + (l.map wC).sum) := rfl
  have hl : l.length ≤ 1048576 := by have := HSum.out; omega
  clear hr
  go_enter Tryz.func40, Tryz.ntmps40
  go_wp2_with (at_make; refine wpList_make_full _ rfl _ _ 49 rfl w.heap.size 57 i0 _ 9 Tryz.underlying49 hi hz0 hz1 _ _ _ _ l.length rfl rfl rfl rfl (by rw [hz2]; omega) (by unfold maxLen; omega) (Nat.le_refl _) ?_; intro w1 hown hgr)
  go_loopw [4] (fun i wr => ∃ k : Nat, k ≤ l.length ∧ i = .int .i64 k ∧ ∃ xs Q, wr.ownsRow w.heap.size 57 9 (.slice (some ⟨w.heap.size, 0, none⟩) l.length l.length) l.length xs ∧ RowC (d + 1) wr w.heap.size (some w.heap.size) Q l xs k ∧ Below w.heap.size w wr) (fun i _ => l.length - (intOf i).toNat)
  case atStart => exact ⟨0, by omega, rfl, _, fun _ _ => False, hown, RowC.zero _ _ _ _ _ _ _, below_of_grown hgr (Nat.le_refl _)⟩
  case round =>
    obtain ⟨k, hk, rfl, xs, Q, hown, hrow, hb⟩ := hrel
    clear hgr hi hz0 hz1 hz2
    by_cases hlt : k < l.length
    · obtain ⟨b, off, rfl, hbB, A', cp, c0, c1, c2, c3, c4, c5, c6, c7, c8, hm⟩ := (Hr.out.below hb (Nat.le_refl _)).2 k hlt
      have ha : wPs l[k].pat.kids ≤ 1048576 := by
        have h1 := sum_take_succ wC l k hlt
        have h2 := sum_take_le wC l (k + 1)
        have h3 : wC l[k] = wPs l[k].pat.kids := rfl
        have h4 := HSum.out
        omega
      have Hm := Lib.hid (hm.keep (fun _ _ => rfl) hb.size)
      have hwl : w.heap.size < wr.heap.size := own_lt hown
      have HROW := Lib.hid hrow
      clear hm hrow
      go_wp2_with (go_at_call 104; refine (toC_any d _ _ _ _ _ _ _ _ _ _ _ _ Hm.out ha).mono ?_; rintro e w2 ⟨A2, rfl, hf, hb2⟩; have hown2 := own_below hown hb2; obtain ⟨v0, f0⟩ := own_cell hown2 (k * 9) (by omega); have g0 := hown2.frozenAt (k * 9); obtain ⟨v1, f1⟩ := own_cell hown2 (k * 9 + 1) (by omega); have g1 := hown2.frozenAt (k * 9 + 1); obtain ⟨v2, f2⟩ := own_cell hown2 (k * 9 + 2) (by omega); have g2 := hown2.frozenAt (k * 9 + 2); obtain ⟨v3, f3⟩ := own_cell hown2 (k * 9 + 3) (by omega); have g3 := hown2.frozenAt (k * 9 + 3); obtain ⟨v4, f4⟩ := own_cell hown2 (k * 9 + 4) (by omega); have g4 := hown2.frozenAt (k * 9 + 4); obtain ⟨v5, f5⟩ := own_cell hown2 (k * 9 + 5) (by omega); have g5 := hown2.frozenAt (k * 9 + 5); obtain ⟨v6, f6⟩ := own_cell hown2 (k * 9 + 6) (by omega); have g6 := hown2.frozenAt (k * 9 + 6); obtain ⟨v7, f7⟩ := own_cell hown2 (k * 9 + 7) (by omega); have g7 := hown2.frozenAt (k * 9 + 7); obtain ⟨v8, f8⟩ := own_cell hown2 (k * 9 + 8) (by omega); have g8 := hown2.frozenAt (k * 9 + 8); skip)
      have hx := hown2.1
      have s1 := (hown2.stored (k * 9) (.int .i64 l[k].pat.op)).1
      have s2 := (s1.stored (k * 9 + 1) (.int .i64 l[k].pat.ctor)).1
      have s3 := (s2.stored (k * 9 + 2) (.int .i64 l[k].pat.n)).1
      have s4 := (s3.stored (k * 9 + 3) (.int .i64 l[k].pat.m)).1
      have s5 := (s4.stored (k * 9 + 4) (.int .i64 l[k].pat.var)).1
      have s6 := (s5.stored (k * 9 + 5) (.slice A2 l[k].pat.kids.length l[k].pat.kids.length)).1
      have s7 := (s6.stored (k * 9 + 6) (.int .i64 l[k].g0)).1
      have s8 := (s7.stored (k * 9 + 7) (.int .i64 l[k].g1)).1
      have s9 := (s8.stored (k * 9 + 8) (.int .i64 l[k].g2)).1
      have hrow2 := HROW.out.more (xs' := (((((((((xs.set (k * 9) (.int .i64 l[k].pat.op)).set (k * 9 + 1) (.int .i64 l[k].pat.ctor)).set (k * 9 + 2) (.int .i64 l[k].pat.n)).set (k * 9 + 3) (.int .i64 l[k].pat.m)).set (k * 9 + 4) (.int .i64 l[k].pat.var)).set (k * 9 + 5) (.slice A2 l[k].pat.kids.length l[k].pat.kids.length)).set (k * 9 + 6) (.int .i64 l[k].g0)).set (k * 9 + 7) (.int .i64 l[k].g1)).set (k * 9 + 8) (.int .i64 l[k].g2))) hb2 hlt (by omega) (fun g e => by injection e with e; omega) hf (fun j c hj hc => by rw [List.getElem?_set_ne (by omega), List.getElem?_set_ne (by omega), List.getElem?_set_ne (by omega), List.getElem?_set_ne (by omega), List.getElem?_set_ne (by omega), List.getElem?_set_ne (by omega), List.getElem?_set_ne (by omega), List.getElem?_set_ne (by omega), List.getElem?_set_ne (by omega)]) (by rw [List.getElem?_set_ne (by omega), List.getElem?_set_ne (by omega), List.getElem?_set_ne (by omega), List.getElem?_set_ne (by omega), List.getElem?_set_ne (by omega), List.getElem?_set_ne (by omega), List.getElem?_set_ne (by omega), List.getElem?_set_ne (by omega), List.getElem?_set_self (by first | omega | (simp <;> omega))]) (by rw [List.getElem?_set_ne (by omega), List.getElem?_set_ne (by omega), List.getElem?_set_ne (by omega), List.getElem?_set_ne (by omega), List.getElem?_set_ne (by omega), List.getElem?_set_ne (by omega), List.getElem?_set_ne (by omega), List.getElem?_set_self (by first | omega | (simp <;> omega))]) (by rw [List.getElem?_set_ne (by omega), List.getElem?_set_ne (by omega), List.getElem?_set_ne (by omega), List.getElem?_set_ne (by omega), List.getElem?_set_ne (by omega), List.getElem?_set_ne (by omega), List.getElem?_set_self (by first | omega | (simp <;> omega))]) (by rw [List.getElem?_set_ne (by omega), List.getElem?_set_ne (by omega), List.getElem?_set_ne (by omega), List.getElem?_set_ne (by omega), List.getElem?_set_ne (by omega), List.getElem?_set_self (by first | omega | (simp <;> omega))]) (by rw [List.getElem?_set_ne (by omega), List.getElem?_set_ne (by omega), List.getElem?_set_ne (by omega), List.getElem?_set_ne (by omega), List.getElem?_set_self (by first | omega | (simp <;> omega))]) (by rw [List.getElem?_set_ne (by omega), List.getElem?_set_ne (by omega), List.getElem?_set_ne (by omega), List.getElem?_set_self (by first | omega | (simp <;> omega))]) (by rw [List.getElem?_set_ne (by omega), List.getElem?_set_ne (by omega), List.getElem?_set_self (by first | omega | (simp <;> omega))]) (by rw [List.getElem?_set_ne (by omega), List.getElem?_set_self (by first | omega | (simp <;> omega))]) (by rw [List.getElem?_set_self (by first | omega | (simp <;> omega))])
      have hrow3 := hrow2.fr (w' := (((((((((w2.setCell ⟨w.heap.size, k * 9, none⟩ (.int .i64 l[k].pat.op)).setCell ⟨w.heap.size, k * 9 + 1, none⟩ (.int .i64 l[k].pat.ctor)).setCell ⟨w.heap.size, k * 9 + 2, none⟩ (.int .i64 l[k].pat.n)).setCell ⟨w.heap.size, k * 9 + 3, none⟩ (.int .i64 l[k].pat.m)).setCell ⟨w.heap.size, k * 9 + 4, none⟩ (.int .i64 l[k].pat.var)).setCell ⟨w.heap.size, k * 9 + 5, none⟩ (.slice A2 l[k].pat.kids.length l[k].pat.kids.length)).setCell ⟨w.heap.size, k * 9 + 6, none⟩ (.int .i64 l[k].g0)).setCell ⟨w.heap.size, k * 9 + 7, none⟩ (.int .i64 l[k].g1)).setCell ⟨w.heap.size, k * 9 + 8, none⟩ (.int .i64 l[k].g2))) (P' := fun b => b = w.heap.size) (((((((((Fr.set (P := fun b => b = w.heap.size) _ _ _ _ rfl).trans (Fr.set (P := fun b => b = w.heap.size) _ _ _ _ rfl)).trans (Fr.set (P := fun b => b = w.heap.size) _ _ _ _ rfl)).trans (Fr.set (P := fun b => b = w.heap.size) _ _ _ _ rfl)).trans (Fr.set (P := fun b => b = w.heap.size) _ _ _ _ rfl)).trans (Fr.set (P := fun b => b = w.heap.size) _ _ _ _ rfl)).trans (Fr.set (P := fun b => b = w.heap.size) _ _ _ _ rfl)).trans (Fr.set (P := fun b => b = w.heap.size) _ _ _ _ rfl)).trans (Fr.set (P := fun b => b = w.heap.size) _ _ _ _ rfl)) (fun b _ hb' _ e => hb' (by rw [e]))
      go_roundw
      case rel => exact ⟨k + 1, by omega, by go_num, _, _, s9, hrow3, ((((((((((hb.trans (hb2.mono hb.size)).setCell (Nat.le_refl _) _).setCell (Nat.le_refl _) _).setCell (Nat.le_refl _) _).setCell (Nat.le_refl _) _).setCell (Nat.le_refl _) _).setCell (Nat.le_refl _) _).setCell (Nat.le_refl _) _).setCell (Nat.le_refl _) _).setCell (Nat.le_refl _) _)⟩
      case measure => simp [intOf]; omega
    · go_wp2_with fail
      go_ret
      have he : k = l.length := by omega
      obtain ⟨A2, c2, e2, ho⟩ := OCs.of_row hown (he ▸ hrow) hl
      injection e2 with e3 e4 e5
      subst e3
      exact ⟨_, rfl, ho, hb⟩
end Go.Proofs.YthdnfnmglhifmaaGreat
