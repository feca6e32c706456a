/-
  Pt trees that are marked where they lie, and looked at again. No statement is proved here.
-/
import Derived.Test.YthdnfnmglhifmaaGreatR28
import Derived.Test.YthdnfnmglhifmaaGreatR13
import Derived.Test.YthdnfnmglhifmaaGreatR14
namespace Go.Proofs.YthdnfnmglhifmaaGreat
open Go.RowKit
set_option maxRecDepth 100000
set_option linter.unusedVariables false
mutual
/-- The tree that marking leaves. -/
def numP : Int → Pt → Pt | k, .mk _ _ _ _ _ ks => .mk k (k + 1) (k + 2) (k + 3) (k + 4) (numPs (k + 5) ks)
def numPs : Int → List Pt → List Pt | _, [] => [] | k, v :: vs => numP k v :: numPs (k + 5 * ((1 + wP v : Nat) : Int)) vs
end
theorem numP_kids (k : Int) (v : Pt) : (numP k v).kids = numPs (k + 5) v.kids := by cases v; rw [numP]; rfl
theorem numP_op (k : Int) (v : Pt) : (numP k v).op = k := by cases v; rw [numP]; rfl
theorem numP_ctor (k : Int) (v : Pt) : (numP k v).ctor = k + 1 := by cases v; rw [numP]; rfl
theorem numP_n (k : Int) (v : Pt) : (numP k v).n = k + 2 := by cases v; rw [numP]; rfl
theorem numP_m (k : Int) (v : Pt) : (numP k v).m = k + 3 := by cases v; rw [numP]; rfl
theorem numP_var (k : Int) (v : Pt) : (numP k v).var = k + 4 := by cases v; rw [numP]; rfl
theorem numPs_len : ∀ (k : Int) (l : List Pt), (numPs k l).length = l.length
  | _, [] => by rw [numPs]
  | k, v :: vs => by rw [numPs, List.length_cons, numPs_len, List.length_cons]
theorem numPs_at : ∀ (k : Int) (l : List Pt) (j : Nat) (h : j < (numPs k l).length) (h' : j < l.length), (numPs k l)[j] = numP (k + 5 * ((j + ((l.take j).map wP).sum : Nat) : Int)) l[j]
  | _, [], j, _, h' => absurd h' (Nat.not_lt_zero _)
  | k, v :: vs, 0, h, h' => by
    simp only [numPs, List.getElem_cons_zero, List.take_zero, List.map_nil, List.sum_nil]
    congr 1
    omega
  | k, v :: vs, j + 1, h, h' => by
    have h2 : j < (numPs (k + 5 * ((1 + wP v : Nat) : Int)) vs).length := by rw [numPs_len]; simpa using h'
    simp only [numPs, List.getElem_cons_succ]
    rw [numPs_at _ vs j h2 (by simpa using h')]
    congr 1
    simp only [List.take_succ_cons, List.map_cons, List.sum_cons]
    omega
/-- Marked up to the element j. -/
def HalfP (d : Nat) (P : Nat → Prop) (A : Option Addr) (l : List Pt) (k : Int) (j : Nat) (w wr : World) : Prop := Fr P w wr ∧ ∃ m : List Pt, m.length = l.length ∧ (∀ i (h : i < m.length) (h' : i < (numPs k l).length), i < j → m[i] = (numPs k l)[i]) ∧ (∀ i (h : i < m.length) (h' : i < l.length), j ≤ i → m[i] = l[i]) ∧ OPs (d + 1) wr P A m
theorem HalfP.zero {d : Nat} {P : Nat → Prop} {A : Option Addr} {l : List Pt} {k : Int} {w : World} (h : OPs (d + 1) w P A l) : HalfP d P A l k 0 w w := ⟨Fr.refl _ _, l, rfl, fun _ _ _ h => absurd h (Nat.not_lt_zero _), fun _ _ _ _ => rfl, h⟩
theorem HalfP.all {d : Nat} {P : Nat → Prop} {A : Option Addr} {l : List Pt} {k : Int} {j : Nat} {w wr : World} (h : HalfP d P A l k j w wr) (hj : l.length ≤ j) : OPs (d + 1) wr P A (numPs k l) := by
  obtain ⟨_, m, hm, h1, _, h3⟩ := h
  have e : m = numPs k l := List.ext_getElem (by rw [hm, numPs_len]) (fun i a b => h1 i a b (by omega))
  rw [← e]; exact h3
theorem HalfP.at_ {d : Nat} {P : Nat → Prop} {A : Option Addr} {l : List Pt} {k S : Int} {j : Nat} {w wr : World} (h : HalfP d P A l k j w wr) (hj : j < l.length) (hS : S = 5 * ((j + ((l.take j).map wP).sum : Nat) : Int)) :
    ∃ (g : Nat) (cs : Array Value) (Q : Nat → Prop) (A' : Option Addr) (cap : Nat), A = some ⟨g, 0, none⟩ ∧ wr.heap[g]? = some (.cells cs 28 (0, 0)) ∧ cs[j * 6]? = some (.int .i64 l[j].op) ∧ cs[j * 6 + 1]? = some (.int .i64 l[j].ctor) ∧ cs[j * 6 + 2]? = some (.int .i64 l[j].n) ∧ cs[j * 6 + 3]? = some (.int .i64 l[j].m) ∧ cs[j * 6 + 4]? = some (.int .i64 l[j].var) ∧ cs[j * 6 + 5]? = some (.slice A' l[j].kids.length cap) ∧ OPs d wr Q A' l[j].kids ∧ ¬ Q g ∧
      ∀ (w3 : World) (cs3 : Array Value), w3.heap[g]? = some (.cells cs3 28 (0, 0)) → (∀ i c, i ≠ j → c < 6 → cs3[i * 6 + c]? = cs[i * 6 + c]?) → cs3[j * 6]? = some (.int .i64 (k + S)) → cs3[j * 6 + 1]? = some (.int .i64 (k + S + 1)) → cs3[j * 6 + 2]? = some (.int .i64 (k + S + 2)) → cs3[j * 6 + 3]? = some (.int .i64 (k + S + 3)) → cs3[j * 6 + 4]? = some (.int .i64 (k + S + 4)) → cs3[j * 6 + 5]? = some (.slice A' l[j].kids.length cap) → OPs d w3 Q A' (numPs (k + S + 5) l[j].kids) → Fr (fun b => Q b ∨ b = g) wr w3 → HalfP d P A l k (j + 1) w w3 := by
  obtain ⟨hf, m, hm, h1, h2, h3⟩ := h
  obtain ⟨hl, hp⟩ := h3
  obtain ⟨g, cs, Q, rfl, hg, hh, hq, hc⟩ := hp (by omega)
  have hc' := hc
  obtain ⟨A', cap, e0, e1, e2, e3, e4, e8, e9⟩ := hc j (by omega)
  have hmj : m[j]'(by omega) = l[j] := h2 j (by omega) hj (Nat.le_refl _)
  simp only [hmj] at e0 e1 e2 e3 e4 e8 e9
  refine ⟨g, cs, Q j, A', cap, rfl, hh, e0, e1, e2, e3, e4, e8, e9, fun hqg => (hq j g (by omega) hqg).2.1 rfl, ?_⟩
  intro w3 cs3 hg3 hsame f0 f1 f2 f3 f4 f8 ho3 hf3
  have hnj : (numPs k l)[j]'(by rw [numPs_len]; exact hj) = numP (k + S) l[j] := by rw [numPs_at _ _ _ _ hj, hS]
  refine ⟨hf.trans (hf3.wide (fun b hb => ?_)), m.set j (numP (k + S) l[j]), by simp [hm], fun i h h' hij => ?_, fun i h h' hij => ?_, by simpa using hl, fun _ => ⟨g, cs3, Q, rfl, hg, hg3, fun i b hi hb => ?_, fun i hi => ?_⟩⟩
  · rcases hb with hb | hb
    · exact (hq j b (by omega) hb).1
    · rw [hb]; exact hg
  · by_cases e : i = j
    · subst e
      simp only [List.getElem_set_self]
      exact hnj.symm
    · rw [List.getElem_set_ne (by omega)]
      exact h1 i (by simpa using h) h' (by omega)
  · rw [List.getElem_set_ne (by omega)]
    exact h2 i (by simpa using h) h' (by omega)
  · simp only [List.length_set] at hi
    obtain ⟨a1, a2, a3⟩ := hq i b hi hb
    exact ⟨a1, a2, fun i' hi' => a3 i' (by simpa using hi')⟩
  · simp only [List.length_set] at hi
    by_cases e : i = j
    · subst e
      simp only [List.getElem_set_self, numP_op, numP_ctor, numP_n, numP_m, numP_var, numP_kids, numPs_len]
      exact ⟨A', cap, f0, f1, f2, f3, f4, f8, ho3⟩
    · rw [List.getElem_set_ne (by omega)]
      obtain ⟨A2, c2, q0, q1, q2, q3, q4, q8, q9⟩ := hc' i hi
      refine ⟨A2, c2, (hsame i 0 e (by omega)).trans q0, (hsame i 1 e (by omega)).trans q1, (hsame i 2 e (by omega)).trans q2, (hsame i 3 e (by omega)).trans q3, (hsame i 4 e (by omega)).trans q4, (hsame i 5 e (by omega)).trans q8, q9.fr d hf3 (fun b hb => ?_)⟩
      rintro (hb' | hb')
      · exact (hq i b hi hb).2.2 j (by omega) (by omega) hb'
      · exact (hq i b hi hb).2.1 hb'
def MkP (d : Nat) : Prop := ∀ (P : Nat → Prop) (A : Option Addr) (l : List Pt) (cap : Nat) (k : Int) (w : World), OPs d w P A l → wPs l ≤ 1048576 → 0 ≤ k → k + 5 * (wPs l : Int) ≤ 16777216 →
  Calls Tryz.prog 112 #[.slice A l.length cap, .int .i64 k] w fun e w' => e = .returned (.int .i64 (k + 5 * (wPs l : Nat))) ∧ OPs d w' P A (numPs k l) ∧ Fr P w w'
set_option maxHeartbeats 1600000 in
theorem mkP_of (d : Nat) (ih : ∀ d', d = d' + 1 → MkP d') : MkP d := by
  intro P A l cap k w hr hn h0 h1
  obtain ⟨d', hd, _⟩ := hr.parts
  have IH := Lib.hid (ih d' hd)
  subst hd
  have HSum := Lib.hid (wPs_sum l)
  have hlb : l.length ≤ 1048576 := by have := wPs_sum l; omega
  have HZ := Lib.hid (HalfP.zero (k := k) hr)
  clear hr ih
  go_enter Tryz.func112, Tryz.ntmps112
  go_wp2_with fail
  go_loopw [1, 5] (fun q i wr => ∃ j : Nat, j ≤ l.length ∧ i = .int .i64 j ∧ ∃ S : Nat, q = .int .i64 (k + S) ∧ Hid ((S : Int) = 5 * ((j + ((l.take j).map wP).sum : Nat) : Int)) ∧ Hid (HalfP d' P A l k j w wr)) (fun _ i _ => l.length - (intOf i).toNat)
  case atStart => exact ⟨0, by omega, rfl, 0, by simp, by unfold Hid; simp, HZ⟩
  case round =>
    obtain ⟨j, hj, rfl, S, rfl, HS, HH⟩ := hrel
    clear HZ
    by_cases hlt : j < l.length
    · have HT := Lib.hid (sum_take_succ wP l j hlt)
      have HL := Lib.hid (sum_take_le wP l (j + 1))
      have hwk : wP l[j] = wPs l[j].kids := wP_kids l[j]
      have hSb : k + (S : Int) + 5 * (1 + (wPs l[j].kids : Int)) ≤ 16777216 ∧ wPs l[j].kids ≤ 1048576 := by
        have a1 := HT.out; have a2 := HL.out; have a3 := HSum.out; have a4 := HS.out; omega
      have HWK := Lib.hid hwk
      obtain ⟨hSb, hwb⟩ := hSb
      clear hwk
      obtain ⟨g, cs, Q, A', cp, rfl, hg, e0, e1, e2, e3, e4, e8, ho, hQg, hnext⟩ := HH.out.at_ hlt HS.out
      have c0 := (cell_of_blk hg (j * 6)).trans e0
      have c1 := (cell_of_blk hg (j * 6 + 1)).trans e1
      have c2 := (cell_of_blk hg (j * 6 + 2)).trans e2
      have c3 := (cell_of_blk hg (j * 6 + 3)).trans e3
      have c4 := (cell_of_blk hg (j * 6 + 4)).trans e4
      have c8 := (cell_of_blk hg (j * 6 + 5)).trans e8
      have z0 := frozen_of_row wr g (j * 6) cs 28 hg
      have z1 := frozen_of_row wr g (j * 6 + 1) cs 28 hg
      have z2 := frozen_of_row wr g (j * 6 + 2) cs 28 hg
      have z3 := frozen_of_row wr g (j * 6 + 3) cs 28 hg
      have z4 := frozen_of_row wr g (j * 6 + 4) cs 28 hg
      obtain ⟨w2, hw2⟩ : ∃ w2, w2 = (((((wr.setCell ⟨g, j * 6, none⟩ (.int .i64 (k + S))).setCell ⟨g, j * 6 + 1, none⟩ (.int .i64 (k + S + 1))).setCell ⟨g, j * 6 + 2, none⟩ (.int .i64 (k + S + 1 + 1))).setCell ⟨g, j * 6 + 3, none⟩ (.int .i64 (k + S + 1 + 1 + 1))).setCell ⟨g, j * 6 + 4, none⟩ (.int .i64 (k + S + 1 + 1 + 1 + 1))) := ⟨_, rfl⟩
      have F2 : Fr (fun b => b = g) wr w2 := by rw [hw2]; exact (((((Fr.set (P := fun b => b = g) _ _ _ _ rfl).trans (Fr.set _ _ _ _ rfl)).trans (Fr.set _ _ _ _ rfl)).trans (Fr.set _ _ _ _ rfl)).trans (Fr.set _ _ _ _ rfl))
      have G2 : Hid (w2.heap[g]? = some (.cells (((((cs.setIfInBounds (j * 6) (.int .i64 (k + S))).setIfInBounds (j * 6 + 1) (.int .i64 (k + S + 1))).setIfInBounds (j * 6 + 2) (.int .i64 (k + S + 1 + 1))).setIfInBounds (j * 6 + 3) (.int .i64 (k + S + 1 + 1 + 1))).setIfInBounds (j * 6 + 4) (.int .i64 (k + S + 1 + 1 + 1 + 1))) 28 (0, 0))) := by
        rw [hw2]
        unfold Hid
        refine heap_setCell_same _ g _ _ _ _ ?_
        refine heap_setCell_same _ g _ _ _ _ ?_
        refine heap_setCell_same _ g _ _ _ _ ?_
        refine heap_setCell_same _ g _ _ _ _ ?_
        refine heap_setCell_same _ g _ _ _ _ ?_
        exact hg
      have O2 := Lib.hid (ho.fr _ F2 (fun b hb e => hQg (e ▸ hb)))
      have HF2 := Lib.hid F2
      have HQg := Lib.hid hQg
      have HN := Lib.hid hnext
      have HW2 := Lib.hid hw2
      clear hw2 F2 hQg hnext ho
      go_wp2_with fail
      rw [← HW2.out]
      refine (IH.out Q A' l[j].kids cp _ w2 O2.out hwb (by omega) (by omega)).mono ?_
      rintro e w3 ⟨rfl, ho3, hf3⟩
      have hk2 : k + S + 1 + 1 + 1 + 1 + 1 = k + S + 5 := by omega
      have ho3' : OPs d' w3 Q A' (numPs (k + S + 5) l[j].kids) := by rw [← hk2]; exact ho3
      have HH3 : Hid (HalfP d' P (some ⟨g, 0, none⟩) l k (j + 1) w w3) := by
        refine HN.out w3 _ (hf3.block G2.out HQg.out) (fun i c hi hc => ?_) ?_ ?_ ?_ ?_ ?_ ?_ ho3' ((HF2.out.wide (fun b hb => .inr hb)).trans (hf3.wide (fun b hb => .inl hb)))
        · have h1 : i * 6 + c ≠ j * 6 ∧ i * 6 + c ≠ j * 6 + 1 ∧ i * 6 + c ≠ j * 6 + 2 ∧ i * 6 + c ≠ j * 6 + 3 ∧ i * 6 + c ≠ j * 6 + 4 := by omega
          simp only [Array.getElem?_setIfInBounds_ne (Ne.symm h1.1), Array.getElem?_setIfInBounds_ne (Ne.symm h1.2.1), Array.getElem?_setIfInBounds_ne (Ne.symm h1.2.2.1), Array.getElem?_setIfInBounds_ne (Ne.symm h1.2.2.2.1), Array.getElem?_setIfInBounds_ne (Ne.symm h1.2.2.2.2)]
        · have hz : j * 6 + 5 < cs.size := (Array.getElem?_eq_some_iff.1 e8).1
          simp [show j * 6 < cs.size by omega]
        · have hz : j * 6 + 5 < cs.size := (Array.getElem?_eq_some_iff.1 e8).1
          simp [show j * 6 + 1 < cs.size by omega]
        · have hz : j * 6 + 5 < cs.size := (Array.getElem?_eq_some_iff.1 e8).1
          simp [show j * 6 + 2 < cs.size by omega] <;> omega
        · have hz : j * 6 + 5 < cs.size := (Array.getElem?_eq_some_iff.1 e8).1
          simp [show j * 6 + 3 < cs.size by omega] <;> omega
        · have hz : j * 6 + 5 < cs.size := (Array.getElem?_eq_some_iff.1 e8).1
          simp [show j * 6 + 4 < cs.size by omega] <;> omega
        · simpa using e8
      clear c0 c1 c2 c3 c4 c8 z0 z1 z2 z3 z4
      go_wp2_with fail
      go_roundw
      case rel => exact ⟨j + 1, by omega, by go_num, S + 5 * (1 + wPs l[j].kids), by congr 1; push_cast; omega, by unfold Hid; have a1 := HT.out; have a2 := HS.out; have a3 := HWK.out; omega, HH3⟩
      case measure => simp [intOf]; omega
    · have HE : Hid ((S : Int) = 5 * (wPs l : Int)) := by unfold Hid; rw [HS.out, HSum.out, List.take_of_length_le (by omega), show j = l.length by omega]
      have HA := Lib.hid (HH.out.all (by omega))
      go_wp2_with fail
      go_ret
      exact ⟨ret_i64 (by rw [HE.out]), HA.out, HH.out.1⟩
theorem mkP_any : ∀ d, MkP d
  | 0 => mkP_of 0 (fun _ h => by omega)
  | d + 1 => mkP_of (d + 1) (fun d' h => (Nat.succ.inj h) ▸ mkP_any d)
end Go.Proofs.YthdnfnmglhifmaaGreat
/-
  Vl trees that are marked where they lie, and looked at again. No statement is proved here.
-/
namespace Go.Proofs.YthdnfnmglhifmaaGreat
open Go.RowKit
set_option maxRecDepth 100000
set_option linter.unusedVariables false
mutual
/-- The tree that marking leaves. -/
def numV : Int → Vl → Vl | k, .mk _ _ ks => .mk k (k + 1) (numVs (k + 2) ks)
def numVs : Int → List Vl → List Vl | _, [] => [] | k, v :: vs => numV k v :: numVs (k + 2 * ((1 + wV v : Nat) : Int)) vs
end
theorem numV_kids (k : Int) (v : Vl) : (numV k v).kids = numVs (k + 2) v.kids := by cases v; rw [numV]; rfl
theorem numV_ctor (k : Int) (v : Vl) : (numV k v).ctor = k := by cases v; rw [numV]; rfl
theorem numV_n (k : Int) (v : Vl) : (numV k v).n = k + 1 := by cases v; rw [numV]; rfl
theorem numVs_len : ∀ (k : Int) (l : List Vl), (numVs k l).length = l.length
  | _, [] => by rw [numVs]
  | k, v :: vs => by rw [numVs, List.length_cons, numVs_len, List.length_cons]
theorem numVs_at : ∀ (k : Int) (l : List Vl) (j : Nat) (h : j < (numVs k l).length) (h' : j < l.length), (numVs k l)[j] = numV (k + 2 * ((j + ((l.take j).map wV).sum : Nat) : Int)) l[j]
  | _, [], j, _, h' => absurd h' (Nat.not_lt_zero _)
  | k, v :: vs, 0, h, h' => by
    simp only [numVs, List.getElem_cons_zero, List.take_zero, List.map_nil, List.sum_nil]
    congr 1
    omega
  | k, v :: vs, j + 1, h, h' => by
    have h2 : j < (numVs (k + 2 * ((1 + wV v : Nat) : Int)) vs).length := by rw [numVs_len]; simpa using h'
    simp only [numVs, List.getElem_cons_succ]
    rw [numVs_at _ vs j h2 (by simpa using h')]
    congr 1
    simp only [List.take_succ_cons, List.map_cons, List.sum_cons]
    omega
/-- Marked up to the element j. -/
def HalfV (d : Nat) (P : Nat → Prop) (A : Option Addr) (l : List Vl) (k : Int) (j : Nat) (w wr : World) : Prop := Fr P w wr ∧ ∃ m : List Vl, m.length = l.length ∧ (∀ i (h : i < m.length) (h' : i < (numVs k l).length), i < j → m[i] = (numVs k l)[i]) ∧ (∀ i (h : i < m.length) (h' : i < l.length), j ≤ i → m[i] = l[i]) ∧ OVs (d + 1) wr P A m
theorem HalfV.zero {d : Nat} {P : Nat → Prop} {A : Option Addr} {l : List Vl} {k : Int} {w : World} (h : OVs (d + 1) w P A l) : HalfV d P A l k 0 w w := ⟨Fr.refl _ _, l, rfl, fun _ _ _ h => absurd h (Nat.not_lt_zero _), fun _ _ _ _ => rfl, h⟩
theorem HalfV.all {d : Nat} {P : Nat → Prop} {A : Option Addr} {l : List Vl} {k : Int} {j : Nat} {w wr : World} (h : HalfV d P A l k j w wr) (hj : l.length ≤ j) : OVs (d + 1) wr P A (numVs k l) := by
  obtain ⟨_, m, hm, h1, _, h3⟩ := h
  have e : m = numVs k l := List.ext_getElem (by rw [hm, numVs_len]) (fun i a b => h1 i a b (by omega))
  rw [← e]; exact h3
theorem HalfV.at_ {d : Nat} {P : Nat → Prop} {A : Option Addr} {l : List Vl} {k S : Int} {j : Nat} {w wr : World} (h : HalfV d P A l k j w wr) (hj : j < l.length) (hS : S = 2 * ((j + ((l.take j).map wV).sum : Nat) : Int)) :
    ∃ (g : Nat) (cs : Array Value) (Q : Nat → Prop) (A' : Option Addr) (cap : Nat), A = some ⟨g, 0, none⟩ ∧ wr.heap[g]? = some (.cells cs 31 (0, 0)) ∧ cs[j * 3]? = some (.int .i64 l[j].ctor) ∧ cs[j * 3 + 1]? = some (.int .i64 l[j].n) ∧ cs[j * 3 + 2]? = some (.slice A' l[j].kids.length cap) ∧ OVs d wr Q A' l[j].kids ∧ ¬ Q g ∧
      ∀ (w3 : World) (cs3 : Array Value), w3.heap[g]? = some (.cells cs3 31 (0, 0)) → (∀ i c, i ≠ j → c < 3 → cs3[i * 3 + c]? = cs[i * 3 + c]?) → cs3[j * 3]? = some (.int .i64 (k + S)) → cs3[j * 3 + 1]? = some (.int .i64 (k + S + 1)) → cs3[j * 3 + 2]? = some (.slice A' l[j].kids.length cap) → OVs d w3 Q A' (numVs (k + S + 2) l[j].kids) → Fr (fun b => Q b ∨ b = g) wr w3 → HalfV d P A l k (j + 1) w w3 := by
  obtain ⟨hf, m, hm, h1, h2, h3⟩ := h
  obtain ⟨hl, hp⟩ := h3
  obtain ⟨g, cs, Q, rfl, hg, hh, hq, hc⟩ := hp (by omega)
  have hc' := hc
  obtain ⟨A', cap, e0, e1, e8, e9⟩ := hc j (by omega)
  have hmj : m[j]'(by omega) = l[j] := h2 j (by omega) hj (Nat.le_refl _)
  simp only [hmj] at e0 e1 e8 e9
  refine ⟨g, cs, Q j, A', cap, rfl, hh, e0, e1, e8, e9, fun hqg => (hq j g (by omega) hqg).2.1 rfl, ?_⟩
  intro w3 cs3 hg3 hsame f0 f1 f8 ho3 hf3
  have hnj : (numVs k l)[j]'(by rw [numVs_len]; exact hj) = numV (k + S) l[j] := by rw [numVs_at _ _ _ _ hj, hS]
  refine ⟨hf.trans (hf3.wide (fun b hb => ?_)), m.set j (numV (k + S) l[j]), by simp [hm], fun i h h' hij => ?_, fun i h h' hij => ?_, by simpa using hl, fun _ => ⟨g, cs3, Q, rfl, hg, hg3, fun i b hi hb => ?_, fun i hi => ?_⟩⟩
  · rcases hb with hb | hb
    · exact (hq j b (by omega) hb).1
    · rw [hb]; exact hg
  · by_cases e : i = j
    · subst e
      simp only [List.getElem_set_self]
      exact hnj.symm
    · rw [List.getElem_set_ne (by omega)]
      exact h1 i (by simpa using h) h' (by omega)
  · rw [List.getElem_set_ne (by omega)]
    exact h2 i (by simpa using h) h' (by omega)
  · simp only [List.length_set] at hi
    obtain ⟨a1, a2, a3⟩ := hq i b hi hb
    exact ⟨a1, a2, fun i' hi' => a3 i' (by simpa using hi')⟩
  · simp only [List.length_set] at hi
    by_cases e : i = j
    · subst e
      simp only [List.getElem_set_self, numV_ctor, numV_n, numV_kids, numVs_len]
      exact ⟨A', cap, f0, f1, f8, ho3⟩
    · rw [List.getElem_set_ne (by omega)]
      obtain ⟨A2, c2, q0, q1, q8, q9⟩ := hc' i hi
      refine ⟨A2, c2, (hsame i 0 e (by omega)).trans q0, (hsame i 1 e (by omega)).trans q1, (hsame i 2 e (by omega)).trans q8, q9.fr d hf3 (fun b hb => ?_)⟩
      rintro (hb' | hb')
      · exact (hq i b hi hb).2.2 j (by omega) (by omega) hb'
      · exact (hq i b hi hb).2.1 hb'
def MkV (d : Nat) : Prop := ∀ (P : Nat → Prop) (A : Option Addr) (l : List Vl) (cap : Nat) (k : Int) (w : World), OVs d w P A l → wVs l ≤ 1048576 → 0 ≤ k → k + 2 * (wVs l : Int) ≤ 16777216 →
  Calls Tryz.prog 113 #[.slice A l.length cap, .int .i64 k] w fun e w' => e = .returned (.int .i64 (k + 2 * (wVs l : Nat))) ∧ OVs d w' P A (numVs k l) ∧ Fr P w w'
set_option maxHeartbeats 1600000 in
theorem mkV_of (d : Nat) (ih : ∀ d', d = d' + 1 → MkV d') : MkV d := by
  intro P A l cap k w hr hn h0 h1
  obtain ⟨d', hd, _⟩ := hr.parts
  have IH := Lib.hid (ih d' hd)
  subst hd
  have HSum := Lib.hid (wVs_sum l)
  have hlb : l.length ≤ 1048576 := by have := wVs_sum l; omega
  have HZ := Lib.hid (HalfV.zero (k := k) hr)
  clear hr ih
  go_enter Tryz.func113, Tryz.ntmps113
  go_wp2_with fail
  go_loopw [1, 5] (fun q i wr => ∃ j : Nat, j ≤ l.length ∧ i = .int .i64 j ∧ ∃ S : Nat, q = .int .i64 (k + S) ∧ Hid ((S : Int) = 2 * ((j + ((l.take j).map wV).sum : Nat) : Int)) ∧ Hid (HalfV d' P A l k j w wr)) (fun _ i _ => l.length - (intOf i).toNat)
  case atStart => exact ⟨0, by omega, rfl, 0, by simp, by unfold Hid; simp, HZ⟩
  case round =>
    obtain ⟨j, hj, rfl, S, rfl, HS, HH⟩ := hrel
    clear HZ
    by_cases hlt : j < l.length
    · have HT := Lib.hid (sum_take_succ wV l j hlt)
      have HL := Lib.hid (sum_take_le wV l (j + 1))
      have hwk : wV l[j] = wVs l[j].kids := wV_kids l[j]
      have hSb : k + (S : Int) + 2 * (1 + (wVs l[j].kids : Int)) ≤ 16777216 ∧ wVs l[j].kids ≤ 1048576 := by
        have a1 := HT.out; have a2 := HL.out; have a3 := HSum.out; have a4 := HS.out; omega
      have HWK := Lib.hid hwk
      obtain ⟨hSb, hwb⟩ := hSb
      clear hwk
      obtain ⟨g, cs, Q, A', cp, rfl, hg, e0, e1, e8, ho, hQg, hnext⟩ := HH.out.at_ hlt HS.out
      have c0 := (cell_of_blk hg (j * 3)).trans e0
      have c1 := (cell_of_blk hg (j * 3 + 1)).trans e1
      have c8 := (cell_of_blk hg (j * 3 + 2)).trans e8
      have z0 := frozen_of_row wr g (j * 3) cs 31 hg
      have z1 := frozen_of_row wr g (j * 3 + 1) cs 31 hg
      obtain ⟨w2, hw2⟩ : ∃ w2, w2 = ((wr.setCell ⟨g, j * 3, none⟩ (.int .i64 (k + S))).setCell ⟨g, j * 3 + 1, none⟩ (.int .i64 (k + S + 1))) := ⟨_, rfl⟩
      have F2 : Fr (fun b => b = g) wr w2 := by rw [hw2]; exact ((Fr.set (P := fun b => b = g) _ _ _ _ rfl).trans (Fr.set _ _ _ _ rfl))
      have G2 : Hid (w2.heap[g]? = some (.cells ((cs.setIfInBounds (j * 3) (.int .i64 (k + S))).setIfInBounds (j * 3 + 1) (.int .i64 (k + S + 1))) 31 (0, 0))) := by
        rw [hw2]
        unfold Hid
        refine heap_setCell_same _ g _ _ _ _ ?_
        refine heap_setCell_same _ g _ _ _ _ ?_
        exact hg
      have O2 := Lib.hid (ho.fr _ F2 (fun b hb e => hQg (e ▸ hb)))
      have HF2 := Lib.hid F2
      have HQg := Lib.hid hQg
      have HN := Lib.hid hnext
      have HW2 := Lib.hid hw2
      clear hw2 F2 hQg hnext ho
      go_wp2_with fail
      rw [← HW2.out]
      refine (IH.out Q A' l[j].kids cp _ w2 O2.out hwb (by omega) (by omega)).mono ?_
      rintro e w3 ⟨rfl, ho3, hf3⟩
      have hk2 : k + S + 1 + 1 = k + S + 2 := by omega
      have ho3' : OVs d' w3 Q A' (numVs (k + S + 2) l[j].kids) := by rw [← hk2]; exact ho3
      have HH3 : Hid (HalfV d' P (some ⟨g, 0, none⟩) l k (j + 1) w w3) := by
        refine HN.out w3 _ (hf3.block G2.out HQg.out) (fun i c hi hc => ?_) ?_ ?_ ?_ ho3' ((HF2.out.wide (fun b hb => .inr hb)).trans (hf3.wide (fun b hb => .inl hb)))
        · have h1 : i * 3 + c ≠ j * 3 ∧ i * 3 + c ≠ j * 3 + 1 := by omega
          simp only [Array.getElem?_setIfInBounds_ne (Ne.symm h1.1), Array.getElem?_setIfInBounds_ne (Ne.symm h1.2)]
        · have hz : j * 3 + 2 < cs.size := (Array.getElem?_eq_some_iff.1 e8).1
          simp [show j * 3 < cs.size by omega]
        · have hz : j * 3 + 2 < cs.size := (Array.getElem?_eq_some_iff.1 e8).1
          simp [show j * 3 + 1 < cs.size by omega]
        · simpa using e8
      clear c0 c1 c8 z0 z1
      go_wp2_with fail
      go_roundw
      case rel => exact ⟨j + 1, by omega, by go_num, S + 2 * (1 + wVs l[j].kids), by congr 1; push_cast; omega, by unfold Hid; have a1 := HT.out; have a2 := HS.out; have a3 := HWK.out; omega, HH3⟩
      case measure => simp [intOf]; omega
    · have HE : Hid ((S : Int) = 2 * (wVs l : Int)) := by unfold Hid; rw [HS.out, HSum.out, List.take_of_length_le (by omega), show j = l.length by omega]
      have HA := Lib.hid (HH.out.all (by omega))
      go_wp2_with fail
      go_ret
      exact ⟨ret_i64 (by rw [HE.out]), HA.out, HH.out.1⟩
theorem mkV_any : ∀ d, MkV d
  | 0 => mkV_of 0 (fun _ h => by omega)
  | d + 1 => mkV_of (d + 1) (fun d' h => (Nat.succ.inj h) ▸ mkV_any d)
theorem markV_any (d : Nat) (P : Nat → Prop) (A : Option Addr) (l : List Vl) (cap : Nat) (x0 x1 k : Int) (w : World) (hr : OVs d w P A l) (hP : ∀ b, P b → b < w.heap.size) (hn : wVs l ≤ 1048576) (h0 : 0 ≤ k) (h1 : k + 2 * (wVs l : Int) ≤ 16777216) :
    Calls Tryz.prog 48 #[.agg #[.int .i64 x0, .int .i64 x1, .slice A l.length cap], .int .i64 k] w fun e w' => e = .returned (.int .i64 (k + 2 * (wVs l : Nat))) ∧ OVs d w' P A (numVs k l) ∧ Fr P w w' := by
  have Hr := Lib.hid (hr.fr _ (Fr.below (P := fun _ => False) ((Below.refl _ w).alloc (Nat.le_refl _) (.cells #[.int .i64 x0, .int .i64 x1, .slice A l.length cap] 31))) (fun _ _ h => h))
  clear hr
  go_enter Tryz.func48, Tryz.ntmps48
  go_wp2_with (go_at_call 113; refine (mkV_any _ P _ _ _ _ _ Hr.out hn h0 h1).mono ?_; rintro e w1 ⟨rfl, ho, hf⟩)
  go_ret
  exact ⟨rfl, ho, (Fr.below ((Below.refl _ _).alloc (Nat.le_refl _) _)).trans hf⟩
end Go.Proofs.YthdnfnmglhifmaaGreat
/-
  Lists of what variables stand for that are marked where they lie. No statement is proved here.
-/
namespace Go.Proofs.YthdnfnmglhifmaaGreat
open Go.RowKit
set_option maxRecDepth 100000
set_option linter.unusedVariables false
/-- What marking leaves. -/
def numB (k : Int) (x : Bn) : Bn := ⟨k, .mk (k + 1) (k + 2) (numVs (k + 3) x.val.kids)⟩
def numBs : Int → List Bn → List Bn
  | _, [] => []
  | k, x :: xs => numB k x :: numBs (k + (3 + 2 * wB x : Nat)) xs
/-- How far marking counts for the first j. -/
def stB (l : List Bn) (j : Nat) : Nat := 3 * j + 2 * ((l.take j).map wB).sum
theorem stB_zero (l : List Bn) : stB l 0 = 0 := rfl
theorem stB_succ (l : List Bn) (j : Nat) (h : j < l.length) : stB l (j + 1) = stB l j + (3 + 2 * wB l[j]) := by
  unfold stB; rw [sum_take_succ wB l j h]; omega
theorem stB_le (l : List Bn) (j : Nat) (h : j ≤ l.length) : stB l j ≤ stB l l.length := by
  unfold stB; have := sum_take_le wB l j; rw [List.take_length]; omega
theorem numBs_len : ∀ (k : Int) (l : List Bn), (numBs k l).length = l.length
  | _, [] => by rw [numBs]
  | k, x :: xs => by rw [numBs, List.length_cons, numBs_len, List.length_cons]
theorem numBs_at : ∀ (k : Int) (l : List Bn) (j : Nat) (h : j < (numBs k l).length) (h' : j < l.length), (numBs k l)[j] = numB (k + (stB l j : Nat)) l[j]
  | _, [], j, _, h' => absurd h' (Nat.not_lt_zero _)
  | k, x :: xs, 0, h, h' => by
    simp only [numBs, List.getElem_cons_zero, stB_zero]
    congr 1
    omega
  | k, x :: xs, j + 1, h, h' => by
    have h2 : j < (numBs (k + (3 + 2 * wB x : Nat)) xs).length := by rw [numBs_len]; simpa using h'
    simp only [numBs, List.getElem_cons_succ]
    rw [numBs_at _ xs j h2 (by simpa using h')]
    congr 1
    unfold stB
    simp only [List.take_succ_cons, List.map_cons, List.sum_cons]
    omega
/-- Marked up to the element j. -/
def HalfB (d : Nat) (P : Nat → Prop) (A : Option Addr) (l : List Bn) (k : Int) (j : Nat) (w wr : World) : Prop := Fr P w wr ∧ ∃ m : List Bn, m.length = l.length ∧ (∀ i (h : i < m.length) (h' : i < (numBs k l).length), i < j → m[i] = (numBs k l)[i]) ∧ (∀ i (h : i < m.length) (h' : i < l.length), j ≤ i → m[i] = l[i]) ∧ OBs d wr P A m
theorem HalfB.zero {d : Nat} {P : Nat → Prop} {A : Option Addr} {l : List Bn} {k : Int} {w : World} (h : OBs d w P A l) : HalfB d P A l k 0 w w := ⟨Fr.refl _ _, l, rfl, fun _ _ _ h => absurd h (Nat.not_lt_zero _), fun _ _ _ _ => rfl, h⟩
theorem HalfB.all {d : Nat} {P : Nat → Prop} {A : Option Addr} {l : List Bn} {k : Int} {j : Nat} {w wr : World} (h : HalfB d P A l k j w wr) (hj : l.length ≤ j) : OBs d wr P A (numBs k l) := by
  obtain ⟨_, m, hm, h1, _, h3⟩ := h
  have e : m = numBs k l := List.ext_getElem (by rw [hm, numBs_len]) (fun i a b => h1 i a b (by omega))
  rw [← e]; exact h3
theorem HalfB.at_ {d : Nat} {P : Nat → Prop} {A : Option Addr} {l : List Bn} {k S : Int} {j : Nat} {w wr : World} (h : HalfB d P A l k j w wr) (hj : j < l.length) (hS : S = (stB l j : Nat)) :
    ∃ (g : Nat) (cs : Array Value) (Q : Nat → Prop) (A' : Option Addr) (cap : Nat), A = some ⟨g, 0, none⟩ ∧ wr.heap[g]? = some (.cells cs 41 (0, 0)) ∧ cs[j * 4]? = some (.int .i64 l[j].var) ∧ cs[j * 4 + 1]? = some (.int .i64 l[j].val.ctor) ∧ cs[j * 4 + 2]? = some (.int .i64 l[j].val.n) ∧ cs[j * 4 + 3]? = some (.slice A' l[j].val.kids.length cap) ∧ OVs d wr Q A' l[j].val.kids ∧ ¬ Q g ∧
      ∀ (w3 : World) (cs3 : Array Value), w3.heap[g]? = some (.cells cs3 41 (0, 0)) → (∀ i c, i ≠ j → c < 4 → cs3[i * 4 + c]? = cs[i * 4 + c]?) → cs3[j * 4]? = some (.int .i64 (k + S)) → cs3[j * 4 + 1]? = some (.int .i64 (k + S + 1)) → cs3[j * 4 + 2]? = some (.int .i64 (k + S + 2)) → cs3[j * 4 + 3]? = some (.slice A' l[j].val.kids.length cap) → OVs d w3 Q A' (numVs (k + S + 3) l[j].val.kids) → Fr (fun b => Q b ∨ b = g) wr w3 → HalfB d P A l k (j + 1) w w3 := by
  obtain ⟨hf, m, hm, h1, h2, h3⟩ := h
  obtain ⟨hl, hp⟩ := h3
  obtain ⟨g, cs, Q, rfl, hg, hh, hq, hc⟩ := hp (by omega)
  have hc' := hc
  obtain ⟨A', cap, e0, e1, e2, e8, e9⟩ := hc j (by omega)
  have hmj : m[j]'(by omega) = l[j] := h2 j (by omega) hj (Nat.le_refl _)
  simp only [hmj] at e0 e1 e2 e8 e9
  refine ⟨g, cs, Q j, A', cap, rfl, hh, e0, e1, e2, e8, e9, fun hqg => (hq j g (by omega) hqg).2.1 rfl, ?_⟩
  intro w3 cs3 hg3 hsame f0 f1 f2 f8 ho3 hf3
  have hnj : (numBs k l)[j]'(by rw [numBs_len]; exact hj) = numB (k + S) l[j] := by rw [numBs_at _ _ _ _ hj, hS]
  refine ⟨hf.trans (hf3.wide (fun b hb => ?_)), m.set j (numB (k + S) l[j]), by simp [hm], fun i h h' hij => ?_, fun i h h' hij => ?_, by simpa using hl, fun _ => ⟨g, cs3, Q, rfl, hg, hg3, fun i b hi hb => ?_, fun i hi => ?_⟩⟩
  · rcases hb with hb | hb
    · exact (hq j b (by omega) hb).1
    · rw [hb]; exact hg
  · by_cases e : i = j
    · subst e
      simp only [List.getElem_set_self]
      exact hnj.symm
    · rw [List.getElem_set_ne (by omega)]
      exact h1 i (by simpa using h) h' (by omega)
  · rw [List.getElem_set_ne (by omega)]
    exact h2 i (by simpa using h) h' (by omega)
  · simp only [List.length_set] at hi
    obtain ⟨a1, a2, a3⟩ := hq i b hi hb
    exact ⟨a1, a2, fun i' hi' => a3 i' (by simpa using hi')⟩
  · simp only [List.length_set] at hi
    by_cases e : i = j
    · subst e
      simp only [List.getElem_set_self, numB, Vl.ctor, Vl.n, Vl.kids, numVs_len]
      exact ⟨A', cap, f0, f1, f2, f8, ho3⟩
    · rw [List.getElem_set_ne (by omega)]
      obtain ⟨A2, c2, q0, q1, q2, q8, q9⟩ := hc' i hi
      refine ⟨A2, c2, (hsame i 0 e (by omega)).trans q0, (hsame i 1 e (by omega)).trans q1, (hsame i 2 e (by omega)).trans q2, (hsame i 3 e (by omega)).trans q8, q9.fr d hf3 (fun b hb => ?_)⟩
      rintro (hb' | hb')
      · exact (hq i b hi hb).2.2 j (by omega) (by omega) hb'
      · exact (hq i b hi hb).2.1 hb'
set_option maxHeartbeats 1600000 in
theorem mkB_any (d : Nat) (P : Nat → Prop) (A : Option Addr) (l : List Bn) (cap : Nat) (k : Int) (w : World) (hr : OBs d w P A l) (hn : stB l l.length ≤ 1048576) (h0 : 0 ≤ k) (h1 : k + (stB l l.length : Nat) ≤ 16777216) :
    Calls Tryz.prog 49 #[.slice A l.length cap, .int .i64 k] w fun e w' => e = .returned (.int .i64 (k + (stB l l.length : Nat))) ∧ OBs d w' P A (numBs k l) ∧ Fr P w w' := by
  have hlb : l.length ≤ 1048576 := by unfold stB at hn; omega
  have HZ := Lib.hid (HalfB.zero (k := k) hr)
  have IH := Lib.hid (mkV_any d)
  clear hr
  go_enter Tryz.func49, Tryz.ntmps49
  go_wp2_with fail
  go_loopw [1, 5] (fun q i wr => ∃ j : Nat, j ≤ l.length ∧ i = .int .i64 j ∧ ∃ S : Nat, q = .int .i64 (k + S) ∧ Hid ((S : Int) = (stB l j : Nat)) ∧ Hid (HalfB d P A l k j w wr)) (fun _ i _ => l.length - (intOf i).toNat)
  case atStart => exact ⟨0, by omega, rfl, 0, by simp, by unfold Hid; rw [stB_zero], HZ⟩
  case round =>
    obtain ⟨j, hj, rfl, S, rfl, HS, HH⟩ := hrel
    clear HZ
    by_cases hlt : j < l.length
    · have HT := Lib.hid (stB_succ l j hlt)
      have HL := Lib.hid (stB_le l (j + 1) hlt)
      have HWB : Hid (wB l[j] = wVs l[j].val.kids) := rfl
      have hSb : k + (S : Int) + 3 + 2 * (wVs l[j].val.kids : Int) ≤ 16777216 ∧ wVs l[j].val.kids ≤ 1048576 := by
        have a1 := HT.out; have a2 := HL.out; have a4 := HS.out; have a5 := HWB.out; omega
      obtain ⟨hSb, hwb⟩ := hSb
      obtain ⟨g, cs, Q, A', cp, rfl, hg, e0, e1, e2, e8, ho, hQg, hnext⟩ := HH.out.at_ hlt HS.out
      have c0 := (cell_of_blk hg (j * 4)).trans e0
      have c1 := (cell_of_blk hg (j * 4 + 1)).trans e1
      have c2 := (cell_of_blk hg (j * 4 + 2)).trans e2
      have c8 := (cell_of_blk hg (j * 4 + 3)).trans e8
      have z0 := frozen_of_row wr g (j * 4) cs 41 hg
      have z1 := frozen_of_row wr g (j * 4 + 1) cs 41 hg
      have z2 := frozen_of_row wr g (j * 4 + 2) cs 41 hg
      obtain ⟨w2, hw2⟩ : ∃ w2, w2 = (((wr.setCell ⟨g, j * 4, none⟩ (.int .i64 (k + S))).setCell ⟨g, j * 4 + 1, none⟩ (.int .i64 (k + S + 1))).setCell ⟨g, j * 4 + 2, none⟩ (.int .i64 (k + S + 1 + 1))) := ⟨_, rfl⟩
      have F2 : Fr (fun b => b = g) wr w2 := by rw [hw2]; exact (((Fr.set (P := fun b => b = g) _ _ _ _ rfl).trans (Fr.set _ _ _ _ rfl)).trans (Fr.set _ _ _ _ rfl))
      have G2 : Hid (w2.heap[g]? = some (.cells (((cs.setIfInBounds (j * 4) (.int .i64 (k + S))).setIfInBounds (j * 4 + 1) (.int .i64 (k + S + 1))).setIfInBounds (j * 4 + 2) (.int .i64 (k + S + 1 + 1))) 41 (0, 0))) := by
        rw [hw2]
        unfold Hid
        refine heap_setCell_same _ g _ _ _ _ ?_
        refine heap_setCell_same _ g _ _ _ _ ?_
        refine heap_setCell_same _ g _ _ _ _ ?_
        exact hg
      have O2 := Lib.hid (ho.fr _ F2 (fun b hb e => hQg (e ▸ hb)))
      have HF2 := Lib.hid F2
      have HQg := Lib.hid hQg
      have HN := Lib.hid hnext
      have HW2 := Lib.hid hw2
      clear hw2 F2 hQg hnext ho
      go_wp2_with fail
      rw [← HW2.out]
      refine (IH.out Q A' l[j].val.kids cp _ w2 O2.out hwb (by omega) (by omega)).mono ?_
      rintro e w3 ⟨rfl, ho3, hf3⟩
      have hk2 : k + S + 1 + 1 + 1 = k + S + 3 := by omega
      have hk3 : k + (S : Int) + 1 + 1 = k + S + 2 := by omega
      have ho3' : OVs d w3 Q A' (numVs (k + S + 3) l[j].val.kids) := by rw [← hk2]; exact ho3
      have HH3 : Hid (HalfB d P (some ⟨g, 0, none⟩) l k (j + 1) w w3) := by
        have hz : j * 4 + 3 < cs.size := (Array.getElem?_eq_some_iff.1 e8).1
        refine HN.out w3 _ (hf3.block G2.out HQg.out) (fun i c hi hc => ?_) ?_ ?_ ?_ ?_ ho3' ((HF2.out.wide (fun b hb => .inr hb)).trans (hf3.wide (fun b hb => .inl hb)))
        · have h1 : i * 4 + c ≠ j * 4 ∧ i * 4 + c ≠ j * 4 + 1 ∧ i * 4 + c ≠ j * 4 + 2 := by omega
          simp only [Array.getElem?_setIfInBounds_ne (Ne.symm h1.1), Array.getElem?_setIfInBounds_ne (Ne.symm h1.2.1), Array.getElem?_setIfInBounds_ne (Ne.symm h1.2.2)]
        · simp [show j * 4 < cs.size by omega]
        · simp [show j * 4 + 1 < cs.size by omega]
        · simp [show j * 4 + 2 < cs.size by omega, hk3]
        · simpa using e8
      clear c0 c1 c2 c8 z0 z1 z2 hk3 hk2
      go_wp2_with fail
      go_roundw
      case rel => exact ⟨j + 1, by omega, by go_num, S + (3 + 2 * wVs l[j].val.kids), by congr 1; push_cast; omega, by unfold Hid; have a1 := HT.out; have a2 := HS.out; have a3 := HWB.out; omega, HH3⟩
      case measure => simp [intOf]; omega
    · have HE : Hid ((S : Int) = (stB l l.length : Nat)) := by unfold Hid; rw [HS.out, show j = l.length by omega]
      have HA := Lib.hid (HH.out.all (by omega))
      go_wp2_with fail
      go_ret
      exact ⟨ret_i64 (by rw [HE.out]), HA.out, HH.out.1⟩
end Go.Proofs.YthdnfnmglhifmaaGreat
/-
  Vl trees that are looked at behind the marking. No statement is proved here.
-/
namespace Go.Proofs.YthdnfnmglhifmaaGreat
open Go.RowKit
set_option maxRecDepth 100000
set_option linter.unusedVariables false
def HdV (d : Nat) : Prop := ∀ (A : Option Addr) (l : List Vl) (cap : Nat) (k : Int) (w : World), RVs d w w.heap.size A (numVs k l) → wVs l ≤ 1048576 → 0 ≤ k → k + 2 * (wVs l : Int) ≤ 16777216 →
  Calls Tryz.prog 114 #[.slice A l.length cap, .int .i64 k] w fun e w' => e = .returned (.int .i64 (k + 2 * (wVs l : Nat))) ∧ w = w'
set_option maxHeartbeats 1600000 in
theorem hdV_of (d : Nat) (ih : ∀ d', d = d' + 1 → HdV d') : HdV d := by
  intro A l cap k w hr hn h0 h1
  have IH := Lib.hid ih
  have HSum := Lib.hid (wVs_sum l)
  have hlb : l.length ≤ 1048576 := by have := wVs_sum l; omega
  have Hr := Lib.hid hr
  clear hr ih
  go_enter Tryz.func114, Tryz.ntmps114
  go_wp2_with fail
  go_loopw [1, 5] (fun q i wr => ∃ j : Nat, j ≤ l.length ∧ i = .int .i64 j ∧ ∃ S : Nat, q = .int .i64 (k + S) ∧ Hid ((S : Int) = 2 * ((j + ((l.take j).map wV).sum : Nat) : Int)) ∧ w = wr) (fun _ i _ => l.length - (intOf i).toNat)
  case atStart => exact ⟨0, by omega, rfl, 0, by simp, by unfold Hid; simp, rfl⟩
  case round =>
    obtain ⟨j, hj, rfl, S, rfl, HS, rfl⟩ := hrel
    by_cases hlt : j < l.length
    · have HT := Lib.hid (sum_take_succ wV l j hlt)
      have HL := Lib.hid (sum_take_le wV l (j + 1))
      have hwk : wV l[j] = wVs l[j].kids := wV_kids l[j]
      have hSb : k + (S : Int) + 2 * (1 + (wVs l[j].kids : Int)) ≤ 16777216 ∧ wVs l[j].kids ≤ 1048576 := by
        have a1 := HT.out; have a2 := HL.out; have a3 := HSum.out; have a4 := HS.out; omega
      have HWK := Lib.hid hwk
      obtain ⟨hSb, hwb⟩ := hSb
      clear hwk
      obtain ⟨b, off, rfl, hbB, hv⟩ := Hr.out.2 j (by rw [numVs_len]; exact hlt)
      rw [numVs_at _ _ _ _ hlt, ← HS.out] at hv
      obtain ⟨d', hd, A', cp, c0, c1, c8, hm⟩ := hv.parts
      rw [numV_kids, numVs_len] at c8
      rw [numV_kids] at hm
      simp only [numV_ctor, numV_n] at c0 c1
      have Hm : Hid (RVs d' w w.heap.size A' (numVs (k + (S : Int) + 1 + 1) l[j].kids)) := by unfold Hid; rw [show k + (S : Int) + 1 + 1 = k + (S : Int) + 2 by omega]; exact hm
      have IHd := Lib.hid (IH.out d' hd)
      clear hm hv hd
      go_wp2_with (go_at_call 114; refine (IHd.out A' l[j].kids cp (k + (S : Int) + 1 + 1) _ Hm.out hwb (by omega) (by omega)).mono ?_; rintro e w3 ⟨rfl, rfl⟩)
      go_roundw
      case rel => exact ⟨j + 1, by omega, by go_num, S + 2 * (1 + wVs l[j].kids), by congr 1; push_cast; omega, by unfold Hid; have a1 := HT.out; have a2 := HS.out; have a3 := HWK.out; omega, by first | rfl | trivial⟩
      case measure => simp [intOf]; omega
    · have HE : Hid ((S : Int) = 2 * (wVs l : Int)) := by unfold Hid; rw [HS.out, HSum.out, List.take_of_length_le (by omega), show j = l.length by omega]
      go_wp2_with fail
      go_ret
      exact ⟨ret_i64 (by rw [HE.out]), rfl⟩
theorem hdV_any : ∀ d, HdV d
  | 0 => hdV_of 0 (fun _ h => by omega)
  | d + 1 => hdV_of (d + 1) (fun d' h => (Nat.succ.inj h) ▸ hdV_any d)
end Go.Proofs.YthdnfnmglhifmaaGreat
