/-
  Rows of variables compared, marked, and found marked. No statement is proved here.
-/
import Derived.Test.YtphmhlekfmkdkaaG11
import Derived.Test.YtphmhlekfmkdkaaG02
import Derived.Test.YtphmhlekfmkdkaaG12
import Derived.Test.YtphmhlekfmkdkaaG03
import Derived.Test.YtphmhlekfmkdkaaG04
import Derived.Deep.RegionHeld3
namespace Go.Proofs.Ytphmhlekfmkdkaa
open Go.RowKit Go.Sort Go.Deep
set_option maxRecDepth 100000
set_option linter.unusedVariables false

theorem eqVt_same (x : Vt) (w : World) : Calls Try.prog 50 #[vv x, vv x] w fun e w' => e = .returned (.bool true) ∧ Below w.heap.size w w' := by
  go_enter Try.func50, Try.ntmps50
  go_wp2_with (go_at_call 77; refine (eqType_same _ _ _).mono ?_; rintro e w1 ⟨rfl, hb⟩)
  go_ret
  exact ⟨rfl, below_two hb⟩

set_option maxHeartbeats 800000 in
theorem eqVts_same (A A' : Option Addr) (L : List Vt) (cap cap' : Nat) (w : World) (hr : RVts w w.heap.size A L) (hr' : RVts w w.heap.size A' L) :
    Calls Try.prog 19 #[.slice A L.length cap, .slice A' L.length cap'] w fun e w' => e = .returned (.bool true) ∧ Below w.heap.size w w' := by
  have hn := hr.1
  unfold maxLen at hn
  have Hr := Lib.hid hr
  have Hr' := Lib.hid hr'
  clear hr hr'
  go_enter Try.func19, Try.ntmps19
  go_wp2_with fail
  go_loopw [5] (fun i wr => ∃ k : Nat, k ≤ L.length ∧ i = .int .i64 k ∧ Below w.heap.size w wr) (fun i _ => L.length - (intOf i).toNat)
  case atStart => exact ⟨0, by omega, rfl, Below.refl _ _⟩
  case round =>
    obtain ⟨k, hk, rfl, hb⟩ := hrel
    by_cases hlt : k < L.length
    · obtain ⟨b, off, rfl, hbB, c0, c1, c2⟩ := (Hr.out.at_ hb).2 k hlt
      obtain ⟨b', off', rfl, hbB', c0', c1', c2'⟩ := (Hr'.out.at_ hb).2 k hlt
      have d0 := cell_regrown c0
      have d1 := cell_regrown c1
      have d2 := cell_regrown c2
      have d0' := cell_regrown c0'
      have d1' := cell_regrown c1'
      have d2' := cell_regrown c2'
      clear c0 c1 c2 c0' c1' c2'
      have hi : (k : Int) < (L.length : Int) := by omega
      go_wp2_with fail
      refine wp_region_quiet_below (by kernel_rfl) (by kernel_rfl) ?_
      repeat (quiet_step (exact Calls.regrown_of (eqVt_same L[k] _)))
      refine wpQuiet_nil ?_
      intro _ hw'
      obtain ⟨⟨dq, osq⟩, hw''⟩ := hw'
      subst hw''
      have hb2 := hb.trans ((below_regrown wr dq osq).mono hb.size)
      clear d0 d1 d2 d0' d1' d2'
      go_wp2_with fail
      go_roundw
      case rel => exact ⟨k + 1, by omega, by go_num, hb2⟩
      case measure => simp [intOf]; omega
    · go_wp2_with fail
      go_ret
      exact ⟨rfl, hb⟩

/-- The marks lie there. -/
def RMkV (w : World) (A : Option Addr) (n : Nat) (k : Int) : Prop := ∀ j, j < n → ∃ b off, A = some ⟨b, off, none⟩ ∧ b < w.heap.size ∧ w.cell? ⟨b, off + j * 3, none⟩ = some (.int .i64 (k + 3 * j)) ∧ w.cell? ⟨b, off + j * 3 + 1, none⟩ = some (.int .i64 (k + 3 * j + 1)) ∧ w.cell? ⟨b, off + j * 3 + 1 + 1, none⟩ = some (.int .i64 (k + 3 * j + 1 + 1))
theorem RMkV.at_ {w w' : World} {A : Option Addr} {n : Nat} {k : Int} (h : RMkV w A n k) (hb : Below w.heap.size w w') : RMkV w' A n k := fun j hj => by
  obtain ⟨b, off, e, hbl, h1, h2, h3⟩ := h j hj
  exact ⟨b, off, e, Nat.lt_of_lt_of_le hbl hb.size, (hb.cell (p := ⟨b, off + j * 3, none⟩) hbl).trans h1, (hb.cell (p := ⟨b, off + j * 3 + 1, none⟩) hbl).trans h2, (hb.cell (p := ⟨b, off + j * 3 + 1 + 1, none⟩) hbl).trans h3⟩
def MarkedV (w : World) (lo : Nat) (v : Value) (n : Nat) (k : Int) (j : Nat) : Prop := ∃ xs, w.ownsRow lo 92 3 v n xs ∧ ∀ i, i < j * 3 → xs[i]? = some (.int .i64 (k + i))
theorem MarkedV.reads {w : World} {lo g n cap : Nat} {k : Int} (h : MarkedV w lo (.slice (some ⟨g, 0, none⟩) n cap) n k n) : RMkV w (some ⟨g, 0, none⟩) n k := fun j hj => by
  obtain ⟨xs, ho, hx⟩ := h
  refine ⟨g, 0, rfl, own_lt ho, ?_, ?_, ?_⟩
  · rw [Nat.zero_add, ho.cellAt (j * 3) (by omega), hx (j * 3) (by omega)]; congr 2; push_cast; omega
  · rw [Nat.zero_add, ho.cellAt (j * 3 + 1) (by omega), hx (j * 3 + 1) (by omega)]; congr 2; push_cast; omega
  · rw [Nat.zero_add, ho.cellAt (j * 3 + 1 + 1) (by omega), hx (j * 3 + 1 + 1) (by omega)]; congr 2; push_cast; omega
set_option maxHeartbeats 1600000 in
theorem markVts_some (g n cap lo : Nat) (k : Int) (xs : List Value) (w : World) (hn : n ≤ 1048576) (h0 : 0 ≤ k) (h1 : k ≤ 1048576) (hr : w.ownsRow lo 92 3 (.slice (some ⟨g, 0, none⟩) n cap) n xs) :
    Calls Try.prog 22 #[.slice (some ⟨g, 0, none⟩) n cap, .int .i64 k] w fun e w' => e = .returned (.int .i64 (k + 3 * n)) ∧ MarkedV w' lo (.slice (some ⟨g, 0, none⟩) n cap) n k n ∧ w.grownBy w' (some g) := by
  have Hr := Lib.hid hr
  clear hr
  go_enter Try.func22, Try.ntmps22
  go_wp2_with fail
  go_loopw [1, 5] (fun q i wr => ∃ j : Nat, j ≤ n ∧ i = .int .i64 j ∧ q = .int .i64 (k + 3 * j) ∧ MarkedV wr lo (.slice (some ⟨g, 0, none⟩) n cap) n k j ∧ w.grownBy wr (some g)) (fun _ i _ => n - (intOf i).toNat)
  case atStart => exact ⟨0, by omega, rfl, by simp, ⟨xs, Hr.out, fun i h => absurd h (by omega)⟩, World.grownBy.refl _ _⟩
  case round =>
    obtain ⟨j, hj, rfl, rfl, hm, hg⟩ := hrel
    by_cases hlt : j < n
    · obtain ⟨ys, ho, hy⟩ := hm
      have HY := Lib.hid hy
      have HO := Lib.hid ho
      obtain ⟨v0, f0⟩ := own_cell ho (j * 3) (by omega)
      obtain ⟨v1, f1⟩ := own_cell ho (j * 3 + 1) (by omega)
      obtain ⟨v2, f2⟩ := own_cell ho (j * 3 + 1 + 1) (by omega)
      have g0 := ho.frozenAt (j * 3)
      have g1 := ho.frozenAt (j * 3 + 1)
      have g2 := ho.frozenAt (j * 3 + 1 + 1)
      clear hy ho
      go_wp2_with fail
      have hs := (HO.out.stored (j * 3) (.int .i64 (k + 3 * j))).1
      have hs2 := (hs.stored (j * 3 + 1) (.int .i64 (k + 3 * j + 1))).1
      have hs3 := (hs2.stored (j * 3 + 1 + 1) (.int .i64 (k + 3 * j + 1 + 1))).1
      have hg2 : w.grownBy (((wr.setCell ⟨g, j * 3, none⟩ (.int .i64 (k + 3 * j))).setCell ⟨g, j * 3 + 1, none⟩ (.int .i64 (k + 3 * j + 1))).setCell ⟨g, j * 3 + 1 + 1, none⟩ (.int .i64 (k + 3 * j + 1 + 1))) (some g) := by
        have hg1 := (HO.out.stored (j * 3) (.int .i64 (k + 3 * j))).2
        have hg3 := (hs.stored (j * 3 + 1) (.int .i64 (k + 3 * j + 1))).2
        have hg4 := (hs2.stored (j * 3 + 1 + 1) (.int .i64 (k + 3 * j + 1 + 1))).2
        have tr : ∀ {a b c : World}, a.grownBy b (some g) → b.grownBy c (some g) → a.grownBy c (some g) := fun h h' => ⟨h'.os.trans h.os, h'.tape.trans h.tape, h'.output.trans h.output, Nat.le_trans h.size h'.size, fun b hb hne => (h'.block b (Nat.lt_of_lt_of_le hb h.size) hne).trans (h.block b hb hne)⟩
        exact tr (tr (tr hg hg1) hg3) hg4
      have hl := HO.out.1
      go_roundw
      case rel => exact ⟨j + 1, by omega, by go_num, by congr 1; push_cast; omega, ⟨_, hs3, fun i hi => by
        by_cases e : i = j * 3
        · subst e; rw [List.getElem?_set_ne (by omega), List.getElem?_set_ne (by omega), List.getElem?_set_self (by omega)]; congr 2; push_cast; omega
        · by_cases e' : i = j * 3 + 1
          · subst e'; rw [List.getElem?_set_ne (by omega), List.getElem?_set_self (by simp; omega)]; congr 2; push_cast; omega
          · by_cases e2 : i = j * 3 + 1 + 1
            · subst e2; rw [List.getElem?_set_self (by simp; omega)]; congr 2; push_cast; omega
            · rw [List.getElem?_set_ne (by omega), List.getElem?_set_ne (by omega), List.getElem?_set_ne (by omega)]; exact HY.out i (by omega)⟩, hg2⟩
      case measure => simp [intOf]; omega
    · have he : j = n := by omega
      have HM : Hid (MarkedV wr lo (.slice (some ⟨g, 0, none⟩) n cap) n k n) := by rw [← he] at hm ⊢; exact hm
      have HE := Lib.hid he
      clear he hm
      go_wp2_with fail
      go_ret
      exact ⟨ret_i64 (by rw [HE.out]), HM.out, hg⟩
theorem markVts_none (A : Option Addr) (cap : Nat) (k : Int) (w : World) :
    Calls Try.prog 22 #[.slice A 0 cap, .int .i64 k] w fun e w' => e = .returned (.int .i64 k) ∧ w = w' := by
  go_enter Try.func22, Try.ntmps22
  go_wp2_with fail
  go_loopw [1, 5] (fun q i wr => i = .int .i64 0 ∧ q = .int .i64 k ∧ w = wr) (fun _ _ _ => 0)
  case atStart => exact ⟨rfl, rfl, rfl⟩
  case round =>
    obtain ⟨rfl, rfl, rfl⟩ := hrel
    go_wp2_with fail
    go_ret
    exact ⟨rfl, rfl⟩
/-- A row of variables of the call's own, marked. -/
theorem markVts_any (A : Option Addr) (cap lo : Nat) (L : List Vt) (k : Int) (w : World) (hn : L.length ≤ 1000) (h0 : 0 ≤ k) (h1 : k ≤ 1048576) (hr : OVt w lo (.slice A L.length cap) L) :
    Calls Try.prog 22 #[.slice A L.length cap, .int .i64 k] w fun e w' => e = .returned (.int .i64 (k + 3 * L.length)) ∧ RMkV w' A L.length k ∧ w.grownBy w' (Value.ownBlock (.slice A L.length cap)) := by
  rcases hr.is with ⟨e, rfl⟩ | ⟨g, c, xs, e, _⟩
  · refine (markVts_none A cap k w).mono ?_
    rintro e w' ⟨rfl, rfl⟩
    exact ⟨by simp, fun j hj => absurd hj (Nat.not_lt_zero _), World.grownBy.refl _ _⟩
  · cases e
    obtain ⟨ys, ho, _⟩ := hr
    refine (markVts_some g L.length cap lo k ys w (by omega) h0 h1 ho).mono ?_
    rintro e w' ⟨rfl, hm, hg⟩
    exact ⟨rfl, hm.reads, hg⟩
set_option maxHeartbeats 800000 in
theorem heldVts_any (A : Option Addr) (n cap : Nat) (k : Int) (w : World) (hn : n ≤ 1048576) (h0 : 0 ≤ k) (h1 : k ≤ 1048576) (hr : RMkV w A n k) :
    Calls Try.prog 23 #[.slice A n cap, .int .i64 k] w fun e w' => e = .returned (.int .i64 (k + 3 * n)) ∧ w = w' := by
  have Hr := Lib.hid hr
  clear hr
  go_enter Try.func23, Try.ntmps23
  go_wp2_with fail
  go_loopw [1, 5] (fun q i wr => ∃ j : Nat, j ≤ n ∧ i = .int .i64 j ∧ q = .int .i64 (k + 3 * j) ∧ w = wr) (fun _ i _ => n - (intOf i).toNat)
  case atStart => exact ⟨0, by omega, rfl, by simp, rfl⟩
  case round =>
    obtain ⟨j, hj, rfl, rfl, rfl⟩ := hrel
    by_cases hlt : j < n
    · obtain ⟨b, off, rfl, _, c0, c1, c2⟩ := Hr.out j hlt
      go_wp2_with fail
      go_roundw
      case rel => exact ⟨j + 1, by omega, by go_num, by congr 1; push_cast; omega, trivial⟩
      case measure => simp [intOf]; omega
    · have he : j = n := by omega
      have HE := Lib.hid he
      clear he
      go_wp2_with fail
      go_ret
      exact ⟨ret_i64 (by rw [HE.out]), rfl⟩
end Go.Proofs.Ytphmhlekfmkdkaa
/-
  PatternVars of the document. No statement is proved here.
-/
namespace Go.Proofs.Ytphmhlekfmkdkaa
open Go.RowKit Go.Sort Go.Deep
set_option maxRecDepth 100000
set_option linter.unusedVariables false

set_option maxHeartbeats 1600000 in
theorem pvars_spec (A D : Option Addr) (l : List Da) (cap ep e : Nat) (t : Ty) (p : Pt) (w : World) (hr : RDas w w.heap.size A l) (hv : RPs e w w.heap.size D p.kids) (hn : wP p ≤ 1048576) :
    Calls Try.prog 17 #[.slice A l.length cap, .agg #[.int .i64 t.data, .int .i64 t.index], .agg #[.int .i64 p.op, .int .i64 p.ctor, .int .i64 p.n, .int .i64 p.m, .int .i64 p.var, .slice D p.kids.length ep]] w fun e w' => ∃ v, e = .returned v ∧ OVt w' w.heap.size v (pvL l t p) ∧ Below w.heap.size w w' := by
  have Hr := Lib.hid hr
  have HV := Lib.hid hv
  clear hr hv
  generalize hw0 : (w.alloc (.cells #[.int .i64 t.data, .int .i64 t.index] 33)).alloc (.cells #[.int .i64 p.op, .int .i64 p.ctor, .int .i64 p.n, .int .i64 p.m, .int .i64 p.var, .slice D p.kids.length ep] 37) = w0
  have hb0 := below_box2 hw0
  have HXT : Hid (Bx w0 w.heap.size t) := by rw [← hw0]; exact ⟨by simp [go_sem], by simp [go_sem]⟩
  have HXP : Hid (PBx w0 (w.heap.size + 1) p (.slice D p.kids.length ep)) := by rw [← hw0]; exact ⟨by simp [go_sem], by simp [go_sem], by simp [go_sem], by simp [go_sem], by simp [go_sem], by simp [go_sem]⟩
  have HW := Lib.hid hw0
  clear hw0
  by_cases hf : pvT l t p = true
  · have HF := Lib.hid hf
    have HL := Lib.hid (pvL_yes hf)
    have hsh := pvT_sh hf
    have ht : TyOK l t := by
      by_cases ht : TyOK l t
      · exact ht
      · rw [pvT_no ht] at hf; cases hf
    have HT := Lib.hid ht
    have HSH := Lib.hid hsh
    clear hf ht hsh
    go_enter Try.func17, Try.ntmps17
    go_wp2_with (go_at_call 10; rw [HW.out]; refine (pv_spec A D l cap ep e t p w0 (Hr.out.at_ hb0) (HV.out.at_ hb0) hn).mono ?_; rw [HF.out]; rintro e1 w1 ⟨rfl, hb1⟩; obtain ⟨x0, x1⟩ := HXT.out.at_ hb1; obtain ⟨y0, y1, y2, y3, y4, y5⟩ := HXP.out.at_ hb1; have hb1w := below_aft hb0 hb1 hb0.size; have hlt0 : w.heap.size < w1.heap.size := Go.block_lt_of_cell x0; have hlt1 : w.heap.size + 1 < w1.heap.size := Go.block_lt_of_cell y0)
    obtain ⟨w2, hw2⟩ : ∃ w2, w1.alloc (.cells #[] 92) = w2 := ⟨_, rfl⟩
    have hb2 : Below w1.heap.size w1 w2 := by rw [← hw2]; exact (Below.refl _ _).alloc (Nat.le_refl _) _
    have ho2 : OVt w2 w1.heap.size (.slice (some ⟨w1.heap.size, 0, none⟩) 0 0) [] := by rw [← hw2]; exact ⟨[], World.ownsRow_lit w1 #[] 0 (Nat.le_refl _) (by unfold maxLen; omega) rfl, fun j h => absurd h (Nat.not_lt_zero _)⟩
    have HVC := Lib.hid (varC_any l 10 A D cap ep e t p [] (.slice (some ⟨w1.heap.size, 0, none⟩) 0 0) w1.heap.size w2 ((Hr.out.at_ hb1w).below hb2 (Nat.le_refl _)) HT.out ((HV.out.at_ hb1w).below hb2 (Nat.le_refl _)) HSH.out.1 ho2 hb2.size (by have := HSH.out.2; simp; omega))
    have HW2 := Lib.hid hw2
    clear hw2 ho2
    go_wp2_with (go_at_call 49; (try rw [HW2.out]); refine HVC.out.mono ?_; rintro e3 w3 ⟨v3, rfl, ho3, hg3, hf3⟩; rw [List.nil_append] at ho3; have HO3 := Lib.hid ho3; have HG3 := Lib.hid hg3; clear ho3 hg3 hf3)
    go_ret
    have hs1 := hb1w.size
    have h3 : Below w1.heap.size w1 w3 := hb2.trans (grown_low HG3.out (fun q e => by have e' : w1.heap.size = q := Option.some.inj e; omega) hb2.size)
    exact ⟨_, rfl, by rw [HL.out]; exact HO3.out.lower hs1, hb1w.trans (h3.mono hs1)⟩
  · have hf' : pvT l t p = false := by simpa using hf
    have HF := Lib.hid hf'
    have HL := Lib.hid (pvL_no hf')
    clear hf hf'
    go_enter Try.func17, Try.ntmps17
    go_wp2_with (go_at_call 10; rw [HW.out]; refine (pv_spec A D l cap ep e t p w0 (Hr.out.at_ hb0) (HV.out.at_ hb0) hn).mono ?_; rw [HF.out]; rintro e1 w1 ⟨rfl, hb1⟩; have hb1w := below_aft hb0 hb1 hb0.size)
    go_ret
    exact ⟨_, rfl, by rw [HL.out]; exact ⟨[], World.ownsRow_lit w1 #[] 0 hb1w.size (by unfold maxLen; omega) rfl, fun j h => absurd h (Nat.not_lt_zero _)⟩, hb1w.alloc hb1w.size _⟩
end Go.Proofs.Ytphmhlekfmkdkaa
/-
  Pt trees that are marked where they lie, and looked at again. No statement is proved here.
-/
namespace Go.Proofs.Ytphmhlekfmkdkaa
open Go.RowKit
set_option maxRecDepth 100000
set_option linter.unusedVariables false

mutual
/-- The tree that marking leaves. -/
def numP : Int → Pt → Pt | k, .mk _ _ _ _ _ ks => .mk k (k + 1) (k + 2) (k + 3) (k + 4) (numPs (k + 5) ks)
def numPs : Int → List Pt → List Pt | _, [] => [] | k, v :: vs => numP k v :: numPs (k + 5 * ((1 + wP v : Nat) : Int)) vs
end
theorem numP_kids (k : Int) (v : Pt) : (numP k v).kids = numPs (k + 5) v.kids := by cases v; rw [numP]; rfl
theorem numP_op (k : Int) (v : Pt) : (numP k v).op = k := by cases v; rw [numP]; rfl
theorem numP_ctor (k : Int) (v : Pt) : (numP k v).ctor = k + 1 := by cases v; rw [numP]; rfl
theorem numP_n (k : Int) (v : Pt) : (numP k v).n = k + 2 := by cases v; rw [numP]; rfl
theorem numP_m (k : Int) (v : Pt) : (numP k v).m = k + 3 := by cases v; rw [numP]; rfl
theorem numP_var (k : Int) (v : Pt) : (numP k v).var = k + 4 := by cases v; rw [numP]; rfl
theorem numPs_len : ∀ (k : Int) (l : List Pt), (numPs k l).length = l.length
  | _, [] => by rw [numPs]
  | k, v :: vs => by rw [numPs, List.length_cons, numPs_len, List.length_cons]
theorem numPs_at : ∀ (k : Int) (l : List Pt) (j : Nat) (h : j < (numPs k l).length) (h' : j < l.length), (numPs k l)[j] = numP (k + 5 * ((j + ((l.take j).map wP).sum : Nat) : Int)) l[j]
  | _, [], j, _, h' => absurd h' (Nat.not_lt_zero _)
  | k, v :: vs, 0, h, h' => by
    simp only [numPs, List.getElem_cons_zero, List.take_zero, List.map_nil, List.sum_nil]
    congr 1
    omega
  | k, v :: vs, j + 1, h, h' => by
    have h2 : j < (numPs (k + 5 * ((1 + wP v : Nat) : Int)) vs).length := by rw [numPs_len]; simpa using h'
    simp only [numPs, List.getElem_cons_succ]
    rw [numPs_at _ vs j h2 (by simpa using h')]
    congr 1
    simp only [List.take_succ_cons, List.map_cons, List.sum_cons]
    omega

/-- Marked up to the element j. -/
def HalfP (d : Nat) (P : Nat → Prop) (A : Option Addr) (l : List Pt) (k : Int) (j : Nat) (w wr : World) : Prop := Fr P w wr ∧ ∃ m : List Pt, m.length = l.length ∧ (∀ i (h : i < m.length) (h' : i < (numPs k l).length), i < j → m[i] = (numPs k l)[i]) ∧ (∀ i (h : i < m.length) (h' : i < l.length), j ≤ i → m[i] = l[i]) ∧ OPs (d + 1) wr P A m
theorem HalfP.zero {d : Nat} {P : Nat → Prop} {A : Option Addr} {l : List Pt} {k : Int} {w : World} (h : OPs (d + 1) w P A l) : HalfP d P A l k 0 w w := ⟨Fr.refl _ _, l, rfl, fun _ _ _ h => absurd h (Nat.not_lt_zero _), fun _ _ _ _ => rfl, h⟩
theorem HalfP.all {d : Nat} {P : Nat → Prop} {A : Option Addr} {l : List Pt} {k : Int} {j : Nat} {w wr : World} (h : HalfP d P A l k j w wr) (hj : l.length ≤ j) : OPs (d + 1) wr P A (numPs k l) := by
  obtain ⟨_, m, hm, h1, _, h3⟩ := h
  have e : m = numPs k l := List.ext_getElem (by rw [hm, numPs_len]) (fun i a b => h1 i a b (by omega))
  rw [← e]; exact h3
theorem HalfP.at_ {d : Nat} {P : Nat → Prop} {A : Option Addr} {l : List Pt} {k S : Int} {j : Nat} {w wr : World} (h : HalfP d P A l k j w wr) (hj : j < l.length) (hS : S = 5 * ((j + ((l.take j).map wP).sum : Nat) : Int)) :
    ∃ (g : Nat) (cs : Array Value) (Q : Nat → Prop) (A' : Option Addr) (cap : Nat), A = some ⟨g, 0, none⟩ ∧ wr.heap[g]? = some (.cells cs 37 (0, 0)) ∧ cs[j * 6]? = some (.int .i64 l[j].op) ∧ cs[j * 6 + 1]? = some (.int .i64 l[j].ctor) ∧ cs[j * 6 + 2]? = some (.int .i64 l[j].n) ∧ cs[j * 6 + 3]? = some (.int .i64 l[j].m) ∧ cs[j * 6 + 4]? = some (.int .i64 l[j].var) ∧ cs[j * 6 + 5]? = some (.slice A' l[j].kids.length cap) ∧ OPs d wr Q A' l[j].kids ∧ ¬ Q g ∧
      ∀ (w3 : World) (cs3 : Array Value), w3.heap[g]? = some (.cells cs3 37 (0, 0)) → (∀ i c, i ≠ j → c < 6 → cs3[i * 6 + c]? = cs[i * 6 + c]?) → cs3[j * 6]? = some (.int .i64 (k + S)) → cs3[j * 6 + 1]? = some (.int .i64 (k + S + 1)) → cs3[j * 6 + 2]? = some (.int .i64 (k + S + 2)) → cs3[j * 6 + 3]? = some (.int .i64 (k + S + 3)) → cs3[j * 6 + 4]? = some (.int .i64 (k + S + 4)) → cs3[j * 6 + 5]? = some (.slice A' l[j].kids.length cap) → OPs d w3 Q A' (numPs (k + S + 5) l[j].kids) → Fr (fun b => Q b ∨ b = g) wr w3 → HalfP d P A l k (j + 1) w w3 := by
  obtain ⟨hf, m, hm, h1, h2, h3⟩ := h
  obtain ⟨hl, hp⟩ := h3
  obtain ⟨g, cs, Q, rfl, hg, hh, hq, hc⟩ := hp (by omega)
  have hc' := hc
  obtain ⟨A', cap, e0, e1, e2, e3, e4, e8, e9⟩ := hc j (by omega)
  have hmj : m[j]'(by omega) = l[j] := h2 j (by omega) hj (Nat.le_refl _)
  simp only [hmj] at e0 e1 e2 e3 e4 e8 e9
  refine ⟨g, cs, Q j, A', cap, rfl, hh, e0, e1, e2, e3, e4, e8, e9, fun hqg => (hq j g (by omega) hqg).2.1 rfl, ?_⟩
  intro w3 cs3 hg3 hsame f0 f1 f2 f3 f4 f8 ho3 hf3
  have hnj : (numPs k l)[j]'(by rw [numPs_len]; exact hj) = numP (k + S) l[j] := by rw [numPs_at _ _ _ _ hj, hS]
  refine ⟨hf.trans (hf3.wide (fun b hb => ?_)), m.set j (numP (k + S) l[j]), by simp [hm], fun i h h' hij => ?_, fun i h h' hij => ?_, by simpa using hl, fun _ => ⟨g, cs3, Q, rfl, hg, hg3, fun i b hi hb => ?_, fun i hi => ?_⟩⟩
  · rcases hb with hb | hb
    · exact (hq j b (by omega) hb).1
    · rw [hb]; exact hg
  · by_cases e : i = j
    · subst e
      simp only [List.getElem_set_self]
      exact hnj.symm
    · rw [List.getElem_set_ne (by omega)]
      exact h1 i (by simpa using h) h' (by omega)
  · rw [List.getElem_set_ne (by omega)]
    exact h2 i (by simpa using h) h' (by omega)
  · simp only [List.length_set] at hi
    obtain ⟨a1, a2, a3⟩ := hq i b hi hb
    exact ⟨a1, a2, fun i' hi' => a3 i' (by simpa using hi')⟩
  · simp only [List.length_set] at hi
    by_cases e : i = j
    · subst e
      simp only [List.getElem_set_self, numP_op, numP_ctor, numP_n, numP_m, numP_var, numP_kids, numPs_len]
      exact ⟨A', cap, f0, f1, f2, f3, f4, f8, ho3⟩
    · rw [List.getElem_set_ne (by omega)]
      obtain ⟨A2, c2, q0, q1, q2, q3, q4, q8, q9⟩ := hc' i hi
      refine ⟨A2, c2, (hsame i 0 e (by omega)).trans q0, (hsame i 1 e (by omega)).trans q1, (hsame i 2 e (by omega)).trans q2, (hsame i 3 e (by omega)).trans q3, (hsame i 4 e (by omega)).trans q4, (hsame i 5 e (by omega)).trans q8, q9.fr d hf3 (fun b hb => ?_)⟩
      rintro (hb' | hb')
      · exact (hq i b hi hb).2.2 j (by omega) (by omega) hb'
      · exact (hq i b hi hb).2.1 hb'

def MkP (d : Nat) : Prop := ∀ (P : Nat → Prop) (A : Option Addr) (l : List Pt) (cap : Nat) (k : Int) (w : World), OPs d w P A l → wPs l ≤ 1048576 → 0 ≤ k → k + 5 * (wPs l : Int) ≤ 16777216 →
  Calls Try.prog 53 #[.slice A l.length cap, .int .i64 k] w fun e w' => e = .returned (.int .i64 (k + 5 * (wPs l : Nat))) ∧ OPs d w' P A (numPs k l) ∧ Fr P w w'

set_option maxHeartbeats 1600000 in
theorem mkP_of (d : Nat) (ih : ∀ d', d = d' + 1 → MkP d') : MkP d := by
  intro P A l cap k w hr hn h0 h1
  obtain ⟨d', hd, _⟩ := hr.parts
  have IH := Lib.hid (ih d' hd)
  subst hd
  have HSum := Lib.hid (wPs_sum l)
  have hlb : l.length ≤ 1048576 := by have := wPs_sum l; omega
  have HZ := Lib.hid (HalfP.zero (k := k) hr)
  clear hr ih
  go_enter Try.func53, Try.ntmps53
  go_wp2_with fail
  go_loopw [1, 5] (fun q i wr => ∃ j : Nat, j ≤ l.length ∧ i = .int .i64 j ∧ ∃ S : Nat, q = .int .i64 (k + S) ∧ Hid ((S : Int) = 5 * ((j + ((l.take j).map wP).sum : Nat) : Int)) ∧ Hid (HalfP d' P A l k j w wr)) (fun _ i _ => l.length - (intOf i).toNat)
  case atStart => exact ⟨0, by omega, rfl, 0, by simp, by unfold Hid; simp, HZ⟩
  case round =>
    obtain ⟨j, hj, rfl, S, rfl, HS, HH⟩ := hrel
    clear HZ
    by_cases hlt : j < l.length
    · have HT := Lib.hid (sum_take_succ wP l j hlt)
      have HL := Lib.hid (sum_take_le wP l (j + 1))
      have hwk : wP l[j] = wPs l[j].kids := wP_kids l[j]
      have hSb : k + (S : Int) + 5 * (1 + (wPs l[j].kids : Int)) ≤ 16777216 ∧ wPs l[j].kids ≤ 1048576 := by
        have a1 := HT.out; have a2 := HL.out; have a3 := HSum.out; have a4 := HS.out; omega
      have HWK := Lib.hid hwk
      obtain ⟨hSb, hwb⟩ := hSb
      clear hwk
      obtain ⟨g, cs, Q, A', cp, rfl, hg, e0, e1, e2, e3, e4, e8, ho, hQg, hnext⟩ := HH.out.at_ hlt HS.out
      have c0 := (cell_of_blk hg (j * 6)).trans e0
      have c1 := (cell_of_blk hg (j * 6 + 1)).trans e1
      have c2 := (cell_of_blk hg (j * 6 + 2)).trans e2
      have c3 := (cell_of_blk hg (j * 6 + 3)).trans e3
      have c4 := (cell_of_blk hg (j * 6 + 4)).trans e4
      have c8 := (cell_of_blk hg (j * 6 + 5)).trans e8
      have z0 := frozen_of_row wr g (j * 6) cs 37 hg
      have z1 := frozen_of_row wr g (j * 6 + 1) cs 37 hg
      have z2 := frozen_of_row wr g (j * 6 + 2) cs 37 hg
      have z3 := frozen_of_row wr g (j * 6 + 3) cs 37 hg
      have z4 := frozen_of_row wr g (j * 6 + 4) cs 37 hg
      obtain ⟨w2, hw2⟩ : ∃ w2, w2 = (((((wr.setCell ⟨g, j * 6, none⟩ (.int .i64 (k + S))).setCell ⟨g, j * 6 + 1, none⟩ (.int .i64 (k + S + 1))).setCell ⟨g, j * 6 + 2, none⟩ (.int .i64 (k + S + 1 + 1))).setCell ⟨g, j * 6 + 3, none⟩ (.int .i64 (k + S + 1 + 1 + 1))).setCell ⟨g, j * 6 + 4, none⟩ (.int .i64 (k + S + 1 + 1 + 1 + 1))) := ⟨_, rfl⟩
      have F2 : Fr (fun b => b = g) wr w2 := by rw [hw2]; exact (((((Fr.set (P := fun b => b = g) _ _ _ _ rfl).trans (Fr.set _ _ _ _ rfl)).trans (Fr.set _ _ _ _ rfl)).trans (Fr.set _ _ _ _ rfl)).trans (Fr.set _ _ _ _ rfl))
      have G2 : Hid (w2.heap[g]? = some (.cells (((((cs.setIfInBounds (j * 6) (.int .i64 (k + S))).setIfInBounds (j * 6 + 1) (.int .i64 (k + S + 1))).setIfInBounds (j * 6 + 2) (.int .i64 (k + S + 1 + 1))).setIfInBounds (j * 6 + 3) (.int .i64 (k + S + 1 + 1 + 1))).setIfInBounds (j * 6 + 4) (.int .i64 (k + S + 1 + 1 + 1 + 1))) 37 (0, 0))) := by
        rw [hw2]
        unfold Hid
        refine heap_setCell_same _ g _ _ _ _ ?_
        refine heap_setCell_same _ g _ _ _ _ ?_
        refine heap_setCell_same _ g _ _ _ _ ?_
        refine heap_setCell_same _ g _ _ _ _ ?_
        refine heap_setCell_same _ g _ _ _ _ ?_
        exact hg
      have O2 := Lib.hid (ho.fr _ F2 (fun b hb e => hQg (e ▸ hb)))
      have HF2 := Lib.hid F2
      have HQg := Lib.hid hQg
      have HN := Lib.hid hnext
      have HW2 := Lib.hid hw2
      clear hw2 F2 hQg hnext ho
      go_wp2_with fail
      rw [← HW2.out]
      refine (IH.out Q A' l[j].kids cp _ w2 O2.out hwb (by omega) (by omega)).mono ?_
      rintro e w3 ⟨rfl, ho3, hf3⟩
      have hk2 : k + S + 1 + 1 + 1 + 1 + 1 = k + S + 5 := by omega
      have ho3' : OPs d' w3 Q A' (numPs (k + S + 5) l[j].kids) := by rw [← hk2]; exact ho3
      have HH3 : Hid (HalfP d' P (some ⟨g, 0, none⟩) l k (j + 1) w w3) := by
        refine HN.out w3 _ (hf3.block G2.out HQg.out) (fun i c hi hc => ?_) ?_ ?_ ?_ ?_ ?_ ?_ ho3' ((HF2.out.wide (fun b hb => .inr hb)).trans (hf3.wide (fun b hb => .inl hb)))
        · have h1 : i * 6 + c ≠ j * 6 ∧ i * 6 + c ≠ j * 6 + 1 ∧ i * 6 + c ≠ j * 6 + 2 ∧ i * 6 + c ≠ j * 6 + 3 ∧ i * 6 + c ≠ j * 6 + 4 := by omega
          simp only [Array.getElem?_setIfInBounds_ne (Ne.symm h1.1), Array.getElem?_setIfInBounds_ne (Ne.symm h1.2.1), Array.getElem?_setIfInBounds_ne (Ne.symm h1.2.2.1), Array.getElem?_setIfInBounds_ne (Ne.symm h1.2.2.2.1), Array.getElem?_setIfInBounds_ne (Ne.symm h1.2.2.2.2)]
        · have hz : j * 6 + 5 < cs.size := (Array.getElem?_eq_some_iff.1 e8).1
          simp [show j * 6 < cs.size by omega]
        · have hz : j * 6 + 5 < cs.size := (Array.getElem?_eq_some_iff.1 e8).1
          simp [show j * 6 + 1 < cs.size by omega]
        · have hz : j * 6 + 5 < cs.size := (Array.getElem?_eq_some_iff.1 e8).1
          simp [show j * 6 + 2 < cs.size by omega] <;> omega
        · have hz : j * 6 + 5 < cs.size := (Array.getElem?_eq_some_iff.1 e8).1
          simp [show j * 6 + 3 < cs.size by omega] <;> omega
        · have hz : j * 6 + 5 < cs.size := (Array.getElem?_eq_some_iff.1 e8).1
          simp [show j * 6 + 4 < cs.size by omega] <;> omega
        · simpa using e8
      clear c0 c1 c2 c3 c4 c8 z0 z1 z2 z3 z4
      go_wp2_with fail
      go_roundw
      case rel => exact ⟨j + 1, by omega, by go_num, S + 5 * (1 + wPs l[j].kids), by congr 1; push_cast; omega, by unfold Hid; have a1 := HT.out; have a2 := HS.out; have a3 := HWK.out; omega, HH3⟩
      case measure => simp [intOf]; omega
    · have HE : Hid ((S : Int) = 5 * (wPs l : Int)) := by unfold Hid; rw [HS.out, HSum.out, List.take_of_length_le (by omega), show j = l.length by omega]
      have HA := Lib.hid (HH.out.all (by omega))
      go_wp2_with fail
      go_ret
      exact ⟨ret_i64 (by rw [HE.out]), HA.out, HH.out.1⟩
theorem mkP_any : ∀ d, MkP d
  | 0 => mkP_of 0 (fun _ h => by omega)
  | d + 1 => mkP_of (d + 1) (fun d' h => (Nat.succ.inj h) ▸ mkP_any d)
theorem markP_any (d : Nat) (P : Nat → Prop) (A : Option Addr) (l : List Pt) (cap : Nat) (x0 x1 x2 x3 x4 k : Int) (w : World) (hr : OPs d w P A l) (hP : ∀ b, P b → b < w.heap.size) (hn : wPs l ≤ 1048576) (h0 : 0 ≤ k) (h1 : k + 5 * (wPs l : Int) ≤ 16777216) :
    Calls Try.prog 21 #[.agg #[.int .i64 x0, .int .i64 x1, .int .i64 x2, .int .i64 x3, .int .i64 x4, .slice A l.length cap], .int .i64 k] w fun e w' => e = .returned (.int .i64 (k + 5 * (wPs l : Nat))) ∧ OPs d w' P A (numPs k l) ∧ Fr P w w' := by
  have Hr := Lib.hid (hr.fr _ (Fr.below (P := fun _ => False) ((Below.refl _ w).alloc (Nat.le_refl _) (.cells #[.int .i64 x0, .int .i64 x1, .int .i64 x2, .int .i64 x3, .int .i64 x4, .slice A l.length cap] 37))) (fun _ _ h => h))
  clear hr
  go_enter Try.func21, Try.ntmps21
  go_wp2_with (go_at_call 53; refine (mkP_any _ P _ _ _ _ _ Hr.out hn h0 h1).mono ?_; rintro e w1 ⟨rfl, ho, hf⟩)
  go_ret
  exact ⟨rfl, ho, (Fr.below ((Below.refl _ _).alloc (Nat.le_refl _) _)).trans hf⟩
end Go.Proofs.Ytphmhlekfmkdkaa
/-
  The function FnExactCtorsOf returns true for every list of data types and every type, and both read behind the call as they read before. No condition.
-/
namespace Go.Proofs.Ytphmhlekfmkdkaa
open Go.RowKit Go.Deep
open Go.ChangeShapes Go.WideShapes Go.ChangeAt
set_option maxRecDepth 100000
set_option linter.unusedVariables false

theorem sum_ge {α : Type} (f : α → Nat) (l : List α) (i : Nat) (h : i < l.length) : f l[i] ≤ (l.map f).sum := by
  have h1 := sum_take_succ f l i h
  have h2 := sum_take_le f l (i + 1)
  omega
theorem mC_le (cs : List Ct) : (cs.map mC).sum ≤ 2 * wCts cs := by
  unfold wCts
  induction cs with
  | nil => simp
  | cons c cs ih =>
    simp only [List.map_cons, List.sum_cons, List.length_cons]
    have : mC c ≤ 2 + 2 * wCt c := by unfold mC wCt; omega
    omega
theorem mD_le (l : List Da) : (l.map mD).sum ≤ 2 * wDas l := by
  unfold wDas
  induction l with
  | nil => simp
  | cons d l ih =>
    simp only [List.map_cons, List.sum_cons, List.length_cons]
    have h1 := mC_le d.ctors
    have : mD d ≤ 1 + 2 * wDa d := by unfold mD wDa; omega
    omega
theorem lens_le {l : List Da} {N : Nat} (h : wDas l ≤ N) : l.length ≤ N ∧ ∀ i (h : i < l.length), l[i].ctors.length ≤ N ∧ ∀ m (h' : m < l[i].ctors.length), l[i].ctors[m].args.length ≤ N := by
  unfold wDas at h
  refine ⟨by omega, fun i hi => ?_⟩
  have h1 := sum_ge wDa l i hi
  have h2 : wDa l[i] = l[i].name.size + wCts l[i].ctors := rfl
  have h3 : wCts l[i].ctors = l[i].ctors.length + (l[i].ctors.map wCt).sum := rfl
  refine ⟨by omega, fun m hm => ?_⟩
  have h4 := sum_ge wCt l[i].ctors m hm
  have h5 : wCt l[i].ctors[m] = l[i].ctors[m].name.size + l[i].ctors[m].args.length := rfl
  omega
/-- Integers stay where nothing of theirs is written. -/
theorem RInts.kept {w w' : World} {A : Option Addr} {l : List Int} (h : RInts w A l) (hk : ∀ g o, A = some ⟨g, o, none⟩ → w'.heap[g]? = w.heap[g]?) : RInts w' A l :=
  ⟨h.1, fun k hkl => by
    obtain ⟨b, off, e, hbl, h1⟩ := h.2 k hkl
    have h2 := (World.cell?_of_block (w := w) (w' := w') (a := ⟨b, off + k, none⟩) (hk b off e)).trans h1
    exact ⟨b, off, e, Go.block_lt_of_cell h2, h2⟩⟩

/-- A row of integers of the call's own: as a slice it is nothing at all, or it lies in a block from lo on. -/
theorem OInts.where_ {w : World} {lo : Nat} {v : Value} {xs : List Int} (h : OInts w lo v xs) (hx : xs.length ≤ 4) :
    (v = .slice none 0 0 ∧ xs = []) ∨ ∃ g cap, v = .slice (some ⟨g, 0, none⟩) xs.length cap ∧ lo ≤ g ∧ g < w.heap.size ∧ RInts w (some ⟨g, 0, none⟩) xs ∧ w.ownsRow lo 3 1 (.slice (some ⟨g, 0, none⟩) xs.length cap) xs.length (xs.map (Value.int .i64)) := by
  have h' : w.ownsRow lo 3 1 v xs.length (xs.map (Value.int .i64)) := h
  have hm : xs.length ≤ maxLen := by unfold maxLen; omega
  obtain ⟨A, cap, rfl, hr⟩ := h.form hm
  rcases h'.2 with ⟨e, h0⟩ | ⟨g, cap', cur, e, hb, hg, _⟩
  · exact .inl ⟨e, List.eq_nil_of_length_eq_zero h0⟩
  · cases e
    exact .inr ⟨g, cap, rfl, hb, (h'.lt g rfl).2, hr, h'⟩

theorem own_heapeq {w w' : World} {lo : Nat} {e : TypeId} {size g n cap : Nat} {xs : List Value} (h : w.ownsRow lo e size (.slice (some ⟨g, 0, none⟩) n cap) n xs) (he : w'.heap[g]? = w.heap[g]?) : w'.ownsRow lo e size (.slice (some ⟨g, 0, none⟩) n cap) n xs := by
  refine ⟨h.1, ?_⟩
  rcases h.2 with h0 | ⟨g', cap', cur, a1, a2, a3, a4⟩
  · exact .inl h0
  · cases a1
    exact .inr ⟨g, cap, cur, rfl, a2, he.trans a3, a4⟩

theorem OInts.form0 {w : World} {lo : Nat} {v : Value} (h : OInts w lo v []) : ∃ A cap, v = .slice A 0 cap := by
  obtain ⟨A, cap, e, _⟩ := h.form (by simp)
  exact ⟨A, cap, e⟩
theorem RInts.nil (w : World) (A : Option Addr) : RInts w A [] := ⟨by simp, fun k hk => absurd hk (by simp)⟩
end Go.Proofs.Ytphmhlekfmkdkaa
/-
  The law FnExactPatternVars walked. No statement is proved here.
-/
namespace Go.Proofs.Ytphmhlekfmkdkaa
open Go.RowKit Go.Sort Go.Deep
set_option maxRecDepth 100000
set_option linter.unusedVariables false

theorem PBx.fr2 {w w' : World} {b : Nat} {p : Pt} {s : Value} {P : Nat → Prop} (h : PBx w b p s) (hf : Fr P w w') (hp : ¬ P b) : PBx w' b p s := h.keep (hf.2.2.2.2 b (Go.block_lt_of_cell h.1) hp)
theorem OPs.later2 {d : Nat} {w w' : World} {P : Nat → Prop} {A : Option Addr} {l : List Pt} (h : OPs d w P A l) (hb : Below w.heap.size w w') : OPs d w' P A l := h.fr _ (Fr.below (P := fun _ => False) hb) (fun _ _ h => h)
theorem ret_true {a : Bool} (h : a = true) : Ending.returned (.bool a) = .returned (.bool true) := by rw [h]
set_option maxHeartbeats 16000000 in
theorem pvars_law (A D : Option Addr) (l : List Da) (cap ep e : Nat) (t : Ty) (p : Pt) (w : World) (hr : RDas w w.heap.size A l) (hv : RPs e w w.heap.size D p.kids) :
    Calls Try.prog 4 #[.slice A l.length cap, .agg #[.int .i64 t.data, .int .i64 t.index], .agg #[.int .i64 p.op, .int .i64 p.ctor, .int .i64 p.n, .int .i64 p.m, .int .i64 p.var, .slice D p.kids.length ep]] w fun e w' => e = .returned (.bool true) ∧ Below w.heap.size w w' := by
  have Hr := Lib.hid hr
  have HV := Lib.hid hv
  clear hr hv
  generalize hw0 : (w.alloc (.cells #[.int .i64 t.data, .int .i64 t.index] 24)).alloc (.cells #[.int .i64 p.op, .int .i64 p.ctor, .int .i64 p.n, .int .i64 p.m, .int .i64 p.var, .slice D p.kids.length ep] 27) = w0
  have hb0 := below_box2 hw0
  have HXT : Hid (Bx w0 w.heap.size t) := by rw [← hw0]; exact ⟨by simp [go_sem], by simp [go_sem]⟩
  have HXV : Hid (PBx w0 (w.heap.size + 1) p (.slice D p.kids.length ep)) := by rw [← hw0]; exact ⟨by simp [go_sem], by simp [go_sem], by simp [go_sem], by simp [go_sem], by simp [go_sem], by simp [go_sem]⟩
  have HW := Lib.hid hw0
  clear hw0
  by_cases h1 : (wDas l : Int) ≤ 1048576
  · have H1 := Lib.hid (left_ok h1)
    by_cases h2 : (wPs p.kids : Int) ≤ 1048576 - (wDas l : Int)
    · have H2 := Lib.hid (left_ok h2)
      have hnv : wPs p.kids ≤ 1048576 := by omega
      have hnw : wP p ≤ 1048576 := by rw [wP_kids]; exact hnv
      have hnd : wDas l ≤ 1048576 := by omega
      have hlens := lens_le (l := l) (N := 1048576) (by omega)
      have hmd := mD_le l
      have HLN := Lib.hid hlens
      have hmm : ∀ x : Int, (x != x) = false := fun x => by simp
      have HSP : Hid (∀ (B E : Option Addr) (c c' : Nat) (W : World), RDas W W.heap.size B l → RPs e W W.heap.size E p.kids → Calls Try.prog 17 #[.slice B l.length c, .agg #[.int .i64 t.data, .int .i64 t.index], .agg #[.int .i64 p.op, .int .i64 p.ctor, .int .i64 p.n, .int .i64 p.m, .int .i64 p.var, .slice E p.kids.length c']] W fun e' w' => ∃ v, e' = .returned v ∧ OVt w' W.heap.size v (pvL l t p) ∧ Below W.heap.size W w') := fun B E c c' W h h' => pvars_spec B E l c c' e t p W h h' hnw
      have HIM : Hid (∀ (B E : Option Addr) (c c' : Nat) (W : World), RDas W W.heap.size B l → RPs e W W.heap.size E p.kids → Calls Try.prog 18 #[.slice B l.length c, .agg #[.int .i64 t.data, .int .i64 t.index], .agg #[.int .i64 p.op, .int .i64 p.ctor, .int .i64 p.n, .int .i64 p.m, .int .i64 p.var, .slice E p.kids.length c']] W fun e' w' => ∃ v, e' = .returned v ∧ OVt w' W.heap.size v (pvL l t p) ∧ Below W.heap.size W w') := fun B E c c' W h h' => pvars_impl B E l c c' e t p W h h'
      have hL60 := pvL_len l t p
      generalize pvL l t p = L at HSP HIM hL60
      have hLm : L.length ≤ maxLen := by unfold maxLen; omega
      clear hlens
      go_enter Try.func4, Try.ntmps4
      go_wp2_with (first | (go_at_call 8; rw [HW.out]; refine (szDataS_any _ _ _ _ _ (Hr.out.at_ hb0) (by omega) (by omega)).mono ?_; rw [H1.out]; rintro e1 w1 ⟨rfl, hb1⟩; obtain ⟨y0, y1, y2, y3, y4, y5⟩ := HXV.out.at_ hb1; have hb1w := below_aft hb0 hb1 hb0.size) | (go_at_call 9; refine (szP_any e D p.kids ep p.op p.ctor p.n p.m p.var _ _ (HV.out.at_ hb1w) (by omega) (by omega)).mono ?_; rw [H2.out]; rintro e2 w2 ⟨rfl, hb2⟩; have hb2w := below_aft hb1w hb2 hb1w.size; have hb20 := below_aft hb1 hb2 hb1.size))
      have HKS : Hid (∀ W, Below w2.heap.size w2 W → W.cell? ⟨w.heap.size, 0, none⟩ = some (.int .i64 t.data) ∧ W.cell? ⟨w.heap.size, 1, none⟩ = some (.int .i64 t.index) ∧ W.cell? ⟨w.heap.size + 1, 0, none⟩ = some (.int .i64 p.op) ∧ W.cell? ⟨w.heap.size + 1, 1, none⟩ = some (.int .i64 p.ctor) ∧ W.cell? ⟨w.heap.size + 1, 2, none⟩ = some (.int .i64 p.n) ∧ W.cell? ⟨w.heap.size + 1, 3, none⟩ = some (.int .i64 p.m) ∧ W.cell? ⟨w.heap.size + 1, 4, none⟩ = some (.int .i64 p.var) ∧ W.cell? ⟨w.heap.size + 1, 5, none⟩ = some (.slice D p.kids.length ep)) := fun W h => ⟨(HXT.out.at_ (below_aft hb20 h hb20.size)).1, (HXT.out.at_ (below_aft hb20 h hb20.size)).2, HXV.out.at_ (below_aft hb20 h hb20.size)⟩
      have SQ := HKS.out w2.drew (Below.refl _ w2).drew
      clear y0 y1 y2 y3 y4 y5 hb1 hb2
      go_region_held3 (fun w' => w'.cell? ⟨w.heap.size, 0, none⟩ = some (.int .i64 t.data) ∧ w'.cell? ⟨w.heap.size, 1, none⟩ = some (.int .i64 t.index) ∧ w'.cell? ⟨w.heap.size + 1, 0, none⟩ = some (.int .i64 p.op) ∧ w'.cell? ⟨w.heap.size + 1, 1, none⟩ = some (.int .i64 p.ctor) ∧ w'.cell? ⟨w.heap.size + 1, 2, none⟩ = some (.int .i64 p.n) ∧ w'.cell? ⟨w.heap.size + 1, 3, none⟩ = some (.int .i64 p.m) ∧ w'.cell? ⟨w.heap.size + 1, 4, none⟩ = some (.int .i64 p.var) ∧ w'.cell? ⟨w.heap.size + 1, 5, none⟩ = some (.slice D p.kids.length ep)) (with_reducible exact SQ) (first | (go_at_call 11; (with_reducible refine (toDataS_any _ _ _ w2.drew (Hr.out.at_ hb2w.drew) (by omega)).mono ?_); rintro e3 w3 ⟨g3, rfl, hf3, hb'⟩; have hbq : Below w2.heap.size w2 w3 := ⟨hb'.os, hb'.tape, hb'.output, hb'.size, hb'.block⟩; have SQ := HKS.out _ hbq; have R3 := Lib.hid hf3.reads; clear hf3 hb') | (go_at_call 12; (with_reducible refine (toType_any _ _ w3).mono ?_); rintro e4 w4 ⟨rfl, hb'⟩; have hbq := below_aft hbq hb' hbq.size; have SQ := HKS.out _ hbq; have R4 := Lib.hid (R3.out.at_ hb'); clear hb') | (go_at_call 13; (with_reducible refine (toPO_any e D p.kids ep p.op p.ctor p.n p.m p.var w4 (HV.out.at_ (below_aft hb2w hbq hb2w.size)) hnv).mono ?_); rintro e5 w5 ⟨A5, rfl, ho5, hb'⟩; have hbq := below_aft hbq hb' hbq.size; have SQ := HKS.out _ hbq; have R5 := Lib.hid (R4.out.at_ hb'); have V5 := Lib.hid (OPs.reads _ ho5); clear hb' ho5) | (go_at_call 17; (with_reducible refine (HSP.out _ _ _ _ w5 R5.out V5.out).mono ?_); rintro e6 w6 ⟨v6, rfl, ho6, hb'⟩; obtain ⟨A6, c6, rfl, hr6⟩ := ho6.form hLm; have hbq := below_aft hbq hb' hbq.size; have SQ := HKS.out _ hbq; have Q6 := Lib.hid hr6; clear ho6 hr6 hb'))
      have hb6w := below_aft hb2w hbq hb2w.size
      have B26 := Lib.hid hbq
      have hs26 := hbq.size
      clear SQ hbq R3 R4 R5 V5
      go_wp2_with fail
      refine (toDataS_any _ _ _ _ (Hr.out.at_ hb6w) (by omega)).mono ?_; rintro e7 w7 ⟨g7, rfl, hf7, hb7'⟩
      have B67 := Lib.hid hb7'
      have R7 := Lib.hid hf7.reads
      have SH7 := Lib.hid hf7.shape
      have hb7w := below_aft hb6w hb7' hb6w.size
      have hs67 := hb7'.size
      have B27 := Lib.hid (below_aft B26.out hb7' hs26)
      clear hb7' hf7
      obtain ⟨_, _, y0, y1, y2, y3, y4, y5⟩ := HKS.out w7 B27.out
      go_wp2_with fail
      refine (toPO_any e D p.kids ep p.op p.ctor p.n p.m p.var w7 (HV.out.at_ hb7w) hnv).mono ?_; rintro e8 w8 ⟨A8, rfl, ho8, hb8'⟩
      have B78 := Lib.hid hb8'
      have hs78 := hb8'.size
      obtain ⟨wb, hwb⟩ : ∃ wb, wb = w8.alloc (.cells #[.int .i64 p.op, .int .i64 p.ctor, .int .i64 p.n, .int .i64 p.m, .int .i64 p.var, .slice A8 p.kids.length p.kids.length] 37) := ⟨_, rfl⟩
      have hb8b : Below w8.heap.size w8 wb := by rw [hwb]; exact (Below.refl _ _).alloc (Nat.le_refl _) _
      have X10 : Hid (PBx wb w8.heap.size p (.slice A8 p.kids.length p.kids.length)) := by rw [hwb]; exact ⟨by simp [go_sem], by simp [go_sem], by simp [go_sem], by simp [go_sem], by simp [go_sem], by simp [go_sem]⟩
      have O8 : Hid (OPs (e + 1) wb (Nw w7 w8) A8 p.kids) := ho8.later2 hb8b
      have hs8b : w8.heap.size < wb.heap.size := by rw [hwb]; simp
      have HWB := Lib.hid hwb
      have B7b := Lib.hid (below_aft B78.out hb8b hs78)
      have B6b := Lib.hid (below_aft B67.out B7b.out hs67)
      have B2b := Lib.hid (below_aft B27.out B7b.out B27.out.size)
      have hbbw := below_aft hb7w B7b.out hb7w.size
      have RD : Hid (RDas wb wb.heap.size (some ⟨g7, 0, none⟩) l) := R7.out.at_ B7b.out
      have RV : Hid (RPs e wb wb.heap.size A8 p.kids) := OPs.reads e O8.out
      clear hwb ho8 hb8' hb8b y0 y1 y2 y3 y4 y5
      have HKB : Hid (∀ W, Below wb.heap.size wb W → W.cell? ⟨w.heap.size, 0, none⟩ = some (.int .i64 t.data) ∧ W.cell? ⟨w.heap.size, 1, none⟩ = some (.int .i64 t.index) ∧ W.cell? ⟨w8.heap.size, 0, none⟩ = some (.int .i64 p.op) ∧ W.cell? ⟨w8.heap.size, 1, none⟩ = some (.int .i64 p.ctor) ∧ W.cell? ⟨w8.heap.size, 2, none⟩ = some (.int .i64 p.n) ∧ W.cell? ⟨w8.heap.size, 3, none⟩ = some (.int .i64 p.m) ∧ W.cell? ⟨w8.heap.size, 4, none⟩ = some (.int .i64 p.var) ∧ W.cell? ⟨w8.heap.size, 5, none⟩ = some (.slice A8 p.kids.length p.kids.length)) := fun W h => ⟨(HKS.out W (below_aft B2b.out h B2b.out.size)).1, (HKS.out W (below_aft B2b.out h B2b.out.size)).2.1, X10.out.at_ h⟩
      have SQ := HKB.out wb.drew (Below.refl _ wb).drew
      go_wp2_with fail
      rw [← HWB.out]
      go_region_held3 (fun w' => w'.cell? ⟨w.heap.size, 0, none⟩ = some (.int .i64 t.data) ∧ w'.cell? ⟨w.heap.size, 1, none⟩ = some (.int .i64 t.index) ∧ w'.cell? ⟨w8.heap.size, 0, none⟩ = some (.int .i64 p.op) ∧ w'.cell? ⟨w8.heap.size, 1, none⟩ = some (.int .i64 p.ctor) ∧ w'.cell? ⟨w8.heap.size, 2, none⟩ = some (.int .i64 p.n) ∧ w'.cell? ⟨w8.heap.size, 3, none⟩ = some (.int .i64 p.m) ∧ w'.cell? ⟨w8.heap.size, 4, none⟩ = some (.int .i64 p.var) ∧ w'.cell? ⟨w8.heap.size, 5, none⟩ = some (.slice A8 p.kids.length p.kids.length)) (with_reducible exact SQ) (first | (go_at_call 12; (with_reducible refine (toType_any _ _ wb.drew).mono ?_); rintro e9 w9 ⟨rfl, hb'⟩; have hbq : Below wb.heap.size wb w9 := ⟨hb'.os, hb'.tape, hb'.output, hb'.size, hb'.block⟩; have SQ := HKB.out _ hbq; have hsb9 := hbq.size; clear hb') | (go_at_call 18; (with_reducible refine (HIM.out _ _ _ _ w9 (RD.out.at_ hbq) (RV.out.at_ hbq)).mono ?_); rintro e10 w10 ⟨v10, rfl, ho10, hb'⟩; obtain ⟨A10, c10, rfl, hr10⟩ := ho10.form hLm; have hbq := below_aft hbq hb' hbq.size; have SQ := HKB.out _ hbq; have Q10 := Lib.hid hr10; have O10 := Lib.hid ho10; clear ho10 hr10 hb'))
      have hb10w := below_aft hbbw hbq hbbw.size
      have BB10 := Lib.hid hbq
      have B610 := Lib.hid (below_aft B6b.out hbq B6b.out.size)
      have hsb10 := hbq.size
      clear SQ hbq
      go_wp2_with fail
      refine (eqVts_same _ _ L _ _ w10 Q10.out (Q6.out.at_ B610.out)).mono ?_; rintro e11 w11 ⟨rfl, hb11'⟩
      have hb11w := below_aft hb10w hb11' hb10w.size
      have BB11 := Lib.hid (below_aft BB10.out hb11' hsb10)
      have B611 := Lib.hid (below_aft B610.out hb11' B610.out.size)
      have O11 := Lib.hid (O10.out.at_ hb11')
      clear hb11'
      go_wp2_with fail
      refine (toDataS_any _ _ _ _ (Hr.out.at_ hb11w) (by omega)).mono ?_; rintro e12 w12 ⟨g12, rfl, hf12, hb12'⟩
      have hb12w := below_aft hb11w hb12' hb11w.size
      have R12 := Lib.hid hf12.reads
      have BB12 := Lib.hid (below_aft BB11.out hb12' BB11.out.size)
      have B612 := Lib.hid (below_aft B611.out hb12' B611.out.size)
      have O12 := Lib.hid (O11.out.at_ hb12')
      clear hb12' hf12
      go_wp2_with fail
      refine (eqDataS_same _ _ _ _ _ _ (RD.out.at_ BB12.out) R12.out).mono ?_; rintro e13 w13 ⟨rfl, hb13'⟩
      have hb13w := below_aft hb12w hb13' hb12w.size
      have BB13 := Lib.hid (below_aft BB12.out hb13' BB12.out.size)
      have B613 := Lib.hid (below_aft B612.out hb13' B612.out.size)
      have O13 := Lib.hid (O12.out.at_ hb13')
      clear hb13' R12
      have HKC : Hid (∀ W, Below wb.heap.size wb W → W.cell? ⟨w8.heap.size, 0, none⟩ = some (.int .i64 p.op) ∧ W.cell? ⟨w8.heap.size, 1, none⟩ = some (.int .i64 p.ctor) ∧ W.cell? ⟨w8.heap.size, 2, none⟩ = some (.int .i64 p.n) ∧ W.cell? ⟨w8.heap.size, 3, none⟩ = some (.int .i64 p.m) ∧ W.cell? ⟨w8.heap.size, 4, none⟩ = some (.int .i64 p.var) ∧ W.cell? ⟨w8.heap.size, 5, none⟩ = some (.slice A8 p.kids.length p.kids.length) ∧ W.cell? ⟨w.heap.size + 1, 0, none⟩ = some (.int .i64 p.op) ∧ W.cell? ⟨w.heap.size + 1, 1, none⟩ = some (.int .i64 p.ctor) ∧ W.cell? ⟨w.heap.size + 1, 2, none⟩ = some (.int .i64 p.n) ∧ W.cell? ⟨w.heap.size + 1, 3, none⟩ = some (.int .i64 p.m) ∧ W.cell? ⟨w.heap.size + 1, 4, none⟩ = some (.int .i64 p.var) ∧ W.cell? ⟨w.heap.size + 1, 5, none⟩ = some (.slice D p.kids.length ep)) := fun W h => by
        have h1 := (HKS.out W (below_aft B2b.out h B2b.out.size)).2.2
        obtain ⟨a, b, c, d, f, g⟩ := X10.out.at_ h
        exact ⟨a, b, c, d, f, g, h1⟩
      have SQ := HKC.out w13.drew BB13.out.drew
      go_wp2_with fail
      go_region_held3 (fun w' => w'.cell? ⟨w8.heap.size, 0, none⟩ = some (.int .i64 p.op) ∧ w'.cell? ⟨w8.heap.size, 1, none⟩ = some (.int .i64 p.ctor) ∧ w'.cell? ⟨w8.heap.size, 2, none⟩ = some (.int .i64 p.n) ∧ w'.cell? ⟨w8.heap.size, 3, none⟩ = some (.int .i64 p.m) ∧ w'.cell? ⟨w8.heap.size, 4, none⟩ = some (.int .i64 p.var) ∧ w'.cell? ⟨w8.heap.size, 5, none⟩ = some (.slice A8 p.kids.length p.kids.length) ∧ w'.cell? ⟨w.heap.size + 1, 0, none⟩ = some (.int .i64 p.op) ∧ w'.cell? ⟨w.heap.size + 1, 1, none⟩ = some (.int .i64 p.ctor) ∧ w'.cell? ⟨w.heap.size + 1, 2, none⟩ = some (.int .i64 p.n) ∧ w'.cell? ⟨w.heap.size + 1, 3, none⟩ = some (.int .i64 p.m) ∧ w'.cell? ⟨w.heap.size + 1, 4, none⟩ = some (.int .i64 p.var) ∧ w'.cell? ⟨w.heap.size + 1, 5, none⟩ = some (.slice D p.kids.length ep)) (with_reducible exact SQ) (first | (go_at_call 13; (with_reducible refine (toPO_any e D p.kids ep p.op p.ctor p.n p.m p.var w13.drew (HV.out.at_ hb13w.drew) hnv).mono ?_); rintro e14 w14 ⟨A14, rfl, ho14, hb'⟩; have hb14' : Below w13.heap.size w13 w14 := ⟨hb'.os, hb'.tape, hb'.output, hb'.size, hb'.block⟩; have hbq := below_aft BB13.out hb14' BB13.out.size; have SQ := HKC.out _ hbq; have V14 := Lib.hid (OPs.reads _ ho14); clear ho14 hb') | (go_at_call 16; (with_reducible refine (eqP_same e _ _ p.kids _ _ p.op p.ctor p.n p.m p.var w14 (OPs.reads e (O8.out.later2 hbq)) V14.out).mono ?_); rintro e15 w15 ⟨rfl, hb'⟩; have hb15' := below_aft hb14' hb' hb14'.size; have hbq := below_aft hbq hb' hbq.size; have SQ := HKC.out _ hbq; clear hb'))
      have hb15w := below_aft hb13w hb15' hb13w.size
      have BB15 := Lib.hid hbq
      have B615 := Lib.hid (below_aft B613.out hb15' B613.out.size)
      have O15 := Lib.hid (O13.out.at_ hb15')
      have P15 : Hid (OPs (e + 1) w15 (Nw w7 w8) A8 p.kids) := O8.out.later2 hbq
      have X15 := Lib.hid (X10.out.at_ hbq)
      have hsb15 := hbq.size
      have hs15 := hb15'.size
      clear SQ hbq hb15' V14 hb14'
      have hlens := HLN.out
      go_wp2_with fail
      refine (markDataS_any _ l _ w6.heap.size w7.heap.size 1 _ B615.out.size hlens.1 hlens.2 (by omega) (by omega) (SH7.out.kept (Kept.below (below_aft B7b.out BB15.out B7b.out.size) hs67))).mono ?_; rintro e16 w16 ⟨rfl, hk16⟩
      have hb16w : Below w.heap.size w w16 := hb15w.trans (hk16.1.mono hb6w.size)
      have B616 : Hid (Below w6.heap.size w6 w16) := B615.out.trans hk16.1
      have F16 := Fr.kept hk16
      have hs1516 := hk16.1.size
      have P16 : Hid (OPs (e + 1) w16 (Nw w7 w8) A8 p.kids) := P15.out.fr _ F16 (fun b h1 h2 => by have := h1.1; have := h2.2; omega)
      have X16 := Lib.hid (X15.out.fr2 F16 (fun h2 => by have := h2.2; omega))
      have O16 : Hid (OVt w16 w9.heap.size (.slice A10 L.length c10) L) := O15.out.keep (fun b e => F16.2.2.2.2 b (O15.out.lt b e).2 (fun h2 => by have := h2.2; have := (O15.out.lt b e).1; omega))
      clear hk16 F16
      obtain ⟨y0, y1, y2, y3, y4, y5⟩ := X16.out
      go_wp2_with fail
      refine (markP_any (e + 1) (Nw w7 w8) _ p.kids _ p.op p.ctor p.n p.m p.var _ w16 P16.out (fun b h => by have := h.2; omega) hnv (by omega) (by omega)).mono ?_; rintro e17 w17 ⟨rfl, _, hf17⟩
      have hn17 : ∀ b, b < w6.heap.size → ¬ Nw w7 w8 b := fun b h h2 => by have := h2.1; omega
      have hb17w : Below w.heap.size w w17 := hb16w.trans (hf17.to hb16w.size (fun b h => hn17 b (by have := hb6w.size; omega)))
      have B617 : Hid (Below w6.heap.size w6 w17) := B616.out.trans (hf17.to B616.out.size hn17)
      have O17 : Hid (OVt w17 w9.heap.size (.slice A10 L.length c10) L) := O16.out.keep (fun b e => hf17.2.2.2.2 b (O16.out.lt b e).2 (fun h2 => by have := h2.2; have := (O16.out.lt b e).1; omega))
      have hkd : decide (1 + ((l.map mD).sum : Int) + 5 * (wPs p.kids : Int) < 0) = false := decide_eq_false (by omega)
      have Q17 : Hid (RVts w17 w17.heap.size A10 L) := by
        obtain ⟨A', c', e', h⟩ := O17.out.form hLm
        injection e' with e1 _ _
        rw [e1]; exact h
      clear hf17 y0 y1 y2 y3 y4 y5
      go_wp2_with fail
      refine (eqVts_same _ _ L _ _ w17 Q17.out (Q6.out.at_ B617.out)).mono ?_; rintro e18 w18 ⟨rfl, hb18'⟩
      have hb18w := below_aft hb17w hb18' hb17w.size
      have B618 := Lib.hid (below_aft B617.out hb18' B617.out.size)
      have O18 := Lib.hid (O17.out.at_ hb18')
      clear hb18' Q17
      go_wp2_with fail
      refine (markVts_any A10 c10 w9.heap.size L 1 w18 (by omega) (by omega) (by omega) O18.out).mono ?_; rintro e19 w19 ⟨rfl, hm19, hg19⟩
      have hown : ∀ g, (Value.slice A10 L.length c10).ownBlock = some g → w9.heap.size ≤ g := fun g e => (O18.out.lt g e).1
      have hb19w : Below w.heap.size w w19 := hb18w.trans (grown_low hg19 (fun g e => by have := hown g e; have := hbbw.size; omega) hb18w.size)
      have B619 : Hid (Below w6.heap.size w6 w19) := B618.out.trans (grown_low hg19 (fun g e => by have := hown g e; have := B6b.out.size; omega) B618.out.size)
      have M19 := Lib.hid hm19
      have hqd : decide (1 + 3 * (L.length : Int) < 0) = false := decide_eq_false (by omega)
      clear hm19 hg19 hown
      go_wp2_with fail
      refine (heldVts_any A10 L.length c10 1 w19 (by omega) (by omega) (by omega) M19.out).mono ?_; rintro e20 w20 ⟨rfl, rfl⟩
      have B219 := Lib.hid (below_aft B26.out B619.out hs26)
      have SQ := HKS.out w19.drew B219.out.drew
      go_wp2_with fail
      go_region_held3 (fun w' => w'.cell? ⟨w.heap.size, 0, none⟩ = some (.int .i64 t.data) ∧ w'.cell? ⟨w.heap.size, 1, none⟩ = some (.int .i64 t.index) ∧ w'.cell? ⟨w.heap.size + 1, 0, none⟩ = some (.int .i64 p.op) ∧ w'.cell? ⟨w.heap.size + 1, 1, none⟩ = some (.int .i64 p.ctor) ∧ w'.cell? ⟨w.heap.size + 1, 2, none⟩ = some (.int .i64 p.n) ∧ w'.cell? ⟨w.heap.size + 1, 3, none⟩ = some (.int .i64 p.m) ∧ w'.cell? ⟨w.heap.size + 1, 4, none⟩ = some (.int .i64 p.var) ∧ w'.cell? ⟨w.heap.size + 1, 5, none⟩ = some (.slice D p.kids.length ep)) (with_reducible exact SQ) (first | (go_at_call 11; (with_reducible refine (toDataS_any _ _ _ w19.drew (Hr.out.at_ hb19w.drew) (by omega)).mono ?_); rintro e21 w21 ⟨g21, rfl, hf21, hb'⟩; have hbz : Below w19.heap.size w19 w21 := ⟨hb'.os, hb'.tape, hb'.output, hb'.size, hb'.block⟩; have hbq := below_aft B219.out hbz B219.out.size; have SQ := HKS.out _ hbq; have R21 := Lib.hid hf21.reads; clear hf21 hb') | (go_at_call 12; (with_reducible refine (toType_any _ _ w21).mono ?_); rintro e22 w22 ⟨rfl, hb'⟩; have hbz := below_aft hbz hb' hbz.size; have hbq := below_aft hbq hb' hbq.size; have SQ := HKS.out _ hbq; have R22 := Lib.hid (R21.out.at_ hb'); clear hb') | (go_at_call 13; (with_reducible refine (toPO_any e D p.kids ep p.op p.ctor p.n p.m p.var w22 (HV.out.at_ (below_aft hb19w hbz hb19w.size)) hnv).mono ?_); rintro e23 w23 ⟨A23, rfl, ho23, hb'⟩; have hbz := below_aft hbz hb' hbz.size; have hbq := below_aft hbq hb' hbq.size; have SQ := HKS.out _ hbq; have R23 := Lib.hid (R22.out.at_ hb'); have V23 := Lib.hid (OPs.reads _ ho23); clear hb' ho23) | (go_at_call 18; (with_reducible refine (HIM.out _ _ _ _ w23 R23.out V23.out).mono ?_); rintro e24 w24 ⟨v24, rfl, ho24, hb'⟩; obtain ⟨A24, c24, rfl, hr24⟩ := ho24.form hLm; have hbz := below_aft hbz hb' hbz.size; have hbq := below_aft hbq hb' hbq.size; have SQ := HKS.out _ hbq; have Q24 := Lib.hid hr24; clear ho24 hr24 hb'))
      have hb24w := below_aft hb19w hbz hb19w.size
      clear SQ hbq
      go_wp2_with fail
      refine (eqVts_same _ _ L _ _ w24 Q24.out (Q6.out.at_ (below_aft B619.out hbz B619.out.size))).mono ?_; rintro e25 w25 ⟨rfl, hb25'⟩
      have hb25w := below_aft hb24w hb25' hb24w.size
      go_wp2_with fail
      refine (heldVts_any A10 L.length c10 1 w25 (by omega) (by omega) (by omega) ((M19.out.at_ hbz).at_ hb25')).mono ?_; rintro e26 w26 ⟨rfl, rfl⟩
      go_wp2_with fail
      go_ret
      exact ⟨rfl, hb25w⟩
    · have H2 := Lib.hid (left_no h2)
      go_enter Try.func4, Try.ntmps4
      go_wp2_with (first | (go_at_call 8; rw [HW.out]; refine (szDataS_any _ _ _ _ _ (Hr.out.at_ hb0) (by omega) (by omega)).mono ?_; rw [H1.out]; rintro e1 w1 ⟨rfl, hb1⟩; obtain ⟨y0, y1, y2, y3, y4, y5⟩ := HXV.out.at_ hb1; have hb1w := below_aft hb0 hb1 hb0.size) | (go_at_call 9; refine (szP_any e D p.kids ep p.op p.ctor p.n p.m p.var _ _ (HV.out.at_ hb1w) (by omega) (by omega)).mono ?_; rw [H2.out]; rintro e2 w2 ⟨rfl, hb2⟩; have hb2w := below_aft hb1w hb2 hb1w.size))
      go_ret
      exact ⟨rfl, hb2w⟩
  · have H1 := Lib.hid (left_no h1)
    go_enter Try.func4, Try.ntmps4
    go_wp2_with (go_at_call 8; rw [HW.out]; refine (szDataS_any _ _ _ _ _ (Hr.out.at_ hb0) (by omega) (by omega)).mono ?_; rw [H1.out]; rintro e1 w1 ⟨rfl, hb1⟩; have hb1w := below_aft hb0 hb1 hb0.size)
    go_ret
    exact ⟨rfl, hb1w⟩
end Go.Proofs.Ytphmhlekfmkdkaa
