/-
  NodesValid of the program. No statement is proved here.
-/
import Derived.Test.YtlmlpmbljaomlaaNvM
namespace Go.Proofs.Ytlmlpmbljaomlaa
open Go.RowKit Go.Sort
set_option maxRecDepth 100000
set_option linter.unusedVariables false

theorem kind_any (op : Int) (w : World) : Calls Try.prog 12 #[.int .i64 op] w fun e w' => e = .returned (.bool (dcB (0 ≤ op ∧ op ≤ 2))) ∧ w = w' := by
  by_cases h0 : op = 0
  · have q0 : (op == 0) = true := by simp [h0]
    have H := Lib.hid (dcB_t (show 0 ≤ op ∧ op ≤ 2 by omega))
    clear h0
    go_enter Try.func12, Try.ntmps12
    go_wp2_with fail
    go_ret
    exact ⟨ret_b H.out.symm, rfl⟩
  · have q0 : (op == 0) = false := by simp [h0]
    by_cases h1 : op = 1
    · have q1 : (op == 1) = true := by simp [h1]
      have H := Lib.hid (dcB_t (show 0 ≤ op ∧ op ≤ 2 by omega))
      clear h0 h1
      go_enter Try.func12, Try.ntmps12
      go_wp2_with fail
      go_ret
      exact ⟨ret_b H.out.symm, rfl⟩
    · have q1 : (op == 1) = false := by simp [h1]
      by_cases h2 : op = 2
      · have q2 : (op == 2) = true := by simp [h2]
        have H := Lib.hid (dcB_t (show 0 ≤ op ∧ op ≤ 2 by omega))
        clear h0 h1 h2
        go_enter Try.func12, Try.ntmps12
        go_wp2_with fail
        go_ret
        exact ⟨ret_b H.out.symm, rfl⟩
      · have q2 : (op == 2) = false := by simp [h2]
        have H := Lib.hid (dcB_f (show ¬ (0 ≤ op ∧ op ≤ 2) by omega))
        clear h0 h1 h2
        go_enter Try.func12, Try.ntmps12
        go_wp2_with fail
        go_ret
        exact ⟨ret_b H.out.symm, rfl⟩
theorem leads_any (pb k : Nat) (x : Eg) (w : World) (hp : w.cell? ⟨pb, 0, none⟩ = some (.int .i64 k)) :
    Calls Try.prog 13 #[.agg #[.int .i64 x.ctor, .int .i64 x.n, .int .i64 x.m, .int .i64 x.to], .pointer (some ⟨pb, 0, none⟩)] w fun e w' => e = .returned (.bool (!dcB (0 ≤ x.to ∧ x.to < (k : Int)))) ∧ Below w.heap.size w w' := by
  have hpl : pb < w.heap.size := Go.block_lt_of_cell hp
  by_cases h0 : x.to < 0
  · have H : Hid (dcB (0 ≤ x.to ∧ x.to < (k : Int)) = false) := dcB_f (by omega)
    go_enter Try.func13, Try.ntmps13
    go_wp2_with fail
    go_ret
    exact ⟨ret_b (by rw [H.out]; rfl), (Below.refl _ _).alloc (Nat.le_refl _) _⟩
  · have h0' : (0 : Int) ≤ x.to := by omega
    clear h0
    by_cases h1 : x.to < (k : Int)
    · have H : Hid (dcB (0 ≤ x.to ∧ x.to < (k : Int)) = true) := dcB_t (by omega)
      go_enter Try.func13, Try.ntmps13
      go_wp2_with fail
      go_ret
      exact ⟨ret_b (by rw [H.out]; simp; omega), (Below.refl _ _).alloc (Nat.le_refl _) _⟩
    · have h1' : (k : Int) ≤ x.to := by omega
      have H : Hid (dcB (0 ≤ x.to ∧ x.to < (k : Int)) = false) := dcB_f (by omega)
      clear h1
      go_enter Try.func13, Try.ntmps13
      go_wp2_with fail
      go_ret
      exact ⟨ret_b (by rw [H.out]; rfl), (Below.refl _ _).alloc (Nat.le_refl _) _⟩
set_option maxHeartbeats 1600000 in
theorem indexE_any (pb p : Nat) (A : Option Addr) (es : List Eg) (cap : Nat) (w : World) (hr : QEgs w 0 w.heap.size A es) (hp : w.cell? ⟨pb, 0, none⟩ = some (.int .i64 p)) :
    Calls Try.prog 22 #[.slice A es.length cap, .func (.func 13) #[] #[.pointer (some ⟨pb, 0, none⟩)]] w fun e w' => ∃ r : Int, e = .returned (.int .i64 r) ∧ decide (0 ≤ r) = !dcB (OkE es p es.length) ∧ Below w.heap.size w w' := by
  have hn := hr.1
  unfold maxLen at hn
  have Hr := Lib.hid hr
  have HP := Lib.hid hp
  have hpl : pb < w.heap.size := Go.block_lt_of_cell hp
  clear hr hp
  go_enter Try.func22, Try.ntmps22
  go_wp2_with fail
  go_loopw [8] (fun i wr => ∃ k : Nat, k ≤ es.length ∧ i = .int .i64 k ∧ Hid (OkE es p k) ∧ Below w.heap.size w wr) (fun i _ => es.length - (intOf i).toNat)
  case atStart => exact ⟨0, by omega, rfl, OkE.zero _ _, Below.refl _ _⟩
  case round =>
    obtain ⟨k, hk, rfl, HO, hb⟩ := hrel
    by_cases hlt : k < es.length
    · obtain ⟨g, off, rfl, hb0, hbB, c0, c1, c2, c3⟩ := (Hr.out.below hb (Nat.le_refl _)).2 k hlt
      have hkI : (k : Int) < (es.length : Int) := by omega
      have HST := Lib.hid (HO.out.step hlt)
      have HNO : Hid (¬ (0 ≤ es[k].to ∧ es[k].to < (p : Int)) → dcB (OkE es p es.length) = false) := fun h => dcB_f (fun hh => h (hh k hlt hlt))
      have HIS := Lib.hid (leads_any pb p es[k] wr ((hb.cell (p := ⟨pb, 0, none⟩) hpl).trans HP.out))
      generalize es[k] = x at HIS c0 c1 c2 c3 HST HNO
      by_cases hs : 0 ≤ x.to ∧ x.to < (p : Int)
      · have HC := Lib.hid (dcB_t hs)
        have HN := Lib.hid (HST.out hs)
        clear hs
        go_wp2_with fail
        refine HIS.out.mono ?_
        rw [HC.out]
        rintro e w1 ⟨rfl, hb1⟩
        have hb2 := hb.trans (hb1.mono hb.size)
        go_wp2_with fail
        go_roundw
        case rel => exact ⟨k + 1, by omega, by go_num, HN, hb2⟩
        case measure => simp [intOf]; omega
      · have HC := Lib.hid (dcB_f hs)
        have HT : Hid (decide (0 ≤ (k : Int)) = !dcB (OkE es p es.length)) := by unfold Hid; rw [HNO.out hs]; exact decide_eq_true (by omega)
        clear hs
        go_wp2_with fail
        refine HIS.out.mono ?_
        rw [HC.out]
        rintro e w1 ⟨rfl, hb1⟩
        have hb2 := hb.trans (hb1.mono hb.size)
        go_wp2_with fail
        go_ret
        exact ⟨_, rfl, HT.out, hb2⟩
    · have HT : Hid (decide (0 ≤ (-1 : Int)) = !dcB (OkE es p es.length)) := by unfold Hid; rw [dcB_t (show OkE es p es.length from fun j hj _ => HO.out j hj (by omega))]; rfl
      go_wp2_with fail
      go_ret
      exact ⟨_, rfl, HT.out, hb⟩
theorem containsE_any (pb p : Nat) (A : Option Addr) (es : List Eg) (cap : Nat) (w : World) (hr : QEgs w 0 w.heap.size A es) (hp : w.cell? ⟨pb, 0, none⟩ = some (.int .i64 p)) :
    Calls Try.prog 14 #[.slice A es.length cap, .func (.func 13) #[] #[.pointer (some ⟨pb, 0, none⟩)]] w fun e w' => e = .returned (.bool (!dcB (OkE es p es.length))) ∧ Below w.heap.size w w' := by
  have HI := Lib.hid (indexE_any pb p A es cap w hr hp)
  clear hr hp
  go_enter Try.func14, Try.ntmps14
  go_wp2_with fail
  refine HI.out.mono ?_
  rintro e w1 ⟨r, rfl, hd, hb⟩
  have HD := Lib.hid hd
  clear hd
  go_wp2_with fail
  go_ret
  exact ⟨ret_b HD.out, hb⟩
set_option maxHeartbeats 3200000 in
theorem nv_impl (A : Option Addr) (l : List Nd) (cap : Nat) (w : World) (hr : QNds w 0 w.heap.size A l) :
    Calls Try.prog 7 #[.slice A l.length cap] w fun e w' => e = .returned (.bool (nvB l)) ∧ Below w.heap.size w w' := by
  have hn := hr.1
  unfold maxLen at hn
  have Hr := Lib.hid hr
  clear hr
  by_cases hl1 : 1 ≤ l.length
  case neg =>
    have H := Lib.hid (nv_len (l := l) (by omega))
    have hI : (l.length : Int) < 1 := by omega
    go_enter Try.func7, Try.ntmps7
    go_wp2_with fail
    go_ret
    exact ⟨ret_b H.out.symm, Below.refl _ _⟩
  by_cases hl2 : l.length ≤ 300
  case neg =>
    have H := Lib.hid (nv_len (l := l) (by omega))
    have hI : (1 : Int) ≤ (l.length : Int) := by omega
    have hI2 : (300 : Int) < (l.length : Int) := by omega
    go_enter Try.func7, Try.ntmps7
    go_wp2_with fail
    go_ret
    exact ⟨ret_b H.out.symm, Below.refl _ _⟩
  have hI : (1 : Int) ≤ (l.length : Int) := by omega
  have hI2 : (l.length : Int) ≤ 300 := by omega
  go_enter Try.func7, Try.ntmps7
  go_wp2_with fail
  go_loopw [16] (fun i wr => ∃ k : Nat, k ≤ l.length ∧ i = .int .i64 k ∧ Hid (OkL l k) ∧ Below w.heap.size w wr) (fun i _ => l.length - (intOf i).toNat)
  case atStart => exact ⟨0, by omega, rfl, OkL.zero _, Below.refl _ _⟩
  case round =>
    obtain ⟨k, hk, rfl, HO, hb⟩ := hrel
    by_cases hlt : k < l.length
    · have hkI : (k : Int) < (l.length : Int) := by omega
      obtain ⟨b, off, rfl, hb0, hbB, A2, c2, A3, c3, A4, c4, x0, x1, x2, x3, x4, x5, s2, s3, s4⟩ := (Hr.out.below hb (Nat.le_refl _)).2 k hlt
      have HNA := Lib.hid (nv_at (l := l) hlt)
      have HST := Lib.hid (HO.out.step hlt)
      have hel := s4.1
      unfold maxLen at hel
      have S4 := Lib.hid (s4.keep (fun _ _ _ => rfl) (Nat.le_refl _) hb.size)
      generalize l[k] = x at HNA HST x0 x1 x2 x3 x4 x5 S4 hel
      generalize hwn : (wr.alloc (.cells #[.int .i64 k] 3)).alloc (.cells #[.int .i64 x.op, .int .i64 x.clause, .slice A2 x.binds.length c2, .slice A3 x.path.length c3, .slice A4 x.edges.length c4, .int .i64 x.els] 38) = wn
      have hbn : Below wr.heap.size wr wn := by rw [← hwn]; exact ((Below.refl _ _).alloc (Nat.le_refl _) _).alloc (by simp) _
      have P0 : Hid (wn.heap[wr.heap.size]? = some (.cells #[.int .i64 k] 3 (0, 0))) := by unfold Hid; rw [← hwn]; exact blk_alloc (blk_new _ _) _
      have N0 : Hid (wn.heap[wr.heap.size + 1]? = some (.cells #[.int .i64 x.op, .int .i64 x.clause, .slice A2 x.binds.length c2, .slice A3 x.path.length c3, .slice A4 x.edges.length c4, .int .i64 x.els] 38 (0, 0))) := by
        have h := blk_new (wr.alloc (.cells #[.int .i64 k] 3)) (.cells #[.int .i64 x.op, .int .i64 x.clause, .slice A2 x.binds.length c2, .slice A3 x.path.length c3, .slice A4 x.edges.length c4, .int .i64 x.els] 38)
        rw [World.size_alloc] at h
        unfold Hid; rw [← hwn]; exact h
      have E4 := Lib.hid (S4.out.at_ hbn)
      have HWN := Lib.hid hwn
      have hb2 := hb.trans (hbn.mono hb.size)
      clear s2 s3 s4 hwn hbn
      have p0 := (cell_of_blk P0.out 0).trans rfl
      have n0 := (cell_of_blk N0.out 0).trans rfl
      have n4 := (cell_of_blk N0.out 4).trans rfl
      have n5 := (cell_of_blk N0.out 5).trans rfl
      by_cases ho : 0 ≤ x.op ∧ x.op ≤ 2
      case neg =>
        have HK := Lib.hid (dcB_f ho)
        have H := Lib.hid (HNA.out (fun h => ho h.1))
        clear ho
        go_wp2_with fail
        rw [HWN.out]
        refine (kind_any x.op wn).mono ?_
        rw [HK.out]
        rintro e w3 ⟨rfl, rfl⟩
        go_wp2_with fail
        go_ret
        exact ⟨ret_b H.out.symm, hb2⟩
      have HK := Lib.hid (dcB_t ho)
      by_cases he : x.edges.length ≤ 10
      case neg =>
        have H := Lib.hid (HNA.out (fun h => he h.2.2.1))
        have heI : (10 : Int) < (x.edges.length : Int) := by omega
        clear ho he
        go_wp2_with fail
        rw [HWN.out]
        refine (kind_any x.op wn).mono ?_
        rw [HK.out]
        rintro e w3 ⟨rfl, rfl⟩
        go_wp2_with fail
        go_ret
        exact ⟨ret_b H.out.symm, hb2⟩
      have heI : (x.edges.length : Int) ≤ 10 := by omega
      by_cases h5 : -1 ≤ x.els
      case neg =>
        have H := Lib.hid (HNA.out (fun h => h5 h.2.1.1))
        have h5I : x.els < -1 := by omega
        clear ho he h5
        go_wp2_with fail
        rw [HWN.out]
        refine (kind_any x.op wn).mono ?_
        rw [HK.out]
        rintro e w3 ⟨rfl, rfl⟩
        go_wp2_with fail
        go_ret
        exact ⟨ret_b H.out.symm, hb2⟩
      by_cases h6 : x.els < (k : Int)
      case neg =>
        have H := Lib.hid (HNA.out (fun h => h6 h.2.1.2))
        have h6I : (k : Int) ≤ x.els := by omega
        clear ho he h6
        go_wp2_with fail
        rw [HWN.out]
        refine (kind_any x.op wn).mono ?_
        rw [HK.out]
        rintro e w3 ⟨rfl, rfl⟩
        go_wp2_with fail
        go_ret
        exact ⟨ret_b H.out.symm, hb2⟩
      have HCE := Lib.hid (containsE_any wr.heap.size k A4 x.edges c4 wn E4.out p0)
      by_cases h7 : OkE x.edges k x.edges.length
      · have HC := Lib.hid (dcB_t h7)
        have HN := Lib.hid (HST.out ⟨ho, ⟨h5, h6⟩, he, h7⟩)
        clear ho he h7
        go_wp2_with fail
        rw [HWN.out]
        refine (kind_any x.op wn).mono ?_
        rw [HK.out]
        rintro e w3 ⟨rfl, rfl⟩
        go_wp2_with fail
        refine HCE.out.mono ?_
        rw [HC.out]
        rintro e w4 ⟨rfl, hb4⟩
        have hb5 := hb2.trans (hb4.mono hb2.size)
        go_wp2_with fail
        go_roundw
        case rel => exact ⟨k + 1, by omega, by go_num, HN, hb5⟩
        case measure => simp [intOf]; omega
      · have HC := Lib.hid (dcB_f h7)
        have H := Lib.hid (HNA.out (fun h => h7 h.2.2.2))
        clear ho he h7
        go_wp2_with fail
        rw [HWN.out]
        refine (kind_any x.op wn).mono ?_
        rw [HK.out]
        rintro e w3 ⟨rfl, rfl⟩
        go_wp2_with fail
        refine HCE.out.mono ?_
        rw [HC.out]
        rintro e w4 ⟨rfl, hb4⟩
        have hb5 := hb2.trans (hb4.mono hb2.size)
        go_wp2_with fail
        go_ret
        exact ⟨ret_b H.out.symm, hb5⟩
    · have H := Lib.hid (nv_yes ⟨hl1, hl2⟩ HO.out (by omega))
      have hkI : (l.length : Int) ≤ (k : Int) := by omega
      go_wp2_with fail
      go_ret
      exact ⟨ret_b H.out.symm, hb⟩
end Go.Proofs.Ytlmlpmbljaomlaa
