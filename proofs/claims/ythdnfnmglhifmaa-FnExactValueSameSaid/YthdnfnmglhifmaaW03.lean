/-
  ValueSame of the document. No statement is proved here.
-/
import Derived.Test.YthdnfnmglhifmaaW02
import Derived.Test.YthdnfnmglhifmaaW00
import Derived.Lib.SmallJoins
namespace Go.Proofs.Ythdnfnmglhifmaa
open Go.RowKit Go.Sort Go.Deep
set_option maxRecDepth 100000
set_option linter.unusedVariables false
def AllKV (p q : Vl) (k : Nat) : Prop := ∀ j (h : j < p.kids.length) (h' : j < q.kids.length), j < k → p.kids[j] = q.kids[j]
theorem AllKV.zero {p q : Vl} : AllKV p q 0 := fun j _ _ h => absurd h (by omega)
theorem AllKV.step {p q : Vl} {k : Nat} (h : AllKV p q k) (hk : k < p.kids.length) (hk' : k < q.kids.length) (e : p.kids[k] = q.kids[k]) : AllKV p q (k + 1) := by
  intro j hj hj' hjk
  by_cases e' : j = k
  · subst e'; exact e
  · exact h j hj hj' (by omega)
theorem sameV_of {p q : Vl} (h1 : p.ctor = q.ctor) (h2 : p.n = q.n) (h5 : p.kids.length = q.kids.length) (h : AllKV p q p.kids.length) : p = q := by
  have hk : p.kids = q.kids := List.ext_getElem h5 (fun i a b => h i a b a)
  cases p; cases q
  simp only [Vl.ctor, Vl.n, Vl.kids] at h1 h2 hk
  subst h1 h2 hk
  rfl
def VsmD (d : Nat) : Prop := ∀ (A A' : Option Addr) (p q : Vl) (cap cap' : Nat) (w : World), RVs d w w.heap.size A p.kids → RVs d w w.heap.size A' q.kids → Calls Try.prog 25 #[.agg #[.int .i64 p.ctor, .int .i64 p.n, .slice A p.kids.length cap], .agg #[.int .i64 q.ctor, .int .i64 q.n, .slice A' q.kids.length cap']] w fun e w' => e = .returned (.bool (dec (p = q))) ∧ Below w.heap.size w w'
set_option maxHeartbeats 6400000 in
theorem vsm_of (d : Nat) (ih : ∀ d', d = d' + 1 → VsmD d') : VsmD d := by
  intro A A' p q cap cap' w hr hr'
  have Hr := Lib.hid hr
  have Hr' := Lib.hid hr'
  have hn := hr.1
  have hn' := hr'.1
  unfold maxLen at hn hn'
  have IH := Lib.hid ih
  clear hr hr' ih
  generalize hw0 : (w.alloc (.cells #[.int .i64 p.ctor, .int .i64 p.n, .slice A p.kids.length cap] 28)).alloc (.cells #[.int .i64 q.ctor, .int .i64 q.n, .slice A' q.kids.length cap'] 28) = w0
  have hb0 : Below w.heap.size w w0 := by rw [← hw0]; exact ((Below.refl _ _).alloc (Nat.le_refl _) _).alloc (by simp) _
  have HXP : Hid (VBx w0 w.heap.size p.ctor p.n (.slice A p.kids.length cap)) := by rw [← hw0]; exact ⟨by simp [go_sem], by simp [go_sem], by simp [go_sem]⟩
  have HXQ : Hid (VBx w0 (w.heap.size + 1) q.ctor q.n (.slice A' q.kids.length cap')) := by rw [← hw0]; exact ⟨by simp [go_sem], by simp [go_sem], by simp [go_sem]⟩
  have HW := Lib.hid hw0
  clear hw0
  obtain ⟨x0, x1, x2⟩ := HXP.out
  obtain ⟨y0, y1, y2⟩ := HXQ.out
  by_cases h0 : p.ctor = q.ctor
  · have u0 := ine_f h0
    by_cases h1 : p.n = q.n
    · have u1 := ine_f h1
      by_cases h5 : (p.kids.length : Int) = (q.kids.length : Int)
      · have u5 := ine_f h5
        have HT : Hid (AllKV p q p.kids.length → p = q) := fun h => sameV_of h0 h1 (by omega) h
        have hlen : p.kids.length = q.kids.length := by omega
        have HL := Lib.hid hlen
        clear h0 h1 h5 hlen
        go_enter Try.func25, Try.ntmps25
        go_wp2_with fail
        (try rw [HW.out])
        clear u0 u1 u5 x0 x1 y0 y1
        go_loopw [5] (fun i wr => ∃ k : Nat, k ≤ p.kids.length ∧ i = .int .i64 k ∧ Hid (AllKV p q k) ∧ Below w0.heap.size w0 wr) (fun i _ => p.kids.length - (intOf i).toNat)
        case atStart => exact ⟨0, by omega, rfl, AllKV.zero, Below.refl _ _⟩
        case round =>
          obtain ⟨k, hk, rfl, hno, hbr⟩ := hrel
          have hb := below_aft hb0 hbr hb0.size
          obtain ⟨_, _, z2⟩ := HXP.out.at_ hbr
          obtain ⟨_, _, z2q⟩ := HXQ.out.at_ hbr
          clear x2 y2
          by_cases hlt : k < p.kids.length
          · have hlq : k < q.kids.length := by have := HL.out; omega
            obtain ⟨b, off, rfl, hbB, hv⟩ := (Hr.out.below hb (Nat.le_refl _)).2 k hlt
            obtain ⟨d', hd, B1, cp, c0, c1, c2, hm⟩ := hv.parts
            obtain ⟨b', off', rfl, hbB', hv'⟩ := (Hr'.out.below hb (Nat.le_refl _)).2 k hlq
            obtain ⟨d'', hd', B2, cp', c0q, c1q, c2q, hm'⟩ := hv'.parts
            obtain rfl : d'' = d' := by omega
            have d0 := cell_regrown c0
            have d0q := cell_regrown c0q
            have d1 := cell_regrown c1
            have d1q := cell_regrown c1q
            have d2 := cell_regrown c2
            have d2q := cell_regrown c2q
            have e2 := cell_regrown z2
            have e2q := cell_regrown z2q
            have Hm := Lib.hid hm
            have Hm' := Lib.hid hm'
            have IHd := Lib.hid (IH.out d'' hd)
            clear c0 c1 c2 c0q c1q c2q hm hm' hv hv' hd hd'
            have hi : (k : Int) < (p.kids.length : Int) := by omega
            have hiq : (k : Int) < (q.kids.length : Int) := by omega
            by_cases hs : p.kids[k] = q.kids[k]
            · have HD : Hid (dec (p.kids[k] = q.kids[k]) = true) := dec_t hs
              have HN := Lib.hid (hno.out.step hlt hlq hs)
              clear hs hno
              have HC : Hid (∀ dq osq, Calls Try.prog 25 #[.agg #[.int .i64 p.kids[k].ctor, .int .i64 p.kids[k].n, .slice B1 p.kids[k].kids.length cp], .agg #[.int .i64 q.kids[k].ctor, .int .i64 q.kids[k].n, .slice B2 q.kids[k].kids.length cp']] (grow (redrawn wr dq) osq) fun e' w' => e' = .returned (.bool true) ∧ Below (grow (redrawn wr dq) osq).heap.size (grow (redrawn wr dq) osq) w') := fun dq osq => by
                have h1 := IHd.out B1 B2 p.kids[k] q.kids[k] cp cp' (grow (redrawn wr dq) osq) (Hm.out.keep (fun p hp => (below_regrown wr _ _).cell (Nat.lt_of_lt_of_le hp hb.size)) (Nat.le_trans hb.size (below_regrown wr _ _).size)) (Hm'.out.keep (fun p hp => (below_regrown wr _ _).cell (Nat.lt_of_lt_of_le hp hb.size)) (Nat.le_trans hb.size (below_regrown wr _ _).size))
                rw [HD.out] at h1
                exact h1
              go_wp2_with fail
              refine wp_region_quiet_below (by kernel_rfl) (by kernel_rfl) ?_
              repeat (quiet_step (exact Calls.regrown_of (HC.out _ _)))
              refine wpQuiet_nil ?_
              intro _ hw'
              obtain ⟨⟨dq, osq⟩, hw''⟩ := hw'
              subst hw''
              have hb2 := hbr.trans ((below_regrown wr dq osq).mono hbr.size)
              clear d0 d0q d1 d1q d2 d2q e2 e2q z2 z2q
              go_wp2_with fail
              go_roundw
              case rel => exact ⟨k + 1, by omega, by go_num, HN, hb2⟩
              case measure => simp [intOf]; omega
            · have HD : Hid (dec (p.kids[k] = q.kids[k]) = false) := dec_f hs
              have HF : Hid (dec (p = q) = false) := dec_f (fun h => hs (by subst h; rfl))
              clear hs hno
              have HC : Hid (∀ dq osq, Calls Try.prog 25 #[.agg #[.int .i64 p.kids[k].ctor, .int .i64 p.kids[k].n, .slice B1 p.kids[k].kids.length cp], .agg #[.int .i64 q.kids[k].ctor, .int .i64 q.kids[k].n, .slice B2 q.kids[k].kids.length cp']] (grow (redrawn wr dq) osq) fun e' w' => e' = .returned (.bool false) ∧ Below (grow (redrawn wr dq) osq).heap.size (grow (redrawn wr dq) osq) w') := fun dq osq => by
                have h1 := IHd.out B1 B2 p.kids[k] q.kids[k] cp cp' (grow (redrawn wr dq) osq) (Hm.out.keep (fun p hp => (below_regrown wr _ _).cell (Nat.lt_of_lt_of_le hp hb.size)) (Nat.le_trans hb.size (below_regrown wr _ _).size)) (Hm'.out.keep (fun p hp => (below_regrown wr _ _).cell (Nat.lt_of_lt_of_le hp hb.size)) (Nat.le_trans hb.size (below_regrown wr _ _).size))
                rw [HD.out] at h1
                exact h1
              go_wp2_with fail
              refine wp_region_quiet_below (by kernel_rfl) (by kernel_rfl) ?_
              repeat (quiet_step (exact Calls.regrown_of (HC.out _ _)))
              refine wpQuiet_nil ?_
              intro _ hw'
              obtain ⟨⟨dq, osq⟩, hw''⟩ := hw'
              subst hw''
              have hb2 := hbr.trans ((below_regrown wr dq osq).mono hbr.size)
              clear d0 d0q d1 d1q d2 d2q e2 e2q z2 z2q
              go_wp2_with fail
              go_ret
              exact ⟨ret_bool HF.out.symm, below_aft hb0 hb2 hb0.size⟩
          · have HF : Hid (dec (p = q) = true) := dec_t (HT.out (fun j h h' hj => hno.out j h h' (by omega)))
            clear hno
            go_wp2_with fail
            go_ret
            exact ⟨ret_bool HF.out.symm, hb⟩
      · have u5 := ine_t h5
        have HF : Hid (dec (p = q) = false) := dec_f (fun h => h5 (by rw [h]))
        clear h0 h1 h5
        go_enter Try.func25, Try.ntmps25
        go_wp2_with fail
        go_ret
        exact ⟨ret_bool HF.out.symm, by first | exact hb0 | (rw [HW.out]; exact hb0)⟩
    · have u1 := ine_t h1
      have HF : Hid (dec (p = q) = false) := dec_f (fun h => h1 (by rw [h]))
      clear h0 h1
      go_enter Try.func25, Try.ntmps25
      go_wp2_with fail
      go_ret
      exact ⟨ret_bool HF.out.symm, by first | exact hb0 | (rw [HW.out]; exact hb0)⟩
  · have u0 := ine_t h0
    have HF : Hid (dec (p = q) = false) := dec_f (fun h => h0 (by rw [h]))
    clear h0
    go_enter Try.func25, Try.ntmps25
    go_wp2_with fail
    go_ret
    exact ⟨ret_bool HF.out.symm, by first | exact hb0 | (rw [HW.out]; exact hb0)⟩
theorem vsm_any : ∀ d, VsmD d
  | 0 => vsm_of 0 (fun _ h => by omega)
  | d + 1 => vsm_of (d + 1) (fun d' h => (Nat.succ.inj h) ▸ vsm_any d)
theorem vsm_spec (d d' : Nat) (A A' : Option Addr) (p q : Vl) (cap cap' : Nat) (w : World) (hr : RVs d w w.heap.size A p.kids) (hr' : RVs d' w w.heap.size A' q.kids) : Calls Try.prog 25 #[.agg #[.int .i64 p.ctor, .int .i64 p.n, .slice A p.kids.length cap], .agg #[.int .i64 q.ctor, .int .i64 q.n, .slice A' q.kids.length cap']] w fun e w' => e = .returned (.bool (dec (p = q))) ∧ Below w.heap.size w w' :=
  vsm_any (max d d') A A' p q cap cap' w (hr.more (Nat.le_max_left _ _)) (hr'.more (Nat.le_max_right _ _))
end Go.Proofs.Ythdnfnmglhifmaa
/-
  The law FnExactValueSame walked. No statement is proved here.
-/
namespace Go.Proofs.Ythdnfnmglhifmaa
open Go.RowKit Go.Sort Go.Deep
set_option maxRecDepth 100000
set_option linter.unusedVariables false
theorem below_box2v {w w0 : World} {o o' : Obj} (h : (w.alloc o).alloc o' = w0) : Below w.heap.size w w0 := by rw [← h]; exact ((Below.refl _ _).alloc (Nat.le_refl _) _).alloc (by simp) _
theorem OVc.later2 {d : Nat} {w w' : World} {P : Nat → Prop} {A : Option Addr} {l : List Vl} (h : OVc d w P A l) (hb : Below w.heap.size w w') : OVc d w' P A l := h.fr _ (Fr.below (P := fun _ => False) hb) (fun _ _ h => h)
set_option maxHeartbeats 8000000 in
theorem vsm_law (D E : Option Addr) (cp cq d : Nat) (p q : Vl) (w : World) (hp : RVs d w w.heap.size D p.kids) (hq : RVs d w w.heap.size E q.kids) :
    Calls Try.prog 7 #[.agg #[.int .i64 p.ctor, .int .i64 p.n, .slice D p.kids.length cp], .agg #[.int .i64 q.ctor, .int .i64 q.n, .slice E q.kids.length cq]] w fun e w' => e = .returned (.bool true) ∧ Below w.heap.size w w' := by
  have HP := Lib.hid hp
  have HQ := Lib.hid hq
  clear hp hq
  generalize hw0 : (w.alloc (.cells #[.int .i64 p.ctor, .int .i64 p.n, .slice D p.kids.length cp] 57)).alloc (.cells #[.int .i64 q.ctor, .int .i64 q.n, .slice E q.kids.length cq] 57) = w0
  have hb0 : Below w.heap.size w w0 := below_box2v hw0
  have HXP : Hid (VBx w0 w.heap.size p.ctor p.n (.slice D p.kids.length cp)) := by rw [← hw0]; exact ⟨by simp [go_sem], by simp [go_sem], by simp [go_sem]⟩
  have HXQ : Hid (VBx w0 (w.heap.size + 1) q.ctor q.n (.slice E q.kids.length cq)) := by rw [← hw0]; exact ⟨by simp [go_sem], by simp [go_sem], by simp [go_sem]⟩
  have HW := Lib.hid hw0
  clear hw0
  obtain ⟨x0, x1, x2⟩ := HXP.out
  by_cases h1 : (wVs p.kids : Int) ≤ 1048576
  case neg =>
    have H1 := Lib.hid (left_no h1)
    go_enter Try.func7, Try.ntmps7
    go_wp2_with (go_at_call 24; (try rw [HW.out]); refine (szV_any d D p.kids cp p.ctor p.n _ w0 (HP.out.at_ hb0) (by omega) (by omega)).mono ?_; rw [H1.out]; rintro e1 w1 ⟨rfl, hb1⟩; obtain ⟨y0, y1, y2⟩ := HXQ.out.at_ hb1; have hb1w := below_aft hb0 hb1 hb0.size)
    go_ret
    exact ⟨rfl, hb1w⟩
  have H1 := Lib.hid (left_ok h1)
  by_cases h2 : (wVs q.kids : Int) ≤ 1048576 - (wVs p.kids : Int)
  case neg =>
    have H2 := Lib.hid (left_no h2)
    go_enter Try.func7, Try.ntmps7
    go_wp2_with (first | (go_at_call 24; refine (szV_any d E q.kids cq q.ctor q.n _ w1 (HQ.out.at_ hb1w) (by omega) (by omega)).mono ?_; rw [H2.out]; rintro e2 w2 ⟨rfl, hb2⟩; have hb2w := below_aft hb1w hb2 hb1w.size; have hb20 := below_aft hb1 hb2 hb1.size) | (go_at_call 24; (try rw [HW.out]); refine (szV_any d D p.kids cp p.ctor p.n _ w0 (HP.out.at_ hb0) (by omega) (by omega)).mono ?_; rw [H1.out]; rintro e1 w1 ⟨rfl, hb1⟩; obtain ⟨y0, y1, y2⟩ := HXQ.out.at_ hb1; have hb1w := below_aft hb0 hb1 hb0.size))
    go_ret
    exact ⟨rfl, hb2w⟩
  have H2 := Lib.hid (left_ok h2)
  have hnp : wVs p.kids ≤ 1048576 := by omega
  have hnq : wVs q.kids ≤ 1048576 := by omega
  have hnpw : wV p ≤ 1048576 := by rw [wV_kids]; exact hnp
  have HSP : Hid (∀ (E1 E2 : Option Addr) (c1 c2 : Nat) (W : World), RVs d W W.heap.size E1 p.kids → RVs d W W.heap.size E2 q.kids → Calls Try.prog 25 #[.agg #[.int .i64 p.ctor, .int .i64 p.n, .slice E1 p.kids.length c1], .agg #[.int .i64 q.ctor, .int .i64 q.n, .slice E2 q.kids.length c2]] W fun e w' => e = .returned (.bool (dec (p = q))) ∧ Below W.heap.size W w') := fun E1 E2 c1 c2 W h h' => vsm_spec d d E1 E2 p q c1 c2 W h h'
  have HIM : Hid (∀ (E1 E2 : Option Addr) (c1 c2 : Nat) (P1 P2 : Nat → Prop) (W : World), OVc (d + 1) W P1 E1 p.kids → OVc (d + 1) W P2 E2 q.kids → (∀ b, P1 b → b < W.heap.size) → (∀ b, P2 b → b < W.heap.size) → (p.kids.length ≤ c1 ∧ c1 ≤ maxLen) → (q.kids.length ≤ c2 ∧ c2 ≤ maxLen) → Calls Try.prog 27 #[.agg #[.int .i64 p.ctor, .int .i64 p.n, .slice E1 p.kids.length c1], .agg #[.int .i64 q.ctor, .int .i64 q.n, .slice E2 q.kids.length c2]] W fun e w' => e = .returned (.bool (dec (p = q))) ∧ Below W.heap.size W w') := fun E1 E2 c1 c2 P1 P2 W h h' h1 h2 h3 h4 => vsm_impl E1 E2 p q c1 c2 (d + 1) (d + 1) P1 P2 W h h' h1 h2 h3 h4 hnpw
  generalize dec (p = q) = bb at HSP HIM
  have hbb : (bb != bb) = false := by simp
  go_enter Try.func7, Try.ntmps7
  go_wp2_with (first | (go_at_call 24; refine (szV_any d E q.kids cq q.ctor q.n _ w1 (HQ.out.at_ hb1w) (by omega) (by omega)).mono ?_; rw [H2.out]; rintro e2 w2 ⟨rfl, hb2⟩; have hb2w := below_aft hb1w hb2 hb1w.size; have hb20 := below_aft hb1 hb2 hb1.size) | (go_at_call 24; (try rw [HW.out]); refine (szV_any d D p.kids cp p.ctor p.n _ w0 (HP.out.at_ hb0) (by omega) (by omega)).mono ?_; rw [H1.out]; rintro e1 w1 ⟨rfl, hb1⟩; obtain ⟨y0, y1, y2⟩ := HXQ.out.at_ hb1; have hb1w := below_aft hb0 hb1 hb0.size))
  have HKS : Hid (∀ W, Below w2.heap.size w2 W → W.cell? ⟨w.heap.size, 0, none⟩ = some (.int .i64 p.ctor) ∧ W.cell? ⟨w.heap.size, 1, none⟩ = some (.int .i64 p.n) ∧ W.cell? ⟨w.heap.size, 2, none⟩ = some (.slice D p.kids.length cp) ∧ W.cell? ⟨w.heap.size + 1, 0, none⟩ = some (.int .i64 q.ctor) ∧ W.cell? ⟨w.heap.size + 1, 1, none⟩ = some (.int .i64 q.n) ∧ W.cell? ⟨w.heap.size + 1, 2, none⟩ = some (.slice E q.kids.length cq)) := fun W h => by
    obtain ⟨a0, a1, a2⟩ := HXP.out.at_ (below_aft hb20 h hb20.size)
    exact ⟨a0, a1, a2, HXQ.out.at_ (below_aft hb20 h hb20.size)⟩
  have SQ := HKS.out w2.drew (Below.refl _ w2).drew
  clear hb1 hb2 y0 y1 y2 x0 x1 x2
  go_region_held3 (fun w' => w'.cell? ⟨w.heap.size, 0, none⟩ = some (.int .i64 p.ctor) ∧ w'.cell? ⟨w.heap.size, 1, none⟩ = some (.int .i64 p.n) ∧ w'.cell? ⟨w.heap.size, 2, none⟩ = some (.slice D p.kids.length cp) ∧ w'.cell? ⟨w.heap.size + 1, 0, none⟩ = some (.int .i64 q.ctor) ∧ w'.cell? ⟨w.heap.size + 1, 1, none⟩ = some (.int .i64 q.n) ∧ w'.cell? ⟨w.heap.size + 1, 2, none⟩ = some (.slice E q.kids.length cq)) (with_reducible exact SQ) (first
    | (go_at_call 26; (with_reducible refine (toVOc_any d E q.kids cq q.ctor q.n w3 (HQ.out.at_ (below_aft hb2w hbq hb2w.size)) hnq).mono ?_); rintro e4 w4 ⟨A4, rfl, ho4, hb'⟩; have hbq := below_aft hbq hb' hbq.size; have SQ := HKS.out _ hbq; have R4 := Lib.hid (R3.out.at_ hb'); have V4 := Lib.hid (OVc.reads _ ho4); clear ho4 hb')
    | (go_at_call 26; (with_reducible refine (toVOc_any d D p.kids cp p.ctor p.n w2.drew (HP.out.at_ hb2w.drew) hnp).mono ?_); rintro e3 w3 ⟨A3, rfl, ho3, hb'⟩; have hbq : Below w2.heap.size w2 w3 := ⟨hb'.os, hb'.tape, hb'.output, hb'.size, hb'.block⟩; have SQ := HKS.out _ hbq; have R3 := Lib.hid (OVc.reads _ ho3); clear ho3 hb')
    | (go_at_call 25; (with_reducible refine (HSP.out _ _ _ _ w4 R4.out V4.out).mono ?_); rintro e5 w5 ⟨rfl, hb'⟩; have hbq := below_aft hbq hb' hbq.size; have SQ := HKS.out _ hbq; clear hb'))
  have hb5w := below_aft hb2w hbq hb2w.size
  have B25 := Lib.hid hbq
  clear SQ hbq R3 R4 V4
  obtain ⟨x0, x1, x2, _⟩ := HKS.out w5 B25.out
  go_wp2_with fail
  refine (toVOc_any d D p.kids cp p.ctor p.n w5 (HP.out.at_ hb5w) hnp).mono ?_; rintro e6 w6 ⟨A6, rfl, ho6, hb6'⟩
  obtain ⟨w6b, hw6b⟩ : ∃ w6b, w6b = w6.alloc (.cells #[.int .i64 p.ctor, .int .i64 p.n, .slice A6 p.kids.length p.kids.length] 28) := ⟨_, rfl⟩
  have hb6b : Below w6.heap.size w6 w6b := by rw [hw6b]; exact (Below.refl _ _).alloc (Nat.le_refl _) _
  have X6 : Hid (VBx w6b w6.heap.size p.ctor p.n (.slice A6 p.kids.length p.kids.length)) := by rw [hw6b]; exact ⟨by simp [go_sem], by simp [go_sem], by simp [go_sem]⟩
  have O6 : Hid (OVc (d + 1) w6b (Nw w5 w6) A6 p.kids) := ho6.later2 hb6b
  have hs6b : w6.heap.size < w6b.heap.size := by rw [hw6b]; simp
  have HWB6 := Lib.hid hw6b
  have B5b := Lib.hid (below_aft hb6' hb6b hb6'.size)
  have B2b := Lib.hid (below_aft B25.out B5b.out B25.out.size)
  have hb6w := below_aft hb5w B5b.out hb5w.size
  have hs56 := hb6'.size
  clear hw6b ho6 hb6' hb6b x0 x1 x2
  obtain ⟨_, _, _, y0, y1, y2⟩ := HKS.out w6b B2b.out
  go_upto_region 10 with fail
  rw [← HWB6.out]
  go_wp2_with fail
  refine (toVOc_any d E q.kids cq q.ctor q.n w6b (HQ.out.at_ hb6w) hnq).mono ?_; rintro e7 w7 ⟨A7, rfl, ho7, hb7'⟩
  obtain ⟨w7b, hw7b⟩ : ∃ w7b, w7b = w7.alloc (.cells #[.int .i64 q.ctor, .int .i64 q.n, .slice A7 q.kids.length q.kids.length] 28) := ⟨_, rfl⟩
  have hb7b : Below w7.heap.size w7 w7b := by rw [hw7b]; exact (Below.refl _ _).alloc (Nat.le_refl _) _
  have X7 : Hid (VBx w7b w7.heap.size q.ctor q.n (.slice A7 q.kids.length q.kids.length)) := by rw [hw7b]; exact ⟨by simp [go_sem], by simp [go_sem], by simp [go_sem]⟩
  have O7 : Hid (OVc (d + 1) w7b (Nw w6b w7) A7 q.kids) := ho7.later2 hb7b
  have hs7b : w7.heap.size < w7b.heap.size := by rw [hw7b]; simp
  have HWB7 := Lib.hid hw7b
  have B67 := Lib.hid (below_aft hb7' hb7b hb7'.size)
  have B27 := Lib.hid (below_aft B2b.out B67.out B2b.out.size)
  have hb7w := below_aft hb6w B67.out hb6w.size
  have hs67 := hb7'.size
  have P7 : Hid (OVc (d + 1) w7b (Nw w5 w6) A6 p.kids) := O6.out.later2 B67.out
  have X67 := Lib.hid (X6.out.at_ B67.out)
  clear hw7b ho7 hb7' hb7b y0 y1 y2
  obtain ⟨a0, a1, a2⟩ := X67.out
  obtain ⟨b0, b1, b2⟩ := X7.out
  go_upto_region 11 with fail
  rw [← HWB7.out]
  go_wp2_with fail
  refine (HIM.out A6 A7 _ _ _ _ w7b P7.out O7.out (fun b h => by have := h.2; omega) (fun b h => by have := h.2; omega) ⟨Nat.le_refl _, by unfold maxLen; have := wVs_sum p.kids; omega⟩ ⟨Nat.le_refl _, by unfold maxLen; have := wVs_sum q.kids; omega⟩).mono ?_; rintro e8 w8 ⟨rfl, hb8'⟩
  have hb8w := below_aft hb7w hb8' hb7w.size
  have B78 := Lib.hid hb8'
  have B28 := Lib.hid (below_aft B27.out hb8' B27.out.size)
  have RP : Hid (RVs d w7b w7b.heap.size A6 p.kids) := OVc.reads d P7.out
  have RQ : Hid (RVs d w7b w7b.heap.size A7 q.kids) := OVc.reads d O7.out
  clear a0 a1 a2 b0 b1 b2 hb8'
  have HKC : Hid (∀ W, Below w7b.heap.size w7b W → W.cell? ⟨w6.heap.size, 0, none⟩ = some (.int .i64 p.ctor) ∧ W.cell? ⟨w6.heap.size, 1, none⟩ = some (.int .i64 p.n) ∧ W.cell? ⟨w6.heap.size, 2, none⟩ = some (.slice A6 p.kids.length p.kids.length) ∧ W.cell? ⟨w.heap.size, 0, none⟩ = some (.int .i64 p.ctor) ∧ W.cell? ⟨w.heap.size, 1, none⟩ = some (.int .i64 p.n) ∧ W.cell? ⟨w.heap.size, 2, none⟩ = some (.slice D p.kids.length cp)) := fun W h => by
    obtain ⟨x0, x1, x2, _⟩ := HKS.out W (below_aft B27.out h B27.out.size)
    obtain ⟨c0, c1, c2⟩ := X67.out.at_ h
    exact ⟨c0, c1, c2, x0, x1, x2⟩
  have HKD : Hid (∀ W, Below w7b.heap.size w7b W → W.cell? ⟨w7.heap.size, 0, none⟩ = some (.int .i64 q.ctor) ∧ W.cell? ⟨w7.heap.size, 1, none⟩ = some (.int .i64 q.n) ∧ W.cell? ⟨w7.heap.size, 2, none⟩ = some (.slice A7 q.kids.length q.kids.length) ∧ W.cell? ⟨w.heap.size + 1, 0, none⟩ = some (.int .i64 q.ctor) ∧ W.cell? ⟨w.heap.size + 1, 1, none⟩ = some (.int .i64 q.n) ∧ W.cell? ⟨w.heap.size + 1, 2, none⟩ = some (.slice E q.kids.length cq)) := fun W h => by
    obtain ⟨_, _, _, x0, x1, x2⟩ := HKS.out W (below_aft B27.out h B27.out.size)
    obtain ⟨c0, c1, c2⟩ := X7.out.at_ h
    exact ⟨c0, c1, c2, x0, x1, x2⟩
  have SQ := HKC.out w8.drew B78.out.drew
  go_wp2_with fail
  go_region_held3 (fun w' => w'.cell? ⟨w6.heap.size, 0, none⟩ = some (.int .i64 p.ctor) ∧ w'.cell? ⟨w6.heap.size, 1, none⟩ = some (.int .i64 p.n) ∧ w'.cell? ⟨w6.heap.size, 2, none⟩ = some (.slice A6 p.kids.length p.kids.length) ∧ w'.cell? ⟨w.heap.size, 0, none⟩ = some (.int .i64 p.ctor) ∧ w'.cell? ⟨w.heap.size, 1, none⟩ = some (.int .i64 p.n) ∧ w'.cell? ⟨w.heap.size, 2, none⟩ = some (.slice D p.kids.length cp)) (with_reducible exact SQ) (first
    | (go_at_call 26; (with_reducible refine (toVOc_any d D p.kids cp p.ctor p.n w8.drew (HP.out.at_ hb8w.drew) hnp).mono ?_); rintro e9 w9 ⟨A9, rfl, ho9, hb'⟩; have hb9' : Below w8.heap.size w8 w9 := ⟨hb'.os, hb'.tape, hb'.output, hb'.size, hb'.block⟩; have hbq := below_aft B78.out hb9' B78.out.size; have SQ := HKC.out _ hbq; have V9 := Lib.hid (OVc.reads _ ho9); clear ho9 hb')
    | (go_at_call 28; (with_reducible refine (eqV_same d _ _ p.kids _ _ p.ctor p.n w9 (RP.out.at_ hbq) V9.out).mono ?_); rintro e10 w10 ⟨rfl, hb'⟩; have hb10' := below_aft hb9' hb' hb9'.size; have hbq := below_aft hbq hb' hbq.size; have SQ := HKC.out _ hbq; clear hb'))
  have hb10w := below_aft hb8w hb10' hb8w.size
  have B710 := Lib.hid hbq
  clear SQ hbq hb10' hb9' V9
  have SQ := HKD.out w10.drew B710.out.drew
  go_wp2_with fail
  go_region_held3 (fun w' => w'.cell? ⟨w7.heap.size, 0, none⟩ = some (.int .i64 q.ctor) ∧ w'.cell? ⟨w7.heap.size, 1, none⟩ = some (.int .i64 q.n) ∧ w'.cell? ⟨w7.heap.size, 2, none⟩ = some (.slice A7 q.kids.length q.kids.length) ∧ w'.cell? ⟨w.heap.size + 1, 0, none⟩ = some (.int .i64 q.ctor) ∧ w'.cell? ⟨w.heap.size + 1, 1, none⟩ = some (.int .i64 q.n) ∧ w'.cell? ⟨w.heap.size + 1, 2, none⟩ = some (.slice E q.kids.length cq)) (with_reducible exact SQ) (first
    | (go_at_call 26; (with_reducible refine (toVOc_any d E q.kids cq q.ctor q.n w10.drew (HQ.out.at_ hb10w.drew) hnq).mono ?_); rintro e11 w11 ⟨A11, rfl, ho11, hb'⟩; have hb11' : Below w10.heap.size w10 w11 := ⟨hb'.os, hb'.tape, hb'.output, hb'.size, hb'.block⟩; have hbq := below_aft B710.out hb11' B710.out.size; have SQ := HKD.out _ hbq; have V11 := Lib.hid (OVc.reads _ ho11); clear ho11 hb')
    | (go_at_call 28; (with_reducible refine (eqV_same d _ _ q.kids _ _ q.ctor q.n w11 (RQ.out.at_ hbq) V11.out).mono ?_); rintro e12 w12 ⟨rfl, hb'⟩; have hb12' := below_aft hb11' hb' hb11'.size; have hbq := below_aft hbq hb' hbq.size; have SQ := HKD.out _ hbq; clear hb'))
  have hb12w := below_aft hb10w hb12' hb10w.size
  clear SQ hbq
  go_wp2_with fail
  go_ret
  exact ⟨rfl, hb12w⟩
end Go.Proofs.Ythdnfnmglhifmaa
/-
  What an argument that is a value reads as. No statement is proved here.
-/
namespace Go.Proofs.Ythdnfnmglhifmaa
open Go.RowKit Go.Deep
open Go.ChangeShapes Go.WideShapes
set_option maxRecDepth 100000
set_option linter.unusedVariables false
section
variable {H : Type} {enc : TypeId × Value → H} {w : World} {spare : Nat → Bool} {held : Bool}
theorem field_atn {e : TypeId} {fs : Array Field} {fuel : Nat} {cs : List Value} {x : DataW H × List MemPlace} (he : Try.prog.underlying e = some (.struct fs)) (hone : oneCellFields Try.prog fs = true) (hlen : cs.length = fs.size)
    (h : DataW.trod enc Try.prog w 0 spare held fuel e cs = some x) :
    ∃ m, fuel = m + 1 ∧ ∀ (j : Nat) (f : Field), fs[j]? = some f → ∃ v y, cs[j]? = some v ∧ DataW.trod enc Try.prog w 0 spare held m f.type [v] = some y := by
  obtain ⟨ys, m, hfu, _, _, hyl, hf⟩ := DataW.trod_struct he h
  refine ⟨m, hfu, fun j f hj => ?_⟩
  obtain ⟨ho, hk⟩ := hone_of hone j f hj
  have hjl : j < fs.size := (Array.getElem?_eq_some_iff.1 hj).1
  have h1 := hf j f hj
  rw [ho, hk] at h1
  have hd : (cs.drop j).take 1 = [cs[j]'(by omega)] := by
    rw [List.drop_eq_getElem_cons (by omega)]; rfl
  rw [hd, List.getElem?_eq_getElem (by omega)] at h1
  exact ⟨_, _, List.getElem?_eq_getElem (by omega), h1⟩
theorem deep_all {P : Nat → Nat → Prop} (hup : ∀ i d d', d ≤ d' → P i d → P i d') : ∀ n, (∀ i, i < n → ∃ d, P i d) → ∃ D, ∀ i, i < n → P i D
  | 0, _ => ⟨0, fun i h => absurd h (Nat.not_lt_zero _)⟩
  | n + 1, h => by
    obtain ⟨D, hD⟩ := deep_all hup n (fun i hi => h i (by omega))
    obtain ⟨d, hd⟩ := h n (by omega)
    refine ⟨max D d, fun i hi => ?_⟩
    by_cases e : i = n
    · subst e; exact hup _ _ _ (Nat.le_max_right _ _) hd
    · exact hup _ _ _ (Nat.le_max_left _ _) (hD i (by omega))
theorem vls_of (fuel : Nat) : ∀ {v : Value} {x : DataW H × List MemPlace}, DataW.trod enc Try.prog w 0 spare held fuel 55 [v] = some x → ∃ A l cap, v = .slice A (List.length l) cap ∧ ∃ d, RVs d w w.heap.size A l := by
  induction fuel using Nat.strongRecOn with
  | _ fuel ih =>
    intro v x h
    rcases DataW.trod_slice Try.underlying55 h with ⟨hcs, _⟩ | ⟨a, len, cap, elems, rest, n, hfu, hcs, hx, hb, hl, hm, hlen, hel, _, _⟩
    · obtain rfl : v = .slice none 0 0 := by simpa using hcs
      exact ⟨none, [], 0, rfl, 0, RVs.nil⟩
    · obtain rfl : v = .slice (some a) len cap := by simpa using hcs
      have h3 : Try.prog.cellsOf 57 = 3 := by kernel_rfl
      have hone : ∀ i, i < len → ∃ (t : Vl), ∃ A c d, w.cell? ((a.add (i * 3)).add 0) = some (.int .i64 t.ctor) ∧ w.cell? ((a.add (i * 3)).add 1) = some (.int .i64 t.n) ∧ w.cell? ((a.add (i * 3)).add 2) = some (.slice A t.kids.length c) ∧ RVs d w w.heap.size A t.kids := by
        intro i hi
        have h1 := hel i hi
        rw [List.getElem?_eq_getElem (by omega)] at h1
        obtain ⟨cs', q1, q2⟩ := Option.bind_eq_some_iff.1 h1
        obtain ⟨_, hl3, hat⟩ := World.cells?_some q1
        rw [h3] at hl3 hat
        obtain ⟨m, hfm, hf⟩ := field_atn Try.underlying57 (by kernel_rfl) hl3 q2
        obtain ⟨v0, y0, e0, t0⟩ := hf 0 _ rfl
        obtain ⟨v1, y1, e1, t1⟩ := hf 1 _ rfl
        obtain ⟨v2, y2, e2, t2⟩ := hf 2 _ rfl
        obtain ⟨c, p0, _, _⟩ := DataW.trod_int Try.underlying3 t0
        obtain ⟨k, p1, _, _⟩ := DataW.trod_int Try.underlying3 t1
        obtain ⟨A, l, cp, rfl, d, hr⟩ := ih m (by omega) t2
        simp only [List.cons.injEq, and_true] at p0 p1
        subst p0 p1
        exact ⟨.mk c k l, A, cp, d, (hat 0 (by omega)).trans e0, (hat 1 (by omega)).trans e1, (hat 2 (by omega)).trans e2, hr⟩
      obtain ⟨f, hf⟩ := choose_lt (α := Vl) (n := len) (p := fun i t => ∃ A c d, w.cell? ((a.add (i * 3)).add 0) = some (.int .i64 t.ctor) ∧ w.cell? ((a.add (i * 3)).add 1) = some (.int .i64 t.n) ∧ w.cell? ((a.add (i * 3)).add 2) = some (.slice A t.kids.length c) ∧ RVs d w w.heap.size A t.kids) hone
      by_cases hz : len = 0
      · subst hz
        exact ⟨some a, [], cap, rfl, 0, RVs.nil⟩
      · have hsp : a.spot = none := by
          obtain ⟨A, c, d, c0, _⟩ := hf 0 (by omega)
          exact spot_of (w := w) (a := a) (by simpa [Addr.add] using c0)
        obtain ⟨b, off, sp⟩ := a
        simp only at hsp
        subst hsp
        obtain ⟨D, hD⟩ := deep_all (P := fun i d => RVl d w w.heap.size b (off + i * 3) (f i)) (fun i d d' hd h => h.more hd) len (fun i hi => by
          obtain ⟨A, c, d, c0, c1, c2, h4, h5⟩ := hf i hi
          simp only [Addr.add_lit, Nat.add_zero] at c0 c1 c2
          exact ⟨d + 1, A, c, by simpa using c0, by simpa using c1, by simpa using c2, h4, h5⟩)
        refine ⟨some ⟨b, off, none⟩, (List.range len).map f, cap, by simp, D, by simp; omega, fun k hk => ?_⟩
        have hk' : k < len := by simpa using hk
        have hbl : b < w.heap.size := by
          obtain ⟨A, c, d, c0, _⟩ := hf k hk'
          simp only [Addr.add_lit, Nat.add_zero] at c0
          exact block_lt_of_cell c0
        exact ⟨b, off, rfl, hbl, by simpa using hD k hk'⟩
/-- An argument that is a value. -/
theorem open_vl {v : Value} {d : DataW H} {ps : List MemPlace} {b0 : Nat} {r : Reach} (hv : Value.okWide Try.prog w r b0 57 v) (h : DataW.Trod enc Try.prog w 0 spare held 57 v d ps) :
    ∃ (t : Vl) (A : Option Addr) (cap d : Nat), v = .agg #[.int .i64 t.ctor, .int .i64 t.n, .slice A t.kids.length cap] ∧ RVs d w w.heap.size A t.kids := by
  obtain ⟨c0, c1, c2, y0, y1, y2, m, rfl, rfl, rfl, hy0, hy1, hy2⟩ := Go.Joins.open_agg3 Try.underlying57 (by kernel_rfl) (by kernel_rfl) hv h
  obtain ⟨a, e0, _, _⟩ := DataW.trod_int Try.underlying3 hy0
  obtain ⟨b, e1, _, _⟩ := DataW.trod_int Try.underlying3 hy1
  obtain ⟨A, l, cp, rfl, d, hr⟩ := vls_of m hy2
  simp only [List.cons.injEq, and_true] at e0 e1
  subst e0 e1
  exact ⟨.mk a b l, A, cp, d, rfl, hr⟩
end
end Go.Proofs.Ythdnfnmglhifmaa
