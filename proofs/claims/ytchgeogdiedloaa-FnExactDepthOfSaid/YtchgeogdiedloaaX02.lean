/-
  The functions that compare values, where both sides read as the same. No statement is proved here.
-/
import Derived.Test.YtchgeogdiedloaaX00
import Derived.Test.YtchgeogdiedloaaX01
import Derived.Lib.SmallJoins
namespace Go.Proofs.Ytchgeogdiedloaa
open Go.RowKit Go.Sort
set_option maxRecDepth 100000
set_option linter.unusedVariables false
def EqS (d : Nat) : Prop := ∀ (A A' : Option Addr) (l : List Vl) (cap cap' : Nat) (w : World), RVs d w w.heap.size A l → RVs d w w.heap.size A' l →
  Calls Try.prog 18 #[.slice A l.length cap, .slice A' l.length cap'] w fun e w' => e = .returned (.bool true) ∧ Below w.heap.size w w'
theorem eqV_of {d : Nat} (ih : EqS d) (A A' : Option Addr) (l : List Vl) (cap cap' : Nat) (c n : Int) (w : World) (hr : RVs d w w.heap.size A l) (hr' : RVs d w w.heap.size A' l) :
    Calls Try.prog 9 #[.agg #[.int .i64 c, .int .i64 n, .slice A l.length cap], .agg #[.int .i64 c, .int .i64 n, .slice A' l.length cap']] w fun e w' => e = .returned (.bool true) ∧ Below w.heap.size w w' := by
  have Hr := Lib.hid hr
  have Hr' := Lib.hid hr'
  have IH := Lib.hid ih
  clear hr hr' ih
  go_enter Try.func9, Try.ntmps9
  go_wp2_with (go_at_call 18; refine (IH.out _ _ _ _ _ _ (by exact Hr.out.keep (keep_two _ _) (by simp; omega)) (by exact Hr'.out.keep (keep_two _ _) (by simp; omega))).mono ?_; rintro e w1 ⟨rfl, hb⟩; obtain ⟨hc, hfz⟩ := bcell hb)
  go_ret
  exact ⟨rfl, below_two hb⟩
set_option maxHeartbeats 800000 in
theorem eqS_of (d : Nat) (ih : ∀ d', d = d' + 1 → EqS d') : EqS d := by
  intro A A' l cap cap' w hr hr'
  have hn := hr.1
  unfold maxLen at hn
  have Hr := Lib.hid hr
  have Hr' := Lib.hid hr'
  have IH := Lib.hid ih
  clear hr hr' ih
  go_enter Try.func18, Try.ntmps18
  go_wp2_with fail
  go_loopw [5] (fun i wr => ∃ k : Nat, k ≤ l.length ∧ i = .int .i64 k ∧ Below w.heap.size w wr) (fun i _ => l.length - (intOf i).toNat)
  case atStart => exact ⟨0, by omega, rfl, Below.refl _ _⟩
  case round =>
    obtain ⟨k, hk, rfl, hb⟩ := hrel
    by_cases hlt : k < l.length
    · obtain ⟨b, off, rfl, hbB, hv⟩ := (Hr.out.below hb (Nat.le_refl _)).2 k hlt
      obtain ⟨d', hd, B1, cp, c0, c1, c2, hm⟩ := hv.parts
      obtain ⟨b', off', rfl, hbB', hv'⟩ := (Hr'.out.below hb (Nat.le_refl _)).2 k hlt
      obtain ⟨d'', hd', B2, cp', c0', c1', c2', hm'⟩ := hv'.parts
      obtain rfl : d'' = d' := by omega
      have d0 := cell_regrown c0
      have d1 := cell_regrown c1
      have d2 := cell_regrown c2
      have d0' := cell_regrown c0'
      have d1' := cell_regrown c1'
      have d2' := cell_regrown c2'
      have Hm := Lib.hid hm
      have Hm' := Lib.hid hm'
      have IHd := Lib.hid (IH.out d'' hd)
      clear c0 c1 c2 c0' c1' c2' hm hm' hv hv' hd hd'
      have hi : (k : Int) < (l.length : Int) := by omega
      go_wp2_with fail
      refine wp_region_quiet_below (by kernel_rfl) (by kernel_rfl) ?_
      repeat (quiet_step (exact Calls.regrown_of (eqV_of IHd.out _ _ _ _ _ _ _ _ (Hm.out.keep (fun p hp => (below_regrown wr _ _).cell (Nat.lt_of_lt_of_le hp hb.size)) (Nat.le_trans hb.size (below_regrown wr _ _).size)) (Hm'.out.keep (fun p hp => (below_regrown wr _ _).cell (Nat.lt_of_lt_of_le hp hb.size)) (Nat.le_trans hb.size (below_regrown wr _ _).size)))))
      refine wpQuiet_nil ?_
      intro _ hw'
      obtain ⟨⟨dq, osq⟩, hw''⟩ := hw'
      subst hw''
      have hb2 := hb.trans ((below_regrown wr dq osq).mono hb.size)
      clear d0 d1 d2 d0' d1' d2'
      go_wp2_with fail
      go_roundw
      case rel => exact ⟨k + 1, by omega, by go_num, hb2⟩
      case measure => simp [intOf]; omega
    · go_wp2_with fail
      go_ret
      exact ⟨rfl, hb⟩
theorem eqS_any : ∀ d, EqS d
  | 0 => eqS_of 0 (fun _ h => by omega)
  | d + 1 => eqS_of (d + 1) (fun d' h => (Nat.succ.inj h) ▸ eqS_any d)
theorem eqV_same (d : Nat) (A A' : Option Addr) (l : List Vl) (cap cap' : Nat) (c n : Int) (w : World) (hr : RVs d w w.heap.size A l) (hr' : RVs d w w.heap.size A' l) :
    Calls Try.prog 9 #[.agg #[.int .i64 c, .int .i64 n, .slice A l.length cap], .agg #[.int .i64 c, .int .i64 n, .slice A' l.length cap']] w fun e w' => e = .returned (.bool true) ∧ Below w.heap.size w w' := eqV_of (eqS_any d) A A' l cap cap' c n w hr hr'
end Go.Proofs.Ytchgeogdiedloaa
/-
  The law FnExactDepthOf walked. No statement is proved here.
-/
namespace Go.Proofs.Ytchgeogdiedloaa
open Go.RowKit Go.Sort Go.Deep
set_option maxRecDepth 100000
set_option linter.unusedVariables false
set_option maxHeartbeats 8000000 in
theorem dpm_law (D : Option Addr) (cp d : Nat) (v : Vl) (w : World) (hp : RVs d w w.heap.size D v.kids) :
    Calls Try.prog 4 #[.agg #[.int .i64 v.ctor, .int .i64 v.n, .slice D v.kids.length cp]] w fun e w' => e = .returned (.bool true) ∧ Below w.heap.size w w' := by
  have HP := Lib.hid hp
  clear hp
  generalize hw0 : w.alloc (.cells #[.int .i64 v.ctor, .int .i64 v.n, .slice D v.kids.length cp] 24) = w0
  have hb0 : Below w.heap.size w w0 := by rw [← hw0]; exact (Below.refl _ _).alloc (Nat.le_refl _) _
  have HX : Hid (VBx w0 w.heap.size v.ctor v.n (.slice D v.kids.length cp)) := by rw [← hw0]; exact ⟨by simp [go_sem], by simp [go_sem], by simp [go_sem]⟩
  have HW := Lib.hid hw0
  clear hw0
  obtain ⟨x0, x1, x2⟩ := HX.out
  by_cases h1 : (wVs v.kids : Int) ≤ 1048576
  case neg =>
    have H1 := Lib.hid (left_no h1)
    go_enter Try.func4, Try.ntmps4
    go_wp2_with (go_at_call 5; (try rw [HW.out]); refine (szV_any d D v.kids cp v.ctor v.n _ w0 (HP.out.at_ hb0) (by omega) (by omega)).mono ?_; rw [H1.out]; rintro e1 w1 ⟨rfl, hb1⟩; obtain ⟨y0, y1, y2⟩ := HX.out.at_ hb1; have hb1w := below_aft hb0 hb1 hb0.size)
    go_ret
    exact ⟨rfl, hb1w⟩
  have H1 := Lib.hid (left_ok h1)
  have hnp : wVs v.kids ≤ 1048576 := by omega
  have hnpw : wV v ≤ 1048576 := by rw [wV_kids]; exact hnp
  have HSP : Hid (∀ (E1 : Option Addr) (c1 : Nat) (W : World), RVs d W W.heap.size E1 v.kids → Calls Try.prog 10 #[.agg #[.int .i64 v.ctor, .int .i64 v.n, .slice E1 v.kids.length c1]] W fun e w' => e = .returned (.int .i64 (dV v)) ∧ Below W.heap.size W w') := fun E1 c1 W h => dps_any d E1 v c1 W h hnpw
  have HIM : Hid (∀ (E1 : Option Addr) (P1 : Nat → Prop) (W : World), OVc (d + 1) W P1 E1 v.kids → (∀ b, P1 b → b < W.heap.size) → Calls Try.prog 11 #[.agg #[.int .i64 v.ctor, .int .i64 v.n, .slice E1 v.kids.length v.kids.length]] W fun e w' => e = .returned (.int .i64 (dV v)) ∧ Below W.heap.size W w') := fun E1 P1 W h h1 => dp_impl E1 v v.kids.length (d + 1) P1 W h h1 ⟨Nat.le_refl _, by unfold maxLen; have := wVs_sum v.kids; omega⟩ hnpw
  generalize (dV v : Int) = cc at HSP HIM
  have hbb : (cc != cc) = false := by simp
  go_enter Try.func4, Try.ntmps4
  go_wp2_with (first
    | (go_at_call 7; refine (toVOc_any d D v.kids cp v.ctor v.n w4 (HP.out.at_ hb4w) hnp).mono ?_; rintro e5 w5 ⟨A5, rfl, ho5, hb5⟩)
    | (go_at_call 7; refine (toVOc_any d D v.kids cp v.ctor v.n w1 (HP.out.at_ hb1w) hnp).mono ?_; rintro e3 w3 ⟨A3, rfl, ho3, hb3⟩; have hb3w := below_aft hb1w hb3 hb1w.size; have R3 := Lib.hid (OVc.reads _ ho3); clear ho3)
    | (go_at_call 10; refine (HSP.out _ _ w3 R3.out).mono ?_; rintro e4 w4 ⟨rfl, hb4⟩; have hb4w := below_aft hb3w hb4 hb3w.size; have X4 := Lib.hid (HX.out.at_ (below_aft hb1 (below_aft hb3 hb4 hb3.size) hb1.size)); obtain ⟨s0, s1, s2⟩ := X4.out)
    | (go_at_call 5; (try rw [HW.out]); refine (szV_any d D v.kids cp v.ctor v.n _ w0 (HP.out.at_ hb0) (by omega) (by omega)).mono ?_; rw [H1.out]; rintro e1 w1 ⟨rfl, hb1⟩; obtain ⟨y0, y1, y2⟩ := HX.out.at_ hb1; have hb1w := below_aft hb0 hb1 hb0.size)
    | (go_at_call 11; fail))
  trace_state
  obtain ⟨w5b, hw5b⟩ : ∃ w5b, w5b = w5.alloc (.cells #[.int .i64 v.ctor, .int .i64 v.n, .slice A5 v.kids.length v.kids.length] 29) := ⟨_, rfl⟩
  have hb5b : Below w5.heap.size w5 w5b := by rw [hw5b]; exact (Below.refl _ _).alloc (Nat.le_refl _) _
  have X5 : Hid (VBx w5b w5.heap.size v.ctor v.n (.slice A5 v.kids.length v.kids.length)) := by rw [hw5b]; exact ⟨by simp [go_sem], by simp [go_sem], by simp [go_sem]⟩
  have O5 : Hid (OVc (d + 1) w5b (Nw w4 w5) A5 v.kids) := ho5.fr _ (Fr.below (P := fun _ => False) hb5b) (fun _ _ h => h)
  have hs5b : w5.heap.size < w5b.heap.size := by rw [hw5b]; simp
  rw [← hw5b]
  refine (HIM.out A5 _ w5b O5.out (fun b h => by have := h.2; omega)).mono ?_; rintro e6 w6 ⟨rfl, hb6⟩
  have hb5w := below_aft hb4w hb5 hb4w.size
  have hb5bw := below_aft hb5w hb5b hb5w.size
  have B45 := Lib.hid (below_aft hb5 hb5b hb5.size)
  have hb6w := below_aft hb5bw hb6 hb5bw.size
  have B56 := Lib.hid hb6
  have RV5 : Hid (RVs d w5b w5b.heap.size A5 v.kids) := OVc.reads _ O5.out
  have HKC : Hid (∀ W, Below w5b.heap.size w5b W → W.cell? ⟨w5.heap.size, 0, none⟩ = some (.int .i64 v.ctor) ∧ W.cell? ⟨w5.heap.size, 1, none⟩ = some (.int .i64 v.n) ∧ W.cell? ⟨w5.heap.size, 2, none⟩ = some (.slice A5 v.kids.length v.kids.length) ∧ W.cell? ⟨w.heap.size, 0, none⟩ = some (.int .i64 v.ctor) ∧ W.cell? ⟨w.heap.size, 1, none⟩ = some (.int .i64 v.n) ∧ W.cell? ⟨w.heap.size, 2, none⟩ = some (.slice D v.kids.length cp)) := fun W h => by
    obtain ⟨c0, c1, c2⟩ := X5.out.at_ h
    obtain ⟨a0, a1, a2⟩ := X4.out.at_ (below_aft B45.out h B45.out.size)
    exact ⟨c0, c1, c2, a0, a1, a2⟩
  have SQ := HKC.out w6.drew B56.out.drew
  clear hw5b ho5 x0 x1 x2 y0 y1 y2 s0 s1 s2
  go_wp2_with fail
  go_region_held3 (fun w' => w'.cell? ⟨w5.heap.size, 0, none⟩ = some (.int .i64 v.ctor) ∧ w'.cell? ⟨w5.heap.size, 1, none⟩ = some (.int .i64 v.n) ∧ w'.cell? ⟨w5.heap.size, 2, none⟩ = some (.slice A5 v.kids.length v.kids.length) ∧ w'.cell? ⟨w.heap.size, 0, none⟩ = some (.int .i64 v.ctor) ∧ w'.cell? ⟨w.heap.size, 1, none⟩ = some (.int .i64 v.n) ∧ w'.cell? ⟨w.heap.size, 2, none⟩ = some (.slice D v.kids.length cp)) (with_reducible exact SQ) (first
    | (go_at_call 7; (with_reducible refine (toVOc_any d D v.kids cp v.ctor v.n w6.drew (HP.out.at_ hb6w.drew) hnp).mono ?_); rintro e9 w9 ⟨A9, rfl, ho9, hb'⟩; have hb9' : Below w6.heap.size w6 w9 := ⟨hb'.os, hb'.tape, hb'.output, hb'.size, hb'.block⟩; have hbq := below_aft B56.out hb9' B56.out.size; have SQ := HKC.out _ hbq; have V9 := Lib.hid (OVc.reads _ ho9); clear ho9 hb')
    | (go_at_call 9; (with_reducible refine (eqV_same d _ _ v.kids _ _ v.ctor v.n w9 (RV5.out.at_ hbq) V9.out).mono ?_); rintro e10 w10 ⟨rfl, hb'⟩; have hb10' := below_aft hb9' hb' hb9'.size; have hbq := below_aft hbq hb' hbq.size; have SQ := HKC.out _ hbq; clear hb'))
  have hb10w := below_aft hb6w hb10' hb6w.size
  clear SQ hbq
  go_wp2_with fail
  go_ret
  exact ⟨rfl, hb10w⟩
end Go.Proofs.Ytchgeogdiedloaa
/-
  What an argument that is a value reads as. No statement is proved here.
-/
namespace Go.Proofs.Ytchgeogdiedloaa
open Go.RowKit Go.Deep
open Go.ChangeShapes Go.WideShapes
set_option maxRecDepth 100000
set_option linter.unusedVariables false
section
variable {H : Type} {enc : TypeId × Value → H} {w : World} {spare : Nat → Bool} {held : Bool}
theorem field_atn {e : TypeId} {fs : Array Field} {fuel : Nat} {cs : List Value} {x : DataW H × List MemPlace} (he : Try.prog.underlying e = some (.struct fs)) (hone : oneCellFields Try.prog fs = true) (hlen : cs.length = fs.size)
    (h : DataW.trod enc Try.prog w 0 spare held fuel e cs = some x) :
    ∃ m, fuel = m + 1 ∧ ∀ (j : Nat) (f : Field), fs[j]? = some f → ∃ v y, cs[j]? = some v ∧ DataW.trod enc Try.prog w 0 spare held m f.type [v] = some y := by
  obtain ⟨ys, m, hfu, _, _, hyl, hf⟩ := DataW.trod_struct he h
  refine ⟨m, hfu, fun j f hj => ?_⟩
  obtain ⟨ho, hk⟩ := hone_of hone j f hj
  have hjl : j < fs.size := (Array.getElem?_eq_some_iff.1 hj).1
  have h1 := hf j f hj
  rw [ho, hk] at h1
  have hd : (cs.drop j).take 1 = [cs[j]'(by omega)] := by
    rw [List.drop_eq_getElem_cons (by omega)]; rfl
  rw [hd, List.getElem?_eq_getElem (by omega)] at h1
  exact ⟨_, _, List.getElem?_eq_getElem (by omega), h1⟩
theorem deep_all {P : Nat → Nat → Prop} (hup : ∀ i d d', d ≤ d' → P i d → P i d') : ∀ n, (∀ i, i < n → ∃ d, P i d) → ∃ D, ∀ i, i < n → P i D
  | 0, _ => ⟨0, fun i h => absurd h (Nat.not_lt_zero _)⟩
  | n + 1, h => by
    obtain ⟨D, hD⟩ := deep_all hup n (fun i hi => h i (by omega))
    obtain ⟨d, hd⟩ := h n (by omega)
    refine ⟨max D d, fun i hi => ?_⟩
    by_cases e : i = n
    · subst e; exact hup _ _ _ (Nat.le_max_right _ _) hd
    · exact hup _ _ _ (Nat.le_max_left _ _) (hD i (by omega))
theorem vls_of (fuel : Nat) : ∀ {v : Value} {x : DataW H × List MemPlace}, DataW.trod enc Try.prog w 0 spare held fuel 22 [v] = some x → ∃ A l cap, v = .slice A (List.length l) cap ∧ ∃ d, RVs d w w.heap.size A l := by
  induction fuel using Nat.strongRecOn with
  | _ fuel ih =>
    intro v x h
    rcases DataW.trod_slice Try.underlying22 h with ⟨hcs, _⟩ | ⟨a, len, cap, elems, rest, n, hfu, hcs, hx, hb, hl, hm, hlen, hel, _, _⟩
    · obtain rfl : v = .slice none 0 0 := by simpa using hcs
      exact ⟨none, [], 0, rfl, 0, RVs.nil⟩
    · obtain rfl : v = .slice (some a) len cap := by simpa using hcs
      have h3 : Try.prog.cellsOf 24 = 3 := by kernel_rfl
      have hone : ∀ i, i < len → ∃ (t : Vl), ∃ A c d, w.cell? ((a.add (i * 3)).add 0) = some (.int .i64 t.ctor) ∧ w.cell? ((a.add (i * 3)).add 1) = some (.int .i64 t.n) ∧ w.cell? ((a.add (i * 3)).add 2) = some (.slice A t.kids.length c) ∧ RVs d w w.heap.size A t.kids := by
        intro i hi
        have h1 := hel i hi
        rw [List.getElem?_eq_getElem (by omega)] at h1
        obtain ⟨cs', q1, q2⟩ := Option.bind_eq_some_iff.1 h1
        obtain ⟨_, hl3, hat⟩ := World.cells?_some q1
        rw [h3] at hl3 hat
        obtain ⟨m, hfm, hf⟩ := field_atn Try.underlying24 (by kernel_rfl) hl3 q2
        obtain ⟨v0, y0, e0, t0⟩ := hf 0 _ rfl
        obtain ⟨v1, y1, e1, t1⟩ := hf 1 _ rfl
        obtain ⟨v2, y2, e2, t2⟩ := hf 2 _ rfl
        obtain ⟨c, p0, _, _⟩ := DataW.trod_int Try.underlying3 t0
        obtain ⟨k, p1, _, _⟩ := DataW.trod_int Try.underlying3 t1
        obtain ⟨A, l, cp, rfl, d, hr⟩ := ih m (by omega) t2
        simp only [List.cons.injEq, and_true] at p0 p1
        subst p0 p1
        exact ⟨.mk c k l, A, cp, d, (hat 0 (by omega)).trans e0, (hat 1 (by omega)).trans e1, (hat 2 (by omega)).trans e2, hr⟩
      obtain ⟨f, hf⟩ := choose_lt (α := Vl) (n := len) (p := fun i t => ∃ A c d, w.cell? ((a.add (i * 3)).add 0) = some (.int .i64 t.ctor) ∧ w.cell? ((a.add (i * 3)).add 1) = some (.int .i64 t.n) ∧ w.cell? ((a.add (i * 3)).add 2) = some (.slice A t.kids.length c) ∧ RVs d w w.heap.size A t.kids) hone
      by_cases hz : len = 0
      · subst hz
        exact ⟨some a, [], cap, rfl, 0, RVs.nil⟩
      · have hsp : a.spot = none := by
          obtain ⟨A, c, d, c0, _⟩ := hf 0 (by omega)
          exact spot_of (w := w) (a := a) (by simpa [Addr.add] using c0)
        obtain ⟨b, off, sp⟩ := a
        simp only at hsp
        subst hsp
        obtain ⟨D, hD⟩ := deep_all (P := fun i d => RVl d w w.heap.size b (off + i * 3) (f i)) (fun i d d' hd h => h.more hd) len (fun i hi => by
          obtain ⟨A, c, d, c0, c1, c2, h4, h5⟩ := hf i hi
          simp only [Addr.add_lit, Nat.add_zero] at c0 c1 c2
          exact ⟨d + 1, A, c, by simpa using c0, by simpa using c1, by simpa using c2, h4, h5⟩)
        refine ⟨some ⟨b, off, none⟩, (List.range len).map f, cap, by simp, D, by simp; omega, fun k hk => ?_⟩
        have hk' : k < len := by simpa using hk
        have hbl : b < w.heap.size := by
          obtain ⟨A, c, d, c0, _⟩ := hf k hk'
          simp only [Addr.add_lit, Nat.add_zero] at c0
          exact block_lt_of_cell c0
        exact ⟨b, off, rfl, hbl, by simpa using hD k hk'⟩
/-- An argument that is a value. -/
theorem open_vl {v : Value} {d : DataW H} {ps : List MemPlace} {b0 : Nat} {r : Reach} (hv : Value.okWide Try.prog w r b0 24 v) (h : DataW.Trod enc Try.prog w 0 spare held 24 v d ps) :
    ∃ (t : Vl) (A : Option Addr) (cap d : Nat), v = .agg #[.int .i64 t.ctor, .int .i64 t.n, .slice A t.kids.length cap] ∧ RVs d w w.heap.size A t.kids := by
  obtain ⟨c0, c1, c2, y0, y1, y2, m, rfl, rfl, rfl, hy0, hy1, hy2⟩ := Go.Joins.open_agg3 Try.underlying24 (by kernel_rfl) (by kernel_rfl) hv h
  obtain ⟨a, e0, _, _⟩ := DataW.trod_int Try.underlying3 hy0
  obtain ⟨b, e1, _, _⟩ := DataW.trod_int Try.underlying3 hy1
  obtain ⟨A, l, cp, rfl, d, hr⟩ := vls_of m hy2
  simp only [List.cons.injEq, and_true] at e0 e1
  subst e0 e1
  exact ⟨.mk a b l, A, cp, d, rfl, hr⟩
end
end Go.Proofs.Ytchgeogdiedloaa
