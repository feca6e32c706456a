/-
  The functions that compare values, where both sides read as the same. No statement is proved here.
-/
import Derived.Test.YthecfkdilbfimaaGreatG04
namespace Go.Proofs.YthecfkdilbfimaaGreat
open Go.RowKit Go.Sort
set_option maxRecDepth 100000
set_option linter.unusedVariables false

def EqS (d : Nat) : Prop := ∀ (A A' : Option Addr) (l : List Vl) (cap cap' : Nat) (w : World), RVs d w w.heap.size A l → RVs d w w.heap.size A' l →
  Calls Tryz.prog 77 #[.slice A l.length cap, .slice A' l.length cap'] w fun e w' => e = .returned (.bool true) ∧ Below w.heap.size w w'

theorem eqV_of {d : Nat} (ih : EqS d) (A A' : Option Addr) (l : List Vl) (cap cap' : Nat) (c n : Int) (w : World) (hr : RVs d w w.heap.size A l) (hr' : RVs d w w.heap.size A' l) :
    Calls Tryz.prog 27 #[.agg #[.int .i64 c, .int .i64 n, .slice A l.length cap], .agg #[.int .i64 c, .int .i64 n, .slice A' l.length cap']] w fun e w' => e = .returned (.bool true) ∧ Below w.heap.size w w' := by
  have Hr := Lib.hid hr
  have Hr' := Lib.hid hr'
  have IH := Lib.hid ih
  clear hr hr' ih
  go_enter Tryz.func27, Tryz.ntmps27
  go_wp2_with (go_at_call 77; refine (IH.out _ _ _ _ _ _ (by exact Hr.out.keep (keep_two _ _) (by simp; omega)) (by exact Hr'.out.keep (keep_two _ _) (by simp; omega))).mono ?_; rintro e w1 ⟨rfl, hb⟩; obtain ⟨hc, hfz⟩ := bcell hb)
  go_ret
  exact ⟨rfl, below_two hb⟩

set_option maxHeartbeats 800000 in
theorem eqS_of (d : Nat) (ih : ∀ d', d = d' + 1 → EqS d') : EqS d := by
  intro A A' l cap cap' w hr hr'
  have hn := hr.1
  unfold maxLen at hn
  have Hr := Lib.hid hr
  have Hr' := Lib.hid hr'
  have IH := Lib.hid ih
  clear hr hr' ih
  go_enter Tryz.func77, Tryz.ntmps77
  go_wp2_with fail
  go_loopw [5] (fun i wr => ∃ k : Nat, k ≤ l.length ∧ i = .int .i64 k ∧ Below w.heap.size w wr) (fun i _ => l.length - (intOf i).toNat)
  case atStart => exact ⟨0, by omega, rfl, Below.refl _ _⟩
  case round =>
    obtain ⟨k, hk, rfl, hb⟩ := hrel
    by_cases hlt : k < l.length
    · obtain ⟨b, off, rfl, hbB, hv⟩ := (Hr.out.below hb (Nat.le_refl _)).2 k hlt
      obtain ⟨d', hd, B1, cp, c0, c1, c2, hm⟩ := hv.parts
      obtain ⟨b', off', rfl, hbB', hv'⟩ := (Hr'.out.below hb (Nat.le_refl _)).2 k hlt
      obtain ⟨d'', hd', B2, cp', c0', c1', c2', hm'⟩ := hv'.parts
      obtain rfl : d'' = d' := by omega
      have d0 := cell_regrown c0
      have d1 := cell_regrown c1
      have d2 := cell_regrown c2
      have d0' := cell_regrown c0'
      have d1' := cell_regrown c1'
      have d2' := cell_regrown c2'
      have Hm := Lib.hid hm
      have Hm' := Lib.hid hm'
      have IHd := Lib.hid (IH.out d'' hd)
      clear c0 c1 c2 c0' c1' c2' hm hm' hv hv' hd hd'
      have hi : (k : Int) < (l.length : Int) := by omega
      go_wp2_with fail
      refine wp_region_quiet_below (by kernel_rfl) (by kernel_rfl) ?_
      repeat (quiet_step (exact Calls.regrown_of (eqV_of IHd.out _ _ _ _ _ _ _ _ (Hm.out.keep (fun p hp => (below_regrown wr _ _).cell (Nat.lt_of_lt_of_le hp hb.size)) (Nat.le_trans hb.size (below_regrown wr _ _).size)) (Hm'.out.keep (fun p hp => (below_regrown wr _ _).cell (Nat.lt_of_lt_of_le hp hb.size)) (Nat.le_trans hb.size (below_regrown wr _ _).size)))))
      refine wpQuiet_nil ?_
      intro _ hw'
      obtain ⟨⟨dq, osq⟩, hw''⟩ := hw'
      subst hw''
      have hb2 := hb.trans ((below_regrown wr dq osq).mono hb.size)
      clear d0 d1 d2 d0' d1' d2'
      go_wp2_with fail
      go_roundw
      case rel => exact ⟨k + 1, by omega, by go_num, hb2⟩
      case measure => simp [intOf]; omega
    · go_wp2_with fail
      go_ret
      exact ⟨rfl, hb⟩
theorem eqS_any : ∀ d, EqS d
  | 0 => eqS_of 0 (fun _ h => by omega)
  | d + 1 => eqS_of (d + 1) (fun d' h => (Nat.succ.inj h) ▸ eqS_any d)
theorem eqV_same (d : Nat) (A A' : Option Addr) (l : List Vl) (cap cap' : Nat) (c n : Int) (w : World) (hr : RVs d w w.heap.size A l) (hr' : RVs d w w.heap.size A' l) :
    Calls Tryz.prog 27 #[.agg #[.int .i64 c, .int .i64 n, .slice A l.length cap], .agg #[.int .i64 c, .int .i64 n, .slice A' l.length cap']] w fun e w' => e = .returned (.bool true) ∧ Below w.heap.size w w' := eqV_of (eqS_any d) A A' l cap cap' c n w hr hr'
end Go.Proofs.YthecfkdilbfimaaGreat
