/-
  How many nodes a value has, up to a number, and when it is one within the limits: the document's functions. No statement is proved here.
-/
import Derived.Test.YtakhobhmplneeaaY22
namespace Go.Proofs.Ytakhobhmplneeaa
open Go.RowKit Go.Sort Go.Deep
set_option maxRecDepth 100000
set_option linter.unusedVariables false
/-- A count up to a number. -/
def CntOK (N : Nat) (most r : Int) : Prop := ((N : Int) ≤ most → r = N) ∧ (most < N → most < r) ∧ r ≤ N ∧ 1 ≤ r
def CntP (N : Nat) (most : Int) (w : World) (e : Ending) (w' : World) : Prop := ∃ r : Int, e = .returned (.int .i64 r) ∧ CntOK N most r ∧ Below w.heap.size w w'
theorem CntOK.one {most : Int} (h : 0 ≤ most) : CntOK 1 most 1 := ⟨fun _ => rfl, fun h' => by omega, by omega, by omega⟩
theorem CntOK.step {N M : Nat} {most q r : Int} (h : CntOK N most q) (hq : q ≤ most) (hr : CntOK M (most - q) r) : CntOK (N + M) most (q + r) := by
  obtain ⟨a, b, c, d⟩ := h
  obtain ⟨a', b', c', d'⟩ := hr
  have hN : q = N := by
    by_cases e : (N : Int) ≤ most
    · exact a e
    · have := b (by omega); omega
  refine ⟨fun h => ?_, fun h => ?_, ?_, ?_⟩
  · have := a' (by push_cast at h; omega); push_cast; omega
  · have := b' (by push_cast at h; omega); omega
  · push_cast; omega
  · omega
theorem CntOK.over {N M : Nat} {most q : Int} (h : CntOK N most q) (hq : most < q) (hM : N ≤ M) : CntOK M most q := by
  obtain ⟨a, b, c, d⟩ := h
  exact ⟨fun h => by omega, fun _ => hq, by omega, d⟩
/-- The nodes of a value of which the first k parts have been counted. -/
def upK (ks : List Vl) (k : Nat) : Nat := 1 + k + ((ks.take k).map wV).sum
theorem upK_zero (ks : List Vl) : upK ks 0 = 1 := rfl
theorem upK_succ (ks : List Vl) (k : Nat) (h : k < ks.length) : upK ks (k + 1) = upK ks k + (1 + wV ks[k]) := by
  unfold upK; rw [sum_take_succ wV ks k h]; omega
theorem upK_all (v : Vl) : upK v.kids v.kids.length = 1 + wV v := by
  unfold upK; rw [List.take_length, wV_kids, wVs_sum]; omega
theorem upK_le (v : Vl) (k : Nat) (h : k ≤ v.kids.length) : upK v.kids k ≤ 1 + wV v := by
  have := sum_take_le wV v.kids k
  unfold upK; rw [wV_kids, wVs_sum]; omega
theorem wV_kid (v : Vl) (k : Nat) (h : k < v.kids.length) : wV v.kids[k] ≤ wV v := by
  have h1 := upK_le v (k + 1) h
  rw [upK_succ _ _ h] at h1
  omega
def CntS (d : Nat) : Prop := ∀ (D : Option Addr) (ep : Nat) (v : Vl) (most : Int) (w : World), RVs d w w.heap.size D v.kids → wV v ≤ 16000000 → 0 ≤ most → most ≤ 100 →
  Calls Try.prog 55 #[.agg #[.int .i64 v.ctor, .int .i64 v.n, .slice D v.kids.length ep], .int .i64 most] w (CntP (1 + wV v) most w)
set_option maxHeartbeats 800000 in
theorem cntS_of (d : Nat) (ih : ∀ d', d = d' + 1 → CntS d') : CntS d := by
  intro D ep v most w hv hn h0 h1
  have hl := hv.1
  unfold maxLen at hl
  have HV := Lib.hid hv
  have IH := Lib.hid ih
  clear hv ih
  generalize hw0 : w.alloc (.cells #[.int .i64 v.ctor, .int .i64 v.n, .slice D v.kids.length ep] 28) = w0
  have hb0 : Below w.heap.size w w0 := by rw [← hw0]; exact (Below.refl _ _).alloc (Nat.le_refl _) _
  have HXV : Hid (VBx w0 w.heap.size v.ctor v.n (.slice D v.kids.length ep)) := by rw [← hw0]; exact ⟨by simp [go_sem], by simp [go_sem], by simp [go_sem]⟩
  have HW := Lib.hid hw0
  clear hw0
  go_enter Try.func55, Try.ntmps55
  go_wp2_with fail
  rw [HW.out]
  clear HW
  go_loopw [5, 6] (fun n i wr => ∃ k : Nat, k ≤ v.kids.length ∧ i = .int .i64 k ∧ ∃ q : Int, 1 ≤ q ∧ q ≤ 32000000 ∧ n = .int .i64 q ∧ Hid (CntOK (upK v.kids k) most q) ∧ Below w0.heap.size w0 wr) (fun _ i _ => v.kids.length - (intOf i).toNat)
  case atStart => exact ⟨0, by omega, rfl, 1, by omega, by omega, rfl, CntOK.one h0, Below.refl _ _⟩
  case round =>
    obtain ⟨k, hk, rfl, q, hq1, hq2, rfl, HQ, hb⟩ := hrel
    have hbw : Below w.heap.size w wr := below_aft hb0 hb hb0.size
    obtain ⟨f0, f1, f2⟩ := HXV.out.at_ hb
    have HLE := Lib.hid (upK_le v k hk)
    by_cases hlt : k < v.kids.length
    · have hi : (k : Int) < (v.kids.length : Int) := by omega
      by_cases hq : q ≤ most
      · obtain ⟨b, off, rfl, hbB, hvk⟩ := (HV.out.below hbw (Nat.le_refl _)).2 k hlt
        obtain ⟨d', hd, D', cp, c0, c1, c2, hm⟩ := hvk.parts
        have Hm : Hid (RVs d' wr wr.heap.size D' v.kids[k].kids) := hm.keep (fun _ _ => rfl) hbw.size
        have IHd := Lib.hid (IH.out d' hd)
        have HWK := Lib.hid (wV_kid v k hlt)
        have HS := Lib.hid (upK_succ v.kids k hlt)
        have HL2 := Lib.hid (upK_le v (k + 1) hlt)
        clear hm hvk hd
        go_wp2_with (go_at_call 55; refine (IHd.out _ _ v.kids[k] (most - q) _ Hm.out (by have := HWK.out; omega) (by omega) (by omega)).mono ?_; rintro e w1 ⟨r, rfl, hr, hb1⟩; have HR := Lib.hid hr; have hr1 := hr.2.2.1; have hr2 := hr.2.2.2; have hww := HWK.out; have HRL : Hid (r ≤ 16000001) := (by unfold Hid; push_cast at hr1; omega); clear hr hr1 hww; have hrl := HRL.out)
        have hc := HQ.out.step hq HR.out
        rw [← HS.out] at hc
        have hc3 := hc.2.2.1
        have hb2 := below_aft hb hb1 hb.size
        have hle := HL2.out
        go_roundw
        case rel => exact ⟨k + 1, by omega, by go_num, _, by omega, by omega, rfl, hc, hb2⟩
        case measure => simp [intOf]; omega
      · have hq' : most < q := by omega
        have HO : Hid (CntOK (1 + wV v) most q) := HQ.out.over hq' HLE.out
        go_wp2_with fail
        go_ret
        exact ⟨q, rfl, HO.out, hbw⟩
    · have he : k = v.kids.length := by omega
      have hi : (v.kids.length : Int) ≤ (k : Int) := by omega
      have HO : Hid (CntOK (1 + wV v) most q) := by unfold Hid; rw [← upK_all, ← he]; exact HQ.out
      clear he
      go_wp2_with fail
      go_ret
      exact ⟨q, rfl, HO.out, hbw⟩
theorem cntS_any : ∀ d, CntS d
  | 0 => cntS_of 0 (fun _ h => by omega)
  | d + 1 => cntS_of (d + 1) (fun d' h => (Nat.succ.inj h) ▸ cntS_any d)
theorem fitS_any (l : List Da) : ∀ d, d < 100 → FitS l d
  | 0, _ => fitS_zero l
  | d + 1, h => fitS_step l d (by omega) (fitS_any l d (by omega))
end Go.Proofs.Ytakhobhmplneeaa
