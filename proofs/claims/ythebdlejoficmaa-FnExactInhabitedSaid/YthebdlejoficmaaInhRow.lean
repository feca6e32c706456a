/-
  The function FnExactInhabited returns true for every list of data types and every type, and both read behind the call as they read before. No condition.
-/
import Derived.Test.YthebdlejoficmaaLeastD
namespace Go.Proofs.Ythebdlejoficmaa
open Go.RowKit Go.Deep
open Go.ChangeShapes Go.WideShapes Go.ChangeAt
set_option maxRecDepth 100000
set_option linter.unusedVariables false

set_option maxHeartbeats 1600000 in
theorem inhabited_law (A : Option Addr) (l : List Da) (cap : Nat) (t : Ty) (w : World) (hr : RDas w w.heap.size A l) :
    Calls Try.prog 9 #[.slice A l.length cap, .agg #[.int .i64 t.data, .int .i64 t.index]] w fun e w' => e = .returned (.bool true) ∧ Below w.heap.size w w' := by
  have Hr := Lib.hid hr
  clear hr
  have HX := Lib.hid (Bx.new w t 32)
  by_cases h1 : (wDas l : Int) ≤ 1048576
  · have H1 := Lib.hid (left_ok h1)
    go_enter Try.func9, Try.ntmps9
    go_wp2_with fail
    refine (szDataS_any _ _ _ _ _ (Hr.out.keep (keep_one _) (by simp)) (by omega) (by omega)).mono ?_; rw [H1.out]; rintro e w1 ⟨rfl, hb1'⟩
    have HX1 := Lib.hid (HX.out.at_ hb1')
    have hb1 := below_one hb1'
    clear hb1' HX
    obtain ⟨x0, x1⟩ := HX1.out
    go_wp2_with fail
    go_region_with (first | (go_at_call 15; refine (toDataS_any _ _ _ _ (by exact Hr.out.at_ hb1.drew) (by omega)).mono ?_; rintro e w3 ⟨g3, rfl, hf3, hb3'⟩; have R3 := Lib.hid hf3.reads; have HX3 := Lib.hid (HX1.out.at_ (w' := w3) ⟨hb3'.os, hb3'.tape, hb3'.output, hb3'.size, hb3'.block⟩); obtain ⟨y0, y1⟩ := HX3.out; have hb3 : Below w.heap.size w w3 := hb1.trans (Below.mono (⟨hb3'.os, hb3'.tape, hb3'.output, hb3'.size, hb3'.block⟩ : Below w1.heap.size w1 w3) hb1.size); clear hf3 hb3') | (go_at_call 21; refine (toType_any _ _ _).mono ?_; rintro e w4 ⟨rfl, hb4'⟩; have hb4 := below_then hb3 hb4'; have R4 := Lib.hid (R3.out.at_ hb4'); have HX4 := Lib.hid (HX3.out.at_ hb4'); clear hb4') | (go_at_call 34; refine (inh_spec _ _ _ t _ R4.out).mono ?_; rintro e w5 ⟨rfl, hb5'⟩; have hb5 := below_then hb4 hb5'; have HX5 := Lib.hid (HX4.out.at_ hb5'); clear hb5'))
    all_goals
      go_wp2_with fail
      refine (toDataS_any _ _ _ _ (Hr.out.at_ hb5) (by omega)).mono ?_; rintro e w6 ⟨g6, rfl, hf6, hb6'⟩
      have hb6 := below_then hb5 hb6'
      have R6 := Lib.hid hf6.reads
      have HX6 := Lib.hid (HX5.out.at_ hb6')
      clear hb5 hb6' hf6 HX5
      obtain ⟨z0, z1⟩ := HX6.out
      go_wp2_with fail
      refine (toType_any _ _ _).mono ?_; rintro e w7 ⟨rfl, hb7'⟩
      have hb7 := below_then hb6 hb7'
      have R6' := Lib.hid (R6.out.at_ hb7')
      clear hb6 hb7' R6 z0 z1
      go_wp2_with fail
      refine (inh_impl _ _ _ t _ R6'.out).mono ?_; rintro e w8 ⟨rfl, hb8'⟩
      have hb8 := below_then hb7 hb8'
      have R6 := Lib.hid (R6'.out.at_ hb8')
      clear hb7 hb8' R6'
      go_wp2_with fail
      refine (toDataS_any _ _ _ _ (Hr.out.at_ hb8) (by omega)).mono ?_; rintro e w9 ⟨g9, rfl, hf9, hb9'⟩
      have hb9 := below_then hb8 hb9'
      have R9 := Lib.hid hf9.reads
      have R6' := Lib.hid (R6.out.at_ hb9')
      clear hb8 hb9' hf9 R6
      go_wp2_with fail
      refine (eqDataS_same _ _ _ _ _ _ R6'.out R9.out).mono ?_; rintro e w10 ⟨rfl, hb10'⟩
      have hb10 := below_then hb9 hb10'
      clear hb9 hb10' R6' R9
      go_wp2_with fail
      go_ret
      exact ⟨rfl, hb10⟩
  · have H1 := Lib.hid (left_no h1)
    go_enter Try.func9, Try.ntmps9
    go_wp2_with fail
    refine (szDataS_any _ _ _ _ _ (Hr.out.keep (keep_one _) (by simp)) (by omega) (by omega)).mono ?_; rw [H1.out]; rintro e w1 ⟨rfl, hb1⟩
    go_wp2_with fail
    go_ret
    exact ⟨rfl, below_one hb1⟩

theorem inhabitedLifted (os : Os) (started : os.Started) (H : Type) (enc : TypeId × Value → H) :
    ReturnsInHanded {} Try.checked os 9 .any (Rows.fnExactInhabitedSpec.pre6 enc Try.prog Try.f9 Rows.fnExactInhabitedRow.domain false) (Rows.fnExactInhabitedSpec.post enc Try.prog Try.f9 false true false false) := by
  refine returnsInHanded_of_change (C := Try.checked) wvOwn started (by kernel_rfl) Try.func9
    (ChangeSpec.witness6 (enc := enc) (C := Try.checked) false ⟨#[], #[.slice none 0 0, .agg #[.int .i64 0, .int .i64 0]], []⟩ 8 (by kernel_rfl) (by kernel_rfl) (by kernel_rfl) (by kernel_rfl)) ?_
  intro W base args ds gs before hval0 hW hcnd _
  have hval : ∀ (j : Nat) t v, Try.f9.params[j]? = some t → args[j]? = some v → Value.okWide Try.prog W .any base t v := hval0
  have hW' := hW
  obtain ⟨p, q, hA0, hV, rfl, hfz, hnd⟩ := hW
  have hA : DataW.TrodAll enc Try.prog W 0 (fun _ => true) true Try.f9.params.toList args.toList ds p := hA0
  rw [Try.params9] at hA hval
  obtain ⟨v0, v1, d0, d1, p0, p1, hargs, rfl, rfl, h0, h1⟩ := trodAll_two hA
  obtain rfl : args = #[v0, v1] := by cases args; simp_all
  obtain ⟨rfl, rfl⟩ := trodVars_none hV
  have h0k := h0
  have h1k := h1
  obtain ⟨A, l, cap, rfl, hr⟩ := open_das (hval 0 23 v0 rfl rfl) h0
  obtain ⟨t, rfl⟩ := open_ty (hval 1 32 v1 rfl rfl) h1
  clear hA0 hval0
  have hlt : ∀ y ∈ p0, y.block < W.heap.size := fun y hy => by simpa using hW'.lt y (by simp [hy])
  have hlt' : ∀ y ∈ p1, y.block < W.heap.size := fun y hy => by simpa using hW'.lt y (by simp [hy])
  refine (inhabited_law A l cap t W hr).mono fun e W' ⟨he, hb⟩ => ?_
  subst he
  have a0 : DataW.Trod enc Try.prog W' 0 (fun b => decide (b < W.heap.size)) true 23 (.slice A l.length cap) d0 p0 := Below.trod wvLaid (by kernel_rfl) (of_decide_eq_true (by kernel_rfl)) h0k hb hlt
  have a1 : DataW.Trod enc Try.prog W' 0 (fun b => decide (b < W.heap.size)) true 32 (.agg #[.int .i64 t.data, .int .i64 t.index]) d1 p1 := Below.trod wvLaid (by kernel_rfl) (of_decide_eq_true (by kernel_rfl)) h1k hb hlt'
  exact ⟨_, rfl, _, _, _, [], _, [], hW', trodAll_mk1 (shut_bool Try.underlying4 _), trodAll_mk2 a0 a1, rfl, hb.frame _, fun h => by cases h⟩

theorem inhabited_holds : Rows.FnExactInhabitedSaid :=
  OpenClaim.holds_of_wide 9 Try.f9 rfl rfl rfl rfl rfl rfl rfl ⟨rfl, rfl, rfl, rfl, rfl⟩ rfl rfl rfl rfl rfl (by kernel_rfl) Try.func9 (by kernel_rfl)
    (of_decide_eq_true (by kernel_rfl)) (by unfold Func.isWrapper; first | (rw [if_pos (by decide +kernel)]; kernel_rfl) | (rw [if_neg (by decide +kernel)]; exact ⟨rfl, rfl⟩))
    (fun os started H enc _ => inhabitedLifted os started H enc)
#print axioms inhabited_holds
end Go.Proofs.Ythebdlejoficmaa
