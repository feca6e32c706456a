/-
  The law FnExactFormatType walked. No statement is proved here.
-/
import Derived.Test.YthebdlejoficmaaDoorFTy
import Derived.Deep.RegionWith
namespace Go.Proofs.YthebdlejoficmaaDoor
open Go.RowKit Go.Deep
set_option maxRecDepth 100000
set_option linter.unusedVariables false

set_option maxHeartbeats 1600000 in
theorem formatType_law (A : Option Addr) (l : List Da) (cap : Nat) (t : Ty) (w : World) (hr : RDas w w.heap.size A l) :
    Calls Tryd.prog 3 #[.slice A l.length cap, .agg #[.int .i64 t.data, .int .i64 t.index]] w fun e w' => e = .returned (.bool true) ∧ Below w.heap.size w w' := by
  have Hr := Lib.hid hr
  clear hr
  have HX := Lib.hid (Bx.new w t 24)
  by_cases h1 : (wDas l : Int) ≤ 1048576
  · have H1 := Lib.hid (left_ok h1)
    go_enter Tryd.func3, Tryd.ntmps3
    go_wp2_with fail
    refine (szDataS_any _ _ _ _ _ (Hr.out.keep (keep_one _) (by simp)) (by omega) (by omega)).mono ?_; rw [H1.out]; rintro e w1 ⟨rfl, hb1'⟩
    have HX1 := Lib.hid (HX.out.at_ hb1')
    have hb1 := below_one hb1'
    clear hb1' HX
    obtain ⟨x0, x1⟩ := HX1.out
    go_wp2_with fail
    go_region_with (first | (go_at_call 8; refine (toDataS_any _ _ _ _ (by exact Hr.out.at_ hb1.drew) (by omega)).mono ?_; rintro e w3 ⟨g3, rfl, hf3, hb3'⟩; have R3 := Lib.hid hf3.reads; have HX3 := Lib.hid (HX1.out.at_ (w' := w3) ⟨hb3'.os, hb3'.tape, hb3'.output, hb3'.size, hb3'.block⟩); obtain ⟨y0, y1⟩ := HX3.out; have hb3 : Below w.heap.size w w3 := hb1.trans (Below.mono (⟨hb3'.os, hb3'.tape, hb3'.output, hb3'.size, hb3'.block⟩ : Below w1.heap.size w1 w3) hb1.size); clear hf3 hb3') | (go_at_call 9; refine (toType_any _ _ _).mono ?_; rintro e w4 ⟨rfl, hb4'⟩; have hb4 := below_then hb3 hb4'; have R4 := Lib.hid (R3.out.at_ hb4'); have HX4 := Lib.hid (HX3.out.at_ hb4'); clear hb4') | (go_at_call 7; refine (ftype_spec _ _ _ t _ R4.out).mono ?_; rintro e w5 ⟨rfl, hb5'⟩; have hb5 := below_then hb4 hb5'; have HX5 := Lib.hid (HX4.out.at_ hb5'); clear hb5'))
    all_goals
      go_wp2_with fail
      refine (toDataS_any _ _ _ _ (Hr.out.at_ hb5) (by omega)).mono ?_; rintro e w6 ⟨g6, rfl, hf6, hb6'⟩
      have hb6 := below_then hb5 hb6'
      have R6 := Lib.hid hf6.reads
      have HX6 := Lib.hid (HX5.out.at_ hb6')
      clear hb5 hb6' hf6 HX5
      obtain ⟨z0, z1⟩ := HX6.out
      go_wp2_with fail
      refine (toType_any _ _ _).mono ?_; rintro e w7 ⟨rfl, hb7'⟩
      have hb7 := below_then hb6 hb7'
      have R6' := Lib.hid (R6.out.at_ hb7')
      clear hb6 hb7' R6 z0 z1
      go_wp2_with fail
      refine (ftype_impl _ _ _ t _ R6'.out).mono ?_; rintro e w8 ⟨rfl, hb8'⟩
      have hb8 := below_then hb7 hb8'
      have R6 := Lib.hid (R6'.out.at_ hb8')
      clear hb7 hb8' R6'
      go_wp2_with fail
      refine (toDataS_any _ _ _ _ (Hr.out.at_ hb8) (by omega)).mono ?_; rintro e w9 ⟨g9, rfl, hf9, hb9'⟩
      have hb9 := below_then hb8 hb9'
      have R9 := Lib.hid hf9.reads
      have R6' := Lib.hid (R6.out.at_ hb9')
      clear hb8 hb9' hf9 R6
      go_wp2_with fail
      refine (eqDataS_same _ _ _ _ _ _ R6'.out R9.out).mono ?_; rintro e w10 ⟨rfl, hb10'⟩
      have hb10 := below_then hb9 hb10'
      clear hb9 hb10' R6' R9
      go_wp2_with fail
      go_ret
      exact ⟨rfl, hb10⟩
  · have H1 := Lib.hid (left_no h1)
    go_enter Tryd.func3, Tryd.ntmps3
    go_wp2_with fail
    refine (szDataS_any _ _ _ _ _ (Hr.out.keep (keep_one _) (by simp)) (by omega) (by omega)).mono ?_; rw [H1.out]; rintro e w1 ⟨rfl, hb1⟩
    go_wp2_with fail
    go_ret
    exact ⟨rfl, below_one hb1⟩

end Go.Proofs.YthebdlejoficmaaDoor
