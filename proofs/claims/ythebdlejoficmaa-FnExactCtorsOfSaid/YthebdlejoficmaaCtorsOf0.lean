/-
  The law of the constructors of a type, where there are none. No statement is proved here.
-/
import Derived.Test.YthebdlejoficmaaCtorsOf
namespace Go.Proofs.Ythebdlejoficmaa
open Go.RowKit Go.Deep
set_option maxRecDepth 100000
set_option linter.unusedVariables false

set_option maxHeartbeats 4000000 in
theorem ctorsOf_none (A : Option Addr) (l : List Da) (cap : Nat) (t : Ty) (w : World) (hr : RDas w w.heap.size A l) (hne : ctR l t = []) :
    Calls Try.prog 7 #[.slice A l.length cap, .agg #[.int .i64 t.data, .int .i64 t.index]] w fun e w' => e = .returned (.bool true) ∧ Below w.heap.size w w' := by
  have Hr := Lib.hid hr
  clear hr
  have HX := Lib.hid (Bx.new w t 32)
  have HNE := Lib.hid hne
  clear hne
  have hRl := ctR_len l t
  have hRm : (ctR l t).length ≤ maxLen := by unfold maxLen; omega
  by_cases h1 : (wDas l : Int) ≤ 1048576
  · have H1 := Lib.hid (left_ok h1)
    have hlens := lens_le (l := l) (N := 1048576) (by omega)
    have hmd := mD_le l
    have HLN := Lib.hid hlens
    clear hlens
    go_enter Try.func7, Try.ntmps7
    go_wp2_with fail
    refine (szDataS_any _ _ _ _ _ (Hr.out.keep (keep_one _) (by simp)) (by omega) (by omega)).mono ?_; rw [H1.out]; rintro e w1 ⟨rfl, hb1'⟩
    have HX1 := Lib.hid (HX.out.at_ hb1')
    have hb1 := below_one hb1'
    clear hb1' HX
    obtain ⟨x0, x1⟩ := HX1.out
    go_wp2_with fail
    go_region_with (first | (go_at_call 15; refine (toDataS_any _ _ _ _ (by exact Hr.out.at_ hb1.drew) (by omega)).mono ?_; rintro e w3 ⟨g3, rfl, hf3, hb3'⟩; have R3 := Lib.hid hf3.reads; have HX3 := Lib.hid (HX1.out.at_ (w' := w3) ⟨hb3'.os, hb3'.tape, hb3'.output, hb3'.size, hb3'.block⟩); obtain ⟨y0, y1⟩ := HX3.out; have hb3 : Below w.heap.size w w3 := hb1.trans (Below.mono (⟨hb3'.os, hb3'.tape, hb3'.output, hb3'.size, hb3'.block⟩ : Below w1.heap.size w1 w3) hb1.size); clear hf3 hb3') | (go_at_call 21; refine (toType_any _ _ _).mono ?_; rintro e w4 ⟨rfl, hb4'⟩; have hb4 := below_then hb3 hb4'; have R4 := Lib.hid (R3.out.at_ hb4'); have HX4 := Lib.hid (HX3.out.at_ hb4'); clear hb4') | (go_at_call 23; refine (ctors_spec _ _ _ t _ R4.out).mono ?_; rintro e w5 ⟨v0, rfl, ho0, hb5'⟩; obtain ⟨A0, cap0, rfl⟩ := OInts.form0 (HNE.out ▸ ho0); have hb5 := below_then hb4 hb5'; have HX5 := Lib.hid (HX4.out.at_ hb5'); clear hb5' ho0))
    all_goals
      have hlens := HLN.out
      have hb5s : w.heap.size ≤ w5.heap.size := hb5.size
      -- the copy that is handed to the program
      go_wp2_with fail
      refine (toDataS_any _ _ _ _ (Hr.out.at_ hb5) (by omega)).mono ?_; rintro e w6 ⟨g6, rfl, hf6, hb6'⟩
      have hb6 := below_then hb5 hb6'
      have B56 := Lib.hid hb6'
      have R6 := Lib.hid hf6.reads
      have SH6 := Lib.hid hf6.shape
      have HX6 := Lib.hid (HX5.out.at_ hb6')
      clear hb5 hb6' hf6
      obtain ⟨z0, z1⟩ := HX6.out
      go_wp2_with fail
      refine (toType_any _ _ _).mono ?_; rintro e w7 ⟨rfl, hb7'⟩
      have hb7 := below_then hb6 hb7'
      have B67 := Lib.hid hb7'
      clear hb6 hb7' z0 z1
      go_wp2_with fail
      refine (ctors_impl _ _ _ t _ (R6.out.at_ B67.out)).mono ?_; rintro e w8 ⟨v1, rfl, ho1, hb8'⟩
      have hb8 := below_then hb7 hb8'
      have B68 := Lib.hid (below_then B67.out hb8')
      have hs7 : w6.heap.size ≤ w7.heap.size := B67.out.size
      clear hb7 hb8'
      have B58 := Lib.hid (below_then B56.out B68.out)
      obtain ⟨A1, cap1, rfl⟩ := OInts.form0 (HNE.out ▸ ho1)
      clear ho1
      · skip
        go_wp2_with fail
        refine (eqInts_same _ _ [] _ _ _ (RInts.nil _ _) (RInts.nil _ _)).mono ?_; rintro e w9 ⟨rfl, hb9'⟩
        have hb9 := below_then hb8 hb9'
        have B69 := Lib.hid (below_then B68.out hb9')
        have B89 := Lib.hid hb9'
        clear hb8 hb9'
        go_wp2_with fail
        refine (toDataS_any _ _ _ _ (Hr.out.at_ hb9) (by omega)).mono ?_; rintro e w10 ⟨g10, rfl, hf10, hb10'⟩
        have hb10 := below_then hb9 hb10'
        have R10 := Lib.hid hf10.reads
        have B610 := Lib.hid (below_then B69.out hb10')
        have B810 := Lib.hid (below_then B89.out hb10')
        clear hb9 hb10' hf10
        go_wp2_with fail
        refine (eqDataS_same _ _ _ _ _ _ (R6.out.at_ B610.out) R10.out).mono ?_; rintro e w11 ⟨rfl, hb11'⟩
        have hb11 := below_then hb10 hb11'
        have B611 := Lib.hid (below_then B610.out hb11')
        have B811 := Lib.hid (below_then B810.out hb11')
        have B511 := Lib.hid (below_then B56.out B611.out)
        clear hb10 hb11' R10
        have hlo : w5.heap.size ≤ w6.heap.size := B56.out.size
        go_wp2_with fail
        refine (markDataS_any _ l _ w5.heap.size w6.heap.size 1 _ (Nat.le_trans hlo B611.out.size) hlens.1 hlens.2 (by omega) (by omega) (SH6.out.kept (Kept.below B611.out hlo))).mono ?_; rintro e w12 ⟨rfl, hk12⟩
        have hb12 : Below w.heap.size w w12 := hb11.trans (hk12.1.mono (by omega))
        have B512 := Lib.hid (B511.out.trans hk12.1)
        clear hb11 hk12
        go_wp2_with fail
        refine (eqInts_same _ _ [] _ _ _ (RInts.nil _ _) (RInts.nil _ _)).mono ?_; rintro e w13 ⟨rfl, hb13'⟩
        have hb13 := below_then hb12 hb13'
        have B513 := Lib.hid (B512.out.trans (hb13'.mono B512.out.size))
        clear hb12 hb13'
        go_wp2_with fail
        refine (markInts_none _ _ _ _).mono ?_; rintro e w13' ⟨rfl, rfl⟩
        go_wp2_with fail
        refine (heldInts_none _ _ _ _).mono ?_; rintro e w14' ⟨rfl, rfl⟩
        obtain ⟨u0, u1⟩ := (HX5.out.at_ B513.out)
        go_wp2_with fail
        go_region_with (first | (go_at_call 15; refine (toDataS_any _ _ _ _ (by exact Hr.out.at_ hb13.drew) (by omega)).mono ?_; rintro e w15 ⟨g15, rfl, hf15, hb15'⟩; have R15 := Lib.hid hf15.reads; have hb15 : Below w13.heap.size w13 w15 := ⟨hb15'.os, hb15'.tape, hb15'.output, hb15'.size, hb15'.block⟩; have HX15 := Lib.hid ((HX5.out.at_ B513.out).at_ hb15); obtain ⟨y0, y1⟩ := HX15.out; clear hf15 hb15') | (go_at_call 21; refine (toType_any _ _ _).mono ?_; rintro e w16 ⟨rfl, hb16'⟩; have hb16 := below_then hb15 hb16'; have R16 := Lib.hid (R15.out.at_ hb16'); clear hb16') | (go_at_call 24; refine (ctors_impl _ _ _ t _ R16.out).mono ?_; rintro e w17 ⟨v2, rfl, ho2, hb17'⟩; obtain ⟨A2, cap2, rfl⟩ := OInts.form0 (HNE.out ▸ ho2); have hb17 := below_then hb16 hb17'; clear hb17' ho2))
        all_goals
          go_wp2_with fail
          refine (eqInts_same _ _ [] _ _ _ (RInts.nil _ _) (RInts.nil _ _)).mono ?_; rintro e w18 ⟨rfl, hb18'⟩
          have hb18 := below_then hb17 hb18'
          clear hb17 hb18'
          go_wp2_with fail
          refine (heldInts_none _ _ _ _).mono ?_; rintro e w19 ⟨rfl, rfl⟩
          go_wp2_with fail
          go_ret
          exact ⟨rfl, below_then hb13 hb18⟩
  · have H1 := Lib.hid (left_no h1)
    go_enter Try.func7, Try.ntmps7
    go_wp2_with fail
    refine (szDataS_any _ _ _ _ _ (Hr.out.keep (keep_one _) (by simp)) (by omega) (by omega)).mono ?_; rw [H1.out]; rintro e w1 ⟨rfl, hb1⟩
    go_wp2_with fail
    go_ret
    exact ⟨rfl, below_one hb1⟩
end Go.Proofs.Ythebdlejoficmaa
