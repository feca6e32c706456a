/-
  The least depth of a type, and whether it has values: the program's functions and the document's. No statement is proved here.
-/
import Derived.Test.YtholdmdkhbhokabG02
namespace Go.Proofs.Ytholdmdkhbhokab
open Go.RowKit Go.Deep
set_option maxRecDepth 100000
set_option linter.unusedVariables false

theorem ldep_no {l : List Da} {t : Ty} (ht : t ∈ tysN l.length) (h : ¬ Inh l t) : ldep l t = 0 := by
  rcases ldep_is l t with ⟨h1, _⟩ | ⟨_, h2, _⟩
  · exact h1
  · exact absurd ⟨ht, _, h2⟩ h
theorem ldep_yes {l : List Da} {t : Ty} (h : Inh l t) : 0 < ldep l t := by
  obtain ⟨_, k, hk⟩ := h
  exact ldep_pos hk
theorem ret_pair {a b : Int} {c d : Bool} (h : a = b) (h2 : c = d) : Ending.returned (.tuple #[.int .i64 a, .bool c]) = .returned (.tuple #[.int .i64 b, .bool d]) := by rw [h, h2]
/-- The two results. -/
noncomputable def ldR (l : List Da) (t : Ty) : Int := if dec (TyOK l t) then ldep l t else 0
noncomputable def lbR (l : List Da) (t : Ty) : Bool := dec (TyOK l t ∧ Inh l t)

theorem depth_l (A : Option Addr) (l : List Da) (T : List Int) (cap N : Nat) (t : Ty) (hNT : T.length = N) (w : World) (hr : RInts w A T) (hw : WorldOK l) (hS : St l T (l.length * 4 + 1) 0 0) (ht : t ∈ tysN l.length) :
    Calls Try.prog 53 #[.slice A N cap, .agg #[.int .i64 t.data, .int .i64 t.index]] w fun e w' => e = .returned (.int .i64 (ldep l t)) ∧ Below w.heap.size w w' := by
  subst hNT
  rw [← dep_ldep hw hS ht]
  exact depth_any A T cap l.length t w hr hS.len hw.1 (tys_in ht)
theorem table_l (A : Option Addr) (l : List Da) (cap : Nat) (w : World) (hr : RDas w w.heap.size A l) (hw : WorldOK l) :
    Calls Try.prog 54 #[.slice A l.length cap] w fun e w' => ∃ T B, e = .returned (.slice (some ⟨B, 0, none⟩) (l.length * 4) (l.length * 4)) ∧ T.length = l.length * 4 ∧ RInts w' (some ⟨B, 0, none⟩) T ∧ St l T (l.length * 4 + 1) 0 0 ∧ Below w.heap.size w w' :=
  (table_any A l cap w hr hw).mono fun e w' ⟨T, he, hT, hS, hb⟩ => ⟨T, _, he, hS.len, hT.reads hS.len (by have := hw.1; omega), hS, hb⟩
theorem leastDepths_m (A : Option Addr) (l : List Da) (cap : Nat) (w : World) (hr : RDas w w.heap.size A l) (hw : WorldOK l) :
    Calls Try.prog 52 #[.slice A l.length cap] w fun e w' => ∃ mb, e = .returned (.map (some mb)) ∧ MapTy w' mb 400 (ldep l) (Inh l) ∧ Below w.heap.size w w' :=
  (leastDepths_any A l cap w hr hw).mono fun e w' ⟨he, hM, hb⟩ => ⟨_, he, hM, hb⟩

set_option maxHeartbeats 800000 in
theorem least_spec (A : Option Addr) (l : List Da) (cap : Nat) (t : Ty) (w : World) (hr : RDas w w.heap.size A l) :
    Calls Try.prog 26 #[.slice A l.length cap, .agg #[.int .i64 t.data, .int .i64 t.index]] w fun e w' => e = .returned (.tuple #[.int .i64 (ldR l t), .bool (lbR l t)]) ∧ Below w.heap.size w w' := by
  have Hr := Lib.hid hr
  have HX := Lib.hid (Bx.new w t 33)
  clear hr
  by_cases h : TyOK l t
  · have HT := Lib.hid (ok_tys h)
    have HW : Hid (WorldOK l) := h.1
    have HD : Hid (ldR l t = ldep l t) := by unfold Hid ldR; rw [dec_t h]; rfl
    have HH := Lib.hid h
    by_cases hi : Inh l t
    · have hp : 0 < ldep l t := ldep_yes hi
      have HB : Hid (lbR l t = true) := dec_t ⟨h, hi⟩
      clear h hi
      go_enter Try.func26, Try.ntmps26
      go_wp2_with fail
      refine (typeV_yes (t := t) (Hr.out.keep (keep_one _) (by simp)) HH.out).mono ?_
      rintro e w1 ⟨rfl, hb'⟩
      have HX1 := Lib.hid (HX.out.at_ hb')
      have hb1 := below_one hb'
      clear hb' HX
      obtain ⟨x0, x1⟩ := HX1.out
      go_wp2_with fail
      go_region_with (first | (go_at_call 54; refine (table_l _ l _ _ (by exact Hr.out.at_ hb1.drew) HW.out).mono ?_; rintro e w2 ⟨T, B, rfl, hTl, hT, hS, hb2'⟩; have HTL := Lib.hid hTl; have HTT := Lib.hid hT; have HSS := Lib.hid hS; have HX2 := Lib.hid (HX1.out.at_ (w' := w2) ⟨hb2'.os, hb2'.tape, hb2'.output, hb2'.size, hb2'.block⟩); obtain ⟨y0, y1⟩ := HX2.out; have hb2 : Below w.heap.size w w2 := hb1.trans (Below.mono (⟨hb2'.os, hb2'.tape, hb2'.output, hb2'.size, hb2'.block⟩ : Below w1.heap.size w1 w2) hb1.size); clear hTl hT hS hb2') | (go_at_call 53; refine (depth_l _ l _ _ _ t HTL.out _ HTT.out HW.out HSS.out HT.out).mono ?_; rintro e w3 ⟨rfl, hb3'⟩; have hb3 := below_then hb2 hb3'; clear hb3'))
      all_goals
        go_wp2_with fail
        go_ret2
        exact ⟨ret_pair HD.out.symm HB.out.symm, hb3⟩
    · have hp : ldep l t = 0 := ldep_no HT.out hi
      have HP := Lib.hid hp
      have HB : Hid (lbR l t = false) := dec_f (fun h => hi h.2)
      clear h hi
      go_enter Try.func26, Try.ntmps26
      go_wp2_with fail
      refine (typeV_yes (t := t) (Hr.out.keep (keep_one _) (by simp)) HH.out).mono ?_
      rintro e w1 ⟨rfl, hb'⟩
      have HX1 := Lib.hid (HX.out.at_ hb')
      have hb1 := below_one hb'
      clear hb' HX hp
      obtain ⟨x0, x1⟩ := HX1.out
      go_wp2_with fail
      go_region_with (first | (go_at_call 54; refine (table_l _ l _ _ (by exact Hr.out.at_ hb1.drew) HW.out).mono ?_; rintro e w2 ⟨T, B, rfl, hTl, hT, hS, hb2'⟩; have HTL := Lib.hid hTl; have HTT := Lib.hid hT; have HSS := Lib.hid hS; have HX2 := Lib.hid (HX1.out.at_ (w' := w2) ⟨hb2'.os, hb2'.tape, hb2'.output, hb2'.size, hb2'.block⟩); obtain ⟨y0, y1⟩ := HX2.out; have hb2 : Below w.heap.size w w2 := hb1.trans (Below.mono (⟨hb2'.os, hb2'.tape, hb2'.output, hb2'.size, hb2'.block⟩ : Below w1.heap.size w1 w2) hb1.size); clear hTl hT hS hb2') | (go_at_call 53; refine (depth_l _ l _ _ _ t HTL.out _ HTT.out HW.out HSS.out HT.out).mono ?_; rw [HP.out]; rintro e w3 ⟨rfl, hb3'⟩; have hb3 := below_then hb2 hb3'; clear hb3'))
      all_goals
        go_wp2_with fail
        go_ret2
        exact ⟨ret_pair (HD.out.trans HP.out).symm HB.out.symm, hb3⟩
  · have HD : Hid (ldR l t = 0) := by unfold Hid ldR; rw [dec_f h]; rfl
    have HB : Hid (lbR l t = false) := dec_f (fun e => h e.1)
    go_enter Try.func26, Try.ntmps26
    go_wp2_with (go_at_call 44; refine (typeV_no (t := t) (by exact Hr.out.keep (keep_one _) (by simp)) h).mono ?_; rintro e w1 ⟨rfl, hb⟩; have hb1 := below_one hb; clear hb)
    go_ret2
    exact ⟨ret_pair HD.out.symm HB.out.symm, hb1⟩

set_option maxHeartbeats 800000 in
theorem least_impl (A : Option Addr) (l : List Da) (cap : Nat) (t : Ty) (w : World) (hr : RDas w w.heap.size A l) :
    Calls Try.prog 25 #[.slice A l.length cap, .agg #[.int .i64 t.data, .int .i64 t.index]] w fun e w' => e = .returned (.tuple #[.int .i64 (ldR l t), .bool (lbR l t)]) ∧ Below w.heap.size w w' := by
  have Hr := Lib.hid hr
  have HX := Lib.hid (Bx.new w t 33)
  clear hr
  by_cases h : TyOK l t
  · have HT := Lib.hid (ok_tys h)
    have HT4 := Lib.hid (tys_mono h.1.1 HT.out)
    have HW : Hid (WorldOK l) := h.1
    have HV : Hid (ldR l t = if dec (Inh l t) then ldep l t else 0) := by
      unfold Hid ldR; rw [dec_t h]
      by_cases hi : Inh l t
      · rw [dec_t hi]
      · rw [dec_f hi, ldep_no HT.out hi]; rfl
    have HB : Hid (lbR l t = dec (Inh l t)) := dec_congr ⟨fun e => e.2, fun e => ⟨h, e⟩⟩
    have HH := Lib.hid h
    clear h
    go_enter Try.func25, Try.ntmps25
    go_wp2_with fail
    refine (typeI_yes (t := t) (Hr.out.keep (keep_one _) (by simp)) HH.out).mono ?_
    rintro e w1 ⟨rfl, hb'⟩
    have HX1 := Lib.hid (HX.out.at_ hb')
    have hb1 := below_one hb'
    clear hb' HX
    obtain ⟨x0, x1⟩ := HX1.out
    generalize hn : (if dec (Inh l t) then ldep l t else 0) = n at HV
    generalize hq : dec (Inh l t) = q at HB
    have HN := Lib.hid hn
    have HQ := Lib.hid hq
    clear hn hq
    go_wp2_with fail
    go_region_with (go_at_call 52; refine (leastDepths_m _ l _ _ (by exact Hr.out.at_ hb1.drew) HW.out).mono ?_; rintro e w2 ⟨mb, rfl, hM, hb2'⟩; have hlook := hM.look_ok HT4.out; rw [HN.out, HQ.out] at hlook; have HX2 := Lib.hid (HX1.out.at_ (w' := w2) ⟨hb2'.os, hb2'.tape, hb2'.output, hb2'.size, hb2'.block⟩); obtain ⟨y0, y1⟩ := HX2.out; have hb2 : Below w.heap.size w w2 := hb1.trans (Below.mono (⟨hb2'.os, hb2'.tape, hb2'.output, hb2'.size, hb2'.block⟩ : Below w1.heap.size w1 w2) hb1.size); clear hM hb2')
    all_goals
      go_wp2_with fail
      go_ret2
      exact ⟨ret_pair HV.out.symm HB.out.symm, hb2⟩
  · have HD : Hid (ldR l t = 0) := by unfold Hid ldR; rw [dec_f h]; rfl
    have HB : Hid (lbR l t = false) := dec_f (fun e => h e.1)
    go_enter Try.func25, Try.ntmps25
    go_wp2_with (go_at_call 19; refine (typeI_no (t := t) (by exact Hr.out.keep (keep_one _) (by simp)) h).mono ?_; rintro e w1 ⟨rfl, hb⟩; have hb1 := below_one hb; clear hb)
    go_ret2
    exact ⟨ret_pair HD.out.symm HB.out.symm, hb1⟩

theorem inh_impl (A : Option Addr) (l : List Da) (cap : Nat) (t : Ty) (w : World) (hr : RDas w w.heap.size A l) :
    Calls Try.prog 27 #[.slice A l.length cap, .agg #[.int .i64 t.data, .int .i64 t.index]] w fun e w' => e = .returned (.bool (lbR l t)) ∧ Below w.heap.size w w' := by
  have Hr := Lib.hid hr
  clear hr
  go_enter Try.func27, Try.ntmps27
  go_wp2_with fail
  refine (least_impl _ _ _ t _ (Hr.out.keep (keep_one _) (by simp))).mono ?_
  rintro e w1 ⟨rfl, hb⟩
  have hb1 := below_one hb
  go_wp2_with fail
  go_ret
  exact ⟨rfl, hb1⟩
end Go.Proofs.Ytholdmdkhbhokab
