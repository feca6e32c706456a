/-
  The least depths of all types that have values, in a map: the program's function, the walk. No statement is proved here.
-/
import Derived.Test.YtholdmdkhbhokaaG05
namespace Go.Proofs.Ytholdmdkhbhokaa
open Go.RowKit Go.Maps
set_option maxRecDepth 100000
set_option linter.unusedVariables false

theorem ret_map {b c : Nat} (h : b = c) : Ending.returned (.map (some b)) = .returned (.map (some c)) := by rw [h]
theorem nil_of_len {α : Type} {l : List α} (h : l.length = 0) : l = [] := List.eq_nil_of_length_eq_zero h

set_option maxHeartbeats 3000000 in
theorem leastDepths_any (A : Option Addr) (l : List Da) (cap : Nat) (w : World) (hr : RDas w w.heap.size A l) (hw : WorldOK l) :
    Calls Try.prog 74 #[.slice A l.length cap] w fun e w' => e = .returned (.map (some w.heap.size)) ∧ MapTy w' w.heap.size 400 (ldep l) (Inh l) ∧ Below w.heap.size w w' := by
  have Hr := Lib.hid hr
  have HW := Lib.hid hw
  have hl4 := hw.1
  have HS0 := Lib.hid (opn_zero l)
  have hO0 := tysN_len l.length
  have hM0 : Hid (MapTy (w.alloc (.map #[] 0)) w.heap.size 0 (ldep l) (Mk l 0)) := (MapTy.made w (ldep l)).keep rfl (Nat.le_refl _) (fun t _ => ⟨False.elim, fun h => h.2.elim⟩)
  have HB0 : Hid (∀ o : Obj, Below w.heap.size w (w.alloc o)) := fun o => (Below.refl _ _).alloc (Nat.le_refl _) _
  have hmm := @run_makeMap Try.prog
  clear hr hw
  go_enter Try.func74, Try.ntmps74
  go_wp2_with fail
  refine (typesOf_any _ _ _ _ hl4).mono ?_
  rintro e w1 ⟨v, rfl, ho, hb1⟩
  have hM1 := Lib.hid (hM0.out.at_ hb1)
  have HO1 : Hid (OTys w1 (w.heap.size + 1) v (opn l 0) (opn l 0).length) := by unfold Hid; rw [HS0.out]; simpa using ho
  have HL0 : Hid ((opn l 0).length + 0 ≤ l.length * 4 + 1) := by unfold Hid; rw [HS0.out]; omega
  have hb2 : Below w.heap.size w w1 := (HB0.out _).trans (hb1.mono (by simp))
  clear ho hb1 hM0 hmm hO0
  go_wp2_with fail
  go_loopw [4, 5] (fun v d wr => ∃ k : Nat, d = .int .i64 ((k : Int) + 1) ∧ lenV v = (opn l k).length ∧ OTys wr (w.heap.size + 1) v (opn l k) (opn l k).length ∧ (opn l k).length + k ≤ l.length * 4 + 1 ∧ MapTy wr w.heap.size (17 * k) (ldep l) (Mk l k) ∧ Below w.heap.size w wr) (fun v _ _ => lenV v)
  case atStart =>
    obtain ⟨A1, cap1, hv, _⟩ := HO1.out.form (by have := opn_le l hl4 0; unfold maxLen; omega)
    exact ⟨0, rfl, by rw [hv]; rfl, HO1.out, HL0.out, hM1.out, hb2⟩
  case round =>
    clear HO1 HL0 hM1 hb2 HB0 HS0
    obtain ⟨k, rfl, hlen, ho, hle, hm, hb⟩ := hrel
    have hol := opn_le l hl4 k
    obtain ⟨A1, cap1, rfl, hr1⟩ := ho.form (by unfold maxLen; omega)
    have HR1 := Lib.hid hr1
    have HO := Lib.hid ho
    have HM := Lib.hid hm
    have HLE := Lib.hid hle
    have hk17 : k ≤ 17 := by omega
    have HRr : Hid (RDas wr wr.heap.size A l) := (Hr.out.below hb (Nat.le_refl _)).keep (fun _ _ => rfl) hb.size
    have hlt0 := hm.lt
    have hnl := new_le l hl4 k
    have HNL := Lib.hid (new_len HW.out k)
    have hlen2 := hlen
    clear hr1 ho hm hle hlen
    go_wp2_with fail
    refine (splitMade_any _ _ _ _ _ _ _ _ _ _ _ HRr.out HR1.out (fun t ht => (mem_opn.1 ht).1) HW.out HM.out (mk_pos hk17) hol).mono ?_
    rw [opn_next HW.out k]
    rintro e w2 ⟨v1, v2, rfl, ho1, ho2, hb2'⟩
    have hb2 : Below w.heap.size w w2 := below_after hb hb2' hb.size
    have ho1' : OTys w2 wr.heap.size v1 (new l k) (new l k).length := ho1
    have HM2 := Lib.hid (HM.out.at_ hb2')
    have HO2 := Lib.hid ho2
    have HO1 := Lib.hid ho1'
    have hs2 := hb2'.size
    clear ho1 ho1' ho2 hb2' HM HO HRr HR1
    obtain ⟨A3, cap3, rfl, hr3⟩ := HO1.out.form (by unfold maxLen; omega)
    obtain ⟨A4, cap4, rfl, hr4⟩ := HO2.out.form (by have := opn_le l hl4 (k + 1); unfold maxLen; omega)
    clear hr3 hr4
    by_cases hz : (new l k).length = 0
    · have HF : Hid (MapTy w2 w.heap.size 400 (ldep l) (Inh l)) := HM2.out.keep rfl (by omega) (fun t _ => mk_all HW.out (nil_of_len hz) t)
      have q : (((new l k).length : Int) == 0) = true := by rw [hz]; rfl
      clear hz
      go_wp2_with fail
      go_ret
      exact ⟨rfl, HF.out, hb2⟩
    · have q : (((new l k).length : Int) == 0) = false := beq_eq_false_iff_ne.2 (by omega)
      go_wp2_with fail
      obtain ⟨wo, rfl⟩ : ∃ wo : World, wo = wr := ⟨_, rfl⟩
      go_loopw [28] (fun i wi => ∃ j : Nat, j ≤ (new l k).length ∧ i = .int .i64 j ∧ MapTy wi w.heap.size (17 * k + j) (ldep l) (Mk' l k j) ∧ KeepBut w2 wi w.heap.size ∧ Below w.heap.size w wi) (fun i _ => (new l k).length - (intOf i).toNat)
      case atStart => exact ⟨0, by omega, rfl, HM2.out.keep rfl (Nat.le_refl _) (fun t _ => mk'_zero l k t), KeepBut.refl _ _, hb2⟩
      case round =>
        clear HM2 hb2
        obtain ⟨j, hj, rfl, hm, hkb, hbi⟩ := hrel
        by_cases hjt : j < (new l k).length
        · have hjI : (j : Int) < ((new l k).length : Int) := by omega
          obtain ⟨A5, cap5, e5, hr5⟩ := (HO1.out.but hkb hlt0).form (by unfold maxLen; omega)
          injection e5 with e5a e5b e5c
          subst e5a e5c
          obtain ⟨b, off, e6, hbB, c0, c1⟩ := hr5.2 j hjt
          subst e6
          have HDP := Lib.hid (new_dep HW.out (List.getElem_mem hjt))
          have HT : Hid ((new l k)[j] ∈ tysN 4) := tys_mono hl4 ((mem_new HW.out).1 (List.getElem_mem hjt)).1
          have HST := Lib.hid (mk'_step (l := l) (k := k) hjt)
          obtain ⟨D, hod, hmD, hat⟩ := hm
          have HOD := Lib.hid hod
          have HAT := Lib.hid hat
          have HMD := Lib.hid hmD
          have hKey := Lib.hid (key_of' HT.out)
          have hNm : 17 * k + j < maxLen := by unfold maxLen; omega
          have hsi := hbi.size
          clear hod hat hmD hr5
          go_wp2_with (at_mapUpdate; refine wpList_mapUpdate_own _ rfl _ _ _ 112 rfl 33 3 keyT Try.underlying112 (plainElem Try.prog 3) w.heap.size (17 * k + j) D rfl (HOD.out.alloc _) hNm _ _ (keyL (new l k)[j]) rfl rfl hKey.out (.lit (.int .i64 ((k : Int) + 1))) [] (plainElem_int Try.underlying3 (int_wf (by omega))) ?_; intro w3 ho3 hg3)
          have hb3 : Below w.heap.size w w3 := (hbi.alloc (by omega) _).grown hg3 (by simp; omega) (fun g e => by injection e with e; omega)
          have hkb3 : KeepBut w2 w3 w.heap.size := (hkb.alloc _).grown hg3
          have HM3 : Hid (MapTy w3 w.heap.size (17 * k + (j + 1)) (ldep l) (Mk' l k (j + 1))) := by
            rw [HDP.out] at ho3
            exact (MapTy.put HT.out ho3 HMD.out HAT.out).keep rfl (by omega) (fun t _ => HST.out t)
          clear ho3 hg3 hkb c0 c1 HDP HT HST HOD HAT HMD hKey
          go_wp2_with fail
          go_roundw
          case rel => exact ⟨j + 1, by omega, by go_num, HM3.out, hkb3, hb3⟩
          case measure => simp [intOf]; omega
        · have hje : j = (new l k).length := by omega
          have hjI : ((new l k).length : Int) ≤ (j : Int) := by omega
          have HM3 : Hid (MapTy wr w.heap.size (17 * (k + 1)) (ldep l) (Mk l (k + 1))) := hm.keep rfl (by omega) (fun t _ => by rw [hje]; exact mk'_all HW.out t)
          have HO3 : Hid (OTys wr (w.heap.size + 1) (.slice A4 (opn l (k + 1)).length cap4) (opn l (k + 1)) (opn l (k + 1)).length) := (HO2.out.but hkb hlt0).lower (by omega)
          have HL3 : Hid ((opn l (k + 1)).length + (k + 1) ≤ l.length * 4 + 1) := by have := HNL.out; have := HLE.out; unfold Hid; omega
          have hdec : (opn l (k + 1)).length < (opn l k).length := by have := HNL.out; omega
          clear hm hje
          go_wp2_with fail
          go_roundw
          case rel => exact ⟨k + 1, by go_num, rfl, HO3.out, HL3.out, HM3.out, hbi⟩
          case measure => simp [lenV]; omega
end Go.Proofs.Ytholdmdkhbhokaa
