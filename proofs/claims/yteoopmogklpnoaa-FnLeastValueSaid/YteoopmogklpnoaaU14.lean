/-
  Whether a type has a value with arguments of known types: the program's closure, the library's functions over it, the program's function. No statement is proved here.
-/
import Derived.Test.YteoopmogklpnoaaU12
import Derived.Test.YteoopmogklpnoaaU13
import Derived.Deep.RegionHeld3
import Derived.Outline
namespace Go.Proofs.Yteoopmogklpnoaa
open Go.RowKit Go.Deep
set_option maxRecDepth 100000
set_option linter.unusedVariables false
theorem mxT_nonneg (F : Ty → Int) (L : List Ty) : ∀ k, 0 ≤ mxT F L k
  | 0 => Int.le_refl _
  | k + 1 => by
    have := mxT_nonneg F L k
    show 0 ≤ max (mxT F L k) _
    omega
theorem dpR_pos (F : Ty → Int) (S : Ty → Prop) (L : List Ty) : decide (0 < dpR F S L) = dec (∀ a ∈ L, S a) := by
  by_cases h : ∀ a ∈ L, S a
  · rw [dec_t h, dpR_yes h]
    have := mxT_nonneg F L L.length
    exact decide_eq_true (by omega)
  · rw [dec_f h, dpR_no h]; rfl
/-- The world, the type and the map, behind three pointers. -/
structure M3 (w : World) (pw pt pm : Nat) (A : Option Addr) (l : List Da) (cap : Nat) (t : Ty) (mb n : Nat) (F : Ty → Int) (S : Ty → Prop) : Prop where
  wp : w.cell? ⟨pw, 0, none⟩ = some (.slice A l.length cap)
  t0 : w.cell? ⟨pt, 0, none⟩ = some (.int .i64 t.data)
  t1 : w.cell? ⟨pt, 1, none⟩ = some (.int .i64 t.index)
  mp : w.cell? ⟨pm, 0, none⟩ = some (.map (some mb))
  map : MapTy w mb n F S
  rd : RDas w w.heap.size A l
theorem M3.at_ {w w' : World} {pw pt pm : Nat} {A : Option Addr} {l : List Da} {cap : Nat} {t : Ty} {mb n : Nat} {F : Ty → Int} {S : Ty → Prop} (h : M3 w pw pt pm A l cap t mb n F S) (hb : Below w.heap.size w w') : M3 w' pw pt pm A l cap t mb n F S :=
  ⟨(hb.cell (p := ⟨pw, 0, none⟩) (Go.block_lt_of_cell h.wp)).trans h.wp, (hb.cell (p := ⟨pt, 0, none⟩) (Go.block_lt_of_cell h.t0)).trans h.t0, (hb.cell (p := ⟨pt, 1, none⟩) (Go.block_lt_of_cell h.t1)).trans h.t1, (hb.cell (p := ⟨pm, 0, none⟩) (Go.block_lt_of_cell h.mp)).trans h.mp, h.map.at_ hb, h.rd.keep (fun p hp => hb.cell hp) hb.size⟩
theorem M3.cells {w : World} {pw pt pm : Nat} {A : Option Addr} {l : List Da} {cap : Nat} {t : Ty} {mb n : Nat} {F : Ty → Int} {S : Ty → Prop} (h : M3 w pw pt pm A l cap t mb n F S) :
    w.cell? ⟨pw, 0, none⟩ = some (.slice A l.length cap) ∧ w.cell? ⟨pt, 0, none⟩ = some (.int .i64 t.data) ∧ w.cell? ⟨pt, 1, none⟩ = some (.int .i64 t.index) ∧ w.cell? ⟨pm, 0, none⟩ = some (.map (some mb)) := ⟨h.wp, h.t0, h.t1, h.mp⟩
theorem agR_max (l : List Da) (t : Ty) (x : Int) : (agR l t x).length ≤ maxLen := by have := agR_len l t x; unfold maxLen; omega
set_option maxHeartbeats 1600000 in
theorem isMade_any (pw pt pm : Nat) (A : Option Addr) (l : List Da) (cap : Nat) (t : Ty) (x : Int) (mb n : Nat) (F : Ty → Int) (S : Ty → Prop) (w : World) (h : M3 w pw pt pm A l cap t mb n F S) (hx : x ∈ ctR l t) (hx4 : ∀ a ∈ agR l t x, a ∈ tysN 4) (hpos : ∀ t ∈ tysN 4, S t → 0 < F t ∧ F t ≤ 5000) :
    Calls Try.prog 141 #[.int .i64 x, .pointer (some ⟨pw, 0, none⟩), .pointer (some ⟨pt, 0, none⟩), .pointer (some ⟨pm, 0, none⟩)] w fun e w' => e = .returned (.bool (dec (∀ a ∈ agR l t x, S a))) ∧ Below w.heap.size w w' := by
  have H := Lib.hid h
  have HX := Lib.hid hx
  have HX4 := Lib.hid hx4
  have HP := Lib.hid hpos
  have HD := Lib.hid (dpR_pos F S (agR l t x))
  have hS : w.cell? ⟨pw, 0, none⟩ = some (.slice A l.length cap) ∧ w.cell? ⟨pt, 0, none⟩ = some (.int .i64 t.data) ∧ w.cell? ⟨pt, 1, none⟩ = some (.int .i64 t.index) ∧ w.cell? ⟨pm, 0, none⟩ = some (.map (some mb)) := ⟨h.wp, h.t0, h.t1, h.mp⟩
  have HSC := Lib.hid hS
  have HBD : Hid (Below w.heap.size w w.drew) := (fun h => ⟨h.os, h.tape, h.output, h.size, h.block⟩) (Below.refl w.heap.size w)
  clear h hx hx4 hpos hS
  go_enter Try.func141, Try.ntmps141
  obtain ⟨s0, s1, s2, s3⟩ := HSC.out
  go_wp2_with fail
  go_region_held3 (fun w' => w'.cell? ⟨pw, 0, none⟩ = some (.slice A l.length cap) ∧ w'.cell? ⟨pt, 0, none⟩ = some (.int .i64 t.data) ∧ w'.cell? ⟨pt, 1, none⟩ = some (.int .i64 t.index) ∧ w'.cell? ⟨pm, 0, none⟩ = some (.map (some mb))) (first | exact HSC.out | exact S1.out | exact S2.out | go_keep) (first | (go_at_call 51; refine (argTypes_all _ l _ t x _ (H.out.at_ HBD.out).rd HX.out).mono ?_; rintro e w2 ⟨v, rfl, ho, hb2⟩; obtain ⟨A2, cap2, rfl, hr2⟩ := ho.form (agR_max l t x); have hbw := HBD.out.trans hb2; have M2 := Lib.hid (H.out.at_ hbw); have S1 := Lib.hid (M2.out.cells); have R2 := Lib.hid hr2; clear ho hr2 hb2) | (go_at_call 96; refine (depA_any _ _ _ _ n F S _ R2.out HX4.out M2.out.map HP.out).mono ?_; rintro e w3 ⟨rfl, hb3⟩; have hbz := hbw.trans (hb3.mono hbw.size); have S2 := Lib.hid ((H.out.at_ hbz).cells); clear hb3))
  go_wp2_with fail
  go_ret
  exact ⟨ret_bool HD.out, hbz⟩
def NoneTo (l : List Da) (t : Ty) (S : Ty → Prop) (j : Nat) : Prop := ∀ i (h : i < (ctR l t).length), i < j → ¬ ∀ a ∈ agR l t (ctR l t)[i], S a
theorem NoneTo.zero (l : List Da) (t : Ty) (S : Ty → Prop) : NoneTo l t S 0 := fun j _ h => absurd h (by omega)
theorem NoneTo.step {l : List Da} {t : Ty} {S : Ty → Prop} {k : Nat} (h : NoneTo l t S k) (hk : k < (ctR l t).length) (e : ¬ ∀ a ∈ agR l t (ctR l t)[k], S a) : NoneTo l t S (k + 1) := by
  intro j hj hjk
  by_cases e' : j = k
  · subst e'; exact e
  · exact h j hj (by omega)
theorem NoneTo.all {l : List Da} {t : Ty} {S : Ty → Prop} {k : Nat} (h : NoneTo l t S k) (hk : (ctR l t).length ≤ k) : ¬ ∃ x ∈ ctR l t, ∀ a ∈ agR l t x, S a := fun ⟨x, hx, ha⟩ => by
  obtain ⟨j, hj, rfl⟩ := List.getElem_of_mem hx
  exact h j hj (by omega) ha
set_option maxHeartbeats 1600000 in
theorem indexM_any (A1 : Option Addr) (cap1 pw pt pm : Nat) (A : Option Addr) (l : List Da) (cap : Nat) (t : Ty) (mb n : Nat) (F : Ty → Int) (S : Ty → Prop) (w : World) (hr : RInts w A1 (ctR l t)) (h : M3 w pw pt pm A l cap t mb n F S) (hx4 : ∀ x ∈ ctR l t, ∀ a ∈ agR l t x, a ∈ tysN 4) (hpos : ∀ t ∈ tysN 4, S t → 0 < F t ∧ F t ≤ 5000) :
    Calls Try.prog 97 #[.slice A1 (ctR l t).length cap1, .func (.func 141) #[] #[.pointer (some ⟨pw, 0, none⟩), .pointer (some ⟨pt, 0, none⟩), .pointer (some ⟨pm, 0, none⟩)]] w fun e w' => ∃ r : Int, e = .returned (.int .i64 r) ∧ decide (0 ≤ r) = dec (∃ x ∈ ctR l t, ∀ a ∈ agR l t x, S a) ∧ Below w.heap.size w w' := by
  have hRl := ctR_len l t
  have Hr := Lib.hid hr
  have H := Lib.hid h
  have HX4 := Lib.hid hx4
  have HP := Lib.hid hpos
  clear hr h hx4 hpos
  go_enter Try.func97, Try.ntmps97
  go_wp2_with fail
  go_loopw [8] (fun i wr => ∃ k : Nat, k ≤ (ctR l t).length ∧ i = .int .i64 k ∧ NoneTo l t S k ∧ Below w.heap.size w wr) (fun i _ => (ctR l t).length - (intOf i).toNat)
  case atStart => exact ⟨0, by omega, rfl, NoneTo.zero _ _ _, Below.refl _ _⟩
  case round =>
    obtain ⟨k, hk, rfl, hno, hb⟩ := hrel
    by_cases hlt : k < (ctR l t).length
    · obtain ⟨b, off, rfl, hbB, c0⟩ := (Hr.out.at_ hb).2 k hlt
      have hkI : (k : Int) < ((ctR l t).length : Int) := by omega
      have HXM : Hid ((ctR l t)[k] ∈ ctR l t) := List.getElem_mem hlt
      have HM := Lib.hid (H.out.at_ hb)
      have HST := Lib.hid (hno.step hlt)
      generalize (ctR l t)[k] = x at HXM c0 HST
      have HIS := Lib.hid (isMade_any pw pt pm A l cap t x mb n F S wr HM.out HXM.out (HX4.out x HXM.out) HP.out)
      by_cases hs : ∀ a ∈ agR l t x, S a
      · have HC := Lib.hid (dec_t hs)
        have HT : Hid (decide (0 ≤ (k : Int)) = dec (∃ x ∈ ctR l t, ∀ a ∈ agR l t x, S a)) := by unfold Hid; rw [dec_t ⟨x, HXM.out, hs⟩]; exact decide_eq_true (by omega)
        clear hs
        go_wp2_with fail
        refine HIS.out.mono ?_
        rw [HC.out]
        rintro e w1 ⟨rfl, hb1⟩
        have hb2 := hb.trans (hb1.mono hb.size)
        go_wp2_with fail
        go_ret
        exact ⟨_, rfl, HT.out, hb2⟩
      · have HC := Lib.hid (dec_f hs)
        have HN := Lib.hid (HST.out hs)
        clear hs
        go_wp2_with fail
        refine HIS.out.mono ?_
        rw [HC.out]
        rintro e w1 ⟨rfl, hb1⟩
        have hb2 := hb.trans (hb1.mono hb.size)
        go_wp2_with fail
        go_roundw
        case rel => exact ⟨k + 1, by omega, by go_num, HN.out, hb2⟩
        case measure => simp [intOf]; omega
    · have HT : Hid (decide (0 ≤ (-1 : Int)) = dec (∃ x ∈ ctR l t, ∀ a ∈ agR l t x, S a)) := by unfold Hid; rw [dec_f (hno.all (by omega))]; rfl
      go_wp2_with fail
      go_ret
      exact ⟨_, rfl, HT.out, hb⟩
theorem containsM_any (A1 : Option Addr) (cap1 pw pt pm : Nat) (A : Option Addr) (l : List Da) (cap : Nat) (t : Ty) (mb n : Nat) (F : Ty → Int) (S : Ty → Prop) (w : World) (hr : RInts w A1 (ctR l t)) (h : M3 w pw pt pm A l cap t mb n F S) (hx4 : ∀ x ∈ ctR l t, ∀ a ∈ agR l t x, a ∈ tysN 4) (hpos : ∀ t ∈ tysN 4, S t → 0 < F t ∧ F t ≤ 5000) :
    Calls Try.prog 142 #[.slice A1 (ctR l t).length cap1, .func (.func 141) #[] #[.pointer (some ⟨pw, 0, none⟩), .pointer (some ⟨pt, 0, none⟩), .pointer (some ⟨pm, 0, none⟩)]] w fun e w' => e = .returned (.bool (dec (∃ x ∈ ctR l t, ∀ a ∈ agR l t x, S a))) ∧ Below w.heap.size w w' := by
  have HI := Lib.hid (indexM_any A1 cap1 pw pt pm A l cap t mb n F S w hr h hx4 hpos)
  clear hr h hx4 hpos
  go_enter Try.func142, Try.ntmps142
  go_wp2_with fail
  refine HI.out.mono ?_
  rintro e w1 ⟨r, rfl, hd, hb⟩
  have HD := Lib.hid hd
  clear hd
  go_wp2_with fail
  go_ret
  exact ⟨ret_bool HD.out, hb⟩
end Go.Proofs.Yteoopmogklpnoaa
/-
  Whether a type has a value with arguments of known types: the program's function. No statement is proved here.
-/
namespace Go.Proofs.Yteoopmogklpnoaa
open Go.RowKit Go.Deep
set_option maxRecDepth 100000
set_option linter.unusedVariables false
theorem ctor_at {l : List Da} {t : Ty} {x : Int} (h : x ∈ ctR l t) : ∃ (d : Nat) (hd : d < l.length) (m : Nat) (hm : m < l[d].ctors.length), t.data = d ∧ x = m ∧ fitsB l[d].ctors[m].index t.index = true ∧ agR l t x = argT l[d].ctors[m] t.index := by
  obtain ⟨ht, d, m, hd, h1, h2, hm⟩ := mem_ctR h
  obtain ⟨td, ti⟩ := t
  simp only at h1
  subst h1
  have h' := h
  rw [ctR_data ht hd] at h'
  obtain ⟨m', hm', h3, h4⟩ := fits_of_mem _ (Nat.le_refl _) h'
  subst h3
  exact ⟨d, hd, m', hm', rfl, rfl, h4, agR_yes h hd hm'⟩
theorem mkF_iff {l : List Da} {S : Ty → Prop} {t : Ty} (hok : TyOK l t) (hd : ¬ t.data = -1) : mkF l S t ↔ ∃ x ∈ ctR l t, ∀ a ∈ agR l t x, S a := by
  constructor
  · rintro (h0 | ⟨d, hdl, m, hm, h1, h2, h3⟩)
    · exact absurd h0 hd
    · obtain ⟨td, ti⟩ := t
      simp only at h1
      subst h1
      have hx : (m : Int) ∈ ctR l ⟨d, ti⟩ := by rw [ctR_data hok hdl]; exact mem_of_fits hm h2 _ hm (Nat.le_refl _)
      exact ⟨m, hx, by rw [agR_yes hx hdl hm]; exact h3⟩
  · rintro ⟨x, hx, h⟩
    obtain ⟨d, hdl, m, hm, h1, h2, h3, h4⟩ := ctor_at hx
    rw [h4] at h
    exact .inr ⟨d, hdl, m, hm, h1, h3, h⟩
theorem tys_mono {n m : Nat} (h : n ≤ m) {t : Ty} (ht : t ∈ tysN n) : t ∈ tysN m := by
  rcases mem_tys.1 ht with h1 | h1
  · exact mem_tys.2 (.inl h1)
  · exact mem_tys.2 (.inr (by omega))
theorem args_tys4 {l : List Da} {t : Ty} (hw : WorldOK l) (ht : t ∈ tysN l.length) : ∀ x ∈ ctR l t, ∀ a ∈ agR l t x, a ∈ tysN 4 := fun x hx a ha => by
  obtain ⟨d, hdl, m, hm, h1, h2, h3, h4⟩ := ctor_at hx
  rw [h4] at ha
  exact tys_mono hw.1 (args_tys hw hdl hm (tys_ix ht).1 (tys_ix ht).2 a ha)
theorem below_after {w wr w' : World} {B : Nat} (h : Below B w wr) (hb : Below wr.heap.size wr w') (hB : B ≤ wr.heap.size) : Below B w w' := h.trans (hb.mono hB)
theorem below_three {w w' : World} {o1 o2 o3 : Obj} (h : Below (((w.alloc o1).alloc o2).alloc o3).heap.size (((w.alloc o1).alloc o2).alloc o3) w') : Below w.heap.size w w' := by
  have h0 : Below w.heap.size w (((w.alloc o1).alloc o2).alloc o3) := (((Below.refl _ _).alloc (Nat.le_refl _) o1).alloc (by simp) o2).alloc (by simp; omega) o3
  exact h0.trans (h.mono h0.size)
theorem hasMade_int (A : Option Addr) (l : List Da) (cap : Nat) (ix : Int) (mb : Nat) (S : Ty → Prop) (w : World) :
    Calls Try.prog 121 #[.slice A l.length cap, .agg #[.int .i64 (-1), .int .i64 ix], .map (some mb)] w fun e w' => e = .returned (.bool (dec (mkF l S ⟨-1, ix⟩))) ∧ Below w.heap.size w w' := by
  have HT : Hid (true = dec (mkF l S ⟨-1, ix⟩)) := (dec_t (.inl rfl)).symm
  have HB : Hid (∀ o1 o2 o3 : Obj, Below w.heap.size w (((w.alloc o1).alloc o2).alloc o3)) := fun o1 o2 o3 => below_three (Below.refl _ _)
  go_enter Try.func121, Try.ntmps121
  go_wp2_with fail
  go_ret
  exact ⟨ret_bool HT.out, HB.out _ _ _⟩
set_option maxHeartbeats 1600000 in
theorem hasMade_data (A : Option Addr) (l : List Da) (cap : Nat) (t : Ty) (mb n : Nat) (F : Ty → Int) (S : Ty → Prop) (w : World) (hr : RDas w w.heap.size A l) (ht : t ∈ tysN l.length) (hw : WorldOK l) (hd : ¬ t.data = -1) (hm : MapTy w mb n F S) (hpos : ∀ t ∈ tysN 4, S t → 0 < F t ∧ F t ≤ 5000) :
    Calls Try.prog 121 #[.slice A l.length cap, .agg #[.int .i64 t.data, .int .i64 t.index], .map (some mb)] w fun e w' => e = .returned (.bool (dec (mkF l S t))) ∧ Below w.heap.size w w' := by
  have hok := tys_ok hw ht
  have HK := Lib.hid hok
  have HF : Hid (dec (∃ x ∈ ctR l t, ∀ a ∈ agR l t x, S a) = dec (mkF l S t)) := by unfold Hid; congr 1; exact (propext (mkF_iff (S := S) hok hd)).symm
  have q := ieq_f hd
  have HA := Lib.hid (args_tys4 hw ht)
  have HP := Lib.hid hpos
  have HM := Lib.hid hm
  have HR := Lib.hid hr
  have hRl := ctR_len l t
  have hW : Below w.heap.size w (((w.alloc (.cells #[.slice A l.length cap] 23)).alloc (.cells #[.int .i64 t.data, .int .i64 t.index] 25)).alloc (.cells #[.map (some mb)] 96)) := below_three (Below.refl _ _)
  have HW : Hid (M3 (((w.alloc (.cells #[.slice A l.length cap] 23)).alloc (.cells #[.int .i64 t.data, .int .i64 t.index] 25)).alloc (.cells #[.map (some mb)] 96)) w.heap.size (w.heap.size + 1) (w.heap.size + 2) A l cap t mb n F S) :=
    ⟨by simp [go_sem], by simp [go_sem], by simp [go_sem], by simp [go_sem], hm.at_ hW, hr.keep (fun p hp => hW.cell hp) hW.size⟩
  have HB := Lib.hid hW
  clear hr hm hpos hd hw ht hok hW
  go_enter Try.func121, Try.ntmps121
  go_wp2_with fail
  refine (ctorsOf_all _ l _ t _ HW.out.rd HK.out).mono ?_
  rintro e w1 ⟨v, rfl, ho, hb'⟩
  obtain ⟨A1, cap1, rfl, hr1, _⟩ := ho.form2 hRl
  have HC := Lib.hid (containsM_any A1 cap1 _ _ _ A l cap t mb n F S w1 hr1 (HW.out.at_ hb') HA.out HP.out)
  have HB1 := Lib.hid (HB.out.trans (hb'.mono HB.out.size))
  clear ho hb' hr1
  go_wp2_with fail
  refine HC.out.mono ?_
  rintro e w2 ⟨rfl, hb2⟩
  have HB2 := Lib.hid (HB1.out.trans (hb2.mono HB1.out.size))
  clear hb2
  go_wp2_with fail
  go_ret
  exact ⟨ret_bool HF.out, HB2.out⟩
theorem hasMade_any (A : Option Addr) (l : List Da) (cap : Nat) (t : Ty) (mb n : Nat) (F : Ty → Int) (S : Ty → Prop) (w : World) (hr : RDas w w.heap.size A l) (ht : t ∈ tysN l.length) (hw : WorldOK l) (hm : MapTy w mb n F S) (hpos : ∀ t ∈ tysN 4, S t → 0 < F t ∧ F t ≤ 5000) :
    Calls Try.prog 121 #[.slice A l.length cap, .agg #[.int .i64 t.data, .int .i64 t.index], .map (some mb)] w fun e w' => e = .returned (.bool (dec (mkF l S t))) ∧ Below w.heap.size w w' := by
  by_cases hd : t.data = -1
  · obtain ⟨td, ti⟩ := t
    simp only at hd
    subst hd
    exact hasMade_int A l cap ti mb S w
  · exact hasMade_data A l cap t mb n F S w hr ht hw hd hm hpos
end Go.Proofs.Yteoopmogklpnoaa
