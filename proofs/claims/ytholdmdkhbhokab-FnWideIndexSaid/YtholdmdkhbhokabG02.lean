/-
  Whether a type has a value with arguments of known types: the program's closure, the library's functions over it, the program's function. No statement is proved here.
-/
import Derived.Test.YtholdmdkhbhokabG01
import Derived.Test.YtholdmdkhbhokabG00
import Derived.Deep.RegionHeld3
import Derived.Outline
import Derived.Maps.AppendAt
import Derived.Deep.AppendLies
import Derived.Deep.RegionLaw
import Derived.Lib.SmallJoins
import Derived.Deep.RegionWith
import Derived.OrdersHeld
namespace Go.Proofs.Ytholdmdkhbhokab
open Go.RowKit Go.Deep
set_option maxRecDepth 100000
set_option linter.unusedVariables false

theorem mxT_nonneg (F : Ty → Int) (L : List Ty) : ∀ k, 0 ≤ mxT F L k
  | 0 => Int.le_refl _
  | k + 1 => by
    have := mxT_nonneg F L k
    show 0 ≤ max (mxT F L k) _
    omega
theorem dpR_pos (F : Ty → Int) (S : Ty → Prop) (L : List Ty) : decide (0 < dpR F S L) = dec (∀ a ∈ L, S a) := by
  by_cases h : ∀ a ∈ L, S a
  · rw [dec_t h, dpR_yes h]
    have := mxT_nonneg F L L.length
    exact decide_eq_true (by omega)
  · rw [dec_f h, dpR_no h]; rfl

/-- The world, the type and the map, behind three pointers. -/
structure M3 (w : World) (pw pt pm : Nat) (A : Option Addr) (l : List Da) (cap : Nat) (t : Ty) (mb n : Nat) (F : Ty → Int) (S : Ty → Prop) : Prop where
  wp : w.cell? ⟨pw, 0, none⟩ = some (.slice A l.length cap)
  t0 : w.cell? ⟨pt, 0, none⟩ = some (.int .i64 t.data)
  t1 : w.cell? ⟨pt, 1, none⟩ = some (.int .i64 t.index)
  mp : w.cell? ⟨pm, 0, none⟩ = some (.map (some mb))
  map : MapTy w mb n F S
  rd : RDas w w.heap.size A l
theorem M3.at_ {w w' : World} {pw pt pm : Nat} {A : Option Addr} {l : List Da} {cap : Nat} {t : Ty} {mb n : Nat} {F : Ty → Int} {S : Ty → Prop} (h : M3 w pw pt pm A l cap t mb n F S) (hb : Below w.heap.size w w') : M3 w' pw pt pm A l cap t mb n F S :=
  ⟨(hb.cell (p := ⟨pw, 0, none⟩) (Go.block_lt_of_cell h.wp)).trans h.wp, (hb.cell (p := ⟨pt, 0, none⟩) (Go.block_lt_of_cell h.t0)).trans h.t0, (hb.cell (p := ⟨pt, 1, none⟩) (Go.block_lt_of_cell h.t1)).trans h.t1, (hb.cell (p := ⟨pm, 0, none⟩) (Go.block_lt_of_cell h.mp)).trans h.mp, h.map.at_ hb, h.rd.keep (fun p hp => hb.cell hp) hb.size⟩
theorem M3.cells {w : World} {pw pt pm : Nat} {A : Option Addr} {l : List Da} {cap : Nat} {t : Ty} {mb n : Nat} {F : Ty → Int} {S : Ty → Prop} (h : M3 w pw pt pm A l cap t mb n F S) :
    w.cell? ⟨pw, 0, none⟩ = some (.slice A l.length cap) ∧ w.cell? ⟨pt, 0, none⟩ = some (.int .i64 t.data) ∧ w.cell? ⟨pt, 1, none⟩ = some (.int .i64 t.index) ∧ w.cell? ⟨pm, 0, none⟩ = some (.map (some mb)) := ⟨h.wp, h.t0, h.t1, h.mp⟩
theorem agR_max (l : List Da) (t : Ty) (x : Int) : (agR l t x).length ≤ maxLen := by have := agR_len l t x; unfold maxLen; omega

set_option maxHeartbeats 1600000 in
theorem isMade_any (pw pt pm : Nat) (A : Option Addr) (l : List Da) (cap : Nat) (t : Ty) (x : Int) (mb n : Nat) (F : Ty → Int) (S : Ty → Prop) (w : World) (h : M3 w pw pt pm A l cap t mb n F S) (hx : x ∈ ctR l t) (hx4 : ∀ a ∈ agR l t x, a ∈ tysN 4) (hpos : ∀ t ∈ tysN 4, S t → 0 < F t ∧ F t ≤ 5000) :
    Calls Try.prog 110 #[.int .i64 x, .pointer (some ⟨pw, 0, none⟩), .pointer (some ⟨pt, 0, none⟩), .pointer (some ⟨pm, 0, none⟩)] w fun e w' => e = .returned (.bool (dec (∀ a ∈ agR l t x, S a))) ∧ Below w.heap.size w w' := by
  have H := Lib.hid h
  have HX := Lib.hid hx
  have HX4 := Lib.hid hx4
  have HP := Lib.hid hpos
  have HD := Lib.hid (dpR_pos F S (agR l t x))
  have hS : w.cell? ⟨pw, 0, none⟩ = some (.slice A l.length cap) ∧ w.cell? ⟨pt, 0, none⟩ = some (.int .i64 t.data) ∧ w.cell? ⟨pt, 1, none⟩ = some (.int .i64 t.index) ∧ w.cell? ⟨pm, 0, none⟩ = some (.map (some mb)) := ⟨h.wp, h.t0, h.t1, h.mp⟩
  have HSC := Lib.hid hS
  have HBD : Hid (Below w.heap.size w w.drew) := (fun h => ⟨h.os, h.tape, h.output, h.size, h.block⟩) (Below.refl w.heap.size w)
  clear h hx hx4 hpos hS
  go_enter Try.func110, Try.ntmps110
  obtain ⟨s0, s1, s2, s3⟩ := HSC.out
  go_wp2_with fail
  go_region_held3 (fun w' => w'.cell? ⟨pw, 0, none⟩ = some (.slice A l.length cap) ∧ w'.cell? ⟨pt, 0, none⟩ = some (.int .i64 t.data) ∧ w'.cell? ⟨pt, 1, none⟩ = some (.int .i64 t.index) ∧ w'.cell? ⟨pm, 0, none⟩ = some (.map (some mb))) (first | exact HSC.out | exact S1.out | exact S2.out | go_keep) (first | (go_at_call 49; refine (argTypes_all _ l _ t x _ (H.out.at_ HBD.out).rd HX.out).mono ?_; rintro e w2 ⟨v, rfl, ho, hb2⟩; obtain ⟨A2, cap2, rfl, hr2⟩ := ho.form (agR_max l t x); have hbw := HBD.out.trans hb2; have M2 := Lib.hid (H.out.at_ hbw); have S1 := Lib.hid (M2.out.cells); have R2 := Lib.hid hr2; clear ho hr2 hb2) | (go_at_call 111; refine (depA_any _ _ _ _ n F S _ R2.out HX4.out M2.out.map HP.out).mono ?_; rintro e w3 ⟨rfl, hb3⟩; have hbz := hbw.trans (hb3.mono hbw.size); have S2 := Lib.hid ((H.out.at_ hbz).cells); clear hb3))
  go_wp2_with fail
  go_ret
  exact ⟨ret_bool HD.out, hbz⟩

def NoneTo (l : List Da) (t : Ty) (S : Ty → Prop) (j : Nat) : Prop := ∀ i (h : i < (ctR l t).length), i < j → ¬ ∀ a ∈ agR l t (ctR l t)[i], S a
theorem NoneTo.zero (l : List Da) (t : Ty) (S : Ty → Prop) : NoneTo l t S 0 := fun j _ h => absurd h (by omega)
theorem NoneTo.step {l : List Da} {t : Ty} {S : Ty → Prop} {k : Nat} (h : NoneTo l t S k) (hk : k < (ctR l t).length) (e : ¬ ∀ a ∈ agR l t (ctR l t)[k], S a) : NoneTo l t S (k + 1) := by
  intro j hj hjk
  by_cases e' : j = k
  · subst e'; exact e
  · exact h j hj (by omega)
theorem NoneTo.all {l : List Da} {t : Ty} {S : Ty → Prop} {k : Nat} (h : NoneTo l t S k) (hk : (ctR l t).length ≤ k) : ¬ ∃ x ∈ ctR l t, ∀ a ∈ agR l t x, S a := fun ⟨x, hx, ha⟩ => by
  obtain ⟨j, hj, rfl⟩ := List.getElem_of_mem hx
  exact h j hj (by omega) ha

set_option maxHeartbeats 1600000 in
theorem indexM_any (A1 : Option Addr) (cap1 pw pt pm : Nat) (A : Option Addr) (l : List Da) (cap : Nat) (t : Ty) (mb n : Nat) (F : Ty → Int) (S : Ty → Prop) (w : World) (hr : RInts w A1 (ctR l t)) (h : M3 w pw pt pm A l cap t mb n F S) (hx4 : ∀ x ∈ ctR l t, ∀ a ∈ agR l t x, a ∈ tysN 4) (hpos : ∀ t ∈ tysN 4, S t → 0 < F t ∧ F t ≤ 5000) :
    Calls Try.prog 129 #[.slice A1 (ctR l t).length cap1, .func (.func 110) #[] #[.pointer (some ⟨pw, 0, none⟩), .pointer (some ⟨pt, 0, none⟩), .pointer (some ⟨pm, 0, none⟩)]] w fun e w' => ∃ r : Int, e = .returned (.int .i64 r) ∧ decide (0 ≤ r) = dec (∃ x ∈ ctR l t, ∀ a ∈ agR l t x, S a) ∧ Below w.heap.size w w' := by
  have hRl := ctR_len l t
  have Hr := Lib.hid hr
  have H := Lib.hid h
  have HX4 := Lib.hid hx4
  have HP := Lib.hid hpos
  clear hr h hx4 hpos
  go_enter Try.func129, Try.ntmps129
  go_wp2_with fail
  go_loopw [8] (fun i wr => ∃ k : Nat, k ≤ (ctR l t).length ∧ i = .int .i64 k ∧ NoneTo l t S k ∧ Below w.heap.size w wr) (fun i _ => (ctR l t).length - (intOf i).toNat)
  case atStart => exact ⟨0, by omega, rfl, NoneTo.zero _ _ _, Below.refl _ _⟩
  case round =>
    obtain ⟨k, hk, rfl, hno, hb⟩ := hrel
    by_cases hlt : k < (ctR l t).length
    · obtain ⟨b, off, rfl, hbB, c0⟩ := (Hr.out.at_ hb).2 k hlt
      have hkI : (k : Int) < ((ctR l t).length : Int) := by omega
      have HXM : Hid ((ctR l t)[k] ∈ ctR l t) := List.getElem_mem hlt
      have HM := Lib.hid (H.out.at_ hb)
      have HST := Lib.hid (hno.step hlt)
      generalize (ctR l t)[k] = x at HXM c0 HST
      have HIS := Lib.hid (isMade_any pw pt pm A l cap t x mb n F S wr HM.out HXM.out (HX4.out x HXM.out) HP.out)
      by_cases hs : ∀ a ∈ agR l t x, S a
      · have HC := Lib.hid (dec_t hs)
        have HT : Hid (decide (0 ≤ (k : Int)) = dec (∃ x ∈ ctR l t, ∀ a ∈ agR l t x, S a)) := by unfold Hid; rw [dec_t ⟨x, HXM.out, hs⟩]; exact decide_eq_true (by omega)
        clear hs
        go_wp2_with fail
        refine HIS.out.mono ?_
        rw [HC.out]
        rintro e w1 ⟨rfl, hb1⟩
        have hb2 := hb.trans (hb1.mono hb.size)
        go_wp2_with fail
        go_ret
        exact ⟨_, rfl, HT.out, hb2⟩
      · have HC := Lib.hid (dec_f hs)
        have HN := Lib.hid (HST.out hs)
        clear hs
        go_wp2_with fail
        refine HIS.out.mono ?_
        rw [HC.out]
        rintro e w1 ⟨rfl, hb1⟩
        have hb2 := hb.trans (hb1.mono hb.size)
        go_wp2_with fail
        go_roundw
        case rel => exact ⟨k + 1, by omega, by go_num, HN.out, hb2⟩
        case measure => simp [intOf]; omega
    · have HT : Hid (decide (0 ≤ (-1 : Int)) = dec (∃ x ∈ ctR l t, ∀ a ∈ agR l t x, S a)) := by unfold Hid; rw [dec_f (hno.all (by omega))]; rfl
      go_wp2_with fail
      go_ret
      exact ⟨_, rfl, HT.out, hb⟩

theorem containsM_any (A1 : Option Addr) (cap1 pw pt pm : Nat) (A : Option Addr) (l : List Da) (cap : Nat) (t : Ty) (mb n : Nat) (F : Ty → Int) (S : Ty → Prop) (w : World) (hr : RInts w A1 (ctR l t)) (h : M3 w pw pt pm A l cap t mb n F S) (hx4 : ∀ x ∈ ctR l t, ∀ a ∈ agR l t x, a ∈ tysN 4) (hpos : ∀ t ∈ tysN 4, S t → 0 < F t ∧ F t ≤ 5000) :
    Calls Try.prog 112 #[.slice A1 (ctR l t).length cap1, .func (.func 110) #[] #[.pointer (some ⟨pw, 0, none⟩), .pointer (some ⟨pt, 0, none⟩), .pointer (some ⟨pm, 0, none⟩)]] w fun e w' => e = .returned (.bool (dec (∃ x ∈ ctR l t, ∀ a ∈ agR l t x, S a))) ∧ Below w.heap.size w w' := by
  have HI := Lib.hid (indexM_any A1 cap1 pw pt pm A l cap t mb n F S w hr h hx4 hpos)
  clear hr h hx4 hpos
  go_enter Try.func112, Try.ntmps112
  go_wp2_with fail
  refine HI.out.mono ?_
  rintro e w1 ⟨r, rfl, hd, hb⟩
  have HD := Lib.hid hd
  clear hd
  go_wp2_with fail
  go_ret
  exact ⟨ret_bool HD.out, hb⟩
end Go.Proofs.Ytholdmdkhbhokab
/-
  Whether a type has a value with arguments of known types: the program's function. No statement is proved here.
-/
namespace Go.Proofs.Ytholdmdkhbhokab
open Go.RowKit Go.Deep
set_option maxRecDepth 100000
set_option linter.unusedVariables false

theorem ctor_at {l : List Da} {t : Ty} {x : Int} (h : x ∈ ctR l t) : ∃ (d : Nat) (hd : d < l.length) (m : Nat) (hm : m < l[d].ctors.length), t.data = d ∧ x = m ∧ fitsB l[d].ctors[m].index t.index = true ∧ agR l t x = argT l[d].ctors[m] t.index := by
  obtain ⟨ht, d, m, hd, h1, h2, hm⟩ := mem_ctR h
  obtain ⟨td, ti⟩ := t
  simp only at h1
  subst h1
  have h' := h
  rw [ctR_data ht hd] at h'
  obtain ⟨m', hm', h3, h4⟩ := fits_of_mem _ (Nat.le_refl _) h'
  subst h3
  exact ⟨d, hd, m', hm', rfl, rfl, h4, agR_yes h hd hm'⟩
theorem mkF_iff {l : List Da} {S : Ty → Prop} {t : Ty} (hok : TyOK l t) (hd : ¬ t.data = -1) : mkF l S t ↔ ∃ x ∈ ctR l t, ∀ a ∈ agR l t x, S a := by
  constructor
  · rintro (h0 | ⟨d, hdl, m, hm, h1, h2, h3⟩)
    · exact absurd h0 hd
    · obtain ⟨td, ti⟩ := t
      simp only at h1
      subst h1
      have hx : (m : Int) ∈ ctR l ⟨d, ti⟩ := by rw [ctR_data hok hdl]; exact mem_of_fits hm h2 _ hm (Nat.le_refl _)
      exact ⟨m, hx, by rw [agR_yes hx hdl hm]; exact h3⟩
  · rintro ⟨x, hx, h⟩
    obtain ⟨d, hdl, m, hm, h1, h2, h3, h4⟩ := ctor_at hx
    rw [h4] at h
    exact .inr ⟨d, hdl, m, hm, h1, h3, h⟩
theorem tys_mono {n m : Nat} (h : n ≤ m) {t : Ty} (ht : t ∈ tysN n) : t ∈ tysN m := by
  rcases mem_tys.1 ht with h1 | h1
  · exact mem_tys.2 (.inl h1)
  · exact mem_tys.2 (.inr (by omega))
theorem args_tys4 {l : List Da} {t : Ty} (hw : WorldOK l) (ht : t ∈ tysN l.length) : ∀ x ∈ ctR l t, ∀ a ∈ agR l t x, a ∈ tysN 4 := fun x hx a ha => by
  obtain ⟨d, hdl, m, hm, h1, h2, h3, h4⟩ := ctor_at hx
  rw [h4] at ha
  exact tys_mono hw.1 (args_tys hw hdl hm (tys_ix ht).1 (tys_ix ht).2 a ha)


theorem below_after {w wr w' : World} {B : Nat} (h : Below B w wr) (hb : Below wr.heap.size wr w') (hB : B ≤ wr.heap.size) : Below B w w' := h.trans (hb.mono hB)
theorem below_three {w w' : World} {o1 o2 o3 : Obj} (h : Below (((w.alloc o1).alloc o2).alloc o3).heap.size (((w.alloc o1).alloc o2).alloc o3) w') : Below w.heap.size w w' := by
  have h0 : Below w.heap.size w (((w.alloc o1).alloc o2).alloc o3) := (((Below.refl _ _).alloc (Nat.le_refl _) o1).alloc (by simp) o2).alloc (by simp; omega) o3
  exact h0.trans (h.mono h0.size)

theorem hasMade_int (A : Option Addr) (l : List Da) (cap : Nat) (ix : Int) (mb : Nat) (S : Ty → Prop) (w : World) :
    Calls Try.prog 96 #[.slice A l.length cap, .agg #[.int .i64 (-1), .int .i64 ix], .map (some mb)] w fun e w' => e = .returned (.bool (dec (mkF l S ⟨-1, ix⟩))) ∧ Below w.heap.size w w' := by
  have HT : Hid (true = dec (mkF l S ⟨-1, ix⟩)) := (dec_t (.inl rfl)).symm
  have HB : Hid (∀ o1 o2 o3 : Obj, Below w.heap.size w (((w.alloc o1).alloc o2).alloc o3)) := fun o1 o2 o3 => below_three (Below.refl _ _)
  go_enter Try.func96, Try.ntmps96
  go_wp2_with fail
  go_ret
  exact ⟨ret_bool HT.out, HB.out _ _ _⟩

set_option maxHeartbeats 1600000 in
theorem hasMade_data (A : Option Addr) (l : List Da) (cap : Nat) (t : Ty) (mb n : Nat) (F : Ty → Int) (S : Ty → Prop) (w : World) (hr : RDas w w.heap.size A l) (ht : t ∈ tysN l.length) (hw : WorldOK l) (hd : ¬ t.data = -1) (hm : MapTy w mb n F S) (hpos : ∀ t ∈ tysN 4, S t → 0 < F t ∧ F t ≤ 5000) :
    Calls Try.prog 96 #[.slice A l.length cap, .agg #[.int .i64 t.data, .int .i64 t.index], .map (some mb)] w fun e w' => e = .returned (.bool (dec (mkF l S t))) ∧ Below w.heap.size w w' := by
  have hok := tys_ok hw ht
  have HK := Lib.hid hok
  have HF : Hid (dec (∃ x ∈ ctR l t, ∀ a ∈ agR l t x, S a) = dec (mkF l S t)) := by unfold Hid; congr 1; exact (propext (mkF_iff (S := S) hok hd)).symm
  have q := ieq_f hd
  have HA := Lib.hid (args_tys4 hw ht)
  have HP := Lib.hid hpos
  have HM := Lib.hid hm
  have HR := Lib.hid hr
  have hRl := ctR_len l t
  have hW : Below w.heap.size w (((w.alloc (.cells #[.slice A l.length cap] 23)).alloc (.cells #[.int .i64 t.data, .int .i64 t.index] 33)).alloc (.cells #[.map (some mb)] 73)) := below_three (Below.refl _ _)
  have HW : Hid (M3 (((w.alloc (.cells #[.slice A l.length cap] 23)).alloc (.cells #[.int .i64 t.data, .int .i64 t.index] 33)).alloc (.cells #[.map (some mb)] 73)) w.heap.size (w.heap.size + 1) (w.heap.size + 2) A l cap t mb n F S) :=
    ⟨by simp [go_sem], by simp [go_sem], by simp [go_sem], by simp [go_sem], hm.at_ hW, hr.keep (fun p hp => hW.cell hp) hW.size⟩
  have HB := Lib.hid hW
  clear hr hm hpos hd hw ht hok hW
  go_enter Try.func96, Try.ntmps96
  go_wp2_with fail
  refine (ctorsOf_all _ l _ t _ HW.out.rd HK.out).mono ?_
  rintro e w1 ⟨v, rfl, ho, hb'⟩
  obtain ⟨A1, cap1, rfl, hr1, _⟩ := ho.form2 hRl
  have HC := Lib.hid (containsM_any A1 cap1 _ _ _ A l cap t mb n F S w1 hr1 (HW.out.at_ hb') HA.out HP.out)
  have HB1 := Lib.hid (HB.out.trans (hb'.mono HB.out.size))
  clear ho hb' hr1
  go_wp2_with fail
  refine HC.out.mono ?_
  rintro e w2 ⟨rfl, hb2⟩
  have HB2 := Lib.hid (HB1.out.trans (hb2.mono HB1.out.size))
  clear hb2
  go_wp2_with fail
  go_ret
  exact ⟨ret_bool HF.out, HB2.out⟩

theorem hasMade_any (A : Option Addr) (l : List Da) (cap : Nat) (t : Ty) (mb n : Nat) (F : Ty → Int) (S : Ty → Prop) (w : World) (hr : RDas w w.heap.size A l) (ht : t ∈ tysN l.length) (hw : WorldOK l) (hm : MapTy w mb n F S) (hpos : ∀ t ∈ tysN 4, S t → 0 < F t ∧ F t ≤ 5000) :
    Calls Try.prog 96 #[.slice A l.length cap, .agg #[.int .i64 t.data, .int .i64 t.index], .map (some mb)] w fun e w' => e = .returned (.bool (dec (mkF l S t))) ∧ Below w.heap.size w w' := by
  by_cases hd : t.data = -1
  · obtain ⟨td, ti⟩ := t
    simp only at hd
    subst hd
    exact hasMade_int A l cap ti mb S w
  · exact hasMade_data A l cap t mb n F S w hr ht hw hd hm hpos
end Go.Proofs.Ytholdmdkhbhokab
/-
  The types of a world in a row; the types that have a value with arguments of known types, and the others, in two rows. No statement is proved here.
-/
namespace Go.Proofs.Ytholdmdkhbhokab
open Go.RowKit
set_option maxRecDepth 100000
set_option linter.unusedVariables false

theorem types_at {n k i : Nat} (hi : i < 4) (h : k * 4 + 1 + i < (tysN n).length) : (tysN n)[k * 4 + 1 + i] = ⟨k, i⟩ := by
  have e : (tysN n)[k * 4 + 1 + i]? = some (tyAt (k * 4 + i)) := by
    rw [show k * 4 + 1 + i = (k * 4 + i) + 1 by omega]
    unfold tysN
    rw [List.getElem?_cons_succ, List.getElem?_map]
    rw [tysN_len] at h
    rw [List.getElem?_range (by omega)]
    rfl
  rw [List.getElem?_eq_getElem h] at e
  injection e with e
  rw [e]
  unfold tyAt
  congr 1 <;> omega

theorem OTys.snoc {w w1 : World} {lo : Nat} {v v' : Value} {l : List Ty} {k : Nat} {xs : List Value} {d i : Int} (hx : TyRow l xs k) (hk : k < l.length) (hxl : xs.length = k * 2) (ho : w1.ownsRow lo 33 2 v' (k + 1) (xs ++ [.int .i64 d, .int .i64 i])) (e : l[k] = ⟨d, i⟩) : OTys w1 lo v' l (k + 1) := by
  have := hx.snoc hk hxl
  rw [e] at this
  exact ⟨_, ho, this⟩

set_option maxHeartbeats 800000 in
theorem typesOf_any (A : Option Addr) (n cap : Nat) (w : World) (hn : n ≤ 4) :
    Calls Try.prog 80 #[.slice A n cap] w fun e w' => ∃ v, e = .returned v ∧ OTys w' w.heap.size v (tysN n) (tysN n).length ∧ Below w.heap.size w w' := by
  obtain ⟨i0, hi, hz0, hz1, hz2⟩ := info_parts info34
  have hL := tysN_len n
  have HL := Lib.hid hL
  have HE : Hid (∀ (k i : Nat) (hi : i < 4) (h : k * 4 + 1 + i < (tysN n).length), (tysN n)[k * 4 + 1 + i] = ⟨k, i⟩) := fun k i hi h => types_at hi h
  clear hL
  have HO0 : Hid (OTys (w.alloc (.cells #[.int .i64 (-1), .int .i64 0] 33)) w.heap.size (.slice (some ⟨w.heap.size, 0, none⟩) 1 1) (tysN n) 1) := by
    refine ⟨[.int .i64 (-1), .int .i64 0], ?_, ?_⟩
    · have := World.ownsRow_lit (base := w.heap.size) (e := 33) (size := 2) w #[.int .i64 (-1), .int .i64 0] 1 (Nat.le_refl _) (by unfold maxLen; omega) rfl
      simpa using this
    · intro j hj hj1
      have : j = 0 := by omega
      subst this
      exact ⟨rfl, rfl⟩
  have HB0 : Hid (∀ o : Obj, Below w.heap.size w (w.alloc o)) := fun o => (Below.refl _ _).alloc (Nat.le_refl _) _
  go_enter Try.func80, Try.ntmps80
  go_wp2_with fail
  go_loopw [3, 10] (fun v i wr => ∃ k : Nat, k ≤ n ∧ i = .int .i64 k ∧ OTys wr w.heap.size v (tysN n) (k * 4 + 1) ∧ Below w.heap.size w wr) (fun _ i _ => n - (intOf i).toNat)
  case atStart => exact ⟨0, by omega, rfl, HO0.out, HB0.out _⟩
  case round =>
    clear HO0 HB0
    obtain ⟨k, hk, rfl, ho, hb⟩ := hrel
    by_cases hlt : k < n
    · have HO := Lib.hid ho
      clear ho
      go_wp2_with fail
      go_loopw [3, 5] (fun v i wr => ∃ j : Nat, j ≤ 4 ∧ i = .int .i64 j ∧ OTys wr w.heap.size v (tysN n) (k * 4 + 1 + j) ∧ Below w.heap.size w wr) (fun _ i _ => 4 - (intOf i).toNat)
      case atStart => exact ⟨0, by omega, rfl, HO.out, hb⟩
      case round =>
        clear HO hb
        obtain ⟨j, hj, rfl, ⟨xs, ho, hx⟩, hb⟩ := hrel
        have hsz := hb.size
        by_cases hjt : j < 4
        · have hjI : (j : Int) ≤ 3 := by omega
          have hkl : k * 4 + 1 + j < n * 4 + 1 := by omega
          have HO := Lib.hid ho
          have HX := Lib.hid hx
          clear ho hx
          go_wp2_with (at_builtin; refine wpList_append_own _ rfl _ _ 29 rfl w.heap.size 33 i0 (.agg #[.int .i64 0, .int .i64 0]) 2 16 Try.underlying29 hi hz0 hz1 hz2 rfl (by decide) _ _ _ rfl (HO.out.alloc _) ⟨wr.heap.size, 0, none⟩ 1 1 [.int .i64 k, .int .i64 j] rfl rfl ?c1 ?c2 ?c3 ?c4 ?c5 ?_)
          case c1 => exact cell_two_new _ _ _ _
          case c2 => intro u hu; simp at hu; rcases hu with rfl | rfl <;> rfl
          case c3 => unfold maxLen; omega
          case c4 => omega
          case c5 => simp; omega
          intro v' w1 hown' hgrow hnn
          have hb3 : Below w.heap.size w w1 := (hb.alloc (by omega) _).grown hgrow (by simp; omega) (fun g' e => (HO.out.lt g' e).1)
          have HO3 : Hid (OTys w1 w.heap.size v' (tysN n) (k * 4 + 1 + (j + 1))) := OTys.snoc (w := w) (v := v') HX.out (by rw [HL.out]; exact hkl) HO.out.1 hown' (HE.out k j hjt _)
          clear hown' hgrow hnn HO HX
          go_wp2_with fail
          go_roundw
          case rel => exact ⟨j + 1, by omega, by go_num, HO3.out, hb3⟩
          case measure => simp [intOf]; omega
        · have hjI : 3 < (j : Int) := by omega
          have hje : j = 4 := by omega
          have HO : Hid (OTys wr w.heap.size u3 (tysN n) ((k + 1) * 4 + 1)) := by
            have : (k + 1) * 4 + 1 = k * 4 + 1 + j := by omega
            unfold Hid; rw [this]; exact ⟨xs, ho, hx⟩
          clear ho hx hje
          go_wp2_with fail
          go_roundw
          case rel => exact ⟨k + 1, by omega, by go_num, HO.out, hb⟩
          case measure => simp [intOf]; omega
    · have he : (tysN n).length = k * 4 + 1 := by rw [HL.out]; omega
      have HO : Hid (OTys wr w.heap.size u3 (tysN n) (tysN n).length) := by unfold Hid; rw [he]; exact ho
      clear he ho
      go_wp2_with fail
      go_ret
      exact ⟨_, rfl, HO.out, hb⟩
end Go.Proofs.Ytholdmdkhbhokab
/-
  The types that have a value with arguments of known types, and the others, in two rows. No statement is proved here.
-/
namespace Go.Proofs.Ytholdmdkhbhokab
open Go.RowKit
set_option maxRecDepth 100000
set_option linter.unusedVariables false

/-- Two rows that share no block. -/
def Apart (v u : Value) : Prop := ∀ g, v.ownBlock = some g → u.ownBlock = some g → False
theorem Apart.symm {v u : Value} (h : Apart v u) : Apart u v := fun g a b => h g b a
theorem Apart.ne {v u : Value} (h : Apart v u) : u.ownBlock = none ∨ u.ownBlock ≠ v.ownBlock := by
  cases e : u.ownBlock with
  | none => exact .inl rfl
  | some g => exact .inr (fun e2 => h g e2.symm e)
theorem OTys.lt {w : World} {lo : Nat} {v : Value} {l : List Ty} {k : Nat} (h : OTys w lo v l k) : ∀ g, v.ownBlock = some g → lo ≤ g ∧ g < w.heap.size := by
  obtain ⟨xs, ho, _⟩ := h
  exact ho.lt
theorem OTys.kept {w w' : World} {lo : Nat} {v u : Value} {l : List Ty} {k : Nat} (h : OTys w lo u l k) (hg : w.grownBy w' v.ownBlock) (ha : Apart v u) : OTys w' lo u l k := by
  obtain ⟨xs, ho, hx⟩ := h
  exact ⟨xs, ho.kept hg ha.ne, hx⟩
theorem OTys.alloc {w : World} {lo : Nat} {u : Value} {l : List Ty} {k : Nat} (h : OTys w lo u l k) (o : Obj) : OTys (w.alloc o) lo u l k := by
  obtain ⟨xs, ho, hx⟩ := h
  exact ⟨xs, ho.alloc o, hx⟩
theorem OTys.at_ {w w' : World} {lo : Nat} {u : Value} {l : List Ty} {k : Nat} (h : OTys w lo u l k) (hb : Below w.heap.size w w') : OTys w' lo u l k := by
  obtain ⟨xs, ho, hx⟩ := h
  exact ⟨xs, own_below ho hb, hx⟩
theorem OTys.nil (w : World) (lo : Nat) : OTys w lo (.slice none 0 0) [] 0 := ⟨[], World.ownsRow_nil _ _ _ _, TyRow.zero _ _⟩
theorem TyRow.app {l : List Ty} {xs : List Value} {t : Ty} (h : TyRow l xs l.length) (hx : xs.length = l.length * 2) : TyRow (l ++ [t]) (xs ++ [.int .i64 t.data, .int .i64 t.index]) (l.length + 1) := by
  intro j hj hjk
  by_cases e : j = l.length
  · subst e
    constructor
    · rw [List.getElem?_append_right (by omega), hx]; simp
    · rw [List.getElem?_append_right (by omega), hx]; simp
  · have hjl : j < l.length := by omega
    obtain ⟨a, b⟩ := h j hjl hjl
    rw [List.getElem_append_left hjl]
    constructor
    · rw [List.getElem?_append_left (by omega)]; exact a
    · rw [List.getElem?_append_left (by omega)]; exact b
theorem OTys.app {w : World} {lo : Nat} {v : Value} {l : List Ty} {xs : List Value} {t : Ty} (h : TyRow l xs l.length) (hx : xs.length = l.length * 2) (ho : w.ownsRow lo 33 2 v (l.length + 1) (xs ++ [.int .i64 t.data, .int .i64 t.index])) : OTys w lo v (l ++ [t]) (l ++ [t]).length := by
  have e : (l ++ [t]).length = l.length + 1 := by simp
  rw [e]
  exact ⟨_, ho, h.app hx⟩

/-- Those of the first k for which P holds. -/
noncomputable def fil (P : Ty → Prop) (U : List Ty) (k : Nat) : List Ty := (U.take k).filter (fun t => dec (P t))
theorem fil_zero (P : Ty → Prop) (U : List Ty) : fil P U 0 = [] := by simp [fil]
theorem fil_yes {P : Ty → Prop} {U : List Ty} {k : Nat} (hk : k < U.length) (h : P U[k]) : fil P U (k + 1) = fil P U k ++ [U[k]] := by
  unfold fil
  rw [List.take_succ_eq_append_getElem hk, List.filter_append]
  simp [dec_t h]
theorem fil_no {P : Ty → Prop} {U : List Ty} {k : Nat} (hk : k < U.length) (h : ¬ P U[k]) : fil P U (k + 1) = fil P U k := by
  unfold fil
  rw [List.take_succ_eq_append_getElem hk, List.filter_append]
  simp [dec_f h]
theorem fil_len (P : Ty → Prop) (U : List Ty) (k : Nat) : (fil P U k).length ≤ U.length := by
  unfold fil
  exact Nat.le_trans (List.length_filter_le _ _) (List.length_take_le' _ _)

set_option maxHeartbeats 1600000 in
theorem splitMade_any (A A2 : Option Addr) (U : List Ty) (D : List Da) (cap cap2 : Nat) (mb n : Nat) (F : Ty → Int) (S : Ty → Prop) (w : World) (hr : RDas w w.heap.size A D) (hU : RTys w w.heap.size A2 U) (hin : ∀ t ∈ U, t ∈ tysN D.length) (hw : WorldOK D) (hm : MapTy w mb n F S) (hpos : ∀ t ∈ tysN 4, S t → 0 < F t ∧ F t ≤ 5000) (hUl : U.length ≤ 17) :
    Calls Try.prog 81 #[.slice A D.length cap, .slice A2 U.length cap2, .map (some mb)] w fun e w' => ∃ v u, e = .returned (.tuple #[v, u]) ∧ OTys w' w.heap.size v (fil (mkF D S) U U.length) (fil (mkF D S) U U.length).length ∧ OTys w' w.heap.size u (fil (fun t => ¬ mkF D S t) U U.length) (fil (fun t => ¬ mkF D S t) U U.length).length ∧ Below w.heap.size w w' := by
  obtain ⟨i0, hi, hz0, hz1, hz2⟩ := info_parts info34
  have Hr := Lib.hid hr
  have HU := Lib.hid hU
  have HI := Lib.hid hin
  have HW := Lib.hid hw
  have HM := Lib.hid hm
  have HP := Lib.hid hpos
  have hz1' := fil_zero (mkF D S) U
  have hz2' := fil_zero (fun t => ¬ mkF D S t) U
  have HZ1 := Lib.hid hz1'
  have HZ2 := Lib.hid hz2'
  clear hr hU hin hw hm hpos hz1' hz2'
  have HA0 : Hid (Apart (.slice none 0 0) (.slice none 0 0)) := fun g h => by simp [Value.ownBlock] at h
  go_enter Try.func81, Try.ntmps81
  go_wp2_with fail
  go_loopw [6, 7, 12] (fun v u i wr => ∃ k : Nat, k ≤ U.length ∧ i = .int .i64 k ∧ OTys wr w.heap.size v (fil (mkF D S) U k) (fil (mkF D S) U k).length ∧ OTys wr w.heap.size u (fil (fun t => ¬ mkF D S t) U k) (fil (fun t => ¬ mkF D S t) U k).length ∧ Apart v u ∧ Below w.heap.size w wr) (fun _ _ i _ => U.length - (intOf i).toNat)
  case atStart => exact ⟨0, by omega, rfl, by rw [HZ1.out]; exact OTys.nil _ _, by rw [HZ2.out]; exact OTys.nil _ _, HA0.out, Below.refl _ _⟩
  case round =>
    clear HZ1 HZ2 HA0
    obtain ⟨k, hk, rfl, ho1, ho2, hap, hb⟩ := hrel
    have hsz := hb.size
    by_cases hlt : k < U.length
    · obtain ⟨b, off, rfl, hbB, c0, c1⟩ := (HU.out.below hb (Nat.le_refl _)).2 k hlt
      have hkI : (k : Int) < (U.length : Int) := by omega
      have HO1 := Lib.hid ho1
      have HO2 := Lib.hid ho2
      have HAP := Lib.hid hap
      have HT := Lib.hid (HI.out U[k] (List.getElem_mem hlt))
      have HRr : Hid (∀ o : Obj, RDas (wr.alloc o) (wr.alloc o).heap.size A D) := fun o => Hr.out.keep (fun p hp => (keep_one o p (by omega)).trans (hb.cell hp)) (by simp; omega)
      have HMr : Hid (∀ o : Obj, MapTy (wr.alloc o) mb n F S) := fun o => (HM.out.at_ hb).at_ ((Below.refl _ _).alloc (Nat.le_refl _) o)
      clear ho1 ho2 hap
      by_cases hs : mkF D S U[k]
      · have HC := Lib.hid (dec_t hs)
        have HY := Lib.hid (fil_yes (P := mkF D S) hlt hs)
        have HN := Lib.hid (fil_no (P := fun t => ¬ mkF D S t) hlt (fun h => h hs))
        have hfl := fil_len (mkF D S) U k
        clear hs
        go_wp2_with fail
        refine (hasMade_any _ _ _ _ _ _ _ _ _ (HRr.out _) HT.out HW.out (HMr.out _) HP.out).mono ?_
        rw [HC.out]
        rintro e w1 ⟨rfl, hb1⟩
        have hb2 : Below w.heap.size w w1 := hb.trans ((below_one hb1).mono hsz)
        have HX1 := Lib.hid (HO1.out.at_ (below_one hb1))
        have HX2 := Lib.hid (HO2.out.at_ (below_one hb1))
        have d0 : w1.cell? ⟨wr.heap.size, 0, none⟩ = some (.int .i64 U[k].data) := (hb1.cell (p := ⟨wr.heap.size, 0, none⟩) (by simp)).trans (by simp [go_sem])
        have d1 : w1.cell? ⟨wr.heap.size, 1, none⟩ = some (.int .i64 U[k].index) := (hb1.cell (p := ⟨wr.heap.size, 1, none⟩) (by simp)).trans (by simp [go_sem])
        have hs1 := hb2.size
        clear hb1 HO1 HO2 HRr HMr hb hsz c0 c1
        obtain ⟨xs, ho, hx⟩ := HX1.out
        have HO := Lib.hid ho
        have HX := Lib.hid hx
        clear ho hx HX1
        go_wp2_with (at_builtin; refine wpList_append_own_at _ rfl _ _ 29 rfl w.heap.size 33 i0 (.agg #[.int .i64 0, .int .i64 0]) 2 16 Try.underlying29 hi hz0 hz1 hz2 rfl (by decide) _ _ _ rfl (HO.out.alloc _) ⟨w1.heap.size, 0, none⟩ 1 1 [.int .i64 U[k].data, .int .i64 U[k].index] rfl rfl ?c1 ?c2 ?c3 ?c4 ?c5 ?_)
        case c1 => exact cell_two_new _ _ _ _
        case c2 => intro u hu; simp at hu; rcases hu with rfl | rfl <;> rfl
        case c3 => unfold maxLen; omega
        case c4 => omega
        case c5 => simp; omega
        intro v' w2 hown' hgrow hnn hat
        have hb3 : Below w.heap.size w w2 := (hb2.alloc (by omega) _).grown hgrow (by simp; omega) (fun g' e => (HO.out.lt g' e).1)
        have HO3 : Hid (OTys w2 w.heap.size v' (fil (mkF D S) U (k + 1)) (fil (mkF D S) U (k + 1)).length) := by unfold Hid; rw [HY.out]; exact OTys.app HX.out HO.out.1 hown'
        have HO4 : Hid (OTys w2 w.heap.size u7 (fil (fun t => ¬ mkF D S t) U (k + 1)) (fil (fun t => ¬ mkF D S t) U (k + 1)).length) := by unfold Hid; rw [HN.out]; exact (HX2.out.alloc _).kept hgrow HAP.out
        have HA : Hid (Apart v' u7) := fun g e1 e2 => by
          rcases hat with h | h
          · exact HAP.out g (h ▸ e1) e2
          · rw [h] at e1
            have h3 := (HX2.out.lt g e2).2
            injection e1 with e1
            omega
        clear hown' hgrow hnn hat HO HX HX2 d0 d1 HAP
        go_wp2_with fail
        go_roundw
        case rel => exact ⟨k + 1, by omega, by go_num, HO3.out, HO4.out, HA.out, hb3⟩
        case measure => simp [intOf]; omega
      · have HC := Lib.hid (dec_f hs)
        have HY := Lib.hid (fil_yes (P := fun t => ¬ mkF D S t) hlt hs)
        have HN := Lib.hid (fil_no (P := mkF D S) hlt hs)
        have hfl := fil_len (fun t => ¬ mkF D S t) U k
        clear hs
        go_wp2_with fail
        refine (hasMade_any _ _ _ _ _ _ _ _ _ (HRr.out _) HT.out HW.out (HMr.out _) HP.out).mono ?_
        rw [HC.out]
        rintro e w1 ⟨rfl, hb1⟩
        have hb2 : Below w.heap.size w w1 := hb.trans ((below_one hb1).mono hsz)
        have HX1 := Lib.hid (HO1.out.at_ (below_one hb1))
        have HX2 := Lib.hid (HO2.out.at_ (below_one hb1))
        have d0 : w1.cell? ⟨wr.heap.size, 0, none⟩ = some (.int .i64 U[k].data) := (hb1.cell (p := ⟨wr.heap.size, 0, none⟩) (by simp)).trans (by simp [go_sem])
        have d1 : w1.cell? ⟨wr.heap.size, 1, none⟩ = some (.int .i64 U[k].index) := (hb1.cell (p := ⟨wr.heap.size, 1, none⟩) (by simp)).trans (by simp [go_sem])
        have hs1 := hb2.size
        clear hb1 HO1 HO2 HRr HMr hb hsz c0 c1
        obtain ⟨xs, ho, hx⟩ := HX2.out
        have HO := Lib.hid ho
        have HX := Lib.hid hx
        clear ho hx HX2
        go_wp2_with (at_builtin; refine wpList_append_own_at _ rfl _ _ 29 rfl w.heap.size 33 i0 (.agg #[.int .i64 0, .int .i64 0]) 2 16 Try.underlying29 hi hz0 hz1 hz2 rfl (by decide) _ _ _ rfl (HO.out.alloc _) ⟨w1.heap.size, 0, none⟩ 1 1 [.int .i64 U[k].data, .int .i64 U[k].index] rfl rfl ?d1 ?d2 ?d3 ?d4 ?d5 ?_)
        case d1 => exact cell_two_new _ _ _ _
        case d2 => intro u hu; simp at hu; rcases hu with rfl | rfl <;> rfl
        case d3 => unfold maxLen; omega
        case d4 => omega
        case d5 => simp; omega
        intro v' w2 hown' hgrow hnn hat
        have hb3 : Below w.heap.size w w2 := (hb2.alloc (by omega) _).grown hgrow (by simp; omega) (fun g' e => (HO.out.lt g' e).1)
        have HO3 : Hid (OTys w2 w.heap.size v' (fil (fun t => ¬ mkF D S t) U (k + 1)) (fil (fun t => ¬ mkF D S t) U (k + 1)).length) := by unfold Hid; rw [HY.out]; exact OTys.app HX.out HO.out.1 hown'
        have HO4 : Hid (OTys w2 w.heap.size u6 (fil (mkF D S) U (k + 1)) (fil (mkF D S) U (k + 1)).length) := by unfold Hid; rw [HN.out]; exact (HX1.out.alloc _).kept hgrow HAP.out.symm
        have HA : Hid (Apart u6 v') := fun g e1 e2 => by
          rcases hat with h | h
          · exact HAP.out g e1 (h ▸ e2)
          · rw [h] at e2
            have h3 := (HX1.out.lt g e1).2
            injection e2 with e2
            omega
        clear hown' hgrow hnn hat HO HX HX1 d0 d1 HAP
        go_wp2_with fail
        go_roundw
        case rel => exact ⟨k + 1, by omega, by go_num, HO4.out, HO3.out, HA.out, hb3⟩
        case measure => simp [intOf]; omega
    · have he : k = U.length := by omega
      have HO1 : Hid (OTys wr w.heap.size u6 (fil (mkF D S) U U.length) (fil (mkF D S) U U.length).length) := by unfold Hid; rw [← he]; exact ho1
      have HO2 : Hid (OTys wr w.heap.size u7 (fil (fun t => ¬ mkF D S t) U U.length) (fil (fun t => ¬ mkF D S t) U U.length).length) := by unfold Hid; rw [← he]; exact ho2
      clear he ho1 ho2
      go_wp2_with fail
      go_ret2
      exact ⟨_, _, rfl, HO1.out, HO2.out, hb⟩
end Go.Proofs.Ytholdmdkhbhokab
/-
  A constructor out of its text: the document's function. No statement is proved here.
-/
namespace Go.Proofs.Ytholdmdkhbhokab
open Go.RowKit
set_option maxRecDepth 100000
set_option linter.unusedVariables false

theorem cutB_pos (s : ByteArray) (c : Int) : 1 ≤ (cutB s c).length := by
  unfold cutB
  rw [cutGo_yes (cutAt_end rfl)]
  simp
theorem ext_size (s : ByteArray) (a b : Nat) : (s.extract a b).size ≤ s.size := by rw [ByteArray.size_extract]; omega
theorem cutGo_size (s : ByteArray) (c : Int) : ∀ k, ∀ x ∈ (cutGo s c k).1, x.size ≤ s.size
  | 0, x, hx => by simp [cutGo] at hx
  | k + 1, x, hx => by
    by_cases h : cutAt s c k = true
    · rw [cutGo_yes h] at hx
      simp only [List.mem_append, List.mem_cons, List.not_mem_nil, or_false] at hx
      rcases hx with hx | rfl
      · exact cutGo_size s c k x hx
      · exact ext_size _ _ _
    · rw [cutGo_no (by simpa using h)] at hx
      exact cutGo_size s c k x hx
theorem cutB_size {s : ByteArray} {c : Int} {x : ByteArray} (h : x ∈ cutB s c) : x.size ≤ s.size := cutGo_size s c _ x h

/-- A constructor out of its text without an index. -/
def ctQ (l : List ByteArray) (s : ByteArray) (ix : Int) : Ct :=
  if (cutB s 40).length < 2 ∨ ((cutB s 40).getD 1 ByteArray.empty).size = 0 then ⟨(cutB s 40).getD 0 ByteArray.empty, [], ix⟩
  else ⟨(cutB s 40).getD 0 ByteArray.empty, ((cutB (((cutB s 40).getD 1 ByteArray.empty).extract 0 (((cutB s 40).getD 1 ByteArray.empty).size - 1)) 44).take 4).map (tyP l), ix⟩
def ctP (l : List ByteArray) (s : ByteArray) : Ct :=
  if 2 < s.size ∧ ((s.data.toList.getD (s.size - 2) 0).toNat : Int) = 58 then ctQ l (s.extract 0 (s.size - 2)) (((s.data.toList.getD (s.size - 1) 0).toNat : Int) - 48) else ctQ l s 0

/-- A constructor in block b. -/
def Box3 (w : World) (b : Nat) (n : ByteArray) (v : Value) (i : Int) : Prop := w.heap[b]? = some (.cells #[.string n, v, .int .i64 i] 31 (0, 0))
theorem free_of_blk {w : World} {g : Nat} {cs : Array Value} {t : TypeId} (h : w.heap[g]? = some (.cells cs t (0, 0))) (i : Nat) : w.frozen? ⟨g, i, none⟩ = false := by
  unfold World.frozen?
  rw [h]
  simp
theorem Box3.c0 {w : World} {b : Nat} {n : ByteArray} {v : Value} {i : Int} (h : Box3 w b n v i) : w.cell? ⟨b, 0, none⟩ = some (.string n) := cell_of_blk h 0
theorem Box3.c1 {w : World} {b : Nat} {n : ByteArray} {v : Value} {i : Int} (h : Box3 w b n v i) : w.cell? ⟨b, 1, none⟩ = some v := cell_of_blk h 1
theorem Box3.c2 {w : World} {b : Nat} {n : ByteArray} {v : Value} {i : Int} (h : Box3 w b n v i) : w.cell? ⟨b, 2, none⟩ = some (.int .i64 i) := cell_of_blk h 2
theorem Box3.fz {w : World} {b : Nat} {n : ByteArray} {v : Value} {i : Int} (h : Box3 w b n v i) (o : Nat) : w.frozen? ⟨b, o, none⟩ = false := free_of_blk h o
theorem Box3.lt {w : World} {b : Nat} {n : ByteArray} {v : Value} {i : Int} (h : Box3 w b n v i) : b < w.heap.size := heap_lt h
theorem Box3.set0 {w : World} {b : Nat} {n : ByteArray} {v : Value} {i : Int} (h : Box3 w b n v i) (m : ByteArray) : Box3 (w.setCell ⟨b, 0, none⟩ (.string m)) b m v i := heap_setCell_same w b 0 _ _ (.string m) h
theorem Box3.set1 {w : World} {b : Nat} {n : ByteArray} {v : Value} {i : Int} (h : Box3 w b n v i) (u : Value) : Box3 (w.setCell ⟨b, 1, none⟩ u) b n u i := heap_setCell_same w b 1 _ _ u h
theorem Box3.keep {w w' : World} {b : Nat} {n : ByteArray} {v : Value} {i : Int} (h : Box3 w b n v i) (hk : w'.heap[b]? = w.heap[b]?) : Box3 w' b n v i := hk.trans h
theorem Box3.at_ {w w' : World} {b : Nat} {n : ByteArray} {v : Value} {i : Int} (h : Box3 w b n v i) (hb : Below w.heap.size w w') : Box3 w' b n v i := h.keep (hb.block b h.lt)

/-- What is returned: a constructor whose arguments lie in a row of the call's own. -/
def RetCt (w : World) (lo : Nat) (e : Ending) (w' : World) (c : Ct) : Prop := ∃ v, e = .returned (.agg #[.string c.name, v, .int .i64 c.index]) ∧ OTys w' lo v c.args c.args.length ∧ Below lo w w'
end Go.Proofs.Ytholdmdkhbhokab
/-
  A constructor out of its text: the document's function, the walk. No statement is proved here.
-/
namespace Go.Proofs.Ytholdmdkhbhokab
open Go.RowKit Go.Deep
set_option maxRecDepth 100000
set_option linter.unusedVariables false

theorem parseType_v (A : Option Addr) (l : List ByteArray) (cap : Nat) (s : ByteArray) (t : Ty) (ht : tyP l s = t) (w : World) (hr : RStrs w A l) (hs : s.size ≤ 1048576) :
    Calls Try.prog 107 #[.slice A l.length cap, .string s] w fun e w' => e = .returned (.agg #[.int .i64 t.data, .int .i64 t.index]) ∧ Below w.heap.size w w' := by
  subst ht; exact parseType_any A l cap s w hr hs
theorem getD_at {L : List ByteArray} {k : Nat} (h : k < L.length) : L.getD k ByteArray.empty = L[k] := by
  rw [List.getD_eq_getElem?_getD, List.getElem?_eq_getElem h]; rfl
theorem take_map_len (l : List ByteArray) (L : List ByteArray) {k : Nat} (h : k < L.length) : ((L.take (k + 1)).map (tyP l)) = ((L.take k).map (tyP l)) ++ [tyP l L[k]] := by
  rw [List.take_succ_eq_append_getElem h, List.map_append]; rfl
theorem OStrs.kept2 {w w' : World} {lo : Nat} {v : Value} {L : List ByteArray} (h : OStrs w lo v L) (hk : ∀ (b : Nat) (cs : Array Value), w.heap[b]? = some (Obj.cells cs 9 (0, 0)) → w'.heap[b]? = w.heap[b]?) : OStrs w' lo v L := by
  have h' : w.ownsRow lo 9 1 v L.length (L.map Value.string) := h
  refine ⟨h'.1, ?_⟩
  rcases h'.2 with h0 | ⟨g, cap, cur, a1, a2, a3, a4⟩
  · exact .inl h0
  · exact .inr ⟨g, cap, cur, a1, a2, (hk g cur a3).trans a3, a4⟩
theorem OTys.kept2 {w w' : World} {lo : Nat} {v : Value} {L : List Ty} {k : Nat} (h : OTys w lo v L k) (hk : ∀ (b : Nat) (cs : Array Value), w.heap[b]? = some (Obj.cells cs 33 (0, 0)) → w'.heap[b]? = w.heap[b]?) : OTys w' lo v L k := by
  obtain ⟨xs, ho, hx⟩ := h
  refine ⟨xs, ⟨ho.1, ?_⟩, hx⟩
  rcases ho.2 with h0 | ⟨g, cap, cur, a1, a2, a3, a4⟩
  · exact .inl h0
  · exact .inr ⟨g, cap, cur, a1, a2, (hk g cur a3).trans a3, a4⟩
theorem retCt (w w' : World) (lo : Nat) (c : Ct) (v : Value) (n : ByteArray) (i : Int) (hn : c.name = n) (hi : c.index = i) (ho : OTys w' lo v c.args c.args.length) (hb : Below lo w w') : RetCt w lo (.returned (.agg #[.string n, v, .int .i64 i])) w' c := by
  subst hn hi; exact ⟨v, rfl, ho, hb⟩
theorem ctQ_none {l : List ByteArray} {s : ByteArray} {ix : Int} (h : (cutB s 40).length < 2 ∨ ((cutB s 40).getD 1 ByteArray.empty).size = 0) : ctQ l s ix = ⟨(cutB s 40).getD 0 ByteArray.empty, [], ix⟩ := if_pos h
theorem ctQ_some {l : List ByteArray} {s : ByteArray} {ix : Int} (h : ¬ ((cutB s 40).length < 2 ∨ ((cutB s 40).getD 1 ByteArray.empty).size = 0)) : ctQ l s ix = ⟨(cutB s 40).getD 0 ByteArray.empty, ((cutB (((cutB s 40).getD 1 ByteArray.empty).extract 0 (((cutB s 40).getD 1 ByteArray.empty).size - 1)) 44).take 4).map (tyP l), ix⟩ := if_neg h
end Go.Proofs.Ytholdmdkhbhokab
/-
  Rows of constructors and of data types of the call's own, by what they hold and by their kinds; worlds that read the same while nothing from a block on turns. No statement is proved here.
-/
namespace Go.Proofs.Ytholdmdkhbhokab
open Go.RowKit Go.Deep
set_option linter.unusedVariables false

/-- From block lo on, the blocks of the types T are as they were. -/
def KeepT (lo : Nat) (T : TypeId → Prop) (w w' : World) : Prop := ∀ (b : Nat) (ds : Array Value) (t : TypeId), lo ≤ b → T t → w.heap[b]? = some (Obj.cells ds t (0, 0)) → w'.heap[b]? = w.heap[b]?
def T33 (t : TypeId) : Prop := t = 33
def T31 (t : TypeId) : Prop := t = 33 ∨ t = 31
def T28 (t : TypeId) : Prop := t = 33 ∨ t = 31 ∨ t = 28
theorem KeepT.less {lo : Nat} {T S : TypeId → Prop} {w w' : World} (h : KeepT lo T w w') (hs : ∀ t, S t → T t) : KeepT lo S w w' := fun b ds t hl ht hb => h b ds t hl (hs t ht) hb
theorem KeepT.up {lo lo' : Nat} {T : TypeId → Prop} {w w' : World} (h : KeepT lo T w w') (hl : lo ≤ lo') : KeepT lo' T w w' := fun b ds t hl' ht hb => h b ds t (Nat.le_trans hl hl') ht hb
theorem KeepT.to33 {lo : Nat} {w w' : World} (h : KeepT lo T28 w w') : KeepT lo T33 w w' := h.less fun _ e => .inl e
theorem KeepT.to31 {lo : Nat} {w w' : World} (h : KeepT lo T28 w w') : KeepT lo T31 w w' := h.less fun _ e => e.elim .inl fun e => .inr (.inl e)
theorem KeepT.of31 {lo : Nat} {w w' : World} (h : KeepT lo T31 w w') : KeepT lo T33 w w' := h.less fun _ e => .inl e
theorem KeepT.below {w w' : World} (lo : Nat) (T : TypeId → Prop) (h : Below w.heap.size w w') : KeepT lo T w w' := fun b ds t _ _ hb => h.block b (heap_lt hb)
theorem KeepT.alloc (lo : Nat) (T : TypeId → Prop) (w : World) (o : Obj) : KeepT lo T w (w.alloc o) := fun b ds t _ _ hb => Below.heap_alloc _ _ _ (heap_lt hb)
theorem KeepT.trans {lo : Nat} {T : TypeId → Prop} {a b c : World} (h : KeepT lo T a b) (k : KeepT lo T b c) : KeepT lo T a c := fun g ds t hl ht hg => by
  have h1 := h g ds t hl ht hg
  exact (k g ds t hl ht (h1.trans hg)).trans h1
theorem KeepT.set {lo g : Nat} {T : TypeId → Prop} {w : World} {cs : Array Value} {t : TypeId} (hg : w.heap[g]? = some (.cells cs t (0, 0))) (hn : ¬ T t) (i : Nat) (u : Value) : KeepT lo T w (w.setCell ⟨g, i, none⟩ u) := fun b ds s hl hs hb => by
  refine Below.heap_setCell _ _ _ _ ?_
  intro e
  have e' : b = g := e
  subst e'
  rw [hg] at hb
  injection hb with hb
  injection hb with _ e
  exact hn (e ▸ hs)
theorem KeepT.setLow {lo g : Nat} {T : TypeId → Prop} {w : World} (hg : g < lo) (i : Nat) (u : Value) : KeepT lo T w (w.setCell ⟨g, i, none⟩ u) := fun b ds s hl hs hb => Below.heap_setCell _ _ _ _ (by simp only; omega)
theorem KeepT.grown {lo : Nat} {T : TypeId → Prop} {w w' : World} {v : Value} {size n : Nat} {e : TypeId} {xs : List Value} {l0 : Nat} (ho : w.ownsRow l0 e size v n xs) (hn : ¬ T e) (hg : w.grownBy w' v.ownBlock) : KeepT lo T w w' := fun b ds s hl hs hb => by
  refine hg.block b (heap_lt hb) ?_
  intro he
  rcases ho.2 with ⟨rfl, _⟩ | ⟨g, cap, cur, rfl, _, hgg, _⟩
  · simp [Value.ownBlock] at he
  · have : b = g := by simpa [Value.ownBlock] using he
    subst this
    rw [hgg] at hb
    injection hb with hb
    injection hb with _ e
    exact hn (e ▸ hs)

theorem row_keep {w w' : World} {lo size n : Nat} {e : TypeId} {v : Value} {xs : List Value} {T : TypeId → Prop} (h : w.ownsRow lo e size v n xs) (hk : KeepT lo T w w') (hT : T e) : w'.ownsRow lo e size v n xs := by
  refine ⟨h.1, ?_⟩
  rcases h.2 with h0 | ⟨g, cap, cur, a1, a2, a3, a4⟩
  · exact .inl h0
  · exact .inr ⟨g, cap, cur, a1, a2, (hk g cur e a2 hT a3).trans a3, a4⟩
theorem row_lower {w : World} {lo lo' size n : Nat} {e : TypeId} {v : Value} {xs : List Value} (h : w.ownsRow lo e size v n xs) (hl : lo' ≤ lo) : w.ownsRow lo' e size v n xs := by
  refine ⟨h.1, ?_⟩
  rcases h.2 with h0 | ⟨g, cap, cur, a1, a2, a3⟩
  · exact .inl h0
  · exact .inr ⟨g, cap, cur, a1, by omega, a3⟩
theorem OTys.keepT {w w' : World} {lo : Nat} {v : Value} {l : List Ty} {k : Nat} (h : OTys w lo v l k) (hk : KeepT lo T33 w w') : OTys w' lo v l k := by
  obtain ⟨xs, ho, hx⟩ := h
  exact ⟨xs, row_keep ho hk rfl, hx⟩

/-! What a row holds. -/
def CRow (w : World) (lo : Nat) (cs : List Ct) (xs : List Value) : Prop :=
  ∀ j (h : j < cs.length), ∃ v, xs[j * 3]? = some (.string cs[j].name) ∧ xs[j * 3 + 1]? = some v ∧ xs[j * 3 + 2]? = some (.int .i64 cs[j].index) ∧ cs[j].name.size ≤ maxLen ∧ cs[j].args.length ≤ maxLen ∧ OTys w lo v cs[j].args cs[j].args.length
def OCts (w : World) (lo : Nat) (v : Value) (cs : List Ct) : Prop := ∃ xs, w.ownsRow lo 31 3 v cs.length xs ∧ CRow w lo cs xs
def DRow (w : World) (lo : Nat) (l : List Da) (xs : List Value) : Prop :=
  ∀ j (h : j < l.length), ∃ v, xs[j * 2]? = some (.string l[j].name) ∧ xs[j * 2 + 1]? = some v ∧ l[j].name.size ≤ maxLen ∧ l[j].ctors.length ≤ maxLen ∧ OCts w lo v l[j].ctors
def ODas (w : World) (lo : Nat) (v : Value) (l : List Da) : Prop := ∃ xs, w.ownsRow lo 28 2 v l.length xs ∧ DRow w lo l xs

section
variable {w w' : World} {lo lo' : Nat} {v : Value}
theorem CRow.keepT {cs : List Ct} {xs : List Value} (h : CRow w lo cs xs) (hk : KeepT lo T33 w w') : CRow w' lo cs xs := fun j hj => by
  obtain ⟨u, h1, h2, h3, h4, h5, h6⟩ := h j hj
  exact ⟨u, h1, h2, h3, h4, h5, h6.keepT hk⟩
theorem OCts.keepT {cs : List Ct} (h : OCts w lo v cs) (hk : KeepT lo T31 w w') : OCts w' lo v cs := by
  obtain ⟨xs, ho, hx⟩ := h
  exact ⟨xs, row_keep ho hk (.inr rfl), hx.keepT hk.of31⟩
theorem DRow.keepT {l : List Da} {xs : List Value} (h : DRow w lo l xs) (hk : KeepT lo T31 w w') : DRow w' lo l xs := fun j hj => by
  obtain ⟨u, h1, h2, h3, h4, h5⟩ := h j hj
  exact ⟨u, h1, h2, h3, h4, h5.keepT hk⟩
theorem ODas.keepT {l : List Da} (h : ODas w lo v l) (hk : KeepT lo T28 w w') : ODas w' lo v l := by
  obtain ⟨xs, ho, hx⟩ := h
  exact ⟨xs, row_keep ho hk (.inr (.inr rfl)), hx.keepT hk.to31⟩
theorem OCts.lower {cs : List Ct} (h : OCts w lo v cs) (hl : lo' ≤ lo) : OCts w lo' v cs := by
  obtain ⟨xs, ho, hx⟩ := h
  refine ⟨xs, row_lower ho hl, fun j hj => ?_⟩
  obtain ⟨u, h1, h2, h3, h4, h5, h6⟩ := hx j hj
  exact ⟨u, h1, h2, h3, h4, h5, h6.lower hl⟩
theorem ODas.lower {l : List Da} (h : ODas w lo v l) (hl : lo' ≤ lo) : ODas w lo' v l := by
  obtain ⟨xs, ho, hx⟩ := h
  refine ⟨xs, row_lower ho hl, fun j hj => ?_⟩
  obtain ⟨u, h1, h2, h3, h4, h5⟩ := hx j hj
  exact ⟨u, h1, h2, h3, h4, h5.lower hl⟩
theorem CRow.nil (w : World) (lo : Nat) (xs : List Value) : CRow w lo [] xs := fun j h => absurd h (by simp)
theorem DRow.nil (w : World) (lo : Nat) (xs : List Value) : DRow w lo [] xs := fun j h => absurd h (by simp)
theorem OCts.nil (w : World) (lo : Nat) : OCts w lo (.slice none 0 0) [] := ⟨[], World.ownsRow_nil _ _ _ _, CRow.nil _ _ _⟩
theorem CRow.app {cs : List Ct} {xs : List Value} {c : Ct} {u : Value} (h : CRow w lo cs xs) (hx : xs.length = cs.length * 3) (hn : c.name.size ≤ maxLen) (ha : c.args.length ≤ maxLen) (ho : OTys w lo u c.args c.args.length) :
    CRow w lo (cs ++ [c]) (xs ++ [.string c.name, u, .int .i64 c.index]) := fun j hj => by
  by_cases e : j < cs.length
  · obtain ⟨u', h1, h2, h3, h4, h5, h6⟩ := h j e
    have e1 : (cs ++ [c])[j] = cs[j] := List.getElem_append_left e
    rw [e1]
    exact ⟨u', by rw [List.getElem?_append_left (by omega)]; exact h1, by rw [List.getElem?_append_left (by omega)]; exact h2, by rw [List.getElem?_append_left (by omega)]; exact h3, h4, h5, h6⟩
  · have ej : j = cs.length := by simp at hj; omega
    subst ej
    have e1 : (cs ++ [c])[cs.length] = c := by simp
    rw [e1]
    refine ⟨u, ?_, ?_, ?_, hn, ha, ho⟩
    · rw [List.getElem?_append_right (by omega), hx]; simp
    · rw [List.getElem?_append_right (by omega), hx]; simp
    · rw [List.getElem?_append_right (by omega), hx]; simp
theorem OCts.app {cs : List Ct} {xs : List Value} {c : Ct} {u : Value} (h : CRow w lo cs xs) (hx : xs.length = cs.length * 3) (hn : c.name.size ≤ maxLen) (ha : c.args.length ≤ maxLen) (ho : OTys w lo u c.args c.args.length)
    (hr : w.ownsRow lo 31 3 v (cs.length + 1) (xs ++ [.string c.name, u, .int .i64 c.index])) : OCts w lo v (cs ++ [c]) :=
  ⟨_, by rw [List.length_append]; exact hr, h.app hx hn ha ho⟩
theorem DRow.app {l : List Da} {xs : List Value} {d : Da} {u : Value} (h : DRow w lo l xs) (hx : xs.length = l.length * 2) (hn : d.name.size ≤ maxLen) (ha : d.ctors.length ≤ maxLen) (ho : OCts w lo u d.ctors) :
    DRow w lo (l ++ [d]) (xs ++ [.string d.name, u]) := fun j hj => by
  by_cases e : j < l.length
  · obtain ⟨u', h1, h2, h4, h5, h6⟩ := h j e
    have e1 : (l ++ [d])[j] = l[j] := List.getElem_append_left e
    rw [e1]
    exact ⟨u', by rw [List.getElem?_append_left (by omega)]; exact h1, by rw [List.getElem?_append_left (by omega)]; exact h2, h4, h5, h6⟩
  · have ej : j = l.length := by simp at hj; omega
    subst ej
    have e1 : (l ++ [d])[l.length] = d := by simp
    rw [e1]
    refine ⟨u, ?_, ?_, hn, ha, ho⟩
    · rw [List.getElem?_append_right (by omega), hx]; simp
    · rw [List.getElem?_append_right (by omega), hx]; simp
theorem ODas.app {l : List Da} {xs : List Value} {d : Da} {u : Value} (h : DRow w lo l xs) (hx : xs.length = l.length * 2) (hn : d.name.size ≤ maxLen) (ha : d.ctors.length ≤ maxLen) (ho : OCts w lo u d.ctors)
    (hr : w.ownsRow lo 28 2 v (l.length + 1) (xs ++ [.string d.name, u])) : ODas w lo v (l ++ [d]) :=
  ⟨_, by rw [List.length_append]; exact hr, h.app hx hn ha ho⟩
theorem OCts.form {cs : List Ct} (h : OCts w lo v cs) (hl : cs.length ≤ maxLen) : ∃ A cap, v = .slice A cs.length cap ∧ RCts w w.heap.size A cs := by
  obtain ⟨xs, ho, hx⟩ := h
  rcases ho.2 with ⟨rfl, h0⟩ | ⟨g, cap, cur, rfl, hb, hg, hnc, hcm, hcs, htake⟩
  · exact ⟨none, 0, by rw [h0], hl, fun k hk => absurd hk (by omega)⟩
  · refine ⟨_, cap, rfl, hl, fun k hk => ⟨g, 0, rfl, own_lt ho, ?_⟩⟩
    obtain ⟨u, h1, h2, h3, h4, h5, h6⟩ := hx k hk
    obtain ⟨A, cp, rfl, hr⟩ := h6.form h5
    refine ⟨A, cp, ?_, ?_, ?_, h4, hr⟩
    · rw [Nat.zero_add, ho.cellAt (k * 3) (by omega)]; exact h1
    · rw [Nat.zero_add, ho.cellAt (k * 3 + 1) (by omega)]; exact h2
    · rw [Nat.zero_add, ho.cellAt (k * 3 + 2) (by omega)]; exact h3
theorem ODas.form {l : List Da} (h : ODas w lo v l) (hl : l.length ≤ maxLen) : ∃ A cap, v = .slice A l.length cap ∧ RDas w w.heap.size A l := by
  obtain ⟨xs, ho, hx⟩ := h
  rcases ho.2 with ⟨rfl, h0⟩ | ⟨g, cap, cur, rfl, hb, hg, hnc, hcm, hcs, htake⟩
  · exact ⟨none, 0, by rw [h0], hl, fun k hk => absurd hk (by omega)⟩
  · refine ⟨_, cap, rfl, hl, fun k hk => ⟨g, 0, rfl, own_lt ho, ?_⟩⟩
    obtain ⟨u, h1, h2, h4, h5, h6⟩ := hx k hk
    obtain ⟨A, cp, rfl, hr⟩ := h6.form h5
    refine ⟨A, cp, ?_, ?_, h4, hr⟩
    · rw [Nat.zero_add, ho.cellAt (k * 2) (by omega)]; exact h1
    · rw [Nat.zero_add, ho.cellAt (k * 2 + 1) (by omega)]; exact h2
end

/-- From block lo on, what was there is there. -/
def Stays (lo : Nat) (w w' : World) : Prop := w.heap.size ≤ w'.heap.size ∧ ∀ b, lo ≤ b → b < w.heap.size → w'.heap[b]? = w.heap[b]?
theorem Stays.refl (lo : Nat) (w : World) : Stays lo w w := ⟨Nat.le_refl _, fun _ _ _ => rfl⟩
theorem Stays.trans {lo : Nat} {a b c : World} (h : Stays lo a b) (k : Stays lo b c) : Stays lo a c :=
  ⟨Nat.le_trans h.1 k.1, fun g hl hg => (k.2 g hl (Nat.lt_of_lt_of_le hg h.1)).trans (h.2 g hl hg)⟩
theorem Stays.below {lo : Nat} {w w' : World} (h : Below w.heap.size w w') : Stays lo w w' := ⟨h.size, fun b _ hb => h.block b hb⟩
theorem Stays.grown {lo g : Nat} {w w' : World} (h : w.grownBy w' (some g)) (hg : g < lo) : Stays lo w w' := ⟨h.size, fun b hl hb => h.block b hb (fun e => by injection e with e; omega)⟩
theorem Stays.keepT {lo : Nat} {w w' : World} (h : Stays lo w w') (T : TypeId → Prop) : KeepT lo T w w' := fun b ds t hl _ hb => h.2 b hl (heap_lt hb)
/-- The slice v reads as the list l, and does so while nothing from block lo on turns. -/
def Lies (w : World) (lo : Nat) (v : Value) (l : List Da) : Prop := ∃ A cap, v = .slice A l.length cap ∧ ∀ w', Stays lo w w' → RDas w' w'.heap.size A l
theorem Lies.at_ {w w' : World} {lo : Nat} {v : Value} {l : List Da} (h : Lies w lo v l) (hs : Stays lo w w') : Lies w' lo v l := by
  obtain ⟨A, cap, e, hr⟩ := h
  exact ⟨A, cap, e, fun w2 h2 => hr w2 (hs.trans h2)⟩
theorem Lies.form {w : World} {lo : Nat} {v : Value} {l : List Da} (h : Lies w lo v l) : ∃ A cap, v = .slice A l.length cap ∧ RDas w w.heap.size A l := by
  obtain ⟨A, cap, e, hr⟩ := h
  exact ⟨A, cap, e, hr w (Stays.refl _ _)⟩
theorem ODas.lies {w : World} {lo : Nat} {v : Value} {l : List Da} (h : ODas w lo v l) (hl : l.length ≤ maxLen) : Lies w lo v l := by
  obtain ⟨A, cap, rfl, _⟩ := h.form hl
  refine ⟨A, cap, rfl, fun w' hs => ?_⟩
  obtain ⟨A', cap', e, hr⟩ := (h.keepT (hs.keepT T28)).form hl
  injection e with e1 e2 e3
  subst e1
  exact hr
end Go.Proofs.Ytholdmdkhbhokab
/-
  Rows of the call's own by their kinds alone: what remains true of them when a cell is overwritten by one of its kind. No statement is proved here.
-/
namespace Go.Proofs.Ytholdmdkhbhokab
open Go.RowKit Go.Deep
set_option linter.unusedVariables false

def XTys (w : World) (lo N : Nat) (v : Value) (n : Nat) : Prop := ∃ xs, w.ownsRow lo 33 2 v n xs ∧ n ≤ N ∧ ∀ j, j < n → ∃ a b, xs[j * 2]? = some (.int .i64 a) ∧ xs[j * 2 + 1]? = some (.int .i64 b)
def CKind (w : World) (lo N : Nat) (xs : List Value) (j : Nat) : Prop := ∃ s u m i, xs[j * 3]? = some (.string s) ∧ s.size ≤ maxLen ∧ xs[j * 3 + 1]? = some u ∧ XTys w lo N u m ∧ xs[j * 3 + 2]? = some (.int .i64 i)
def XCts (w : World) (lo N : Nat) (v : Value) (n : Nat) : Prop := ∃ xs, w.ownsRow lo 31 3 v n xs ∧ n ≤ N ∧ ∀ j, j < n → CKind w lo N xs j
def DKind (w : World) (lo N : Nat) (xs : List Value) (j : Nat) : Prop := ∃ s u m, xs[j * 2]? = some (.string s) ∧ s.size ≤ maxLen ∧ xs[j * 2 + 1]? = some u ∧ XCts w lo N u m
def XDas (w : World) (lo N : Nat) (v : Value) (n : Nat) : Prop := ∃ xs, w.ownsRow lo 28 2 v n xs ∧ n ≤ N ∧ ∀ j, j < n → DKind w lo N xs j

section
variable {w w' : World} {lo N N' n : Nat} {v : Value}
theorem XTys.keepT (h : XTys w lo N v n) (hk : KeepT lo T33 w w') (hN : N ≤ N') : XTys w' lo N' v n := by
  obtain ⟨xs, ho, hn, hx⟩ := h
  exact ⟨xs, row_keep ho hk rfl, by omega, hx⟩
theorem CKind.keepT {xs : List Value} {j : Nat} (h : CKind w lo N xs j) (hk : KeepT lo T33 w w') (hN : N ≤ N') : CKind w' lo N' xs j := by
  obtain ⟨s, u, m, i, h1, h2, h3, h4, h5⟩ := h
  exact ⟨s, u, m, i, h1, h2, h3, h4.keepT hk hN, h5⟩
theorem XCts.keepT (h : XCts w lo N v n) (hk : KeepT lo T31 w w') (hN : N ≤ N') : XCts w' lo N' v n := by
  obtain ⟨xs, ho, hn, hx⟩ := h
  exact ⟨xs, row_keep ho hk (.inr rfl), by omega, fun j hj => (hx j hj).keepT hk.of31 hN⟩
theorem DKind.keepT {xs : List Value} {j : Nat} (h : DKind w lo N xs j) (hk : KeepT lo T31 w w') (hN : N ≤ N') : DKind w' lo N' xs j := by
  obtain ⟨s, u, m, h1, h2, h3, h4⟩ := h
  exact ⟨s, u, m, h1, h2, h3, h4.keepT hk hN⟩
theorem XDas.keepT (h : XDas w lo N v n) (hk : KeepT lo T28 w w') (hN : N ≤ N') : XDas w' lo N' v n := by
  obtain ⟨xs, ho, hn, hx⟩ := h
  exact ⟨xs, row_keep ho hk (.inr (.inr rfl)), by omega, fun j hj => (hx j hj).keepT hk.to31 hN⟩

/-- A cell of a row is overwritten. -/
theorem row_set {e : TypeId} {size g i : Nat} {xs : List Value} {u : Value} (h : w.ownsRow lo e size v n xs) : ∃ ys, (w.setCell ⟨g, i, none⟩ u).ownsRow lo e size v n ys ∧ (v.ownBlock = some g → ys = xs.set i u) ∧ (v.ownBlock ≠ some g → ys = xs) := by
  rcases h.2 with ⟨rfl, h0⟩ | ⟨g', cap, cur, rfl, hb, hg, hnc, hcm, hcs, htake⟩
  · exact ⟨xs, ⟨h.1, .inl ⟨rfl, h0⟩⟩, fun e => by simp [Value.ownBlock] at e, fun _ => rfl⟩
  · by_cases e : g' = g
    · subst e
      refine ⟨xs.set i u, ⟨by rw [List.length_set]; exact h.1, .inr ⟨g', cap, cur.setIfInBounds i u, rfl, hb, heap_setCell_same w g' i _ _ u hg, hnc, hcm, by simp [hcs], ?_⟩⟩, fun _ => rfl, fun hne => absurd rfl hne⟩
      rw [Array.toList_setIfInBounds, List.take_set, htake]
    · refine ⟨xs, ⟨h.1, .inr ⟨g', cap, cur, rfl, hb, ?_, hnc, hcm, hcs, htake⟩⟩, fun h1 => absurd (by simpa [Value.ownBlock] using h1) e, fun _ => rfl⟩
      rw [Below.heap_setCell _ _ _ _ (by simpa using e)]
      exact hg
theorem set_at {xs : List Value} {i k : Nat} {u v : Value} (h : xs[k]? = some v) : (xs.set i u)[k]? = if i = k then some u else some v := by
  rw [List.getElem?_set]
  have hk : k < xs.length := by
    rcases Nat.lt_or_ge k xs.length with h1 | h1
    · exact h1
    · rw [List.getElem?_eq_none h1] at h; cases h
  by_cases e : i = k
  · subst e; simp [hk]
  · simp [e, h]
/-- The kinds that a cell of a constructor may be overwritten by. -/
def CNew (w : World) (lo N : Nat) (i : Nat) (u : Value) : Prop := (i % 3 = 0 ∧ ∃ s, u = .string s ∧ s.size ≤ maxLen) ∨ (i % 3 = 1 ∧ ∃ m, XTys w lo N u m) ∨ (i % 3 = 2 ∧ ∃ x, u = .int .i64 x)
def DNew (w : World) (lo N : Nat) (i : Nat) (u : Value) : Prop := (i % 2 = 0 ∧ ∃ s, u = .string s ∧ s.size ≤ maxLen) ∨ (i % 2 = 1 ∧ ∃ m, XCts w lo N u m)
theorem CKind.set {xs : List Value} {i j : Nat} {u : Value} (h : CKind w lo N xs j) (hu : CNew w lo N i u) : CKind w lo N (xs.set i u) j := by
  obtain ⟨s, a, m, x, h1, h2, h3, h4, h5⟩ := h
  have e1 := set_at (i := i) (u := u) h1
  have e2 := set_at (i := i) (u := u) h3
  have e3 := set_at (i := i) (u := u) h5
  rcases hu with ⟨hi, s', rfl, hs⟩ | ⟨hi, m', hm⟩ | ⟨hi, x', rfl⟩
  · rw [if_neg (by omega)] at e2 e3
    by_cases e : i = j * 3
    · rw [if_pos e] at e1; exact ⟨s', a, m, x, e1, hs, e2, h4, e3⟩
    · rw [if_neg e] at e1; exact ⟨s, a, m, x, e1, h2, e2, h4, e3⟩
  · rw [if_neg (by omega)] at e1 e3
    by_cases e : i = j * 3 + 1
    · rw [if_pos e] at e2; exact ⟨s, u, m', x, e1, h2, e2, hm, e3⟩
    · rw [if_neg e] at e2; exact ⟨s, a, m, x, e1, h2, e2, h4, e3⟩
  · rw [if_neg (by omega)] at e1 e2
    by_cases e : i = j * 3 + 2
    · rw [if_pos e] at e3; exact ⟨s, a, m, x', e1, h2, e2, h4, e3⟩
    · rw [if_neg e] at e3; exact ⟨s, a, m, x, e1, h2, e2, h4, e3⟩
theorem DKind.set {xs : List Value} {i j : Nat} {u : Value} (h : DKind w lo N xs j) (hu : DNew w lo N i u) : DKind w lo N (xs.set i u) j := by
  obtain ⟨s, a, m, h1, h2, h3, h4⟩ := h
  have e1 := set_at (i := i) (u := u) h1
  have e2 := set_at (i := i) (u := u) h3
  rcases hu with ⟨hi, s', rfl, hs⟩ | ⟨hi, m', hm⟩
  · rw [if_neg (by omega)] at e2
    by_cases e : i = j * 2
    · rw [if_pos e] at e1; exact ⟨s', a, m, e1, hs, e2, h4⟩
    · rw [if_neg e] at e1; exact ⟨s, a, m, e1, h2, e2, h4⟩
  · rw [if_neg (by omega)] at e1
    by_cases e : i = j * 2 + 1
    · rw [if_pos e] at e2; exact ⟨s, u, m', e1, h2, e2, hm⟩
    · rw [if_neg e] at e2; exact ⟨s, a, m, e1, h2, e2, h4⟩
theorem T33_not31 : ¬ T33 31 := by unfold T33; decide
theorem T33_not28 : ¬ T33 28 := by unfold T33; decide
theorem T31_not28 : ¬ T31 28 := by unfold T31; decide
/-- A cell in a block of constructors is overwritten by one of its kind. -/
theorem XCts.set {g i : Nat} {cs : Array Value} {u : Value} (h : XCts w lo N v n) (hg : w.heap[g]? = some (.cells cs 31 (0, 0))) (hu : CNew w lo N i u) : XCts (w.setCell ⟨g, i, none⟩ u) lo N v n := by
  obtain ⟨xs, ho, hn, hx⟩ := h
  obtain ⟨ys, hy, h1, h2⟩ := row_set (g := g) (i := i) (u := u) ho
  have hk : KeepT lo T33 w (w.setCell ⟨g, i, none⟩ u) := KeepT.set hg T33_not31 i u
  by_cases e : v.ownBlock = some g
  · rw [h1 e] at hy
    exact ⟨_, hy, hn, fun j hj => ((hx j hj).set hu).keepT hk (Nat.le_refl _)⟩
  · rw [h2 e] at hy
    exact ⟨_, hy, hn, fun j hj => (hx j hj).keepT hk (Nat.le_refl _)⟩
theorem XDas.set31 {g i : Nat} {cs : Array Value} {u : Value} (h : XDas w lo N v n) (hg : w.heap[g]? = some (.cells cs 31 (0, 0))) (hu : CNew w lo N i u) : XDas (w.setCell ⟨g, i, none⟩ u) lo N v n := by
  obtain ⟨xs, ho, hn, hx⟩ := h
  obtain ⟨ys, hy, h1, h2⟩ := row_set (g := g) (i := i) (u := u) ho
  have e : v.ownBlock ≠ some g := fun e => own_ne ho hg (by decide) e.symm
  rw [h2 e] at hy
  refine ⟨_, hy, hn, fun j hj => ?_⟩
  obtain ⟨s, a, m, h1, h2, h3, h4⟩ := hx j hj
  exact ⟨s, a, m, h1, h2, h3, h4.set hg hu⟩
/-- A cell in a block of data types is overwritten by one of its kind. -/
theorem XDas.set28 {g i : Nat} {cs : Array Value} {u : Value} (h : XDas w lo N v n) (hg : w.heap[g]? = some (.cells cs 28 (0, 0))) (hu : DNew w lo N i u) : XDas (w.setCell ⟨g, i, none⟩ u) lo N v n := by
  obtain ⟨xs, ho, hn, hx⟩ := h
  obtain ⟨ys, hy, h1, h2⟩ := row_set (g := g) (i := i) (u := u) ho
  have hk : KeepT lo T31 w (w.setCell ⟨g, i, none⟩ u) := KeepT.set hg T31_not28 i u
  by_cases e : v.ownBlock = some g
  · rw [h1 e] at hy
    exact ⟨_, hy, hn, fun j hj => ((hx j hj).set hu).keepT hk (Nat.le_refl _)⟩
  · rw [h2 e] at hy
    exact ⟨_, hy, hn, fun j hj => (hx j hj).keepT hk (Nat.le_refl _)⟩

theorem XTys.nil (w : World) (lo N : Nat) : XTys w lo N (.slice none 0 0) 0 := ⟨[], World.ownsRow_nil _ _ _ _, Nat.zero_le _, fun j h => absurd h (by omega)⟩
theorem XCts.nil (w : World) (lo N : Nat) : XCts w lo N (.slice none 0 0) 0 := ⟨[], World.ownsRow_nil _ _ _ _, Nat.zero_le _, fun j h => absurd h (by omega)⟩
theorem XTys.of_row {xs : List Value} (h : w.ownsRow lo 33 2 v n xs) (hn : n ≤ N) (hx : ∀ j, j < n → ∃ a b, xs[j * 2]? = some (.int .i64 a) ∧ xs[j * 2 + 1]? = some (.int .i64 b)) : XTys w lo N v n := ⟨xs, h, hn, hx⟩
theorem get_left {xs ys : List Value} {k : Nat} {v : Value} (h : xs[k]? = some v) : (xs ++ ys)[k]? = some v := by
  have hk : k < xs.length := by
    rcases Nat.lt_or_ge k xs.length with h1 | h1
    · exact h1
    · rw [List.getElem?_eq_none h1] at h; cases h
  rw [List.getElem?_append_left hk]; exact h
theorem CKind.left {xs ys : List Value} {j : Nat} (h : CKind w lo N xs j) : CKind w lo N (xs ++ ys) j := by
  obtain ⟨s, a, m, x, h1, h2, h3, h4, h5⟩ := h
  exact ⟨s, a, m, x, get_left h1, h2, get_left h3, h4, get_left h5⟩
theorem DKind.left {xs ys : List Value} {j : Nat} (h : DKind w lo N xs j) : DKind w lo N (xs ++ ys) j := by
  obtain ⟨s, a, m, h1, h2, h3, h4⟩ := h
  exact ⟨s, a, m, get_left h1, h2, get_left h3, h4⟩
theorem XTys.app {xs : List Value} {a b : Int} (hx : ∀ j, j < n → ∃ a b, xs[j * 2]? = some (.int .i64 a) ∧ xs[j * 2 + 1]? = some (.int .i64 b)) (hl : xs.length = n * 2) (hr : w.ownsRow lo 33 2 v (n + 1) (xs ++ [.int .i64 a, .int .i64 b])) (hN : n + 1 ≤ N) : XTys w lo N v (n + 1) :=
  ⟨_, hr, hN, fun j hj => by
    by_cases e : j < n
    · obtain ⟨a, b, h1, h2⟩ := hx j e
      exact ⟨a, b, get_left h1, get_left h2⟩
    · have : j = n := by omega
      subst this
      exact ⟨a, b, by rw [List.getElem?_append_right (by omega), hl]; simp, by rw [List.getElem?_append_right (by omega), hl]; simp⟩⟩
theorem XCts.app {xs : List Value} {s : ByteArray} {u : Value} {m : Nat} {i : Int} (hx : ∀ j, j < n → CKind w lo N xs j) (hl : xs.length = n * 3) (hs : s.size ≤ maxLen) (hu : XTys w lo N u m) (hr : w.ownsRow lo 31 3 v (n + 1) (xs ++ [.string s, u, .int .i64 i])) (hN : n + 1 ≤ N) : XCts w lo N v (n + 1) :=
  ⟨_, hr, hN, fun j hj => by
    by_cases e : j < n
    · exact (hx j e).left
    · have : j = n := by omega
      subst this
      exact ⟨s, u, m, i, by rw [List.getElem?_append_right (by omega), hl]; simp, hs, by rw [List.getElem?_append_right (by omega), hl]; simp, hu, by rw [List.getElem?_append_right (by omega), hl]; simp⟩⟩
theorem XDas.app {xs : List Value} {s : ByteArray} {u : Value} {m : Nat} (hx : ∀ j, j < n → DKind w lo N xs j) (hl : xs.length = n * 2) (hs : s.size ≤ maxLen) (hu : XCts w lo N u m) (hr : w.ownsRow lo 28 2 v (n + 1) (xs ++ [.string s, u])) (hN : n + 1 ≤ N) : XDas w lo N v (n + 1) :=
  ⟨_, hr, hN, fun j hj => by
    by_cases e : j < n
    · exact (hx j e).left
    · have : j = n := by omega
      subst this
      exact ⟨s, u, m, by rw [List.getElem?_append_right (by omega), hl]; simp, hs, by rw [List.getElem?_append_right (by omega), hl]; simp, hu⟩⟩

/-- A list of what is there. -/
theorem list_of {α : Type} [Inhabited α] {P : Nat → α → Prop} : ∀ n, (∀ j, j < n → ∃ a, P j a) → ∃ l : List α, l.length = n ∧ ∀ j (h : j < l.length), P j l[j]
  | 0, _ => ⟨[], rfl, fun j h => absurd h (by simp)⟩
  | n + 1, h => by
    obtain ⟨l, hl, hp⟩ := list_of n (fun j hj => h j (by omega))
    obtain ⟨a, ha⟩ := h n (by omega)
    refine ⟨l ++ [a], by simp [hl], fun j hj => ?_⟩
    by_cases e : j < l.length
    · rw [List.getElem_append_left e]; exact hp j e
    · have e' : j = n := by simp at hj; omega
      subst e'
      have : (l ++ [a])[j] = a := by simp [hl]
      rw [this]; exact ha
theorem XTys.list (h : XTys w lo N v n) : ∃ l : List Ty, l.length = n ∧ OTys w lo v l l.length := by
  obtain ⟨xs, ho, hn, hx⟩ := h
  obtain ⟨l, hl, hp⟩ := list_of (P := fun j (t : Ty) => xs[j * 2]? = some (.int .i64 t.data) ∧ xs[j * 2 + 1]? = some (.int .i64 t.index)) n (fun j hj => by
    obtain ⟨a, b, h1, h2⟩ := hx j hj
    exact ⟨⟨a, b⟩, h1, h2⟩)
  exact ⟨l, hl, xs, by rw [hl]; exact ho, fun j hj _ => hp j hj⟩
def SmallT (N : Nat) (l : List Ty) : Prop := l.length ≤ N
def SmallC (N : Nat) (cs : List Ct) : Prop := cs.length ≤ N ∧ ∀ c ∈ cs, c.args.length ≤ N
def SmallD (N : Nat) (l : List Da) : Prop := l.length ≤ N ∧ ∀ d ∈ l, SmallC N d.ctors
theorem XCts.list (h : XCts w lo N v n) (hN : N ≤ maxLen) : ∃ cs : List Ct, cs.length = n ∧ OCts w lo v cs ∧ SmallC N cs := by
  obtain ⟨xs, ho, hn, hx⟩ := h
  obtain ⟨l, hl, hp⟩ := list_of (P := fun j (c : Ct) => (∃ v, xs[j * 3]? = some (.string c.name) ∧ xs[j * 3 + 1]? = some v ∧ xs[j * 3 + 2]? = some (.int .i64 c.index) ∧ c.name.size ≤ maxLen ∧ c.args.length ≤ maxLen ∧ OTys w lo v c.args c.args.length) ∧ c.args.length ≤ N) n (fun j hj => by
    obtain ⟨s, u, m, i, h1, h2, h3, h4, h5⟩ := hx j hj
    obtain ⟨L, hL, hO⟩ := h4.list
    have hm : m ≤ N := h4.choose_spec.2.1
    exact ⟨⟨s, L, i⟩, ⟨u, h1, h3, h5, h2, by simp only; omega, hO⟩, by simp only; omega⟩)
  refine ⟨l, hl, ⟨xs, by rw [hl]; exact ho, fun j hj => (hp j hj).1⟩, by omega, fun c hc => ?_⟩
  obtain ⟨j, hj, rfl⟩ := List.getElem_of_mem hc
  exact (hp j hj).2
theorem XDas.list (h : XDas w lo N v n) (hN : N ≤ maxLen) : ∃ l : List Da, l.length = n ∧ ODas w lo v l ∧ SmallD N l := by
  obtain ⟨xs, ho, hn, hx⟩ := h
  obtain ⟨l, hl, hp⟩ := list_of (P := fun j (d : Da) => (∃ v, xs[j * 2]? = some (.string d.name) ∧ xs[j * 2 + 1]? = some v ∧ d.name.size ≤ maxLen ∧ d.ctors.length ≤ maxLen ∧ OCts w lo v d.ctors) ∧ SmallC N d.ctors) n (fun j hj => by
    obtain ⟨s, u, m, h1, h2, h3, h4⟩ := hx j hj
    obtain ⟨L, hL, hO, hS⟩ := h4.list hN
    have hm : m ≤ N := h4.choose_spec.2.1
    exact ⟨⟨s, L⟩, ⟨u, h1, h3, h2, by simp only; omega, hO⟩, hS⟩)
  refine ⟨l, hl, ⟨xs, by rw [hl]; exact ho, fun j hj => (hp j hj).1⟩, by omega, fun c hc => ?_⟩
  obtain ⟨j, hj, rfl⟩ := List.getElem_of_mem hc
  exact (hp j hj).2
theorem XDas.lies (h : XDas w lo N v n) (hN : N ≤ maxLen) : ∃ l : List Da, l.length = n ∧ Lies w lo v l ∧ SmallD N l := by
  obtain ⟨l, hl, ho, hs⟩ := h.list hN
  exact ⟨l, hl, ho.lies (by have := hs.1; omega), hs⟩
theorem XTys.lower {lo' : Nat} (h : XTys w lo N v n) (hl : lo' ≤ lo) : XTys w lo' N v n := by
  obtain ⟨xs, ho, hn, hx⟩ := h
  exact ⟨xs, row_lower ho hl, hn, hx⟩
theorem XCts.lower {lo' : Nat} (h : XCts w lo N v n) (hl : lo' ≤ lo) : XCts w lo' N v n := by
  obtain ⟨xs, ho, hn, hx⟩ := h
  refine ⟨xs, row_lower ho hl, hn, fun j hj => ?_⟩
  obtain ⟨s, u, m, i, h1, h2, h3, h4, h5⟩ := hx j hj
  exact ⟨s, u, m, i, h1, h2, h3, h4.lower hl, h5⟩
theorem XDas.lower {lo' : Nat} (h : XDas w lo N v n) (hl : lo' ≤ lo) : XDas w lo' N v n := by
  obtain ⟨xs, ho, hn, hx⟩ := h
  refine ⟨xs, row_lower ho hl, hn, fun j hj => ?_⟩
  obtain ⟨s, u, m, h1, h2, h3, h4⟩ := hx j hj
  exact ⟨s, u, m, h1, h2, h3, h4.lower hl⟩
theorem row_form {e : TypeId} {size : Nat} {xs : List Value} (h : w.ownsRow lo e size v n xs) : ∃ A cap, v = .slice A n cap := by
  rcases h.2 with ⟨rfl, rfl⟩ | ⟨g, cap, cur, rfl, _⟩
  · exact ⟨none, 0, rfl⟩
  · exact ⟨_, _, rfl⟩
theorem XTys.form (h : XTys w lo N v n) : ∃ A cap, v = .slice A n cap := row_form h.choose_spec.1
theorem XCts.form (h : XCts w lo N v n) : ∃ A cap, v = .slice A n cap := row_form h.choose_spec.1
theorem XDas.form (h : XDas w lo N v n) : ∃ A cap, v = .slice A n cap := row_form h.choose_spec.1
theorem row_at {e : TypeId} {size : Nat} {xs : List Value} (h : w.ownsRow lo e size v n xs) (hn : 0 < n) : ∃ g cap, v = .slice (some ⟨g, 0, none⟩) n cap ∧ lo ≤ g ∧ g < w.heap.size ∧ (∃ cs, w.heap[g]? = some (.cells cs e (0, 0))) ∧ ∀ j u, xs[j]? = some u → w.cell? ⟨g, j, none⟩ = some u := by
  rcases h.2 with ⟨rfl, h0⟩ | ⟨g, cap, cur, rfl, hb, hg, hnc, hcm, hcs, htake⟩
  · omega
  · refine ⟨g, cap, rfl, hb, heap_lt hg, ⟨cur, hg⟩, fun j u hu => ?_⟩
    rw [cell_of_blk hg j]
    rw [← htake, List.getElem?_take] at hu
    split at hu
    · simpa using hu
    · cases hu
theorem XDas.at_ {k : Nat} (h : XDas w lo N v n) (hk : k < n) : ∃ g cap s u m, v = .slice (some ⟨g, 0, none⟩) n cap ∧ lo ≤ g ∧ g < w.heap.size ∧ (∃ cs, w.heap[g]? = some (.cells cs 28 (0, 0))) ∧ w.cell? ⟨g, k * 2, none⟩ = some (.string s) ∧ s.size ≤ maxLen ∧ w.cell? ⟨g, k * 2 + 1, none⟩ = some u ∧ XCts w lo N u m := by
  obtain ⟨xs, ho, hn, hx⟩ := h
  obtain ⟨g, cap, e, hl, hg, ht, hc⟩ := row_at ho (by omega)
  obtain ⟨s, u, m, h1, h2, h3, h4⟩ := hx k hk
  exact ⟨g, cap, s, u, m, e, hl, hg, ht, hc _ _ h1, h2, hc _ _ h3, h4⟩
theorem XCts.at_ {k : Nat} (h : XCts w lo N v n) (hk : k < n) : ∃ g cap s u m i, v = .slice (some ⟨g, 0, none⟩) n cap ∧ lo ≤ g ∧ g < w.heap.size ∧ (∃ cs, w.heap[g]? = some (.cells cs 31 (0, 0))) ∧ w.cell? ⟨g, k * 3, none⟩ = some (.string s) ∧ s.size ≤ maxLen ∧ w.cell? ⟨g, k * 3 + 1, none⟩ = some u ∧ XTys w lo N u m ∧ w.cell? ⟨g, k * 3 + 2, none⟩ = some (.int .i64 i) := by
  obtain ⟨xs, ho, hn, hx⟩ := h
  obtain ⟨g, cap, e, hl, hg, ht, hc⟩ := row_at ho (by omega)
  obtain ⟨s, u, m, i, h1, h2, h3, h4, h5⟩ := hx k hk
  exact ⟨g, cap, s, u, m, i, e, hl, hg, ht, hc _ _ h1, h2, hc _ _ h3, h4, hc _ _ h5⟩
theorem OTys.x {l : List Ty} (h : OTys w lo v l l.length) (hs : l.length ≤ N) : XTys w lo N v l.length := by
  obtain ⟨xs, ho, hx⟩ := h
  exact ⟨xs, ho, hs, fun j hj => ⟨_, _, (hx j hj hj).1, (hx j hj hj).2⟩⟩
theorem OCts.x {cs : List Ct} (h : OCts w lo v cs) (hs : SmallC N cs) : XCts w lo N v cs.length := by
  obtain ⟨xs, ho, hx⟩ := h
  refine ⟨xs, ho, hs.1, fun j hj => ?_⟩
  obtain ⟨u, h1, h2, h3, h4, h5, h6⟩ := hx j hj
  exact ⟨_, u, _, _, h1, h4, h2, h6.x (hs.2 _ (List.getElem_mem hj)), h3⟩
theorem ODas.x {l : List Da} (h : ODas w lo v l) (hs : SmallD N l) : XDas w lo N v l.length := by
  obtain ⟨xs, ho, hx⟩ := h
  refine ⟨xs, ho, hs.1, fun j hj => ?_⟩
  obtain ⟨u, h1, h2, h3, h4, h5⟩ := hx j hj
  exact ⟨_, u, _, h1, h3, h2, h5.x (hs.2 _ (List.getElem_mem hj))⟩
end
end Go.Proofs.Ytholdmdkhbhokab
/-
  The function FnExactTypeValid returns true for every list of data types and every type, and both read behind the call as they read before. No condition.
-/
namespace Go.Proofs.Ytholdmdkhbhokab
open Go.RowKit Go.Deep
open Go.ChangeShapes Go.WideShapes Go.ChangeAt
set_option maxRecDepth 100000
set_option linter.unusedVariables false

/-- A type in a block of its own. -/
def Bx (w : World) (b : Nat) (t : Ty) : Prop := w.cell? ⟨b, 0, none⟩ = some (.int .i64 t.data) ∧ w.cell? ⟨b, 1, none⟩ = some (.int .i64 t.index)
theorem Bx.at_ {w w' : World} {b : Nat} {t : Ty} (h : Bx w b t) (hb : Below w.heap.size w w') : Bx w' b t :=
  ⟨(hb.cell (p := ⟨b, 0, none⟩) (Go.block_lt_of_cell h.1)).trans h.1, (hb.cell (p := ⟨b, 1, none⟩) (Go.block_lt_of_cell h.2)).trans h.2⟩
theorem Bx.new (w : World) (t : Ty) (T : TypeId) : Bx (w.alloc (.cells #[.int .i64 t.data, .int .i64 t.index] T)) w.heap.size t := ⟨by simp [go_sem], by simp [go_sem]⟩
theorem below_drew1 {w wr : World} (h : Below w.heap.size w wr) : Below w.heap.size w wr.drew := h.drew

end Go.Proofs.Ytholdmdkhbhokab
/-
  The texts of types and constructors: the document's functions. No statement is proved here.
-/
namespace Go.Proofs.Ytholdmdkhbhokab
open Go.RowKit Go.Deep
set_option maxRecDepth 100000
set_option linter.unusedVariables false

theorem ret_str {a b : ByteArray} (h : a = b) : Ending.returned (.string a) = .returned (.string b) := by rw [h]
/-- A digit. -/
def dig (n : Int) : ByteArray := one (48 + n) ++ ⟨#[]⟩
theorem dig_size (n : Int) : (dig n).size = 1 := rfl
def ixT (i : Int) : ByteArray := if i = 0 then ⟨#[]⟩ else if i = -1 then ⟨#[42]⟩ else dig i
theorem ixT_size (i : Int) : (ixT i).size ≤ 1 := by
  unfold ixT
  split
  · exact Nat.zero_le _
  · split
    · exact Nat.le_refl _
    · rw [dig_size]; exact Nat.le_refl _
theorem dec_any (n : Int) (w : World) (h0 : 0 ≤ n) (h9 : n ≤ 9) :
    Calls Try.prog 128 #[.int .i64 n] w fun e w' => e = .returned (.string (dig n)) ∧ Below w.heap.size w w' := by
  have hcv := conv_one w (48 + n)
  have hos := one_size (48 + n)
  have HB : Hid (∀ o : Obj, Below w.heap.size w (w.alloc o)) := fun o => (Below.refl _ _).alloc (Nat.le_refl _) _
  have HD : Hid (dig n = one (48 + n) ++ ⟨#[]⟩) := rfl
  go_enter Try.func128, Try.ntmps128
  go_wp2_with fail
  go_loop [0, 3] (fun q t => q = .int .i64 n ∧ t = .string ⟨#[]⟩) (fun _ _ => 0)
  case atStart => exact ⟨rfl, rfl⟩
  case round =>
    obtain ⟨rfl, rfl⟩ := hrel
    go_wp2_with fail
    go_ret
    exact ⟨ret_str HD.out.symm, HB.out _⟩
theorem idx_any (i : Int) (w : World) (h0 : -1 ≤ i) (h9 : i ≤ 9) :
    Calls Try.prog 133 #[.int .i64 i] w fun e w' => e = .returned (.string (ixT i)) ∧ Below w.heap.size w w' := by
  by_cases h1 : i = 0
  · have q := ieq_t h1
    have HD : Hid (ixT i = ⟨#[]⟩) := if_pos h1
    clear h1
    go_enter Try.func133, Try.ntmps133
    go_wp2_with fail
    go_ret
    exact ⟨ret_str HD.out.symm, Below.refl _ _⟩
  · by_cases h2 : i = -1
    · have q := ieq_f h1
      have q2 := ieq_t h2
      have HD : Hid (ixT i = ⟨#[42]⟩) := by unfold Hid ixT; rw [if_neg h1, if_pos h2]
      clear h1 h2
      go_enter Try.func133, Try.ntmps133
      go_wp2_with fail
      go_ret
      exact ⟨ret_str HD.out.symm, Below.refl _ _⟩
    · have q := ieq_f h1
      have q2 := ieq_f h2
      have HD : Hid (ixT i = dig i) := by unfold Hid ixT; rw [if_neg h1, if_neg h2]
      have h3 : 0 ≤ i := by omega
      clear h1 h2
      go_enter Try.func133, Try.ntmps133
      go_wp2_with fail
      refine (dec_any _ _ h3 h9).mono ?_
      rintro e w1 ⟨rfl, hb⟩
      go_wp2_with fail
      go_ret
      exact ⟨ret_str HD.out.symm, hb⟩

/-- The text of a type. -/
def tyT (l : List Da) (t : Ty) : ByteArray := if t.data = -1 then ⟨#[73]⟩ else (l.getD t.data.toNat default).name ++ ixT t.index
theorem tyT_int {l : List Da} {t : Ty} (h : t.data = -1) : tyT l t = ⟨#[73]⟩ := if_pos h
theorem tyT_data {l : List Da} {d : Nat} {i : Int} (hd : d < l.length) : tyT l ⟨d, i⟩ = l[d].name ++ ixT i := by
  have e : l.getD d default = l[d] := by simp [List.getD, List.getElem?_eq_getElem hd]
  unfold tyT
  rw [if_neg (by simp only; omega)]
  simp only [Int.toNat_natCast, e]
theorem type_int (A : Option Addr) (n cap : Nat) (i : Int) (w : World) :
    Calls Try.prog 127 #[.slice A n cap, .agg #[.int .i64 (-1), .int .i64 i]] w fun e w' => e = .returned (.string ⟨#[73]⟩) ∧ Below w.heap.size w w' := by
  have HB : Hid (∀ o : Obj, Below w.heap.size w (w.alloc o)) := fun o => (Below.refl _ _).alloc (Nat.le_refl _) _
  go_enter Try.func127, Try.ntmps127
  go_wp2_with fail
  go_ret
  exact ⟨rfl, HB.out _⟩
set_option maxHeartbeats 800000 in
theorem type_data (A : Option Addr) (l : List Da) (cap d : Nat) (i : Int) (w : World) (hr : RDas w w.heap.size A l) (hd : d < l.length) (hn : l[d].name.size ≤ 100) (h0 : -1 ≤ i) (h9 : i ≤ 9) :
    Calls Try.prog 127 #[.slice A l.length cap, .agg #[.int .i64 d, .int .i64 i]] w fun e w' => e = .returned (.string (l[d].name ++ ixT i)) ∧ Below w.heap.size w w' := by
  have hm := hr.1
  unfold maxLen at hm
  obtain ⟨b, off, rfl, hbB, A', cp, c0, c1, _, _⟩ := hr.2 d hd
  clear hr c1
  have q0 : ((d : Int) == -1) = false := ieq_f (by omega)
  have hdI : (d : Int) < (l.length : Int) := by omega
  have hd0 : (0 : Int) ≤ (d : Int) := Int.natCast_nonneg _
  have hxs := ixT_size i
  generalize hw0 : w.alloc (.cells #[.int .i64 d, .int .i64 i] 33) = w0
  have x0 : w0.cell? ⟨w.heap.size, 0, none⟩ = some (.int .i64 d) := by rw [← hw0]; simp [go_sem]
  have x1 : w0.cell? ⟨w.heap.size, 1, none⟩ = some (.int .i64 i) := by rw [← hw0]; simp [go_sem]
  have x2 : w0.cell? ⟨b, off + d * 2, none⟩ = some (.string l[d].name) := by rw [← hw0]; exact (World.cell?_alloc_lt _ _ _ hbB).trans c0
  have hb0 : Below w.heap.size w w0 := by rw [← hw0]; exact (Below.refl _ _).alloc (Nat.le_refl _) _
  have HW := Lib.hid hw0
  clear hw0 c0
  go_enter Try.func127, Try.ntmps127
  go_wp2_with fail
  rw [HW.out]
  have hadd : ∀ w : World, (Op.stringOp .add l[d].name (ixT i)).run Try.prog w = .ok (.string (l[d].name ++ ixT i)) w := fun w => run_string_add_sum w _ _ (by omega)
  go_region_held3 (fun w' => w'.cell? ⟨w.heap.size, 0, none⟩ = some (.int .i64 d) ∧ w'.cell? ⟨w.heap.size, 1, none⟩ = some (.int .i64 i) ∧ w'.cell? ⟨b, off + d * 2, none⟩ = some (.string l[d].name)) (first | exact ⟨x0, x1, x2⟩ | exact ⟨y0, y1, y2⟩ | go_keep) (first | (go_at_call 133; refine (idx_any _ _ h0 h9).mono ?_; rintro e w1 ⟨rfl, hb1⟩; have hb1' : Below w0.heap.size w0 w1 := ⟨hb1.os, hb1.tape, hb1.output, hb1.size, hb1.block⟩; have y0 := (hb1'.cell (p := ⟨w.heap.size, 0, none⟩) (Go.block_lt_of_cell x0)).trans x0; have y1 := (hb1'.cell (p := ⟨w.heap.size, 1, none⟩) (Go.block_lt_of_cell x1)).trans x1; have y2 := (hb1'.cell (p := ⟨b, off + d * 2, none⟩) (Go.block_lt_of_cell x2)).trans x2))
  have hbF := below_after hb0 hb1' hb0.size
  go_wp2_with fail
  go_ret
  exact ⟨rfl, hbF⟩
end Go.Proofs.Ytholdmdkhbhokab
/-
  The texts of constructors and worlds: the document's functions. No statement is proved here.
-/
namespace Go.Proofs.Ytholdmdkhbhokab
open Go.RowKit Go.Deep
set_option maxRecDepth 100000
set_option linter.unusedVariables false

/-- A type that can be that of an argument; the names are not long. -/
def ArgIn (n : Nat) (t : Ty) : Prop := (t.data = -1 ∨ (0 ≤ t.data ∧ t.data < n)) ∧ -1 ≤ t.index ∧ t.index ≤ 3
def Short (l : List Da) : Prop := ∀ d (h : d < l.length), l[d].name.size ≤ 100
def CtIn (n : Nat) (c : Ct) : Prop := c.name.size ≤ 100 ∧ c.args.length ≤ 3 ∧ 0 ≤ c.index ∧ c.index ≤ 3 ∧ ∀ a ∈ c.args, ArgIn n a
theorem tyT_size {l : List Da} {t : Ty} (hs : Short l) (ht : ArgIn l.length t) : (tyT l t).size ≤ 101 := by
  obtain ⟨d, i⟩ := t
  rcases ht.1 with h | ⟨h0, h1⟩
  · rw [tyT_int h]; decide
  · simp only at h0 h1
    obtain ⟨k, rfl⟩ : ∃ k : Nat, d = k := ⟨d.toNat, by omega⟩
    rw [tyT_data (by omega : k < l.length), ByteArray.size_append]
    have := hs k (by omega)
    have := ixT_size i
    omega
theorem type_any (A : Option Addr) (l : List Da) (cap : Nat) (t : Ty) (s : ByteArray) (w : World) (hr : RDas w w.heap.size A l) (hs : Short l) (ht : ArgIn l.length t) (he : tyT l t = s) :
    Calls Try.prog 127 #[.slice A l.length cap, .agg #[.int .i64 t.data, .int .i64 t.index]] w fun e w' => e = .returned (.string s) ∧ Below w.heap.size w w' := by
  subst he
  obtain ⟨d, i⟩ := t
  by_cases h : d = -1
  · subst h
    rw [tyT_int rfl]
    exact type_int A l.length cap i w
  · have h1 := ht.1.resolve_left h
    simp only at h1
    obtain ⟨k, rfl⟩ : ∃ k : Nat, d = k := ⟨d.toNat, by omega⟩
    rw [tyT_data (by omega : k < l.length)]
    exact type_data A l cap k i w hr (by omega) (hs k (by omega)) ht.2.1 (by have := ht.2.2; simp only at this; omega)

def argAcc (l : List Da) (c : Ct) : Nat → ByteArray
  | 0 => c.name
  | k + 1 => (argAcc l c k ++ (if k = 0 then ⟨#[40]⟩ else ⟨#[44]⟩)) ++ tyT l (c.args.getD k default)
/-- The text of a constructor. -/
def ctT2 (l : List Da) (c : Ct) : ByteArray := if 0 < c.args.length then argAcc l c c.args.length ++ ⟨#[41]⟩ else argAcc l c c.args.length
def ctT (l : List Da) (c : Ct) : ByteArray := if 0 < c.index then (ctT2 l c ++ ⟨#[58]⟩) ++ dig c.index else ctT2 l c
theorem argAcc_at {l : List Da} {c : Ct} {k : Nat} (h : k < c.args.length) : argAcc l c (k + 1) = (argAcc l c k ++ (if k = 0 then ⟨#[40]⟩ else ⟨#[44]⟩)) ++ tyT l c.args[k] := by
  have e : c.args.getD k default = c.args[k] := by simp [List.getD, List.getElem?_eq_getElem h]
  show (argAcc l c k ++ (if k = 0 then ⟨#[40]⟩ else ⟨#[44]⟩)) ++ tyT l (c.args.getD k default) = _
  rw [e]
theorem argAcc_size {l : List Da} {c : Ct} (hs : Short l) (hc : CtIn l.length c) : ∀ k, k ≤ c.args.length → (argAcc l c k).size ≤ 100 + 102 * k
  | 0, _ => hc.1
  | k + 1, hk => by
    have h1 := argAcc_size hs hc k (by omega)
    have h2 := tyT_size hs (hc.2.2.2.2 _ (List.getElem_mem (by omega : k < c.args.length)))
    rw [argAcc_at (by omega), ByteArray.size_append, ByteArray.size_append]
    have h3 : (if k = 0 then (⟨#[40]⟩ : ByteArray) else ⟨#[44]⟩).size = 1 := by split <;> rfl
    omega
theorem ctT2_size {l : List Da} {c : Ct} (hs : Short l) (hc : CtIn l.length c) : (ctT2 l c).size ≤ 500 := by
  have h1 := argAcc_size hs hc c.args.length (Nat.le_refl _)
  have h2 := hc.2.1
  unfold ctT2
  split
  · rw [ByteArray.size_append]; have : (ByteArray.mk #[41]).size = 1 := rfl; omega
  · omega
theorem ctT_size {l : List Da} {c : Ct} (hs : Short l) (hc : CtIn l.length c) : (ctT l c).size ≤ 510 := by
  have h1 := ctT2_size hs hc
  unfold ctT
  split
  · rw [ByteArray.size_append, ByteArray.size_append, dig_size]; have : (ByteArray.mk #[58]).size = 1 := rfl; omega
  · omega

set_option maxHeartbeats 1600000 in
theorem ctorText_any (A D : Option Addr) (l : List Da) (c : Ct) (cap ep : Nat) (w : World) (hr : RDas w w.heap.size A l) (ha : RTys w w.heap.size D c.args) (hs : Short l) (hc : CtIn l.length c) :
    Calls Try.prog 108 #[.slice A l.length cap, .agg #[.string c.name, .slice D c.args.length ep, .int .i64 c.index]] w fun e w' => e = .returned (.string (ctT l c)) ∧ Below w.heap.size w w' := by
  have Hr := Lib.hid hr
  have HA := Lib.hid ha
  have HS := Lib.hid hs
  have HC := Lib.hid hc
  have h3 := hc.2.1
  have hi0 := hc.2.2.1
  have hi3 := hc.2.2.2.1
  have hT2 := ctT2_size hs hc
  have HZ : Hid (∀ k, k ≤ c.args.length → (argAcc l c k).size ≤ 100 + 102 * k) := argAcc_size hs hc
  clear hr ha hs hc
  generalize hw0 : w.alloc (.cells #[.string c.name, .slice D c.args.length ep, .int .i64 c.index] 31) = w0
  have x0 : w0.cell? ⟨w.heap.size, 0, none⟩ = some (.string c.name) := by rw [← hw0]; simp [go_sem]
  have HX : Hid (Box3 w0 w.heap.size c.name (.slice D c.args.length ep) c.index) := by rw [← hw0]; exact heap_alloc_new w _
  have hb0 : Below w.heap.size w w0 := by rw [← hw0]; exact (Below.refl _ _).alloc (Nat.le_refl _) _
  have HW := Lib.hid hw0
  clear hw0
  go_enter Try.func108, Try.ntmps108
  go_wp2_with fail
  rw [HW.out]
  clear HW x0
  go_loopw [5, 6] (fun t i wr => ∃ k : Nat, k ≤ c.args.length ∧ i = .int .i64 k ∧ t = .string (argAcc l c k) ∧ Below w0.heap.size w0 wr) (fun _ i _ => c.args.length - (intOf i).toNat)
  case atStart => exact ⟨0, by omega, rfl, rfl, Below.refl _ _⟩
  case round =>
    obtain ⟨k, hk, rfl, rfl, hb⟩ := hrel
    have hbx := HX.out.at_ hb
    have b0 := hbx.c0
    have b1 := hbx.c1
    have b2 := hbx.c2
    have hbw : Below w.heap.size w wr := below_after hb0 hb hb0.size
    have hz := HZ.out k hk
    by_cases hlt : k < c.args.length
    · have hkI : (k : Int) < (c.args.length : Int) := by omega
      obtain ⟨g, o, rfl, hgB, y0, y1⟩ := (HA.out.below hbw (Nat.le_refl _)).2 k hlt
      have HIN := Lib.hid (HC.out.2.2.2.2 _ (List.getElem_mem hlt))
      have HAT := Lib.hid (argAcc_at (l := l) hlt)
      have hts := tyT_size HS.out HIN.out
      have HRr : Hid (RDas wr wr.heap.size A l) := Hr.out.keep (fun p hp => hbw.cell hp) hbw.size
      generalize hu : tyT l c.args[k] = u at hts HAT
      have HU := Lib.hid hu
      generalize argAcc l c k = a at hz HAT
      clear hu
      by_cases h0 : k = 0
      · have q := ieq_t (show (k : Int) = 0 by omega)
        rw [if_pos h0] at HAT
        clear h0
        go_wp2_with fail
        refine (type_any _ l _ _ u _ HRr.out HS.out HIN.out HU.out).mono ?_
        rintro e w1 ⟨rfl, hb1⟩
        have hb2 := hb.trans (hb1.mono hb.size)
        go_wp2_with fail
        go_roundw
        case rel => exact ⟨k + 1, by omega, by go_num, by rw [HAT.out], hb2⟩
        case measure => simp [intOf]; omega
      · have q := ieq_f (show ¬ (k : Int) = 0 by omega)
        rw [if_neg h0] at HAT
        clear h0
        go_wp2_with fail
        refine (type_any _ l _ _ u _ HRr.out HS.out HIN.out HU.out).mono ?_
        rintro e w1 ⟨rfl, hb1⟩
        have hb2 := hb.trans (hb1.mono hb.size)
        go_wp2_with fail
        go_roundw
        case rel => exact ⟨k + 1, by omega, by go_num, by rw [HAT.out], hb2⟩
        case measure => simp [intOf]; omega
    · have he : k = c.args.length := by omega
      have hkI : (c.args.length : Int) ≤ (k : Int) := by omega
      by_cases hp : 0 < c.args.length
      · have hpI : (0 : Int) < (c.args.length : Int) := by omega
        have HT2 : Hid (ctT2 l c = argAcc l c k ++ ⟨#[41]⟩) := by unfold Hid ctT2; rw [if_pos hp, he]
        generalize argAcc l c k = a at hz HT2
        by_cases hx : 0 < c.index
        · have HT : Hid (ctT l c = (ctT2 l c ++ ⟨#[58]⟩) ++ dig c.index) := if_pos hx
          have hds := dig_size c.index
          generalize hdd : dig c.index = dd at hds HT
          have HDD := Lib.hid hdd
          clear hdd he
          go_wp2_with fail
          refine (dec_any _ _ hi0 (by omega)).mono ?_
          rw [HDD.out]
          rintro e w1 ⟨rfl, hb1⟩
          have hb2 := below_after hbw hb1 hbw.size
          go_wp2_with fail
          go_ret
          exact ⟨ret_str (by rw [HT.out, HT2.out]), hb2⟩
        · have HT : Hid (ctT l c = ctT2 l c) := if_neg hx
          have hxI : c.index ≤ 0 := by omega
          clear he
          go_wp2_with fail
          go_ret
          exact ⟨ret_str (by rw [HT.out, HT2.out]), hbw⟩
      · have hpI : (c.args.length : Int) ≤ 0 := by omega
        have HT2 : Hid (ctT2 l c = argAcc l c k) := by unfold Hid ctT2; rw [if_neg hp, he]
        generalize argAcc l c k = a at hz HT2
        by_cases hx : 0 < c.index
        · have HT : Hid (ctT l c = (ctT2 l c ++ ⟨#[58]⟩) ++ dig c.index) := if_pos hx
          have hds := dig_size c.index
          generalize hdd : dig c.index = dd at hds HT
          have HDD := Lib.hid hdd
          clear hdd he
          go_wp2_with fail
          refine (dec_any _ _ hi0 (by omega)).mono ?_
          rw [HDD.out]
          rintro e w1 ⟨rfl, hb1⟩
          have hb2 := below_after hbw hb1 hbw.size
          go_wp2_with fail
          go_ret
          exact ⟨ret_str (by rw [HT.out, HT2.out]), hb2⟩
        · have HT : Hid (ctT l c = ctT2 l c) := if_neg hx
          have hxI : c.index ≤ 0 := by omega
          clear he
          go_wp2_with fail
          go_ret
          exact ⟨ret_str (by rw [HT.out, HT2.out]), hbw⟩
end Go.Proofs.Ytholdmdkhbhokab
/-
  The text of a world: the document's function. No statement is proved here.
-/
namespace Go.Proofs.Ytholdmdkhbhokab
open Go.RowKit Go.Deep
set_option maxRecDepth 100000
set_option linter.unusedVariables false

theorem name_five {s : ByteArray} (h : nameB s = true) : s.size ≤ 5 := by
  by_cases h5 : s.size ≤ 5
  · exact h5
  · have := name_long (s := s) (by omega); rw [h] at this; cases this
theorem ct_in {n : Nat} {c : Ct} (h : ctorB n c = true) : CtIn n c := by
  obtain ⟨h1, h2⟩ := ctor_parts h
  have hn : nameB c.name = true ∧ c.args.length ≤ 3 := by
    unfold ctorB at h
    simp only [Bool.and_eq_true, decide_eq_true_eq] at h
    exact ⟨h.1, h.2.1⟩
  have := name_five hn.1
  refine ⟨by omega, hn.2, h1.1, h1.2, fun a ha => ?_⟩
  have hB := h2 a ha
  by_cases hb : a.data = -1
  · rw [argB_int hb] at hB
    have : a.index = 0 := of_decide_eq_true hB
    exact ⟨.inl hb, by omega, by omega⟩
  · rw [argB_data hb] at hB
    have := of_decide_eq_true hB
    exact ⟨.inr ⟨this.1, this.2.1⟩, this.2.2.1, this.2.2.2⟩
theorem world_ct_in {l : List Da} (h : WorldOK l) {d m : Nat} (hd : d < l.length) (hm : m < l[d].ctors.length) : CtIn l.length l[d].ctors[m] := ct_in (world_ctor h hd hm)
theorem world_short {l : List Da} (h : WorldOK l) : Short l := fun d hd => by
  have h1 := h.2.1 d hd hd
  unfold dataB dnameB at h1
  simp only [Bool.and_eq_true, decide_eq_true_eq] at h1
  omega
theorem world_four {l : List Da} (h : WorldOK l) {d : Nat} (hd : d < l.length) : l[d].ctors.length ≤ 4 := (data_len4 (h.2.1 d hd hd)).2

def ctsAcc (l : List Da) (base : ByteArray) (cs : List Ct) : Nat → ByteArray
  | 0 => base
  | k + 1 => (if k = 0 then ctsAcc l base cs k else ctsAcc l base cs k ++ ⟨#[124]⟩) ++ ctT l (cs.getD k default)
def headT (base : ByteArray) (d : Da) (k : Nat) : ByteArray := ((if k = 0 then base else base ++ ⟨#[59]⟩) ++ d.name) ++ ⟨#[61]⟩
def wAcc (l : List Da) : Nat → ByteArray
  | 0 => ⟨#[]⟩
  | k + 1 => ctsAcc l (headT (wAcc l k) (l.getD k default) k) (l.getD k default).ctors (l.getD k default).ctors.length
/-- The text of a world. -/
def wT (l : List Da) : ByteArray := wAcc l l.length
theorem ctsAcc_at {l : List Da} {base : ByteArray} {cs : List Ct} {k : Nat} (h : k < cs.length) : ctsAcc l base cs (k + 1) = (if k = 0 then ctsAcc l base cs k else ctsAcc l base cs k ++ ⟨#[124]⟩) ++ ctT l cs[k] := by
  have e : cs.getD k default = cs[k] := by simp [List.getD, List.getElem?_eq_getElem h]
  show (if k = 0 then ctsAcc l base cs k else ctsAcc l base cs k ++ ⟨#[124]⟩) ++ ctT l (cs.getD k default) = _
  rw [e]
theorem wAcc_at {l : List Da} {k : Nat} (h : k < l.length) : wAcc l (k + 1) = ctsAcc l (headT (wAcc l k) l[k] k) l[k].ctors l[k].ctors.length := by
  have e : l.getD k default = l[k] := by simp [List.getD, List.getElem?_eq_getElem h]
  show ctsAcc l (headT (wAcc l k) (l.getD k default) k) (l.getD k default).ctors (l.getD k default).ctors.length = _
  rw [e]
theorem ctsAcc_size {l : List Da} {base : ByteArray} {cs : List Ct} (hs : Short l) (hc : ∀ c ∈ cs, CtIn l.length c) : ∀ k, k ≤ cs.length → (ctsAcc l base cs k).size ≤ base.size + 511 * k
  | 0, _ => Nat.le_refl _
  | k + 1, hk => by
    have h1 := ctsAcc_size hs hc (base := base) k (by omega)
    have h2 := ctT_size hs (hc _ (List.getElem_mem (by omega : k < cs.length)))
    rw [ctsAcc_at (by omega), ByteArray.size_append]
    have h3 : (ByteArray.mk #[124]).size = 1 := rfl
    split
    · omega
    · rw [ByteArray.size_append]; omega
theorem headT_size (base : ByteArray) (d : Da) (k : Nat) : (headT base d k).size ≤ base.size + d.name.size + 2 := by
  have h3 : (ByteArray.mk #[59]).size = 1 := rfl
  have h4 : (ByteArray.mk #[61]).size = 1 := rfl
  unfold headT
  rw [ByteArray.size_append, ByteArray.size_append]
  split
  · omega
  · rw [ByteArray.size_append]; omega
theorem wAcc_size {l : List Da} (hw : WorldOK l) : ∀ k, k ≤ l.length → (wAcc l k).size ≤ 2200 * k
  | 0, _ => Nat.le_refl _
  | k + 1, hk => by
    have h1 := wAcc_size hw k (by omega)
    have h2 := world_short hw k (by omega)
    have h3 := world_four hw (by omega : k < l.length)
    rw [wAcc_at (by omega)]
    have h4 := ctsAcc_size (base := headT (wAcc l k) l[k] k) (world_short hw) (cs := l[k].ctors) (fun c hc => by
      obtain ⟨m, hm, rfl⟩ := List.getElem_of_mem hc
      exact world_ct_in hw (by omega) hm) l[k].ctors.length (Nat.le_refl _)
    have h5 := headT_size (wAcc l k) l[k] k
    omega

set_option maxHeartbeats 3000000 in
theorem text_any (A : Option Addr) (l : List Da) (cap : Nat) (w : World) (hr : RDas w w.heap.size A l) (hw : WorldOK l) :
    Calls Try.prog 94 #[.slice A l.length cap] w fun e w' => e = .returned (.string (wT l)) ∧ Below w.heap.size w w' := by
  have Hr := Lib.hid hr
  have HW := Lib.hid hw
  have hl4 := hw.1
  have HZ : Hid (∀ k, k ≤ l.length → (wAcc l k).size ≤ 2200 * k) := wAcc_size hw
  have HS := Lib.hid (world_short hw)
  clear hr hw
  go_enter Try.func94, Try.ntmps94
  go_wp2_with fail
  go_loopw [3, 4] (fun t i wr => ∃ k : Nat, k ≤ l.length ∧ i = .int .i64 k ∧ t = .string (wAcc l k) ∧ Below w.heap.size w wr) (fun _ i _ => l.length - (intOf i).toNat)
  case atStart => exact ⟨0, by omega, rfl, rfl, Below.refl _ _⟩
  case round =>
    obtain ⟨k, hk, rfl, rfl, hb⟩ := hrel
    have hz := HZ.out k hk
    by_cases hlt : k < l.length
    · have hkI : (k : Int) < (l.length : Int) := by omega
      obtain ⟨b, off, rfl, hbB, A', cp, c0, c1, hszd, hmd⟩ := (Hr.out.below hb (Nat.le_refl _)).2 k hlt
      have hnm := HS.out k hlt
      have h4 := world_four HW.out hlt
      have HMD : Hid (RCts w w.heap.size A' l[k].ctors) := hmd.keep (fun p hp => (hb.cell hp).symm) (Nat.le_refl _)
      have HAT := Lib.hid (wAcc_at hlt)
      have hhz := headT_size (wAcc l k) l[k] k
      have HCZ : Hid (∀ j, j ≤ l[k].ctors.length → (ctsAcc l (headT (wAcc l k) l[k] k) l[k].ctors j).size ≤ (headT (wAcc l k) l[k] k).size + 511 * j) := ctsAcc_size HS.out (fun c hc => by
        obtain ⟨m, hm, rfl⟩ := List.getElem_of_mem hc
        exact world_ct_in HW.out hlt hm)
      have HC1 : Hid (w.cell? ⟨b, off + k * 2 + 1, none⟩ = some (.slice A' l[k].ctors.length cp)) := (hb.cell (p := ⟨b, off + k * 2 + 1, none⟩) hbB).symm.trans c1
      clear hmd
      have HH : Hid (headT (wAcc l k) l[k] k = ((if k = 0 then wAcc l k else wAcc l k ++ ⟨#[59]⟩) ++ l[k].name) ++ ⟨#[61]⟩) := rfl
      by_cases h0 : k = 0
      all_goals
        first
          | (have q : ¬ (0 : Int) < (k : Int) := by omega
             have q' : (k : Int) ≤ 0 := by omega
             have q'' : decide (0 < k) = false := decide_eq_false (by omega)
             rw [if_pos h0] at HH)
          | (have q' : (0 : Int) < (k : Int) := by omega
             have q'' : decide (0 < k) = true := decide_eq_true (by omega)
             rw [if_neg h0] at HH)
        generalize headT (wAcc l k) l[k] k = h at hhz HAT HCZ HH
        generalize wAcc l k = a at hz HH hhz
        clear h0
        go_wp2_with fail
        obtain ⟨wo, rfl⟩ : ∃ wo : World, wo = wr := ⟨_, rfl⟩
        go_loopw [3, 5] (fun t i wi => ∃ j : Nat, j ≤ l[k].ctors.length ∧ i = .int .i64 j ∧ t = .string (ctsAcc l h l[k].ctors j) ∧ Below w.heap.size w wi) (fun _ i _ => l[k].ctors.length - (intOf i).toNat)
        case atStart => exact ⟨0, by omega, rfl, by rw [show ctsAcc l h l[k].ctors 0 = h from rfl, HH.out], hb⟩
        case round =>
          clear hb c0 c1
          obtain ⟨j, hj, rfl, rfl, hb⟩ := hrel
          have hcz := HCZ.out j hj
          have c1 : wr.cell? ⟨b, off + k * 2 + 1, none⟩ = some (.slice A' l[k].ctors.length cp) := (hb.cell (p := ⟨b, off + k * 2 + 1, none⟩) (by have := block_lt_of_cell HC1.out; simpa using this)).trans HC1.out
          by_cases hjt : j < l[k].ctors.length
          · have hjI : (j : Int) < (l[k].ctors.length : Int) := by omega
            obtain ⟨g, o, rfl, hgB, D1, ep, e0, e1, e2, hszm, hmm⟩ := (HMD.out.below hb (Nat.le_refl _)).2 j hjt
            have HIN := Lib.hid (world_ct_in HW.out hlt hjt)
            have HJ := Lib.hid (ctsAcc_at (l := l) (base := h) hjt)
            have hct := ctT_size HS.out HIN.out
            have HRr : Hid (RDas wr wr.heap.size (some ⟨b, off, none⟩) l) := Hr.out.keep (fun p hp => hb.cell hp) hb.size
            have HMM : Hid (RTys wr wr.heap.size D1 l[k].ctors[j].args) := hmm.keep (fun _ _ => rfl) hb.size
            generalize hu : ctT l l[k].ctors[j] = u at hct HJ
            have HU := Lib.hid hu
            generalize ctsAcc l h l[k].ctors j = a2 at hcz HJ
            clear hu hmm
            by_cases h1 : j = 0
            · have q2 : (j : Int) ≤ 0 := by omega
              rw [if_pos h1] at HJ
              clear h1
              go_wp2_with fail
              refine (ctorText_any _ _ l l[k].ctors[j] _ _ _ HRr.out HMM.out HS.out HIN.out).mono ?_
              rw [HU.out]
              rintro e w1 ⟨rfl, hb1⟩
              have hb2 := below_after hb hb1 hb.size
              go_wp2_with fail
              go_roundw
              case rel => first | exact ⟨j + 1, by omega, by go_num, by rw [HJ.out], hb2⟩ | ((repeat apply Exists.intro); exact ⟨⟨j + 1, by omega, by go_num, by rw [HJ.out], hb2⟩, rfl⟩)
              case measure => simp [intOf]; omega
            · have q2 : (0 : Int) < (j : Int) := by omega
              rw [if_neg h1] at HJ
              clear h1
              go_wp2_with fail
              refine (ctorText_any _ _ l l[k].ctors[j] _ _ _ HRr.out HMM.out HS.out HIN.out).mono ?_
              rw [HU.out]
              rintro e w1 ⟨rfl, hb1⟩
              have hb2 := below_after hb hb1 hb.size
              go_wp2_with fail
              go_roundw
              case rel => first | exact ⟨j + 1, by omega, by go_num, by rw [HJ.out], hb2⟩ | ((repeat apply Exists.intro); exact ⟨⟨j + 1, by omega, by go_num, by rw [HJ.out], hb2⟩, rfl⟩)
              case measure => simp [intOf]; omega
          · have he : j = l[k].ctors.length := by omega
            have hjI : (l[k].ctors.length : Int) ≤ (j : Int) := by omega
            have HE : Hid (ctsAcc l h l[k].ctors j = wAcc l (k + 1)) := by unfold Hid; rw [he, HAT.out]
            clear he
            go_wp2_with fail
            go_roundw
            case rel => exact ⟨k + 1, by omega, by go_num, by rw [HE.out], hb⟩
            case measure => simp [intOf]; omega
    · have he : k = l.length := by omega
      have hkI : (l.length : Int) ≤ (k : Int) := by omega
      have HE : Hid (wAcc l k = wT l) := by unfold Hid wT; rw [he]
      clear he
      go_wp2_with fail
      go_ret
      exact ⟨ret_str HE.out, hb⟩
end Go.Proofs.Ytholdmdkhbhokab
/-
  A region whose last operation waits for all others: a condition on the world that holds until that one comes up. No statement is proved here.
-/
namespace Go.Proofs.Ytholdmdkhbhokab
open Go
set_option linter.unusedVariables false

section
variable {P : Program} {ops : Array Oper} {Q : Exit → Act → World → Prop} {md : Region.Mode} {S : World → Prop} {z : Nat}
/-- Whatever comes up next, the condition holds behind it, unless it is number z; and so on. -/
def Till (P : Program) (md : Region.Mode) (ops : Array Oper) (Q : Exit → Act → World → Prop) (S : World → Prop) (z : Nat) : Nat → Array Bool → Act → World → Prop
  | 0, ls, a, w => Region.ready md ops ls = [] ∧ Q .normal a w
  | n + 1, ls, a, w => (Region.ready md ops ls = [] → Q .normal a w) ∧ ∀ i ∈ Region.ready md ops ls, wpOp P ops Q i (fun b v => (i ≠ z → S v) ∧ Till P md ops Q S z n (ls.setIfInBounds i true) b v) a w
theorem Till.any : ∀ (n : Nat) (ls : Array Bool) (a : Act) (w : World), Till P md ops Q S z n ls a w → wpAny P md ops Q n ls a w
  | 0, _, _, _, h => h
  | n + 1, ls, a, w, h => ⟨h.1, fun i hi => wpOp_mono (fun b v hv => Till.any n _ b v hv.2) (h.2 i hi)⟩
/-- Does number z wait for number i? -/
def waitB (md : Region.Mode) (ops : Array Oper) (z i : Nat) : Bool := match ops[z]? with
  | some o => o.after.any fun e => Region.binds md e && e.on == i
  | none => true
theorem wait_not {i : Nat} {ls : Array Bool} (h : waitB md ops z i = true) (hi : i ∈ Region.ready md ops ls) : ¬ z ∈ Region.ready md ops ls := fun hz => by
  obtain ⟨_, o, ho, hall⟩ := mem_ready.1 hz
  obtain ⟨hun, oi, hoi, _⟩ := mem_ready.1 hi
  unfold waitB at h
  rw [ho] at h
  simp only at h
  obtain ⟨e, he, hb⟩ := Array.any_eq_true'.1 h
  simp only [Bool.and_eq_true, beq_iff_eq] at hb
  have h1 := hall e he hb.1
  rw [hb.2] at h1
  rcases Nat.lt_or_ge i ls.size with hlt | hge
  · simp [hlt] at hun h1; rw [hun] at h1; cases h1
  · simp [Array.getElem?_eq_none hge] at h1
theorem Till.first {i : Nat} {oi : Oper} {v : Value} (hi : ops[i]? = some oi) (hs : Region.noSelect ops = true) (hQ : ∀ c a w, Q (.panic c) (a.put oi.dst v) w → Q (.panic c) a w) (hw : waitB md ops z i = true) :
    ∀ (n : Nat) (ls : Array Bool) (a : Act) (w : World), (∀ j oj, ops[j]? = some oj → j ≠ i → ls.getD j true = false → (∀ e ∈ oj.after, Region.binds md e = true → e.on ≠ i) → oi.apart ops oj = true) →
      i ∈ Region.ready md ops ls → i ≠ z → YieldsIf P ops S oi v a → S w → Till P md ops Q S z n (ls.setIfInBounds i true) (a.put oi.dst v) w → Till P md ops Q S z (n + 1) ls a w := by
  intro n
  have hsel := Region.noSelect_spec hs
  induction n with
  | zero =>
    intro ls a w _ hr hz hy hS H
    refine ⟨fun h => (by rw [h] at hr; cases hr), fun j hj => ?_⟩
    by_cases e : j = i
    · subst e; exact hy.wpOp hi hS ⟨fun _ => hS, H⟩
    · have := ready_mono hj e
      rw [H.1] at this
      cases this
  | succ n ih =>
    intro ls a w hfree hr hz hy hS H
    refine ⟨fun h => (by rw [h] at hr; cases hr), fun j hj => ?_⟩
    by_cases e : j = i
    · subst e; exact hy.wpOp hi hS ⟨fun _ => hS, H⟩
    · have hjz : j ≠ z := fun ez => wait_not hw hr (ez ▸ hj)
      have h1 := H.2 j (ready_mono hj e)
      obtain ⟨hun, oj, hoj, hall⟩ := mem_ready.1 hj
      have hno : ∀ d ∈ oj.after, Region.binds md d = true → d.on ≠ i := fun d hd hb heq => by
        have h2 := hall d hd hb
        have h3 := (mem_ready.1 hr).1
        rw [heq] at h2
        rcases Nat.lt_or_ge i ls.size with hlt | hge
        · simp [hlt] at h3 h2; rw [h3] at h2; cases h2
        · simp [Array.getElem?_eq_none hge] at h2
      have h2 := wpOp_putIf hoj (hfree j oj hoj e hun hno) (fun cs b => hsel i oi cs b hi) (fun cs b => hsel j oj cs b hoj) hQ hy h1
      refine wpOp_mono (fun b v h3 => ⟨fun _ => h3.2.1 hjz, ih (ls.setIfInBounds j true) b v ?_ (ready_mono hr (Ne.symm e)) hz h3.1 (h3.2.1 hjz) ?_⟩) h2
      · intro k ok hk hki huk hnk
        refine hfree k ok hk hki ?_ hnk
        by_cases ek : j = k
        · subst ek; exact hun
        · rw [getD_set_ne true ek] at huk; exact huk
      · rw [Array.setIfInBounds_comm _ _ e]
        exact h3.2.2
theorem Till.take {i : Nat} {oi : Oper} {v : Value} {n : Nat} {ls : Array Bool} {a : Act} {w : World} (hi : ops[i]? = some oi) (hs : Region.noSelect ops = true) (hf : Region.free md ops ls i = true)
    (hr : (Region.ready md ops ls).contains i = true) (hw : (waitB md ops z i && i != z) = true) (hQ : ∀ c a w, Q (.panic c) (a.put oi.dst v) w → Q (.panic c) a w) (hS : S w) (hy : YieldsIf P ops S oi v a)
    (h : Till P md ops Q S z n (ls.setIfInBounds i true) (a.put oi.dst v) w) : Till P md ops Q S z (n + 1) ls a w := by
  rw [Bool.and_eq_true, bne_iff_ne] at hw
  exact Till.first hi hs hQ hw.1 n ls a w (Region.free_spec hi hf) (by simpa using hr) hw.2 hy hS h
theorem Till.take_ {i : Nat} {oi : Oper} {d : Option Tmp} {v : Value} {n : Nat} {ls ls' : Array Bool} {a : Act} {w : World} (hi : ops[i]? = some oi) (hd : ops[i]?.map (fun o => o.dst) = some d) (hs : Region.noSelect ops = true) (hf : Region.free md ops ls i = true)
    (hr : (Region.ready md ops ls).contains i = true) (hw : (waitB md ops z i && i != z) = true) (hQ : ∀ c a w, Q (.panic c) (a.put d v) w → Q (.panic c) a w) (hS : S w) (hy : YieldsIf P ops S oi v a) (hl : ls.setIfInBounds i true = ls')
    (h : Till P md ops Q S z n ls' (a.put d v) w) : Till P md ops Q S z (n + 1) ls a w := by
  have e : oi.dst = d := by rw [hi] at hd; injection hd
  subst e hl
  exact Till.take hi hs hf hr hw hQ hS hy h
/-- One operation comes up. -/
theorem Till.step {i : Nat} {o : Oper} {n : Nat} {ls : Array Bool} {a : Act} {w : World} (ho : ops[i]? = some o) (hw : Region.wanted o (yielded ops a.tmps) = true)
    (h : ∀ K : Act → World → Prop, (∀ b v, (i ≠ z → S v) → Till P md ops Q S z n (ls.setIfInBounds i true) b v → K b v) → o.wp P a w K Q) :
    wpOp P ops Q i (fun b v => (i ≠ z → S v) ∧ Till P md ops Q S z n (ls.setIfInBounds i true) b v) a w := by
  unfold wpOp
  simp only [ho, hw, if_true]
  exact .inl (h _ fun b v h1 h2 => ⟨h1, h2⟩)
theorem Till.all {rs : List Nat} {n : Nat} {ls : Array Bool} {a : Act} {w : World} (hr : Region.ready md ops ls = rs) (hne : rs ≠ [])
    (h : ∀ i ∈ rs, wpOp P ops Q i (fun b v => (i ≠ z → S v) ∧ Till P md ops Q S z n (ls.setIfInBounds i true) b v) a w) : Till P md ops Q S z (n + 1) ls a w :=
  ⟨fun h0 => absurd (hr ▸ h0) hne, hr ▸ h⟩
theorem Till.done {ls : Array Bool} {a : Act} {w : World} (hr : Region.ready md ops ls = []) (h : Q .normal a w) : ∀ n, Till P md ops Q S z n ls a w
  | 0 => ⟨hr, h⟩
  | _ + 1 => ⟨fun _ => h, by rw [hr]; simp⟩
theorem Till.start {id : Nat} {a : Act} {w : World} (hm : P.follows .mixedOrders = true) (h : Till P .any ops Q S z ops.size (Array.replicate ops.size false) a w.drew) : (Code.region id ops true).wp P Q a w :=
  wp_region_any hm (Till.any _ _ _ _ h)
end
end Go.Proofs.Ytholdmdkhbhokab
/-
  The least depths of all types that have values, in a map: the program's function. No statement is proved here.
-/
namespace Go.Proofs.Ytholdmdkhbhokab
open Go.RowKit Go.Maps
set_option maxRecDepth 100000
set_option linter.unusedVariables false

/-- The types that are made within k rounds, and those that are not, yet. -/
def Mk (l : List Da) (k : Nat) (t : Ty) : Prop := t ∈ tysN l.length ∧ Dk (mkF l) k t
noncomputable def opn (l : List Da) (k : Nat) : List Ty := (tysN l.length).filter (fun t => dec (¬ Dk (mkF l) k t))
/-- The types that have values. -/
def Inh (l : List Da) (t : Ty) : Prop := t ∈ tysN l.length ∧ ∃ k, Dk (mkF l) k t
theorem mem_opn {l : List Da} {k : Nat} {t : Ty} : t ∈ opn l k ↔ t ∈ tysN l.length ∧ ¬ Dk (mkF l) k t := by
  unfold opn
  rw [List.mem_filter]
  constructor
  · rintro ⟨h1, h2⟩
    refine ⟨h1, fun h => ?_⟩
    rw [dec_f (fun hn => hn h)] at h2; cases h2
  · rintro ⟨h1, h2⟩
    exact ⟨h1, dec_t h2⟩
theorem opn_zero (l : List Da) : opn l 0 = tysN l.length := by
  unfold opn
  exact List.filter_eq_self.2 (fun t _ => dec_t (fun h => h.elim))
theorem mkF_Mk {l : List Da} (hw : WorldOK l) {k : Nat} {t : Ty} (ht : t ∈ tysN l.length) : mkF l (Mk l k) t ↔ Dk (mkF l) (k + 1) t :=
  ⟨mkF_tys hw (Mk l k) (Dk (mkF l) k) (fun _ _ h => h.2) t ht, mkF_tys hw (Dk (mkF l) k) (Mk l k) (fun t h h' => ⟨h, h'⟩) t ht⟩
theorem fil_all (P : Ty → Prop) (U : List Ty) : fil P U U.length = U.filter (fun t => dec (P t)) := by unfold fil; rw [List.take_of_length_le (Nat.le_refl _)]
theorem opn_next {l : List Da} (hw : WorldOK l) (k : Nat) : fil (fun t => ¬ mkF l (Mk l k) t) (opn l k) (opn l k).length = opn l (k + 1) := by
  rw [fil_all]
  unfold opn
  rw [List.filter_filter]
  refine List.filter_congr (fun t ht => ?_)
  rw [dec_congr (not_congr (mkF_Mk hw ht))]
  by_cases h : Dk (mkF l) (k + 1) t
  · rw [dec_f (fun hn => hn h)]; rfl
  · rw [dec_t h, dec_t (fun hn => h (Dk_up _ _ hn))]; rfl
/-- What is made in round k + 1. -/
noncomputable def new (l : List Da) (k : Nat) : List Ty := fil (mkF l (Mk l k)) (opn l k) (opn l k).length
theorem mem_new {l : List Da} (hw : WorldOK l) {k : Nat} {t : Ty} : t ∈ new l k ↔ t ∈ tysN l.length ∧ Dk (mkF l) (k + 1) t ∧ ¬ Dk (mkF l) k t := by
  unfold new
  rw [fil_all, List.mem_filter, mem_opn]
  constructor
  · rintro ⟨⟨h1, h2⟩, h3⟩
    refine ⟨h1, Classical.byContradiction fun h => ?_, h2⟩
    rw [dec_f (fun hn => h ((mkF_Mk hw h1).1 hn))] at h3; cases h3
  · rintro ⟨h1, h2, h3⟩
    exact ⟨⟨h1, h3⟩, dec_t ((mkF_Mk hw h1).2 h2)⟩
theorem len_parts (P : Ty → Prop) (U : List Ty) : (U.filter (fun t => dec (P t))).length + (U.filter (fun t => dec (¬ P t))).length = U.length := by
  induction U with
  | nil => rfl
  | cons t U ih =>
    by_cases h : P t
    · rw [List.filter_cons_of_pos (by rw [dec_t h]), List.filter_cons_of_neg (by rw [dec_f (fun hn => hn h)]; simp)]
      simp only [List.length_cons]; omega
    · rw [List.filter_cons_of_neg (by rw [dec_f h]; simp), List.filter_cons_of_pos (by rw [dec_t h])]
      simp only [List.length_cons]; omega
theorem new_len {l : List Da} (hw : WorldOK l) (k : Nat) : (new l k).length + (opn l (k + 1)).length = (opn l k).length := by
  rw [← opn_next hw, new, fil_all, fil_all]
  exact len_parts _ _
theorem new_dep {l : List Da} (hw : WorldOK l) {k : Nat} {t : Ty} (h : t ∈ new l k) : (k : Int) + 1 = ldep l t := by
  obtain ⟨_, h1, h2⟩ := (mem_new hw).1 h
  refine ldep_eq (.inr ⟨by omega, by rw [show ((k : Int) + 1).toNat = k + 1 by omega]; exact h1, fun j hj hd => h2 (Dk_up_le (by omega) t hd)⟩)
theorem ldep_le {l : List Da} {t : Ty} {k : Nat} (h : Dk (mkF l) k t) : ldep l t ≤ k := by
  rcases ldep_is l t with ⟨h1, _⟩ | ⟨h1, _, h3⟩
  · omega
  · have : ¬ k < (ldep l t).toNat := fun hk => h3 k hk h
    omega
theorem mk_pos {l : List Da} {k : Nat} (hk : k ≤ 17) : ∀ t ∈ tysN 4, Mk l k t → 0 < ldep l t ∧ ldep l t ≤ 5000 := fun t _ h => ⟨ldep_pos h.2, by have := ldep_le h.2; omega⟩
/-- Once a round makes nothing, all have been made. -/
theorem mk_all {l : List Da} (hw : WorldOK l) {k : Nat} (h : new l k = []) (t : Ty) : Mk l k t ↔ Inh l t := by
  constructor
  · exact fun h => ⟨h.1, k, h.2⟩
  · rintro ⟨h1, j, h2⟩
    refine ⟨h1, ?_⟩
    have hr : ∀ t ∈ tysN l.length, Dk (mkF l) (k + 1) t → Dk (mkF l) k t := fun t ht h3 => Classical.byContradiction fun h4 => by
      have : t ∈ new l k := (mem_new hw).2 ⟨ht, h3, h4⟩
      rw [h] at this; simp at this
    by_cases hj : k ≤ j
    · exact Dk_rest (mkF_tys hw) hr j hj t h1 h2
    · exact Dk_up_le (by omega) t h2
/-- After j of a round's types. -/
def Mk' (l : List Da) (k j : Nat) (t : Ty) : Prop := Mk l k t ∨ ∃ i, ∃ h : i < (new l k).length, i < j ∧ (new l k)[i] = t
theorem mk'_zero (l : List Da) (k : Nat) (t : Ty) : Mk l k t ↔ Mk' l k 0 t := ⟨.inl, fun h => h.resolve_right (fun ⟨_, _, h, _⟩ => absurd h (by omega))⟩
theorem mk'_step {l : List Da} {k j : Nat} (hj : j < (new l k).length) (t : Ty) : (t = (new l k)[j] ∨ Mk' l k j t) ↔ Mk' l k (j + 1) t := by
  constructor
  · rintro (rfl | h | ⟨i, h, h1, h2⟩)
    · exact .inr ⟨j, hj, by omega, rfl⟩
    · exact .inl h
    · exact .inr ⟨i, h, by omega, h2⟩
  · rintro (h | ⟨i, h, h1, h2⟩)
    · exact .inr (.inl h)
    · by_cases e : i = j
      · subst e; exact .inl h2.symm
      · exact .inr (.inr ⟨i, h, by omega, h2⟩)
theorem mk'_all {l : List Da} (hw : WorldOK l) {k : Nat} (t : Ty) : Mk' l k (new l k).length t ↔ Mk l (k + 1) t := by
  constructor
  · rintro (h | ⟨i, h, _, rfl⟩)
    · exact ⟨h.1, Dk_up _ _ h.2⟩
    · obtain ⟨h1, h2, _⟩ := (mem_new hw).1 (List.getElem_mem h)
      exact ⟨h1, h2⟩
  · rintro ⟨h1, h2⟩
    by_cases h3 : Dk (mkF l) k t
    · exact .inl ⟨h1, h3⟩
    · obtain ⟨i, hi, e⟩ := List.getElem_of_mem ((mem_new hw).2 ⟨h1, h2, h3⟩)
      exact .inr ⟨i, hi, hi, e⟩

/-- Every block of w but one reads as it did. -/
def KeepBut (w w' : World) (b : Nat) : Prop := w.heap.size ≤ w'.heap.size ∧ ∀ k, k < w.heap.size → k ≠ b → w'.heap[k]? = w.heap[k]?
theorem KeepBut.refl (w : World) (b : Nat) : KeepBut w w b := ⟨Nat.le_refl _, fun _ _ _ => rfl⟩
theorem KeepBut.alloc {w w' : World} {b : Nat} (h : KeepBut w w' b) (o : Obj) : KeepBut w (w'.alloc o) b := ⟨by simp; have := h.1; omega, fun k hk hne => (Below.heap_alloc _ _ _ (Nat.lt_of_lt_of_le hk h.1)).trans (h.2 k hk hne)⟩
theorem KeepBut.grown {w w' w'' : World} {b : Nat} (h : KeepBut w w' b) (hg : w'.grownBy w'' (some b)) : KeepBut w w'' b := ⟨Nat.le_trans h.1 hg.size, fun k hk hne => (hg.block k (Nat.lt_of_lt_of_le hk h.1) (fun e => hne (by injection e))).trans (h.2 k hk hne)⟩
theorem OTys.but {w w' : World} {lo b : Nat} {u : Value} {l : List Ty} {k : Nat} (h : OTys w lo u l k) (hk : KeepBut w w' b) (hb : b < lo) : OTys w' lo u l k := by
  obtain ⟨xs, ho, hx⟩ := h
  refine ⟨xs, ⟨ho.1, ?_⟩, hx⟩
  rcases ho.2 with h0 | ⟨g, cap, cur, a1, a2, a3, a4⟩
  · exact .inl h0
  · exact .inr ⟨g, cap, cur, a1, a2, (hk.2 g (heap_lt a3) (by omega)).trans a3, a4⟩
def lenV : Value → Nat
  | .slice _ n _ => n
  | _ => 0
theorem new_le (l : List Da) (hl : l.length ≤ 4) (k : Nat) : (new l k).length ≤ 17 := by
  have h1 := fil_len (mkF l (Mk l k)) (opn l k) (opn l k).length
  have h2 : (opn l k).length ≤ (tysN l.length).length := List.length_filter_le _ _
  rw [tysN_len] at h2
  unfold new
  omega
theorem opn_le (l : List Da) (hl : l.length ≤ 4) (k : Nat) : (opn l k).length ≤ 17 := by
  have h2 : (opn l k).length ≤ (tysN l.length).length := List.length_filter_le _ _
  rw [tysN_len] at h2
  omega
theorem key_of' {t : Ty} (ht : t ∈ tysN 4) : keyOf Try.prog 33 (.agg #[.int .i64 t.data, .int .i64 t.index]) = some (keyL t) := key_of ht
theorem int_wf {k : Nat} (h : k ≤ 100) : (Lit.int .i64 ((k : Int) + 1)).wf = true := WalkArith.wf_i64 (by omega)
end Go.Proofs.Ytholdmdkhbhokab
/-
  The least depths of all types that have values, in a map: the program's function, the walk. No statement is proved here.
-/
namespace Go.Proofs.Ytholdmdkhbhokab
open Go.RowKit Go.Maps
set_option maxRecDepth 100000
set_option linter.unusedVariables false

theorem ret_map {b c : Nat} (h : b = c) : Ending.returned (.map (some b)) = .returned (.map (some c)) := by rw [h]
theorem nil_of_len {α : Type} {l : List α} (h : l.length = 0) : l = [] := List.eq_nil_of_length_eq_zero h

set_option maxHeartbeats 3000000 in
theorem leastDepths_any (A : Option Addr) (l : List Da) (cap : Nat) (w : World) (hr : RDas w w.heap.size A l) (hw : WorldOK l) :
    Calls Try.prog 52 #[.slice A l.length cap] w fun e w' => e = .returned (.map (some w.heap.size)) ∧ MapTy w' w.heap.size 400 (ldep l) (Inh l) ∧ Below w.heap.size w w' := by
  have Hr := Lib.hid hr
  have HW := Lib.hid hw
  have hl4 := hw.1
  have HS0 := Lib.hid (opn_zero l)
  have hO0 := tysN_len l.length
  have hM0 : Hid (MapTy (w.alloc (.map #[] 0)) w.heap.size 0 (ldep l) (Mk l 0)) := (MapTy.made w (ldep l)).keep rfl (Nat.le_refl _) (fun t _ => ⟨False.elim, fun h => h.2.elim⟩)
  have HB0 : Hid (∀ o : Obj, Below w.heap.size w (w.alloc o)) := fun o => (Below.refl _ _).alloc (Nat.le_refl _) _
  have hmm := @run_makeMap Try.prog
  clear hr hw
  go_enter Try.func52, Try.ntmps52
  go_wp2_with fail
  refine (typesOf_any _ _ _ _ hl4).mono ?_
  rintro e w1 ⟨v, rfl, ho, hb1⟩
  have hM1 := Lib.hid (hM0.out.at_ hb1)
  have HO1 : Hid (OTys w1 (w.heap.size + 1) v (opn l 0) (opn l 0).length) := by unfold Hid; rw [HS0.out]; simpa using ho
  have HL0 : Hid ((opn l 0).length + 0 ≤ l.length * 4 + 1) := by unfold Hid; rw [HS0.out]; omega
  have hb2 : Below w.heap.size w w1 := (HB0.out _).trans (hb1.mono (by simp))
  clear ho hb1 hM0 hmm hO0
  go_wp2_with fail
  go_loopw [4, 5] (fun v d wr => ∃ k : Nat, d = .int .i64 ((k : Int) + 1) ∧ lenV v = (opn l k).length ∧ OTys wr (w.heap.size + 1) v (opn l k) (opn l k).length ∧ (opn l k).length + k ≤ l.length * 4 + 1 ∧ MapTy wr w.heap.size (17 * k) (ldep l) (Mk l k) ∧ Below w.heap.size w wr) (fun v _ _ => lenV v)
  case atStart =>
    obtain ⟨A1, cap1, hv, _⟩ := HO1.out.form (by have := opn_le l hl4 0; unfold maxLen; omega)
    exact ⟨0, rfl, by rw [hv]; rfl, HO1.out, HL0.out, hM1.out, hb2⟩
  case round =>
    clear HO1 HL0 hM1 hb2 HB0 HS0
    obtain ⟨k, rfl, hlen, ho, hle, hm, hb⟩ := hrel
    have hol := opn_le l hl4 k
    obtain ⟨A1, cap1, rfl, hr1⟩ := ho.form (by unfold maxLen; omega)
    have HR1 := Lib.hid hr1
    have HO := Lib.hid ho
    have HM := Lib.hid hm
    have HLE := Lib.hid hle
    have hk17 : k ≤ 17 := by omega
    have HRr : Hid (RDas wr wr.heap.size A l) := (Hr.out.below hb (Nat.le_refl _)).keep (fun _ _ => rfl) hb.size
    have hlt0 := hm.lt
    have hnl := new_le l hl4 k
    have HNL := Lib.hid (new_len HW.out k)
    have hlen2 := hlen
    clear hr1 ho hm hle hlen
    go_wp2_with fail
    refine (splitMade_any _ _ _ _ _ _ _ _ _ _ _ HRr.out HR1.out (fun t ht => (mem_opn.1 ht).1) HW.out HM.out (mk_pos hk17) hol).mono ?_
    rw [opn_next HW.out k]
    rintro e w2 ⟨v1, v2, rfl, ho1, ho2, hb2'⟩
    have hb2 : Below w.heap.size w w2 := below_after hb hb2' hb.size
    have ho1' : OTys w2 wr.heap.size v1 (new l k) (new l k).length := ho1
    have HM2 := Lib.hid (HM.out.at_ hb2')
    have HO2 := Lib.hid ho2
    have HO1 := Lib.hid ho1'
    have hs2 := hb2'.size
    clear ho1 ho1' ho2 hb2' HM HO HRr HR1
    obtain ⟨A3, cap3, rfl, hr3⟩ := HO1.out.form (by unfold maxLen; omega)
    obtain ⟨A4, cap4, rfl, hr4⟩ := HO2.out.form (by have := opn_le l hl4 (k + 1); unfold maxLen; omega)
    clear hr3 hr4
    by_cases hz : (new l k).length = 0
    · have HF : Hid (MapTy w2 w.heap.size 400 (ldep l) (Inh l)) := HM2.out.keep rfl (by omega) (fun t _ => mk_all HW.out (nil_of_len hz) t)
      have q : (((new l k).length : Int) == 0) = true := by rw [hz]; rfl
      clear hz
      go_wp2_with fail
      go_ret
      exact ⟨rfl, HF.out, hb2⟩
    · have q : (((new l k).length : Int) == 0) = false := beq_eq_false_iff_ne.2 (by omega)
      go_wp2_with fail
      obtain ⟨wo, rfl⟩ : ∃ wo : World, wo = wr := ⟨_, rfl⟩
      go_loopw [28] (fun i wi => ∃ j : Nat, j ≤ (new l k).length ∧ i = .int .i64 j ∧ MapTy wi w.heap.size (17 * k + j) (ldep l) (Mk' l k j) ∧ KeepBut w2 wi w.heap.size ∧ Below w.heap.size w wi) (fun i _ => (new l k).length - (intOf i).toNat)
      case atStart => exact ⟨0, by omega, rfl, HM2.out.keep rfl (Nat.le_refl _) (fun t _ => mk'_zero l k t), KeepBut.refl _ _, hb2⟩
      case round =>
        clear HM2 hb2
        obtain ⟨j, hj, rfl, hm, hkb, hbi⟩ := hrel
        by_cases hjt : j < (new l k).length
        · have hjI : (j : Int) < ((new l k).length : Int) := by omega
          obtain ⟨A5, cap5, e5, hr5⟩ := (HO1.out.but hkb hlt0).form (by unfold maxLen; omega)
          injection e5 with e5a e5b e5c
          subst e5a e5c
          obtain ⟨b, off, e6, hbB, c0, c1⟩ := hr5.2 j hjt
          subst e6
          have HDP := Lib.hid (new_dep HW.out (List.getElem_mem hjt))
          have HT : Hid ((new l k)[j] ∈ tysN 4) := tys_mono hl4 ((mem_new HW.out).1 (List.getElem_mem hjt)).1
          have HST := Lib.hid (mk'_step (l := l) (k := k) hjt)
          obtain ⟨D, hod, hmD, hat⟩ := hm
          have HOD := Lib.hid hod
          have HAT := Lib.hid hat
          have HMD := Lib.hid hmD
          have hKey := Lib.hid (key_of' HT.out)
          have hNm : 17 * k + j < maxLen := by unfold maxLen; omega
          have hsi := hbi.size
          clear hod hat hmD hr5
          go_wp2_with (at_mapUpdate; refine wpList_mapUpdate_own _ rfl _ _ _ 73 rfl 33 3 keyT Try.underlying73 (plainElem Try.prog 3) w.heap.size (17 * k + j) D rfl (HOD.out.alloc _) hNm _ _ (keyL (new l k)[j]) rfl rfl hKey.out (.lit (.int .i64 ((k : Int) + 1))) [] (plainElem_int Try.underlying3 (int_wf (by omega))) ?_; intro w3 ho3 hg3)
          have hb3 : Below w.heap.size w w3 := (hbi.alloc (by omega) _).grown hg3 (by simp; omega) (fun g e => by injection e with e; omega)
          have hkb3 : KeepBut w2 w3 w.heap.size := (hkb.alloc _).grown hg3
          have HM3 : Hid (MapTy w3 w.heap.size (17 * k + (j + 1)) (ldep l) (Mk' l k (j + 1))) := by
            rw [HDP.out] at ho3
            exact (MapTy.put HT.out ho3 HMD.out HAT.out).keep rfl (by omega) (fun t _ => HST.out t)
          clear ho3 hg3 hkb c0 c1 HDP HT HST HOD HAT HMD hKey
          go_wp2_with fail
          go_roundw
          case rel => exact ⟨j + 1, by omega, by go_num, HM3.out, hkb3, hb3⟩
          case measure => simp [intOf]; omega
        · have hje : j = (new l k).length := by omega
          have hjI : ((new l k).length : Int) ≤ (j : Int) := by omega
          have HM3 : Hid (MapTy wr w.heap.size (17 * (k + 1)) (ldep l) (Mk l (k + 1))) := hm.keep rfl (by omega) (fun t _ => by rw [hje]; exact mk'_all HW.out t)
          have HO3 : Hid (OTys wr (w.heap.size + 1) (.slice A4 (opn l (k + 1)).length cap4) (opn l (k + 1)) (opn l (k + 1)).length) := (HO2.out.but hkb hlt0).lower (by omega)
          have HL3 : Hid ((opn l (k + 1)).length + (k + 1) ≤ l.length * 4 + 1) := by have := HNL.out; have := HLE.out; unfold Hid; omega
          have hdec : (opn l (k + 1)).length < (opn l k).length := by have := HNL.out; omega
          clear hm hje
          go_wp2_with fail
          go_roundw
          case rel => exact ⟨k + 1, by go_num, rfl, HO3.out, HL3.out, HM3.out, hbi⟩
          case measure => simp [lenV]; omega
end Go.Proofs.Ytholdmdkhbhokab
