/-
  Whether a type has a value with arguments of known types: the program's closure, the library's functions over it, the program's function. No statement is proved here.
-/
import Derived.Test.YthebdlejoficmaaDepA
import Derived.Test.YthebdlejoficmaaTable4
import Derived.Deep.RegionHeld3
import Derived.Outline
namespace Go.Proofs.Ythebdlejoficmaa
open Go.RowKit Go.Deep
set_option maxRecDepth 100000
set_option linter.unusedVariables false

theorem mxT_nonneg (F : Ty → Int) (L : List Ty) : ∀ k, 0 ≤ mxT F L k
  | 0 => Int.le_refl _
  | k + 1 => by
    have := mxT_nonneg F L k
    show 0 ≤ max (mxT F L k) _
    omega
theorem dpR_pos (F : Ty → Int) (S : Ty → Prop) (L : List Ty) : decide (0 < dpR F S L) = dec (∀ a ∈ L, S a) := by
  by_cases h : ∀ a ∈ L, S a
  · rw [dec_t h, dpR_yes h]
    have := mxT_nonneg F L L.length
    exact decide_eq_true (by omega)
  · rw [dec_f h, dpR_no h]; rfl

/-- The world, the type and the map, behind three pointers. -/
structure M3 (w : World) (pw pt pm : Nat) (A : Option Addr) (l : List Da) (cap : Nat) (t : Ty) (mb n : Nat) (F : Ty → Int) (S : Ty → Prop) : Prop where
  wp : w.cell? ⟨pw, 0, none⟩ = some (.slice A l.length cap)
  t0 : w.cell? ⟨pt, 0, none⟩ = some (.int .i64 t.data)
  t1 : w.cell? ⟨pt, 1, none⟩ = some (.int .i64 t.index)
  mp : w.cell? ⟨pm, 0, none⟩ = some (.map (some mb))
  map : MapTy w mb n F S
  rd : RDas w w.heap.size A l
theorem M3.at_ {w w' : World} {pw pt pm : Nat} {A : Option Addr} {l : List Da} {cap : Nat} {t : Ty} {mb n : Nat} {F : Ty → Int} {S : Ty → Prop} (h : M3 w pw pt pm A l cap t mb n F S) (hb : Below w.heap.size w w') : M3 w' pw pt pm A l cap t mb n F S :=
  ⟨(hb.cell (p := ⟨pw, 0, none⟩) (Go.block_lt_of_cell h.wp)).trans h.wp, (hb.cell (p := ⟨pt, 0, none⟩) (Go.block_lt_of_cell h.t0)).trans h.t0, (hb.cell (p := ⟨pt, 1, none⟩) (Go.block_lt_of_cell h.t1)).trans h.t1, (hb.cell (p := ⟨pm, 0, none⟩) (Go.block_lt_of_cell h.mp)).trans h.mp, h.map.at_ hb, h.rd.keep (fun p hp => hb.cell hp) hb.size⟩
theorem M3.cells {w : World} {pw pt pm : Nat} {A : Option Addr} {l : List Da} {cap : Nat} {t : Ty} {mb n : Nat} {F : Ty → Int} {S : Ty → Prop} (h : M3 w pw pt pm A l cap t mb n F S) :
    w.cell? ⟨pw, 0, none⟩ = some (.slice A l.length cap) ∧ w.cell? ⟨pt, 0, none⟩ = some (.int .i64 t.data) ∧ w.cell? ⟨pt, 1, none⟩ = some (.int .i64 t.index) ∧ w.cell? ⟨pm, 0, none⟩ = some (.map (some mb)) := ⟨h.wp, h.t0, h.t1, h.mp⟩
theorem agR_max (l : List Da) (t : Ty) (x : Int) : (agR l t x).length ≤ maxLen := by have := agR_len l t x; unfold maxLen; omega

set_option maxHeartbeats 1600000 in
theorem isMade_any (pw pt pm : Nat) (A : Option Addr) (l : List Da) (cap : Nat) (t : Ty) (x : Int) (mb n : Nat) (F : Ty → Int) (S : Ty → Prop) (w : World) (h : M3 w pw pt pm A l cap t mb n F S) (hx : x ∈ ctR l t) (hx4 : ∀ a ∈ agR l t x, a ∈ tysN 4) (hpos : ∀ t ∈ tysN 4, S t → 0 < F t ∧ F t ≤ 5000) :
    Calls Try.prog 89 #[.int .i64 x, .pointer (some ⟨pw, 0, none⟩), .pointer (some ⟨pt, 0, none⟩), .pointer (some ⟨pm, 0, none⟩)] w fun e w' => e = .returned (.bool (dec (∀ a ∈ agR l t x, S a))) ∧ Below w.heap.size w w' := by
  have H := Lib.hid h
  have HX := Lib.hid hx
  have HX4 := Lib.hid hx4
  have HP := Lib.hid hpos
  have HD := Lib.hid (dpR_pos F S (agR l t x))
  have hS : w.cell? ⟨pw, 0, none⟩ = some (.slice A l.length cap) ∧ w.cell? ⟨pt, 0, none⟩ = some (.int .i64 t.data) ∧ w.cell? ⟨pt, 1, none⟩ = some (.int .i64 t.index) ∧ w.cell? ⟨pm, 0, none⟩ = some (.map (some mb)) := ⟨h.wp, h.t0, h.t1, h.mp⟩
  have HSC := Lib.hid hS
  have HBD : Hid (Below w.heap.size w w.drew) := (fun h => ⟨h.os, h.tape, h.output, h.size, h.block⟩) (Below.refl w.heap.size w)
  clear h hx hx4 hpos hS
  go_enter Try.func89, Try.ntmps89
  obtain ⟨s0, s1, s2, s3⟩ := HSC.out
  go_wp2_with fail
  go_region_held3 (fun w' => w'.cell? ⟨pw, 0, none⟩ = some (.slice A l.length cap) ∧ w'.cell? ⟨pt, 0, none⟩ = some (.int .i64 t.data) ∧ w'.cell? ⟨pt, 1, none⟩ = some (.int .i64 t.index) ∧ w'.cell? ⟨pm, 0, none⟩ = some (.map (some mb))) (first | exact HSC.out | exact S1.out | exact S2.out | go_keep) (first | (go_at_call 61; refine (argTypes_all _ l _ t x _ (H.out.at_ HBD.out).rd HX.out).mono ?_; rintro e w2 ⟨v, rfl, ho, hb2⟩; obtain ⟨A2, cap2, rfl, hr2⟩ := ho.form (agR_max l t x); have hbw := HBD.out.trans hb2; have M2 := Lib.hid (H.out.at_ hbw); have S1 := Lib.hid (M2.out.cells); have R2 := Lib.hid hr2; clear ho hr2 hb2) | (go_at_call 90; refine (depA_any _ _ _ _ n F S _ R2.out HX4.out M2.out.map HP.out).mono ?_; rintro e w3 ⟨rfl, hb3⟩; have hbz := hbw.trans (hb3.mono hbw.size); have S2 := Lib.hid ((H.out.at_ hbz).cells); clear hb3))
  go_wp2_with fail
  go_ret
  exact ⟨ret_bool HD.out, hbz⟩

def NoneTo (l : List Da) (t : Ty) (S : Ty → Prop) (j : Nat) : Prop := ∀ i (h : i < (ctR l t).length), i < j → ¬ ∀ a ∈ agR l t (ctR l t)[i], S a
theorem NoneTo.zero (l : List Da) (t : Ty) (S : Ty → Prop) : NoneTo l t S 0 := fun j _ h => absurd h (by omega)
theorem NoneTo.step {l : List Da} {t : Ty} {S : Ty → Prop} {k : Nat} (h : NoneTo l t S k) (hk : k < (ctR l t).length) (e : ¬ ∀ a ∈ agR l t (ctR l t)[k], S a) : NoneTo l t S (k + 1) := by
  intro j hj hjk
  by_cases e' : j = k
  · subst e'; exact e
  · exact h j hj (by omega)
theorem NoneTo.all {l : List Da} {t : Ty} {S : Ty → Prop} {k : Nat} (h : NoneTo l t S k) (hk : (ctR l t).length ≤ k) : ¬ ∃ x ∈ ctR l t, ∀ a ∈ agR l t x, S a := fun ⟨x, hx, ha⟩ => by
  obtain ⟨j, hj, rfl⟩ := List.getElem_of_mem hx
  exact h j hj (by omega) ha

set_option maxHeartbeats 1600000 in
theorem indexM_any (A1 : Option Addr) (cap1 pw pt pm : Nat) (A : Option Addr) (l : List Da) (cap : Nat) (t : Ty) (mb n : Nat) (F : Ty → Int) (S : Ty → Prop) (w : World) (hr : RInts w A1 (ctR l t)) (h : M3 w pw pt pm A l cap t mb n F S) (hx4 : ∀ x ∈ ctR l t, ∀ a ∈ agR l t x, a ∈ tysN 4) (hpos : ∀ t ∈ tysN 4, S t → 0 < F t ∧ F t ≤ 5000) :
    Calls Try.prog 92 #[.slice A1 (ctR l t).length cap1, .func (.func 89) #[] #[.pointer (some ⟨pw, 0, none⟩), .pointer (some ⟨pt, 0, none⟩), .pointer (some ⟨pm, 0, none⟩)]] w fun e w' => ∃ r : Int, e = .returned (.int .i64 r) ∧ decide (0 ≤ r) = dec (∃ x ∈ ctR l t, ∀ a ∈ agR l t x, S a) ∧ Below w.heap.size w w' := by
  have hRl := ctR_len l t
  have Hr := Lib.hid hr
  have H := Lib.hid h
  have HX4 := Lib.hid hx4
  have HP := Lib.hid hpos
  clear hr h hx4 hpos
  go_enter Try.func92, Try.ntmps92
  go_wp2_with fail
  go_loopw [8] (fun i wr => ∃ k : Nat, k ≤ (ctR l t).length ∧ i = .int .i64 k ∧ NoneTo l t S k ∧ Below w.heap.size w wr) (fun i _ => (ctR l t).length - (intOf i).toNat)
  case atStart => exact ⟨0, by omega, rfl, NoneTo.zero _ _ _, Below.refl _ _⟩
  case round =>
    obtain ⟨k, hk, rfl, hno, hb⟩ := hrel
    by_cases hlt : k < (ctR l t).length
    · obtain ⟨b, off, rfl, hbB, c0⟩ := (Hr.out.at_ hb).2 k hlt
      have hkI : (k : Int) < ((ctR l t).length : Int) := by omega
      have HXM : Hid ((ctR l t)[k] ∈ ctR l t) := List.getElem_mem hlt
      have HM := Lib.hid (H.out.at_ hb)
      have HST := Lib.hid (hno.step hlt)
      generalize (ctR l t)[k] = x at HXM c0 HST
      have HIS := Lib.hid (isMade_any pw pt pm A l cap t x mb n F S wr HM.out HXM.out (HX4.out x HXM.out) HP.out)
      by_cases hs : ∀ a ∈ agR l t x, S a
      · have HC := Lib.hid (dec_t hs)
        have HT : Hid (decide (0 ≤ (k : Int)) = dec (∃ x ∈ ctR l t, ∀ a ∈ agR l t x, S a)) := by unfold Hid; rw [dec_t ⟨x, HXM.out, hs⟩]; exact decide_eq_true (by omega)
        clear hs
        go_wp2_with fail
        refine HIS.out.mono ?_
        rw [HC.out]
        rintro e w1 ⟨rfl, hb1⟩
        have hb2 := hb.trans (hb1.mono hb.size)
        go_wp2_with fail
        go_ret
        exact ⟨_, rfl, HT.out, hb2⟩
      · have HC := Lib.hid (dec_f hs)
        have HN := Lib.hid (HST.out hs)
        clear hs
        go_wp2_with fail
        refine HIS.out.mono ?_
        rw [HC.out]
        rintro e w1 ⟨rfl, hb1⟩
        have hb2 := hb.trans (hb1.mono hb.size)
        go_wp2_with fail
        go_roundw
        case rel => exact ⟨k + 1, by omega, by go_num, HN.out, hb2⟩
        case measure => simp [intOf]; omega
    · have HT : Hid (decide (0 ≤ (-1 : Int)) = dec (∃ x ∈ ctR l t, ∀ a ∈ agR l t x, S a)) := by unfold Hid; rw [dec_f (hno.all (by omega))]; rfl
      go_wp2_with fail
      go_ret
      exact ⟨_, rfl, HT.out, hb⟩

theorem containsM_any (A1 : Option Addr) (cap1 pw pt pm : Nat) (A : Option Addr) (l : List Da) (cap : Nat) (t : Ty) (mb n : Nat) (F : Ty → Int) (S : Ty → Prop) (w : World) (hr : RInts w A1 (ctR l t)) (h : M3 w pw pt pm A l cap t mb n F S) (hx4 : ∀ x ∈ ctR l t, ∀ a ∈ agR l t x, a ∈ tysN 4) (hpos : ∀ t ∈ tysN 4, S t → 0 < F t ∧ F t ≤ 5000) :
    Calls Try.prog 91 #[.slice A1 (ctR l t).length cap1, .func (.func 89) #[] #[.pointer (some ⟨pw, 0, none⟩), .pointer (some ⟨pt, 0, none⟩), .pointer (some ⟨pm, 0, none⟩)]] w fun e w' => e = .returned (.bool (dec (∃ x ∈ ctR l t, ∀ a ∈ agR l t x, S a))) ∧ Below w.heap.size w w' := by
  have HI := Lib.hid (indexM_any A1 cap1 pw pt pm A l cap t mb n F S w hr h hx4 hpos)
  clear hr h hx4 hpos
  go_enter Try.func91, Try.ntmps91
  go_wp2_with fail
  refine HI.out.mono ?_
  rintro e w1 ⟨r, rfl, hd, hb⟩
  have HD := Lib.hid hd
  clear hd
  go_wp2_with fail
  go_ret
  exact ⟨ret_bool HD.out, hb⟩
end Go.Proofs.Ythebdlejoficmaa
