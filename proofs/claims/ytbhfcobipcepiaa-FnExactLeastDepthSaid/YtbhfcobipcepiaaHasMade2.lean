/-
  Whether a type has a value with arguments of known types: the program's function. No statement is proved here.
-/
import Derived.Test.YtbhfcobipcepiaaHasMade
import Derived.Test.YtbhfcobipcepiaaTable4
namespace Go.Proofs.Ytbhfcobipcepiaa
open Go.RowKit
set_option maxRecDepth 100000
set_option linter.unusedVariables false

theorem ctor_at {l : List Da} {t : Ty} {x : Int} (h : x ∈ ctR l t) : ∃ (d : Nat) (hd : d < l.length) (m : Nat) (hm : m < l[d].ctors.length), t.data = d ∧ x = m ∧ fitsB l[d].ctors[m].index t.index = true ∧ agR l t x = argT l[d].ctors[m] t.index := by
  obtain ⟨ht, d, m, hd, h1, h2, hm⟩ := mem_ctR h
  obtain ⟨td, ti⟩ := t
  simp only at h1
  subst h1
  have h' := h
  rw [ctR_data ht hd] at h'
  obtain ⟨m', hm', h3, h4⟩ := fits_of_mem _ (Nat.le_refl _) h'
  subst h3
  exact ⟨d, hd, m', hm', rfl, rfl, h4, agR_yes h hd hm'⟩
theorem mkF_iff {l : List Da} {S : Ty → Prop} {t : Ty} (hok : TyOK l t) (hd : ¬ t.data = -1) : mkF l S t ↔ ∃ x ∈ ctR l t, ∀ a ∈ agR l t x, S a := by
  constructor
  · rintro (h0 | ⟨d, hdl, m, hm, h1, h2, h3⟩)
    · exact absurd h0 hd
    · obtain ⟨td, ti⟩ := t
      simp only at h1
      subst h1
      have hx : (m : Int) ∈ ctR l ⟨d, ti⟩ := by rw [ctR_data hok hdl]; exact mem_of_fits hm h2 _ hm (Nat.le_refl _)
      exact ⟨m, hx, by rw [agR_yes hx hdl hm]; exact h3⟩
  · rintro ⟨x, hx, h⟩
    obtain ⟨d, hdl, m, hm, h1, h2, h3, h4⟩ := ctor_at hx
    rw [h4] at h
    exact .inr ⟨d, hdl, m, hm, h1, h3, h⟩
theorem tys_mono {n m : Nat} (h : n ≤ m) {t : Ty} (ht : t ∈ tysN n) : t ∈ tysN m := by
  rcases mem_tys.1 ht with h1 | h1
  · exact mem_tys.2 (.inl h1)
  · exact mem_tys.2 (.inr (by omega))
theorem args_tys4 {l : List Da} {t : Ty} (hw : WorldOK l) (ht : t ∈ tysN l.length) : ∀ x ∈ ctR l t, ∀ a ∈ agR l t x, a ∈ tysN 4 := fun x hx a ha => by
  obtain ⟨d, hdl, m, hm, h1, h2, h3, h4⟩ := ctor_at hx
  rw [h4] at ha
  exact tys_mono hw.1 (args_tys hw hdl hm (tys_ix ht).1 (tys_ix ht).2 a ha)

def NoneTo (l : List Da) (t : Ty) (S : Ty → Prop) (j : Nat) : Prop := ∀ i (h : i < (ctR l t).length), i < j → ¬ ∀ a ∈ agR l t (ctR l t)[i], S a
theorem NoneTo.zero (l : List Da) (t : Ty) (S : Ty → Prop) : NoneTo l t S 0 := fun j _ h => absurd h (by omega)
theorem NoneTo.step {l : List Da} {t : Ty} {S : Ty → Prop} {k : Nat} (h : NoneTo l t S k) (hk : k < (ctR l t).length) (e : ¬ ∀ a ∈ agR l t (ctR l t)[k], S a) : NoneTo l t S (k + 1) := by
  intro j hj hjk
  by_cases e' : j = k
  · subst e'; exact e
  · exact h j hj (by omega)
theorem NoneTo.all {l : List Da} {t : Ty} {S : Ty → Prop} {k : Nat} (h : NoneTo l t S k) (hk : (ctR l t).length ≤ k) : ¬ ∃ x ∈ ctR l t, ∀ a ∈ agR l t x, S a := fun ⟨x, hx, ha⟩ => by
  obtain ⟨j, hj, rfl⟩ := List.getElem_of_mem hx
  exact h j hj (by omega) ha
theorem agR_max (l : List Da) (t : Ty) (x : Int) : (agR l t x).length ≤ maxLen := by have := agR_len l t x; unfold maxLen; omega
theorem below_after {w wr w' : World} {B : Nat} (h : Below B w wr) (hb : Below wr.heap.size wr w') (hB : B ≤ wr.heap.size) : Below B w w' := h.trans (hb.mono hB)

theorem hasMade_int (A : Option Addr) (l : List Da) (cap : Nat) (ix : Int) (mb : Nat) (S : Ty → Prop) (w : World) :
    Calls Try.prog 85 #[.slice A l.length cap, .agg #[.int .i64 (-1), .int .i64 ix], .map (some mb)] w fun e w' => e = .returned (.bool (dec (mkF l S ⟨-1, ix⟩))) ∧ Below w.heap.size w w' := by
  have HT : Hid (true = dec (mkF l S ⟨-1, ix⟩)) := (dec_t (.inl rfl)).symm
  have HB : Hid (∀ o o' : Obj, Below w.heap.size w ((w.alloc o).alloc o')) := fun o o' => ((Below.refl _ _).alloc (Nat.le_refl _) _).alloc (by simp) _
  go_enter Try.func85, Try.ntmps85
  go_wp2_with fail
  go_ret
  exact ⟨ret_bool HT.out, HB.out _ _⟩

set_option maxHeartbeats 1600000 in
theorem hasMade_data (A : Option Addr) (l : List Da) (cap : Nat) (t : Ty) (mb n : Nat) (F : Ty → Int) (S : Ty → Prop) (w : World) (hr : RDas w w.heap.size A l) (ht : t ∈ tysN l.length) (hw : WorldOK l) (hd : ¬ t.data = -1) (hm : MapTy w mb n F S) (hpos : ∀ t ∈ tysN 4, S t → 0 < F t) :
    Calls Try.prog 85 #[.slice A l.length cap, .agg #[.int .i64 t.data, .int .i64 t.index], .map (some mb)] w fun e w' => e = .returned (.bool (dec (mkF l S t))) ∧ Below w.heap.size w w' := by
  have hok := tys_ok hw ht
  have HK := Lib.hid hok
  have HF := Lib.hid (mkF_iff (S := S) hok hd)
  have q := ieq_f hd
  have HA := Lib.hid (args_tys4 hw ht)
  have Hr := Lib.hid hr
  have HM : Hid (∀ o1, MP ((w.alloc o1).alloc (.cells #[.map (some mb)] 74)) (w.heap.size + 1) mb n F S) := fun o1 =>
    ⟨by simp [go_sem], (hm.below ((Below.refl _ _).alloc (Nat.le_refl _) o1) hm.lt).below ((Below.refl _ _).alloc (Nat.le_refl _) _) (by simp; exact Nat.lt_succ_of_lt hm.lt), hpos⟩
  have HX : Hid (∀ o2, ((w.alloc (.cells #[.int .i64 t.data, .int .i64 t.index] 34)).alloc o2).cell? ⟨w.heap.size, 0, none⟩ = some (.int .i64 t.data) ∧ ((w.alloc (.cells #[.int .i64 t.data, .int .i64 t.index] 34)).alloc o2).cell? ⟨w.heap.size, 1, none⟩ = some (.int .i64 t.index)) := fun o2 => ⟨by simp [go_sem], by simp [go_sem]⟩
  have hRl := ctR_len l t
  clear hr hm hpos hd hw ht hok
  go_enter Try.func85, Try.ntmps85
  go_wp2_with fail
  refine (ctorsOf_all _ l _ t _ (Hr.out.keep (keep_two _ _) (by simp; omega)) HK.out).mono ?_
  rintro e w1 ⟨v, rfl, ho, hb'⟩
  obtain ⟨A1, cap1, rfl, hr1, _⟩ := ho.form2 hRl
  have HM1 := Lib.hid ((HM.out _).at_ hb')
  have HX1 : Hid (w1.cell? ⟨w.heap.size, 0, none⟩ = some (.int .i64 t.data) ∧ w1.cell? ⟨w.heap.size, 1, none⟩ = some (.int .i64 t.index)) := ⟨(hb'.cell (p := ⟨w.heap.size, 0, none⟩) (by simp; omega)).trans (HX.out _).1, (hb'.cell (p := ⟨w.heap.size, 1, none⟩) (by simp; omega)).trans (HX.out _).2⟩
  have hb1 := below_two hb'
  have HR1 := Lib.hid hr1
  clear ho hb' hr1 HM HX
  have hsz : w.heap.size < w1.heap.size := Go.block_lt_of_cell HX1.out.1
  go_wp2_with fail
  go_loopw [18] (fun i wr => ∃ j : Nat, j ≤ (ctR l t).length ∧ i = .int .i64 j ∧ NoneTo l t S j ∧ Below w1.heap.size w1 wr) (fun i _ => (ctR l t).length - (intOf i).toNat)
  case atStart => exact ⟨0, by omega, rfl, NoneTo.zero _ _ _, Below.refl _ _⟩
  case round =>
    obtain ⟨j, hj, rfl, hno, hb⟩ := hrel
    have HBw : Hid (Below w.heap.size w wr) := below_after hb1 hb hb1.size
    by_cases hjt : j < (ctR l t).length
    · have hjI : (j : Int) < ((ctR l t).length : Int) := by omega
      have hxm : (ctR l t)[j] ∈ ctR l t := List.getElem_mem hjt
      obtain ⟨bR, offR, hA1e, hbR, r0⟩ := (HR1.out.at_ hb).2 j hjt
      have HST := Lib.hid (hno.step hjt)
      generalize (ctR l t)[j] = x at hxm r0 HST
      subst hA1e
      have x0 := (hb.cell (p := ⟨w.heap.size, 0, none⟩) hsz).trans HX1.out.1
      have x1 := (hb.cell (p := ⟨w.heap.size, 1, none⟩) hsz).trans HX1.out.2
      have HMr := Lib.hid (HM1.out.at_ hb)
      have HRr := Lib.hid (Hr.out.below HBw.out (Nat.le_refl _))
      have HRs : Hid (RDas wr wr.heap.size (A) l) := HRr.out.keep (fun _ _ => rfl) HBw.out.size
      have HXM := Lib.hid hxm
      clear hxm HRr
      have HAx := Lib.hid (HA.out x HXM.out)
      by_cases hs : ∀ a ∈ agR l t x, S a
      · have hc := dec_f (show ¬ ¬ ∀ a ∈ agR l t x, S a from fun h => h hs)
        have HT : Hid (true = dec (mkF l S t)) := (dec_t (HF.out.2 ⟨x, HXM.out, hs⟩)).symm
        have HC := Lib.hid hc
        clear hc hs
        go_wp2_with fail
        refine (argTypes_all _ l _ t x _ HRs.out HXM.out).mono ?_
        rintro e w2 ⟨v, rfl, ho, hb2⟩
        obtain ⟨A2, cap2, rfl, hr2⟩ := ho.form (agR_max l t x)
        have HR2 := Lib.hid hr2
        have HM2 := Lib.hid (HMr.out.at_ hb2)
        have hb3 := hb.trans (hb2.mono hb.size)
        clear ho hr2
        go_wp2_with fail
        refine (containsFunc_any _ _ _ _ _ _ _ _ _ HR2.out HAx.out HM2.out).mono ?_
        rw [HC.out]
        rintro e w3 ⟨rfl, hb4⟩
        have hb5 := hb3.trans (hb4.mono hb3.size)
        go_wp2_with fail
        go_ret
        exact ⟨ret_bool HT.out, below_after hb1 hb5 hb1.size⟩
      · have hc := dec_t hs
        have HN := Lib.hid (HST.out hs)
        have HC := Lib.hid hc
        clear hc hs
        go_wp2_with fail
        refine (argTypes_all _ l _ t x _ HRs.out HXM.out).mono ?_
        rintro e w2 ⟨v, rfl, ho, hb2⟩
        obtain ⟨A2, cap2, rfl, hr2⟩ := ho.form (agR_max l t x)
        have HR2 := Lib.hid hr2
        have HM2 := Lib.hid (HMr.out.at_ hb2)
        have hb3 := hb.trans (hb2.mono hb.size)
        clear ho hr2
        go_wp2_with fail
        refine (containsFunc_any _ _ _ _ _ _ _ _ _ HR2.out HAx.out HM2.out).mono ?_
        rw [HC.out]
        rintro e w3 ⟨rfl, hb4⟩
        have hb5 := hb3.trans (hb4.mono hb3.size)
        go_wp2_with fail
        go_roundw
        case rel => exact ⟨j + 1, by omega, by go_num, HN.out, hb5⟩
        case measure => simp [intOf]; omega
    · have hjI : ((ctR l t).length : Int) ≤ (j : Int) := by omega
      have HT : Hid (false = dec (mkF l S t)) := (dec_f (fun h => hno.all (by omega) (HF.out.1 h))).symm
      go_wp2_with fail
      go_ret
      exact ⟨ret_bool HT.out, HBw.out⟩

theorem hasMade_any (A : Option Addr) (l : List Da) (cap : Nat) (t : Ty) (mb n : Nat) (F : Ty → Int) (S : Ty → Prop) (w : World) (hr : RDas w w.heap.size A l) (ht : t ∈ tysN l.length) (hw : WorldOK l) (hm : MapTy w mb n F S) (hpos : ∀ t ∈ tysN 4, S t → 0 < F t) :
    Calls Try.prog 85 #[.slice A l.length cap, .agg #[.int .i64 t.data, .int .i64 t.index], .map (some mb)] w fun e w' => e = .returned (.bool (dec (mkF l S t))) ∧ Below w.heap.size w w' := by
  by_cases hd : t.data = -1
  · obtain ⟨td, ti⟩ := t
    simp only at hd
    subst hd
    exact hasMade_int A l cap ti mb S w
  · exact hasMade_data A l cap t mb n F S w hr ht hw hd hm hpos
end Go.Proofs.Ytbhfcobipcepiaa
