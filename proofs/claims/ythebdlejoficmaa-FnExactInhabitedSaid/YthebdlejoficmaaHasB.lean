/-
  Whether a type has a value with arguments of known types: the program's function. No statement is proved here.
-/
import Derived.Test.YthebdlejoficmaaHasA
namespace Go.Proofs.Ythebdlejoficmaa
open Go.RowKit Go.Deep
set_option maxRecDepth 100000
set_option linter.unusedVariables false

theorem ctor_at {l : List Da} {t : Ty} {x : Int} (h : x ∈ ctR l t) : ∃ (d : Nat) (hd : d < l.length) (m : Nat) (hm : m < l[d].ctors.length), t.data = d ∧ x = m ∧ fitsB l[d].ctors[m].index t.index = true ∧ agR l t x = argT l[d].ctors[m] t.index := by
  obtain ⟨ht, d, m, hd, h1, h2, hm⟩ := mem_ctR h
  obtain ⟨td, ti⟩ := t
  simp only at h1
  subst h1
  have h' := h
  rw [ctR_data ht hd] at h'
  obtain ⟨m', hm', h3, h4⟩ := fits_of_mem _ (Nat.le_refl _) h'
  subst h3
  exact ⟨d, hd, m', hm', rfl, rfl, h4, agR_yes h hd hm'⟩
theorem mkF_iff {l : List Da} {S : Ty → Prop} {t : Ty} (hok : TyOK l t) (hd : ¬ t.data = -1) : mkF l S t ↔ ∃ x ∈ ctR l t, ∀ a ∈ agR l t x, S a := by
  constructor
  · rintro (h0 | ⟨d, hdl, m, hm, h1, h2, h3⟩)
    · exact absurd h0 hd
    · obtain ⟨td, ti⟩ := t
      simp only at h1
      subst h1
      have hx : (m : Int) ∈ ctR l ⟨d, ti⟩ := by rw [ctR_data hok hdl]; exact mem_of_fits hm h2 _ hm (Nat.le_refl _)
      exact ⟨m, hx, by rw [agR_yes hx hdl hm]; exact h3⟩
  · rintro ⟨x, hx, h⟩
    obtain ⟨d, hdl, m, hm, h1, h2, h3, h4⟩ := ctor_at hx
    rw [h4] at h
    exact .inr ⟨d, hdl, m, hm, h1, h3, h⟩
theorem tys_mono {n m : Nat} (h : n ≤ m) {t : Ty} (ht : t ∈ tysN n) : t ∈ tysN m := by
  rcases mem_tys.1 ht with h1 | h1
  · exact mem_tys.2 (.inl h1)
  · exact mem_tys.2 (.inr (by omega))
theorem args_tys4 {l : List Da} {t : Ty} (hw : WorldOK l) (ht : t ∈ tysN l.length) : ∀ x ∈ ctR l t, ∀ a ∈ agR l t x, a ∈ tysN 4 := fun x hx a ha => by
  obtain ⟨d, hdl, m, hm, h1, h2, h3, h4⟩ := ctor_at hx
  rw [h4] at ha
  exact tys_mono hw.1 (args_tys hw hdl hm (tys_ix ht).1 (tys_ix ht).2 a ha)


theorem below_after {w wr w' : World} {B : Nat} (h : Below B w wr) (hb : Below wr.heap.size wr w') (hB : B ≤ wr.heap.size) : Below B w w' := h.trans (hb.mono hB)
theorem below_three {w w' : World} {o1 o2 o3 : Obj} (h : Below (((w.alloc o1).alloc o2).alloc o3).heap.size (((w.alloc o1).alloc o2).alloc o3) w') : Below w.heap.size w w' := by
  have h0 : Below w.heap.size w (((w.alloc o1).alloc o2).alloc o3) := (((Below.refl _ _).alloc (Nat.le_refl _) o1).alloc (by simp) o2).alloc (by simp; omega) o3
  exact h0.trans (h.mono h0.size)

theorem hasMade_int (A : Option Addr) (l : List Da) (cap : Nat) (ix : Int) (mb : Nat) (S : Ty → Prop) (w : World) :
    Calls Try.prog 86 #[.slice A l.length cap, .agg #[.int .i64 (-1), .int .i64 ix], .map (some mb)] w fun e w' => e = .returned (.bool (dec (mkF l S ⟨-1, ix⟩))) ∧ Below w.heap.size w w' := by
  have HT : Hid (true = dec (mkF l S ⟨-1, ix⟩)) := (dec_t (.inl rfl)).symm
  have HB : Hid (∀ o1 o2 o3 : Obj, Below w.heap.size w (((w.alloc o1).alloc o2).alloc o3)) := fun o1 o2 o3 => below_three (Below.refl _ _)
  go_enter Try.func86, Try.ntmps86
  go_wp2_with fail
  go_ret
  exact ⟨ret_bool HT.out, HB.out _ _ _⟩

set_option maxHeartbeats 1600000 in
theorem hasMade_data (A : Option Addr) (l : List Da) (cap : Nat) (t : Ty) (mb n : Nat) (F : Ty → Int) (S : Ty → Prop) (w : World) (hr : RDas w w.heap.size A l) (ht : t ∈ tysN l.length) (hw : WorldOK l) (hd : ¬ t.data = -1) (hm : MapTy w mb n F S) (hpos : ∀ t ∈ tysN 4, S t → 0 < F t ∧ F t ≤ 5000) :
    Calls Try.prog 86 #[.slice A l.length cap, .agg #[.int .i64 t.data, .int .i64 t.index], .map (some mb)] w fun e w' => e = .returned (.bool (dec (mkF l S t))) ∧ Below w.heap.size w w' := by
  have hok := tys_ok hw ht
  have HK := Lib.hid hok
  have HF : Hid (dec (∃ x ∈ ctR l t, ∀ a ∈ agR l t x, S a) = dec (mkF l S t)) := by unfold Hid; congr 1; exact (propext (mkF_iff (S := S) hok hd)).symm
  have q := ieq_f hd
  have HA := Lib.hid (args_tys4 hw ht)
  have HP := Lib.hid hpos
  have HM := Lib.hid hm
  have HR := Lib.hid hr
  have hRl := ctR_len l t
  have hW : Below w.heap.size w (((w.alloc (.cells #[.slice A l.length cap] 26)).alloc (.cells #[.int .i64 t.data, .int .i64 t.index] 34)).alloc (.cells #[.map (some mb)] 74)) := below_three (Below.refl _ _)
  have HW : Hid (M3 (((w.alloc (.cells #[.slice A l.length cap] 26)).alloc (.cells #[.int .i64 t.data, .int .i64 t.index] 34)).alloc (.cells #[.map (some mb)] 74)) w.heap.size (w.heap.size + 1) (w.heap.size + 2) A l cap t mb n F S) :=
    ⟨by simp [go_sem], by simp [go_sem], by simp [go_sem], by simp [go_sem], hm.at_ hW, hr.keep (fun p hp => hW.cell hp) hW.size⟩
  have HB := Lib.hid hW
  clear hr hm hpos hd hw ht hok hW
  go_enter Try.func86, Try.ntmps86
  go_wp2_with fail
  refine (ctorsOf_all _ l _ t _ HW.out.rd HK.out).mono ?_
  rintro e w1 ⟨v, rfl, ho, hb'⟩
  obtain ⟨A1, cap1, rfl, hr1, _⟩ := ho.form2 hRl
  have HC := Lib.hid (containsM_any A1 cap1 _ _ _ A l cap t mb n F S w1 hr1 (HW.out.at_ hb') HA.out HP.out)
  have HB1 := Lib.hid (HB.out.trans (hb'.mono HB.out.size))
  clear ho hb' hr1
  go_wp2_with fail
  refine HC.out.mono ?_
  rintro e w2 ⟨rfl, hb2⟩
  have HB2 := Lib.hid (HB1.out.trans (hb2.mono HB1.out.size))
  clear hb2
  go_wp2_with fail
  go_ret
  exact ⟨ret_bool HF.out, HB2.out⟩

theorem hasMade_any (A : Option Addr) (l : List Da) (cap : Nat) (t : Ty) (mb n : Nat) (F : Ty → Int) (S : Ty → Prop) (w : World) (hr : RDas w w.heap.size A l) (ht : t ∈ tysN l.length) (hw : WorldOK l) (hm : MapTy w mb n F S) (hpos : ∀ t ∈ tysN 4, S t → 0 < F t ∧ F t ≤ 5000) :
    Calls Try.prog 86 #[.slice A l.length cap, .agg #[.int .i64 t.data, .int .i64 t.index], .map (some mb)] w fun e w' => e = .returned (.bool (dec (mkF l S t))) ∧ Below w.heap.size w w' := by
  by_cases hd : t.data = -1
  · obtain ⟨td, ti⟩ := t
    simp only at hd
    subst hd
    exact hasMade_int A l cap ti mb S w
  · exact hasMade_data A l cap t mb n F S w hr ht hw hd hm hpos
end Go.Proofs.Ythebdlejoficmaa
