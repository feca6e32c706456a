/-
  The least depths of all types that have values, in a map: the program's function. No statement is proved here.
-/
import Derived.Test.YteoopmogklpnoaaU15
import Derived.Test.YteoopmogklpnoaaU05
import Derived.Test.YteoopmogklpnoaaU12
import Derived.Lib.SmallJoins
import Derived.Deep.RegionWith
namespace Go.Proofs.Yteoopmogklpnoaa
open Go.RowKit Go.Maps
set_option maxRecDepth 100000
set_option linter.unusedVariables false
/-- The types that are made within k rounds, and those that are not, yet. -/
def Mk (l : List Da) (k : Nat) (t : Ty) : Prop := t ∈ tysN l.length ∧ Dk (mkF l) k t
noncomputable def opn (l : List Da) (k : Nat) : List Ty := (tysN l.length).filter (fun t => dec (¬ Dk (mkF l) k t))
/-- The types that have values. -/
def Inh (l : List Da) (t : Ty) : Prop := t ∈ tysN l.length ∧ ∃ k, Dk (mkF l) k t
theorem mem_opn {l : List Da} {k : Nat} {t : Ty} : t ∈ opn l k ↔ t ∈ tysN l.length ∧ ¬ Dk (mkF l) k t := by
  unfold opn
  rw [List.mem_filter]
  constructor
  · rintro ⟨h1, h2⟩
    refine ⟨h1, fun h => ?_⟩
    rw [dec_f (fun hn => hn h)] at h2; cases h2
  · rintro ⟨h1, h2⟩
    exact ⟨h1, dec_t h2⟩
theorem opn_zero (l : List Da) : opn l 0 = tysN l.length := by
  unfold opn
  exact List.filter_eq_self.2 (fun t _ => dec_t (fun h => h.elim))
theorem mkF_Mk {l : List Da} (hw : WorldOK l) {k : Nat} {t : Ty} (ht : t ∈ tysN l.length) : mkF l (Mk l k) t ↔ Dk (mkF l) (k + 1) t :=
  ⟨mkF_tys hw (Mk l k) (Dk (mkF l) k) (fun _ _ h => h.2) t ht, mkF_tys hw (Dk (mkF l) k) (Mk l k) (fun t h h' => ⟨h, h'⟩) t ht⟩
theorem fil_all (P : Ty → Prop) (U : List Ty) : fil P U U.length = U.filter (fun t => dec (P t)) := by unfold fil; rw [List.take_of_length_le (Nat.le_refl _)]
theorem opn_next {l : List Da} (hw : WorldOK l) (k : Nat) : fil (fun t => ¬ mkF l (Mk l k) t) (opn l k) (opn l k).length = opn l (k + 1) := by
  rw [fil_all]
  unfold opn
  rw [List.filter_filter]
  refine List.filter_congr (fun t ht => ?_)
  rw [dec_congr (not_congr (mkF_Mk hw ht))]
  by_cases h : Dk (mkF l) (k + 1) t
  · rw [dec_f (fun hn => hn h)]; rfl
  · rw [dec_t h, dec_t (fun hn => h (Dk_up _ _ hn))]; rfl
/-- What is made in round k + 1. -/
noncomputable def new (l : List Da) (k : Nat) : List Ty := fil (mkF l (Mk l k)) (opn l k) (opn l k).length
theorem mem_new {l : List Da} (hw : WorldOK l) {k : Nat} {t : Ty} : t ∈ new l k ↔ t ∈ tysN l.length ∧ Dk (mkF l) (k + 1) t ∧ ¬ Dk (mkF l) k t := by
  unfold new
  rw [fil_all, List.mem_filter, mem_opn]
  constructor
  · rintro ⟨⟨h1, h2⟩, h3⟩
    refine ⟨h1, Classical.byContradiction fun h => ?_, h2⟩
    rw [dec_f (fun hn => h ((mkF_Mk hw h1).1 hn))] at h3; cases h3
  · rintro ⟨h1, h2, h3⟩
    exact ⟨⟨h1, h3⟩, dec_t ((mkF_Mk hw h1).2 h2)⟩
theorem len_parts (P : Ty → Prop) (U : List Ty) : (U.filter (fun t => dec (P t))).length + (U.filter (fun t => dec (¬ P t))).length = U.length := by
  induction U with
  | nil => rfl
  | cons t U ih =>
    by_cases h : P t
    · rw [List.filter_cons_of_pos (by rw [dec_t h]), List.filter_cons_of_neg (by rw [dec_f (fun hn => hn h)]; simp)]
      simp only [List.length_cons]; omega
    · rw [List.filter_cons_of_neg (by rw [dec_f h]; simp), List.filter_cons_of_pos (by rw [dec_t h])]
      simp only [List.length_cons]; omega
theorem new_len {l : List Da} (hw : WorldOK l) (k : Nat) : (new l k).length + (opn l (k + 1)).length = (opn l k).length := by
  rw [← opn_next hw, new, fil_all, fil_all]
  exact len_parts _ _
theorem new_dep {l : List Da} (hw : WorldOK l) {k : Nat} {t : Ty} (h : t ∈ new l k) : (k : Int) + 1 = ldep l t := by
  obtain ⟨_, h1, h2⟩ := (mem_new hw).1 h
  refine ldep_eq (.inr ⟨by omega, by rw [show ((k : Int) + 1).toNat = k + 1 by omega]; exact h1, fun j hj hd => h2 (Dk_up_le (by omega) t hd)⟩)
theorem ldep_le {l : List Da} {t : Ty} {k : Nat} (h : Dk (mkF l) k t) : ldep l t ≤ k := by
  rcases ldep_is l t with ⟨h1, _⟩ | ⟨h1, _, h3⟩
  · omega
  · have : ¬ k < (ldep l t).toNat := fun hk => h3 k hk h
    omega
theorem mk_pos {l : List Da} {k : Nat} (hk : k ≤ 17) : ∀ t ∈ tysN 4, Mk l k t → 0 < ldep l t ∧ ldep l t ≤ 5000 := fun t _ h => ⟨ldep_pos h.2, by have := ldep_le h.2; omega⟩
/-- Once a round makes nothing, all have been made. -/
theorem mk_all {l : List Da} (hw : WorldOK l) {k : Nat} (h : new l k = []) (t : Ty) : Mk l k t ↔ Inh l t := by
  constructor
  · exact fun h => ⟨h.1, k, h.2⟩
  · rintro ⟨h1, j, h2⟩
    refine ⟨h1, ?_⟩
    have hr : ∀ t ∈ tysN l.length, Dk (mkF l) (k + 1) t → Dk (mkF l) k t := fun t ht h3 => Classical.byContradiction fun h4 => by
      have : t ∈ new l k := (mem_new hw).2 ⟨ht, h3, h4⟩
      rw [h] at this; simp at this
    by_cases hj : k ≤ j
    · exact Dk_rest (mkF_tys hw) hr j hj t h1 h2
    · exact Dk_up_le (by omega) t h2
/-- After j of a round's types. -/
def Mk' (l : List Da) (k j : Nat) (t : Ty) : Prop := Mk l k t ∨ ∃ i, ∃ h : i < (new l k).length, i < j ∧ (new l k)[i] = t
theorem mk'_zero (l : List Da) (k : Nat) (t : Ty) : Mk l k t ↔ Mk' l k 0 t := ⟨.inl, fun h => h.resolve_right (fun ⟨_, _, h, _⟩ => absurd h (by omega))⟩
theorem mk'_step {l : List Da} {k j : Nat} (hj : j < (new l k).length) (t : Ty) : (t = (new l k)[j] ∨ Mk' l k j t) ↔ Mk' l k (j + 1) t := by
  constructor
  · rintro (rfl | h | ⟨i, h, h1, h2⟩)
    · exact .inr ⟨j, hj, by omega, rfl⟩
    · exact .inl h
    · exact .inr ⟨i, h, by omega, h2⟩
  · rintro (h | ⟨i, h, h1, h2⟩)
    · exact .inr (.inl h)
    · by_cases e : i = j
      · subst e; exact .inl h2.symm
      · exact .inr (.inr ⟨i, h, by omega, h2⟩)
theorem mk'_all {l : List Da} (hw : WorldOK l) {k : Nat} (t : Ty) : Mk' l k (new l k).length t ↔ Mk l (k + 1) t := by
  constructor
  · rintro (h | ⟨i, h, _, rfl⟩)
    · exact ⟨h.1, Dk_up _ _ h.2⟩
    · obtain ⟨h1, h2, _⟩ := (mem_new hw).1 (List.getElem_mem h)
      exact ⟨h1, h2⟩
  · rintro ⟨h1, h2⟩
    by_cases h3 : Dk (mkF l) k t
    · exact .inl ⟨h1, h3⟩
    · obtain ⟨i, hi, e⟩ := List.getElem_of_mem ((mem_new hw).2 ⟨h1, h2, h3⟩)
      exact .inr ⟨i, hi, hi, e⟩
/-- Every block of w but one reads as it did. -/
def KeepBut (w w' : World) (b : Nat) : Prop := w.heap.size ≤ w'.heap.size ∧ ∀ k, k < w.heap.size → k ≠ b → w'.heap[k]? = w.heap[k]?
theorem KeepBut.refl (w : World) (b : Nat) : KeepBut w w b := ⟨Nat.le_refl _, fun _ _ _ => rfl⟩
theorem KeepBut.alloc {w w' : World} {b : Nat} (h : KeepBut w w' b) (o : Obj) : KeepBut w (w'.alloc o) b := ⟨by simp; have := h.1; omega, fun k hk hne => (Below.heap_alloc _ _ _ (Nat.lt_of_lt_of_le hk h.1)).trans (h.2 k hk hne)⟩
theorem KeepBut.grown {w w' w'' : World} {b : Nat} (h : KeepBut w w' b) (hg : w'.grownBy w'' (some b)) : KeepBut w w'' b := ⟨Nat.le_trans h.1 hg.size, fun k hk hne => (hg.block k (Nat.lt_of_lt_of_le hk h.1) (fun e => hne (by injection e))).trans (h.2 k hk hne)⟩
theorem OTys.but {w w' : World} {lo b : Nat} {u : Value} {l : List Ty} {k : Nat} (h : OTys w lo u l k) (hk : KeepBut w w' b) (hb : b < lo) : OTys w' lo u l k := by
  obtain ⟨xs, ho, hx⟩ := h
  refine ⟨xs, ⟨ho.1, ?_⟩, hx⟩
  rcases ho.2 with h0 | ⟨g, cap, cur, a1, a2, a3, a4⟩
  · exact .inl h0
  · exact .inr ⟨g, cap, cur, a1, a2, (hk.2 g (heap_lt a3) (by omega)).trans a3, a4⟩
def lenV : Value → Nat
  | .slice _ n _ => n
  | _ => 0
theorem new_le (l : List Da) (hl : l.length ≤ 4) (k : Nat) : (new l k).length ≤ 17 := by
  have h1 := fil_len (mkF l (Mk l k)) (opn l k) (opn l k).length
  have h2 : (opn l k).length ≤ (tysN l.length).length := List.length_filter_le _ _
  rw [tysN_len] at h2
  unfold new
  omega
theorem opn_le (l : List Da) (hl : l.length ≤ 4) (k : Nat) : (opn l k).length ≤ 17 := by
  have h2 : (opn l k).length ≤ (tysN l.length).length := List.length_filter_le _ _
  rw [tysN_len] at h2
  omega
theorem key_of' {t : Ty} (ht : t ∈ tysN 4) : keyOf Try.prog 25 (.agg #[.int .i64 t.data, .int .i64 t.index]) = some (keyL t) := key_of ht
theorem int_wf {k : Nat} (h : k ≤ 100) : (Lit.int .i64 ((k : Int) + 1)).wf = true := WalkArith.wf_i64 (by omega)
end Go.Proofs.Yteoopmogklpnoaa
/-
  The least depths of all types that have values, in a map: the program's function, the walk. No statement is proved here.
-/
namespace Go.Proofs.Yteoopmogklpnoaa
open Go.RowKit Go.Maps
set_option maxRecDepth 100000
set_option linter.unusedVariables false
theorem nil_of_len {α : Type} {l : List α} (h : l.length = 0) : l = [] := List.eq_nil_of_length_eq_zero h
set_option maxHeartbeats 3000000 in
theorem leastDepths_any (A : Option Addr) (l : List Da) (cap : Nat) (w : World) (hr : RDas w w.heap.size A l) (hw : WorldOK l) :
    Calls Try.prog 59 #[.slice A l.length cap] w fun e w' => e = .returned (.map (some w.heap.size)) ∧ MapTy w' w.heap.size 400 (ldep l) (Inh l) ∧ Below w.heap.size w w' := by
  have Hr := Lib.hid hr
  have HW := Lib.hid hw
  have hl4 := hw.1
  have HS0 := Lib.hid (opn_zero l)
  have hO0 := tysN_len l.length
  have hM0 : Hid (MapTy (w.alloc (.map #[] 0)) w.heap.size 0 (ldep l) (Mk l 0)) := (MapTy.made w (ldep l)).keep rfl (Nat.le_refl _) (fun t _ => ⟨False.elim, fun h => h.2.elim⟩)
  have HB0 : Hid (∀ o : Obj, Below w.heap.size w (w.alloc o)) := fun o => (Below.refl _ _).alloc (Nat.le_refl _) _
  have hmm := @run_makeMap Try.prog
  clear hr hw
  go_enter Try.func59, Try.ntmps59
  go_wp2_with fail
  refine (typesOf_any _ _ _ _ hl4).mono ?_
  rintro e w1 ⟨v, rfl, ho, hb1⟩
  have hM1 := Lib.hid (hM0.out.at_ hb1)
  have HO1 : Hid (OTys w1 (w.heap.size + 1) v (opn l 0) (opn l 0).length) := by unfold Hid; rw [HS0.out]; simpa using ho
  have HL0 : Hid ((opn l 0).length + 0 ≤ l.length * 4 + 1) := by unfold Hid; rw [HS0.out]; omega
  have hb2 : Below w.heap.size w w1 := (HB0.out _).trans (hb1.mono (by simp))
  clear ho hb1 hM0 hmm hO0
  go_wp2_with fail
  go_loopw [4, 5] (fun v d wr => ∃ k : Nat, d = .int .i64 ((k : Int) + 1) ∧ lenV v = (opn l k).length ∧ OTys wr (w.heap.size + 1) v (opn l k) (opn l k).length ∧ (opn l k).length + k ≤ l.length * 4 + 1 ∧ MapTy wr w.heap.size (17 * k) (ldep l) (Mk l k) ∧ Below w.heap.size w wr) (fun v _ _ => lenV v)
  case atStart =>
    obtain ⟨A1, cap1, hv, _⟩ := HO1.out.form (by have := opn_le l hl4 0; unfold maxLen; omega)
    exact ⟨0, rfl, by rw [hv]; rfl, HO1.out, HL0.out, hM1.out, hb2⟩
  case round =>
    clear HO1 HL0 hM1 hb2 HB0 HS0
    obtain ⟨k, rfl, hlen, ho, hle, hm, hb⟩ := hrel
    have hol := opn_le l hl4 k
    obtain ⟨A1, cap1, rfl, hr1⟩ := ho.form (by unfold maxLen; omega)
    have HR1 := Lib.hid hr1
    have HO := Lib.hid ho
    have HM := Lib.hid hm
    have HLE := Lib.hid hle
    have hk17 : k ≤ 17 := by omega
    have HRr : Hid (RDas wr wr.heap.size A l) := (Hr.out.below hb (Nat.le_refl _)).keep (fun _ _ => rfl) hb.size
    have hlt0 := hm.lt
    have hnl := new_le l hl4 k
    have HNL := Lib.hid (new_len HW.out k)
    have hlen2 := hlen
    clear hr1 ho hm hle hlen
    go_wp2_with fail
    refine (splitMade_any _ _ _ _ _ _ _ _ _ _ _ HRr.out HR1.out (fun t ht => (mem_opn.1 ht).1) HW.out HM.out (mk_pos hk17) hol).mono ?_
    rw [opn_next HW.out k]
    rintro e w2 ⟨v1, v2, rfl, ho1, ho2, hb2'⟩
    have hb2 : Below w.heap.size w w2 := below_after hb hb2' hb.size
    have ho1' : OTys w2 wr.heap.size v1 (new l k) (new l k).length := ho1
    have HM2 := Lib.hid (HM.out.at_ hb2')
    have HO2 := Lib.hid ho2
    have HO1 := Lib.hid ho1'
    have hs2 := hb2'.size
    clear ho1 ho1' ho2 hb2' HM HO HRr HR1
    obtain ⟨A3, cap3, rfl, hr3⟩ := HO1.out.form (by unfold maxLen; omega)
    obtain ⟨A4, cap4, rfl, hr4⟩ := HO2.out.form (by have := opn_le l hl4 (k + 1); unfold maxLen; omega)
    clear hr3 hr4
    by_cases hz : (new l k).length = 0
    · have HF : Hid (MapTy w2 w.heap.size 400 (ldep l) (Inh l)) := HM2.out.keep rfl (by omega) (fun t _ => mk_all HW.out (nil_of_len hz) t)
      have q : (((new l k).length : Int) == 0) = true := by rw [hz]; rfl
      clear hz
      go_wp2_with fail
      go_ret
      exact ⟨rfl, HF.out, hb2⟩
    · have q : (((new l k).length : Int) == 0) = false := beq_eq_false_iff_ne.2 (by omega)
      go_wp2_with fail
      obtain ⟨wo, rfl⟩ : ∃ wo : World, wo = wr := ⟨_, rfl⟩
      go_loopw [28] (fun i wi => ∃ j : Nat, j ≤ (new l k).length ∧ i = .int .i64 j ∧ MapTy wi w.heap.size (17 * k + j) (ldep l) (Mk' l k j) ∧ KeepBut w2 wi w.heap.size ∧ Below w.heap.size w wi) (fun i _ => (new l k).length - (intOf i).toNat)
      case atStart => exact ⟨0, by omega, rfl, HM2.out.keep rfl (Nat.le_refl _) (fun t _ => mk'_zero l k t), KeepBut.refl _ _, hb2⟩
      case round =>
        clear HM2 hb2
        obtain ⟨j, hj, rfl, hm, hkb, hbi⟩ := hrel
        by_cases hjt : j < (new l k).length
        · have hjI : (j : Int) < ((new l k).length : Int) := by omega
          obtain ⟨A5, cap5, e5, hr5⟩ := (HO1.out.but hkb hlt0).form (by unfold maxLen; omega)
          injection e5 with e5a e5b e5c
          subst e5a e5c
          obtain ⟨b, off, e6, hbB, c0, c1⟩ := hr5.2 j hjt
          subst e6
          have HDP := Lib.hid (new_dep HW.out (List.getElem_mem hjt))
          have HT : Hid ((new l k)[j] ∈ tysN 4) := tys_mono hl4 ((mem_new HW.out).1 (List.getElem_mem hjt)).1
          have HST := Lib.hid (mk'_step (l := l) (k := k) hjt)
          obtain ⟨D, hod, hmD, hat⟩ := hm
          have HOD := Lib.hid hod
          have HAT := Lib.hid hat
          have HMD := Lib.hid hmD
          have hKey := Lib.hid (key_of' HT.out)
          have hNm : 17 * k + j < maxLen := by unfold maxLen; omega
          have hsi := hbi.size
          clear hod hat hmD hr5
          go_wp2_with (at_mapUpdate; refine wpList_mapUpdate_own _ rfl _ _ _ 96 rfl 25 3 keyT Try.underlying96 (plainElem Try.prog 3) w.heap.size (17 * k + j) D rfl (HOD.out.alloc _) hNm _ _ (keyL (new l k)[j]) rfl rfl hKey.out (.lit (.int .i64 ((k : Int) + 1))) [] (plainElem_int Try.underlying3 (int_wf (by omega))) ?_; intro w3 ho3 hg3)
          have hb3 : Below w.heap.size w w3 := (hbi.alloc (by omega) _).grown hg3 (by simp; omega) (fun g e => by injection e with e; omega)
          have hkb3 : KeepBut w2 w3 w.heap.size := (hkb.alloc _).grown hg3
          have HM3 : Hid (MapTy w3 w.heap.size (17 * k + (j + 1)) (ldep l) (Mk' l k (j + 1))) := by
            rw [HDP.out] at ho3
            exact (MapTy.put HT.out ho3 HMD.out HAT.out).keep rfl (by omega) (fun t _ => HST.out t)
          clear ho3 hg3 hkb c0 c1 HDP HT HST HOD HAT HMD hKey
          go_wp2_with fail
          go_roundw
          case rel => exact ⟨j + 1, by omega, by go_num, HM3.out, hkb3, hb3⟩
          case measure => simp [intOf]; omega
        · have hje : j = (new l k).length := by omega
          have hjI : ((new l k).length : Int) ≤ (j : Int) := by omega
          have HM3 : Hid (MapTy wr w.heap.size (17 * (k + 1)) (ldep l) (Mk l (k + 1))) := hm.keep rfl (by omega) (fun t _ => by rw [hje]; exact mk'_all HW.out t)
          have HO3 : Hid (OTys wr (w.heap.size + 1) (.slice A4 (opn l (k + 1)).length cap4) (opn l (k + 1)) (opn l (k + 1)).length) := (HO2.out.but hkb hlt0).lower (by omega)
          have HL3 : Hid ((opn l (k + 1)).length + (k + 1) ≤ l.length * 4 + 1) := by have := HNL.out; have := HLE.out; unfold Hid; omega
          have hdec : (opn l (k + 1)).length < (opn l k).length := by have := HNL.out; omega
          clear hm hje
          go_wp2_with fail
          go_roundw
          case rel => exact ⟨k + 1, by go_num, rfl, HO3.out, HL3.out, HM3.out, hbi⟩
          case measure => simp [lenV]; omega
end Go.Proofs.Yteoopmogklpnoaa
/-
  The function FnExactTypeValid returns true for every list of data types and every type, and both read behind the call as they read before. No condition.
-/
namespace Go.Proofs.Yteoopmogklpnoaa
open Go.RowKit Go.Deep
open Go.ChangeShapes Go.WideShapes Go.ChangeAt
set_option maxRecDepth 100000
set_option linter.unusedVariables false
/-- A type in a block of its own. -/
def Bx (w : World) (b : Nat) (t : Ty) : Prop := w.cell? ⟨b, 0, none⟩ = some (.int .i64 t.data) ∧ w.cell? ⟨b, 1, none⟩ = some (.int .i64 t.index)
theorem Bx.at_ {w w' : World} {b : Nat} {t : Ty} (h : Bx w b t) (hb : Below w.heap.size w w') : Bx w' b t :=
  ⟨(hb.cell (p := ⟨b, 0, none⟩) (Go.block_lt_of_cell h.1)).trans h.1, (hb.cell (p := ⟨b, 1, none⟩) (Go.block_lt_of_cell h.2)).trans h.2⟩
theorem Bx.new (w : World) (t : Ty) (T : TypeId) : Bx (w.alloc (.cells #[.int .i64 t.data, .int .i64 t.index] T)) w.heap.size t := ⟨by simp [go_sem], by simp [go_sem]⟩
end Go.Proofs.Yteoopmogklpnoaa
