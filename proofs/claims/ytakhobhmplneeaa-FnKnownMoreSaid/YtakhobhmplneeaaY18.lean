/-
  When a tree is a value of a type: plain mathematics. No statement is proved here.
-/
import Derived.Test.YtakhobhmplneeaaY00
import Derived.Test.YtakhobhmplneeaaY09
import Derived.Test.YtakhobhmplneeaaY10
import Derived.Test.YtakhobhmplneeaaY17
namespace Go.Proofs.Ytakhobhmplneeaa
open Go.RowKit
set_option maxRecDepth 100000
set_option linter.unusedVariables false
theorem agR_ok {l : List Da} {t : Ty} {x : Int} (h : x ∈ ctR l t) : ∀ a ∈ agR l t x, TyOK l a := by
  obtain ⟨ht, d, m, hd, h1, rfl, hm⟩ := mem_ctR h
  obtain ⟨td, ti⟩ := t
  simp only at h1
  subst h1
  rw [agR_yes h hd hm]
  intro a ha
  refine ⟨ht.1, ?_⟩
  obtain ⟨hi, hargs⟩ := ctor_parts (world_ctor ht.1 hd hm)
  have hti : 0 ≤ ti ∧ ti ≤ 3 := by
    have h2 := ht.2
    rw [argB_data (by simp only; omega)] at h2
    have := of_decide_eq_true h2
    simp only at this
    omega
  unfold argT at ha
  obtain ⟨b, hb, rfl⟩ := List.mem_map.1 ha
  have hB := hargs b hb
  by_cases hb1 : b.data = -1
  · rw [argB_int hb1] at hB
    have h0 : b.index = 0 := of_decide_eq_true hB
    rw [argOf_other (by omega), argB_int hb1]
    exact decide_eq_true h0
  · rw [argB_data hb1] at hB
    have hp := of_decide_eq_true hB
    by_cases hs : b.index = -1
    · rw [argOf_same hs]
      have h5 : ¬ (Ty.mk b.data (resI l[d].ctors[m].index ti)).data = -1 := hb1
      rw [argB_data h5]
      refine decide_eq_true ?_
      unfold resI
      simp only
      split <;> omega
    · rw [argOf_other hs, argB_data hb1]
      exact decide_eq_true (by omega)
def upto (f : Nat → Bool) : Nat → Bool
  | 0 => true
  | k + 1 => upto f k && f k
theorem upto_le {f : Nat → Bool} {k : Nat} (e : Nat) (h : upto f k = false) : upto f (k + e) = false := by
  induction e with
  | zero => exact h
  | succ e ih => show (upto f (k + e) && f (k + e)) = false; rw [ih]; rfl
theorem upto_f {f : Nat → Bool} {n k : Nat} (hk : k < n) (h : f k = false) : upto f n = false := by
  have := upto_le (f := f) (k := k + 1) (n - (k + 1)) (by show (upto f k && f k) = false; rw [h]; simp)
  rwa [show k + 1 + (n - (k + 1)) = n by omega] at this
theorem upto_t {f : Nat → Bool} {k : Nat} (h : upto f k = true) (h' : f k = true) : upto f (k + 1) = true := by
  show (upto f k && f k) = true; rw [h, h']; rfl
theorem upto_get {f : Nat → Bool} {n k : Nat} (h : upto f n = true) (hk : k < n) : f k = true := by
  by_cases e : f k = true
  · exact e
  · have := upto_f hk (by simpa using e); rw [h] at this; cases this
noncomputable def fitV (l : List Da) : Nat → Ty → Vl → Bool
  | 0, _, _ => false
  | d + 1, t, v => if t.data = -1 then decide (v.ctor = -1) && (decide (0 ≤ v.n) && (decide (v.n ≤ 9) && decide (v.kids.length = 0)))
      else decide (v.n = 0) && (dec (v.ctor ∈ ctR l t) && (decide (v.kids.length = (agR l t v.ctor).length) && upto (fun i => fitV l d ((agR l t v.ctor).getD i default) (v.kids.getD i default)) (agR l t v.ctor).length))
/-- Which of the parts fit. -/
noncomputable def kidV (l : List Da) (d : Nat) (ats : List Ty) (ks : List Vl) (i : Nat) : Bool := fitV l d (ats.getD i default) (ks.getD i default)
section
variable {l : List Da} {d : Nat} {t : Ty} {v : Vl}
theorem fit_zero : fitV l 0 t v = false := rfl
theorem fit_int (h : t.data = -1) : fitV l (d + 1) t v = (decide (v.ctor = -1) && (decide (0 ≤ v.n) && (decide (v.n ≤ 9) && decide (v.kids.length = 0)))) := if_pos h
theorem fit_n (h : ¬ t.data = -1) (hn : ¬ v.n = 0) : fitV l (d + 1) t v = false := by
  show (if t.data = -1 then _ else _) = _
  rw [if_neg h, decide_eq_false hn]; rfl
theorem fit_ctor (h : ¬ t.data = -1) (hc : ¬ v.ctor ∈ ctR l t) : fitV l (d + 1) t v = false := by
  show (if t.data = -1 then _ else _) = _
  rw [if_neg h, dec_f hc]; simp
theorem fit_len (h : ¬ t.data = -1) (hc : ¬ v.kids.length = (agR l t v.ctor).length) : fitV l (d + 1) t v = false := by
  show (if t.data = -1 then _ else _) = _
  rw [if_neg h, decide_eq_false hc]; simp
theorem fit_go (h : ¬ t.data = -1) (hn : v.n = 0) (hc : v.ctor ∈ ctR l t) (hl : v.kids.length = (agR l t v.ctor).length) : fitV l (d + 1) t v = upto (kidV l d (agR l t v.ctor) v.kids) (agR l t v.ctor).length := by
  show (if t.data = -1 then _ else _) = _
  rw [if_neg h, decide_eq_true hn, dec_t hc, decide_eq_true hl]; rfl
theorem kidV_at {ats : List Ty} {ks : List Vl} {i : Nat} (h : i < ats.length) (h' : i < ks.length) : kidV l d ats ks i = fitV l d ats[i] ks[i] := by
  unfold kidV
  rw [List.getD_eq_getElem?_getD, List.getD_eq_getElem?_getD, List.getElem?_eq_getElem h, List.getElem?_eq_getElem h']; rfl
end
end Go.Proofs.Ytakhobhmplneeaa
/-
  The value of least depth of a type: plain mathematics. No statement is proved here.
-/
namespace Go.Proofs.Ytakhobhmplneeaa
open Go.RowKit
set_option maxRecDepth 100000
set_option linter.unusedVariables false
theorem inh_dk {l : List Da} {t : Ty} (h : Inh l t) : Dk (mkF l) (ldep l t).toNat t := by
  rcases ldep_is l t with ⟨_, h2⟩ | ⟨_, h2, _⟩
  · obtain ⟨_, k, hk⟩ := h; exact absurd hk (h2 k)
  · exact h2
/-- One more than the greatest least depth, or 0. -/
noncomputable def mdp (l : List Da) (L : List Ty) : Int := dpR (ldep l) (Inh l) L
theorem mxT_le {F : Ty → Int} {L : List Ty} {b : Int} (h0 : 0 ≤ b) (h : ∀ a ∈ L, F a ≤ b) : ∀ k, k ≤ L.length → mxT F L k ≤ b
  | 0, _ => h0
  | k + 1, hk => by
    rw [mxT_succ hk]
    have h1 := mxT_le h0 h k (by omega)
    have h2 := h _ (List.getElem_mem hk)
    omega
theorem mxT_ge {F : Ty → Int} {L : List Ty} : ∀ k, k ≤ L.length → ∀ j (hj : j < L.length), j < k → F L[j] ≤ mxT F L k
  | 0, _, _, _, h => absurd h (Nat.not_lt_zero _)
  | k + 1, hk, j, hj, hjk => by
    rw [mxT_succ hk]
    by_cases e : j = k
    · subst e; omega
    · have := mxT_ge (F := F) k (by omega) j hj (by omega); omega
theorem mdp_no {l : List Da} {L : List Ty} (h : ¬ ∀ a ∈ L, Inh l a) : mdp l L = 0 := dpR_no h
theorem mdp_yes {l : List Da} {L : List Ty} (h : ∀ a ∈ L, Inh l a) : mdp l L = mxT (ldep l) L L.length + 1 := dpR_yes h
theorem mdp_pos {l : List Da} {L : List Ty} (h : 0 < mdp l L) : ∀ a ∈ L, Inh l a ∧ ldep l a < mdp l L := by
  by_cases hi : ∀ a ∈ L, Inh l a
  · intro a ha
    refine ⟨hi a ha, ?_⟩
    rw [mdp_yes hi]
    obtain ⟨j, hj, rfl⟩ := List.getElem_of_mem ha
    have := mxT_ge (F := ldep l) L.length (Nat.le_refl _) j hj hj
    omega
  · rw [mdp_no hi] at h; omega
theorem least_ctor {l : List Da} {t : Ty} (hok : TyOK l t) (hd : ¬ t.data = -1) (h : Inh l t) : ∃ x ∈ ctR l t, mdp l (agR l t x) = ldep l t := by
  have h1 := inh_dk h
  have hp := ldep_yes h
  obtain ⟨m, hm⟩ : ∃ m : Nat, (ldep l t).toNat = m + 1 := ⟨(ldep l t).toNat - 1, by omega⟩
  rw [hm] at h1
  have h1' : mkF l (Dk (mkF l) m) t := h1
  obtain ⟨x, hx, ha⟩ := (mkF_iff hok hd).1 h1'
  have hin : ∀ a ∈ agR l t x, a ∈ tysN l.length := fun a ha => ok_tys (agR_ok hx a ha)
  have hall : ∀ a ∈ agR l t x, Inh l a := fun a h' => ⟨hin a h', m, ha a h'⟩
  refine ⟨x, hx, ?_⟩
  rw [mdp_yes hall]
  have hle := mxT_le (F := ldep l) (L := agR l t x) (b := m) (by omega) (fun a h' => ldep_le (ha a h')) _ (Nat.le_refl _)
  have hge := mxT_ge (F := ldep l) (L := agR l t x) _ (Nat.le_refl _)
  have h0 := mxT_nonneg (ldep l) (agR l t x) (agR l t x).length
  generalize mxT (ldep l) (agR l t x) (agR l t x).length = M at hle hge h0
  have hdk : Dk (mkF l) (M.toNat + 1) t := by
    refine (mkF_iff hok hd).2 ⟨x, hx, fun a h' => ?_⟩
    obtain ⟨j, hj, rfl⟩ := List.getElem_of_mem h'
    have h2 := hge j hj hj
    have h3 := inh_dk (hall _ h')
    have h4 := ldep_nonneg l (agR l t x)[j]
    exact Dk_up_le (by omega) _ h3
  have := ldep_le hdk
  omega
end Go.Proofs.Ytakhobhmplneeaa
/-
  The seven worlds that the document's draws begin with: no type of theirs that has values has a least depth above 2. No statement is proved here.
-/
namespace Go.Proofs.Ytakhobhmplneeaa
open Go.RowKit Go.Deep
set_option maxRecDepth 100000
set_option linter.unusedVariables false
/-- One of the seven. -/
def Seven (l : List Da) : Prop := ∃ k, ∃ h : k < texts.length, k < 7 ∧ l = outW texts[k]
def mkB (l : List Da) (S : Ty → Bool) (t : Ty) : Bool := decide (t.data = -1) || (List.range l.length).any fun d => decide (t.data = d) && (l.getD d default).ctors.any fun c => fitsB c.index t.index && (argT c t.index).all S
theorem mkB_iff {l : List Da} {S : Ty → Bool} {P : Ty → Prop} (h : ∀ a, S a = true ↔ P a) (t : Ty) : mkB l S t = true ↔ mkF l P t := by
  unfold mkB mkF
  rw [Bool.or_eq_true, decide_eq_true_eq, List.any_eq_true]
  constructor
  · rintro (h0 | ⟨d, hd, hx⟩)
    · exact .inl h0
    · have hd' := List.mem_range.1 hd
      rw [Bool.and_eq_true, decide_eq_true_eq, List.any_eq_true] at hx
      obtain ⟨h1, c, hc, h2⟩ := hx
      rw [getD_in hd'] at hc
      obtain ⟨m, hm, rfl⟩ := List.getElem_of_mem hc
      rw [Bool.and_eq_true, List.all_eq_true] at h2
      exact .inr ⟨d, hd', m, hm, h1, h2.1, fun a ha => (h a).1 (h2.2 a ha)⟩
  · rintro (h0 | ⟨d, hd, m, hm, h1, h2, h3⟩)
    · exact .inl h0
    · refine .inr ⟨d, List.mem_range.2 hd, ?_⟩
      rw [Bool.and_eq_true, decide_eq_true_eq, List.any_eq_true]
      refine ⟨h1, l[d].ctors[m], by rw [getD_in hd]; exact List.getElem_mem hm, ?_⟩
      rw [Bool.and_eq_true, List.all_eq_true]
      exact ⟨h2, fun a ha => (h a).2 (h3 a ha)⟩
def dkB (l : List Da) : Nat → Ty → Bool
  | 0 => fun _ => false
  | k + 1 => mkB l (dkB l k)
theorem dkB_iff (l : List Da) : ∀ k t, dkB l k t = true ↔ Dk (mkF l) k t
  | 0, t => by unfold dkB Dk; simp
  | k + 1, t => mkB_iff (dkB_iff l k) t
def restB (l : List Da) : Bool := (tysN l.length).all fun t => !dkB l 3 t || dkB l 2 t
theorem texts_rest : ((texts.take 7).all fun s => restB (outW s)) = true := by decide +kernel
theorem Seven.ok {l : List Da} (h : Seven l) : WorldOK l ∧ 0 < l.length ∧ restB l = true := by
  obtain ⟨k, hk, h7, rfl⟩ := h
  obtain ⟨_, hg, h0, _, _⟩ := text_good h7
  refine ⟨hg.2.1, h0, ?_⟩
  have h := texts_rest
  rw [List.all_eq_true] at h
  exact h _ (by rw [List.mem_take_iff_getElem]; exact ⟨k, by rw [texts_len]; omega, rfl⟩)
theorem Seven.dep {l : List Da} (h : Seven l) {t : Ty} (hi : Inh l t) : ldep l t ≤ 2 := by
  obtain ⟨hw, _, hr⟩ := h.ok
  obtain ⟨ht, k, hk⟩ := hi
  unfold restB at hr
  rw [List.all_eq_true] at hr
  have hs : ∀ t ∈ tysN l.length, Dk (mkF l) 3 t → Dk (mkF l) 2 t := fun t ht h3 => by
    have := hr t ht
    rw [(dkB_iff l 3 t).2 h3] at this
    exact (dkB_iff l 2 t).1 (by simpa using this)
  have h2 : Dk (mkF l) 2 t := by
    by_cases h2 : 2 ≤ k
    · exact Dk_rest (mkF_tys hw) hs k h2 t ht hk
    · exact Dk_up_le (by omega) t hk
  exact ldep_le h2
end Go.Proofs.Ytakhobhmplneeaa
/-
  Rows of the call's own by their kinds alone: what remains true of them when a cell is overwritten by one of its kind. No statement is proved here.
-/
namespace Go.Proofs.Ytakhobhmplneeaa
open Go.RowKit Go.Deep
set_option linter.unusedVariables false
section
variable {w w' : World} {lo N N' n : Nat} {v : Value}
theorem T33_not31 : ¬ T33 105 := by unfold T33; decide
theorem T31_not28 : ¬ T31 103 := by unfold T31; decide
end
end Go.Proofs.Ytakhobhmplneeaa
