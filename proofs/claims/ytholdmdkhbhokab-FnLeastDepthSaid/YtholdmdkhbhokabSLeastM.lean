/-
  The least depth of a type is that of one of its constructors: plain mathematics. No statement is proved here.
-/
import Derived.Test.YtholdmdkhbhokabSWideB
import Derived.Test.YtholdmdkhbhokabSArgTy
namespace Go.Proofs.Ytholdmdkhbhokab
open Go.RowKit Go.Deep
set_option linter.unusedVariables false

theorem lbR_no {l : List Da} {t : Ty} (h : lbR l t = false) : ldR l t = 0 := by
  by_cases ht : TyOK l t
  · have e : ldR l t = ldep l t := by unfold ldR; rw [dec_t ht]; rfl
    rw [e]
    have hn : ¬ Inh l t := fun hi => by
      unfold lbR at h
      rw [dec_t ⟨ht, hi⟩] at h; cases h
    exact ldep_no (ok_tys ht) hn
  · unfold ldR; rw [dec_f ht]; rfl
theorem ldR_bd {l : List Da} {t : Ty} : 0 ≤ ldR l t ∧ ldR l t ≤ 17 := by
  by_cases ht : TyOK l t
  · have e : ldR l t = ldep l t := by unfold ldR; rw [dec_t ht]; rfl
    rw [e]
    refine ⟨ldep_nonneg _ _, ?_⟩
    rcases ldep_is l t with ⟨h0, _⟩ | ⟨h0, h1, h2⟩
    · omega
    · have h3 := Dk_bound (mkF_tys ht.1) (ok_tys ht) h1
      rw [tysN_len] at h3
      have h4 := ht.1.1
      rcases Nat.lt_or_ge (l.length * 4 + 1) (ldep l t).toNat with hlt | hge
      · exact absurd h3 (h2 _ hlt)
      · omega
  · have e : ldR l t = 0 := by unfold ldR; rw [dec_f ht]; rfl
    rw [e]; omega
/-- Do all arguments have values? -/
def Fine (l : List Da) (L : List Ty) (k : Nat) : Prop := ∀ j (h : j < L.length), j < k → lbR l L[j] = true
/-- The greatest least depth of the first k arguments. -/
def Grt (l : List Da) (L : List Ty) (k : Nat) (m : Int) : Prop := 0 ≤ m ∧ m ≤ 17 ∧ (∀ j (h : j < L.length), j < k → ldR l L[j] ≤ m) ∧ (m = 0 ∨ ∃ j, ∃ h : j < L.length, j < k ∧ ldR l L[j] = m)
theorem Grt.zero (l : List Da) (L : List Ty) : Grt l L 0 0 := ⟨by omega, by omega, fun j _ h => absurd h (by omega), .inl rfl⟩
theorem Grt.up {l : List Da} {L : List Ty} {k : Nat} {m : Int} (h : Grt l L k m) (hk : k < L.length) (hm : m < ldR l L[k]) : Grt l L (k + 1) (ldR l L[k]) :=
  ⟨by have := h.1; omega, ldR_bd.2, fun j hj hjk => by
    by_cases e : j = k
    · subst e; exact Int.le_refl _
    · have := h.2.2.1 j hj (by omega); omega, .inr ⟨k, hk, by omega, rfl⟩⟩
theorem Grt.stay {l : List Da} {L : List Ty} {k : Nat} {m : Int} (h : Grt l L k m) (hk : k < L.length) (hm : ldR l L[k] ≤ m) : Grt l L (k + 1) m :=
  ⟨h.1, h.2.1, fun j hj hjk => by
    by_cases e : j = k
    · subst e; exact hm
    · exact h.2.2.1 j hj (by omega), h.2.2.2.imp id fun ⟨j, hj, h1, h2⟩ => ⟨j, hj, by omega, h2⟩⟩
/-- The best of the first i constructors. -/
def Bst (l : List Da) (t : Ty) (i : Nat) (b : Int) : Prop :=
  0 ≤ b ∧ b ≤ 18 ∧ (b = 0 → ∀ j x, j < i → (ctR l t)[j]? = some x → ¬ Fine l (agR l t x) (agR l t x).length) ∧
  (0 < b → ∃ j x m, j < i ∧ (ctR l t)[j]? = some x ∧ Fine l (agR l t x) (agR l t x).length ∧ Grt l (agR l t x) (agR l t x).length m ∧ m + 1 = b) ∧
  ∀ j x m, j < i → (ctR l t)[j]? = some x → Fine l (agR l t x) (agR l t x).length → Grt l (agR l t x) (agR l t x).length m → b ≤ m + 1
theorem Bst.zero (l : List Da) (t : Ty) : Bst l t 0 0 := ⟨by omega, by omega, fun _ j _ h => absurd h (by omega), fun h => absurd h (by omega), fun j _ _ h => absurd h (by omega)⟩
theorem grt_unique {l : List Da} {L : List Ty} {k : Nat} {m m' : Int} (h : Grt l L k m) (h' : Grt l L k m') : m = m' := by
  have a : m ≤ m' := by
    rcases h.2.2.2 with h0 | ⟨j, hj, h1, h2⟩
    · have := h'.1; omega
    · have := h'.2.2.1 j hj h1; omega
  have b : m' ≤ m := by
    rcases h'.2.2.2 with h0 | ⟨j, hj, h1, h2⟩
    · have := h.1; omega
    · have := h.2.2.1 j hj h1; omega
  omega
theorem Bst.skip {l : List Da} {t : Ty} {i : Nat} {b x : Int} (h : Bst l t i b) (hx : (ctR l t)[i]? = some x) (hf : ¬ Fine l (agR l t x) (agR l t x).length) : Bst l t (i + 1) b := by
  obtain ⟨h1, h2, h3, h4, h5⟩ := h
  refine ⟨h1, h2, fun hb j y hj hy => ?_, fun hb => ?_, fun j y m hj hy hfy hg => ?_⟩
  · by_cases e : j = i
    · subst e; rw [hx] at hy; injection hy with hy; subst hy; exact hf
    · exact h3 hb j y (by omega) hy
  · obtain ⟨j, y, m, hj, r⟩ := h4 hb
    exact ⟨j, y, m, by omega, r⟩
  · by_cases e : j = i
    · subst e; rw [hx] at hy; injection hy with hy; subst hy; exact absurd hfy hf
    · exact h5 j y m (by omega) hy hfy hg
theorem Bst.worse {l : List Da} {t : Ty} {i : Nat} {b x m : Int} (h : Bst l t i b) (hx : (ctR l t)[i]? = some x) (hg : Grt l (agR l t x) (agR l t x).length m) (hb : 0 < b) (hle : b ≤ m + 1) : Bst l t (i + 1) b := by
  obtain ⟨h1, h2, h3, h4, h5⟩ := h
  refine ⟨h1, h2, fun hb0 => absurd hb0 (by omega), fun hb => ?_, fun j y m' hj hy hfy hg' => ?_⟩
  · obtain ⟨j, y, m, hj, r⟩ := h4 hb
    exact ⟨j, y, m, by omega, r⟩
  · by_cases e : j = i
    · subst e; rw [hx] at hy; injection hy with hy; subst hy
      have := grt_unique hg hg'
      omega
    · exact h5 j y m' (by omega) hy hfy hg'
theorem Bst.better {l : List Da} {t : Ty} {i : Nat} {b x m : Int} (h : Bst l t i b) (hx : (ctR l t)[i]? = some x) (hf : Fine l (agR l t x) (agR l t x).length) (hg : Grt l (agR l t x) (agR l t x).length m) (hb : b = 0 ∨ m + 1 < b) : Bst l t (i + 1) (m + 1) := by
  obtain ⟨h1, h2, h3, h4, h5⟩ := h
  refine ⟨by have := hg.1; omega, by have := hg.2.1; omega, fun hb0 => absurd hb0 (by have := hg.1; omega), fun _ => ⟨i, x, m, by omega, hx, hf, hg, rfl⟩, fun j y m' hj hy hfy hg' => ?_⟩
  by_cases e : j = i
  · subst e; rw [hx] at hy; injection hy with hy; subst hy
    have := grt_unique hg hg'
    omega
  · rcases hb with hb | hb
    · exact absurd hfy (h3 hb j y (by omega) hy)
    · have := h5 j y m' (by omega) hy hfy hg'
      omega
theorem lbR_of {l : List Da} {t : Ty} {k : Nat} (ht : TyOK l t) (h : Dk (mkF l) k t) : lbR l t = true ∧ ldR l t ≤ k := by
  have e : ldR l t = ldep l t := by unfold ldR; rw [dec_t ht]; rfl
  refine ⟨dec_t ⟨ht, ok_tys ht, k, h⟩, ?_⟩
  rw [e]
  rcases ldep_is l t with ⟨h0, _⟩ | ⟨h0, h1, h2⟩
  · omega
  · rcases Nat.lt_or_ge k (ldep l t).toNat with hlt | hge
    · exact absurd h (h2 _ hlt)
    · omega
theorem grt_exists (l : List Da) (L : List Ty) : ∀ k, k ≤ L.length → ∃ m, Grt l L k m
  | 0, _ => ⟨0, Grt.zero l L⟩
  | k + 1, h => by
    obtain ⟨m, hm⟩ := grt_exists l L k (by omega)
    by_cases hlt : m < ldR l L[k]
    · exact ⟨_, hm.up (by omega) hlt⟩
    · exact ⟨m, hm.stay (by omega) (by omega)⟩
/-- What the best is, in the end. -/
theorem bst_end {l : List Da} {t : Ty} {b : Int} (ht : TyOK l t) (hd : ¬ t.data = -1) (h : Bst l t (ctR l t).length b) : ldR l t = b ∧ (lbR l t = true ↔ 0 < b) := by
  obtain ⟨h1, h2, h3, h4, h5⟩ := h
  have hlow : ∀ k, Dk (mkF l) k t → 0 < b ∧ b ≤ k := by
    intro k hk
    match k, hk with
    | k + 1, hk =>
      rcases hk with h0 | ⟨d, hdl, m, hm, e1, e2, e3⟩
      · exact absurd h0 hd
      · obtain ⟨td, ti⟩ := t
        simp only at e1 e2 e3
        subst e1
        have hin : (m : Int) ∈ ctR l ⟨d, ti⟩ := by rw [ctR_data ht hdl]; exact mem_of_fits hm e2 _ hm (Nat.le_refl _)
        obtain ⟨j, hj, ej⟩ := List.getElem_of_mem hin
        have hj? : (ctR l ⟨d, ti⟩)[j]? = some (m : Int) := by rw [List.getElem?_eq_getElem hj, ej]
        have ea := agR_yes hin hdl hm
        have hall : ∀ a ∈ agR l ⟨d, ti⟩ m, lbR l a = true ∧ ldR l a ≤ k := fun a ha => lbR_of (arg_ok hin ha) (e3 a (by rw [← ea]; exact ha))
        have hf : Fine l (agR l ⟨d, ti⟩ m) (agR l ⟨d, ti⟩ m).length := fun i hi _ => (hall _ (List.getElem_mem hi)).1
        obtain ⟨g, hg⟩ := grt_exists l (agR l ⟨d, ti⟩ m) _ (Nat.le_refl _)
        have hgk : g ≤ k := by
          rcases hg.2.2.2 with g0 | ⟨i, hi, _, g1⟩
          · omega
          · have := (hall _ (List.getElem_mem hi)).2; omega
        have h6 := h5 j m g hj hj? hf hg
        refine ⟨?_, by omega⟩
        rcases Int.lt_or_le 0 b with hb | hb
        · exact hb
        · exact absurd hf (h3 (by omega) j m hj hj?)
  have e : ldR l t = ldep l t := by unfold ldR; rw [dec_t ht]; rfl
  have hLd : Ld l t b := by
    by_cases hb : b = 0
    · left
      refine ⟨hb, fun k hk => ?_⟩
      have := (hlow k hk).1; omega
    · right
      have hb' : 0 < b := by omega
      refine ⟨hb', ?_, fun j hj hk => by have := (hlow j hk).2; omega⟩
      obtain ⟨j, x, m, hj, hx, hf, hg, hmb⟩ := h4 hb'
      have hin : x ∈ ctR l t := List.mem_of_getElem? hx
      obtain ⟨_, d, q, hdl, e1, rfl, hq⟩ := mem_ctR hin
      obtain ⟨td, ti⟩ := t
      simp only at e1
      subst e1
      have hb2 : b.toNat = m.toNat + 1 := by have := hg.1; omega
      rw [hb2]
      have hfit : fitsB l[d].ctors[q].index ti = true := by
        rw [ctR_data ht hdl] at hin
        obtain ⟨q', hq', e2, e3⟩ := fits_of_mem _ (Nat.le_refl _) hin
        have : q = q' := by omega
        subst this; exact e3
      refine .inr ⟨d, hdl, q, hq, rfl, hfit, fun a ha => ?_⟩
      rw [← agR_yes hin hdl hq] at ha
      obtain ⟨i, hi, rfl⟩ := List.getElem_of_mem ha
      have h7 := hf i hi hi
      have h8 := hg.2.2.1 i hi hi
      obtain ⟨k1, k2, k3⟩ := lbR_yes h7
      rcases ldep_is l (agR l ⟨d, ti⟩ q)[i] with ⟨g0, _⟩ | ⟨g0, g1, _⟩
      · omega
      · exact Dk_up_le (by omega) _ g1
  have hb := ldep_eq hLd
  refine ⟨by rw [e, ← hb], ?_⟩
  constructor
  · intro hy
    have := (lbR_yes hy).2
    rw [this.2, ← hb] at this
    exact this.1
  · intro hb0
    exact dec_t ⟨ht, (inh_iff ht).2 (by rw [← hb]; exact hb0)⟩
end Go.Proofs.Ytholdmdkhbhokab
