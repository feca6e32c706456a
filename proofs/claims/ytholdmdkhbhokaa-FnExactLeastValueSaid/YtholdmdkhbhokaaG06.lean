/-
  The value of least depth of a type: plain mathematics. No statement is proved here.
-/
import Derived.Test.YtholdmdkhbhokaaSLeastD
import Derived.Test.YtholdmdkhbhokaaG04
namespace Go.Proofs.Ytholdmdkhbhokaa
open Go.RowKit
set_option maxRecDepth 100000
set_option linter.unusedVariables false

theorem inh_dk {l : List Da} {t : Ty} (h : Inh l t) : Dk (mkF l) (ldep l t).toNat t := by
  rcases ldep_is l t with ⟨_, h2⟩ | ⟨_, h2, _⟩
  · obtain ⟨_, k, hk⟩ := h; exact absurd hk (h2 k)
  · exact h2
/-- One more than the greatest least depth, or 0. -/
noncomputable def mdp (l : List Da) (L : List Ty) : Int := dpR (ldep l) (Inh l) L
theorem mxT_le {F : Ty → Int} {L : List Ty} {b : Int} (h0 : 0 ≤ b) (h : ∀ a ∈ L, F a ≤ b) : ∀ k, k ≤ L.length → mxT F L k ≤ b
  | 0, _ => h0
  | k + 1, hk => by
    rw [mxT_succ hk]
    have h1 := mxT_le h0 h k (by omega)
    have h2 := h _ (List.getElem_mem hk)
    omega
theorem mxT_ge {F : Ty → Int} {L : List Ty} : ∀ k, k ≤ L.length → ∀ j (hj : j < L.length), j < k → F L[j] ≤ mxT F L k
  | 0, _, _, _, h => absurd h (Nat.not_lt_zero _)
  | k + 1, hk, j, hj, hjk => by
    rw [mxT_succ hk]
    by_cases e : j = k
    · subst e; omega
    · have := mxT_ge (F := F) k (by omega) j hj (by omega); omega
theorem mdp_no {l : List Da} {L : List Ty} (h : ¬ ∀ a ∈ L, Inh l a) : mdp l L = 0 := dpR_no h
theorem mdp_yes {l : List Da} {L : List Ty} (h : ∀ a ∈ L, Inh l a) : mdp l L = mxT (ldep l) L L.length + 1 := dpR_yes h
theorem mdp_pos {l : List Da} {L : List Ty} (h : 0 < mdp l L) : ∀ a ∈ L, Inh l a ∧ ldep l a < mdp l L := by
  by_cases hi : ∀ a ∈ L, Inh l a
  · intro a ha
    refine ⟨hi a ha, ?_⟩
    rw [mdp_yes hi]
    obtain ⟨j, hj, rfl⟩ := List.getElem_of_mem ha
    have := mxT_ge (F := ldep l) L.length (Nat.le_refl _) j hj hj
    omega
  · rw [mdp_no hi] at h; omega
theorem mdp_nonneg (l : List Da) (L : List Ty) : 0 ≤ mdp l L := by
  by_cases hi : ∀ a ∈ L, Inh l a
  · rw [mdp_yes hi]
    have : ∀ k, 0 ≤ mxT (ldep l) L k := fun k => by
      induction k with
      | zero => exact Int.le_refl _
      | succ k ih => show 0 ≤ max _ _; omega
    have := this L.length
    omega
  · rw [mdp_no hi]; omega
theorem least_ctor {l : List Da} {t : Ty} (hok : TyOK l t) (hd : ¬ t.data = -1) (h : Inh l t) : ∃ x ∈ ctR l t, mdp l (agR l t x) = ldep l t := by
  have h1 := inh_dk h
  have hp := ldep_yes h
  obtain ⟨m, hm⟩ : ∃ m : Nat, (ldep l t).toNat = m + 1 := ⟨(ldep l t).toNat - 1, by omega⟩
  rw [hm] at h1
  have h1' : mkF l (Dk (mkF l) m) t := h1
  obtain ⟨x, hx, ha⟩ := (mkF_iff hok hd).1 h1'
  have hin : ∀ a ∈ agR l t x, a ∈ tysN l.length := fun a ha => ok_tys (agR_ok hx a ha)
  have hall : ∀ a ∈ agR l t x, Inh l a := fun a h' => ⟨hin a h', m, ha a h'⟩
  refine ⟨x, hx, ?_⟩
  rw [mdp_yes hall]
  have hle := mxT_le (F := ldep l) (L := agR l t x) (b := m) (by omega) (fun a h' => ldep_le (ha a h')) _ (Nat.le_refl _)
  have hge := mxT_ge (F := ldep l) (L := agR l t x) _ (Nat.le_refl _)
  have h0 := mxT_nonneg (ldep l) (agR l t x) (agR l t x).length
  generalize mxT (ldep l) (agR l t x) (agR l t x).length = M at hle hge h0
  have hdk : Dk (mkF l) (M.toNat + 1) t := by
    refine (mkF_iff hok hd).2 ⟨x, hx, fun a h' => ?_⟩
    obtain ⟨j, hj, rfl⟩ := List.getElem_of_mem h'
    have h2 := hge j hj hj
    have h3 := inh_dk (hall _ h')
    have h4 := ldep_nonneg l (agR l t x)[j]
    exact Dk_up_le (by omega) _ h3
  have := ldep_le hdk
  omega

/-- The first constructor that makes a value of least depth. -/
noncomputable def fstC (l : List Da) (t : Ty) : Option Int := (ctR l t).find? (fun x => decide (mdp l (agR l t x) = ldep l t))
theorem fstC_some {l : List Da} {t : Ty} (hok : TyOK l t) (hd : ¬ t.data = -1) (h : Inh l t) : ∃ x, fstC l t = some x ∧ x ∈ ctR l t ∧ mdp l (agR l t x) = ldep l t := by
  obtain ⟨x, hx, he⟩ := least_ctor hok hd h
  unfold fstC
  cases hf : (ctR l t).find? (fun x => decide (mdp l (agR l t x) = ldep l t)) with
  | none =>
    have := List.find?_eq_none.1 hf x hx
    simp only [he, decide_true] at this
    exact absurd trivial this
  | some y =>
    exact ⟨y, rfl, List.mem_of_find?_eq_some hf, by simpa using List.find?_some hf⟩
/-- None of the first k constructors does. -/
def NoC (l : List Da) (t : Ty) (k : Nat) : Prop := ∀ j (h : j < (ctR l t).length), j < k → ¬ mdp l (agR l t (ctR l t)[j]) = ldep l t
theorem NoC.zero (l : List Da) (t : Ty) : NoC l t 0 := fun j _ h => absurd h (Nat.not_lt_zero _)
theorem NoC.step {l : List Da} {t : Ty} {k : Nat} (h : NoC l t k) (hk : k < (ctR l t).length) (e : ¬ mdp l (agR l t (ctR l t)[k]) = ldep l t) : NoC l t (k + 1) := fun j hj hjk => by
  by_cases e' : j = k
  · subst e'; exact e
  · exact h j hj (by omega)
theorem NoC.found {l : List Da} {t : Ty} {k : Nat} (h : NoC l t k) (hk : k < (ctR l t).length) (e : mdp l (agR l t (ctR l t)[k]) = ldep l t) : fstC l t = some (ctR l t)[k] := by
  unfold fstC
  rw [List.find?_eq_some_iff_getElem]
  exact ⟨by simpa using e, k, hk, rfl, fun j hj => by simpa using h j (by omega) hj⟩
theorem NoC.all {l : List Da} {t : Ty} {k : Nat} (h : NoC l t k) (hok : TyOK l t) (hd : ¬ t.data = -1) (hi : Inh l t) : k < (ctR l t).length := by
  obtain ⟨x, hx, he⟩ := least_ctor hok hd hi
  obtain ⟨j, hj, rfl⟩ := List.getElem_of_mem hx
  by_cases e : k < (ctR l t).length
  · exact e
  · exact absurd he (h j hj (by omega))

/-- The value of least depth. -/
noncomputable def lvA (l : List Da) : Nat → Ty → Vl
  | 0, _ => .mk 0 0 []
  | n + 1, t => if t.data = -1 then .mk (-1) 0 [] else match fstC l t with
    | some x => .mk x 0 ((agR l t x).map (lvA l n))
    | none => .mk 0 0 []
theorem lvA_int {l : List Da} {n : Nat} {t : Ty} (h : t.data = -1) : lvA l (n + 1) t = .mk (-1) 0 [] := by rw [lvA, if_pos h]
theorem lvA_data {l : List Da} {n : Nat} {t : Ty} {x : Int} (h : ¬ t.data = -1) (hx : fstC l t = some x) : lvA l (n + 1) t = .mk x 0 ((agR l t x).map (lvA l n)) := by rw [lvA, if_neg h, hx]
theorem lvA_len {l : List Da} {n : Nat} {t : Ty} {x : Int} (h : ¬ t.data = -1) (hx : fstC l t = some x) : (lvA l (n + 1) t).kids.length = (agR l t x).length := by rw [lvA_data h hx]; exact List.length_map _
theorem lvA_w (l : List Da) : ∀ n t, 2 + wV (lvA l n t) ≤ 2 * 3 ^ n
  | 0, t => by rw [lvA, wV, wVs]; omega
  | n + 1, t => by
    have h3 : 1 ≤ 3 ^ n := Nat.one_le_pow _ _ (by omega)
    have h3' : 2 ≤ 2 * 3 ^ n := by omega
    have hp : 2 * 3 ^ (n + 1) = 3 * (2 * 3 ^ n) := by rw [Nat.pow_succ]; omega
    rw [lvA]
    split
    · rw [wV, wVs]; omega
    · split
      · rename_i x _
        rw [wV, wVs_sum, List.map_map, List.length_map]
        have hl := agR_len l t x
        obtain ⟨E, hE⟩ : ∃ E, E = 2 * 3 ^ n := ⟨_, rfl⟩
        have hs : ∀ L : List Ty, (L.map (wV ∘ lvA l n)).sum + 2 * L.length ≤ L.length * E := fun L => by
          induction L with
          | nil => simp
          | cons a L ih =>
            have := lvA_w l n a
            rw [← hE] at this
            simp only [List.map_cons, List.sum_cons, List.length_cons, Function.comp_apply, Nat.add_mul, Nat.one_mul]
            omega
        have h1 := hs (agR l t x)
        rw [hp, ← hE]
        rw [← hE] at h3'
        rcases (show (agR l t x).length = 0 ∨ (agR l t x).length = 1 ∨ (agR l t x).length = 2 ∨ (agR l t x).length = 3 by omega) with e | e | e | e <;> rw [e] at h1 ⊢ <;> omega
      · rw [wV, wVs]; omega
end Go.Proofs.Ytholdmdkhbhokaa
