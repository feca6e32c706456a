/-
  LeastValue of the program and of the document. No statement is proved here.
-/
import Derived.Test.YthecfkdilbfimaaGreatH07
import Derived.Test.YthecfkdilbfimaaGreatG18
import Derived.Test.YthecfkdilbfimaaGreatH03
import Derived.Deep.DeepCutAuto
namespace Go.Proofs.YthecfkdilbfimaaGreat
open Go.RowKit Go.Sort Go.Deep
set_option maxRecDepth 100000
set_option linter.unusedVariables false

def lvOK (l : List Da) (t : Ty) : Prop := TyOK l t ∧ Inh l t ∧ ldep l t ≤ 10 ∧ isV l t (lvA l 10 t) = true
noncomputable def lvB (l : List Da) (t : Ty) : Bool := dec (lvOK l t)
noncomputable def lvR (l : List Da) (t : Ty) : Vl := if dec (lvOK l t) then lvA l 10 t else .mk 0 0 []
theorem lvR_w (l : List Da) (t : Ty) : wV (lvR l t) ≤ 150000 := by
  unfold lvR
  split
  · have := lvA_w l 10 t; omega
  · rw [wV, wVs]; omega
/-- What is returned. -/
def LvT (l : List Da) (t : Ty) (w : World) (e : Ending) (w' : World) : Prop := ∃ B c, e = .returned (.tuple #[.agg #[.int .i64 (lvR l t).ctor, .int .i64 (lvR l t).n, .slice B (lvR l t).kids.length c], .bool (lvB l t)]) ∧ OVs 10 w' (Nw w w') B (lvR l t).kids ∧ Below w.heap.size w w'
theorem LvT.no {l : List Da} {t : Ty} {w w' : World} (h : ¬ lvOK l t) (hb : Below w.heap.size w w') : LvT l t w (.returned (.tuple #[.agg #[.int .i64 0, .int .i64 0, .slice none 0 0], .bool false])) w' := by
  unfold LvT lvR lvB
  rw [dec_f h]
  exact ⟨none, 0, rfl, OVs.nil _ _ _ _, hb⟩
theorem LvT.yes {l : List Da} {t : Ty} {w w' : World} {B : Option Addr} {c : Nat} (h : lvOK l t) (hb : Below w.heap.size w w') (ho : OVs 10 w' (Nw w w') B (lvA l 10 t).kids) : LvT l t w (.returned (.tuple #[.agg #[.int .i64 (lvA l 10 t).ctor, .int .i64 (lvA l 10 t).n, .slice B (lvA l 10 t).kids.length c], .bool true])) w' := by
  unfold LvT lvR lvB
  rw [dec_t h]
  exact ⟨B, c, rfl, ho, hb⟩
theorem lvS_any (l : List Da) (hw : WorldOK l) : ∀ n, LvS l n
  | 0 => fun A A2 T cap cap2 t w _ _ _ _ hi h => by have := ldep_yes hi; omega
  | n + 1 => lvS_step l n hw (lvS_any l hw n)
theorem lvI_any (l : List Da) (hw : WorldOK l) : ∀ n, LvI l n
  | 0 => fun A cap t mb w _ _ _ hi h => by have := ldep_yes hi; omega
  | n + 1 => lvI_step l n hw (lvI_any l hw n)
theorem ldR_yes {l : List Da} {t : Ty} (h : TyOK l t) : ldR l t = ldep l t := by unfold ldR; rw [dec_t h]; rfl
theorem ldR_no {l : List Da} {t : Ty} (h : ¬ TyOK l t) : ldR l t = 0 := by unfold ldR; rw [dec_f h]; rfl

end Go.Proofs.YthecfkdilbfimaaGreat
/-
  The sample of a pattern: plain mathematics. No statement is proved here.
-/
namespace Go.Proofs.YthecfkdilbfimaaGreat
open Go.RowKit
set_option maxRecDepth 100000
set_option linter.unusedVariables false

/-- The sample of a pattern that some value matches. -/
noncomputable def svP (l : List Da) : Nat → Ty → Pt → Vl
  | 0, _, _ => .mk 0 0 []
  | d + 1, t, p =>
    if p.op = 1 ∨ p.op = 2 then lvA l 10 t
    else if p.op = 3 then .mk (-1) p.n []
    else if p.op = 5 then (if smP l d t (p.kids.getD 0 default) = true then svP l d t (p.kids.getD 0 default) else svP l d t (p.kids.getD 1 default))
    else if p.op = 6 then svP l d t (p.kids.getD 0 default)
    else .mk p.ctor 0 ((List.range (agR l t p.ctor).length).map (fun i => svP l d ((agR l t p.ctor).getD i default) (p.kids.getD i default)))
/-- Whether all parts of the sample are values. -/
noncomputable def okS (l : List Da) : Nat → Ty → Pt → Bool
  | 0, _, _ => false
  | d + 1, t, p =>
    if p.op = 1 ∨ p.op = 2 then lvB l t
    else if p.op = 3 then true
    else if p.op = 5 then (if smP l d t (p.kids.getD 0 default) = true then okS l d t (p.kids.getD 0 default) else okS l d t (p.kids.getD 1 default))
    else if p.op = 6 then okS l d t (p.kids.getD 0 default)
    else upto (fun i => okS l d ((agR l t p.ctor).getD i default) (p.kids.getD i default)) (agR l t p.ctor).length
/-- The greatest of the least depths of the types for which no constructor stands. -/
noncomputable def gdP (l : List Da) : Nat → Ty → Pt → Int
  | 0, _, _ => 0
  | d + 1, t, p =>
    if p.op = 1 ∨ p.op = 2 then ldep l t
    else (List.range (tysP l t p).length).foldl (fun m i => max m (gdP l d ((tysP l t p).getD i default) (p.kids.getD i default))) 0
noncomputable def loP (l : List Da) : Nat → Ty → Pt → Bool
  | 0, _, _ => true
  | d + 1, t, p =>
    if p.op = 1 ∨ p.op = 2 then decide (ldep l t ≤ 10)
    else upto (fun i => loP l d ((tysP l t p).getD i default) (p.kids.getD i default)) (tysP l t p).length

noncomputable def kidS (l : List Da) (d : Nat) (ats : List Ty) (ks : List Pt) (i : Nat) : Vl := svP l d (ats.getD i default) (ks.getD i default)
noncomputable def kidsS (l : List Da) (d : Nat) (ats : List Ty) (ks : List Pt) : List Vl := (List.range ats.length).map (kidS l d ats ks)
noncomputable def kidO (l : List Da) (d : Nat) (ats : List Ty) (ks : List Pt) (i : Nat) : Bool := okS l d (ats.getD i default) (ks.getD i default)
noncomputable def kidW (l : List Da) (d : Nat) (ats : List Ty) (ks : List Pt) (i : Nat) : Bool := loP l d (ats.getD i default) (ks.getD i default)
noncomputable def kidG (l : List Da) (d : Nat) (ats : List Ty) (ks : List Pt) (i : Nat) : Int := gdP l d (ats.getD i default) (ks.getD i default)
noncomputable def gdTo (l : List Da) (d : Nat) (ats : List Ty) (ks : List Pt) (k : Nat) : Int := (List.range k).foldl (fun m i => max m (kidG l d ats ks i)) 0
section
variable {l : List Da} {d : Nat} {t : Ty} {p : Pt} {ats : List Ty} {ks : List Pt}
theorem getD_ty {i : Nat} (h : i < ats.length) : ats.getD i default = ats[i] := by
  rw [List.getD_eq_getElem?_getD, List.getElem?_eq_getElem h]; rfl
theorem kidS_at {i : Nat} (h : i < ats.length) (h' : i < ks.length) : kidS l d ats ks i = svP l d ats[i] ks[i] := by unfold kidS; rw [getD_ty h, getD_kid h']
theorem kidO_at {i : Nat} (h : i < ats.length) (h' : i < ks.length) : kidO l d ats ks i = okS l d ats[i] ks[i] := by unfold kidO; rw [getD_ty h, getD_kid h']
theorem kidW_at {i : Nat} (h : i < ats.length) (h' : i < ks.length) : kidW l d ats ks i = loP l d ats[i] ks[i] := by unfold kidW; rw [getD_ty h, getD_kid h']
theorem kidG_at {i : Nat} (h : i < ats.length) (h' : i < ks.length) : kidG l d ats ks i = gdP l d ats[i] ks[i] := by unfold kidG; rw [getD_ty h, getD_kid h']
theorem kidsS_len : (kidsS l d ats ks).length = ats.length := by unfold kidsS; simp
theorem kidsS_at {i : Nat} (h : i < (kidsS l d ats ks).length) : (kidsS l d ats ks)[i] = kidS l d ats ks i := by
  have e : (kidsS l d ats ks)[i]? = some (kidS l d ats ks i) := by
    have hi : i < ats.length := by rw [← kidsS_len (l := l) (d := d) (ks := ks)]; exact h
    unfold kidsS
    rw [List.getElem?_map, List.getElem?_range hi]; rfl
  rw [List.getElem?_eq_getElem h] at e
  exact Option.some.inj e
theorem gdTo_zero : gdTo l d ats ks 0 = 0 := rfl
theorem gdTo_succ (k : Nat) : gdTo l d ats ks (k + 1) = max (gdTo l d ats ks k) (kidG l d ats ks k) := by unfold gdTo; rw [List.range_succ, List.foldl_append]; rfl

theorem svP_any (h : p.op = 1 ∨ p.op = 2) : svP l (d + 1) t p = lvA l 10 t := by rw [svP, if_pos h]
theorem svP_int (h : p.op = 3) : svP l (d + 1) t p = .mk (-1) p.n [] := by rw [svP, if_neg (by omega), if_pos h]
theorem svP_or0 (h : p.op = 5) (h0 : 0 < p.kids.length) (hs : smP l d t p.kids[0] = true) : svP l (d + 1) t p = svP l d t p.kids[0] := by
  rw [svP, if_neg (by omega), if_neg (by omega), if_pos h, getD_kid h0, if_pos hs]
theorem svP_or1 (h : p.op = 5) (h0 : 0 < p.kids.length) (h1 : 1 < p.kids.length) (hs : smP l d t p.kids[0] = false) : svP l (d + 1) t p = svP l d t p.kids[1] := by
  rw [svP, if_neg (by omega), if_neg (by omega), if_pos h, getD_kid h0, getD_kid h1, if_neg (by rw [hs]; simp)]
theorem svP_as (h : p.op = 6) (h0 : 0 < p.kids.length) : svP l (d + 1) t p = svP l d t p.kids[0] := by
  rw [svP, if_neg (by omega), if_neg (by omega), if_neg (by omega), if_pos h, getD_kid h0]
theorem svP_ctor (h : p.op = 4) : svP l (d + 1) t p = .mk p.ctor 0 (kidsS l d (agR l t p.ctor) p.kids) := by
  rw [svP, if_neg (by omega), if_neg (by omega), if_neg (by omega), if_neg (by omega)]; rfl
theorem okS_any (h : p.op = 1 ∨ p.op = 2) : okS l (d + 1) t p = lvB l t := by rw [okS, if_pos h]
theorem okS_int (h : p.op = 3) : okS l (d + 1) t p = true := by rw [okS, if_neg (by omega), if_pos h]
theorem okS_or0 (h : p.op = 5) (h0 : 0 < p.kids.length) (hs : smP l d t p.kids[0] = true) : okS l (d + 1) t p = okS l d t p.kids[0] := by
  rw [okS, if_neg (by omega), if_neg (by omega), if_pos h, getD_kid h0, if_pos hs]
theorem okS_or1 (h : p.op = 5) (h0 : 0 < p.kids.length) (h1 : 1 < p.kids.length) (hs : smP l d t p.kids[0] = false) : okS l (d + 1) t p = okS l d t p.kids[1] := by
  rw [okS, if_neg (by omega), if_neg (by omega), if_pos h, getD_kid h0, getD_kid h1, if_neg (by rw [hs]; simp)]
theorem okS_as (h : p.op = 6) (h0 : 0 < p.kids.length) : okS l (d + 1) t p = okS l d t p.kids[0] := by
  rw [okS, if_neg (by omega), if_neg (by omega), if_neg (by omega), if_pos h, getD_kid h0]
theorem okS_ctor (h : p.op = 4) : okS l (d + 1) t p = upto (kidO l d (agR l t p.ctor) p.kids) (agR l t p.ctor).length := by
  rw [okS, if_neg (by omega), if_neg (by omega), if_neg (by omega), if_neg (by omega)]; rfl
theorem loP_any (h : p.op = 1 ∨ p.op = 2) : loP l (d + 1) t p = decide (ldep l t ≤ 10) := by rw [loP, if_pos h]
theorem loP_go (h : ¬ (p.op = 1 ∨ p.op = 2)) : loP l (d + 1) t p = upto (kidW l d (tysP l t p) p.kids) (tysP l t p).length := by rw [loP, if_neg h]; rfl
theorem gdP_any (h : p.op = 1 ∨ p.op = 2) : gdP l (d + 1) t p = ldep l t := by rw [gdP, if_pos h]
theorem gdP_go (h : ¬ (p.op = 1 ∨ p.op = 2)) : gdP l (d + 1) t p = gdTo l d (tysP l t p) p.kids (tysP l t p).length := by rw [gdP, if_neg h]; rfl
end
theorem gdTo_nonneg (l : List Da) (d : Nat) (ats : List Ty) (ks : List Pt) : ∀ k, 0 ≤ gdTo l d ats ks k
  | 0 => Int.le_refl _
  | k + 1 => by rw [gdTo_succ]; have := gdTo_nonneg l d ats ks k; omega
theorem gdP_nonneg (l : List Da) : ∀ d t p, 0 ≤ gdP l d t p
  | 0, _, _ => Int.le_refl _
  | d + 1, t, p => by
    by_cases h : p.op = 1 ∨ p.op = 2
    · rw [gdP_any h]; exact ldep_nonneg l t
    · rw [gdP_go h]; exact gdTo_nonneg _ _ _ _ _
theorem gdTo_le {l : List Da} {d : Nat} {ats : List Ty} {ks : List Pt} {b : Int} (h0 : 0 ≤ b) : ∀ k, (∀ i, i < k → kidG l d ats ks i ≤ b) → gdTo l d ats ks k ≤ b
  | 0, _ => h0
  | k + 1, h => by
    rw [gdTo_succ]
    have h1 := gdTo_le h0 k (fun i hi => h i (by omega))
    have h2 := h k (by omega)
    omega
theorem gdTo_ge {l : List Da} {d : Nat} {ats : List Ty} {ks : List Pt} : ∀ k i, i < k → kidG l d ats ks i ≤ gdTo l d ats ks k
  | 0, _, h => absurd h (Nat.not_lt_zero _)
  | k + 1, i, h => by
    rw [gdTo_succ]
    by_cases e : i = k
    · subst e; omega
    · have := gdTo_ge (l := l) (d := d) (ats := ats) (ks := ks) k i (by omega); omega
/-- The two ways to ask whether the least values are not too deep. -/
theorem gd_lo (l : List Da) : ∀ d t p, decide (gdP l d t p ≤ 10) = loP l d t p
  | 0, _, _ => rfl
  | d + 1, t, p => by
    by_cases h : p.op = 1 ∨ p.op = 2
    · rw [gdP_any h, loP_any h]
    · rw [gdP_go h, loP_go h]
      have hk : ∀ i, decide (kidG l d (tysP l t p) p.kids i ≤ 10) = kidW l d (tysP l t p) p.kids i := fun i => gd_lo l d _ _
      by_cases hu : upto (kidW l d (tysP l t p) p.kids) (tysP l t p).length = true
      · rw [hu]
        exact decide_eq_true (gdTo_le (by omega) _ (fun i hi => of_decide_eq_true ((hk i).trans (upto_get hu hi))))
      · have hu' : upto (kidW l d (tysP l t p) p.kids) (tysP l t p).length = false := by simpa using hu
        rw [hu']
        refine decide_eq_false (fun hle => hu ?_)
        have : ∀ k, k ≤ (tysP l t p).length → upto (kidW l d (tysP l t p) p.kids) k = true := fun k => by
          induction k with
          | zero => intro _; rfl
          | succ k ih =>
            intro hk'
            refine upto_t (ih (by omega)) ?_
            rw [← hk k]
            exact decide_eq_true (Int.le_trans (gdTo_ge _ k (by omega)) hle)
        exact this _ (Nat.le_refl _)
theorem gd_top {l : List Da} (hw : WorldOK l) : ∀ d t p, TyOK l t → shP l d t p = true → gdP l d t p ≤ 5000
  | 0, _, _, _, h => by rw [shP_zero] at h; cases h
  | d + 1, t, p, ht, hs => by
    by_cases h : p.op = 1 ∨ p.op = 2
    · rw [gdP_any h]
      by_cases hi : Inh l t
      · exact (inh_pos hw t (tys_mono hw.1 (ok_tys ht)) hi).2
      · rw [ldep_no (ok_tys ht) hi]; omega
    · rw [gdP_go h]
      obtain ⟨ho, hl, hk⟩ := shP_parts hs
      refine gdTo_le (by omega) _ (fun i hi => ?_)
      have hi' : i < p.kids.length := by omega
      rw [kidG_at hi hi']
      exact gd_top hw d _ _ (tysP_ok ht ho _ (List.getElem_mem hi)) (hk i hi hi')

theorem upto_all' {f : Nat → Bool} : ∀ {n : Nat}, (∀ i, i < n → f i = true) → upto f n = true
  | 0, _ => rfl
  | n + 1, h => upto_t (upto_all' (fun i hi => h i (by omega))) (h n (by omega))
theorem fit_up {l : List Da} : ∀ d t v, fitV l d t v = true → fitV l (d + 1) t v = true
  | 0, _, _, h => by rw [fit_zero] at h; cases h
  | d + 1, t, v, h => by
    by_cases h1 : t.data = -1
    · rw [fit_int h1] at h ⊢; exact h
    · by_cases hn : v.n = 0
      · by_cases hc : v.ctor ∈ ctR l t
        · by_cases hl : v.kids.length = (agR l t v.ctor).length
          · rw [fit_go h1 hn hc hl] at h ⊢
            refine upto_all' (fun i hi => ?_)
            exact fit_up d _ _ (upto_get h hi)
          · rw [fit_len h1 hl] at h; cases h
        · rw [fit_ctor h1 hc] at h; cases h
      · rw [fit_n h1 hn] at h; cases h
theorem fit_more {l : List Da} {d d' : Nat} {t : Ty} {v : Vl} (h : fitV l d t v = true) (hd : d ≤ d') : fitV l d' t v = true := by
  obtain ⟨e, rfl⟩ := Nat.exists_eq_add_of_le hd
  clear hd
  induction e with
  | zero => exact h
  | succ e ih => exact fit_up _ _ _ ih
theorem int_no_ctor {l : List Da} {t : Ty} {x : Int} (h : x ∈ ctR l t) : ¬ t.data = -1 := by
  obtain ⟨_, d, m, hd, h1, _, _⟩ := mem_ctR h
  omega
theorem wVs_mem {v : Vl} {i : Nat} (h : i < v.kids.length) : 1 + wV v.kids[i] ≤ wV v := by
  have h1 := upK_le v (i + 1) h
  rw [upK_succ _ _ h] at h1
  have h2 : 1 ≤ upK v.kids i := by unfold upK; omega
  omega
theorem lvB_is {l : List Da} {t : Ty} (h : lvB l t = true) : lvOK l t := by
  by_cases hk : lvOK l t
  · exact hk
  · unfold lvB at h; rw [dec_f hk] at h; cases h
theorem ok_any {l : List Da} {d n : Nat} {t : Ty} {p : Pt} (h : p.op = 1 ∨ p.op = 2) (ht : TyOK l t) (hm : smP l (d + 1) t p = true) (hlo : loP l (d + 1) t p = true) (hf : fitV l n t (svP l (d + 1) t p) = true) (hn : n ≤ 10) (hw : 1 + wV (svP l (d + 1) t p) ≤ 60) : okS l (d + 1) t p = true := by
  rw [okS_any h]
  rw [smP_any h] at hm
  rw [loP_any h] at hlo
  rw [svP_any h] at hf hw
  have hi : Inh l t := by
    by_cases hi : Inh l t
    · exact hi
    · rw [dec_f hi] at hm; cases hm
  exact dec_t ⟨ht, hi, of_decide_eq_true hlo, isV_yes (fit_more hf hn) hw⟩
/-- If the sample is a value, so are its parts. -/
theorem ok_of (l : List Da) : ∀ d n t p, TyOK l t → shP l d t p = true → smP l d t p = true → loP l d t p = true → fitV l n t (svP l d t p) = true → n ≤ 10 → 1 + wV (svP l d t p) ≤ 60 → okS l d t p = true
  | 0, _, _, _, _, h, _, _, _, _, _ => by rw [shP_zero] at h; cases h
  | d + 1, n, t, p, ht, hs, hm, hlo, hf, hn, hw => by
    have ho := (shP_parts hs).1
    rcases own_ops ho with h | h | h | h | h | h
    · exact ok_any (.inl h) ht hm hlo hf hn hw
    · exact ok_any (.inr h) ht hm hlo hf hn hw
    · exact okS_int h
    · obtain ⟨hmem, hkl, hsh⟩ := ctor_partsP hs h
      rw [smP_ctor h] at hm
      have htp := tysP_ctor (l := l) (t := t) h
      rw [loP_go (by omega), htp] at hlo
      rw [svP_ctor h] at hf hw
      rw [okS_ctor h]
      obtain ⟨m, rfl⟩ : ∃ m, n = m + 1 := by
        cases n with
        | zero => rw [fit_zero] at hf; cases hf
        | succ m => exact ⟨m, rfl⟩
      have h1 := int_no_ctor hmem
      rw [fit_go (v := .mk p.ctor 0 (kidsS l d (agR l t p.ctor) p.kids)) h1 rfl hmem kidsS_len] at hf
      refine upto_all' (fun i hi => ?_)
      have hi' : i < p.kids.length := by omega
      have hi2 : i < (kidsS l d (agR l t p.ctor) p.kids).length := by rw [kidsS_len]; exact hi
      have e1 : kidV l m (agR l t p.ctor) (kidsS l d (agR l t p.ctor) p.kids) i = true := upto_get hf hi
      rw [kidV_at hi hi2, kidsS_at hi2, kidS_at hi hi'] at e1
      have e2 := upto_get hm hi
      rw [kidM_at hi hi'] at e2
      have e3 := upto_get hlo hi
      rw [kidW_at hi hi'] at e3
      have e4 := wVs_mem (v := .mk p.ctor 0 (kidsS l d (agR l t p.ctor) p.kids)) hi2
      have e5 : (Vl.mk p.ctor 0 (kidsS l d (agR l t p.ctor) p.kids)).kids[i]'hi2 = svP l d (agR l t p.ctor)[i] p.kids[i] := by
        show (kidsS l d (agR l t p.ctor) p.kids)[i] = _
        rw [kidsS_at hi2, kidS_at hi hi']
      rw [e5] at e4
      rw [kidO_at hi hi']
      exact ok_of l d m _ _ (agR_ok hmem _ (List.getElem_mem hi)) (hsh i hi hi') e2 e3 e1 (by omega) (by omega)
    · obtain ⟨hk2, hs0, hs1⟩ := or_partsP hs h
      have h0k : 0 < p.kids.length := by omega
      have h1k : 1 < p.kids.length := by omega
      have htp : tysP l t p = [t, t] := by rw [tysP_other (by omega), h]; rfl
      rw [loP_go (by omega), htp] at hlo
      have l0 := upto_get (k := 0) hlo (by simp)
      have l1 := upto_get (k := 1) hlo (by simp)
      rw [kidW_at (by simp) h0k] at l0
      rw [kidW_at (by simp) h1k] at l1
      by_cases hm0 : smP l d t p.kids[0] = true
      · rw [svP_or0 h h0k hm0] at hf hw
        rw [okS_or0 h h0k hm0]
        exact ok_of l d n t _ ht (hs0 h0k) hm0 l0 hf hn hw
      · have hm0' : smP l d t p.kids[0] = false := by simpa using hm0
        rw [svP_or1 h h0k h1k hm0'] at hf hw
        rw [okS_or1 h h0k h1k hm0']
        rw [smP_or h h0k h1k, hm0', Bool.false_or] at hm
        exact ok_of l d n t _ ht (hs1 h1k) hm l1 hf hn hw
    · obtain ⟨hk1, hs0⟩ := as_partsP hs h
      have h0k : 0 < p.kids.length := by omega
      have htp : tysP l t p = [t] := by rw [tysP_other (by omega), h]; rfl
      rw [loP_go (by omega), htp] at hlo
      have l0 := upto_get (k := 0) hlo (by simp)
      rw [kidW_at (by simp) h0k] at l0
      rw [smP_as h h0k] at hm
      rw [svP_as h h0k] at hf hw
      rw [okS_as h h0k]
      exact ok_of l d n t _ ht (hs0 h0k) hm l0 hf hn hw
/-- A pattern whose sample has parts is matched. -/
theorem sm_of (l : List Da) : ∀ d t p, shP l d t p = true → okS l d t p = true → smP l d t p = true
  | 0, _, _, h, _ => by rw [shP_zero] at h; cases h
  | d + 1, t, p, hs, hk => by
    have ho := (shP_parts hs).1
    rcases own_ops ho with h | h | h | h | h | h
    · rw [okS_any (.inl h)] at hk; rw [smP_any (.inl h)]; exact dec_t (lvB_is hk).2.1
    · rw [okS_any (.inr h)] at hk; rw [smP_any (.inr h)]; exact dec_t (lvB_is hk).2.1
    · exact smP_int h
    · obtain ⟨hmem, hkl, hsh⟩ := ctor_partsP hs h
      rw [okS_ctor h] at hk
      rw [smP_ctor h]
      refine upto_all' (fun i hi => ?_)
      have hi' : i < p.kids.length := by omega
      have e := upto_get hk hi
      rw [kidO_at hi hi'] at e
      rw [kidM_at hi hi']
      exact sm_of l d _ _ (hsh i hi hi') e
    · obtain ⟨hk2, hs0, hs1⟩ := or_partsP hs h
      have h0k : 0 < p.kids.length := by omega
      have h1k : 1 < p.kids.length := by omega
      rw [smP_or h h0k h1k]
      by_cases hm0 : smP l d t p.kids[0] = true
      · rw [hm0]; rfl
      · have hm0' : smP l d t p.kids[0] = false := by simpa using hm0
        rw [okS_or1 h h0k h1k hm0'] at hk
        rw [sm_of l d t _ (hs1 h1k) hk]; simp
    · obtain ⟨hk1, hs0⟩ := as_partsP hs h
      have h0k : 0 < p.kids.length := by omega
      rw [okS_as h h0k] at hk
      rw [smP_as h h0k]
      exact sm_of l d t _ (hs0 h0k) hk
/-- How large a sample can be. -/
theorem svP_wE (l : List Da) (E : Nat) (hE : 2 ≤ E) (hlv : ∀ t, 2 + wV (lvA l 10 t) ≤ E) : ∀ d t p, shP l d t p = true → 2 + wV (svP l d t p) ≤ (1 + wP p) * E
  | 0, _, _, h => by rw [shP_zero] at h; cases h
  | d + 1, t, p, hs => by
    have ho := (shP_parts hs).1
    have hone : E ≤ (1 + wP p) * E := Nat.le_mul_of_pos_left E (by omega)
    rcases own_ops ho with h | h | h | h | h | h
    · rw [svP_any (.inl h)]; exact Nat.le_trans (hlv t) hone
    · rw [svP_any (.inr h)]; exact Nat.le_trans (hlv t) hone
    · rw [svP_int h, wV, wVs]; exact Nat.le_trans hE hone
    · obtain ⟨hmem, hkl, hsh⟩ := ctor_partsP hs h
      rw [svP_ctor h, wV, wVs_sum, kidsS_len]
      have hsum : ∀ k, k ≤ (agR l t p.ctor).length → k + (((List.range k).map (kidS l d (agR l t p.ctor) p.kids)).map wV).sum ≤ (k + ((p.kids.take k).map wP).sum) * E := fun k => by
        induction k with
        | zero => intro _; simp
        | succ k ih =>
          intro hk
          have hk' : k < p.kids.length := by omega
          have h1 := ih (by omega)
          have h2 := svP_wE l E hE hlv d _ _ (hsh k (by omega) hk')
          rw [← kidS_at (by omega) hk'] at h2
          rw [List.range_succ, List.map_append, List.map_append, List.sum_append, sum_take_succ wP p.kids k hk']
          simp only [List.map_cons, List.map_nil, List.sum_cons, List.sum_nil]
          have e : (k + 1 + (((p.kids.take k).map wP).sum + wP p.kids[k])) * E = (k + ((p.kids.take k).map wP).sum) * E + (1 + wP p.kids[k]) * E := by rw [← Nat.add_mul]; congr 1; omega
          rw [e]
          generalize (k + ((p.kids.take k).map wP).sum) * E = X at h1
          generalize (1 + wP p.kids[k]) * E = Y at h2
          omega
      have h3 := hsum _ (Nat.le_refl _)
      have e2 : p.kids.take (agR l t p.ctor).length = p.kids := List.take_of_length_le (by omega)
      rw [e2, ← hkl, ← wPs_sum, ← wP_kids] at h3
      rw [hkl] at h3
      have e3 : (1 + wP p) * E = E + wP p * E := by rw [Nat.add_mul, Nat.one_mul]
      rw [e3]
      unfold kidsS
      generalize wP p * E = X at h3
      omega
    · obtain ⟨hk2, hs0, hs1⟩ := or_partsP hs h
      have h0k : 0 < p.kids.length := by omega
      have h1k : 1 < p.kids.length := by omega
      have w0 := wP_kid p 0 h0k
      have w1 := wP_kid p 1 h1k
      by_cases hm0 : smP l d t p.kids[0] = true
      · rw [svP_or0 h h0k hm0]
        exact Nat.le_trans (svP_wE l E hE hlv d t _ (hs0 h0k)) (Nat.mul_le_mul_right E (by omega))
      · have hm0' : smP l d t p.kids[0] = false := by simpa using hm0
        rw [svP_or1 h h0k h1k hm0']
        exact Nat.le_trans (svP_wE l E hE hlv d t _ (hs1 h1k)) (Nat.mul_le_mul_right E (by omega))
    · obtain ⟨hk1, hs0⟩ := as_partsP hs h
      have h0k : 0 < p.kids.length := by omega
      have w0 := wP_kid p 0 h0k
      rw [svP_as h h0k]
      exact Nat.le_trans (svP_wE l E hE hlv d t _ (hs0 h0k)) (Nat.mul_le_mul_right E (by omega))
theorem svP_w {l : List Da} {d : Nat} {t : Ty} {p : Pt} (hs : shP l d t p = true) (h60 : 1 + wP p ≤ 60) : wV (svP l d t p) ≤ 16000000 := by
  have h := svP_wE l 120000 (by omega) (fun t => by have := lvA_w l 10 t; omega) d t p hs
  have h2 := Nat.mul_le_mul_right 120000 h60
  omega
/-- What SamplePattern hands back. -/
noncomputable def spB (l : List Da) (t : Ty) (p : Pt) : Bool := pvT l t p && (smP l 10 t p && (loP l 10 t p && isV l t (svP l 10 t p)))
noncomputable def spR (l : List Da) (t : Ty) (p : Pt) : Vl := if spB l t p = true then svP l 10 t p else .mk 0 0 []
theorem spR_yes {l : List Da} {t : Ty} {p : Pt} (h : spB l t p = true) : spR l t p = svP l 10 t p := if_pos h
theorem spR_no {l : List Da} {t : Ty} {p : Pt} (h : spB l t p = false) : spR l t p = .mk 0 0 [] := if_neg (by rw [h]; simp)
theorem spB_val {l : List Da} {t : Ty} {p : Pt} (h : pvT l t p = false) : spB l t p = false := by unfold spB; rw [h]; rfl
theorem spB_em {l : List Da} {t : Ty} {p : Pt} (h : smP l 10 t p = false) : spB l t p = false := by unfold spB; rw [h]; simp
theorem spB_lo {l : List Da} {t : Ty} {p : Pt} (h : loP l 10 t p = false) : spB l t p = false := by unfold spB; rw [h]; simp
theorem spB_is {l : List Da} {t : Ty} {p : Pt} (h : isV l t (svP l 10 t p) = false) : spB l t p = false := by unfold spB; rw [h]; simp
theorem spB_yes {l : List Da} {t : Ty} {p : Pt} (h : pvT l t p = true) (h1 : smP l 10 t p = true) (h2 : loP l 10 t p = true) (h3 : isV l t (svP l 10 t p) = true) : spB l t p = true := by unfold spB; rw [h, h1, h2, h3]; rfl
theorem isV_parts {l : List Da} {t : Ty} {v : Vl} (h : isV l t v = true) : fitV l 10 t v = true ∧ 1 + wV v ≤ 60 := by
  unfold isV at h; rw [Bool.and_eq_true] at h; exact ⟨h.1, of_decide_eq_true h.2⟩
theorem spB_ok {l : List Da} {t : Ty} {p : Pt} (ht : TyOK l t) (hs : shP l 10 t p = true) (h : okS l 10 t p = false) : spB l t p = false := by
  by_cases hb : spB l t p = true
  · unfold spB at hb
    rw [Bool.and_eq_true, Bool.and_eq_true, Bool.and_eq_true] at hb
    obtain ⟨_, h1, h2, h3⟩ := hb
    obtain ⟨h4, h5⟩ := isV_parts h3
    rw [ok_of l 10 10 t p ht hs h1 h2 h4 (by omega) h5] at h; cases h
  · simpa using hb
theorem spR_w (l : List Da) (t : Ty) (p : Pt) : wV (spR l t p) ≤ 60 := by
  by_cases hb : spB l t p = true
  · rw [spR_yes hb]
    unfold spB at hb
    rw [Bool.and_eq_true, Bool.and_eq_true, Bool.and_eq_true] at hb
    have := (isV_parts hb.2.2.2).2
    omega
  · rw [spR_no (by simpa using hb), wV, wVs]; omega
end Go.Proofs.YthecfkdilbfimaaGreat
