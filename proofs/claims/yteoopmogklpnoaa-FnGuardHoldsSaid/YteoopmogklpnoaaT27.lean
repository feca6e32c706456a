/-
  When a tree is a pattern for a type: plain mathematics. No statement is proved here.
-/
import Derived.Test.YteoopmogklpnoaaT00
import Derived.Test.YteoopmogklpnoaaT17
namespace Go.Proofs.Yteoopmogklpnoaa
open Go.RowKit
set_option maxRecDepth 100000
set_option linter.unusedVariables false
instance : Inhabited Pt := ⟨.mk 0 0 0 0 0 []⟩
/-- The fields of a node are right, apart from its parts. -/
def OwnOK (l : List Da) (t : Ty) (p : Pt) : Prop :=
  ((p.op = 2 ∨ p.op = 6) → 0 ≤ p.var ∧ p.var ≤ 5) ∧ (¬ (p.op = 2 ∨ p.op = 6) → p.var = 0) ∧ (¬ p.op = 3 → p.n = 0 ∧ p.m = 0) ∧ (¬ p.op = 4 → p.ctor = 0) ∧
  (p.op = 1 ∨ p.op = 2 ∨ p.op = 5 ∨ p.op = 6 ∨ (p.op = 3 ∧ t.data = -1 ∧ 0 ≤ p.n ∧ p.n ≤ p.m ∧ p.m ≤ 9) ∨ (p.op = 4 ∧ p.ctor ∈ ctR l t))
def kidN (op : Int) : Nat := if op = 5 then 2 else if op = 6 then 1 else 0
/-- The types of the parts. -/
noncomputable def tysP (l : List Da) (t : Ty) (p : Pt) : List Ty := if p.op = 4 then agR l t p.ctor else List.replicate (kidN p.op) t
theorem kidN_le (op : Int) : kidN op ≤ 2 := by unfold kidN; split <;> (try split) <;> omega
theorem tysP_ctor {l : List Da} {t : Ty} {p : Pt} (h : p.op = 4) : tysP l t p = agR l t p.ctor := if_pos h
theorem tysP_other {l : List Da} {t : Ty} {p : Pt} (h : ¬ p.op = 4) : tysP l t p = List.replicate (kidN p.op) t := if_neg h
theorem tysP_len (l : List Da) (t : Ty) (p : Pt) : (tysP l t p).length ≤ 3 := by
  by_cases h : p.op = 4
  · rw [tysP_ctor h]; exact agR_len l t p.ctor
  · rw [tysP_other h, List.length_replicate]; have := kidN_le p.op; omega
theorem OwnOK.mem {l : List Da} {t : Ty} {p : Pt} (h : OwnOK l t p) (h4 : p.op = 4) : p.ctor ∈ ctR l t := by
  rcases h.2.2.2.2 with h | h | h | h | h | h
  · omega
  · omega
  · omega
  · omega
  · omega
  · exact h.2
theorem tysP_ok {l : List Da} {t : Ty} {p : Pt} (ht : TyOK l t) (h : OwnOK l t p) : ∀ a ∈ tysP l t p, TyOK l a := by
  intro a ha
  by_cases h4 : p.op = 4
  · rw [tysP_ctor h4] at ha; exact agR_ok (h.mem h4) a ha
  · rw [tysP_other h4] at ha; rw [List.eq_of_mem_replicate ha]; exact ht
/-- Down to d levels, the fields are right. -/
noncomputable def shP (l : List Da) : Nat → Ty → Pt → Bool
  | 0, _, _ => false
  | d + 1, t, p => dec (OwnOK l t p) && (decide (p.kids.length = (tysP l t p).length) && upto (fun i => shP l d ((tysP l t p).getD i default) (p.kids.getD i default)) (tysP l t p).length)
noncomputable def kidP (l : List Da) (d : Nat) (ats : List Ty) (ks : List Pt) (i : Nat) : Bool := shP l d (ats.getD i default) (ks.getD i default)
section
variable {l : List Da} {d : Nat} {t : Ty} {p : Pt}
theorem shP_zero : shP l 0 t p = false := rfl
theorem shP_own (h : ¬ OwnOK l t p) : shP l (d + 1) t p = false := by
  show (dec _ && _) = _; rw [dec_f h]; rfl
theorem shP_len (h : ¬ p.kids.length = (tysP l t p).length) : shP l (d + 1) t p = false := by
  show (dec _ && (decide _ && _)) = _; rw [decide_eq_false h]; simp
theorem shP_go (h : OwnOK l t p) (hl : p.kids.length = (tysP l t p).length) : shP l (d + 1) t p = upto (kidP l d (tysP l t p) p.kids) (tysP l t p).length := by
  show (dec _ && (decide _ && _)) = _; rw [dec_t h, decide_eq_true hl]; rfl
theorem kidP_at {ats : List Ty} {ks : List Pt} {i : Nat} (h : i < ats.length) (h' : i < ks.length) : kidP l d ats ks i = shP l d ats[i] ks[i] := by
  unfold kidP
  rw [List.getD_eq_getElem?_getD, List.getD_eq_getElem?_getD, List.getElem?_eq_getElem h, List.getElem?_eq_getElem h']; rfl
theorem shP_parts (h : shP l (d + 1) t p = true) : OwnOK l t p ∧ p.kids.length = (tysP l t p).length ∧ ∀ i (h : i < (tysP l t p).length) (h' : i < p.kids.length), shP l d (tysP l t p)[i] p.kids[i] = true := by
  by_cases h1 : OwnOK l t p
  · by_cases h2 : p.kids.length = (tysP l t p).length
    · rw [shP_go h1 h2] at h
      exact ⟨h1, h2, fun i hi hi' => by rw [← kidP_at hi hi']; exact upto_get h hi⟩
    · rw [shP_len h2] at h; cases h
  · rw [shP_own h1] at h; cases h
end
end Go.Proofs.Yteoopmogklpnoaa
