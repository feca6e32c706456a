/-
  A map from types to numbers that the call itself has made, as a function. No statement is proved here.
-/
import Derived.Test.YthebdlejoficmaaLeast
import Derived.Test.YthebdlejoficmaaMap
import Derived.Test.YthebdlejoficmaaWorldValid
import Derived.Maps.OwnSet
import Derived.DeepKeys5
namespace Go.Proofs.Ythebdlejoficmaa
open Go.RowKit Go.Maps
set_option maxRecDepth 100000
set_option linter.unusedVariables false

def tv (t : Ty) : Value := .agg #[.int .i64 t.data, .int .i64 t.index]
theorem tv_inj {a b : Ty} (h : tv a = tv b) : a = b := by
  obtain ⟨x, y⟩ := a
  obtain ⟨z, u⟩ := b
  unfold tv at h
  simp only [Value.agg.injEq, Array.mk.injEq, List.cons.injEq, Value.int.injEq, true_and, and_true] at h
  obtain ⟨rfl, rfl⟩ := h
  rfl
theorem keyT : Keyed Try.prog 34 := Keyed.of_law (deep_law_gate wvLaid (of_decide_eq_true (by kernel_rfl)) (of_decide_eq_true (by kernel_rfl)) (by kernel_rfl) (by kernel_rfl))
noncomputable def keyL (t : Ty) : Lit := (keyOf Try.prog 34 (tv t)).getD (.bool false)
theorem key_some {t : Ty} (ht : t ∈ tysN 4) : (keyOf Try.prog 34 (tv t)).isSome = true := by
  obtain ⟨d, i⟩ := t
  rcases mem_tys.1 ht with h | ⟨h0, h1, h2, h3⟩
  · simp only [Ty.mk.injEq] at h
    obtain ⟨rfl, rfl⟩ := h
    kernel_rfl
  · simp only at h0 h1 h2 h3
    have hd : d = 0 ∨ d = 1 ∨ d = 2 ∨ d = 3 := by omega
    have hi : i = 0 ∨ i = 1 ∨ i = 2 ∨ i = 3 := by omega
    rcases hd with rfl | rfl | rfl | rfl <;> rcases hi with rfl | rfl | rfl | rfl <;> (show (keyOf Try.prog 34 (tv _)).isSome = true; kernel_rfl)
theorem key_of {t : Ty} (ht : t ∈ tysN 4) : keyOf Try.prog 34 (tv t) = some (keyL t) := by
  have := key_some ht
  unfold keyL
  cases h : keyOf Try.prog 34 (tv t)
  · rw [h] at this; cases this
  · rfl
theorem key_ne {t u : Ty} (ht : t ∈ tysN 4) (hu : u ∈ tysN 4) (h : t ≠ u) : keyL t ≠ keyL u := fun e => by
  have h1 := key_of ht
  have h2 := key_of hu
  rw [e] at h1
  exact h (tv_inj (keyT.inj h1 h2))
theorem key_is {t : Ty} (ht : t ∈ tysN 4) : WideAt.IsKeyLit (keyL t) := keyT.key (key_of ht)

/-- A map in block b, of at most n entries, that reads as F where S holds, and has no entry elsewhere. -/
def MapTy (w : World) (b n : Nat) (F : Ty → Int) (S : Ty → Prop) : Prop :=
  ∃ D : DataW Unit, w.ownsMap Try.prog 34 (plainElem Try.prog 3) b n D ∧ IsMap D ∧ ∀ t ∈ tysN 4, D.atKey (keyL t) (.lit (.int .i64 0)) = .lit (.int .i64 (if dec (S t) then F t else 0)) ∧ has D (keyL t) = dec (S t)
theorem zero3 (w : World) : (zeroValue 3).run Try.prog w = .ok (.int .i64 0) w := by kernel_rfl
theorem MapTy.made (w : World) (F : Ty → Int) : MapTy (w.alloc (.map #[] 0)) w.heap.size 0 F (fun _ => False) :=
  ⟨.map [], World.ownsMap_made _ _ _ _, ⟨[], rfl⟩, fun t _ => by rw [dec_f (fun h => h)]; exact ⟨rfl, rfl⟩⟩
theorem MapTy.lt {w : World} {b n : Nat} {F : Ty → Int} {S : Ty → Prop} (h : MapTy w b n F S) : b < w.heap.size := by
  obtain ⟨D, ho, _⟩ := h; exact ho.lt
theorem MapTy.keep {w w' : World} {b n n' : Nat} {F : Ty → Int} {S S' : Ty → Prop} (h : MapTy w b n F S) (hb : w'.heap[b]? = w.heap[b]?) (hn : n ≤ n') (hS : ∀ t ∈ tysN 4, (S t ↔ S' t)) : MapTy w' b n' F S' := by
  obtain ⟨D, ⟨es, clock, h1, h2, h3, h4⟩, hm, hat⟩ := h
  exact ⟨D, ⟨es, clock, hb.trans h1, h2, by omega, h4⟩, hm, fun t ht => by rw [← dec_congr (hS t ht)]; exact hat t ht⟩
theorem MapTy.below {w w' : World} {b n B : Nat} {F : Ty → Int} {S : Ty → Prop} (h : MapTy w b n F S) (hb : Below B w w') (hB : b < B) : MapTy w' b n F S :=
  h.keep (hb.block b hB) (Nat.le_refl _) (fun _ _ => Iff.rfl)
theorem MapTy.at_ {w w' : World} {b n : Nat} {F : Ty → Int} {S : Ty → Prop} (h : MapTy w b n F S) (hb : Below w.heap.size w w') : MapTy w' b n F S :=
  h.below hb h.lt
theorem MapTy.look {w : World} {b n : Nat} {F : Ty → Int} {S : Ty → Prop} (h : MapTy w b n F S) {t : Ty} (ht : t ∈ tysN 4) : (Instr.lookup 74 (.map (some b)) (.agg #[.int .i64 t.data, .int .i64 t.index]) false).run Try.prog w = .ok (.int .i64 (if dec (S t) then F t else 0)) w := by
  obtain ⟨D, ho, hm, hat⟩ := h
  obtain ⟨c, hrun, hc, _⟩ := ho.lookup_int keyT Try.underlying74 Try.underlying3 (zero3 w) (key_of ht)
  rw [(hat t ht).1] at hc
  injection hc with hc
  injection hc with _ hc
  unfold tv at hrun
  rw [hrun, hc]
theorem MapTy.look_ok {w : World} {b n : Nat} {F : Ty → Int} {S : Ty → Prop} (h : MapTy w b n F S) {t : Ty} (ht : t ∈ tysN 4) : (Instr.lookup 74 (.map (some b)) (.agg #[.int .i64 t.data, .int .i64 t.index]) true).run Try.prog w = .ok (.tuple #[.int .i64 (if dec (S t) then F t else 0), .bool (dec (S t))]) w := by
  obtain ⟨D, ho, hm, hat⟩ := h
  obtain ⟨v, ps, hrun, hv⟩ := ho.look_ok keyT Try.underlying74 (zero3 w) (plainElem_int Try.underlying3 (by decide)) (key_of ht)
  obtain ⟨c, rfl, hc, _⟩ := plainElem_int_inv Try.underlying3 hv
  simp only [Prod.mk.injEq] at hc
  have hc := hc.1
  rw [(hat t ht).1] at hc
  injection hc with hc
  injection hc with _ hc
  unfold tv at hrun
  rw [hrun, hc, (hat t ht).2]
theorem MapTy.put {w : World} {b n : Nat} {D : DataW Unit} {F : Ty → Int} {S : Ty → Prop} {t : Ty} (ht : t ∈ tysN 4) (ho : w.ownsMap Try.prog 34 (plainElem Try.prog 3) b n (D.put (keyL t) (.lit (.int .i64 (F t))))) (hm : IsMap D)
    (hat : ∀ t ∈ tysN 4, D.atKey (keyL t) (.lit (.int .i64 0)) = .lit (.int .i64 (if dec (S t) then F t else 0)) ∧ has D (keyL t) = dec (S t)) : MapTy w b n F (fun u => u = t ∨ S u) := by
  refine ⟨_, ho, hm.put _ _, fun u hu => ?_⟩
  by_cases e : u = t
  · subst e
    rw [atKey_put_same hm (key_is hu), has_put_same hm (key_is hu), dec_t (Or.inl rfl)]
    exact ⟨rfl, rfl⟩
  · rw [atKey_put_other (key_ne hu ht e), has_put_other (key_ne hu ht e), (hat u hu).1, (hat u hu).2, dec_congr (show S u ↔ (u = t ∨ S u) from ⟨Or.inr, fun h => h.resolve_left e⟩)]
    exact ⟨rfl, rfl⟩
end Go.Proofs.Ythebdlejoficmaa
