/-
  The argument of the statements, opened; lists of numbers compared: the statements' own functions. No statement is proved here.
-/
import Derived.Test.YteoopmogklpnoaaV26
import Derived.Deep.Slices
import Derived.ChangeArms
namespace Go.Proofs.Yteoopmogklpnoaa
open Go.RowKit Go.Deep
open Go.ChangeShapes Go.WideShapes Go.ChangeAt
set_option maxRecDepth 100000
set_option linter.unusedVariables false
section
variable {H : Type} {enc : TypeId × Value → H} {w : World} {spare : Nat → Bool} {held : Bool}
theorem spot_none {w : World} {a : Addr} {v : Value} (h : w.cell? a = some v) : a.spot = none := by
  unfold World.cell? at h
  split at h
  · split at h
    · cases h
    · simpa using ‹¬ a.spot.isSome = true›
  · cases h
theorem open_code {v : Value} {d : DataW H} {p : List MemPlace} (hval : Value.okWide Try.prog w .any w.heap.size 22 v) (h : DataW.Trod enc Try.prog w 0 spare held 22 v d p) :
    ∃ A n cap, v = .slice A n cap ∧ n ≤ maxLen ∧ n ≤ cap ∧ RBy w w.heap.size A n := by
  obtain ⟨fuel, hf⟩ := h
  have hv : ∃ A n cap, v = .slice A n cap := okWide_slice Try.underlying22 hval
  obtain ⟨A, n, cap, rfl⟩ := hv
  rcases open_slice Try.underlying22 hf with ⟨hcs, _⟩ | ⟨a, len, cap', m, n', D, Pl, hcs, hb, hl, hm, hmm, hx, hi⟩
  · simp [Value.cells] at hcs
    obtain ⟨rfl, rfl, rfl⟩ := hcs
    exact ⟨none, 0, 0, rfl, Nat.zero_le _, Nat.le_refl _, fun k hk => absurd hk (by omega)⟩
  · simp [Value.cells] at hcs
    obtain ⟨rfl, rfl, rfl⟩ := hcs
    have hlm : n ≤ m := by rw [hmm]; split <;> omega
    refine ⟨some a, n, cap, rfl, by omega, hl, fun k hk => ?_⟩
    obtain ⟨cs', q1, q2⟩ := hi k (by omega)
    have h1 : Try.prog.cellsOf 5 = 1 := by kernel_rfl
    rw [h1] at q1
    obtain ⟨_, hcl, hat⟩ := World.cells?_some q1
    obtain ⟨x, rfl, _, hwf⟩ := DataW.trod_int Try.underlying5 q2
    have hc := (hat 0 (by omega)).trans rfl
    have hsp : a.spot = none := by
      obtain ⟨cs0, r1, r2⟩ := hi 0 (by omega)
      rw [h1] at r1
      obtain ⟨_, _, hat0⟩ := World.cells?_some r1
      obtain ⟨x0, rfl, _, _⟩ := DataW.trod_int Try.underlying5 r2
      have h0 := (hat0 0 (by omega)).trans rfl
      exact spot_none (w := w) (a := a) (by simpa [Addr.add] using h0)
    obtain ⟨b, off, sp⟩ := a
    simp only at hsp
    subst hsp
    simp only [Addr.add_lit, Nat.add_zero, Nat.mul_one] at hc
    have hw : 0 ≤ x ∧ x ≤ 255 := by
      have : (IntKind.u8.min ≤ x ∧ x ≤ IntKind.u8.max) := by simpa [Lit.wf] using hwf
      exact this
    exact ⟨b, off, x, rfl, block_lt_of_cell hc, hc, hw.1, hw.2⟩
end
end Go.Proofs.Yteoopmogklpnoaa
