/-
  When two lists of data types are equal: the program's function and the document's. No statement is proved here.
-/
import Derived.Test.YtholdmdkhbhokabG00
import Derived.Laws.StructEq
import Derived.BigQuiet
namespace Go.Proofs.Ytholdmdkhbhokab
open Go.RowKit Go.Sort
set_option maxRecDepth 100000
set_option linter.unusedVariables false

/-- Are the two equal? -/
noncomputable def eqv {α : Type} (a b : α) : Bool := @decide (a = b) (Classical.propDecidable _)
theorem eqv_t {α : Type} {a b : α} (h : a = b) : eqv a b = true := by unfold eqv; simp [h]
theorem eqv_f {α : Type} {a b : α} (h : ¬ a = b) : eqv a b = false := by unfold eqv; simp [h]

theorem neqTy_no (t : Ty) (w : World) : (Go.binOp .neq 33 (.agg #[.int .i64 t.data, .int .i64 t.index]) (.agg #[.int .i64 t.data, .int .i64 t.index])).run Try.prog w = .ok (.bool false) w := by
  have hS : Try.prog.underlying 33 = some (.struct (Try.prog.fieldsOf 33)) := by kernel_rfl
  have hp : Try.prog.stoodInHeld 33 = false := by kernel_rfl
  have u3 := Try.underlying3
  have a3 := Try.isAgg3
  have z3 := Try.sizeOf3
  rw [run_neq_struct, show (10000 : Nat) = 9999 + 1 from rfl, run_equalIn_agg w 9999 33 _ _ hS hp]
  simp only [Program.fieldsOf, Try.underlying33]
  go_simp
theorem neqTy_yes (t u : Ty) (h : t ≠ u) (w : World) : (Go.binOp .neq 33 (.agg #[.int .i64 t.data, .int .i64 t.index]) (.agg #[.int .i64 u.data, .int .i64 u.index])).run Try.prog w = .ok (.bool true) w := by
  have hS : Try.prog.underlying 33 = some (.struct (Try.prog.fieldsOf 33)) := by kernel_rfl
  have hp : Try.prog.stoodInHeld 33 = false := by kernel_rfl
  have u3 := Try.underlying3
  have a3 := Try.isAgg3
  have z3 := Try.sizeOf3
  rw [run_neq_struct, show (10000 : Nat) = 9999 + 1 from rfl, run_equalIn_agg w 9999 33 _ _ hS hp]
  simp only [Program.fieldsOf, Try.underlying33]
  obtain ⟨a, b⟩ := t
  obtain ⟨c, d⟩ := u
  have h' : ¬ (a = c ∧ b = d) := fun ⟨e1, e2⟩ => h (by rw [e1, e2])
  go_simp
  by_cases h1 : a = c <;> by_cases h2 : b = d <;> simp_all
theorem guardTy (x y : Operand) (xs ys : Array Value) (w : World) : (eqGuard .neq 33 x y (.agg xs) (.agg ys)).run Try.prog w = .ok () w := run_eqGuard_agg (P := Try.prog) w .neq 33 x y xs ys (by kernel_rfl)

theorem nat_bne_f {a b : Nat} (h : a = b) : ((a : Int) != (b : Int)) = false := by rw [bne, beq_iff_eq.2 (by omega)]; rfl
theorem nat_bne_t {a b : Nat} (h : ¬ a = b) : ((a : Int) != (b : Int)) = true := by rw [bne, beq_eq_false_iff_ne.2 (by omega)]; rfl
theorem ext_upto {α : Type} {l m : List α} (hl : l.length = m.length) (h : ∀ j (h1 : j < l.length) (h2 : j < m.length), l[j] = m[j]) : l = m :=
  List.ext_getElem hl (fun j h1 h2 => h j h1 h2)
def Upto {α : Type} (l m : List α) (k : Nat) : Prop := ∀ j (h1 : j < l.length) (h2 : j < m.length), j < k → l[j] = m[j]
theorem Upto.zero {α : Type} (l m : List α) : Upto l m 0 := fun j _ _ h => absurd h (by omega)
theorem Upto.step {α : Type} {l m : List α} {k : Nat} (h : Upto l m k) (h1 : k < l.length) (h2 : k < m.length) (e : l[k] = m[k]) : Upto l m (k + 1) := by
  intro j h1' h2' hj
  by_cases e' : j = k
  · subst e'; exact e
  · exact h j h1' h2' (by omega)
theorem Upto.all {α : Type} {l m : List α} (h : Upto l m l.length) (hl : l.length = m.length) : l = m := ext_upto hl (fun j h1 h2 => h j h1 h2 h1)
theorem ne_at {α : Type} {l m : List α} {k : Nat} (h1 : k < l.length) (h2 : k < m.length) (e : ¬ l[k] = m[k]) : ¬ l = m := by
  rintro rfl; exact e rfl

theorem str_ne_f {a b : ByteArray} (h : a = b) : (a.toList != b.toList) = false := by rw [bne, str_eq_t h]; rfl
theorem str_ne_t {a b : ByteArray} (h : ¬ a = b) : (a.toList != b.toList) = true := by rw [bne, str_eq_f h]; rfl
theorem int_eq_f {a b : Int} (h : ¬ a = b) : (a == b) = false := beq_eq_false_iff_ne.2 h
theorem int_eq_t {a b : Int} (h : a = b) : (a == b) = true := beq_iff_eq.2 h
theorem int_ne_f {a b : Int} (h : a = b) : (a != b) = false := by rw [bne, int_eq_t h]; rfl
theorem int_ne_t {a b : Int} (h : ¬ a = b) : (a != b) = true := by rw [bne, int_eq_f h]; rfl
theorem ct_ne1 {c d : Ct} (h : ¬ c.name = d.name) : ¬ c = d := fun e => h (by rw [e])
theorem ct_ne2 {c d : Ct} (h : ¬ c.index = d.index) : ¬ c = d := fun e => h (by rw [e])
theorem ct_ne3 {c d : Ct} (h : ¬ c.args = d.args) : ¬ c = d := fun e => h (by rw [e])
theorem ct_eq {c d : Ct} (h1 : c.name = d.name) (h2 : c.index = d.index) (h3 : c.args = d.args) : c = d := by cases c; cases d; simp_all

end Go.Proofs.Ytholdmdkhbhokab
