/-
  When two lists of data types are equal: the program's function and the document's. No statement is proved here.
-/
import Derived.Test.YthebdlejoficmaaEq
import Derived.Laws.StructEq
import Derived.BigQuiet
namespace Go.Proofs.Ythebdlejoficmaa
open Go.RowKit Go.Sort
set_option maxRecDepth 100000
set_option linter.unusedVariables false

/-- Are the two equal? -/
noncomputable def eqv {α : Type} (a b : α) : Bool := @decide (a = b) (Classical.propDecidable _)
theorem eqv_t {α : Type} {a b : α} (h : a = b) : eqv a b = true := by unfold eqv; simp [h]
theorem eqv_f {α : Type} {a b : α} (h : ¬ a = b) : eqv a b = false := by unfold eqv; simp [h]

theorem neqTy_no (t : Ty) (w : World) : (Go.binOp .neq 34 (.agg #[.int .i64 t.data, .int .i64 t.index]) (.agg #[.int .i64 t.data, .int .i64 t.index])).run Try.prog w = .ok (.bool false) w := by
  have hS : Try.prog.underlying 34 = some (.struct (Try.prog.fieldsOf 34)) := by kernel_rfl
  have hp : Try.prog.stoodInHeld 34 = false := by kernel_rfl
  have u3 := Try.underlying3
  have a3 := Try.isAgg3
  have z3 := Try.sizeOf3
  rw [run_neq_struct, show (10000 : Nat) = 9999 + 1 from rfl, run_equalIn_agg w 9999 34 _ _ hS hp]
  simp only [Program.fieldsOf, Try.underlying34]
  go_simp
theorem neqTy_yes (t u : Ty) (h : t ≠ u) (w : World) : (Go.binOp .neq 34 (.agg #[.int .i64 t.data, .int .i64 t.index]) (.agg #[.int .i64 u.data, .int .i64 u.index])).run Try.prog w = .ok (.bool true) w := by
  have hS : Try.prog.underlying 34 = some (.struct (Try.prog.fieldsOf 34)) := by kernel_rfl
  have hp : Try.prog.stoodInHeld 34 = false := by kernel_rfl
  have u3 := Try.underlying3
  have a3 := Try.isAgg3
  have z3 := Try.sizeOf3
  rw [run_neq_struct, show (10000 : Nat) = 9999 + 1 from rfl, run_equalIn_agg w 9999 34 _ _ hS hp]
  simp only [Program.fieldsOf, Try.underlying34]
  obtain ⟨a, b⟩ := t
  obtain ⟨c, d⟩ := u
  have h' : ¬ (a = c ∧ b = d) := fun ⟨e1, e2⟩ => h (by rw [e1, e2])
  go_simp
  by_cases h1 : a = c <;> by_cases h2 : b = d <;> simp_all
theorem guardTy (x y : Operand) (xs ys : Array Value) (w : World) : (eqGuard .neq 34 x y (.agg xs) (.agg ys)).run Try.prog w = .ok () w := run_eqGuard_agg (P := Try.prog) w .neq 34 x y xs ys (by kernel_rfl)

theorem ret_bool {a b : Bool} (h : a = b) : Ending.returned (.bool a) = .returned (.bool b) := by rw [h]
theorem nat_bne_f {a b : Nat} (h : a = b) : ((a : Int) != (b : Int)) = false := by rw [bne, beq_iff_eq.2 (by omega)]; rfl
theorem nat_bne_t {a b : Nat} (h : ¬ a = b) : ((a : Int) != (b : Int)) = true := by rw [bne, beq_eq_false_iff_ne.2 (by omega)]; rfl
theorem below_drawn {B : Nat} {w wr : World} (h : Below B w wr) (n : Nat) : Below B w (wr.drewN n) := ⟨h.os, h.tape, h.output, h.size, h.block⟩
theorem ext_upto {α : Type} {l m : List α} (hl : l.length = m.length) (h : ∀ j (h1 : j < l.length) (h2 : j < m.length), l[j] = m[j]) : l = m :=
  List.ext_getElem hl (fun j h1 h2 => h j h1 h2)
def Upto {α : Type} (l m : List α) (k : Nat) : Prop := ∀ j (h1 : j < l.length) (h2 : j < m.length), j < k → l[j] = m[j]
theorem Upto.zero {α : Type} (l m : List α) : Upto l m 0 := fun j _ _ h => absurd h (by omega)
theorem Upto.step {α : Type} {l m : List α} {k : Nat} (h : Upto l m k) (h1 : k < l.length) (h2 : k < m.length) (e : l[k] = m[k]) : Upto l m (k + 1) := by
  intro j h1' h2' hj
  by_cases e' : j = k
  · subst e'; exact e
  · exact h j h1' h2' (by omega)
theorem Upto.all {α : Type} {l m : List α} (h : Upto l m l.length) (hl : l.length = m.length) : l = m := ext_upto hl (fun j h1 h2 => h j h1 h2 h1)
theorem ne_at {α : Type} {l m : List α} {k : Nat} (h1 : k < l.length) (h2 : k < m.length) (e : ¬ l[k] = m[k]) : ¬ l = m := by
  rintro rfl; exact e rfl

set_option maxHeartbeats 800000 in
theorem equalTys (A A' : Option Addr) (l m : List Ty) (cap cap' : Nat) (w : World) (hr : RTys w w.heap.size A l) (hr' : RTys w w.heap.size A' m) :
    Calls Try.prog 85 #[.slice A l.length cap, .slice A' m.length cap'] w fun e w' => e = .returned (.bool (eqv l m)) ∧ Below w.heap.size w w' := by
  have hn := hr.1
  have hn' := hr'.1
  unfold maxLen at hn hn'
  have Hr := Lib.hid hr
  have Hr' := Lib.hid hr'
  clear hr hr'
  have gd := guardTy
  by_cases hl : l.length = m.length
  · have HL := Lib.hid hl
    have q2 := nat_bne_f hl
    clear hl
    go_enter Try.func85, Try.ntmps85
    go_wp2_with fail
    go_loopw [5, 13] (fun _ i wr => ∃ k : Nat, k ≤ l.length ∧ i = .int .i64 k ∧ Upto l m k ∧ Below w.heap.size w wr) (fun _ i _ => l.length - (intOf i).toNat)
    case atStart => exact ⟨0, by omega, rfl, Upto.zero _ _, Below.refl _ _⟩
    case round =>
      obtain ⟨k, hk, rfl, hu, hb⟩ := hrel
      by_cases hlt : k < l.length
      · have hlt' : k < m.length := by have := HL.out; omega
        obtain ⟨b, off, rfl, hbB, c0, c1⟩ := (Hr.out.below hb (Nat.le_refl _)).2 k hlt
        obtain ⟨b', off', rfl, hbB', c0', c1'⟩ := (Hr'.out.below hb (Nat.le_refl _)).2 k hlt'
        have hi : (k : Int) < (l.length : Int) := by omega
        have hi' : (k : Int) < (m.length : Int) := by omega
        by_cases he : l[k] = m[k]
        · have hq := neqTy_no l[k]
          have HE := Lib.hid he
          rw [← he] at c0' c1'
          clear he
          have hb2 : ∀ n, Below w.heap.size w (wr.drewN n) := fun n => below_drawn hb n
          go_wp2_with fail
          go_quiet (fail)
          go_wp2_with fail
          go_roundw
          case rel => exact ⟨k + 1, by omega, by go_num, hu.step hlt hlt' HE.out, hb2 _⟩
          case measure => simp [intOf]; omega
        · have hq := neqTy_yes l[k] m[k] he
          have HE := Lib.hid (ne_at hlt hlt' he)
          clear he
          have hb2 : ∀ n, Below w.heap.size w (wr.drewN n) := fun n => below_drawn hb n
          go_wp2_with fail
          go_quiet (fail)
          go_wp2_with fail
          go_ret
          exact ⟨ret_bool (eqv_f HE.out).symm, hb2 _⟩
      · go_wp2_with fail
        go_ret
        exact ⟨ret_bool (eqv_t (Upto.all (fun j h1 h2 _ => hu j h1 h2 (by omega)) HL.out)).symm, hb⟩
  · have HL := Lib.hid hl
    have q2 := nat_bne_t hl
    clear hl
    go_enter Try.func85, Try.ntmps85
    go_wp2_with fail
    go_ret
    exact ⟨ret_bool (eqv_f (fun e => HL.out (by rw [e]))).symm, Below.refl _ _⟩

theorem str_eq_t {a b : ByteArray} (h : a = b) : (a.toList == b.toList) = true := by rw [h]; simp
theorem toList_inj {a b : ByteArray} (h : a.toList = b.toList) : a = b := Go.WideShapes.bytes_inj (by rw [← ByteArray.toList_eq, ← ByteArray.toList_eq]; exact h)
theorem str_eq_f {a b : ByteArray} (h : ¬ a = b) : (a.toList == b.toList) = false := beq_eq_false_iff_ne.2 (fun e => h (toList_inj e))
theorem str_ne_f {a b : ByteArray} (h : a = b) : (a.toList != b.toList) = false := by rw [bne, str_eq_t h]; rfl
theorem str_ne_t {a b : ByteArray} (h : ¬ a = b) : (a.toList != b.toList) = true := by rw [bne, str_eq_f h]; rfl
theorem int_eq_f {a b : Int} (h : ¬ a = b) : (a == b) = false := beq_eq_false_iff_ne.2 h
theorem int_eq_t {a b : Int} (h : a = b) : (a == b) = true := beq_iff_eq.2 h
theorem int_ne_f {a b : Int} (h : a = b) : (a != b) = false := by rw [bne, int_eq_t h]; rfl
theorem int_ne_t {a b : Int} (h : ¬ a = b) : (a != b) = true := by rw [bne, int_eq_f h]; rfl
theorem ct_ne1 {c d : Ct} (h : ¬ c.name = d.name) : ¬ c = d := fun e => h (by rw [e])
theorem ct_ne2 {c d : Ct} (h : ¬ c.index = d.index) : ¬ c = d := fun e => h (by rw [e])
theorem ct_ne3 {c d : Ct} (h : ¬ c.args = d.args) : ¬ c = d := fun e => h (by rw [e])
theorem ct_eq {c d : Ct} (h1 : c.name = d.name) (h2 : c.index = d.index) (h3 : c.args = d.args) : c = d := by cases c; cases d; simp_all

theorem ctorSame_any (c d : Ct) (A A' : Option Addr) (cap cap' : Nat) (w : World) (hr : RTys w w.heap.size A c.args) (hr' : RTys w w.heap.size A' d.args) :
    Calls Try.prog 72 #[.agg #[.string c.name, .slice A c.args.length cap, .int .i64 c.index], .agg #[.string d.name, .slice A' d.args.length cap', .int .i64 d.index]] w fun e w' => e = .returned (.bool (eqv c d)) ∧ Below w.heap.size w w' := by
  have Hr := Lib.hid hr
  have Hr' := Lib.hid hr'
  clear hr hr'
  by_cases h1 : c.name = d.name
  · have s1 := str_eq_t h1
    have H1 := Lib.hid h1
    clear h1
    by_cases h2 : c.index = d.index
    · have s2 := int_eq_t h2
      have H2 := Lib.hid h2
      clear h2
      go_enter Try.func72, Try.ntmps72
      go_wp2_with (go_at_call 85; refine (equalTys _ _ _ _ _ _ _ (by exact Hr.out.keep (keep_two _ _) (by simp; omega)) (by exact Hr'.out.keep (keep_two _ _) (by simp; omega))).mono ?_; rintro e w1 ⟨rfl, hb⟩; obtain ⟨hc, hfz⟩ := bcell hb)
      go_ret
      refine ⟨ret_bool ?_, below_two hb⟩
      by_cases h3 : c.args = d.args
      · rw [eqv_t h3, eqv_t (ct_eq H1.out H2.out h3)]
      · rw [eqv_f h3, eqv_f (ct_ne3 h3)]
    · have s2 := int_eq_f h2
      have H2 := Lib.hid h2
      clear h2
      go_enter Try.func72, Try.ntmps72
      go_wp2_with fail
      go_ret
      exact ⟨ret_bool (eqv_f (ct_ne2 H2.out)).symm, ((Below.refl _ _).alloc (Nat.le_refl _) _).alloc (by simp) _⟩
  · have s1 := str_eq_f h1
    have H1 := Lib.hid h1
    clear h1
    go_enter Try.func72, Try.ntmps72
    go_wp2_with fail
    go_ret
    exact ⟨ret_bool (eqv_f (ct_ne1 H1.out)).symm, ((Below.refl _ _).alloc (Nat.le_refl _) _).alloc (by simp) _⟩

set_option maxHeartbeats 800000 in
theorem sameCtor_any (c d : Ct) (A A' : Option Addr) (cap cap' : Nat) (w : World) (hr : RTys w w.heap.size A c.args) (hr' : RTys w w.heap.size A' d.args) :
    Calls Try.prog 49 #[.agg #[.string c.name, .slice A c.args.length cap, .int .i64 c.index], .agg #[.string d.name, .slice A' d.args.length cap', .int .i64 d.index]] w fun e w' => e = .returned (.bool (eqv c d)) ∧ Below w.heap.size w w' := by
  have hn := hr.1
  have hn' := hr'.1
  unfold maxLen at hn hn'
  have Hr := Lib.hid hr
  have Hr' := Lib.hid hr'
  clear hr hr'
  have gd := guardTy
  have hB2 : ∀ o o' : Obj, Hid (Below w.heap.size w ((w.alloc o).alloc o')) := fun o o' => ((Below.refl _ _).alloc (Nat.le_refl _) _).alloc (by simp) _
  have HB := Lib.hid hB2
  clear hB2
  by_cases h1 : c.name = d.name
  · have s1 : c.name.toList = d.name.toList := by rw [h1]
    have H1 := Lib.hid h1
    clear h1
    by_cases h2 : c.index = d.index
    · have s2 := int_ne_f h2
      have H2 := Lib.hid h2
      by_cases hl : c.args.length = d.args.length
      · have HL := Lib.hid hl
        have q2 := nat_bne_f hl
        clear hl
        go_enter Try.func49, Try.ntmps49
        go_wp2_with fail
        go_loopw [5] (fun i wr => ∃ k : Nat, k ≤ c.args.length ∧ i = .int .i64 k ∧ Upto c.args d.args k ∧ wr.cell? ⟨w.heap.size, 1, none⟩ = some (.slice A c.args.length cap) ∧ wr.cell? ⟨w.heap.size + 1, 1, none⟩ = some (.slice A' d.args.length cap') ∧ Below w.heap.size w wr) (fun i _ => c.args.length - (intOf i).toNat)
        case atStart => exact ⟨0, by omega, rfl, Upto.zero _ _, by simp [World.cell?_alloc_new, World.cell?_alloc_lt], by simp [go_sem], (HB.out _ _).out⟩
        case round =>
          obtain ⟨k, hk, rfl, hu, b1, b2, hb⟩ := hrel
          by_cases hlt : k < c.args.length
          · have hlt' : k < d.args.length := by have := HL.out; omega
            obtain ⟨b, off, rfl, hbB, c0, c1⟩ := (Hr.out.below hb (Nat.le_refl _)).2 k hlt
            obtain ⟨b', off', rfl, hbB', c0', c1'⟩ := (Hr'.out.below hb (Nat.le_refl _)).2 k hlt'
            have hi : (k : Int) < (c.args.length : Int) := by omega
            have hi' : (k : Int) < (d.args.length : Int) := by omega
            have hb2 : ∀ n, Below w.heap.size w (wr.drewN n) := fun n => below_drawn hb n
            have HB2 := Lib.hid hb2
            clear hb2
            by_cases he : c.args[k] = d.args[k]
            · have hq := neqTy_no c.args[k]
              have HE := Lib.hid he
              rw [← he] at c0' c1'
              clear he
              go_wp2_with fail
              go_quiet (fail)
              go_wp2_with fail
              go_roundw
              case rel => exact ⟨k + 1, by omega, by go_num, hu.step hlt hlt' HE.out, b1, b2, HB2.out _⟩
              case measure => simp [intOf]; omega
            · have hq := neqTy_yes c.args[k] d.args[k] he
              have HE := Lib.hid (ne_at hlt hlt' he)
              clear he
              go_wp2_with fail
              go_quiet (fail)
              go_wp2_with fail
              go_ret
              exact ⟨ret_bool (eqv_f (ct_ne3 HE.out)).symm, HB2.out _⟩
          · go_wp2_with fail
            go_ret
            exact ⟨ret_bool (eqv_t (ct_eq H1.out H2.out (Upto.all (fun j h1 h2 _ => hu j h1 h2 (by omega)) HL.out))).symm, hb⟩
      · have HL := Lib.hid hl
        have q2 := nat_bne_t hl
        clear hl
        go_enter Try.func49, Try.ntmps49
        go_wp2_with fail
        go_ret
        exact ⟨ret_bool (eqv_f (ct_ne3 (fun e => HL.out (by rw [e])))).symm, (HB.out _ _).out⟩
    · have s2 := int_ne_t h2
      have H2 := Lib.hid h2
      go_enter Try.func49, Try.ntmps49
      go_wp2_with fail
      go_ret
      exact ⟨ret_bool (eqv_f (ct_ne2 H2.out)).symm, (HB.out _ _).out⟩
  · have s1 := str_ne_t h1
    have H1 := Lib.hid h1
    have s1' : ¬ c.name.toList = d.name.toList := fun e => h1 (toList_inj e)
    clear h1
    go_enter Try.func49, Try.ntmps49
    go_wp2_with fail
    go_ret
    exact ⟨ret_bool (eqv_f (ct_ne1 H1.out)).symm, (HB.out _ _).out⟩
end Go.Proofs.Ythebdlejoficmaa
