/-
  An argument that is a clause. No statement is proved here.
-/
import Derived.Test.YtphmhlekfmkdkaaG12
import Derived.Deep.Strs
namespace Go.Proofs.Ytphmhlekfmkdkaa
open Go.RowKit Go.Deep
open Go.ChangeShapes Go.WideShapes
set_option maxRecDepth 100000
set_option linter.unusedVariables false

section
variable {H : Type} {enc : TypeId × Value → H} {w : World} {spare : Nat → Bool} {held : Bool}


/-- An argument that is a clause: a pattern and a guard. -/
theorem openC {v : Value} {d : DataW H} {ps : List MemPlace} {b0 : Nat} {r : Reach} (hv : Value.okWide Try.prog w r b0 51 v) (h : DataW.Trod enc Try.prog w 0 spare held 51 v d ps) :
    ∃ (t : Pt) (g0 g1 g2 : Int) (A : Option Addr) (cap d : Nat), v = .agg #[.int .i64 t.op, .int .i64 t.ctor, .int .i64 t.n, .int .i64 t.m, .int .i64 t.var, .slice A t.kids.length cap, .int .i64 g0, .int .i64 g1, .int .i64 g2] ∧ RPs d w w.heap.size A t.kids := by
  obtain ⟨cs, rfl, hsz⟩ := okWide_struct Try.underlying51 hv
  have h9 : cs.size = 9 := hsz.trans (by kernel_rfl)
  have hcs : ∃ v0 v1 v2 v3 v4 v5 v6 v7 v8, cs = #[v0, v1, v2, v3, v4, v5, v6, v7, v8] :=
    ⟨cs[0], cs[1], cs[2], cs[3], cs[4], cs[5], cs[6], cs[7], cs[8], by
      apply Array.ext
      · simpa using h9
      · intro i hi hi'
        match i, hi, hi' with
        | 0, _, _ => rfl
        | 1, _, _ => rfl
        | 2, _, _ => rfl
        | 3, _, _ => rfl
        | 4, _, _ => rfl
        | 5, _, _ => rfl
        | 6, _, _ => rfl
        | 7, _, _ => rfl
        | 8, _, _ => rfl
        | i + 9, _, h => exact absurd h (by simp)⟩
  obtain ⟨v0, v1, v2, v3, v4, v5, v6, v7, v8, rfl⟩ := hcs
  obtain ⟨fuel, hf⟩ := h
  obtain ⟨ya, yb, n, _, _, ha, hb⟩ := trod_struct2 Try.underlying51 hf
  have h6 : Try.prog.cellsOf 27 = 6 := by kernel_rfl
  have h3 : Try.prog.cellsOf 49 = 3 := by kernel_rfl
  replace ha : DataW.trod enc Try.prog w 0 spare held n 27 ((([v0, v1, v2, v3, v4, v5, v6, v7, v8] : List Value).drop 0).take (Try.prog.cellsOf 27)) = some ya := ha
  replace hb : DataW.trod enc Try.prog w 0 spare held n 49 ((([v0, v1, v2, v3, v4, v5, v6, v7, v8] : List Value).drop 6).take (Try.prog.cellsOf 49)) = some yb := hb
  rw [h6] at ha
  rw [h3] at hb
  replace ha : DataW.trod enc Try.prog w 0 spare held n 27 [v0, v1, v2, v3, v4, v5] = some ya := ha
  replace hb : DataW.trod enc Try.prog w 0 spare held n 49 [v6, v7, v8] = some yb := hb
  obtain ⟨m, _, hat⟩ := field_atn Try.underlying27 (by kernel_rfl) rfl ha
  obtain ⟨k, _, hbt⟩ := field_atn Try.underlying49 (by kernel_rfl) rfl hb
  obtain ⟨_, y0, e0, t0⟩ := hat 0 _ rfl
  obtain ⟨_, y1, e1, t1⟩ := hat 1 _ rfl
  obtain ⟨_, y2, e2, t2⟩ := hat 2 _ rfl
  obtain ⟨_, y3, e3, t3⟩ := hat 3 _ rfl
  obtain ⟨_, y4, e4, t4⟩ := hat 4 _ rfl
  obtain ⟨_, y5, e5, t5⟩ := hat 5 _ rfl
  obtain ⟨_, y6, e6, t6⟩ := hbt 0 _ rfl
  obtain ⟨_, y7, e7, t7⟩ := hbt 1 _ rfl
  obtain ⟨_, y8, e8, t8⟩ := hbt 2 _ rfl
  obtain rfl := Option.some.inj e0
  obtain rfl := Option.some.inj e1
  obtain rfl := Option.some.inj e2
  obtain rfl := Option.some.inj e3
  obtain rfl := Option.some.inj e4
  obtain rfl := Option.some.inj e5
  obtain rfl := Option.some.inj e6
  obtain rfl := Option.some.inj e7
  obtain rfl := Option.some.inj e8
  clear h9 hsz hf hat hbt hv ha hb
  obtain ⟨z0, p0, _, _⟩ := DataW.trod_int Try.underlying3 t0
  obtain ⟨z1, p1, _, _⟩ := DataW.trod_int Try.underlying3 t1
  obtain ⟨z2, p2, _, _⟩ := DataW.trod_int Try.underlying3 t2
  obtain ⟨z3, p3, _, _⟩ := DataW.trod_int Try.underlying3 t3
  obtain ⟨z4, p4, _, _⟩ := DataW.trod_int Try.underlying3 t4
  obtain ⟨z6, p6, _, _⟩ := DataW.trod_int Try.underlying3 t6
  obtain ⟨z7, p7, _, _⟩ := DataW.trod_int Try.underlying3 t7
  obtain ⟨z8, p8, _, _⟩ := DataW.trod_int Try.underlying3 t8
  obtain ⟨A, l, cp, p5, d, hr⟩ := openPs_of m t5
  simp only [List.cons.injEq, and_true] at p0 p1 p2 p3 p4 p6 p7 p8
  subst p0 p1 p2 p3 p4 p5 p6 p7 p8
  exact ⟨.mk z0 z1 z2 z3 z4 l, z6, z7, z8, A, cp, d, rfl, hr⟩
end
end Go.Proofs.Ytphmhlekfmkdkaa
