/-
  An argument that is a list of clauses. No statement is proved here.
-/
import Derived.Test.YthdnfnmglhifmaaGreatR36
import Derived.Test.YthdnfnmglhifmaaGreatR29
import Derived.Deep.Strs
namespace Go.Proofs.YthdnfnmglhifmaaGreat
open Go.RowKit Go.Deep
open Go.ChangeShapes Go.WideShapes
set_option maxRecDepth 100000
set_option linter.unusedVariables false
section
variable {H : Type} {enc : TypeId × Value → H} {w : World} {spare : Nat → Bool} {held : Bool}
theorem open_cns {v : Value} {d : DataW H} {ps : List MemPlace} {b0 : Nat} {r : Reach} (hv : Value.okWide Tryz.prog w r b0 72 v) (h : DataW.Trod enc Tryz.prog w 0 spare held 72 v d ps) : ∃ A l cap, v = .slice A (List.length l) cap ∧ ∃ d, RCs d w w.heap.size A l := by
  obtain ⟨a0, ln0, cap0, rfl⟩ := okWide_slice Tryz.underlying72 hv
  clear hv
  obtain ⟨fuel, h⟩ := h
  replace h : DataW.trod enc Tryz.prog w 0 spare held fuel 72 [.slice a0 ln0 cap0] = some (d, ps) := h
  generalize Value.slice a0 ln0 cap0 = v at h ⊢
  rcases DataW.trod_slice Tryz.underlying72 h with ⟨hcs, _⟩ | ⟨a, len, cap, elems, rest, n, hfu, hcs, hx, hb, hl, hm, hlen, hel, _, _⟩
  · obtain rfl : v = .slice none 0 0 := by simpa using hcs
    exact ⟨none, [], 0, rfl, 0, RCs.nil⟩
  · obtain rfl : v = .slice (some a) len cap := by simpa using hcs
    have h9 : Tryz.prog.cellsOf 160 = 9 := by kernel_rfl
    have hone : ∀ i, i < len → ∃ (t : Cn), ∃ A c d, w.cell? ((a.add (i * 9)).add 0) = some (.int .i64 t.pat.op) ∧ w.cell? ((a.add (i * 9)).add 1) = some (.int .i64 t.pat.ctor) ∧ w.cell? ((a.add (i * 9)).add 2) = some (.int .i64 t.pat.n) ∧ w.cell? ((a.add (i * 9)).add 3) = some (.int .i64 t.pat.m) ∧ w.cell? ((a.add (i * 9)).add 4) = some (.int .i64 t.pat.var) ∧ w.cell? ((a.add (i * 9)).add 5) = some (.slice A t.pat.kids.length c) ∧ w.cell? ((a.add (i * 9)).add 6) = some (.int .i64 t.g0) ∧ w.cell? ((a.add (i * 9)).add 7) = some (.int .i64 t.g1) ∧ w.cell? ((a.add (i * 9)).add 8) = some (.int .i64 t.g2) ∧ RPs d w w.heap.size A t.pat.kids := by
      intro i hi
      have h1 := hel i hi
      rw [List.getElem?_eq_getElem (by omega)] at h1
      obtain ⟨cs', q1, q2⟩ := Option.bind_eq_some_iff.1 h1
      obtain ⟨_, hl9, hat⟩ := World.cells?_some q1
      rw [h9] at hl9 hat
      obtain ⟨v0, v1, v2, v3, v4, v5, v6, v7, v8, rfl⟩ : ∃ v0 v1 v2 v3 v4 v5 v6 v7 v8, cs' = [v0, v1, v2, v3, v4, v5, v6, v7, v8] := by
        match cs', hl9 with
        | [v0, v1, v2, v3, v4, v5, v6, v7, v8], _ => exact ⟨v0, v1, v2, v3, v4, v5, v6, v7, v8, rfl⟩
      obtain ⟨ya, yb, n9, _, _, ha, hb9⟩ := trod_struct2 Tryz.underlying160 q2
      have h6 : Tryz.prog.cellsOf 157 = 6 := by kernel_rfl
      have h3 : Tryz.prog.cellsOf 158 = 3 := by kernel_rfl
      replace ha : DataW.trod enc Tryz.prog w 0 spare held n9 157 ((([v0, v1, v2, v3, v4, v5, v6, v7, v8] : List Value).drop 0).take (Tryz.prog.cellsOf 157)) = some ya := ha
      replace hb9 : DataW.trod enc Tryz.prog w 0 spare held n9 158 ((([v0, v1, v2, v3, v4, v5, v6, v7, v8] : List Value).drop 6).take (Tryz.prog.cellsOf 158)) = some yb := hb9
      rw [h6] at ha
      rw [h3] at hb9
      replace ha : DataW.trod enc Tryz.prog w 0 spare held n9 157 [v0, v1, v2, v3, v4, v5] = some ya := ha
      replace hb9 : DataW.trod enc Tryz.prog w 0 spare held n9 158 [v6, v7, v8] = some yb := hb9
      obtain ⟨m, _, hatp⟩ := field_atn Tryz.underlying157 (by kernel_rfl) rfl ha
      obtain ⟨k, _, hbt⟩ := field_atn Tryz.underlying158 (by kernel_rfl) rfl hb9
      obtain ⟨_, y0, e0, t0⟩ := hatp 0 _ rfl
      obtain ⟨_, y1, e1, t1⟩ := hatp 1 _ rfl
      obtain ⟨_, y2, e2, t2⟩ := hatp 2 _ rfl
      obtain ⟨_, y3, e3, t3⟩ := hatp 3 _ rfl
      obtain ⟨_, y4, e4, t4⟩ := hatp 4 _ rfl
      obtain ⟨_, y5, e5, t5⟩ := hatp 5 _ rfl
      obtain ⟨_, y6, e6, t6⟩ := hbt 0 _ rfl
      obtain ⟨_, y7, e7, t7⟩ := hbt 1 _ rfl
      obtain ⟨_, y8, e8, t8⟩ := hbt 2 _ rfl
      obtain rfl := Option.some.inj e0
      obtain rfl := Option.some.inj e1
      obtain rfl := Option.some.inj e2
      obtain rfl := Option.some.inj e3
      obtain rfl := Option.some.inj e4
      obtain rfl := Option.some.inj e5
      obtain rfl := Option.some.inj e6
      obtain rfl := Option.some.inj e7
      obtain rfl := Option.some.inj e8
      obtain ⟨z0, p0, _, _⟩ := DataW.trod_int Tryz.underlying3 t0
      obtain ⟨z1, p1, _, _⟩ := DataW.trod_int Tryz.underlying3 t1
      obtain ⟨z2, p2, _, _⟩ := DataW.trod_int Tryz.underlying3 t2
      obtain ⟨z3, p3, _, _⟩ := DataW.trod_int Tryz.underlying3 t3
      obtain ⟨z4, p4, _, _⟩ := DataW.trod_int Tryz.underlying3 t4
      obtain ⟨z6, p6, _, _⟩ := DataW.trod_int Tryz.underlying3 t6
      obtain ⟨z7, p7, _, _⟩ := DataW.trod_int Tryz.underlying3 t7
      obtain ⟨z8, p8, _, _⟩ := DataW.trod_int Tryz.underlying3 t8
      obtain ⟨A, l, cp, p5, d, hr⟩ := openPs_of m t5
      simp only [List.cons.injEq, and_true] at p0 p1 p2 p3 p4 p6 p7 p8
      subst p0 p1 p2 p3 p4 p5 p6 p7 p8
      exact ⟨⟨.mk z0 z1 z2 z3 z4 l, z6, z7, z8⟩, A, cp, d, hat 0 (by omega), hat 1 (by omega), hat 2 (by omega), hat 3 (by omega), hat 4 (by omega), hat 5 (by omega), hat 6 (by omega), hat 7 (by omega), hat 8 (by omega), hr⟩
    obtain ⟨f, hf⟩ := choose_lt (α := Cn) (n := len) (p := fun i t => ∃ A c d, w.cell? ((a.add (i * 9)).add 0) = some (.int .i64 t.pat.op) ∧ w.cell? ((a.add (i * 9)).add 1) = some (.int .i64 t.pat.ctor) ∧ w.cell? ((a.add (i * 9)).add 2) = some (.int .i64 t.pat.n) ∧ w.cell? ((a.add (i * 9)).add 3) = some (.int .i64 t.pat.m) ∧ w.cell? ((a.add (i * 9)).add 4) = some (.int .i64 t.pat.var) ∧ w.cell? ((a.add (i * 9)).add 5) = some (.slice A t.pat.kids.length c) ∧ w.cell? ((a.add (i * 9)).add 6) = some (.int .i64 t.g0) ∧ w.cell? ((a.add (i * 9)).add 7) = some (.int .i64 t.g1) ∧ w.cell? ((a.add (i * 9)).add 8) = some (.int .i64 t.g2) ∧ RPs d w w.heap.size A t.pat.kids) hone
    by_cases hz : len = 0
    · subst hz
      exact ⟨some a, [], cap, rfl, 0, RCs.nil⟩
    · have hsp : a.spot = none := by
        obtain ⟨A, c, d, c0, _⟩ := hf 0 (by omega)
        exact spot_of (w := w) (a := a) (by simpa [Addr.add] using c0)
      obtain ⟨b, off, sp⟩ := a
      simp only at hsp
      subst hsp
      obtain ⟨D, hD⟩ := deep_all (P := fun i d => RCn d w w.heap.size b (off + i * 9) (f i)) (fun i d d' hd h => h.more hd) len (fun i hi => by
        obtain ⟨A, c, d, c0, c1, c2, c3, c4, c5, c6, c7, c8, h5⟩ := hf i hi
        simp only [Addr.add_lit, Nat.add_zero] at c0 c1 c2 c3 c4 c5 c6 c7 c8
        exact ⟨d, A, c, by simpa using c0, by simpa using c1, by simpa using c2, by simpa using c3, by simpa using c4, by simpa using c5, by simpa using c6, by simpa using c7, by simpa using c8, h5⟩)
      refine ⟨some ⟨b, off, none⟩, (List.range len).map f, cap, by simp, D, by simp; omega, fun k hk => ?_⟩
      have hk' : k < len := by simpa using hk
      have hbl : b < w.heap.size := by
        obtain ⟨A, c, d, c0, _⟩ := hf k hk'
        simp only [Addr.add_lit, Nat.add_zero] at c0
        exact block_lt_of_cell c0
      exact ⟨b, off, rfl, hbl, by simpa using hD k hk'⟩
end
end Go.Proofs.YthdnfnmglhifmaaGreat
