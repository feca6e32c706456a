/-
  What an argument that is a Pt tree reads as. No statement is proved here.
-/
import Derived.Test.YtbdiahnelnbdnaaW00
import Derived.Test.YtbdiahnelnbdnaaW07
namespace Go.Proofs.Ytbdiahnelnbdnaa
open Go.RowKit Go.Deep
open Go.ChangeShapes Go.WideShapes
set_option maxRecDepth 100000
set_option linter.unusedVariables false
section
variable {H : Type} {enc : TypeId × Value → H} {w : World} {spare : Nat → Bool} {held : Bool}
theorem openPs_of (fuel : Nat) : ∀ {v : Value} {x : DataW H × List MemPlace}, DataW.trod enc Try.prog w 0 spare held fuel 22 [v] = some x → ∃ A l cap, v = .slice A (List.length l) cap ∧ ∃ d, RPs d w w.heap.size A l := by
  induction fuel using Nat.strongRecOn with
  | _ fuel ih =>
    intro v x h
    rcases DataW.trod_slice Try.underlying22 h with ⟨hcs, _⟩ | ⟨a, len, cap, elems, rest, n, hfu, hcs, hx, hb, hl, hm, hlen, hel, _, _⟩
    · obtain rfl : v = .slice none 0 0 := by simpa using hcs
      exact ⟨none, [], 0, rfl, 0, RPs.nil⟩
    · obtain rfl : v = .slice (some a) len cap := by simpa using hcs
      have h3 : Try.prog.cellsOf 24 = 6 := by kernel_rfl
      have hone : ∀ i, i < len → ∃ (t : Pt), ∃ A c d, w.cell? ((a.add (i * 6)).add 0) = some (.int .i64 t.op) ∧ w.cell? ((a.add (i * 6)).add 1) = some (.int .i64 t.ctor) ∧ w.cell? ((a.add (i * 6)).add 2) = some (.int .i64 t.n) ∧ w.cell? ((a.add (i * 6)).add 3) = some (.int .i64 t.m) ∧ w.cell? ((a.add (i * 6)).add 4) = some (.int .i64 t.var) ∧ w.cell? ((a.add (i * 6)).add 5) = some (.slice A t.kids.length c) ∧ RPs d w w.heap.size A t.kids := by
        intro i hi
        have h1 := hel i hi
        rw [List.getElem?_eq_getElem (by omega)] at h1
        obtain ⟨cs', q1, q2⟩ := Option.bind_eq_some_iff.1 h1
        obtain ⟨_, hl3, hat⟩ := World.cells?_some q1
        rw [h3] at hl3 hat
        obtain ⟨m, hfm, hf⟩ := field_atn Try.underlying24 (by kernel_rfl) hl3 q2
        obtain ⟨v0, y0, e0, t0⟩ := hf 0 _ rfl
        obtain ⟨v1, y1, e1, t1⟩ := hf 1 _ rfl
        obtain ⟨v2, y2, e2, t2⟩ := hf 2 _ rfl
        obtain ⟨v3, y3, e3, t3⟩ := hf 3 _ rfl
        obtain ⟨v4, y4, e4, t4⟩ := hf 4 _ rfl
        obtain ⟨v5, y5, e5, t5⟩ := hf 5 _ rfl
        obtain ⟨z0, p0, _, _⟩ := DataW.trod_int Try.underlying3 t0
        obtain ⟨z1, p1, _, _⟩ := DataW.trod_int Try.underlying3 t1
        obtain ⟨z2, p2, _, _⟩ := DataW.trod_int Try.underlying3 t2
        obtain ⟨z3, p3, _, _⟩ := DataW.trod_int Try.underlying3 t3
        obtain ⟨z4, p4, _, _⟩ := DataW.trod_int Try.underlying3 t4
        obtain ⟨A, l, cp, rfl, d, hr⟩ := ih m (by omega) t5
        simp only [List.cons.injEq, and_true] at p0 p1 p2 p3 p4
        subst p0 p1 p2 p3 p4
        exact ⟨.mk z0 z1 z2 z3 z4 l, A, cp, d, (hat 0 (by omega)).trans e0, (hat 1 (by omega)).trans e1, (hat 2 (by omega)).trans e2, (hat 3 (by omega)).trans e3, (hat 4 (by omega)).trans e4, (hat 5 (by omega)).trans e5, hr⟩
      obtain ⟨f, hf⟩ := choose_lt (α := Pt) (n := len) (p := fun i t => ∃ A c d, w.cell? ((a.add (i * 6)).add 0) = some (.int .i64 t.op) ∧ w.cell? ((a.add (i * 6)).add 1) = some (.int .i64 t.ctor) ∧ w.cell? ((a.add (i * 6)).add 2) = some (.int .i64 t.n) ∧ w.cell? ((a.add (i * 6)).add 3) = some (.int .i64 t.m) ∧ w.cell? ((a.add (i * 6)).add 4) = some (.int .i64 t.var) ∧ w.cell? ((a.add (i * 6)).add 5) = some (.slice A t.kids.length c) ∧ RPs d w w.heap.size A t.kids) hone
      by_cases hz : len = 0
      · subst hz
        exact ⟨some a, [], cap, rfl, 0, RPs.nil⟩
      · have hsp : a.spot = none := by
          obtain ⟨A, c, d, c0, _⟩ := hf 0 (by omega)
          exact spot_of (w := w) (a := a) (by simpa [Addr.add] using c0)
        obtain ⟨b, off, sp⟩ := a
        simp only at hsp
        subst hsp
        obtain ⟨D, hD⟩ := deep_all (P := fun i d => RPl d w w.heap.size b (off + i * 6) (f i)) (fun i d d' hd h => h.more hd) len (fun i hi => by
          obtain ⟨A, c, d, c0, c1, c2, c3, c4, c5, h8, h9⟩ := hf i hi
          simp only [Addr.add_lit, Nat.add_zero] at c0 c1 c2 c3 c4 c5
          exact ⟨d + 1, A, c, by simpa using c0, by simpa using c1, by simpa using c2, by simpa using c3, by simpa using c4, by simpa using c5, h8, h9⟩)
        refine ⟨some ⟨b, off, none⟩, (List.range len).map f, cap, by simp, D, by simp; omega, fun k hk => ?_⟩
        have hk' : k < len := by simpa using hk
        have hbl : b < w.heap.size := by
          obtain ⟨A, c, d, c0, _⟩ := hf k hk'
          simp only [Addr.add_lit, Nat.add_zero] at c0
          exact block_lt_of_cell c0
        exact ⟨b, off, rfl, hbl, by simpa using hD k hk'⟩
/-- An argument that is such a tree. -/
theorem openP {v : Value} {d : DataW H} {ps : List MemPlace} {b0 : Nat} {r : Reach} (hv : Value.okWide Try.prog w r b0 24 v) (h : DataW.Trod enc Try.prog w 0 spare held 24 v d ps) :
    ∃ (t : Pt) (A : Option Addr) (cap d : Nat), v = .agg #[.int .i64 t.op, .int .i64 t.ctor, .int .i64 t.n, .int .i64 t.m, .int .i64 t.var, .slice A t.kids.length cap] ∧ RPs d w w.heap.size A t.kids := by
  obtain ⟨cs, rfl, hsz⟩ := okWide_struct Try.underlying24 hv
  have h6 : cs.size = 6 := hsz.trans (by kernel_rfl)
  obtain ⟨fuel, hf⟩ := h
  obtain ⟨m, _, hat⟩ := field_atn (cs := cs.toList) Try.underlying24 (by kernel_rfl) (by simpa using h6) hf
  obtain ⟨v0, y0, e0, t0⟩ := hat 0 _ rfl
  obtain ⟨v1, y1, e1, t1⟩ := hat 1 _ rfl
  obtain ⟨v2, y2, e2, t2⟩ := hat 2 _ rfl
  obtain ⟨v3, y3, e3, t3⟩ := hat 3 _ rfl
  obtain ⟨v4, y4, e4, t4⟩ := hat 4 _ rfl
  obtain ⟨v5, y5, e5, t5⟩ := hat 5 _ rfl
  have hcs : cs = #[v0, v1, v2, v3, v4, v5] := by
    apply Array.ext'
    apply List.ext_getElem?
    intro i
    match i with
    | 0 => exact e0
    | 1 => exact e1
    | 2 => exact e2
    | 3 => exact e3
    | 4 => exact e4
    | 5 => exact e5
    | i + 6 => rw [List.getElem?_eq_none (by simp; omega), List.getElem?_eq_none (by simp)]
  subst hcs
  clear h6 hsz hf hat hv
  obtain ⟨z0, p0, _, _⟩ := DataW.trod_int Try.underlying3 t0
  obtain ⟨z1, p1, _, _⟩ := DataW.trod_int Try.underlying3 t1
  obtain ⟨z2, p2, _, _⟩ := DataW.trod_int Try.underlying3 t2
  obtain ⟨z3, p3, _, _⟩ := DataW.trod_int Try.underlying3 t3
  obtain ⟨z4, p4, _, _⟩ := DataW.trod_int Try.underlying3 t4
  obtain ⟨A, l, cp, rfl, d, hr⟩ := openPs_of m t5
  simp only [List.cons.injEq, and_true] at p0 p1 p2 p3 p4
  subst p0 p1 p2 p3 p4
  exact ⟨.mk z0 z1 z2 z3 z4 l, A, cp, d, rfl, hr⟩
end
end Go.Proofs.Ytbdiahnelnbdnaa
