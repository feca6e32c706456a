/-
  What an argument of the laws reads as. No statement is proved here.
-/
import Derived.Test.YtlmlpmbljaomlaaSt
import Derived.Deep.Fields
import Derived.Deep.Slices
namespace Go.Proofs.Ytlmlpmbljaomlaa
open Go.RowKit Go.Deep
open Go.ChangeShapes Go.WideShapes
set_option maxRecDepth 100000
set_option linter.unusedVariables false

section
variable {H : Type} {enc : TypeId × Value → H} {w : World} {spare : Nat → Bool} {held : Bool}

theorem field_at {e : TypeId} {fs : Array Field} {fuel : Nat} {cs : List Value} {x : DataW H × List MemPlace} (he : Try.prog.underlying e = some (.struct fs)) (hone : oneCellFields Try.prog fs = true) (hlen : cs.length = fs.size)
    (h : DataW.trod enc Try.prog w 0 spare held fuel e cs = some x) :
    ∃ m, ∀ (j : Nat) (f : Field), fs[j]? = some f → ∃ v y, cs[j]? = some v ∧ DataW.trod enc Try.prog w 0 spare held m f.type [v] = some y := by
  obtain ⟨ys, m, _, _, _, hyl, hf⟩ := DataW.trod_struct he h
  refine ⟨m, fun j f hj => ?_⟩
  obtain ⟨ho, hk⟩ := hone_of hone j f hj
  have hjl : j < fs.size := (Array.getElem?_eq_some_iff.1 hj).1
  have h1 := hf j f hj
  rw [ho, hk] at h1
  have hd : (cs.drop j).take 1 = [cs[j]'(by omega)] := by
    rw [List.drop_eq_getElem_cons (by omega)]; rfl
  rw [hd, List.getElem?_eq_getElem (by omega)] at h1
  exact ⟨_, _, List.getElem?_eq_getElem (by omega), h1⟩
theorem spot_of {w : World} {a : Addr} {v : Value} (h : w.cell? a = some v) : a.spot = none := by
  unfold World.cell? at h
  split at h
  · split at h
    · cases h
    · simpa using ‹¬ a.spot.isSome = true›
  · cases h
theorem rIs_of {fuel : Nat} {v : Value} {x : DataW H × List MemPlace} (h : DataW.trod enc Try.prog w 0 spare held fuel 31 [v] = some x) : ∃ A l cap, v = .slice A (List.length l) cap ∧ QIs w 0 w.heap.size A l := by
  rcases open_slice Try.underlying31 h with ⟨hcs, _⟩ | ⟨a, len, cap, m, n', D, Pl, hcs, hb, hl, hm, hmm, hx, hi⟩
  · obtain rfl : v = .slice none 0 0 := by simpa using hcs
    exact ⟨none, [], 0, rfl, by simp, fun k hk => absurd hk (by simp)⟩
  · obtain rfl : v = .slice (some a) len cap := by simpa using hcs
    have hlm : len ≤ m := by rw [hmm]; split <;> omega
    have h2 : Try.prog.cellsOf 3 = 1 := by kernel_rfl
    obtain ⟨f, hf⟩ := choose_lt (α := Int) (n := len) (p := fun i z => w.cell? ((a.add (i * 1)).add 0) = some (.int .i64 z)) (fun i him => by
      obtain ⟨cs', q1, q2⟩ := hi i (by omega)
      rw [h2] at q1
      obtain ⟨_, hl', hat⟩ := World.cells?_some q1
      obtain ⟨z, qz, _, _⟩ := DataW.trod_int Try.underlying3 q2
      subst qz
      exact ⟨z, (hat 0 (by omega)).trans rfl⟩)
    refine ⟨some a, (List.range len).map f, cap, by simp, by simp; omega, fun k hk => ?_⟩
    have hk' : k < len := by simpa using hk
    have hsp : a.spot = none := spot_of (w := w) (a := a) (by simpa [Addr.add] using hf 0 (by omega))
    obtain ⟨b, off, sp⟩ := a
    simp only at hsp
    subst hsp
    have c0 := hf k hk'
    simp only [Addr.add_lit, Nat.add_zero, Nat.mul_one] at c0
    refine ⟨b, off, rfl, Nat.zero_le _, block_lt_of_cell c0, ?_⟩
    simpa using c0
theorem atPb {fuel : Nat} {p : Addr} {cs : List Value} {x0 : DataW H × List MemPlace} (hc : w.cells? 0 p (Try.prog.cellsOf 59) = some cs) (h : DataW.trod enc Try.prog w 0 spare held fuel 59 cs = some x0) :
    ∃ x : Pb, ∃ A1 c1, w.cell? (p.add 0) = some (.int .i64 x.var) ∧ w.cell? (p.add 1) = some (.slice A1 x.path.length c1) ∧ QIs w 0 w.heap.size A1 x.path := by
  obtain ⟨_, hl, hat⟩ := World.cells?_some hc
  have h2 : Try.prog.cellsOf 59 = 2 := by kernel_rfl
  rw [h2] at hl hat
  obtain ⟨m, hf⟩ := field_at Try.underlying59 (by kernel_rfl) hl h
  obtain ⟨v0, y0, e0, t0⟩ := hf 0 _ rfl
  obtain ⟨v1, y1, e1, t1⟩ := hf 1 _ rfl
  obtain ⟨z0, q0, _, _⟩ := DataW.trod_int Try.underlying3 t0
  obtain ⟨A1, l1, c1, rfl, r1⟩ := rIs_of t1
  simp only [List.cons.injEq, and_true] at q0
  subst q0
  exact ⟨⟨z0, l1⟩, A1, c1, (hat 0 (by omega)).trans e0, (hat 1 (by omega)).trans e1, r1⟩
theorem ofPbs {fuel : Nat} {v : Value} {x0 : DataW H × List MemPlace} (h : DataW.trod enc Try.prog w 0 spare held fuel 30 [v] = some x0) : ∃ A l cap, v = .slice A (List.length l) cap ∧ QPbs w 0 w.heap.size A l := by
  rcases open_slice Try.underlying30 h with ⟨hcs, _⟩ | ⟨a, len, cap, m, n', D, Pl, hcs, hb, hl, hm, hmm, hx, hi⟩
  · obtain rfl : v = .slice none 0 0 := by simpa using hcs
    exact ⟨none, [], 0, rfl, by simp, fun k hk => absurd hk (by simp)⟩
  · obtain rfl : v = .slice (some a) len cap := by simpa using hcs
    have hlm : len ≤ m := by rw [hmm]; split <;> omega
    have h2 : Try.prog.cellsOf 59 = 2 := by kernel_rfl
    obtain ⟨f, hf⟩ := choose_lt (α := Pb) (n := len) (p := fun i x => ∃ A1 c1, w.cell? ((a.add (i * 2)).add 0) = some (.int .i64 x.var) ∧ w.cell? ((a.add (i * 2)).add 1) = some (.slice A1 x.path.length c1) ∧ QIs w 0 w.heap.size A1 x.path) (fun i him => by
      obtain ⟨cs', q1, q2⟩ := hi i (by omega)
      have := atPb q1 q2
      rw [h2] at this
      exact this)
    refine ⟨some a, (List.range len).map f, cap, by simp, by simp; omega, fun k hk => ?_⟩
    have hk' : k < len := by simpa using hk
    have hsp : a.spot = none := by
      obtain ⟨A1, c1, c0, _⟩ := hf 0 (by omega)
      exact spot_of (w := w) (a := a) (by simpa [Addr.add] using c0)
    obtain ⟨b, off, sp⟩ := a
    simp only at hsp
    subst hsp
    obtain ⟨A1, c1, x0, x1, s1⟩ := hf k hk'
    simp only [Addr.add_lit, Nat.add_zero] at x0 x1
    refine ⟨b, off, rfl, Nat.zero_le _, block_lt_of_cell x0, A1, c1, ?_, ?_, ?_⟩
    · simpa using x0
    · simpa using x1
    · simpa using s1
theorem atEg {fuel : Nat} {p : Addr} {cs : List Value} {x0 : DataW H × List MemPlace} (hc : w.cells? 0 p (Try.prog.cellsOf 63) = some cs) (h : DataW.trod enc Try.prog w 0 spare held fuel 63 cs = some x0) :
    ∃ x : Eg, w.cell? (p.add 0) = some (.int .i64 x.ctor) ∧ w.cell? (p.add 1) = some (.int .i64 x.n) ∧ w.cell? (p.add 2) = some (.int .i64 x.m) ∧ w.cell? (p.add 3) = some (.int .i64 x.to) := by
  obtain ⟨_, hl, hat⟩ := World.cells?_some hc
  have h2 : Try.prog.cellsOf 63 = 4 := by kernel_rfl
  rw [h2] at hl hat
  obtain ⟨m, hf⟩ := field_at Try.underlying63 (by kernel_rfl) hl h
  obtain ⟨v0, y0, e0, t0⟩ := hf 0 _ rfl
  obtain ⟨v1, y1, e1, t1⟩ := hf 1 _ rfl
  obtain ⟨v2, y2, e2, t2⟩ := hf 2 _ rfl
  obtain ⟨v3, y3, e3, t3⟩ := hf 3 _ rfl
  obtain ⟨z0, q0, _, _⟩ := DataW.trod_int Try.underlying3 t0
  obtain ⟨z1, q1, _, _⟩ := DataW.trod_int Try.underlying3 t1
  obtain ⟨z2, q2, _, _⟩ := DataW.trod_int Try.underlying3 t2
  obtain ⟨z3, q3, _, _⟩ := DataW.trod_int Try.underlying3 t3
  simp only [List.cons.injEq, and_true] at q0 q1 q2 q3
  subst q0 q1 q2 q3
  exact ⟨⟨z0, z1, z2, z3⟩, (hat 0 (by omega)).trans e0, (hat 1 (by omega)).trans e1, (hat 2 (by omega)).trans e2, (hat 3 (by omega)).trans e3⟩
theorem ofEgs {fuel : Nat} {v : Value} {x0 : DataW H × List MemPlace} (h : DataW.trod enc Try.prog w 0 spare held fuel 32 [v] = some x0) : ∃ A l cap, v = .slice A (List.length l) cap ∧ QEgs w 0 w.heap.size A l := by
  rcases open_slice Try.underlying32 h with ⟨hcs, _⟩ | ⟨a, len, cap, m, n', D, Pl, hcs, hb, hl, hm, hmm, hx, hi⟩
  · obtain rfl : v = .slice none 0 0 := by simpa using hcs
    exact ⟨none, [], 0, rfl, by simp, fun k hk => absurd hk (by simp)⟩
  · obtain rfl : v = .slice (some a) len cap := by simpa using hcs
    have hlm : len ≤ m := by rw [hmm]; split <;> omega
    have h2 : Try.prog.cellsOf 63 = 4 := by kernel_rfl
    obtain ⟨f, hf⟩ := choose_lt (α := Eg) (n := len) (p := fun i x => w.cell? ((a.add (i * 4)).add 0) = some (.int .i64 x.ctor) ∧ w.cell? ((a.add (i * 4)).add 1) = some (.int .i64 x.n) ∧ w.cell? ((a.add (i * 4)).add 2) = some (.int .i64 x.m) ∧ w.cell? ((a.add (i * 4)).add 3) = some (.int .i64 x.to)) (fun i him => by
      obtain ⟨cs', q1, q2⟩ := hi i (by omega)
      have := atEg q1 q2
      rw [h2] at this
      exact this)
    refine ⟨some a, (List.range len).map f, cap, by simp, by simp; omega, fun k hk => ?_⟩
    have hk' : k < len := by simpa using hk
    have hsp : a.spot = none := by
      obtain ⟨c0, _⟩ := hf 0 (by omega)
      exact spot_of (w := w) (a := a) (by simpa [Addr.add] using c0)
    obtain ⟨b, off, sp⟩ := a
    simp only at hsp
    subst hsp
    obtain ⟨x0, x1, x2, x3⟩ := hf k hk'
    simp only [Addr.add_lit, Nat.add_zero] at x0 x1 x2 x3
    refine ⟨b, off, rfl, Nat.zero_le _, block_lt_of_cell x0, ?_, ?_, ?_, ?_⟩
    · simpa using x0
    · simpa using x1
    · simpa using x2
    · simpa using x3
theorem atNd {fuel : Nat} {p : Addr} {cs : List Value} {x0 : DataW H × List MemPlace} (hc : w.cells? 0 p (Try.prog.cellsOf 34) = some cs) (h : DataW.trod enc Try.prog w 0 spare held fuel 34 cs = some x0) :
    ∃ x : Nd, ∃ A2 c2, ∃ A3 c3, ∃ A4 c4, w.cell? (p.add 0) = some (.int .i64 x.op) ∧ w.cell? (p.add 1) = some (.int .i64 x.clause) ∧ w.cell? (p.add 2) = some (.slice A2 x.binds.length c2) ∧ w.cell? (p.add 3) = some (.slice A3 x.path.length c3) ∧ w.cell? (p.add 4) = some (.slice A4 x.edges.length c4) ∧ w.cell? (p.add 5) = some (.int .i64 x.els) ∧ QPbs w 0 w.heap.size A2 x.binds ∧ QIs w 0 w.heap.size A3 x.path ∧ QEgs w 0 w.heap.size A4 x.edges := by
  obtain ⟨_, hl, hat⟩ := World.cells?_some hc
  have h2 : Try.prog.cellsOf 34 = 6 := by kernel_rfl
  rw [h2] at hl hat
  obtain ⟨m, hf⟩ := field_at Try.underlying34 (by kernel_rfl) hl h
  obtain ⟨v0, y0, e0, t0⟩ := hf 0 _ rfl
  obtain ⟨v1, y1, e1, t1⟩ := hf 1 _ rfl
  obtain ⟨v2, y2, e2, t2⟩ := hf 2 _ rfl
  obtain ⟨v3, y3, e3, t3⟩ := hf 3 _ rfl
  obtain ⟨v4, y4, e4, t4⟩ := hf 4 _ rfl
  obtain ⟨v5, y5, e5, t5⟩ := hf 5 _ rfl
  obtain ⟨z0, q0, _, _⟩ := DataW.trod_int Try.underlying3 t0
  obtain ⟨z1, q1, _, _⟩ := DataW.trod_int Try.underlying3 t1
  obtain ⟨A2, l2, c2, rfl, r2⟩ := ofPbs t2
  obtain ⟨A3, l3, c3, rfl, r3⟩ := rIs_of t3
  obtain ⟨A4, l4, c4, rfl, r4⟩ := ofEgs t4
  obtain ⟨z5, q5, _, _⟩ := DataW.trod_int Try.underlying3 t5
  simp only [List.cons.injEq, and_true] at q0 q1 q5
  subst q0 q1 q5
  exact ⟨⟨z0, z1, l2, l3, l4, z5⟩, A2, c2, A3, c3, A4, c4, (hat 0 (by omega)).trans e0, (hat 1 (by omega)).trans e1, (hat 2 (by omega)).trans e2, (hat 3 (by omega)).trans e3, (hat 4 (by omega)).trans e4, (hat 5 (by omega)).trans e5, r2, r3, r4⟩
theorem ofNds {fuel : Nat} {v : Value} {x0 : DataW H × List MemPlace} (h : DataW.trod enc Try.prog w 0 spare held fuel 22 [v] = some x0) : ∃ A l cap, v = .slice A (List.length l) cap ∧ QNds w 0 w.heap.size A l := by
  rcases open_slice Try.underlying22 h with ⟨hcs, _⟩ | ⟨a, len, cap, m, n', D, Pl, hcs, hb, hl, hm, hmm, hx, hi⟩
  · obtain rfl : v = .slice none 0 0 := by simpa using hcs
    exact ⟨none, [], 0, rfl, by simp, fun k hk => absurd hk (by simp)⟩
  · obtain rfl : v = .slice (some a) len cap := by simpa using hcs
    have hlm : len ≤ m := by rw [hmm]; split <;> omega
    have h2 : Try.prog.cellsOf 34 = 6 := by kernel_rfl
    obtain ⟨f, hf⟩ := choose_lt (α := Nd) (n := len) (p := fun i x => ∃ A2 c2, ∃ A3 c3, ∃ A4 c4, w.cell? ((a.add (i * 6)).add 0) = some (.int .i64 x.op) ∧ w.cell? ((a.add (i * 6)).add 1) = some (.int .i64 x.clause) ∧ w.cell? ((a.add (i * 6)).add 2) = some (.slice A2 x.binds.length c2) ∧ w.cell? ((a.add (i * 6)).add 3) = some (.slice A3 x.path.length c3) ∧ w.cell? ((a.add (i * 6)).add 4) = some (.slice A4 x.edges.length c4) ∧ w.cell? ((a.add (i * 6)).add 5) = some (.int .i64 x.els) ∧ QPbs w 0 w.heap.size A2 x.binds ∧ QIs w 0 w.heap.size A3 x.path ∧ QEgs w 0 w.heap.size A4 x.edges) (fun i him => by
      obtain ⟨cs', q1, q2⟩ := hi i (by omega)
      have := atNd q1 q2
      rw [h2] at this
      exact this)
    refine ⟨some a, (List.range len).map f, cap, by simp, by simp; omega, fun k hk => ?_⟩
    have hk' : k < len := by simpa using hk
    have hsp : a.spot = none := by
      obtain ⟨A2, c2, A3, c3, A4, c4, c0, _⟩ := hf 0 (by omega)
      exact spot_of (w := w) (a := a) (by simpa [Addr.add] using c0)
    obtain ⟨b, off, sp⟩ := a
    simp only at hsp
    subst hsp
    obtain ⟨A2, c2, A3, c3, A4, c4, x0, x1, x2, x3, x4, x5, s2, s3, s4⟩ := hf k hk'
    simp only [Addr.add_lit, Nat.add_zero] at x0 x1 x2 x3 x4 x5
    refine ⟨b, off, rfl, Nat.zero_le _, block_lt_of_cell x0, A2, c2, A3, c3, A4, c4, ?_, ?_, ?_, ?_, ?_, ?_, ?_, ?_, ?_⟩
    · simpa using x0
    · simpa using x1
    · simpa using x2
    · simpa using x3
    · simpa using x4
    · simpa using x5
    · simpa using s2
    · simpa using s3
    · simpa using s4
theorem openNds {v : Value} {d : DataW H} {ps : List MemPlace} {b0 : Nat} {r : Reach} (hv : Value.okWide Try.prog w r b0 22 v) (h : DataW.Trod enc Try.prog w 0 spare held 22 v d ps) : ∃ A l cap, v = .slice A (List.length l) cap ∧ QNds w 0 w.heap.size A l := by
  obtain ⟨a0, len, cap, rfl⟩ := okWide_slice Try.underlying22 hv
  obtain ⟨fuel, hf⟩ := h
  exact ofNds hf
end
end Go.Proofs.Ytlmlpmbljaomlaa
