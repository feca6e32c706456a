/-
  What an argument of the laws reads as: lists of types, of constructors, of data types. No statement is proved here.
-/
import Derived.Test.YthebdlejoficmaaMem
import Derived.Deep.Fields
import Derived.Deep.Slices
namespace Go.Proofs.Ythebdlejoficmaa
open Go.RowKit Go.Deep
open Go.ChangeShapes Go.WideShapes
set_option maxRecDepth 100000
set_option linter.unusedVariables false

section
variable {H : Type} {enc : TypeId × Value → H} {w : World} {spare : Nat → Bool} {held : Bool}

theorem field_at {e : TypeId} {fs : Array Field} {fuel : Nat} {cs : List Value} {x : DataW H × List MemPlace} (he : Try.prog.underlying e = some (.struct fs)) (hone : oneCellFields Try.prog fs = true) (hlen : cs.length = fs.size)
    (h : DataW.trod enc Try.prog w 0 spare held fuel e cs = some x) :
    ∃ m, ∀ (j : Nat) (f : Field), fs[j]? = some f → ∃ v y, cs[j]? = some v ∧ DataW.trod enc Try.prog w 0 spare held m f.type [v] = some y := by
  obtain ⟨ys, m, _, _, _, hyl, hf⟩ := DataW.trod_struct he h
  refine ⟨m, fun j f hj => ?_⟩
  obtain ⟨ho, hk⟩ := hone_of hone j f hj
  have hjl : j < fs.size := (Array.getElem?_eq_some_iff.1 hj).1
  have h1 := hf j f hj
  rw [ho, hk] at h1
  have hd : (cs.drop j).take 1 = [cs[j]'(by omega)] := by
    rw [List.drop_eq_getElem_cons (by omega)]; rfl
  rw [hd, List.getElem?_eq_getElem (by omega)] at h1
  exact ⟨_, _, List.getElem?_eq_getElem (by omega), h1⟩

theorem ty_at {fuel : Nat} {p : Addr} {cs : List Value} {x : DataW H × List MemPlace} (hc : w.cells? 0 p (Try.prog.cellsOf 32) = some cs) (h : DataW.trod enc Try.prog w 0 spare held fuel 32 cs = some x) :
    ∃ t : Ty, w.cell? (p.add 0) = some (.int .i64 t.data) ∧ w.cell? (p.add 1) = some (.int .i64 t.index) := by
  obtain ⟨_, hl, hat⟩ := World.cells?_some hc
  have h2 : Try.prog.cellsOf 32 = 2 := by kernel_rfl
  rw [h2] at hl hat
  obtain ⟨m, hf⟩ := field_at Try.underlying32 (by kernel_rfl) hl h
  obtain ⟨v0, y0, e0, t0⟩ := hf 0 _ rfl
  obtain ⟨v1, y1, e1, t1⟩ := hf 1 _ rfl
  obtain ⟨a, q0, _, _⟩ := DataW.trod_int Try.underlying3 t0
  obtain ⟨b, q1, _, _⟩ := DataW.trod_int Try.underlying3 t1
  simp only [List.cons.injEq, and_true] at q0 q1
  subst q0 q1
  exact ⟨⟨a, b⟩, (hat 0 (by omega)).trans e0, (hat 1 (by omega)).trans e1⟩

theorem spot_of {w : World} {a : Addr} {v : Value} (h : w.cell? a = some v) : a.spot = none := by
  unfold World.cell? at h
  split at h
  · split at h
    · cases h
    · simpa using ‹¬ a.spot.isSome = true›
  · cases h

theorem rTys_of {fuel : Nat} {v : Value} {x : DataW H × List MemPlace} (h : DataW.trod enc Try.prog w 0 spare held fuel 92 [v] = some x) : ∃ A l cap, v = .slice A (List.length l) cap ∧ RTys w w.heap.size A l := by
  rcases open_slice Try.underlying92 h with ⟨hcs, _⟩ | ⟨a, len, cap, m, n', D, Pl, hcs, hb, hl, hm, hmm, hx, hi⟩
  · obtain rfl : v = .slice none 0 0 := by simpa using hcs
    exact ⟨none, [], 0, rfl, by simp, fun k hk => absurd hk (by simp)⟩
  · obtain rfl : v = .slice (some a) len cap := by simpa using hcs
    have hlm : len ≤ m := by rw [hmm]; split <;> omega
    have h2 : Try.prog.cellsOf 32 = 2 := by kernel_rfl
    obtain ⟨f, hf⟩ := choose_lt (α := Ty) (n := len) (p := fun i t => w.cell? ((a.add (i * 2)).add 0) = some (.int .i64 t.data) ∧ w.cell? ((a.add (i * 2)).add 1) = some (.int .i64 t.index)) (fun i him => by
      obtain ⟨cs', q1, q2⟩ := hi i (by omega)
      have := ty_at q1 q2
      rw [h2] at this
      exact this)
    refine ⟨some a, (List.range len).map f, cap, by simp, by simp; omega, fun k hk => ?_⟩
    have hk' : k < len := by simpa using hk
    have hsp : a.spot = none := spot_of (w := w) (a := a) (by simpa [Addr.add] using (hf 0 (by omega)).1)
    obtain ⟨b, off, sp⟩ := a
    simp only at hsp
    subst hsp
    obtain ⟨c0, c1⟩ := hf k hk'
    simp only [Addr.add_lit, Nat.add_zero] at c0 c1
    refine ⟨b, off, rfl, block_lt_of_cell c0, ?_, ?_⟩
    · simpa using c0
    · simpa using c1

theorem ct_at {fuel : Nat} {p : Addr} {cs : List Value} {x : DataW H × List MemPlace} (hc : w.cells? 0 p (Try.prog.cellsOf 94) = some cs) (h : DataW.trod enc Try.prog w 0 spare held fuel 94 cs = some x) :
    ∃ c : Ct, ∃ A cap, w.cell? (p.add 0) = some (.string c.name) ∧ w.cell? (p.add 1) = some (.slice A c.args.length cap) ∧ w.cell? (p.add 2) = some (.int .i64 c.index) ∧ c.name.size ≤ maxLen ∧ RTys w w.heap.size A c.args := by
  obtain ⟨_, hl, hat⟩ := World.cells?_some hc
  have h2 : Try.prog.cellsOf 94 = 3 := by kernel_rfl
  rw [h2] at hl hat
  obtain ⟨m, hf⟩ := field_at Try.underlying94 (by kernel_rfl) hl h
  obtain ⟨v0, y0, e0, t0⟩ := hf 0 _ rfl
  obtain ⟨v1, y1, e1, t1⟩ := hf 1 _ rfl
  obtain ⟨v2, y2, e2, t2⟩ := hf 2 _ rfl
  obtain ⟨s, q0, _, hs⟩ := DataW.trod_string Try.underlying9 t0
  obtain ⟨b, q2, _, _⟩ := DataW.trod_int Try.underlying3 t2
  obtain ⟨A, l, cap, rfl, hr⟩ := rTys_of t1
  simp only [List.cons.injEq, and_true] at q0 q2
  subst q0 q2
  exact ⟨⟨s, l, b⟩, A, cap, (hat 0 (by omega)).trans e0, (hat 1 (by omega)).trans e1, (hat 2 (by omega)).trans e2, hs, hr⟩

theorem rCts_of {fuel : Nat} {v : Value} {x : DataW H × List MemPlace} (h : DataW.trod enc Try.prog w 0 spare held fuel 51 [v] = some x) : ∃ A l cap, v = .slice A (List.length l) cap ∧ RCts w w.heap.size A l := by
  rcases open_slice Try.underlying51 h with ⟨hcs, _⟩ | ⟨a, len, cap, m, n', D, Pl, hcs, hb, hl, hm, hmm, hx, hi⟩
  · obtain rfl : v = .slice none 0 0 := by simpa using hcs
    exact ⟨none, [], 0, rfl, by simp, fun k hk => absurd hk (by simp)⟩
  · obtain rfl : v = .slice (some a) len cap := by simpa using hcs
    have hlm : len ≤ m := by rw [hmm]; split <;> omega
    have h2 : Try.prog.cellsOf 94 = 3 := by kernel_rfl
    obtain ⟨f, hf⟩ := choose_lt (α := Ct) (n := len) (p := fun i c => ∃ A cap, w.cell? ((a.add (i * 3)).add 0) = some (.string c.name) ∧ w.cell? ((a.add (i * 3)).add 1) = some (.slice A c.args.length cap) ∧ w.cell? ((a.add (i * 3)).add 2) = some (.int .i64 c.index) ∧ c.name.size ≤ maxLen ∧ RTys w w.heap.size A c.args) (fun i him => by
      obtain ⟨cs', q1, q2⟩ := hi i (by omega)
      have := ct_at q1 q2
      rw [h2] at this
      exact this)
    refine ⟨some a, (List.range len).map f, cap, by simp, by simp; omega, fun k hk => ?_⟩
    have hk' : k < len := by simpa using hk
    have hsp : a.spot = none := by
      obtain ⟨A, cap', c0, _⟩ := hf 0 (by omega)
      exact spot_of (w := w) (a := a) (by simpa [Addr.add] using c0)
    obtain ⟨b, off, sp⟩ := a
    simp only at hsp
    subst hsp
    obtain ⟨A, cap', c0, c1, c2, hs, hr⟩ := hf k hk'
    simp only [Addr.add_lit, Nat.add_zero] at c0 c1 c2
    refine ⟨b, off, rfl, block_lt_of_cell c0, A, cap', ?_, ?_, ?_, ?_, ?_⟩
    · simpa using c0
    · simpa using c1
    · simpa using c2
    · simpa using hs
    · simpa using hr

theorem da_at {fuel : Nat} {p : Addr} {cs : List Value} {x : DataW H × List MemPlace} (hc : w.cells? 0 p (Try.prog.cellsOf 53) = some cs) (h : DataW.trod enc Try.prog w 0 spare held fuel 53 cs = some x) :
    ∃ d : Da, ∃ A cap, w.cell? (p.add 0) = some (.string d.name) ∧ w.cell? (p.add 1) = some (.slice A d.ctors.length cap) ∧ d.name.size ≤ maxLen ∧ RCts w w.heap.size A d.ctors := by
  obtain ⟨_, hl, hat⟩ := World.cells?_some hc
  have h2 : Try.prog.cellsOf 53 = 2 := by kernel_rfl
  rw [h2] at hl hat
  obtain ⟨m, hf⟩ := field_at Try.underlying53 (by kernel_rfl) hl h
  obtain ⟨v0, y0, e0, t0⟩ := hf 0 _ rfl
  obtain ⟨v1, y1, e1, t1⟩ := hf 1 _ rfl
  obtain ⟨s, q0, _, hs⟩ := DataW.trod_string Try.underlying9 t0
  obtain ⟨A, l, cap, rfl, hr⟩ := rCts_of t1
  simp only [List.cons.injEq, and_true] at q0
  subst q0
  exact ⟨⟨s, l⟩, A, cap, (hat 0 (by omega)).trans e0, (hat 1 (by omega)).trans e1, hs, hr⟩

theorem rDas_of {fuel : Nat} {v : Value} {x : DataW H × List MemPlace} (h : DataW.trod enc Try.prog w 0 spare held fuel 23 [v] = some x) : ∃ A l cap, v = .slice A (List.length l) cap ∧ RDas w w.heap.size A l := by
  rcases open_slice Try.underlying23 h with ⟨hcs, _⟩ | ⟨a, len, cap, m, n', D, Pl, hcs, hb, hl, hm, hmm, hx, hi⟩
  · obtain rfl : v = .slice none 0 0 := by simpa using hcs
    exact ⟨none, [], 0, rfl, by simp, fun k hk => absurd hk (by simp)⟩
  · obtain rfl : v = .slice (some a) len cap := by simpa using hcs
    have hlm : len ≤ m := by rw [hmm]; split <;> omega
    have h2 : Try.prog.cellsOf 53 = 2 := by kernel_rfl
    obtain ⟨f, hf⟩ := choose_lt (α := Da) (n := len) (p := fun i d => ∃ A cap, w.cell? ((a.add (i * 2)).add 0) = some (.string d.name) ∧ w.cell? ((a.add (i * 2)).add 1) = some (.slice A d.ctors.length cap) ∧ d.name.size ≤ maxLen ∧ RCts w w.heap.size A d.ctors) (fun i him => by
      obtain ⟨cs', q1, q2⟩ := hi i (by omega)
      have := da_at q1 q2
      rw [h2] at this
      exact this)
    refine ⟨some a, (List.range len).map f, cap, by simp, by simp; omega, fun k hk => ?_⟩
    have hk' : k < len := by simpa using hk
    have hsp : a.spot = none := by
      obtain ⟨A, cap', c0, _⟩ := hf 0 (by omega)
      exact spot_of (w := w) (a := a) (by simpa [Addr.add] using c0)
    obtain ⟨b, off, sp⟩ := a
    simp only at hsp
    subst hsp
    obtain ⟨A, cap', c0, c1, hs, hr⟩ := hf k hk'
    simp only [Addr.add_lit, Nat.add_zero] at c0 c1
    refine ⟨b, off, rfl, block_lt_of_cell c0, A, cap', ?_, ?_, ?_, ?_⟩
    · simpa using c0
    · simpa using c1
    · simpa using hs
    · simpa using hr

/-- An argument that is a list of data types. -/
theorem open_das {v : Value} {d : DataW H} {ps : List MemPlace} {b0 : Nat} {r : Reach} (hv : Value.okWide Try.prog w r b0 23 v) (h : DataW.Trod enc Try.prog w 0 spare held 23 v d ps) : ∃ A l cap, v = .slice A (List.length l) cap ∧ RDas w w.heap.size A l := by
  obtain ⟨a0, len, cap, rfl⟩ := okWide_slice Try.underlying23 hv
  obtain ⟨fuel, hf⟩ := h
  exact rDas_of hf
end
end Go.Proofs.Ythebdlejoficmaa
