/-
  What an argument that is a list of lists of numbers reads as. No statement is proved here.
-/
import Derived.Test.YtnfjjabeobcenaaU11
import Derived.Test.YtnfjjabeobcenaaU00
import Derived.Test.YtnfjjabeobcenaaU07
import Derived.Deep.Fields
import Derived.Deep.Slices
import Derived.Lib.SmallJoins
namespace Go.Proofs.Ytnfjjabeobcenaa
open Go.RowKit Go.Deep
open Go.ChangeShapes Go.WideShapes
set_option maxRecDepth 100000
set_option linter.unusedVariables false
section
variable {H : Type} {enc : TypeId × Value → H} {w : World} {spare : Nat → Bool} {held : Bool}
theorem spot_ofI {w : World} {a : Addr} {v : Value} (h : w.cell? a = some v) : a.spot = none := by
  unfold World.cell? at h
  split at h
  · split at h
    · cases h
    · simpa using ‹¬ a.spot.isSome = true›
  · cases h
theorem ris_of {fuel : Nat} {v : Value} {x : DataW H × List MemPlace} (h : DataW.trod enc Try.prog w 0 spare held fuel 69 [v] = some x) : ∃ A l cap, v = .slice A (List.length l) cap ∧ RIs w w.heap.size A l := by
  rcases open_slice Try.underlying69 h with ⟨hcs, _⟩ | ⟨a, len, cap, m, n', D, Pl, hcs, hb, hl, hm, hmm, hx, hi⟩
  · obtain rfl : v = .slice none 0 0 := by simpa using hcs
    exact ⟨none, [], 0, rfl, by simp, fun k hk => absurd hk (by simp)⟩
  · obtain rfl : v = .slice (some a) len cap := by simpa using hcs
    have hlm : len ≤ m := by rw [hmm]; split <;> omega
    have h2 : Try.prog.cellsOf 3 = 1 := by kernel_rfl
    obtain ⟨f, hf⟩ := choose_lt (α := Int) (n := len) (p := fun i z => w.cell? ((a.add (i * 1)).add 0) = some (.int .i64 z)) (fun i him => by
      obtain ⟨cs', q1, q2⟩ := hi i (by omega)
      rw [h2] at q1
      obtain ⟨_, hl', hat⟩ := World.cells?_some q1
      obtain ⟨z, qz, _, _⟩ := DataW.trod_int Try.underlying3 q2
      subst qz
      exact ⟨z, (hat 0 (by omega)).trans rfl⟩)
    refine ⟨some a, (List.range len).map f, cap, by simp, by simp; omega, fun k hk => ?_⟩
    have hk' : k < len := by simpa using hk
    have hsp : a.spot = none := spot_ofI (w := w) (a := a) (by simpa [Addr.add] using hf 0 (by omega))
    obtain ⟨b, off, sp⟩ := a
    simp only at hsp
    subst hsp
    have c0 := hf k hk'
    simp only [Addr.add_lit, Nat.add_zero, Nat.mul_one] at c0
    refine ⟨b, off, rfl, block_lt_of_cell c0, ?_⟩
    simpa using c0
theorem riss_of {fuel : Nat} {v : Value} {x : DataW H × List MemPlace} (h : DataW.trod enc Try.prog w 0 spare held fuel 44 [v] = some x) : ∃ A l cap, v = .slice A (List.length l) cap ∧ RIss w w.heap.size A l := by
  rcases open_slice Try.underlying44 h with ⟨hcs, _⟩ | ⟨a, len, cap, m, n', D, Pl, hcs, hb, hl, hm, hmm, hx, hi⟩
  · obtain rfl : v = .slice none 0 0 := by simpa using hcs
    exact ⟨none, [], 0, rfl, by simp, fun k hk => absurd hk (by simp)⟩
  · obtain rfl : v = .slice (some a) len cap := by simpa using hcs
    have hlm : len ≤ m := by rw [hmm]; split <;> omega
    have h2 : Try.prog.cellsOf 69 = 1 := by kernel_rfl
    obtain ⟨f, hf⟩ := choose_lt (α := List Int) (n := len) (p := fun i z => ∃ A1 c1, w.cell? ((a.add (i * 1)).add 0) = some (.slice A1 z.length c1) ∧ RIs w w.heap.size A1 z) (fun i him => by
      obtain ⟨cs', q1, q2⟩ := hi i (by omega)
      rw [h2] at q1
      obtain ⟨_, hl', hat⟩ := World.cells?_some q1
      obtain ⟨u, rfl⟩ : ∃ u, cs' = [u] := by
        match cs', hl' with
        | [u], _ => exact ⟨u, rfl⟩
      obtain ⟨A1, z, c1, rfl, hz⟩ := ris_of q2
      exact ⟨z, A1, c1, (hat 0 (by omega)).trans rfl, hz⟩)
    refine ⟨some a, (List.range len).map f, cap, by simp, by simp; omega, fun k hk => ?_⟩
    have hk' : k < len := by simpa using hk
    have hsp : a.spot = none := by
      obtain ⟨A1, c1, c0, _⟩ := hf 0 (by omega)
      exact spot_ofI (w := w) (a := a) (by simpa [Addr.add] using c0)
    obtain ⟨b, off, sp⟩ := a
    simp only at hsp
    subst hsp
    obtain ⟨A1, c1, c0, hz⟩ := hf k hk'
    simp only [Addr.add_lit, Nat.add_zero, Nat.mul_one] at c0
    refine ⟨b, off, A1, c1, rfl, block_lt_of_cell c0, ?_, ?_⟩
    · simpa using c0
    · simpa using hz
theorem open_iss {v : Value} {d : DataW H} {ps : List MemPlace} {b0 : Nat} {r : Reach} (hv : Value.okWide Try.prog w r b0 44 v) (h : DataW.Trod enc Try.prog w 0 spare held 44 v d ps) : ∃ A l cap, v = .slice A (List.length l) cap ∧ RIss w w.heap.size A l := by
  obtain ⟨a0, len, cap, rfl⟩ := okWide_slice Try.underlying44 hv
  obtain ⟨fuel, hf⟩ := h
  exact riss_of hf
end
end Go.Proofs.Ytnfjjabeobcenaa
/-
  What an argument that is a value reads as. No statement is proved here.
-/
namespace Go.Proofs.Ytnfjjabeobcenaa
open Go.RowKit Go.Deep
open Go.ChangeShapes Go.WideShapes
set_option maxRecDepth 100000
set_option linter.unusedVariables false
section
variable {H : Type} {enc : TypeId × Value → H} {w : World} {spare : Nat → Bool} {held : Bool}
theorem field_atn {e : TypeId} {fs : Array Field} {fuel : Nat} {cs : List Value} {x : DataW H × List MemPlace} (he : Try.prog.underlying e = some (.struct fs)) (hone : oneCellFields Try.prog fs = true) (hlen : cs.length = fs.size)
    (h : DataW.trod enc Try.prog w 0 spare held fuel e cs = some x) :
    ∃ m, fuel = m + 1 ∧ ∀ (j : Nat) (f : Field), fs[j]? = some f → ∃ v y, cs[j]? = some v ∧ DataW.trod enc Try.prog w 0 spare held m f.type [v] = some y := by
  obtain ⟨ys, m, hfu, _, _, hyl, hf⟩ := DataW.trod_struct he h
  refine ⟨m, hfu, fun j f hj => ?_⟩
  obtain ⟨ho, hk⟩ := hone_of hone j f hj
  have hjl : j < fs.size := (Array.getElem?_eq_some_iff.1 hj).1
  have h1 := hf j f hj
  rw [ho, hk] at h1
  have hd : (cs.drop j).take 1 = [cs[j]'(by omega)] := by
    rw [List.drop_eq_getElem_cons (by omega)]; rfl
  rw [hd, List.getElem?_eq_getElem (by omega)] at h1
  exact ⟨_, _, List.getElem?_eq_getElem (by omega), h1⟩
theorem deep_all {P : Nat → Nat → Prop} (hup : ∀ i d d', d ≤ d' → P i d → P i d') : ∀ n, (∀ i, i < n → ∃ d, P i d) → ∃ D, ∀ i, i < n → P i D
  | 0, _ => ⟨0, fun i h => absurd h (Nat.not_lt_zero _)⟩
  | n + 1, h => by
    obtain ⟨D, hD⟩ := deep_all hup n (fun i hi => h i (by omega))
    obtain ⟨d, hd⟩ := h n (by omega)
    refine ⟨max D d, fun i hi => ?_⟩
    by_cases e : i = n
    · subst e; exact hup _ _ _ (Nat.le_max_right _ _) hd
    · exact hup _ _ _ (Nat.le_max_left _ _) (hD i (by omega))
theorem vls_of (fuel : Nat) : ∀ {v : Value} {x : DataW H × List MemPlace}, DataW.trod enc Try.prog w 0 spare held fuel 25 [v] = some x → ∃ A l cap, v = .slice A (List.length l) cap ∧ ∃ d, RVs d w w.heap.size A l := by
  induction fuel using Nat.strongRecOn with
  | _ fuel ih =>
    intro v x h
    rcases DataW.trod_slice Try.underlying25 h with ⟨hcs, _⟩ | ⟨a, len, cap, elems, rest, n, hfu, hcs, hx, hb, hl, hm, hlen, hel, _, _⟩
    · obtain rfl : v = .slice none 0 0 := by simpa using hcs
      exact ⟨none, [], 0, rfl, 0, RVs.nil⟩
    · obtain rfl : v = .slice (some a) len cap := by simpa using hcs
      have h3 : Try.prog.cellsOf 27 = 3 := by kernel_rfl
      have hone : ∀ i, i < len → ∃ (t : Vl), ∃ A c d, w.cell? ((a.add (i * 3)).add 0) = some (.int .i64 t.ctor) ∧ w.cell? ((a.add (i * 3)).add 1) = some (.int .i64 t.n) ∧ w.cell? ((a.add (i * 3)).add 2) = some (.slice A t.kids.length c) ∧ RVs d w w.heap.size A t.kids := by
        intro i hi
        have h1 := hel i hi
        rw [List.getElem?_eq_getElem (by omega)] at h1
        obtain ⟨cs', q1, q2⟩ := Option.bind_eq_some_iff.1 h1
        obtain ⟨_, hl3, hat⟩ := World.cells?_some q1
        rw [h3] at hl3 hat
        obtain ⟨m, hfm, hf⟩ := field_atn Try.underlying27 (by kernel_rfl) hl3 q2
        obtain ⟨v0, y0, e0, t0⟩ := hf 0 _ rfl
        obtain ⟨v1, y1, e1, t1⟩ := hf 1 _ rfl
        obtain ⟨v2, y2, e2, t2⟩ := hf 2 _ rfl
        obtain ⟨c, p0, _, _⟩ := DataW.trod_int Try.underlying3 t0
        obtain ⟨k, p1, _, _⟩ := DataW.trod_int Try.underlying3 t1
        obtain ⟨A, l, cp, rfl, d, hr⟩ := ih m (by omega) t2
        simp only [List.cons.injEq, and_true] at p0 p1
        subst p0 p1
        exact ⟨.mk c k l, A, cp, d, (hat 0 (by omega)).trans e0, (hat 1 (by omega)).trans e1, (hat 2 (by omega)).trans e2, hr⟩
      obtain ⟨f, hf⟩ := choose_lt (α := Vl) (n := len) (p := fun i t => ∃ A c d, w.cell? ((a.add (i * 3)).add 0) = some (.int .i64 t.ctor) ∧ w.cell? ((a.add (i * 3)).add 1) = some (.int .i64 t.n) ∧ w.cell? ((a.add (i * 3)).add 2) = some (.slice A t.kids.length c) ∧ RVs d w w.heap.size A t.kids) hone
      by_cases hz : len = 0
      · subst hz
        exact ⟨some a, [], cap, rfl, 0, RVs.nil⟩
      · have hsp : a.spot = none := by
          obtain ⟨A, c, d, c0, _⟩ := hf 0 (by omega)
          exact spot_of (w := w) (a := a) (by simpa [Addr.add] using c0)
        obtain ⟨b, off, sp⟩ := a
        simp only at hsp
        subst hsp
        obtain ⟨D, hD⟩ := deep_all (P := fun i d => RVl d w w.heap.size b (off + i * 3) (f i)) (fun i d d' hd h => h.more hd) len (fun i hi => by
          obtain ⟨A, c, d, c0, c1, c2, h4, h5⟩ := hf i hi
          simp only [Addr.add_lit, Nat.add_zero] at c0 c1 c2
          exact ⟨d + 1, A, c, by simpa using c0, by simpa using c1, by simpa using c2, h4, h5⟩)
        refine ⟨some ⟨b, off, none⟩, (List.range len).map f, cap, by simp, D, by simp; omega, fun k hk => ?_⟩
        have hk' : k < len := by simpa using hk
        have hbl : b < w.heap.size := by
          obtain ⟨A, c, d, c0, _⟩ := hf k hk'
          simp only [Addr.add_lit, Nat.add_zero] at c0
          exact block_lt_of_cell c0
        exact ⟨b, off, rfl, hbl, by simpa using hD k hk'⟩
/-- An argument that is a value. -/
theorem open_vl {v : Value} {d : DataW H} {ps : List MemPlace} {b0 : Nat} {r : Reach} (hv : Value.okWide Try.prog w r b0 27 v) (h : DataW.Trod enc Try.prog w 0 spare held 27 v d ps) :
    ∃ (t : Vl) (A : Option Addr) (cap d : Nat), v = .agg #[.int .i64 t.ctor, .int .i64 t.n, .slice A t.kids.length cap] ∧ RVs d w w.heap.size A t.kids := by
  obtain ⟨c0, c1, c2, y0, y1, y2, m, rfl, rfl, rfl, hy0, hy1, hy2⟩ := Go.Joins.open_agg3 Try.underlying27 (by kernel_rfl) (by kernel_rfl) hv h
  obtain ⟨a, e0, _, _⟩ := DataW.trod_int Try.underlying3 hy0
  obtain ⟨b, e1, _, _⟩ := DataW.trod_int Try.underlying3 hy1
  obtain ⟨A, l, cp, rfl, d, hr⟩ := vls_of m hy2
  simp only [List.cons.injEq, and_true] at e0 e1
  subst e0 e1
  exact ⟨.mk a b l, A, cp, d, rfl, hr⟩
end
end Go.Proofs.Ytnfjjabeobcenaa
