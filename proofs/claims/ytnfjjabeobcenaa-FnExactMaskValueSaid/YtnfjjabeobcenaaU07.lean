/-
  What an argument of the laws reads as: lists of types, of constructors, of data types. No statement is proved here.
-/
import Derived.Test.YtnfjjabeobcenaaU00
import Derived.Test.YtnfjjabeobcenaaU03
import Derived.Test.YtnfjjabeobcenaaU04
import Derived.Test.YtnfjjabeobcenaaU06
import Derived.Deep.Fields
import Derived.Deep.Slices
import Derived.Lib.SmallJoins
import Derived.Deep.RegionWith
import Derived.Lib.QuietBelow
import Derived.IntWalk
namespace Go.Proofs.Ytnfjjabeobcenaa
set_option maxRecDepth 100000
open Go.RowKit Go.Deep
open Go.ChangeShapes Go.WideShapes
set_option linter.unusedVariables false
section
variable {H : Type} {enc : TypeId × Value → H} {w : World} {spare : Nat → Bool} {held : Bool}
theorem field_at {e : TypeId} {fs : Array Field} {fuel : Nat} {cs : List Value} {x : DataW H × List MemPlace} (he : Try.prog.underlying e = some (.struct fs)) (hone : oneCellFields Try.prog fs = true) (hlen : cs.length = fs.size)
    (h : DataW.trod enc Try.prog w 0 spare held fuel e cs = some x) :
    ∃ m, ∀ (j : Nat) (f : Field), fs[j]? = some f → ∃ v y, cs[j]? = some v ∧ DataW.trod enc Try.prog w 0 spare held m f.type [v] = some y := by
  obtain ⟨ys, m, _, _, _, hyl, hf⟩ := DataW.trod_struct he h
  refine ⟨m, fun j f hj => ?_⟩
  obtain ⟨ho, hk⟩ := hone_of hone j f hj
  have hjl : j < fs.size := (Array.getElem?_eq_some_iff.1 hj).1
  have h1 := hf j f hj
  rw [ho, hk] at h1
  have hd : (cs.drop j).take 1 = [cs[j]'(by omega)] := by
    rw [List.drop_eq_getElem_cons (by omega)]; rfl
  rw [hd, List.getElem?_eq_getElem (by omega)] at h1
  exact ⟨_, _, List.getElem?_eq_getElem (by omega), h1⟩
theorem ty_at {fuel : Nat} {p : Addr} {cs : List Value} {x : DataW H × List MemPlace} (hc : w.cells? 0 p (Try.prog.cellsOf 24) = some cs) (h : DataW.trod enc Try.prog w 0 spare held fuel 24 cs = some x) :
    ∃ t : Ty, w.cell? (p.add 0) = some (.int .i64 t.data) ∧ w.cell? (p.add 1) = some (.int .i64 t.index) := by
  obtain ⟨_, hl, hat⟩ := World.cells?_some hc
  have h2 : Try.prog.cellsOf 24 = 2 := by kernel_rfl
  rw [h2] at hl hat
  obtain ⟨m, hf⟩ := field_at Try.underlying24 (by kernel_rfl) hl h
  obtain ⟨v0, y0, e0, t0⟩ := hf 0 _ rfl
  obtain ⟨v1, y1, e1, t1⟩ := hf 1 _ rfl
  obtain ⟨a, q0, _, _⟩ := DataW.trod_int Try.underlying3 t0
  obtain ⟨b, q1, _, _⟩ := DataW.trod_int Try.underlying3 t1
  simp only [List.cons.injEq, and_true] at q0 q1
  subst q0 q1
  exact ⟨⟨a, b⟩, (hat 0 (by omega)).trans e0, (hat 1 (by omega)).trans e1⟩
theorem spot_of {w : World} {a : Addr} {v : Value} (h : w.cell? a = some v) : a.spot = none := by
  unfold World.cell? at h
  split at h
  · split at h
    · cases h
    · simpa using ‹¬ a.spot.isSome = true›
  · cases h
theorem rTys_of {fuel : Nat} {v : Value} {x : DataW H × List MemPlace} (h : DataW.trod enc Try.prog w 0 spare held fuel 96 [v] = some x) : ∃ A l cap, v = .slice A (List.length l) cap ∧ RTys w w.heap.size A l := by
  rcases open_slice Try.underlying96 h with ⟨hcs, _⟩ | ⟨a, len, cap, m, n', D, Pl, hcs, hb, hl, hm, hmm, hx, hi⟩
  · obtain rfl : v = .slice none 0 0 := by simpa using hcs
    exact ⟨none, [], 0, rfl, by simp, fun k hk => absurd hk (by simp)⟩
  · obtain rfl : v = .slice (some a) len cap := by simpa using hcs
    have hlm : len ≤ m := by rw [hmm]; split <;> omega
    have h2 : Try.prog.cellsOf 24 = 2 := by kernel_rfl
    obtain ⟨f, hf⟩ := choose_lt (α := Ty) (n := len) (p := fun i t => w.cell? ((a.add (i * 2)).add 0) = some (.int .i64 t.data) ∧ w.cell? ((a.add (i * 2)).add 1) = some (.int .i64 t.index)) (fun i him => by
      obtain ⟨cs', q1, q2⟩ := hi i (by omega)
      have := ty_at q1 q2
      rw [h2] at this
      exact this)
    refine ⟨some a, (List.range len).map f, cap, by simp, by simp; omega, fun k hk => ?_⟩
    have hk' : k < len := by simpa using hk
    have hsp : a.spot = none := spot_of (w := w) (a := a) (by simpa [Addr.add] using (hf 0 (by omega)).1)
    obtain ⟨b, off, sp⟩ := a
    simp only at hsp
    subst hsp
    obtain ⟨c0, c1⟩ := hf k hk'
    simp only [Addr.add_lit, Nat.add_zero] at c0 c1
    refine ⟨b, off, rfl, block_lt_of_cell c0, ?_, ?_⟩
    · simpa using c0
    · simpa using c1
theorem ct_at {fuel : Nat} {p : Addr} {cs : List Value} {x : DataW H × List MemPlace} (hc : w.cells? 0 p (Try.prog.cellsOf 98) = some cs) (h : DataW.trod enc Try.prog w 0 spare held fuel 98 cs = some x) :
    ∃ c : Ct, ∃ A cap, w.cell? (p.add 0) = some (.string c.name) ∧ w.cell? (p.add 1) = some (.slice A c.args.length cap) ∧ w.cell? (p.add 2) = some (.int .i64 c.index) ∧ c.name.size ≤ maxLen ∧ RTys w w.heap.size A c.args := by
  obtain ⟨_, hl, hat⟩ := World.cells?_some hc
  have h2 : Try.prog.cellsOf 98 = 3 := by kernel_rfl
  rw [h2] at hl hat
  obtain ⟨m, hf⟩ := field_at Try.underlying98 (by kernel_rfl) hl h
  obtain ⟨v0, y0, e0, t0⟩ := hf 0 _ rfl
  obtain ⟨v1, y1, e1, t1⟩ := hf 1 _ rfl
  obtain ⟨v2, y2, e2, t2⟩ := hf 2 _ rfl
  obtain ⟨s, q0, _, hs⟩ := DataW.trod_string Try.underlying9 t0
  obtain ⟨b, q2, _, _⟩ := DataW.trod_int Try.underlying3 t2
  obtain ⟨A, l, cap, rfl, hr⟩ := rTys_of t1
  simp only [List.cons.injEq, and_true] at q0 q2
  subst q0 q2
  exact ⟨⟨s, l, b⟩, A, cap, (hat 0 (by omega)).trans e0, (hat 1 (by omega)).trans e1, (hat 2 (by omega)).trans e2, hs, hr⟩
theorem rCts_of {fuel : Nat} {v : Value} {x : DataW H × List MemPlace} (h : DataW.trod enc Try.prog w 0 spare held fuel 54 [v] = some x) : ∃ A l cap, v = .slice A (List.length l) cap ∧ RCts w w.heap.size A l := by
  rcases open_slice Try.underlying54 h with ⟨hcs, _⟩ | ⟨a, len, cap, m, n', D, Pl, hcs, hb, hl, hm, hmm, hx, hi⟩
  · obtain rfl : v = .slice none 0 0 := by simpa using hcs
    exact ⟨none, [], 0, rfl, by simp, fun k hk => absurd hk (by simp)⟩
  · obtain rfl : v = .slice (some a) len cap := by simpa using hcs
    have hlm : len ≤ m := by rw [hmm]; split <;> omega
    have h2 : Try.prog.cellsOf 98 = 3 := by kernel_rfl
    obtain ⟨f, hf⟩ := choose_lt (α := Ct) (n := len) (p := fun i c => ∃ A cap, w.cell? ((a.add (i * 3)).add 0) = some (.string c.name) ∧ w.cell? ((a.add (i * 3)).add 1) = some (.slice A c.args.length cap) ∧ w.cell? ((a.add (i * 3)).add 2) = some (.int .i64 c.index) ∧ c.name.size ≤ maxLen ∧ RTys w w.heap.size A c.args) (fun i him => by
      obtain ⟨cs', q1, q2⟩ := hi i (by omega)
      have := ct_at q1 q2
      rw [h2] at this
      exact this)
    refine ⟨some a, (List.range len).map f, cap, by simp, by simp; omega, fun k hk => ?_⟩
    have hk' : k < len := by simpa using hk
    have hsp : a.spot = none := by
      obtain ⟨A, cap', c0, _⟩ := hf 0 (by omega)
      exact spot_of (w := w) (a := a) (by simpa [Addr.add] using c0)
    obtain ⟨b, off, sp⟩ := a
    simp only at hsp
    subst hsp
    obtain ⟨A, cap', c0, c1, c2, hs, hr⟩ := hf k hk'
    simp only [Addr.add_lit, Nat.add_zero] at c0 c1 c2
    refine ⟨b, off, rfl, block_lt_of_cell c0, A, cap', ?_, ?_, ?_, ?_, ?_⟩
    · simpa using c0
    · simpa using c1
    · simpa using c2
    · simpa using hs
    · simpa using hr
theorem da_at {fuel : Nat} {p : Addr} {cs : List Value} {x : DataW H × List MemPlace} (hc : w.cells? 0 p (Try.prog.cellsOf 56) = some cs) (h : DataW.trod enc Try.prog w 0 spare held fuel 56 cs = some x) :
    ∃ d : Da, ∃ A cap, w.cell? (p.add 0) = some (.string d.name) ∧ w.cell? (p.add 1) = some (.slice A d.ctors.length cap) ∧ d.name.size ≤ maxLen ∧ RCts w w.heap.size A d.ctors := by
  obtain ⟨_, hl, hat⟩ := World.cells?_some hc
  have h2 : Try.prog.cellsOf 56 = 2 := by kernel_rfl
  rw [h2] at hl hat
  obtain ⟨m, hf⟩ := field_at Try.underlying56 (by kernel_rfl) hl h
  obtain ⟨v0, y0, e0, t0⟩ := hf 0 _ rfl
  obtain ⟨v1, y1, e1, t1⟩ := hf 1 _ rfl
  obtain ⟨s, q0, _, hs⟩ := DataW.trod_string Try.underlying9 t0
  obtain ⟨A, l, cap, rfl, hr⟩ := rCts_of t1
  simp only [List.cons.injEq, and_true] at q0
  subst q0
  exact ⟨⟨s, l⟩, A, cap, (hat 0 (by omega)).trans e0, (hat 1 (by omega)).trans e1, hs, hr⟩
theorem rDas_of {fuel : Nat} {v : Value} {x : DataW H × List MemPlace} (h : DataW.trod enc Try.prog w 0 spare held fuel 22 [v] = some x) : ∃ A l cap, v = .slice A (List.length l) cap ∧ RDas w w.heap.size A l := by
  rcases open_slice Try.underlying22 h with ⟨hcs, _⟩ | ⟨a, len, cap, m, n', D, Pl, hcs, hb, hl, hm, hmm, hx, hi⟩
  · obtain rfl : v = .slice none 0 0 := by simpa using hcs
    exact ⟨none, [], 0, rfl, by simp, fun k hk => absurd hk (by simp)⟩
  · obtain rfl : v = .slice (some a) len cap := by simpa using hcs
    have hlm : len ≤ m := by rw [hmm]; split <;> omega
    have h2 : Try.prog.cellsOf 56 = 2 := by kernel_rfl
    obtain ⟨f, hf⟩ := choose_lt (α := Da) (n := len) (p := fun i d => ∃ A cap, w.cell? ((a.add (i * 2)).add 0) = some (.string d.name) ∧ w.cell? ((a.add (i * 2)).add 1) = some (.slice A d.ctors.length cap) ∧ d.name.size ≤ maxLen ∧ RCts w w.heap.size A d.ctors) (fun i him => by
      obtain ⟨cs', q1, q2⟩ := hi i (by omega)
      have := da_at q1 q2
      rw [h2] at this
      exact this)
    refine ⟨some a, (List.range len).map f, cap, by simp, by simp; omega, fun k hk => ?_⟩
    have hk' : k < len := by simpa using hk
    have hsp : a.spot = none := by
      obtain ⟨A, cap', c0, _⟩ := hf 0 (by omega)
      exact spot_of (w := w) (a := a) (by simpa [Addr.add] using c0)
    obtain ⟨b, off, sp⟩ := a
    simp only at hsp
    subst hsp
    obtain ⟨A, cap', c0, c1, hs, hr⟩ := hf k hk'
    simp only [Addr.add_lit, Nat.add_zero] at c0 c1
    refine ⟨b, off, rfl, block_lt_of_cell c0, A, cap', ?_, ?_, ?_, ?_⟩
    · simpa using c0
    · simpa using c1
    · simpa using hs
    · simpa using hr
/-- An argument that is a list of data types. -/
theorem open_das {v : Value} {d : DataW H} {ps : List MemPlace} {b0 : Nat} {r : Reach} (hv : Value.okWide Try.prog w r b0 22 v) (h : DataW.Trod enc Try.prog w 0 spare held 22 v d ps) : ∃ A l cap, v = .slice A (List.length l) cap ∧ RDas w w.heap.size A l := by
  obtain ⟨a0, len, cap, rfl⟩ := okWide_slice Try.underlying22 hv
  obtain ⟨fuel, hf⟩ := h
  exact rDas_of hf
end
end Go.Proofs.Ytnfjjabeobcenaa
/-
  The function FnExactWorldValid returns true for every list of data types, and the list reads behind the call as it read before. No condition.
-/
namespace Go.Proofs.Ytnfjjabeobcenaa
open Go.RowKit Go.Deep
open Go.ChangeShapes Go.WideShapes Go.ChangeAt
set_option maxRecDepth 100000
set_option linter.unusedVariables false
theorem RDas.at_ {w W : World} {A : Option Addr} {l : List Da} (h : RDas w w.heap.size A l) (hb : Below w.heap.size w W) : RDas W W.heap.size A l := h.keep (fun p hp => hb.cell hp) hb.size
theorem wvOwn : ownKnob Try.prog.godebug = none := by kernel_rfl
theorem wvLaid : laidOutB Try.prog = true := by kernel_rfl
end Go.Proofs.Ytnfjjabeobcenaa
/-
  The function FnExactTypeValid returns true for every list of data types and every type, and both read behind the call as they read before. No condition.
-/
namespace Go.Proofs.Ytnfjjabeobcenaa
open Go.RowKit Go.Deep
open Go.ChangeShapes Go.WideShapes Go.ChangeAt
set_option maxRecDepth 100000
set_option linter.unusedVariables false
/-- A type in a block of its own. -/
def Bx (w : World) (b : Nat) (t : Ty) : Prop := w.cell? ⟨b, 0, none⟩ = some (.int .i64 t.data) ∧ w.cell? ⟨b, 1, none⟩ = some (.int .i64 t.index)
theorem Bx.at_ {w w' : World} {b : Nat} {t : Ty} (h : Bx w b t) (hb : Below w.heap.size w w') : Bx w' b t :=
  ⟨(hb.cell (p := ⟨b, 0, none⟩) (Go.block_lt_of_cell h.1)).trans h.1, (hb.cell (p := ⟨b, 1, none⟩) (Go.block_lt_of_cell h.2)).trans h.2⟩
theorem Bx.new (w : World) (t : Ty) (T : TypeId) : Bx (w.alloc (.cells #[.int .i64 t.data, .int .i64 t.index] T)) w.heap.size t := ⟨by simp [go_sem], by simp [go_sem]⟩
/-- An argument that is a type. -/
theorem open_ty {H : Type} {enc : TypeId × Value → H} {w : World} {spare : Nat → Bool} {held : Bool} {v : Value} {d : DataW H} {ps : List MemPlace} {b0 : Nat} {r : Reach} (hv : Value.okWide Try.prog w r b0 24 v) (h : DataW.Trod enc Try.prog w 0 spare held 24 v d ps) :
    ∃ t : Ty, v = .agg #[.int .i64 t.data, .int .i64 t.index] := by
  obtain ⟨c0, c1, y0, y1, m, rfl, rfl, rfl, hy0, hy1⟩ := Go.Joins.open_agg2 Try.underlying24 (by kernel_rfl) (by kernel_rfl) hv h
  obtain ⟨a, e0, _, _⟩ := DataW.trod_int Try.underlying3 hy0
  obtain ⟨b, e1, _, _⟩ := DataW.trod_int Try.underlying3 hy1
  simp only [List.cons.injEq, and_true] at e0 e1
  subst e0 e1
  exact ⟨⟨a, b⟩, rfl⟩
end Go.Proofs.Ytnfjjabeobcenaa
/-
  When a tree is a value of a type: the document's function. No statement is proved here.
-/
namespace Go.Proofs.Ytnfjjabeobcenaa
open Go.RowKit Go.Sort Go.Deep
set_option maxRecDepth 100000
set_option linter.unusedVariables false
/-- A value in a block of its own. -/
def VBx (w : World) (b : Nat) (c n : Int) (s : Value) : Prop := w.cell? ⟨b, 0, none⟩ = some (.int .i64 c) ∧ w.cell? ⟨b, 1, none⟩ = some (.int .i64 n) ∧ w.cell? ⟨b, 2, none⟩ = some s
theorem VBx.at_ {w w' : World} {b : Nat} {c n : Int} {s : Value} (h : VBx w b c n s) (hb : Below w.heap.size w w') : VBx w' b c n s :=
  ⟨(hb.cell (p := ⟨b, 0, none⟩) (Go.block_lt_of_cell h.1)).trans h.1, (hb.cell (p := ⟨b, 1, none⟩) (Go.block_lt_of_cell h.2.1)).trans h.2.1, (hb.cell (p := ⟨b, 2, none⟩) (Go.block_lt_of_cell h.2.2)).trans h.2.2⟩
theorem below_aft {w wr w' : World} {B : Nat} (h : Below B w wr) (hb : Below wr.heap.size wr w') (hB : B ≤ wr.heap.size) : Below B w w' := h.trans (hb.mono hB)
def FitC (l : List Da) (d : Nat) (z : Int) : Prop := ∀ (A D : Option Addr) (cap ep e : Nat) (t : Ty) (v : Vl) (w : World), RDas w w.heap.size A l → TyOK l t → RVs e w w.heap.size D v.kids →
  Calls Try.prog 56 #[.slice A l.length cap, .agg #[.int .i64 t.data, .int .i64 t.index], .agg #[.int .i64 v.ctor, .int .i64 v.n, .slice D v.kids.length ep], .int .i64 z] w fun e w' => e = .returned (.bool (fitV l d t v)) ∧ Below w.heap.size w w'
def FitS (l : List Da) (d : Nat) : Prop := FitC l d (d : Nat)
theorem FitC.known {l : List Da} {d : Nat} {z : Int} (h : FitC l d z) (A D : Option Addr) (cap ep e : Nat) (t : Ty) (v : Vl) (b : Bool) (w : World) (hf : fitV l d t v = b) (hr : RDas w w.heap.size A l) (ht : TyOK l t) (hv : RVs e w w.heap.size D v.kids) :
    Calls Try.prog 56 #[.slice A l.length cap, .agg #[.int .i64 t.data, .int .i64 t.index], .agg #[.int .i64 v.ctor, .int .i64 v.n, .slice D v.kids.length ep], .int .i64 z] w fun e w' => e = .returned (.bool b) ∧ Below w.heap.size w w' := by
  rw [← hf]; exact h A D cap ep e t v w hr ht hv
theorem below_box2 {w w0 : World} {o o' : Obj} (h : (w.alloc o).alloc o' = w0) : Below w.heap.size w w0 := by
  subst h; exact ((Below.refl _ _).alloc (Nat.le_refl _) _).alloc (by simp) _
theorem fitS_zero (l : List Da) : FitS l 0 := by
  intro A D cap ep e t v w hr ht hv
  have HB : Hid (∀ o o' : Obj, Below w.heap.size w ((w.alloc o).alloc o')) := fun o o' => ((Below.refl _ _).alloc (Nat.le_refl _) _).alloc (by simp) _
  clear hr ht hv
  go_enter Try.func56, Try.ntmps56
  go_wp2_with fail
  go_ret
  exact ⟨rfl, HB.out _ _⟩
theorem fitS_int (l : List Da) (d : Nat) (hd : d < 100) (A D : Option Addr) (cap ep : Nat) (t : Ty) (v : Vl) (w : World) (h1 : t.data = -1) (hl : v.kids.length ≤ maxLen) :
    Calls Try.prog 56 #[.slice A l.length cap, .agg #[.int .i64 t.data, .int .i64 t.index], .agg #[.int .i64 v.ctor, .int .i64 v.n, .slice D v.kids.length ep], .int .i64 ((d + 1 : Nat) : Int)] w fun e w' => e = .returned (.bool (fitV l (d + 1) t v)) ∧ Below w.heap.size w w' := by
  have HB : Hid (∀ o o' : Obj, Below w.heap.size w ((w.alloc o).alloc o')) := fun o o' => ((Below.refl _ _).alloc (Nat.le_refl _) _).alloc (by simp) _
  have HF := Lib.hid (fit_int (l := l) (d := d) (v := v) h1)
  have q1 := ieq_t h1
  generalize hz : ((d + 1 : Nat) : Int) = z
  have hz0 : 1 ≤ z := by omega
  have hz1 : decide (z < 1) = false := by simpa using hz0
  clear h1 hz
  unfold maxLen at hl
  by_cases a1 : v.ctor = -1
  · have p1 := ieq_t a1
    by_cases a2 : 0 ≤ v.n
    · by_cases a3 : v.n ≤ 9
      · by_cases a4 : v.kids.length = 0
        · have p4 := ieq_t (show (v.kids.length : Int) = 0 by omega)
          rw [decide_eq_true a1, decide_eq_true a2, decide_eq_true a3, decide_eq_true a4] at HF
          clear a1 a4
          go_enter Try.func56, Try.ntmps56
          go_wp2_with fail
          go_ret
          exact ⟨ret_bool (by rw [HF.out]; rfl), HB.out _ _⟩
        · have p4 := ieq_f (show ¬ (v.kids.length : Int) = 0 by omega)
          rw [decide_eq_false a4] at HF
          clear a1 a4
          go_enter Try.func56, Try.ntmps56
          go_wp2_with fail
          go_ret
          exact ⟨ret_bool (by rw [HF.out]; simp), HB.out _ _⟩
      · have p3 : decide (v.n ≤ 9) = false := decide_eq_false a3
        rw [decide_eq_false a3] at HF
        clear a1
        go_enter Try.func56, Try.ntmps56
        go_wp2_with fail
        go_ret
        exact ⟨ret_bool (by rw [HF.out]; simp), HB.out _ _⟩
    · have p2 : decide (0 ≤ v.n) = false := decide_eq_false a2
      rw [decide_eq_false a2] at HF
      clear a1
      go_enter Try.func56, Try.ntmps56
      go_wp2_with fail
      go_ret
      exact ⟨ret_bool (by rw [HF.out]; simp), HB.out _ _⟩
  · have p1 := ieq_f a1
    rw [decide_eq_false a1] at HF
    clear a1
    go_enter Try.func56, Try.ntmps56
    go_wp2_with fail
    go_ret
    exact ⟨ret_bool (by rw [HF.out]; simp), HB.out _ _⟩
set_option maxHeartbeats 3000000 in
theorem fitS_step (l : List Da) (d : Nat) (hd : d < 100) (ih : FitS l d) : FitS l (d + 1) := by
  intro A D cap ep e t v w hr ht hv
  have hl := hv.1
  by_cases h1 : t.data = -1
  · exact fitS_int l d hd A D cap ep t v w h1 hl
  have q1 := ieq_f h1
  have H1 := Lib.hid h1
  have Hr := Lib.hid hr
  have HT := Lib.hid ht
  have HV := Lib.hid hv
  have IH := Lib.hid ih
  unfold maxLen at hl
  generalize hz : ((d + 1 : Nat) : Int) = z
  have hz0 : 1 ≤ z := by omega
  have hz2 : z ≤ 101 := by omega
  have hz1 : decide (z < 1) = false := by simpa using hz0
  have IHz : Hid (FitC l d (z - 1)) := by unfold Hid; rw [show z - 1 = (d : Int) by omega]; exact ih
  clear h1 hr ht hv ih hz IH
  generalize hw0 : (w.alloc (.cells #[.int .i64 t.data, .int .i64 t.index] 33)).alloc (.cells #[.int .i64 v.ctor, .int .i64 v.n, .slice D v.kids.length ep] 37) = w0
  have hb0 := below_box2 hw0
  have HXT : Hid (Bx w0 w.heap.size t) := by rw [← hw0]; exact ⟨by simp [go_sem], by simp [go_sem]⟩
  have HXV : Hid (VBx w0 (w.heap.size + 1) v.ctor v.n (.slice D v.kids.length ep)) := by rw [← hw0]; exact ⟨by simp [go_sem], by simp [go_sem], by simp [go_sem]⟩
  have HW := Lib.hid hw0
  clear hw0
  obtain ⟨x0, x1⟩ := HXT.out
  obtain ⟨y0, y1, y2⟩ := HXV.out
  by_cases hn : v.n = 0
  · have qn : (v.n != 0) = false := by simp [hn]
    by_cases hc : v.ctor ∈ ctR l t
    · have HC := Lib.hid hc
      have HD := Lib.hid (dec_t hc)
      by_cases hk : v.kids.length = (agR l t v.ctor).length
      · have HF := Lib.hid (fit_go (d := d) H1.out hn hc hk)
        have hm3 := agR_len l t v.ctor
        have HOK := Lib.hid (agR_ok hc)
        have HK := Lib.hid (fun (i : Nat) (h : i < (agR l t v.ctor).length) (h' : i < v.kids.length) => kidV_at (l := l) (d := d) h h')
        have HAG := Lib.hid (l1Args_all A l cap t v.ctor · · hc)
        generalize hats : agR l t v.ctor = ats at HF hm3 HOK HK HAG hk
        have hkI : ((v.kids.length : Int) != (ats.length : Int)) = false := by simp [hk]
        have HKL := Lib.hid hk
        clear hn hc hats hk
        go_enter Try.func56, Try.ntmps56
        go_wp2_with fail
        rw [HW.out]
        go_region_with (first | (go_at_call 75; refine (l1Ctors_all _ l _ t _ (by exact Hr.out.at_ hb0.drew) HT.out).mono ?_; rintro e w1 ⟨v1, rfl, ho, hb1'⟩; have hb1 : Below w0.heap.size w0 w1 := ⟨hb1'.os, hb1'.tape, hb1'.output, hb1'.size, hb1'.block⟩; obtain ⟨A1, c1, rfl, hri⟩ := ho.form (by have := ctR_len l t; unfold maxLen; omega); have HRI := Lib.hid hri; have HXV1 := Lib.hid (HXV.out.at_ hb1); obtain ⟨z0, z1, z2⟩ := HXV1.out; clear hri ho hb1') | (go_at_call 74; refine (has_any _ _ _ _ _ HRI.out).mono ?_; rw [HD.out]; rintro e w2 ⟨rfl, rfl⟩))
        all_goals
          have HXT1 := Lib.hid (HXT.out.at_ hb1)
          obtain ⟨u0, u1⟩ := HXT1.out
          have hb1w := below_aft hb0 hb1 hb0.size
          clear x0 x1 y0 y1 y2
          go_wp2_with (go_at_call 76; refine (HAG.out _ (by exact Hr.out.at_ hb1w)).mono ?_; rintro e w3 ⟨v3, rfl, ho3, hb3'⟩; obtain ⟨A3, c3, rfl, hr3⟩ := ho3.form (by unfold maxLen; omega); have HR3 := Lib.hid hr3; have HXV3 := Lib.hid (HXV1.out.at_ hb3'); obtain ⟨z0', z1', z2'⟩ := HXV3.out; have hb3 := below_aft hb1w hb3' hb1w.size; clear hr3 ho3 hb3')
          go_loopw [10] (fun i wr => ∃ k : Nat, k ≤ ats.length ∧ i = .int .i64 k ∧ Hid (upto (kidV l d ats v.kids) k = true) ∧ Below w3.heap.size w3 wr) (fun i _ => ats.length - (intOf i).toNat)
          case atStart => exact ⟨0, by omega, rfl, rfl, Below.refl _ _⟩
          case round =>
            obtain ⟨k, hk, rfl, HU, hb⟩ := hrel
            clear u0 u1 z0 z1 z2 z0' z1' z2'
            have hbw : Below w.heap.size w wr := below_aft hb3 hb hb3.size
            have HXVr := Lib.hid (HXV3.out.at_ hb)
            obtain ⟨f0, f1, f2⟩ := HXVr.out
            by_cases hlt : k < ats.length
            · have hkl : k < v.kids.length := by rw [HKL.out]; exact hlt
              obtain ⟨g, o, rfl, hgB, t0, t1⟩ := (HR3.out.below hb (Nat.le_refl _)).2 k hlt
              obtain ⟨b, off, rfl, hbB, hvk⟩ := (HV.out.below hbw (Nat.le_refl _)).2 k hkl
              obtain ⟨e', he', D', cp, c0, c1, c2, hm⟩ := hvk.parts
              have d0 := cell_regrown t0
              have d1 := cell_regrown t1
              have d2 := cell_regrown c0
              have d3 := cell_regrown c1
              have d4 := cell_regrown c2
              have d5 := cell_regrown f2
              have Hm : Hid (RVs e' wr wr.heap.size D' v.kids[k].kids) := hm.keep (fun _ _ => rfl) hbw.size
              have Hrr : Hid (RDas wr wr.heap.size A l) := Hr.out.at_ hbw
              have HTk := Lib.hid (HOK.out _ (List.getElem_mem hlt))
              have HKk := Lib.hid (HK.out k hlt hkl)
              have hi : (k : Int) < (ats.length : Int) := by omega
              have hi2 : (k : Int) < (v.kids.length : Int) := by omega
              have hzs : IntKind.i64.wrap (z - 1) = z - 1 := IntWalk.i64_in _ (by omega)
              clear c0 c1 c2 t0 t1 f0 f1 f2 hm hvk he'
              by_cases hf : fitV l d ats[k] v.kids[k] = true
              · have HFk := Lib.hid hf
                have HUk : Hid (upto (kidV l d ats v.kids) (k + 1) = true) := upto_t HU.out (by rw [HKk.out]; exact hf)
                clear hf
                go_wp2_with fail
                refine wp_region_quiet_below (by kernel_rfl) (by kernel_rfl) ?_
                repeat (quiet_step (exact Calls.regrown_of (IHz.out.known _ _ _ _ _ _ _ _ _ HFk.out (Hrr.out.at_ (below_regrown wr _ _)) HTk.out (Hm.out.at_ (below_regrown wr _ _)))))
                refine wpQuiet_nil ?_
                intro _ hw'
                obtain ⟨⟨dq, osq⟩, hw''⟩ := hw'
                subst hw''
                have hb2 := hb.trans ((below_regrown wr dq osq).mono hb.size)
                clear d0 d1 d2 d3 d4 d5
                go_wp2_with fail
                go_roundw
                case rel => exact ⟨k + 1, by omega, by go_num, HUk, hb2⟩
                case measure => simp [intOf]; omega
              · have hf' : fitV l d ats[k] v.kids[k] = false := by simpa using hf
                have HFk := Lib.hid hf'
                have HUk := Lib.hid (upto_f (f := kidV l d ats v.kids) hlt (by rw [HKk.out]; exact hf'))
                clear hf hf'
                go_wp2_with fail
                refine wp_region_quiet_below (by kernel_rfl) (by kernel_rfl) ?_
                repeat (quiet_step (exact Calls.regrown_of (IHz.out.known _ _ _ _ _ _ _ _ _ HFk.out (Hrr.out.at_ (below_regrown wr _ _)) HTk.out (Hm.out.at_ (below_regrown wr _ _)))))
                refine wpQuiet_nil ?_
                intro _ hw'
                obtain ⟨⟨dq, osq⟩, hw''⟩ := hw'
                subst hw''
                have hb2 := hbw.trans ((below_regrown wr dq osq).mono hbw.size)
                clear d0 d1 d2 d3 d4 d5
                go_wp2_with fail
                go_ret
                exact ⟨ret_bool (by rw [HF.out, HUk.out]), hb2⟩
            · have he : k = ats.length := by omega
              have HE : Hid (fitV l (d + 1) t v = true) := by unfold Hid; rw [HF.out, ← he]; exact HU.out
              clear he
              go_wp2_with fail
              go_ret
              exact ⟨ret_bool HE.out.symm, hbw⟩
      · have HF := Lib.hid (fit_len (d := d) H1.out hk)
        have hm3 := agR_len l t v.ctor
        have HAG := Lib.hid (l1Args_all A l cap t v.ctor · · hc)
        generalize hats : agR l t v.ctor = ats at HF hm3 HAG hk
        have hkI : ((v.kids.length : Int) != (ats.length : Int)) = true := by simp; omega
        clear hn hc hats hk
        go_enter Try.func56, Try.ntmps56
        go_wp2_with fail
        rw [HW.out]
        go_region_with (first | (go_at_call 75; refine (l1Ctors_all _ l _ t _ (by exact Hr.out.at_ hb0.drew) HT.out).mono ?_; rintro e w1 ⟨v1, rfl, ho, hb1'⟩; have hb1 : Below w0.heap.size w0 w1 := ⟨hb1'.os, hb1'.tape, hb1'.output, hb1'.size, hb1'.block⟩; obtain ⟨A1, c1, rfl, hri⟩ := ho.form (by have := ctR_len l t; unfold maxLen; omega); have HRI := Lib.hid hri; have HXV1 := Lib.hid (HXV.out.at_ hb1); obtain ⟨z0, z1, z2⟩ := HXV1.out; clear hri ho hb1') | (go_at_call 74; refine (has_any _ _ _ _ _ HRI.out).mono ?_; rw [HD.out]; rintro e w2 ⟨rfl, rfl⟩))
        all_goals
          have HXT1 := Lib.hid (HXT.out.at_ hb1)
          obtain ⟨u0, u1⟩ := HXT1.out
          have hb1w := below_aft hb0 hb1 hb0.size
          clear x0 x1 y0 y1 y2
          go_wp2_with (go_at_call 76; refine (HAG.out _ (by exact Hr.out.at_ hb1w)).mono ?_; rintro e w3 ⟨v3, rfl, ho3, hb3'⟩; obtain ⟨A3, c3, rfl, hr3⟩ := ho3.form (by unfold maxLen; omega); have HXV3 := Lib.hid (HXV1.out.at_ hb3'); obtain ⟨z0', z1', z2'⟩ := HXV3.out; have hb3 := below_aft hb1w hb3' hb1w.size; clear hr3 ho3 hb3')
          go_ret
          exact ⟨ret_bool HF.out.symm, hb3⟩
    · have HF := Lib.hid (fit_ctor (d := d) H1.out hc)
      have HD := Lib.hid (dec_f hc)
      clear hn hc
      go_enter Try.func56, Try.ntmps56
      go_wp2_with fail
      rw [HW.out]
      go_region_with (first | (go_at_call 75; refine (l1Ctors_all _ l _ t _ (by exact Hr.out.at_ hb0.drew) HT.out).mono ?_; rintro e w1 ⟨v1, rfl, ho, hb1'⟩; have hb1 : Below w0.heap.size w0 w1 := ⟨hb1'.os, hb1'.tape, hb1'.output, hb1'.size, hb1'.block⟩; obtain ⟨A1, c1, rfl, hri⟩ := ho.form (by have := ctR_len l t; unfold maxLen; omega); have HRI := Lib.hid hri; have HXV1 := Lib.hid (HXV.out.at_ hb1); obtain ⟨z0, z1, z2⟩ := HXV1.out; clear hri ho hb1') | (go_at_call 74; refine (has_any _ _ _ _ _ HRI.out).mono ?_; rw [HD.out]; rintro e w2 ⟨rfl, rfl⟩))
      all_goals
        go_wp2_with fail
        go_ret
        exact ⟨ret_bool HF.out.symm, below_aft hb0 hb1 hb0.size⟩
  · have qn : (v.n != 0) = true := by simpa using hn
    have HF := Lib.hid (fit_n (l := l) (d := d) H1.out hn)
    clear hn
    go_enter Try.func56, Try.ntmps56
    go_wp2_with fail
    rw [HW.out]
    go_quiet (fail)
    go_wp2_with fail
    go_ret
    exact ⟨ret_bool HF.out.symm, below_drawn hb0 _⟩
end Go.Proofs.Ytnfjjabeobcenaa
/-
  How many nodes a value has, up to a number, and when it is one within the limits: the document's functions. No statement is proved here.
-/
namespace Go.Proofs.Ytnfjjabeobcenaa
open Go.RowKit Go.Sort Go.Deep
set_option maxRecDepth 100000
set_option linter.unusedVariables false
/-- A count up to a number. -/
def CntOK (N : Nat) (most r : Int) : Prop := ((N : Int) ≤ most → r = N) ∧ (most < N → most < r) ∧ r ≤ N ∧ 1 ≤ r
def CntP (N : Nat) (most : Int) (w : World) (e : Ending) (w' : World) : Prop := ∃ r : Int, e = .returned (.int .i64 r) ∧ CntOK N most r ∧ Below w.heap.size w w'
theorem CntOK.one {most : Int} (h : 0 ≤ most) : CntOK 1 most 1 := ⟨fun _ => rfl, fun h' => by omega, by omega, by omega⟩
theorem CntOK.step {N M : Nat} {most q r : Int} (h : CntOK N most q) (hq : q ≤ most) (hr : CntOK M (most - q) r) : CntOK (N + M) most (q + r) := by
  obtain ⟨a, b, c, d⟩ := h
  obtain ⟨a', b', c', d'⟩ := hr
  have hN : q = N := by
    by_cases e : (N : Int) ≤ most
    · exact a e
    · have := b (by omega); omega
  refine ⟨fun h => ?_, fun h => ?_, ?_, ?_⟩
  · have := a' (by push_cast at h; omega); push_cast; omega
  · have := b' (by push_cast at h; omega); omega
  · push_cast; omega
  · omega
theorem CntOK.over {N M : Nat} {most q : Int} (h : CntOK N most q) (hq : most < q) (hM : N ≤ M) : CntOK M most q := by
  obtain ⟨a, b, c, d⟩ := h
  exact ⟨fun h => by omega, fun _ => hq, by omega, d⟩
/-- The nodes of a value of which the first k parts have been counted. -/
def upK (ks : List Vl) (k : Nat) : Nat := 1 + k + ((ks.take k).map wV).sum
theorem upK_succ (ks : List Vl) (k : Nat) (h : k < ks.length) : upK ks (k + 1) = upK ks k + (1 + wV ks[k]) := by
  unfold upK; rw [sum_take_succ wV ks k h]; omega
theorem upK_all (v : Vl) : upK v.kids v.kids.length = 1 + wV v := by
  unfold upK; rw [List.take_length, wV_kids, wVs_sum]; omega
theorem upK_le (v : Vl) (k : Nat) (h : k ≤ v.kids.length) : upK v.kids k ≤ 1 + wV v := by
  have := sum_take_le wV v.kids k
  unfold upK; rw [wV_kids, wVs_sum]; omega
theorem wV_kid (v : Vl) (k : Nat) (h : k < v.kids.length) : wV v.kids[k] ≤ wV v := by
  have h1 := upK_le v (k + 1) h
  rw [upK_succ _ _ h] at h1
  omega
def CntS (d : Nat) : Prop := ∀ (D : Option Addr) (ep : Nat) (v : Vl) (most : Int) (w : World), RVs d w w.heap.size D v.kids → wV v ≤ 16000000 → 0 ≤ most → most ≤ 100 →
  Calls Try.prog 57 #[.agg #[.int .i64 v.ctor, .int .i64 v.n, .slice D v.kids.length ep], .int .i64 most] w (CntP (1 + wV v) most w)
set_option maxHeartbeats 800000 in
theorem cntS_of (d : Nat) (ih : ∀ d', d = d' + 1 → CntS d') : CntS d := by
  intro D ep v most w hv hn h0 h1
  have hl := hv.1
  unfold maxLen at hl
  have HV := Lib.hid hv
  have IH := Lib.hid ih
  clear hv ih
  generalize hw0 : w.alloc (.cells #[.int .i64 v.ctor, .int .i64 v.n, .slice D v.kids.length ep] 37) = w0
  have hb0 : Below w.heap.size w w0 := by rw [← hw0]; exact (Below.refl _ _).alloc (Nat.le_refl _) _
  have HXV : Hid (VBx w0 w.heap.size v.ctor v.n (.slice D v.kids.length ep)) := by rw [← hw0]; exact ⟨by simp [go_sem], by simp [go_sem], by simp [go_sem]⟩
  have HW := Lib.hid hw0
  clear hw0
  go_enter Try.func57, Try.ntmps57
  go_wp2_with fail
  rw [HW.out]
  clear HW
  go_loopw [5, 6] (fun n i wr => ∃ k : Nat, k ≤ v.kids.length ∧ i = .int .i64 k ∧ ∃ q : Int, 1 ≤ q ∧ q ≤ 32000000 ∧ n = .int .i64 q ∧ Hid (CntOK (upK v.kids k) most q) ∧ Below w0.heap.size w0 wr) (fun _ i _ => v.kids.length - (intOf i).toNat)
  case atStart => exact ⟨0, by omega, rfl, 1, by omega, by omega, rfl, CntOK.one h0, Below.refl _ _⟩
  case round =>
    obtain ⟨k, hk, rfl, q, hq1, hq2, rfl, HQ, hb⟩ := hrel
    have hbw : Below w.heap.size w wr := below_aft hb0 hb hb0.size
    obtain ⟨f0, f1, f2⟩ := HXV.out.at_ hb
    have HLE := Lib.hid (upK_le v k hk)
    by_cases hlt : k < v.kids.length
    · have hi : (k : Int) < (v.kids.length : Int) := by omega
      by_cases hq : q ≤ most
      · obtain ⟨b, off, rfl, hbB, hvk⟩ := (HV.out.below hbw (Nat.le_refl _)).2 k hlt
        obtain ⟨d', hd, D', cp, c0, c1, c2, hm⟩ := hvk.parts
        have Hm : Hid (RVs d' wr wr.heap.size D' v.kids[k].kids) := hm.keep (fun _ _ => rfl) hbw.size
        have IHd := Lib.hid (IH.out d' hd)
        have HWK := Lib.hid (wV_kid v k hlt)
        have HS := Lib.hid (upK_succ v.kids k hlt)
        have HL2 := Lib.hid (upK_le v (k + 1) hlt)
        clear hm hvk hd
        go_wp2_with (go_at_call 57; refine (IHd.out _ _ v.kids[k] (most - q) _ Hm.out (by have := HWK.out; omega) (by omega) (by omega)).mono ?_; rintro e w1 ⟨r, rfl, hr, hb1⟩; have HR := Lib.hid hr; have hr1 := hr.2.2.1; have hr2 := hr.2.2.2; have hww := HWK.out; have HRL : Hid (r ≤ 16000001) := (by unfold Hid; push_cast at hr1; omega); clear hr hr1 hww; have hrl := HRL.out)
        have hc := HQ.out.step hq HR.out
        rw [← HS.out] at hc
        have hc3 := hc.2.2.1
        have hb2 := below_aft hb hb1 hb.size
        have hle := HL2.out
        go_roundw
        case rel => exact ⟨k + 1, by omega, by go_num, _, by omega, by omega, rfl, hc, hb2⟩
        case measure => simp [intOf]; omega
      · have hq' : most < q := by omega
        have HO : Hid (CntOK (1 + wV v) most q) := HQ.out.over hq' HLE.out
        go_wp2_with fail
        go_ret
        exact ⟨q, rfl, HO.out, hbw⟩
    · have he : k = v.kids.length := by omega
      have hi : (v.kids.length : Int) ≤ (k : Int) := by omega
      have HO : Hid (CntOK (1 + wV v) most q) := by unfold Hid; rw [← upK_all, ← he]; exact HQ.out
      clear he
      go_wp2_with fail
      go_ret
      exact ⟨q, rfl, HO.out, hbw⟩
theorem cntS_any : ∀ d, CntS d
  | 0 => cntS_of 0 (fun _ h => by omega)
  | d + 1 => cntS_of (d + 1) (fun d' h => (Nat.succ.inj h) ▸ cntS_any d)
theorem fitS_any (l : List Da) : ∀ d, d < 100 → FitS l d
  | 0, _ => fitS_zero l
  | d + 1, h => fitS_step l d (by omega) (fitS_any l d (by omega))
end Go.Proofs.Ytnfjjabeobcenaa
