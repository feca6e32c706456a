/-
  What the statements draw: a world, a type, a number. No statement is proved here.
-/
import Derived.Test.YtholdmdkhbhokabSMut
import Derived.Deep.Slices
import Derived.ChangeArms
namespace Go.Proofs.Ytholdmdkhbhokab
open Go.RowKit Go.Deep
set_option maxRecDepth 100000
set_option linter.unusedVariables false

/-- A world of the call's own. -/
def GotW (w : World) (e : Ending) (w' : World) : Prop := ∃ v l, e = .returned v ∧ Lies w' w.heap.size v l ∧ 0 < l.length ∧ Below w.heap.size w w'
def GotWT (w : World) (e : Ending) (w' : World) : Prop := ∃ v l, ∃ t : Ty, e = .returned (.tuple #[v, .agg #[.int .i64 t.data, .int .i64 t.index]]) ∧ Lies w' w.heap.size v l ∧ 0 < l.length ∧ Below w.heap.size w w'
def GotWTK (w : World) (e : Ending) (w' : World) : Prop := ∃ v l, ∃ t : Ty, ∃ k : Int, e = .returned (.tuple #[v, .agg #[.int .i64 t.data, .int .i64 t.index], .int .i64 k]) ∧ Lies w' w.heap.size v l ∧ 0 < l.length ∧ Below w.heap.size w w'
theorem Lies.lower {w : World} {lo lo' : Nat} {v : Value} {l : List Da} (h : Lies w lo v l) (hl : lo' ≤ lo) : Lies w lo' v l := by
  obtain ⟨A3, c3, e3, hrd⟩ := h
  exact ⟨A3, c3, e3, fun wx hs => hrd wx ⟨hs.1, fun b h1 hb => hs.2 b (Nat.le_trans hl h1) hb⟩⟩
theorem below_grown {a w w' : World} {B rb : Nat} (h : Below B a w) (hg : w.grownBy w' (some rb)) (hB : B ≤ w.heap.size) (hr : B ≤ rb) : Below B a w' := h.grown hg hB (fun k e => by injection e with e; omega)

theorem two_far {w : World} {b c i j o : Nat} {u x v : Value} (hne : b ≠ c) (h : w.cell? ⟨c, o, none⟩ = some v) : ((w.setCell ⟨b, i, none⟩ u).setCell ⟨b, j, none⟩ x).cell? ⟨c, o, none⟩ = some v :=
  (World.cell?_setCell_other _ _ _ _ (fun e => hne (by injection e))).trans ((World.cell?_setCell_other _ _ _ _ (fun e => hne (by injection e))).trans h)
set_option maxHeartbeats 1600000 in
theorem drawWorld_any (n cap : Nat) (A : Option Addr) (w : World) (hn : n ≤ maxLen) (hc : n ≤ cap) (h : RBy w w.heap.size A n) : Calls Try.prog 12 #[.slice A n cap] w (GotW w) := by
  have H := Lib.hid h
  have HC := Lib.hid hc
  have HNM := Lib.hid hn
  clear h hc hn
  go_enter Try.func12, Try.ntmps12
  go_wp2_with fail
  refine (open_any w.heap.size n cap A w HNM.out HC.out H.out (Nat.le_refl _)).mono ?_
  rintro e w1 ⟨rfl, hR, hb⟩
  have HR1 := Lib.hid hR
  have HB1 := Lib.hid hb
  clear hR hb
  go_wp2_with fail
  refine (l1World_any _ _ _ _ HR1.out (by omega)).mono ?_
  rintro e w2 ⟨v, l, rfl, ho, hl, hs, hR, hg⟩
  have hx := ho.x hs
  obtain ⟨A2, c2, rfl⟩ := hx.form
  have HX := Lib.hid hx
  have HR2 := Lib.hid hR
  have HB2 := Lib.hid (below_grown HB1.out hg HB1.out.size (Nat.le_refl _))
  clear hx hR hg ho
  go_wp2_with fail
  refine (l1Mutate_any _ w.heap.size w.heap.size 1 _ 4 l.length _ _ HX.out (by omega) hl (HR2.out.more (by omega)) (by omega)).mono ?_
  rintro e w3 ⟨v3, n3, rfl, hx3, hn3, hR, hg⟩
  obtain ⟨L, hL, hli, _⟩ := hx3.lies (by unfold maxLen; omega)
  have HF : Hid (GotW w (.returned v3) w3) := by
    obtain ⟨A3, c3, e3, hrd⟩ := hli
    exact ⟨v3, L, rfl, ⟨A3, c3, e3, fun wx hs => hrd wx ⟨hs.1, fun b hl hb => hs.2 b (Nat.le_trans HB2.out.size hl) hb⟩⟩, by omega, below_grown HB2.out hg HB2.out.size (Nat.le_refl _)⟩
  clear hx3 hR hg hli
  go_wp2_with fail
  go_ret
  exact HF.out

set_option maxHeartbeats 1600000 in
theorem l1Two_any (n cap : Nat) (A : Option Addr) (w : World) (hn : n ≤ maxLen) (hc : n ≤ cap) (h : RBy w w.heap.size A n) : Calls Try.prog 42 #[.slice A n cap] w (GotWT w) := by
  have HC := Lib.hid hc
  have HNM := Lib.hid hn
  have H0 : Hid (RBy (w.alloc (.cells #[.int .i64 0, .int .i64 0] 33)) w.heap.size A n) := h.below ((Below.refl _ _).alloc (Nat.le_refl _) _)
  have HT0 : Hid (BoxT (w.alloc (.cells #[.int .i64 0, .int .i64 0] 33)) w.heap.size ⟨0, 0⟩) := heap_alloc_new w _
  have HB0 : Hid (Below w.heap.size w (w.alloc (.cells #[.int .i64 0, .int .i64 0] 33))) := (Below.refl _ _).alloc (Nat.le_refl _) _
  clear h hc hn
  go_enter Try.func42, Try.ntmps42
  go_wp2_with fail
  refine (open_any w.heap.size n cap A _ HNM.out HC.out H0.out (by simp)).mono ?_
  rintro e w1 ⟨rfl, hR, hb⟩
  have HR1 := Lib.hid hR
  have HB1 := Lib.hid (below_after HB0.out hb HB0.out.size)
  have HT1 : Hid (BoxT w1 w.heap.size ⟨0, 0⟩) := (hb.block _ (by simp)).trans HT0.out
  have hrw : (w.alloc (.cells #[.int .i64 0, .int .i64 0] 33)).heap.size = w.heap.size + 1 := by simp
  rw [hrw] at HR1
  have hz1 : w.heap.size + 1 < w1.heap.size := HR1.out.lt
  clear hR hb HB0 HT0 H0
  go_wp2_with fail
  refine (l1World_any _ _ _ _ HR1.out (by omega)).mono ?_
  rintro e w2 ⟨v, l, rfl, ho, hl, hs, hR, hg⟩
  have hx := ho.x hs
  obtain ⟨A2, c2, rfl⟩ := hx.form
  have HX := Lib.hid hx
  have HR2 := Lib.hid hR
  have HB2 := Lib.hid (below_grown HB1.out hg HB1.out.size (by omega))
  have HT2 := Lib.hid (HT1.out.grown hg (by omega))
  have hz2 := hg.size
  have hll : l.length ≤ 4 := hs.1
  clear hx hR hg ho HT1
  go_wp2_with fail
  refine (l1Some_any _ _ _ _ _ _ _ HR2.out (by omega) (by unfold maxLen; omega)).mono ?_
  rintro e w3 ⟨t, rfl, hR, hg⟩
  have HR3 := Lib.hid hR
  have HB3 := Lib.hid (below_grown HB2.out hg HB2.out.size (by omega))
  have HT3 := Lib.hid (HT2.out.grown hg (by omega))
  have HX3 : Hid (XDas w3 w1.heap.size 4 (.slice A2 l.length c2) l.length) := HX.out.keepT ((Stays.grown hg hz1).keepT _) (Nat.le_refl _)
  have hz3 := hg.size
  have HTB : Hid (BoxT (w3.alloc (.cells #[.int .i64 t.data, .int .i64 t.index] 33)) w3.heap.size t) := heap_alloc_new w3 _
  have HRa : Hid (RRd (w3.alloc (.cells #[.int .i64 t.data, .int .i64 t.index] 33)) w.heap.size (w.heap.size + 1) 5) := HR3.out.alloc _
  have HBa : Hid (Below w.heap.size w (w3.alloc (.cells #[.int .i64 t.data, .int .i64 t.index] 33))) := HB3.out.alloc HB3.out.size _
  have HTa : Hid (BoxT (w3.alloc (.cells #[.int .i64 t.data, .int .i64 t.index] 33)) w.heap.size ⟨0, 0⟩) := HT3.out.alloc _
  have HXa : Hid (XDas (w3.alloc (.cells #[.int .i64 t.data, .int .i64 t.index] 33)) w1.heap.size 4 (.slice A2 l.length c2) l.length) := HX3.out.keepT (KeepT.alloc _ _ _ _) (Nat.le_refl _)
  have hza : (w3.alloc (.cells #[.int .i64 t.data, .int .i64 t.index] 33)).heap.size = w3.heap.size + 1 := by simp
  clear hR hg HT2 HX HX3 HT3 HB3 HR3
  go_wp2_with fail
  generalize (w3.alloc (.cells #[.int .i64 t.data, .int .i64 t.index] 33)) = wa at HTB HRa HBa HTa HXa hza ⊢
  have s0 := HTB.out.c0
  have s1 := HTB.out.c1
  have HL : Hid (w.heap.size < w3.heap.size ∧ w.heap.size + 1 < w3.heap.size) := ⟨by omega, by omega⟩
  have hl0' : w.heap.size ≠ w3.heap.size := by omega
  have HM : Hid (Calls Try.prog 35 #[.pointer (some ⟨w.heap.size + 1, 0, none⟩), .slice A2 l.length c2] wa.drew (Muted wa.drew w.heap.size (w.heap.size + 1) 9 5)) := l1Mutate_any A2 w.heap.size (w.heap.size + 1) 5 w1.heap.size 4 l.length c2 wa.drew (HXa.out.keepT (KeepT.below _ _ ((Below.refl _ _).drew)) (Nat.le_refl _)) (by omega) hl HRa.out.drew (by omega)
  go_region_held3 (fun w' => w'.cell? ⟨w3.heap.size, 0, none⟩ = some (.int .i64 t.data) ∧ w'.cell? ⟨w3.heap.size, 1, none⟩ = some (.int .i64 t.index)) (first | exact ⟨s0, s1⟩ | exact ⟨p0, p1⟩ | exact ⟨two_far hl0' p0, two_far hl0' p1⟩ | go_keep) (first | (go_at_call 35; (with_reducible refine (HM.out).mono ?_); rintro e w4 ⟨v3, n3, rfl, hx3, hn3, hR4, hg4'⟩; have hg4 := grown_drew hg4'; have HT4 := Lib.hid (HTB.out.grown hg4 (by omega)); have HU4 := Lib.hid (HTa.out.grown hg4 (by omega)); have p0 := HT4.out.c0; have p1 := HT4.out.c1; have q0 := HU4.out.c0; have q1 := HU4.out.c1; have qf := HU4.out.fz))
  all_goals
    obtain ⟨L, hL, hli, _⟩ := hx3.lies (by unfold maxLen; omega)
    have HF : Hid (GotWT w (.returned (.tuple #[v3, .agg #[.int .i64 t.data, .int .i64 t.index]])) ((w4.setCell ⟨w.heap.size, 0, none⟩ (.int .i64 t.data)).setCell ⟨w.heap.size, 1, none⟩ (.int .i64 t.index))) := by
      have hzw : wa.drew.heap.size = w3.heap.size + 1 := hza
      have hs : Stays wa.drew.heap.size w4 ((w4.setCell ⟨w.heap.size, 0, none⟩ (.int .i64 t.data)).setCell ⟨w.heap.size, 1, none⟩ (.int .i64 t.index)) :=
        ⟨by simp [World.setCell], fun b hb _ => (Below.heap_setCell _ _ _ _ (by simp only; omega)).trans (Below.heap_setCell _ _ _ _ (by simp only; omega))⟩
      exact ⟨v3, L, t, rfl, (hli.at_ hs).lower (by omega), by omega, ((below_grown HBa.out hg4 HBa.out.size (by omega)).setCell (Nat.le_refl _) _).setCell (Nat.le_refl _) _⟩
    have HU5 : Hid (BoxT ((w4.setCell ⟨w.heap.size, 0, none⟩ (.int .i64 t.data)).setCell ⟨w.heap.size, 1, none⟩ (.int .i64 t.index)) w.heap.size t) := heap_setCell_same _ _ 1 _ _ _ (heap_setCell_same _ _ 0 _ _ _ HU4.out)
    generalize hwf : ((w4.setCell ⟨w.heap.size, 0, none⟩ (.int .i64 t.data)).setCell ⟨w.heap.size, 1, none⟩ (.int .i64 t.index)) = wf at HF HU5 ⊢
    have r0 := HU5.out.c0
    have r1 := HU5.out.c1
    clear hx3 hR4 hg4' hg4 hli
    go_wp2_with fail
    exact bodyPost_ret (v := .tuple #[v3, .agg #[.int .i64 t.data, .int .i64 t.index]]) (by simp [results, Try.results42, go_sem, r0, r1]) rfl HF.out
end Go.Proofs.Ytholdmdkhbhokab
/-
  What the statements draw, by their own functions. No statement is proved here.
-/
namespace Go.Proofs.Ytholdmdkhbhokab
open Go.RowKit Go.Deep
set_option maxRecDepth 100000
set_option linter.unusedVariables false

theorem BoxT.keep {w w' : World} {b : Nat} {t : Ty} (h : BoxT w b t) (hk : w'.heap[b]? = w.heap[b]?) : BoxT w' b t := hk.trans h
set_option maxHeartbeats 1600000 in
theorem draw13_any (n cap : Nat) (A : Option Addr) (w : World) (hn : n ≤ maxLen) (hc : n ≤ cap) (h : RBy w w.heap.size A n) : Calls Try.prog 15 #[.slice A n cap] w (GotWT w) := by
  have HT0 : Hid (BoxT (w.alloc (.cells #[.int .i64 0, .int .i64 0] 33)) w.heap.size ⟨0, 0⟩) := heap_alloc_new w _
  have HB0 : Hid (Below w.heap.size w (w.alloc (.cells #[.int .i64 0, .int .i64 0] 33))) := (Below.refl _ _).alloc (Nat.le_refl _) _
  have HM : Hid (Calls Try.prog 42 #[.slice A n cap] (w.alloc (.cells #[.int .i64 0, .int .i64 0] 33)) (GotWT (w.alloc (.cells #[.int .i64 0, .int .i64 0] 33)))) :=
    l1Two_any n cap A _ hn hc (fun k hk => by
      obtain ⟨b, off, x, e, hB, hcc, hx⟩ := h k hk
      exact ⟨b, off, x, e, by simp; omega, (World.cell?_alloc_lt _ _ _ hB).trans hcc, hx⟩)
  clear h hc hn
  go_enter Try.func15, Try.ntmps15
  go_wp2_with fail
  refine (HM.out).mono ?_
  rintro e w1 ⟨v, l, t, rfl, hli, hl, hb⟩
  obtain ⟨A3, c3, rfl, _⟩ := hli.form
  have HT1 : Hid (BoxT w1 w.heap.size ⟨0, 0⟩) := HT0.out.keep (hb.block _ (by simp))
  have hzw : (w.alloc (.cells #[.int .i64 0, .int .i64 0] 33)).heap.size = w.heap.size + 1 := by simp
  have HF : Hid (GotWT w (.returned (.tuple #[.slice A3 l.length c3, .agg #[.int .i64 t.data, .int .i64 t.index]])) ((w1.setCell ⟨w.heap.size, 0, none⟩ (.int .i64 t.data)).setCell ⟨w.heap.size, 1, none⟩ (.int .i64 t.index))) := by
    have hs : Stays (w.heap.size + 1) w1 ((w1.setCell ⟨w.heap.size, 0, none⟩ (.int .i64 t.data)).setCell ⟨w.heap.size, 1, none⟩ (.int .i64 t.index)) :=
      ⟨by simp [World.setCell], fun b hb _ => (Below.heap_setCell _ _ _ _ (by simp only; omega)).trans (Below.heap_setCell _ _ _ _ (by simp only; omega))⟩
    rw [hzw] at hli
    exact ⟨_, l, t, rfl, (hli.at_ hs).lower (by omega), hl, ((below_after HB0.out hb HB0.out.size).setCell (Nat.le_refl _) _).setCell (Nat.le_refl _) _⟩
  have HU5 : Hid (BoxT ((w1.setCell ⟨w.heap.size, 0, none⟩ (.int .i64 t.data)).setCell ⟨w.heap.size, 1, none⟩ (.int .i64 t.index)) w.heap.size t) := heap_setCell_same _ _ 1 _ _ _ (heap_setCell_same _ _ 0 _ _ _ HT1.out)
  have q0 := HT1.out.c0
  have q1 := HT1.out.c1
  have qf := HT1.out.fz
  have r0 := HU5.out.c0
  have r1 := HU5.out.c1
  clear hli hb HT0 HB0 HM
  go_wp2_with fail
  exact bodyPost_ret (v := .tuple #[.slice A3 l.length c3, .agg #[.int .i64 t.data, .int .i64 t.index]]) (by simp [results, Try.results15, go_sem, r0, r1]) rfl HF.out
set_option maxHeartbeats 1600000 in
theorem draw22_any (n cap : Nat) (A : Option Addr) (w : World) (hn : n ≤ maxLen) (hc : n ≤ cap) (h : RBy w w.heap.size A n) : Calls Try.prog 24 #[.slice A n cap] w (GotWT w) := by
  have HT0 : Hid (BoxT (w.alloc (.cells #[.int .i64 0, .int .i64 0] 33)) w.heap.size ⟨0, 0⟩) := heap_alloc_new w _
  have HB0 : Hid (Below w.heap.size w (w.alloc (.cells #[.int .i64 0, .int .i64 0] 33))) := (Below.refl _ _).alloc (Nat.le_refl _) _
  have HM : Hid (Calls Try.prog 42 #[.slice A n cap] (w.alloc (.cells #[.int .i64 0, .int .i64 0] 33)) (GotWT (w.alloc (.cells #[.int .i64 0, .int .i64 0] 33)))) :=
    l1Two_any n cap A _ hn hc (fun k hk => by
      obtain ⟨b, off, x, e, hB, hcc, hx⟩ := h k hk
      exact ⟨b, off, x, e, by simp; omega, (World.cell?_alloc_lt _ _ _ hB).trans hcc, hx⟩)
  clear h hc hn
  go_enter Try.func24, Try.ntmps24
  go_wp2_with fail
  refine (HM.out).mono ?_
  rintro e w1 ⟨v, l, t, rfl, hli, hl, hb⟩
  obtain ⟨A3, c3, rfl, _⟩ := hli.form
  have HT1 : Hid (BoxT w1 w.heap.size ⟨0, 0⟩) := HT0.out.keep (hb.block _ (by simp))
  have hzw : (w.alloc (.cells #[.int .i64 0, .int .i64 0] 33)).heap.size = w.heap.size + 1 := by simp
  have HF : Hid (GotWT w (.returned (.tuple #[.slice A3 l.length c3, .agg #[.int .i64 t.data, .int .i64 t.index]])) ((w1.setCell ⟨w.heap.size, 0, none⟩ (.int .i64 t.data)).setCell ⟨w.heap.size, 1, none⟩ (.int .i64 t.index))) := by
    have hs : Stays (w.heap.size + 1) w1 ((w1.setCell ⟨w.heap.size, 0, none⟩ (.int .i64 t.data)).setCell ⟨w.heap.size, 1, none⟩ (.int .i64 t.index)) :=
      ⟨by simp [World.setCell], fun b hb _ => (Below.heap_setCell _ _ _ _ (by simp only; omega)).trans (Below.heap_setCell _ _ _ _ (by simp only; omega))⟩
    rw [hzw] at hli
    exact ⟨_, l, t, rfl, (hli.at_ hs).lower (by omega), hl, ((below_after HB0.out hb HB0.out.size).setCell (Nat.le_refl _) _).setCell (Nat.le_refl _) _⟩
  have HU5 : Hid (BoxT ((w1.setCell ⟨w.heap.size, 0, none⟩ (.int .i64 t.data)).setCell ⟨w.heap.size, 1, none⟩ (.int .i64 t.index)) w.heap.size t) := heap_setCell_same _ _ 1 _ _ _ (heap_setCell_same _ _ 0 _ _ _ HT1.out)
  have q0 := HT1.out.c0
  have q1 := HT1.out.c1
  have qf := HT1.out.fz
  have r0 := HU5.out.c0
  have r1 := HU5.out.c1
  clear hli hb HT0 HB0 HM
  go_wp2_with fail
  exact bodyPost_ret (v := .tuple #[.slice A3 l.length c3, .agg #[.int .i64 t.data, .int .i64 t.index]]) (by simp [results, Try.results24, go_sem, r0, r1]) rfl HF.out
end Go.Proofs.Ytholdmdkhbhokab
/-
  The argument of the statements, opened; lists of numbers compared: the statements' own functions. No statement is proved here.
-/
namespace Go.Proofs.Ytholdmdkhbhokab
open Go.RowKit Go.Deep
open Go.ChangeShapes Go.WideShapes Go.ChangeAt
set_option maxRecDepth 100000
set_option linter.unusedVariables false

section
variable {H : Type} {enc : TypeId × Value → H} {w : World} {spare : Nat → Bool} {held : Bool}
theorem spot_none {w : World} {a : Addr} {v : Value} (h : w.cell? a = some v) : a.spot = none := by
  unfold World.cell? at h
  split at h
  · split at h
    · cases h
    · simpa using ‹¬ a.spot.isSome = true›
  · cases h
theorem open_code {v : Value} {d : DataW H} {p : List MemPlace} (hval : Value.okWide Try.prog w .any w.heap.size 22 v) (h : DataW.Trod enc Try.prog w 0 spare held 22 v d p) :
    ∃ A n cap, v = .slice A n cap ∧ n ≤ maxLen ∧ n ≤ cap ∧ RBy w w.heap.size A n := by
  obtain ⟨fuel, hf⟩ := h
  have hv : ∃ A n cap, v = .slice A n cap := okWide_slice Try.underlying22 hval
  obtain ⟨A, n, cap, rfl⟩ := hv
  rcases open_slice Try.underlying22 hf with ⟨hcs, _⟩ | ⟨a, len, cap', m, n', D, Pl, hcs, hb, hl, hm, hmm, hx, hi⟩
  · simp [Value.cells] at hcs
    obtain ⟨rfl, rfl, rfl⟩ := hcs
    exact ⟨none, 0, 0, rfl, Nat.zero_le _, Nat.le_refl _, fun k hk => absurd hk (by omega)⟩
  · simp [Value.cells] at hcs
    obtain ⟨rfl, rfl, rfl⟩ := hcs
    have hlm : n ≤ m := by rw [hmm]; split <;> omega
    refine ⟨some a, n, cap, rfl, by omega, hl, fun k hk => ?_⟩
    obtain ⟨cs', q1, q2⟩ := hi k (by omega)
    have h1 : Try.prog.cellsOf 5 = 1 := by kernel_rfl
    rw [h1] at q1
    obtain ⟨_, hcl, hat⟩ := World.cells?_some q1
    obtain ⟨x, rfl, _, hwf⟩ := DataW.trod_int Try.underlying5 q2
    have hc := (hat 0 (by omega)).trans rfl
    have hsp : a.spot = none := by
      obtain ⟨cs0, r1, r2⟩ := hi 0 (by omega)
      rw [h1] at r1
      obtain ⟨_, _, hat0⟩ := World.cells?_some r1
      obtain ⟨x0, rfl, _, _⟩ := DataW.trod_int Try.underlying5 r2
      have h0 := (hat0 0 (by omega)).trans rfl
      exact spot_none (w := w) (a := a) (by simpa [Addr.add] using h0)
    obtain ⟨b, off, sp⟩ := a
    simp only at hsp
    subst hsp
    simp only [Addr.add_lit, Nat.add_zero, Nat.mul_one] at hc
    have hw : 0 ≤ x ∧ x ≤ 255 := by
      have : (IntKind.u8.min ≤ x ∧ x ≤ IntKind.u8.max) := by simpa [Lit.wf] using hwf
      exact this
    exact ⟨b, off, x, rfl, block_lt_of_cell hc, hc, hw.1, hw.2⟩
end

set_option maxHeartbeats 800000 in
theorem ptInts_same (A A' : Option Addr) (l : List Int) (cap cap' : Nat) (w : World) (hr : RInts w A l) (hr' : RInts w A' l) :
    Calls Try.prog 17 #[.slice A l.length cap, .slice A' l.length cap'] w fun e w' => e = .returned (.bool true) ∧ Below w.heap.size w w' := by
  have hn := hr.1
  unfold maxLen at hn
  have Hr := Lib.hid hr
  have Hr' := Lib.hid hr'
  clear hr hr'
  go_enter Try.func17, Try.ntmps17
  go_wp2_with fail
  go_loopw [5] (fun i wr => ∃ k : Nat, k ≤ l.length ∧ i = .int .i64 k ∧ Below w.heap.size w wr) (fun i _ => l.length - (intOf i).toNat)
  case atStart => exact ⟨0, by omega, rfl, Below.refl _ _⟩
  case round =>
    obtain ⟨k, hk, rfl, hb⟩ := hrel
    by_cases hlt : k < l.length
    · obtain ⟨b, off, rfl, _, c0⟩ := (Hr.out.at_ hb).2 k hlt
      obtain ⟨b', off', rfl, _, c1⟩ := (Hr'.out.at_ hb).2 k hlt
      have hkI : (k : Int) < (l.length : Int) := by omega
      have HB : Hid (∀ n, Below w.heap.size w (wr.drewN n)) := fun n => ⟨hb.os, hb.tape, hb.output, hb.size, hb.block⟩
      generalize l[k] = x at c0 c1
      clear hb
      go_wp2_with fail
      go_quiet (fail)
      go_wp2_with fail
      go_roundw
      case rel => exact ⟨k + 1, by omega, by go_num, HB.out _⟩
      case measure => simp [intOf]; omega
    · have hkI : (l.length : Int) ≤ (k : Int) := by omega
      go_wp2_with fail
      go_ret
      exact ⟨rfl, hb⟩
noncomputable def inB (l : List Int) (x : Int) : Bool := dec (x ∈ l)
set_option maxHeartbeats 800000 in
theorem ptIn_any (A : Option Addr) (l : List Int) (cap : Nat) (x : Int) (b : Bool) (hb : inB l x = b) (w : World) (hr : RInts w A l) :
    Calls Try.prog 20 #[.slice A l.length cap, .int .i64 x] w fun e w' => e = .returned (.bool b) ∧ w = w' := by
  have hn := hr.1
  unfold maxLen at hn
  have Hr := Lib.hid hr
  have HY : Hid (∀ k (h : k < l.length), l[k] = x → b = true) := fun k h e => by rw [← hb]; exact dec_t (e ▸ List.getElem_mem h)
  have HN : Hid ((∀ k (h : k < l.length), ¬ l[k] = x) → b = false) := fun hh => by
    rw [← hb]
    exact dec_f (fun hm => by
      obtain ⟨k, hk, e⟩ := List.getElem_of_mem hm
      exact hh k hk e)
  clear hr hb
  go_enter Try.func20, Try.ntmps20
  go_wp2_with fail
  go_loopw [5] (fun i wr => ∃ k : Nat, k ≤ l.length ∧ i = .int .i64 k ∧ Hid (∀ j (h : j < l.length), j < k → ¬ l[j] = x) ∧ w = wr) (fun i _ => l.length - (intOf i).toNat)
  case atStart => exact ⟨0, by omega, rfl, fun j h hj => absurd hj (by omega), rfl⟩
  case round =>
    obtain ⟨k, hk, rfl, HK, rfl⟩ := hrel
    by_cases hlt : k < l.length
    · obtain ⟨b', off, rfl, _, c0⟩ := Hr.out.2 k hlt
      have hkI : (k : Int) < (l.length : Int) := by omega
      by_cases he : l[k] = x
      · have q := ieq_t he
        have HE := Lib.hid (HY.out k hlt he)
        clear he
        go_wp2_with fail
        go_ret
        exact ⟨by rw [HE.out]; rfl, rfl⟩
      · have q := ieq_f he
        have HK2 : Hid (∀ j (h : j < l.length), j < k + 1 → ¬ l[j] = x) := fun j h hj => by
          by_cases e : j = k
          · subst e; exact he
          · exact HK.out j h (by omega)
        clear he
        go_wp2_with fail
        go_roundw
        case rel => exact ⟨k + 1, by omega, by go_num, HK2, trivial⟩
        case measure => simp [intOf]; omega
    · have hkI : (l.length : Int) ≤ (k : Int) := by omega
      have HE := Lib.hid (HN.out (fun j h => HK.out j h (by omega)))
      go_wp2_with fail
      go_ret
      exact ⟨by rw [HE.out]; rfl, rfl⟩
end Go.Proofs.Ytholdmdkhbhokab
