/-
  A world, a type and a number that are drawn: the document's function. No statement is proved here.
-/
import Derived.Test.YtholdmdkhbhokabG06
namespace Go.Proofs.Ytholdmdkhbhokab
open Go.RowKit Go.Deep
set_option maxRecDepth 100000
set_option linter.unusedVariables false

theorem RBy.at_ {w w' : World} {B : Nat} {A : Option Addr} {n : Nat} (h : RBy w B A n) (hb : Below w.heap.size w w') (hB : B ≤ w.heap.size) : RBy w' B A n := h.below (hb.mono hB)
theorem Stays.grown_ {lo g : Nat} {a w w' : World} (h : Stays lo a w) (hg : w.grownBy w' (some g)) (hl : a.heap.size ≤ g) : Stays lo a w' :=
  ⟨Nat.le_trans h.1 hg.size, fun b h1 h2 => (hg.block b (Nat.lt_of_lt_of_le h2 h.1) (fun e => by injection e with e; omega)).trans (h.2 b h1 h2)⟩
set_option maxHeartbeats 3200000 in
theorem draw19_any (n cap : Nat) (A : Option Addr) (w : World) (hn : n ≤ maxLen) (hc : n ≤ cap) (h : RBy w w.heap.size A n) : Calls Try.prog 21 #[.slice A n cap] w (GotWTK w) := by
  have HT0 : Hid (BoxT (w.alloc (.cells #[.int .i64 0, .int .i64 0] 33)) w.heap.size ⟨0, 0⟩) := heap_alloc_new w _
  have HB0 : Hid (Below w.heap.size w (w.alloc (.cells #[.int .i64 0, .int .i64 0] 33))) := (Below.refl _ _).alloc (Nat.le_refl _) _
  have HC := Lib.hid hc
  have HNM := Lib.hid hn
  have H := Lib.hid h
  have HM : Hid (Calls Try.prog 42 #[.slice A n cap] (w.alloc (.cells #[.int .i64 0, .int .i64 0] 33)) (GotWT (w.alloc (.cells #[.int .i64 0, .int .i64 0] 33)))) :=
    l1Two_any n cap A _ hn hc (fun k hk => by
      obtain ⟨b, off, x, e, hB, hcc, hx⟩ := h k hk
      exact ⟨b, off, x, e, by simp; omega, (World.cell?_alloc_lt _ _ _ hB).trans hcc, hx⟩)
  clear h hc hn
  go_enter Try.func21, Try.ntmps21
  go_wp2_with fail
  refine (HM.out).mono ?_
  rintro e w1 ⟨v, l, t, rfl, hli, hl, hb⟩
  have hzw : (w.alloc (.cells #[.int .i64 0, .int .i64 0] 33)).heap.size = w.heap.size + 1 := by simp
  rw [hzw] at hli
  obtain ⟨A3, c3, rfl, _⟩ := hli.form
  have HT1 : Hid (BoxT w1 w.heap.size ⟨0, 0⟩) := HT0.out.keep (hb.block _ (by simp))
  have HB1 := Lib.hid (below_after HB0.out hb HB0.out.size)
  have hz1 : w.heap.size + 1 ≤ w1.heap.size := by have := hb.size; omega
  have HTB : Hid (BoxT (w1.alloc (.cells #[.int .i64 t.data, .int .i64 t.index] 33)) w1.heap.size t) := heap_alloc_new w1 _
  have HBa : Hid (Below w.heap.size w (w1.alloc (.cells #[.int .i64 t.data, .int .i64 t.index] 33))) := HB1.out.alloc HB1.out.size _
  have HTa : Hid (BoxT (w1.alloc (.cells #[.int .i64 t.data, .int .i64 t.index] 33)) w.heap.size ⟨0, 0⟩) := HT1.out.alloc _
  have HLI := Lib.hid hli
  have HSa : Hid (Stays (w.heap.size + 1) w1 (w1.alloc (.cells #[.int .i64 t.data, .int .i64 t.index] 33))) := Stays.below ((Below.refl _ _).alloc (Nat.le_refl _) _)
  have hza : (w1.alloc (.cells #[.int .i64 t.data, .int .i64 t.index] 33)).heap.size = w1.heap.size + 1 := by simp
  clear hli hb HT0 HB0 HM HT1 HB1
  go_wp2_with fail
  generalize (w1.alloc (.cells #[.int .i64 t.data, .int .i64 t.index] 33)) = wa at HTB HBa HTa HSa hza ⊢
  have HZA := Lib.hid hza
  have s0 := HTB.out.c0
  have s1 := HTB.out.c1
  have hne : w.heap.size ≠ w1.heap.size := by omega
  have HOA : Hid (Calls Try.prog 34 #[.slice A n cap] wa.drew (Opened wa.drew w.heap.size)) := open_any w.heap.size n cap A wa.drew HNM.out HC.out (H.out.below (HBa.out.drew)) (by show w.heap.size ≤ wa.heap.size; omega)
  have HOB : Hid (Calls Try.prog 34 #[.slice A n cap] (wa.alloc (.cells #[.int .i64 1, .int .i64 0, .int .i64 2, .int .i64 3, .int .i64 (-1), .int .i64 9] 3)).drew (Opened (wa.alloc (.cells #[.int .i64 1, .int .i64 0, .int .i64 2, .int .i64 3, .int .i64 (-1), .int .i64 9] 3)).drew w.heap.size)) := open_any w.heap.size n cap A _ HNM.out HC.out (H.out.below ((HBa.out.alloc HBa.out.size _).drew)) (by show w.heap.size ≤ (wa.alloc _).heap.size; simp; omega)
  have HW : Hid (w1.heap.size < wa.heap.size ∧ w.heap.size < wa.heap.size ∧ w.heap.size + 1 ≤ wa.heap.size) := ⟨by omega, by omega, by omega⟩
  clear hza
  go_region_held3 (fun w' => w'.cell? ⟨w1.heap.size, 0, none⟩ = some (.int .i64 t.data) ∧ w'.cell? ⟨w1.heap.size, 1, none⟩ = some (.int .i64 t.index)) (first | exact ⟨s0, s1⟩ | exact ⟨p0, p1⟩ | exact ⟨m0, m1⟩ | exact ⟨n0, n1⟩ | exact ⟨two_far hne p0, two_far hne p1⟩ | go_keep) (first
    | (go_at_call 47; (with_reducible refine (HQ.out).mono ?_); rintro e w5 ⟨j, hj, rfl, hR5, hg5⟩; have HT5 := Lib.hid (HTQ.out.grown hg5 HRQ.out.2.1); have HU5 := Lib.hid (HUQ.out.grown hg5 HRQ.out.2.2.1); have p0 := HT5.out.c0; have p1 := HT5.out.c1; have q0 := HU5.out.c0; have q1 := HU5.out.c1; have qf := HU5.out.fz; have HB5 := Lib.hid (below_grown HBQ.out hg5 HBQ.out.size HRQ.out.2.2.2); have HS5 := Lib.hid (HSQ.out.grown_ hg5 HRQ.out.1); generalize ([1, 0, 2, 3, -1, 9] : List Int)[j] = x)
    | (go_at_call 34; (with_reducible refine (HOA.out).mono ?_); rintro e w4 ⟨rfl, hR4, hb4⟩; have h9 : wa.heap.size < w4.heap.size := hR4.lt; have h9 := hR4.lt; have h8 := HW.out; have HQ : Hid (Calls Try.prog 47 #[.pointer (some ⟨wa.heap.size, 0, none⟩), .slice (some ⟨w4.heap.size, 0, none⟩) 6 6] (w4.alloc (.cells #[.int .i64 1, .int .i64 0, .int .i64 2, .int .i64 3, .int .i64 (-1), .int .i64 9] 3)) (PickedI (w4.alloc (.cells #[.int .i64 1, .int .i64 0, .int .i64 2, .int .i64 3, .int .i64 (-1), .int .i64 9] 3)) w.heap.size (wa.heap.size) 0 [1, 0, 2, 3, -1, 9])) := num_n (wa.heap.size) w.heap.size 0 6 [1, 0, 2, 3, -1, 9] rfl _ 6 _ (hR4.alloc _) (by omega) (by decide) (RInts.lit _ _ _ rfl (by decide)) (fun b o e => by injection e with e; injection e with e; have := HW.out; omega); have HTQ : Hid (BoxT (w4.alloc (.cells #[.int .i64 1, .int .i64 0, .int .i64 2, .int .i64 3, .int .i64 (-1), .int .i64 9] 3)) w1.heap.size t) := (HTB.out.keep (hb4.block _ HW.out.1)).alloc _; have HUQ : Hid (BoxT (w4.alloc (.cells #[.int .i64 1, .int .i64 0, .int .i64 2, .int .i64 3, .int .i64 (-1), .int .i64 9] 3)) w.heap.size ⟨0, 0⟩) := (HTa.out.keep (hb4.block _ HW.out.2.1)).alloc _; have HBQ : Hid (Below w.heap.size w (w4.alloc (.cells #[.int .i64 1, .int .i64 0, .int .i64 2, .int .i64 3, .int .i64 (-1), .int .i64 9] 3))) := (below_after HBa.out (⟨hb4.os, hb4.tape, hb4.output, hb4.size, hb4.block⟩ : Below wa.heap.size wa w4) HBa.out.size).alloc (by have := hb4.size; have := HW.out; have : wa.drew.heap.size = wa.heap.size := rfl; omega) _; have HSQ : Hid (Stays (w.heap.size + 1) w1 (w4.alloc (.cells #[.int .i64 1, .int .i64 0, .int .i64 2, .int .i64 3, .int .i64 (-1), .int .i64 9] 3))) := (HSa.out.trans (Stays.below (⟨hb4.os, hb4.tape, hb4.output, hb4.size, hb4.block⟩ : Below wa.heap.size wa w4))).trans (Stays.below ((Below.refl _ _).alloc (Nat.le_refl _) _)); have HRQ : Hid (w1.heap.size ≤ wa.heap.size ∧ w1.heap.size ≠ wa.heap.size ∧ w.heap.size ≠ wa.heap.size ∧ w.heap.size ≤ wa.heap.size) := (by have := HW.out; have := HZA.out; exact ⟨by omega, by omega, by omega, by omega⟩); have m0 := (HTB.out.keep (hb4.block _ HW.out.1)).c0; have m1 := (HTB.out.keep (hb4.block _ HW.out.1)).c1; have n0 := HTQ.out.c0; have n1 := HTQ.out.c1)
    | (go_at_call 34; (with_reducible refine (HOB.out).mono ?_); rintro e w4 ⟨rfl, hR4, hb4⟩; have HQ : Hid (Calls Try.prog 47 #[.pointer (some ⟨wa.heap.size + 1, 0, none⟩), .slice (some ⟨wa.heap.size, 0, none⟩) 6 6] w4 (PickedI w4 w.heap.size (wa.heap.size + 1) 0 [1, 0, 2, 3, -1, 9])) := num_n (wa.heap.size + 1) w.heap.size 0 6 [1, 0, 2, 3, -1, 9] rfl _ 6 _ (by have := hR4; simpa [World.drew] using this) (by omega) (by decide) ((RInts.lit wa _ _ rfl (by decide)).at_ (⟨hb4.os, hb4.tape, hb4.output, hb4.size, hb4.block⟩ : Below (wa.alloc (.cells #[.int .i64 1, .int .i64 0, .int .i64 2, .int .i64 3, .int .i64 (-1), .int .i64 9] 3)).heap.size (wa.alloc (.cells #[.int .i64 1, .int .i64 0, .int .i64 2, .int .i64 3, .int .i64 (-1), .int .i64 9] 3)) w4)) (fun b o e => by injection e with e; injection e with e; have := HW.out; omega); have HTQ : Hid (BoxT w4 w1.heap.size t) := ((HTB.out.alloc (.cells #[.int .i64 1, .int .i64 0, .int .i64 2, .int .i64 3, .int .i64 (-1), .int .i64 9] 3)).keep (hb4.block _ (by show _ < (wa.alloc _).heap.size; simp; have := HW.out; omega))); have HUQ : Hid (BoxT w4 w.heap.size ⟨0, 0⟩) := ((HTa.out.alloc (.cells #[.int .i64 1, .int .i64 0, .int .i64 2, .int .i64 3, .int .i64 (-1), .int .i64 9] 3)).keep (hb4.block _ (by show _ < (wa.alloc _).heap.size; simp; have := HW.out; omega))); have HBQ : Hid (Below w.heap.size w w4) := below_after (HBa.out.alloc HBa.out.size (.cells #[.int .i64 1, .int .i64 0, .int .i64 2, .int .i64 3, .int .i64 (-1), .int .i64 9] 3)) (⟨hb4.os, hb4.tape, hb4.output, hb4.size, hb4.block⟩ : Below (wa.alloc (.cells #[.int .i64 1, .int .i64 0, .int .i64 2, .int .i64 3, .int .i64 (-1), .int .i64 9] 3)).heap.size (wa.alloc (.cells #[.int .i64 1, .int .i64 0, .int .i64 2, .int .i64 3, .int .i64 (-1), .int .i64 9] 3)) w4) (by simp; have := HW.out; omega); have HSQ : Hid (Stays (w.heap.size + 1) w1 w4) := (HSa.out.trans (Stays.below ((Below.refl _ _).alloc (Nat.le_refl _) (.cells #[.int .i64 1, .int .i64 0, .int .i64 2, .int .i64 3, .int .i64 (-1), .int .i64 9] 3)))).trans (Stays.below (⟨hb4.os, hb4.tape, hb4.output, hb4.size, hb4.block⟩ : Below (wa.alloc (.cells #[.int .i64 1, .int .i64 0, .int .i64 2, .int .i64 3, .int .i64 (-1), .int .i64 9] 3)).heap.size (wa.alloc (.cells #[.int .i64 1, .int .i64 0, .int .i64 2, .int .i64 3, .int .i64 (-1), .int .i64 9] 3)) w4)); have HRQ : Hid (w1.heap.size ≤ wa.heap.size + 1 ∧ w1.heap.size ≠ wa.heap.size + 1 ∧ w.heap.size ≠ wa.heap.size + 1 ∧ w.heap.size ≤ wa.heap.size + 1) := (by have := HW.out; have := HZA.out; exact ⟨by omega, by omega, by omega, by omega⟩); have m0 := HTQ.out.c0; have m1 := HTQ.out.c1))
  all_goals
    have HF : Hid (GotWTK w (.returned (.tuple #[.slice A3 l.length c3, .agg #[.int .i64 t.data, .int .i64 t.index], .int .i64 x])) ((w5.setCell ⟨w.heap.size, 0, none⟩ (.int .i64 t.data)).setCell ⟨w.heap.size, 1, none⟩ (.int .i64 t.index))) := by
      have hs : Stays (w.heap.size + 1) w1 ((w5.setCell ⟨w.heap.size, 0, none⟩ (.int .i64 t.data)).setCell ⟨w.heap.size, 1, none⟩ (.int .i64 t.index)) :=
        HS5.out.trans ⟨by simp [World.setCell], fun b hb _ => (Below.heap_setCell _ _ _ _ (by simp only; omega)).trans (Below.heap_setCell _ _ _ _ (by simp only; omega))⟩
      exact ⟨_, l, t, x, rfl, (HLI.out.at_ hs).lower (by omega), hl, (HB5.out.setCell (Nat.le_refl _) _).setCell (Nat.le_refl _) _⟩
    have HU6 : Hid (BoxT ((w5.setCell ⟨w.heap.size, 0, none⟩ (.int .i64 t.data)).setCell ⟨w.heap.size, 1, none⟩ (.int .i64 t.index)) w.heap.size t) := heap_setCell_same _ _ 1 _ _ _ (heap_setCell_same _ _ 0 _ _ _ HU5.out)
    generalize ((w5.setCell ⟨w.heap.size, 0, none⟩ (.int .i64 t.data)).setCell ⟨w.heap.size, 1, none⟩ (.int .i64 t.index)) = wf at HF HU6 ⊢
    have r0 := HU6.out.c0
    have r1 := HU6.out.c1
    go_wp2_with fail
    exact bodyPost_ret (v := .tuple #[.slice A3 l.length c3, .agg #[.int .i64 t.data, .int .i64 t.index], .int .i64 x]) (by simp [results, Try.results21, go_sem, r0, r1]) rfl HF.out
end Go.Proofs.Ytholdmdkhbhokab
