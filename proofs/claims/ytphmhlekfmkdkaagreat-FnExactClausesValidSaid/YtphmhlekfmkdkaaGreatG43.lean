/-
  The law FnExactClausesValid walked. No statement is proved here.
-/
import Derived.Test.YtphmhlekfmkdkaaGreatG41
import Derived.Test.YtphmhlekfmkdkaaGreatG42
import Derived.Test.YtphmhlekfmkdkaaGreatG07
import Derived.Test.YtphmhlekfmkdkaaGreatG18
import Derived.Test.YtphmhlekfmkdkaaGreatG04
import Derived.Deep.RegionHeld3
import Derived.Lib.SmallJoins
namespace Go.Proofs.YtphmhlekfmkdkaaGreat
open Go.RowKit Go.Deep
set_option maxRecDepth 100000
set_option linter.unusedVariables false


set_option maxHeartbeats 3000000 in
theorem cs_law (A C : Option Addr) (l : List Da) (cap ccap d : Nat) (t : Ty) (L : List Cn) (w : World) (hr : RDas w w.heap.size A l) (hv : RCs d w w.heap.size C L) :
    Calls Tryz.prog 3 #[.slice A l.length cap, .agg #[.int .i64 t.data, .int .i64 t.index], .slice C L.length ccap] w fun e w' => e = .returned (.bool true) ∧ Below w.heap.size w w' := by
  have Hr := Lib.hid hr
  have HV := Lib.hid hv
  clear hr hv
  generalize hw0 : w.alloc (.cells #[.int .i64 t.data, .int .i64 t.index] 24) = w0
  have hb0w : Below w.heap.size w w0 := by rw [← hw0]; exact (Below.refl _ _).alloc (Nat.le_refl _) _
  have hb00 : Below w0.heap.size w0 w0 := Below.refl _ _
  have HXT : Hid (Bx w0 w.heap.size t) := by rw [← hw0]; exact ⟨by simp [go_sem], by simp [go_sem]⟩
  have HW := Lib.hid hw0
  clear hw0
  by_cases h1 : (wDas l : Int) ≤ 1048576
  · have H1 := Lib.hid (left_ok h1)
    by_cases h2 : (wCs L : Int) ≤ 1048576 - (wDas l : Int)
    · have H2 := Lib.hid (left_ok h2)
      have hnd : wDas l ≤ 1048576 := by omega
      have hnc : wCs L ≤ 1048576 := by omega
      go_enter Tryz.func3, Tryz.ntmps3
      go_wp2_with (first | (go_at_call 7; (try rw [HW.out]); refine (szDataS_any _ l _ _ _ (Hr.out.at_ hb0w) (by omega) (by omega)).mono ?_; rw [H1.out]; rintro e1 w1 ⟨rfl, hb1⟩; have hb10 := below_aft hb00 hb1 hb00.size; have hb1w := below_aft hb0w hb1 hb0w.size) | (go_at_call 8; refine (szCs_any d _ L _ _ _ (HV.out.at_ hb1w) (by omega) (by omega)).mono ?_; rw [H2.out]; rintro e2 w2 ⟨rfl, hb2⟩; have hb20 := below_aft hb10 hb2 hb10.size; have hb2w := below_aft hb1w hb2 hb1w.size))
      have S2 := HXT.out.at_ hb20
      go_region_held3 (fun w' => w'.cell? ⟨w.heap.size, 0, none⟩ = some (.int .i64 t.data) ∧ w'.cell? ⟨w.heap.size, 1, none⟩ = some (.int .i64 t.index)) (first | exact S2 | exact S6 | exact S5 | exact S4 | exact S3 | go_keep) (first | (go_at_call 10; refine (toDataS_any _ l _ _ (by exact Hr.out.at_ hb2w.drew) hnd).mono ?_; rintro e3 w3 ⟨g3, rfl, hf3, hb3'⟩; have hb3 : Below w2.heap.size w2 w3 := ⟨hb3'.os, hb3'.tape, hb3'.output, hb3'.size, hb3'.block⟩; have R3 := Lib.hid hf3.reads; have hb30 := below_aft hb20 hb3 hb20.size; have hb3w := below_aft hb2w hb3 hb2w.size; have S3 := HXT.out.at_ hb30; clear hf3 hb3' hb3) | (go_at_call 11; refine (toType_any _ _ _).mono ?_; rintro e4 w4 ⟨rfl, hb4⟩; have R4 := Lib.hid (R3.out.at_ hb4); have hb40 := below_aft hb30 hb4 hb30.size; have hb4w := below_aft hb3w hb4 hb3w.size; have S4 := HXT.out.at_ hb40; clear hb4) | (go_at_call 12; refine (toCs_any d _ L _ _ (HV.out.at_ hb4w) hnc).mono ?_; rintro e5 w5 ⟨g5, rfl, hf5, hb5⟩; have R5 := Lib.hid (R4.out.at_ hb5); have V5 := Lib.hid hf5; have hb50 := below_aft hb40 hb5 hb40.size; have hb5w := below_aft hb4w hb5 hb4w.size; have S5 := HXT.out.at_ hb50; clear hf5 hb5) | (go_at_call 9; refine (cs_spec _ _ l _ _ d t L _ R5.out V5.out hnc).mono ?_; rintro e6 w6 ⟨rfl, hb6⟩; have hb60 := below_aft hb50 hb6 hb50.size; have hb6w := below_aft hb5w hb6 hb5w.size; have S6 := HXT.out.at_ hb60; clear hb6))
      clear S2 S3 S4 S5 S6 R3 R4 R5 V5 hb3w hb4w hb5w hb30 hb40 hb50
      go_wp2_with (first | (go_at_call 10; refine (toDataS_any _ l _ _ (by exact Hr.out.at_ hb10w) hnd).mono ?_; rintro e11 w11 ⟨g11, rfl, hf11, hb11⟩; have Q11 := Lib.hid hf11.reads; have R11 := Lib.hid (R10.out.at_ hb11); have V11 := Lib.hid (V10.out.at_ hb11); have hb110 := below_aft hb100 hb11 hb100.size; have hb11w := below_aft hb10w hb11 hb10w.size; clear hf11) | (go_at_call 10; refine (toDataS_any _ l _ _ (by exact Hr.out.at_ hb6w) hnd).mono ?_; rintro e7 w7 ⟨g7, rfl, hf7, hb7⟩; have R7 := Lib.hid hf7.reads; have hb70 := below_aft hb60 hb7 hb60.size; have hb7w := below_aft hb6w hb7 hb6w.size; clear hf7) | (go_at_call 12; refine (toCs_any d _ L _ _ (HV.out.at_ hb12w) hnc).mono ?_; rintro e13 w13 ⟨g13, rfl, hf13, hb13⟩; have Q13 := Lib.hid hf13; have V13 := Lib.hid (V12.out.at_ hb13); have hb130 := below_aft hb120 hb13 hb120.size; have hb13w := below_aft hb12w hb13 hb12w.size; clear hf13) | (go_at_call 12; refine (toCs_any d _ L _ _ (HV.out.at_ hb7w) hnc).mono ?_; rintro e8 w8 ⟨g8, rfl, hf8, hb8⟩; have V8 := Lib.hid hf8; have R8 := Lib.hid (R7.out.at_ hb8); have hb80 := below_aft hb70 hb8 hb70.size; have hb8w := below_aft hb7w hb8 hb7w.size; obtain ⟨x0, x1⟩ := HXT.out.at_ hb80; clear hf8) | (go_at_call 11; refine (toType_any _ _ _).mono ?_; rintro e9 w9 ⟨rfl, hb9⟩; have R9 := Lib.hid (R8.out.at_ hb9); have V9 := Lib.hid (V8.out.at_ hb9); have hb90 := below_aft hb80 hb9 hb80.size; have hb9w := below_aft hb8w hb9 hb8w.size) | (go_at_call 13; refine (cs_impl _ _ l _ _ d t L _ R9.out V9.out).mono ?_; rintro e10 w10 ⟨rfl, hb10⟩; have R10 := Lib.hid (R9.out.at_ hb10); have V10 := Lib.hid (V9.out.at_ hb10); have hb100 := below_aft hb90 hb10 hb90.size; have hb10w := below_aft hb9w hb10 hb9w.size) | (go_at_call 14; refine (eqDataS_same _ _ _ _ _ _ R11.out Q11.out).mono ?_; rintro e12 w12 ⟨rfl, hb12⟩; have V12 := Lib.hid (V11.out.at_ hb12); have hb120 := below_aft hb110 hb12 hb110.size; have hb12w := below_aft hb11w hb12 hb11w.size) | (go_at_call 15; refine (eqCs_same d _ _ L _ _ _ V13.out Q13.out).mono ?_; rintro e14 w14 ⟨rfl, hb14⟩; have hb140 := below_aft hb130 hb14 hb130.size; have hb14w := below_aft hb13w hb14 hb13w.size))
      go_ret
      exact ⟨rfl, hb14w⟩
    · have H2 := Lib.hid (left_no h2)
      go_enter Tryz.func3, Tryz.ntmps3
      go_wp2_with (first | (go_at_call 7; (try rw [HW.out]); refine (szDataS_any _ l _ _ _ (Hr.out.at_ hb0w) (by omega) (by omega)).mono ?_; rw [H1.out]; rintro e1 w1 ⟨rfl, hb1⟩; have hb10 := below_aft hb00 hb1 hb00.size; have hb1w := below_aft hb0w hb1 hb0w.size) | (go_at_call 8; refine (szCs_any d _ L _ _ _ (HV.out.at_ hb1w) (by omega) (by omega)).mono ?_; rw [H2.out]; rintro e2 w2 ⟨rfl, hb2⟩; have hb20 := below_aft hb10 hb2 hb10.size; have hb2w := below_aft hb1w hb2 hb1w.size))
      go_ret
      exact ⟨rfl, hb2w⟩
  · have H1 := Lib.hid (left_no h1)
    go_enter Tryz.func3, Tryz.ntmps3
    go_wp2_with (go_at_call 7; (try rw [HW.out]); refine (szDataS_any _ l _ _ _ (Hr.out.at_ hb0w) (by omega) (by omega)).mono ?_; rw [H1.out]; rintro e1 w1 ⟨rfl, hb1⟩; have hb10 := below_aft hb00 hb1 hb00.size; have hb1w := below_aft hb0w hb1 hb0w.size)
    go_ret
    exact ⟨rfl, hb1w⟩
end Go.Proofs.YtphmhlekfmkdkaaGreat
/-
  What an argument that is a value reads as. No statement is proved here.
-/
namespace Go.Proofs.YtphmhlekfmkdkaaGreat
open Go.RowKit Go.Deep
open Go.ChangeShapes Go.WideShapes
set_option maxRecDepth 100000
set_option linter.unusedVariables false

section
variable {H : Type} {enc : TypeId × Value → H} {w : World} {spare : Nat → Bool} {held : Bool}

theorem field_atn {e : TypeId} {fs : Array Field} {fuel : Nat} {cs : List Value} {x : DataW H × List MemPlace} (he : Tryz.prog.underlying e = some (.struct fs)) (hone : oneCellFields Tryz.prog fs = true) (hlen : cs.length = fs.size)
    (h : DataW.trod enc Tryz.prog w 0 spare held fuel e cs = some x) :
    ∃ m, fuel = m + 1 ∧ ∀ (j : Nat) (f : Field), fs[j]? = some f → ∃ v y, cs[j]? = some v ∧ DataW.trod enc Tryz.prog w 0 spare held m f.type [v] = some y := by
  obtain ⟨ys, m, hfu, _, _, hyl, hf⟩ := DataW.trod_struct he h
  refine ⟨m, hfu, fun j f hj => ?_⟩
  obtain ⟨ho, hk⟩ := hone_of hone j f hj
  have hjl : j < fs.size := (Array.getElem?_eq_some_iff.1 hj).1
  have h1 := hf j f hj
  rw [ho, hk] at h1
  have hd : (cs.drop j).take 1 = [cs[j]'(by omega)] := by
    rw [List.drop_eq_getElem_cons (by omega)]; rfl
  rw [hd, List.getElem?_eq_getElem (by omega)] at h1
  exact ⟨_, _, List.getElem?_eq_getElem (by omega), h1⟩

theorem deep_all {P : Nat → Nat → Prop} (hup : ∀ i d d', d ≤ d' → P i d → P i d') : ∀ n, (∀ i, i < n → ∃ d, P i d) → ∃ D, ∀ i, i < n → P i D
  | 0, _ => ⟨0, fun i h => absurd h (Nat.not_lt_zero _)⟩
  | n + 1, h => by
    obtain ⟨D, hD⟩ := deep_all hup n (fun i hi => h i (by omega))
    obtain ⟨d, hd⟩ := h n (by omega)
    refine ⟨max D d, fun i hi => ?_⟩
    by_cases e : i = n
    · subst e; exact hup _ _ _ (Nat.le_max_right _ _) hd
    · exact hup _ _ _ (Nat.le_max_left _ _) (hD i (by omega))

theorem vls_of (fuel : Nat) : ∀ {v : Value} {x : DataW H × List MemPlace}, DataW.trod enc Tryz.prog w 0 spare held fuel 41 [v] = some x → ∃ A l cap, v = .slice A (List.length l) cap ∧ ∃ d, RVs d w w.heap.size A l := by
  induction fuel using Nat.strongRecOn with
  | _ fuel ih =>
    intro v x h
    rcases DataW.trod_slice Tryz.underlying41 h with ⟨hcs, _⟩ | ⟨a, len, cap, elems, rest, n, hfu, hcs, hx, hb, hl, hm, hlen, hel, _, _⟩
    · obtain rfl : v = .slice none 0 0 := by simpa using hcs
      exact ⟨none, [], 0, rfl, 0, RVs.nil⟩
    · obtain rfl : v = .slice (some a) len cap := by simpa using hcs
      have h3 : Tryz.prog.cellsOf 43 = 3 := by kernel_rfl
      have hone : ∀ i, i < len → ∃ (t : Vl), ∃ A c d, w.cell? ((a.add (i * 3)).add 0) = some (.int .i64 t.ctor) ∧ w.cell? ((a.add (i * 3)).add 1) = some (.int .i64 t.n) ∧ w.cell? ((a.add (i * 3)).add 2) = some (.slice A t.kids.length c) ∧ RVs d w w.heap.size A t.kids := by
        intro i hi
        have h1 := hel i hi
        rw [List.getElem?_eq_getElem (by omega)] at h1
        obtain ⟨cs', q1, q2⟩ := Option.bind_eq_some_iff.1 h1
        obtain ⟨_, hl3, hat⟩ := World.cells?_some q1
        rw [h3] at hl3 hat
        obtain ⟨m, hfm, hf⟩ := field_atn Tryz.underlying43 (by kernel_rfl) hl3 q2
        obtain ⟨v0, y0, e0, t0⟩ := hf 0 _ rfl
        obtain ⟨v1, y1, e1, t1⟩ := hf 1 _ rfl
        obtain ⟨v2, y2, e2, t2⟩ := hf 2 _ rfl
        obtain ⟨c, p0, _, _⟩ := DataW.trod_int Tryz.underlying3 t0
        obtain ⟨k, p1, _, _⟩ := DataW.trod_int Tryz.underlying3 t1
        obtain ⟨A, l, cp, rfl, d, hr⟩ := ih m (by omega) t2
        simp only [List.cons.injEq, and_true] at p0 p1
        subst p0 p1
        exact ⟨.mk c k l, A, cp, d, (hat 0 (by omega)).trans e0, (hat 1 (by omega)).trans e1, (hat 2 (by omega)).trans e2, hr⟩
      obtain ⟨f, hf⟩ := choose_lt (α := Vl) (n := len) (p := fun i t => ∃ A c d, w.cell? ((a.add (i * 3)).add 0) = some (.int .i64 t.ctor) ∧ w.cell? ((a.add (i * 3)).add 1) = some (.int .i64 t.n) ∧ w.cell? ((a.add (i * 3)).add 2) = some (.slice A t.kids.length c) ∧ RVs d w w.heap.size A t.kids) hone
      by_cases hz : len = 0
      · subst hz
        exact ⟨some a, [], cap, rfl, 0, RVs.nil⟩
      · have hsp : a.spot = none := by
          obtain ⟨A, c, d, c0, _⟩ := hf 0 (by omega)
          exact spot_of (w := w) (a := a) (by simpa [Addr.add] using c0)
        obtain ⟨b, off, sp⟩ := a
        simp only at hsp
        subst hsp
        obtain ⟨D, hD⟩ := deep_all (P := fun i d => RVl d w w.heap.size b (off + i * 3) (f i)) (fun i d d' hd h => h.more hd) len (fun i hi => by
          obtain ⟨A, c, d, c0, c1, c2, h4, h5⟩ := hf i hi
          simp only [Addr.add_lit, Nat.add_zero] at c0 c1 c2
          exact ⟨d + 1, A, c, by simpa using c0, by simpa using c1, by simpa using c2, h4, h5⟩)
        refine ⟨some ⟨b, off, none⟩, (List.range len).map f, cap, by simp, D, by simp; omega, fun k hk => ?_⟩
        have hk' : k < len := by simpa using hk
        have hbl : b < w.heap.size := by
          obtain ⟨A, c, d, c0, _⟩ := hf k hk'
          simp only [Addr.add_lit, Nat.add_zero] at c0
          exact block_lt_of_cell c0
        exact ⟨b, off, rfl, hbl, by simpa using hD k hk'⟩

/-- An argument that is a value. -/
theorem open_vl {v : Value} {d : DataW H} {ps : List MemPlace} {b0 : Nat} {r : Reach} (hv : Value.okWide Tryz.prog w r b0 43 v) (h : DataW.Trod enc Tryz.prog w 0 spare held 43 v d ps) :
    ∃ (t : Vl) (A : Option Addr) (cap d : Nat), v = .agg #[.int .i64 t.ctor, .int .i64 t.n, .slice A t.kids.length cap] ∧ RVs d w w.heap.size A t.kids := by
  obtain ⟨c0, c1, c2, y0, y1, y2, m, rfl, rfl, rfl, hy0, hy1, hy2⟩ := Go.Joins.open_agg3 Tryz.underlying43 (by kernel_rfl) (by kernel_rfl) hv h
  obtain ⟨a, e0, _, _⟩ := DataW.trod_int Tryz.underlying3 hy0
  obtain ⟨b, e1, _, _⟩ := DataW.trod_int Tryz.underlying3 hy1
  obtain ⟨A, l, cp, rfl, d, hr⟩ := vls_of m hy2
  simp only [List.cons.injEq, and_true] at e0 e1
  subst e0 e1
  exact ⟨.mk a b l, A, cp, d, rfl, hr⟩
end
end Go.Proofs.YtphmhlekfmkdkaaGreat
/-
  What an argument that is a Pt tree reads as. No statement is proved here.
-/
namespace Go.Proofs.YtphmhlekfmkdkaaGreat
open Go.RowKit Go.Deep
open Go.ChangeShapes Go.WideShapes
set_option maxRecDepth 100000
set_option linter.unusedVariables false

section
variable {H : Type} {enc : TypeId × Value → H} {w : World} {spare : Nat → Bool} {held : Bool}

theorem openPs_of (fuel : Nat) : ∀ {v : Value} {x : DataW H × List MemPlace}, DataW.trod enc Tryz.prog w 0 spare held fuel 38 [v] = some x → ∃ A l cap, v = .slice A (List.length l) cap ∧ ∃ d, RPs d w w.heap.size A l := by
  induction fuel using Nat.strongRecOn with
  | _ fuel ih =>
    intro v x h
    rcases DataW.trod_slice Tryz.underlying38 h with ⟨hcs, _⟩ | ⟨a, len, cap, elems, rest, n, hfu, hcs, hx, hb, hl, hm, hlen, hel, _, _⟩
    · obtain rfl : v = .slice none 0 0 := by simpa using hcs
      exact ⟨none, [], 0, rfl, 0, RPs.nil⟩
    · obtain rfl : v = .slice (some a) len cap := by simpa using hcs
      have h3 : Tryz.prog.cellsOf 40 = 6 := by kernel_rfl
      have hone : ∀ i, i < len → ∃ (t : Pt), ∃ A c d, w.cell? ((a.add (i * 6)).add 0) = some (.int .i64 t.op) ∧ w.cell? ((a.add (i * 6)).add 1) = some (.int .i64 t.ctor) ∧ w.cell? ((a.add (i * 6)).add 2) = some (.int .i64 t.n) ∧ w.cell? ((a.add (i * 6)).add 3) = some (.int .i64 t.m) ∧ w.cell? ((a.add (i * 6)).add 4) = some (.int .i64 t.var) ∧ w.cell? ((a.add (i * 6)).add 5) = some (.slice A t.kids.length c) ∧ RPs d w w.heap.size A t.kids := by
        intro i hi
        have h1 := hel i hi
        rw [List.getElem?_eq_getElem (by omega)] at h1
        obtain ⟨cs', q1, q2⟩ := Option.bind_eq_some_iff.1 h1
        obtain ⟨_, hl3, hat⟩ := World.cells?_some q1
        rw [h3] at hl3 hat
        obtain ⟨m, hfm, hf⟩ := field_atn Tryz.underlying40 (by kernel_rfl) hl3 q2
        obtain ⟨v0, y0, e0, t0⟩ := hf 0 _ rfl
        obtain ⟨v1, y1, e1, t1⟩ := hf 1 _ rfl
        obtain ⟨v2, y2, e2, t2⟩ := hf 2 _ rfl
        obtain ⟨v3, y3, e3, t3⟩ := hf 3 _ rfl
        obtain ⟨v4, y4, e4, t4⟩ := hf 4 _ rfl
        obtain ⟨v5, y5, e5, t5⟩ := hf 5 _ rfl
        obtain ⟨z0, p0, _, _⟩ := DataW.trod_int Tryz.underlying3 t0
        obtain ⟨z1, p1, _, _⟩ := DataW.trod_int Tryz.underlying3 t1
        obtain ⟨z2, p2, _, _⟩ := DataW.trod_int Tryz.underlying3 t2
        obtain ⟨z3, p3, _, _⟩ := DataW.trod_int Tryz.underlying3 t3
        obtain ⟨z4, p4, _, _⟩ := DataW.trod_int Tryz.underlying3 t4
        obtain ⟨A, l, cp, rfl, d, hr⟩ := ih m (by omega) t5
        simp only [List.cons.injEq, and_true] at p0 p1 p2 p3 p4
        subst p0 p1 p2 p3 p4
        exact ⟨.mk z0 z1 z2 z3 z4 l, A, cp, d, (hat 0 (by omega)).trans e0, (hat 1 (by omega)).trans e1, (hat 2 (by omega)).trans e2, (hat 3 (by omega)).trans e3, (hat 4 (by omega)).trans e4, (hat 5 (by omega)).trans e5, hr⟩
      obtain ⟨f, hf⟩ := choose_lt (α := Pt) (n := len) (p := fun i t => ∃ A c d, w.cell? ((a.add (i * 6)).add 0) = some (.int .i64 t.op) ∧ w.cell? ((a.add (i * 6)).add 1) = some (.int .i64 t.ctor) ∧ w.cell? ((a.add (i * 6)).add 2) = some (.int .i64 t.n) ∧ w.cell? ((a.add (i * 6)).add 3) = some (.int .i64 t.m) ∧ w.cell? ((a.add (i * 6)).add 4) = some (.int .i64 t.var) ∧ w.cell? ((a.add (i * 6)).add 5) = some (.slice A t.kids.length c) ∧ RPs d w w.heap.size A t.kids) hone
      by_cases hz : len = 0
      · subst hz
        exact ⟨some a, [], cap, rfl, 0, RPs.nil⟩
      · have hsp : a.spot = none := by
          obtain ⟨A, c, d, c0, _⟩ := hf 0 (by omega)
          exact spot_of (w := w) (a := a) (by simpa [Addr.add] using c0)
        obtain ⟨b, off, sp⟩ := a
        simp only at hsp
        subst hsp
        obtain ⟨D, hD⟩ := deep_all (P := fun i d => RPl d w w.heap.size b (off + i * 6) (f i)) (fun i d d' hd h => h.more hd) len (fun i hi => by
          obtain ⟨A, c, d, c0, c1, c2, c3, c4, c5, h8, h9⟩ := hf i hi
          simp only [Addr.add_lit, Nat.add_zero] at c0 c1 c2 c3 c4 c5
          exact ⟨d + 1, A, c, by simpa using c0, by simpa using c1, by simpa using c2, by simpa using c3, by simpa using c4, by simpa using c5, h8, h9⟩)
        refine ⟨some ⟨b, off, none⟩, (List.range len).map f, cap, by simp, D, by simp; omega, fun k hk => ?_⟩
        have hk' : k < len := by simpa using hk
        have hbl : b < w.heap.size := by
          obtain ⟨A, c, d, c0, _⟩ := hf k hk'
          simp only [Addr.add_lit, Nat.add_zero] at c0
          exact block_lt_of_cell c0
        exact ⟨b, off, rfl, hbl, by simpa using hD k hk'⟩

/-- An argument that is such a tree. -/
theorem openP {v : Value} {d : DataW H} {ps : List MemPlace} {b0 : Nat} {r : Reach} (hv : Value.okWide Tryz.prog w r b0 40 v) (h : DataW.Trod enc Tryz.prog w 0 spare held 40 v d ps) :
    ∃ (t : Pt) (A : Option Addr) (cap d : Nat), v = .agg #[.int .i64 t.op, .int .i64 t.ctor, .int .i64 t.n, .int .i64 t.m, .int .i64 t.var, .slice A t.kids.length cap] ∧ RPs d w w.heap.size A t.kids := by
  obtain ⟨cs, rfl, hsz⟩ := okWide_struct Tryz.underlying40 hv
  have h6 : cs.size = 6 := hsz.trans (by kernel_rfl)
  obtain ⟨fuel, hf⟩ := h
  obtain ⟨m, _, hat⟩ := field_atn (cs := cs.toList) Tryz.underlying40 (by kernel_rfl) (by simpa using h6) hf
  obtain ⟨v0, y0, e0, t0⟩ := hat 0 _ rfl
  obtain ⟨v1, y1, e1, t1⟩ := hat 1 _ rfl
  obtain ⟨v2, y2, e2, t2⟩ := hat 2 _ rfl
  obtain ⟨v3, y3, e3, t3⟩ := hat 3 _ rfl
  obtain ⟨v4, y4, e4, t4⟩ := hat 4 _ rfl
  obtain ⟨v5, y5, e5, t5⟩ := hat 5 _ rfl
  have hcs : cs = #[v0, v1, v2, v3, v4, v5] := by
    apply Array.ext'
    apply List.ext_getElem?
    intro i
    match i with
    | 0 => exact e0
    | 1 => exact e1
    | 2 => exact e2
    | 3 => exact e3
    | 4 => exact e4
    | 5 => exact e5
    | i + 6 => rw [List.getElem?_eq_none (by simp; omega), List.getElem?_eq_none (by simp)]
  subst hcs
  clear h6 hsz hf hat hv
  obtain ⟨z0, p0, _, _⟩ := DataW.trod_int Tryz.underlying3 t0
  obtain ⟨z1, p1, _, _⟩ := DataW.trod_int Tryz.underlying3 t1
  obtain ⟨z2, p2, _, _⟩ := DataW.trod_int Tryz.underlying3 t2
  obtain ⟨z3, p3, _, _⟩ := DataW.trod_int Tryz.underlying3 t3
  obtain ⟨z4, p4, _, _⟩ := DataW.trod_int Tryz.underlying3 t4
  obtain ⟨A, l, cp, rfl, d, hr⟩ := openPs_of m t5
  simp only [List.cons.injEq, and_true] at p0 p1 p2 p3 p4
  subst p0 p1 p2 p3 p4
  exact ⟨.mk z0 z1 z2 z3 z4 l, A, cp, d, rfl, hr⟩
end
end Go.Proofs.YtphmhlekfmkdkaaGreat
