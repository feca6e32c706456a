/-
  Worlds and types that are drawn: the document's functions. No statement is proved here.
-/
import Derived.Test.YteoopmogklpnoaaU29
import Derived.Test.YteoopmogklpnoaaU31
import Derived.Test.YteoopmogklpnoaaU34
namespace Go.Proofs.Yteoopmogklpnoaa
open Go.RowKit Go.Deep
set_option maxRecDepth 100000
set_option linter.unusedVariables false
theorem RStrs.lit (w : World) (cs : Array Value) (l : List ByteArray) (h : cs.toList = l.map Value.string) (hl : l.length ≤ maxLen) : RStrs (w.alloc (.cells cs 9)) (some ⟨w.heap.size, 0, none⟩) l :=
  ⟨hl, fun k hk => ⟨w.heap.size, 0, rfl, by simp, by
    rw [Nat.zero_add, cell_of_blk (heap_alloc_new w _)]
    rw [← Array.getElem?_toList, h, List.getElem?_map, List.getElem?_eq_getElem hk]; rfl⟩⟩
theorem RInts.lit (w : World) (cs : Array Value) (l : List Int) (h : cs.toList = l.map (Value.int .i64)) (hl : l.length ≤ maxLen) : RInts (w.alloc (.cells cs 3)) (some ⟨w.heap.size, 0, none⟩) l :=
  ⟨hl, fun k hk => ⟨w.heap.size, 0, rfl, by simp, by
    rw [Nat.zero_add, cell_of_blk (heap_alloc_new w _)]
    rw [← Array.getElem?_toList, h, List.getElem?_map, List.getElem?_eq_getElem hk]; rfl⟩⟩
theorem l1Texts_any (w : World) : Calls Try.prog 112 #[] w fun e w' => e = .returned (.slice (some ⟨w.heap.size, 0, none⟩) 8 8) ∧ RStrs w' (some ⟨w.heap.size, 0, none⟩) texts ∧ Below w.heap.size w w' := by
  have HB : Hid (∀ o : Obj, Below w.heap.size w (w.alloc o)) := fun o => (Below.refl _ _).alloc (Nat.le_refl _) _
  go_enter Try.func112, Try.ntmps112
  go_wp2_with fail
  go_ret
  exact ⟨rfl, RStrs.lit _ _ _ rfl (by rw [texts_len]; unfold maxLen; omega), HB.out _⟩
/-- A valid world was drawn. -/
def Drawn (w : World) (B rb N lo : Nat) (e : Ending) (w' : World) : Prop := ∃ v l, e = .returned v ∧ ODas w' lo v l ∧ 0 < l.length ∧ SmallD 4 l ∧ RRd w' B rb (N + 1) ∧ w.grownBy w' (some rb)
theorem grown_of_below {w w' : World} (h : Below w.heap.size w w') (row : Option Nat) : w.grownBy w' row := ⟨h.os, h.tape, h.output, h.size, fun k hk _ => h.block k hk⟩
theorem small_of_ok {l : List Da} (h : WorldOK l) : SmallD 4 l := by
  refine ⟨h.1, fun d hd => ?_⟩
  obtain ⟨k, hk, rfl⟩ := List.getElem_of_mem hd
  refine ⟨world_four h hk, fun c hc => ?_⟩
  obtain ⟨m, hm, rfl⟩ := List.getElem_of_mem hc
  have := (world_ct_in h hk hm).2.1
  omega
set_option maxHeartbeats 1600000 in
theorem l1World_any (rb B N : Nat) (w : World) (h : RRd w B rb N) (hN : N ≤ 10000000) : Calls Try.prog 81 #[.pointer (some ⟨rb, 0, none⟩)] w (Drawn w B rb N w.heap.size) := by
  have H := Lib.hid h
  have hlt := h.lt
  clear h
  go_enter Try.func81, Try.ntmps81
  go_wp2_with fail
  refine (l1Texts_any _).mono ?_
  rintro e w1 ⟨rfl, hr, hb⟩
  have HR := Lib.hid hr
  have HB := Lib.hid hb
  have H1 := Lib.hid (H.out.below hb)
  clear hr hb
  go_wp2_with fail
  refine (pick_any rb B N 7 _ H1.out hN).mono ?_
  rintro e w2 ⟨k, rfl, hk, hR, hg⟩
  have hk7 : k < 7 := by omega
  obtain ⟨hkl, hgood, hlen, hsz, hne⟩ := text_good hk7
  have hkI : (k : Int) < 8 := by omega
  obtain ⟨b, off, e1, hbB, hc⟩ := HR.out.2 k hkl
  injection e1 with e1
  injection e1 with e1 e2
  subst e1 e2
  have hc2 : w2.cell? ⟨w.heap.size, 0 + k, none⟩ = some (.string texts[k]) := hg.cell hc (fun e => by injection e with e; simp at e; omega)
  rw [Nat.zero_add] at hc2
  have HG := Lib.hid hg
  have HRR := Lib.hid hR
  have HGD := Lib.hid hgood
  generalize texts[k] = s at hc2 HGD hsz hlen hne
  have HNE := Lib.hid hne
  have HLEN := Lib.hid hlen
  clear hg hR hk hc hgood hne hlen
  go_wp2_with fail
  refine (parseWorld_some s _ (by omega) HNE.out).mono ?_
  rintro e w3 ⟨v, rfl, ho, hb3⟩
  have HF : Hid (Drawn w B rb N w.heap.size (.returned v) w3) := by
    rw [pwR_yes HGD.out] at ho
    have hz : w.heap.size ≤ w2.heap.size := Nat.le_trans HB.out.size HG.out.size
    exact ⟨v, _, rfl, ho.lower hz, HLEN.out, small_of_ok HGD.out.2.1, HRR.out.below hb3, ((grown_of_below HB.out _).trans HG.out).trans (grown_of_below hb3 _)⟩
  rw [dec_t HGD.out]
  clear ho hb3
  go_wp2_with fail
  go_ret
  exact HF.out
/-- A type was drawn. -/
def DrawnT (w : World) (B rb N : Nat) (e : Ending) (w' : World) : Prop := ∃ t : Ty, e = .returned (.agg #[.int .i64 t.data, .int .i64 t.index]) ∧ RRd w' B rb N ∧ w.grownBy w' (some rb)
/-- A type in block b. -/
def BoxT (w : World) (b : Nat) (t : Ty) : Prop := w.heap[b]? = some (.cells #[.int .i64 t.data, .int .i64 t.index] 25 (0, 0))
theorem BoxT.c0 {w : World} {b : Nat} {t : Ty} (h : BoxT w b t) : w.cell? ⟨b, 0, none⟩ = some (.int .i64 t.data) := cell_of_blk h 0
theorem BoxT.c1 {w : World} {b : Nat} {t : Ty} (h : BoxT w b t) : w.cell? ⟨b, 1, none⟩ = some (.int .i64 t.index) := cell_of_blk h 1
theorem BoxT.fz {w : World} {b : Nat} {t : Ty} (h : BoxT w b t) (o : Nat) : w.frozen? ⟨b, o, none⟩ = false := free_of_blk h o
theorem BoxT.lt {w : World} {b : Nat} {t : Ty} (h : BoxT w b t) : b < w.heap.size := heap_lt h
theorem BoxT.grown {w w' : World} {b rb : Nat} {t : Ty} (h : BoxT w b t) (hg : w.grownBy w' (some rb)) (hne : b ≠ rb) : BoxT w' b t := (hg.block b h.lt (fun e => hne (by injection e))).trans h
theorem BoxT.alloc {w : World} {b : Nat} {t : Ty} (h : BoxT w b t) (o : Obj) : BoxT (w.alloc o) b t := (Below.heap_alloc _ _ _ h.lt).trans h
theorem grown_set {a w : World} {rb b i : Nat} {u : Value} (h : a.grownBy w (some rb)) (hb : a.heap.size ≤ b) : a.grownBy (w.setCell ⟨b, i, none⟩ u) (some rb) :=
  ⟨h.os, h.tape, h.output, by simpa [World.setCell] using h.size, fun k hk hne => (Below.heap_setCell _ _ _ _ (by simp only; omega)).trans (h.block k hk hne)⟩
theorem grown_alloc {a w : World} {row : Option Nat} (h : a.grownBy w row) (o : Obj) : a.grownBy (w.alloc o) row := h.trans (World.grownBy_alloc w o row)
theorem RRd.alloc {w : World} {B rb N : Nat} (h : RRd w B rb N) (o : Obj) : RRd (w.alloc o) B rb N := h.below ((Below.refl _ _).alloc (Nat.le_refl _) _)
theorem RRd.setCell {w : World} {B rb N : Nat} (h : RRd w B rb N) {b i : Nat} {u : Value} (hb : b ≠ rb) (hB : B ≤ b) : RRd (w.setCell ⟨b, i, none⟩ u) B rb N := by
  obtain ⟨A, m, cap, p, h1, h2, h3, h4, h5⟩ := h
  exact ⟨A, m, cap, p, (Below.heap_setCell _ _ _ _ (by simp only; omega)).trans h1, h2, h3, h4, h5.below ((Below.refl _ _).setCell (p := ⟨b, i, none⟩) hB _)⟩
set_option maxHeartbeats 3200000 in
theorem l1Some_any (rb B N n cap : Nat) (A : Option Addr) (w : World) (h : RRd w B rb N) (hN : N ≤ 90000) (hn : n ≤ maxLen) : Calls Try.prog 43 #[.pointer (some ⟨rb, 0, none⟩), .slice A n cap] w (DrawnT w B rb (N + 4)) := by
  have hlt := h.lt
  have hge := h.ge
  have H0 := Lib.hid (h.alloc (.cells #[.int .i64 0, .int .i64 0] 25))
  have HT0 : Hid (BoxT (w.alloc (.cells #[.int .i64 0, .int .i64 0] 25)) w.heap.size ⟨0, 0⟩) := heap_alloc_new w _
  have HG0 : Hid (w.grownBy (w.alloc (.cells #[.int .i64 0, .int .i64 0] 25)) (some rb)) := World.grownBy_alloc w _ _
  clear h
  unfold maxLen at hn
  go_enter Try.func43, Try.ntmps43
  go_wp2_with fail
  refine (pick_any rb B N 16 _ H0.out (by omega)).mono ?_
  rintro e w1 ⟨k, rfl, hk, hR, hg⟩
  have HR1 := Lib.hid hR
  have HG1 := Lib.hid (HG0.out.trans (hg.andThen (World.grownBy.refl _ _) (fun j e => .inr e)))
  have HT1 := Lib.hid (HT0.out.grown hg (by omega))
  clear hR hg H0 HG0 HT0
  have HI : Hid (∀ (w1 : World) (cs : Array Value) (l : List Int) (h : cs.toList = l.map (Value.int .i64)) (hl : l.length ≤ 100), RInts (w1.alloc (.cells cs 3)) (some ⟨w1.heap.size, 0, none⟩) l) := fun w1 cs l h hl => RInts.lit w1 cs l h (by unfold maxLen; omega)
  have hz1 := HG1.out.size
  by_cases hk0 : k = 0
  · have q : ((k : Int) == 0) = true := ieq_t (by omega)
    clear hk hk0
    go_wp2_with fail
    refine (num_any rb B (N + 1) [-1, -2, 9, 0] _ 4 _ (HR1.out.alloc _) (by omega) (by simp) (HI.out _ _ _ rfl (by simp)) (fun b o e => by injection e with e; injection e with e; omega)).mono ?_
    rintro e w2 ⟨i, hi, rfl, hR, hg⟩
    have HR2 := Lib.hid hR
    have HG2 := Lib.hid ((grown_alloc HG1.out _).trans hg)
    have HT2 := Lib.hid ((HT1.out.alloc _).grown hg (by omega))
    generalize ([-1, -2, 9, 0] : List Int)[i] = a
    have hz2 := HG2.out.size
    clear hR hg HR1 HG1 HT1 hi
    go_wp2_with fail
    refine (num_any rb B (N + 1 + 1) [0, 1, -1, 4] _ 4 _ (HR2.out.alloc _) (by omega) (by simp) (HI.out _ _ _ rfl (by simp)) (fun b o e => by injection e with e; injection e with e; omega)).mono ?_
    rintro e w3 ⟨j, hj, rfl, hR, hg⟩
    have HR3 := Lib.hid hR
    have HG3 := Lib.hid ((grown_alloc HG2.out _).trans hg)
    have HT3 := Lib.hid ((HT2.out.alloc _).grown hg (by omega))
    generalize ([0, 1, -1, 4] : List Int)[j] = b
    have r0 := HT3.out.c0
    have r1 := HT3.out.c1
    have rf := HT3.out.fz
    clear hR hg HR2 HG2 HT2 hj
    go_wp2_with fail
    exact bodyPost_ret (v := .agg #[.int .i64 a, .int .i64 b]) (by simp [results, Try.results43, go_sem, r0, r1]) rfl ⟨⟨a, b⟩, rfl, ((HR3.out.setCell (by omega) (by omega)).setCell (by omega) (by omega)).more (by omega), grown_set (grown_set HG3.out (Nat.le_refl _)) (Nat.le_refl _)⟩
  · have q : ((k : Int) == 0) = false := ieq_f (by omega)
    clear hk hk0
    go_wp2_with fail
    refine (pick_any rb B (N + 1) 8 _ HR1.out (by omega)).mono ?_
    rintro e w2 ⟨k2, rfl, hk2, hR, hg⟩
    have HR2 := Lib.hid hR
    have HG2 := Lib.hid (HG1.out.trans hg)
    have HT2 := Lib.hid (HT1.out.grown hg (by omega))
    have hz2 := HG2.out.size
    clear hR hg HR1 HG1 HT1
    by_cases hk0 : k2 = 0
    · have q2 : ((k2 : Int) == 0) = true := ieq_t (by omega)
      have r0 := HT2.out.c0
      have r1 := HT2.out.c1
      have rf := HT2.out.fz
      clear hk2 hk0
      go_wp2_with fail
      exact bodyPost_ret (v := .agg #[.int .i64 (-1), .int .i64 0]) (by simp [results, Try.results43, go_sem, r0, r1]) rfl ⟨⟨-1, 0⟩, rfl, ((HR2.out.setCell (by omega) (by omega)).setCell (by omega) (by omega)).more (by omega), grown_set (grown_set HG2.out (Nat.le_refl _)) (Nat.le_refl _)⟩
    · have q2 : ((k2 : Int) == 0) = false := ieq_f (by omega)
      clear hk2 hk0
      go_wp2_with fail
      refine (pick_any rb B (N + 1 + 1) n _ HR2.out (by omega)).mono ?_
      rintro e w3 ⟨k3, rfl, hk3, hR, hg⟩
      have HR3 := Lib.hid hR
      have HG3 := Lib.hid (HG2.out.trans hg)
      have HT3 := Lib.hid (HT2.out.grown hg (by omega))
      have hz3 := HG3.out.size
      clear hR hg HR2 HG2 HT2 hk3
      go_wp2_with fail
      refine (num_any rb B (N + 1 + 1 + 1) [0, 0, 1, 2, 0, 3] _ 6 _ (HR3.out.alloc _) (by omega) (by simp) (HI.out _ _ _ rfl (by simp)) (fun b o e => by injection e with e; injection e with e; omega)).mono ?_
      rintro e w4 ⟨j, hj, rfl, hR, hg⟩
      have HR4 := Lib.hid hR
      have HG4 := Lib.hid ((grown_alloc HG3.out _).trans hg)
      have HT4 := Lib.hid ((HT3.out.alloc _).grown hg (by omega))
      generalize ([0, 0, 1, 2, 0, 3] : List Int)[j] = b
      have r0 := HT4.out.c0
      have r1 := HT4.out.c1
      have rf := HT4.out.fz
      clear hR hg HR3 HG3 HT3 hj
      go_wp2_with fail
      exact bodyPost_ret (v := .agg #[.int .i64 k3, .int .i64 b]) (by simp [results, Try.results43, go_sem, r0, r1]) rfl ⟨⟨k3, b⟩, rfl, ((HR4.out.setCell (by omega) (by omega)).setCell (by omega) (by omega)).more (by omega), grown_set (grown_set HG4.out (Nat.le_refl _)) (Nat.le_refl _)⟩
end Go.Proofs.Yteoopmogklpnoaa
