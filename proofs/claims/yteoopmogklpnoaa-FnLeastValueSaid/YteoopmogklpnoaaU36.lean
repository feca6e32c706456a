/-
  A world that is sometimes made invalid: the document's function. No statement is proved here.
-/
import Derived.Test.YteoopmogklpnoaaU33
import Derived.Test.YteoopmogklpnoaaU35
import Derived.Test.YteoopmogklpnoaaU18
namespace Go.Proofs.Yteoopmogklpnoaa
open Go.RowKit Go.Deep
set_option maxRecDepth 100000
set_option linter.unusedVariables false
/-- What is returned: some world in rows of the call's own. -/
def Muted (w : World) (B rb M N : Nat) (e : Ending) (w' : World) : Prop := ∃ v n, e = .returned v ∧ XDas w' w.heap.size N v n ∧ 0 < n ∧ RRd w' B rb M ∧ w.grownBy w' (some rb)
theorem Muted.mk (w w' : World) (B rb M M' N N' n : Nat) (v : Value) (hx : XDas w' w.heap.size N v n) (hn : 0 < n) (hr : RRd w' B rb M) (hg : w.grownBy w' (some rb)) (hM : M ≤ M') (hN : N ≤ N') : Muted w B rb M' N' (.returned v) w' :=
  ⟨v, n, rfl, hx.keepT (KeepT.below _ _ (Below.refl _ _)) hN, hn, hr.more hM, hg⟩
def strs1 : List ByteArray := [⟨#[73]⟩, ⟨#[]⟩, ⟨#[97]⟩, ⟨#[76, 76]⟩, ⟨#[90]⟩]
def strs2 : List ByteArray := [⟨#[]⟩, ⟨#[110, 105, 108]⟩, ⟨#[84, 111, 111, 108, 111, 110, 103]⟩, ⟨#[88]⟩]
theorem strs_small {k : Nat} (l : List ByteArray) (h : l = strs1 ∨ l = strs2) (hk : k < l.length) : l[k].size ≤ maxLen := by
  have : ∀ x ∈ l, x.size ≤ 100 := by rcases h with rfl | rfl <;> decide +kernel
  have := this _ (List.getElem_mem hk)
  unfold maxLen; omega
theorem RRd.grown_ {w w' : World} {B rb N g : Nat} (h : RRd w B rb N) (hg : w.grownBy w' (some g)) (hne : g ≠ rb) (hB : B ≤ g) : RRd w' B rb N := by
  obtain ⟨A, m, cap, p, h1, h2, h3, h4, h5⟩ := h
  refine ⟨A, m, cap, p, (hg.block rb (heap_lt h1) (fun e => hne (by injection e with e; exact e.symm))).trans h1, h2, h3, h4, fun k hk => ?_⟩
  obtain ⟨b, off, x, e, hb, hc, hx⟩ := h5 k hk
  exact ⟨b, off, x, e, hb, hg.cell hc (fun e => by injection e with e; simp only at e; omega), hx⟩
theorem RRd.drew {w : World} {B rb N : Nat} (h : RRd w B rb N) : RRd w.drew B rb N := h
theorem RStrs.drew {w : World} {A : Option Addr} {l : List ByteArray} (h : RStrs w A l) : RStrs w.drew A l := h
theorem RInts.drew {w : World} {A : Option Addr} {l : List Int} (h : RInts w A l) : RInts w.drew A l := h
theorem grown_drew {w w' : World} {row : Option Nat} (h : w.drew.grownBy w' row) : w.grownBy w' row := ⟨h.os, h.tape, h.output, h.size, h.block⟩
theorem RStrs.lit2 (w : World) (cs : Array Value) (l : List ByteArray) (h : cs.toList = l.map Value.string) (hl : l.length ≤ maxLen) : RStrs (w.alloc (.cells cs 9)).drew (some ⟨w.heap.size, 0, none⟩) l := RStrs.lit w cs l h hl
theorem RInts.lit2 (w : World) (cs : Array Value) (l : List Int) (h : cs.toList = l.map (Value.int .i64)) (hl : l.length ≤ maxLen) : RInts (w.alloc (.cells cs 3)).drew (some ⟨w.heap.size, 0, none⟩) l := RInts.lit w cs l h hl
theorem RInts.alloc {w : World} {A : Option Addr} {l : List Int} (h : RInts w A l) (o : Obj) : RInts (w.alloc o) A l := h.at_ ((Below.refl _ _).alloc (Nat.le_refl _) _)
theorem RInts.grown_ {w w' : World} {b rb : Nat} {l : List Int} (h : RInts w (some ⟨b, 0, none⟩) l) (hg : w.grownBy w' (some rb)) (hne : b ≠ rb) : RInts w' (some ⟨b, 0, none⟩) l :=
  ⟨h.1, fun k hk => by
    obtain ⟨b', off, e, hlt, hc⟩ := h.2 k hk
    injection e with e
    injection e with e1 e2
    subst e1 e2
    exact ⟨b, 0, rfl, Nat.lt_of_lt_of_le hlt hg.size, hg.cell hc (fun e => hne (by injection e))⟩⟩
theorem RRd.belowLo {w w' : World} {B rb N lo : Nat} (h : RRd w B rb N) (hb : Below lo w w') (hl : rb < lo) : RRd w' B rb N := by
  obtain ⟨A, m, cap, p, h1, h2, h3, h4, h5⟩ := h
  exact ⟨A, m, cap, p, (hb.block rb hl).trans h1, h2, h3, h4, h5.below (hb.mono (by omega))⟩
theorem grown_more {a w w' : World} {rb : Nat} (h : a.grownBy w (some rb)) (hb : Below a.heap.size w w') : a.grownBy w' (some rb) :=
  ⟨hb.os.trans h.os, hb.tape.trans h.tape, hb.output.trans h.output, Nat.le_trans h.size hb.size, fun k hk hne => (hb.block k hk).trans (h.block k hk hne)⟩
theorem of_n (rb B N n : Nat) (l : List ByteArray) (hn : l.length = n) (A : Option Addr) (cap : Nat) (w : World) (h : RRd w B rb N) (hN : N ≤ 10000000) (hl : 1 ≤ l.length) (hr : RStrs w A l) (ha : ∀ b o, A = some ⟨b, o, none⟩ → b ≠ rb) :
    Calls Try.prog 85 #[.pointer (some ⟨rb, 0, none⟩), .slice A n cap] w (PickedS w B rb N l) := by subst hn; exact of_any rb B N l A cap w h hN hl hr ha
theorem num_n (rb B N n : Nat) (l : List Int) (hn : l.length = n) (A : Option Addr) (cap : Nat) (w : World) (h : RRd w B rb N) (hN : N ≤ 10000000) (hl : 1 ≤ l.length) (hr : RInts w A l) (ha : ∀ b o, A = some ⟨b, o, none⟩ → b ≠ rb) :
    Calls Try.prog 76 #[.pointer (some ⟨rb, 0, none⟩), .slice A n cap] w (PickedI w B rb N l) := by subst hn; exact num_any rb B N l A cap w h hN hl hr ha
theorem if_of {p : Bool} {A E : Prop} (h : p = true) (g : if p = true then A else E) : A := by rw [if_pos h] at g; exact g
set_option maxHeartbeats 8000000 in
theorem l1Mutate_any (A : Option Addr) (B rb M lo N n cap : Nat) (w : World) (h : XDas w lo N (.slice A n cap) n) (hN : N ≤ 900) (hn : 0 < n) (hr : RRd w B rb M) (hM : M ≤ 90000) : Calls Try.prog 44 #[.pointer (some ⟨rb, 0, none⟩), .slice A n cap] w (Muted w B rb (M + 4) (N + 1)) := by
  obtain ⟨i33, hi33, hy0, hy1, hy2⟩ := info_parts info34
  obtain ⟨i28, hi28, hw0, hw1, hw2⟩ := info_parts info28
  have H := Lib.hid h
  have HR := Lib.hid hr
  have hlt := hr.lt
  clear h hr
  go_enter Try.func44, Try.ntmps44
  go_wp2_with fail
  refine (l1Copy_any A lo N n cap w H.out (by omega)).mono ?_
  rintro e w1 ⟨v5, rfl, hx, hb⟩
  obtain ⟨A5, c5, rfl⟩ := hx.form
  have HX1 := Lib.hid hx
  have HB1 := Lib.hid (grown_of_below hb (some rb))
  have HR1 := Lib.hid (HR.out.below hb)
  clear hx hb HR H
  go_wp2_with fail
  refine (pick_any rb B M n _ HR1.out (by omega)).mono ?_
  rintro e w2 ⟨d, rfl, hd, hR, hg⟩
  have hdn : d < n := by omega
  have hdI : (d : Int) < (n : Int) := by omega
  have HR2 := Lib.hid hR
  have HG2 := Lib.hid (HB1.out.trans hg)
  have HX2 : Hid (XDas w2 w.heap.size N (.slice A5 n c5) n) := HX1.out.keepT ((Stays.grown hg hlt).keepT _) (Nat.le_refl _)
  clear hR hg hd HX1 HB1 HR1
  obtain ⟨g, cp, s, u, m, e, hlg, hgs, ⟨cs, hcs⟩, c0, hss, c1, hu⟩ := HX2.out.at_ hdn
  injection e with e1 e2 e3
  subst e1 e3
  obtain ⟨Au, cu, rfl⟩ := hu.form
  have HU := Lib.hid hu
  have HCS := Lib.hid hcs
  have HC1 := Lib.hid c1
  clear hu hcs
  by_cases hm : m = 0
  · have q : ((m : Int) == 0) = true := ieq_t (by omega)
    have HF := Lib.hid (Muted.mk w w2 B rb _ (M + 4) N (N + 1) n _ HX2.out hn HR2.out HG2.out (by omega) (by omega))
    clear hm
    go_wp2_with fail
    go_ret
    exact HF.out
  · have q : ((m : Int) == 0) = false := ieq_f (by omega)
    have hm1 : 0 < m := by omega
    clear hm
    go_wp2_with fail
    refine (pick_any rb B (M + 1) 30 _ HR2.out (by omega)).mono ?_
    rintro e w3 ⟨k, rfl, hk, hR, hg⟩
    have HR3 := Lib.hid hR
    have HG3 := Lib.hid (HG2.out.trans hg)
    have HS3 := Lib.hid (Stays.grown hg hlt)
    have HX3 : Hid (XDas w3 w.heap.size N (.slice (some ⟨g, 0, none⟩) n c5) n) := HX2.out.keepT (HS3.out.keepT _) (Nat.le_refl _)
    have HU3 : Hid (XCts w3 w.heap.size N (.slice Au m cu) m) := HU.out.keepT (HS3.out.keepT _) (Nat.le_refl _)
    have HCS3 : Hid (w3.heap[g]? = some (.cells cs 144 (0, 0))) := (HS3.out.2 g hlg hgs).trans HCS.out
    have c0' := (World.cell?_of_block (a := ⟨g, d * 2, none⟩) (HS3.out.2 g hlg hgs)).trans c0
    have c1' := (World.cell?_of_block (a := ⟨g, d * 2 + 1, none⟩) (HS3.out.2 g hlg hgs)).trans c1
    have cf : ∀ i, w3.frozen? ⟨g, i, none⟩ = false := free_of_blk HCS3.out
    have hz3 := HG3.out.size
    have hge := HR3.out.ge
    have hg3 : g < w3.heap.size := heap_lt HCS3.out
    clear hR hg hk HR2 HG2 HX2 HU HCS HC1 c0 c1
    by_cases k0 : k = 0
    · have p0 : ((k : Int) == 0) = true := ieq_t (by omega)
      clear k0
      go_wp2_with fail
      refine (of_any rb B (M + 1 + 1) strs1 _ 5 _ (HR3.out.alloc _) (by omega) (by decide) (RStrs.lit _ _ _ rfl (by decide)) (fun b o e => by injection e with e; injection e with e; omega)).mono ?_
      rintro e w4 ⟨j, hj, rfl, hR, hg⟩
      have hsj := strs_small strs1 (.inl rfl) hj
      generalize strs1[j] = nm at hsj
      have HS4 := Lib.hid (Stays.trans (Stays.below ((Below.refl _ _).alloc (Nat.le_refl _) _)) (Stays.grown hg hlt))
      have hcs4 : w4.heap[g]? = some (.cells cs 144 (0, 0)) := (HS4.out.2 g hlg hg3).trans HCS3.out
      have HF := Lib.hid (Muted.mk w (w4.setCell ⟨g, d * 2, none⟩ (.string nm)) B rb _ (M + 4) N (N + 1) n _ ((HX3.out.keepT (HS4.out.keepT _) (Nat.le_refl _)).set28 hcs4 (.inl ⟨by omega, nm, rfl, hsj⟩)) hn (hR.setCell (by omega) (by have := HR3.out.ge; omega)) (grown_set ((grown_alloc HG3.out _).trans hg) hlg) (by omega) (by omega))
      have d0 := (World.cell?_of_block (a := ⟨g, d * 2, none⟩) (HS4.out.2 g hlg hg3)).trans c0'
      have df : ∀ i, w4.frozen? ⟨g, i, none⟩ = false := free_of_blk hcs4
      clear hR hg hcs4 hj hsj
      go_wp2_with fail
      go_ret
      exact HF.out
    · have p0 : ((k : Int) == 0) = false := ieq_f (by omega)
      by_cases k1 : k = 1
      · have p1 : ((k : Int) == 1) = true := ieq_t (by omega)
        have HXN : Hid (XCts (w3.alloc (.cells #[] 148)) w.heap.size N (.slice (some ⟨w3.heap.size, 0, none⟩) 0 0) 0) :=
          ⟨[], by simpa using World.ownsRow_lit (base := w.heap.size) (e := 148) (size := 3) w3 #[] 0 hz3 (by simp) rfl, Nat.zero_le _, fun j h => absurd h (by omega)⟩
        have hcs4 : (w3.alloc (.cells #[] 148)).heap[g]? = some (.cells cs 144 (0, 0)) := (Below.heap_alloc _ _ _ hg3).trans HCS3.out
        have HF := Lib.hid (Muted.mk w ((w3.alloc (.cells #[] 148)).setCell ⟨g, d * 2 + 1, none⟩ (.slice (some ⟨w3.heap.size, 0, none⟩) 0 0)) B rb _ (M + 4) N (N + 1) n _ ((HX3.out.keepT (KeepT.alloc _ _ _ _) (Nat.le_refl _)).set28 hcs4 (.inr ⟨by omega, 0, HXN.out⟩)) hn ((HR3.out.alloc _).setCell (by omega) (by have := HR3.out.ge; omega)) (grown_set (grown_alloc HG3.out _) hlg) (by omega) (by omega))
        have hF := HF.out
        rw [World.setCell_alloc_past _ _ _ _ hg3] at hF
        have HF' := Lib.hid hF
        clear k0 k1 hcs4 hF HF
        go_wp2_with fail
        go_ret
        exact HF'.out
      · have p1 : ((k : Int) == 1) = false := ieq_f (by omega)
        obtain ⟨g', cp', s', u', m', i', e, hlg', hgs', ⟨cs', hcs'⟩, e0, hss', e1, hu', e2⟩ := HU3.out.at_ hm1
        injection e with ea eb ec
        subst ea ec
        rw [Nat.zero_mul] at e0
        have HCS' := Lib.hid hcs'
        have HU' := Lib.hid hu'
        have hmI : (0 : Int) < (m : Int) := by omega
        have ef : ∀ i, w3.frozen? ⟨g', i, none⟩ = false := free_of_blk hcs'
        have hgg : ¬ g' = g := other_blk HCS3.out hcs' (by decide)
        have HNE : Hid (∀ (wx : World) (q i : Nat) (u x : Value), wx.cell? ⟨g, i, none⟩ = some x → (wx.setCell ⟨g', q, none⟩ u).cell? ⟨g, i, none⟩ = some x) := fun wx q i u x h => (World.cell?_setCell_other _ _ _ _ (fun e => hgg (by injection e))).trans h
        clear hcs' hu'
        by_cases k2 : k = 2
        · have p2 : ((k : Int) == 2) = true := ieq_t (by omega)
          clear k0 k1 k2
          go_wp2_with fail
          go_region_held3 (fun w' => w'.cell? ⟨g, d * 2 + 1, none⟩ = some (.slice (some ⟨g', 0, none⟩) m cu)) (first | exact c1' | exact d1 | exact HNE.out _ _ _ _ _ d1 | go_keep) (first | (go_at_call 85; refine (of_n rb B (M + 1 + 1) 4 strs2 rfl _ 4 _ (HR3.out.alloc _).drew (by omega) (by decide) (RStrs.lit2 _ _ _ rfl (by decide)) (fun b o e => by injection e with e; injection e with e; omega)).mono ?_; rintro e w4 ⟨j, hj, rfl, hR, hg'⟩; have hg := grown_drew hg'; have HS4 := Lib.hid (Stays.trans (Stays.below (lo := w.heap.size) ((Below.refl _ _).alloc (Nat.le_refl _) _)) (Stays.grown hg hlt)); have d1 := (World.cell?_of_block (a := ⟨g, d * 2 + 1, none⟩) (HS4.out.2 g hlg hg3)).trans c1'; have hcs4 : w4.heap[g']? = some (.cells cs' 148 (0, 0)) := (HS4.out.2 g' hlg' hgs').trans HCS'.out; have df : ∀ i, w4.frozen? ⟨g', i, none⟩ = false := free_of_blk hcs4; have d0 := (World.cell?_of_block (a := ⟨g', 0, none⟩) (HS4.out.2 g' hlg' hgs')).trans e0))
          all_goals
            have hsj := strs_small strs2 (.inr rfl) hj
            generalize strs2[j] = nm at hsj
            have HF := Lib.hid (Muted.mk w (w4.setCell ⟨g', 0, none⟩ (.string nm)) B rb _ (M + 4) N (N + 1) n _ ((HX3.out.keepT (HS4.out.keepT _) (Nat.le_refl _)).set31 hcs4 (.inl ⟨by omega, nm, rfl, hsj⟩)) hn (hR.setCell (by omega) (by have := HR3.out.ge; omega)) (grown_set ((grown_alloc HG3.out _).trans hg) hlg') (by omega) (by omega))
            clear hR hg hg' hcs4 hsj d1 d0 df
            go_wp2_with fail
            go_ret
            exact HF.out
        · have p2 : ((k : Int) == 2) = false := ieq_f (by omega)
          by_cases k3 : k = 3
          · have p3 : ((k : Int) == 3) = true := ieq_t (by omega)
            rw [Nat.zero_mul] at e1
            obtain ⟨Au', cu', rfl⟩ := HU'.out.form
            have hm9 : m' ≤ 1000 := by have := HU'.out.choose_spec.2.1; omega
            have HPA : Hid (Calls Try.prog 76 #[.pointer (some ⟨rb, 0, none⟩), .slice (some ⟨w3.heap.size, 0, none⟩) 4 4] (w3.alloc (.cells #[.int .i64 9, .int .i64 (-2), .int .i64 0, .int .i64 (-1)] 3)).drew (PickedI (w3.alloc (.cells #[.int .i64 9, .int .i64 (-2), .int .i64 0, .int .i64 (-1)] 3)).drew B rb (M + 1 + 1) [9, -2, 0, -1])) :=
              num_n rb B (M + 1 + 1) 4 [9, -2, 0, -1] rfl _ 4 _ (HR3.out.alloc _).drew (by omega) (by decide) (RInts.lit2 _ _ _ rfl (by decide)) (fun b o e => by injection e with e; injection e with e; omega)
            have HPB : Hid (Calls Try.prog 76 #[.pointer (some ⟨rb, 0, none⟩), .slice (some ⟨w3.heap.size, 0, none⟩) 4 4] ((w3.alloc (.cells #[.int .i64 9, .int .i64 (-2), .int .i64 0, .int .i64 (-1)] 3)).alloc (.cells #[.int .i64 0, .int .i64 4, .int .i64 (-1), .int .i64 (-2)] 3)).drew (PickedI ((w3.alloc (.cells #[.int .i64 9, .int .i64 (-2), .int .i64 0, .int .i64 (-1)] 3)).alloc (.cells #[.int .i64 0, .int .i64 4, .int .i64 (-1), .int .i64 (-2)] 3)).drew B rb (M + 1 + 1) [9, -2, 0, -1])) :=
              num_n rb B (M + 1 + 1) 4 [9, -2, 0, -1] rfl _ 4 _ ((HR3.out.alloc _).alloc _).drew (by omega) (by decide) (RInts.alloc (RInts.lit _ _ _ rfl (by decide)) _).drew (fun b o e => by injection e with e; injection e with e; omega)
            have HPC : Hid (Calls Try.prog 76 #[.pointer (some ⟨rb, 0, none⟩), .slice (some ⟨w3.heap.size + 1, 0, none⟩) 4 4] ((w3.alloc (.cells #[.int .i64 0, .int .i64 4, .int .i64 (-1), .int .i64 (-2)] 3)).alloc (.cells #[.int .i64 9, .int .i64 (-2), .int .i64 0, .int .i64 (-1)] 3)).drew (PickedI ((w3.alloc (.cells #[.int .i64 0, .int .i64 4, .int .i64 (-1), .int .i64 (-2)] 3)).alloc (.cells #[.int .i64 9, .int .i64 (-2), .int .i64 0, .int .i64 (-1)] 3)).drew B rb (M + 1 + 1) [9, -2, 0, -1])) :=
              num_n rb B (M + 1 + 1) 4 [9, -2, 0, -1] rfl _ 4 _ ((HR3.out.alloc _).alloc _).drew (by omega) (by decide) (by have := RInts.lit (w3.alloc (.cells #[.int .i64 0, .int .i64 4, .int .i64 (-1), .int .i64 (-2)] 3)) #[.int .i64 9, .int .i64 (-2), .int .i64 0, .int .i64 (-1)] [9, -2, 0, -1] rfl (by decide); simpa using this.drew) (fun b o e => by injection e with e; injection e with e; omega)
            clear k0 k1 k2 k3
            go_wp2_with fail
            refine Till.start (S := fun w' => w'.cell? ⟨g, d * 2 + 1, none⟩ = some (.slice (some ⟨g', 0, none⟩) m cu) ∧ w'.cell? ⟨g', 0 + 1, none⟩ = some (.slice Au' m' cu')) (z := 24) (by kernel_rfl) ?_
            have HS0 : w3.drew.cell? ⟨g, d * 2 + 1, none⟩ = some (.slice (some ⟨g', 0, none⟩) m cu) ∧ w3.drew.cell? ⟨g', 0 + 1, none⟩ = some (.slice Au' m' cu') := ⟨c1', e1⟩
            refine Till.take_ (i := 0) (d := some 53) (v := .slice (some ⟨g, 0, none⟩) n c5) (ls' := #[true, false, false, false, false, false, false, false, false, false, false, false, false, false, false, false, false, false, false, false, false, false, false, false, false]) rfl rfl (by kernel_rfl) (by kernel_rfl) (by kernel_rfl) (by kernel_rfl) (fun _ _ _ h => h) HS0 (Or.inl ⟨by rfl, fun wq hSw => ?_⟩) (by kernel_rfl) ?_
            · obtain ⟨hs1, hs2⟩ := hSw
              go_simp
            simp only [Act.put, List.setIfInBounds_toArray, List.set_cons_zero, List.set_cons_succ]
            refine Till.take_ (i := 1) (d := some 54) (v := .int .i64 d) (ls' := #[true, true, false, false, false, false, false, false, false, false, false, false, false, false, false, false, false, false, false, false, false, false, false, false, false]) rfl rfl (by kernel_rfl) (by kernel_rfl) (by kernel_rfl) (by kernel_rfl) (fun _ _ _ h => h) HS0 (Or.inl ⟨by rfl, fun wq hSw => ?_⟩) (by kernel_rfl) ?_
            · obtain ⟨hs1, hs2⟩ := hSw
              go_simp
            simp only [Act.put, List.setIfInBounds_toArray, List.set_cons_zero, List.set_cons_succ]
            refine Till.take_ (i := 2) (d := some 55) (v := .pointer (some ⟨g, d * 2, none⟩)) (ls' := #[true, true, true, false, false, false, false, false, false, false, false, false, false, false, false, false, false, false, false, false, false, false, false, false, false]) rfl rfl (by kernel_rfl) (by kernel_rfl) (by kernel_rfl) (by kernel_rfl) (fun _ _ _ h => h) HS0 (Or.inl ⟨by rfl, fun wq hSw => ?_⟩) (by kernel_rfl) ?_
            · obtain ⟨hs1, hs2⟩ := hSw
              go_simp
            simp only [Act.put, List.setIfInBounds_toArray, List.set_cons_zero, List.set_cons_succ]
            refine Till.take_ (i := 3) (d := some 56) (v := .pointer (some ⟨g, d * 2 + 1, none⟩)) (ls' := #[true, true, true, true, false, false, false, false, false, false, false, false, false, false, false, false, false, false, false, false, false, false, false, false, false]) rfl rfl (by kernel_rfl) (by kernel_rfl) (by kernel_rfl) (by kernel_rfl) (fun _ _ _ h => h) HS0 (Or.inl ⟨by rfl, fun wq hSw => ?_⟩) (by kernel_rfl) ?_
            · obtain ⟨hs1, hs2⟩ := hSw
              go_simp
            simp only [Act.put, List.setIfInBounds_toArray, List.set_cons_zero, List.set_cons_succ]
            refine Till.take_ (i := 4) (d := some 57) (v := .slice (some ⟨g', 0, none⟩) m cu) (ls' := #[true, true, true, true, true, false, false, false, false, false, false, false, false, false, false, false, false, false, false, false, false, false, false, false, false]) rfl rfl (by kernel_rfl) (by kernel_rfl) (by kernel_rfl) (by kernel_rfl) (fun _ _ _ h => h) HS0 (Or.inl ⟨by rfl, fun wq hSw => ?_⟩) (by kernel_rfl) ?_
            · obtain ⟨hs1, hs2⟩ := hSw
              go_simp
            simp only [Act.put, List.setIfInBounds_toArray, List.set_cons_zero, List.set_cons_succ]
            refine Till.take_ (i := 5) (d := some 58) (v := .slice (some ⟨g, 0, none⟩) n c5) (ls' := #[true, true, true, true, true, true, false, false, false, false, false, false, false, false, false, false, false, false, false, false, false, false, false, false, false]) rfl rfl (by kernel_rfl) (by kernel_rfl) (by kernel_rfl) (by kernel_rfl) (fun _ _ _ h => h) HS0 (Or.inl ⟨by rfl, fun wq hSw => ?_⟩) (by kernel_rfl) ?_
            · obtain ⟨hs1, hs2⟩ := hSw
              go_simp
            simp only [Act.put, List.setIfInBounds_toArray, List.set_cons_zero, List.set_cons_succ]
            refine Till.take_ (i := 6) (d := some 59) (v := .int .i64 d) (ls' := #[true, true, true, true, true, true, true, false, false, false, false, false, false, false, false, false, false, false, false, false, false, false, false, false, false]) rfl rfl (by kernel_rfl) (by kernel_rfl) (by kernel_rfl) (by kernel_rfl) (fun _ _ _ h => h) HS0 (Or.inl ⟨by rfl, fun wq hSw => ?_⟩) (by kernel_rfl) ?_
            · obtain ⟨hs1, hs2⟩ := hSw
              go_simp
            simp only [Act.put, List.setIfInBounds_toArray, List.set_cons_zero, List.set_cons_succ]
            refine Till.take_ (i := 7) (d := some 60) (v := .pointer (some ⟨g, d * 2, none⟩)) (ls' := #[true, true, true, true, true, true, true, true, false, false, false, false, false, false, false, false, false, false, false, false, false, false, false, false, false]) rfl rfl (by kernel_rfl) (by kernel_rfl) (by kernel_rfl) (by kernel_rfl) (fun _ _ _ h => h) HS0 (Or.inl ⟨by rfl, fun wq hSw => ?_⟩) (by kernel_rfl) ?_
            · obtain ⟨hs1, hs2⟩ := hSw
              go_simp
            simp only [Act.put, List.setIfInBounds_toArray, List.set_cons_zero, List.set_cons_succ]
            refine Till.take_ (i := 8) (d := some 61) (v := .pointer (some ⟨g, d * 2 + 1, none⟩)) (ls' := #[true, true, true, true, true, true, true, true, true, false, false, false, false, false, false, false, false, false, false, false, false, false, false, false, false]) rfl rfl (by kernel_rfl) (by kernel_rfl) (by kernel_rfl) (by kernel_rfl) (fun _ _ _ h => h) HS0 (Or.inl ⟨by rfl, fun wq hSw => ?_⟩) (by kernel_rfl) ?_
            · obtain ⟨hs1, hs2⟩ := hSw
              go_simp
            simp only [Act.put, List.setIfInBounds_toArray, List.set_cons_zero, List.set_cons_succ]
            refine Till.take_ (i := 9) (d := some 62) (v := .slice (some ⟨g', 0, none⟩) m cu) (ls' := #[true, true, true, true, true, true, true, true, true, true, false, false, false, false, false, false, false, false, false, false, false, false, false, false, false]) rfl rfl (by kernel_rfl) (by kernel_rfl) (by kernel_rfl) (by kernel_rfl) (fun _ _ _ h => h) HS0 (Or.inl ⟨by rfl, fun wq hSw => ?_⟩) (by kernel_rfl) ?_
            · obtain ⟨hs1, hs2⟩ := hSw
              go_simp
            simp only [Act.put, List.setIfInBounds_toArray, List.set_cons_zero, List.set_cons_succ]
            refine Till.take_ (i := 10) (d := some 63) (v := .pointer (some ⟨g', 0, none⟩)) (ls' := #[true, true, true, true, true, true, true, true, true, true, true, false, false, false, false, false, false, false, false, false, false, false, false, false, false]) rfl rfl (by kernel_rfl) (by kernel_rfl) (by kernel_rfl) (by kernel_rfl) (fun _ _ _ h => h) HS0 (Or.inl ⟨by rfl, fun wq hSw => ?_⟩) (by kernel_rfl) ?_
            · obtain ⟨hs1, hs2⟩ := hSw
              go_simp
            simp only [Act.put, List.setIfInBounds_toArray, List.set_cons_zero, List.set_cons_succ]
            refine Till.take_ (i := 11) (d := some 64) (v := .pointer (some ⟨g', 0 + 1, none⟩)) (ls' := #[true, true, true, true, true, true, true, true, true, true, true, true, false, false, false, false, false, false, false, false, false, false, false, false, false]) rfl rfl (by kernel_rfl) (by kernel_rfl) (by kernel_rfl) (by kernel_rfl) (fun _ _ _ h => h) HS0 (Or.inl ⟨by rfl, fun wq hSw => ?_⟩) (by kernel_rfl) ?_
            · obtain ⟨hs1, hs2⟩ := hSw
              go_simp
            simp only [Act.put, List.setIfInBounds_toArray, List.set_cons_zero, List.set_cons_succ]
            refine Till.take_ (i := 12) (d := some 65) (v := .slice Au' m' cu') (ls' := #[true, true, true, true, true, true, true, true, true, true, true, true, true, false, false, false, false, false, false, false, false, false, false, false, false]) rfl rfl (by kernel_rfl) (by kernel_rfl) (by kernel_rfl) (by kernel_rfl) (fun _ _ _ h => h) HS0 (Or.inl ⟨by rfl, fun wq hSw => ?_⟩) (by kernel_rfl) ?_
            · obtain ⟨hs1, hs2⟩ := hSw
              go_simp
            simp only [Act.put, List.setIfInBounds_toArray, List.set_cons_zero, List.set_cons_succ]
            refine Till.take_ (i := 13) (d := some 66) (v := .pointer (some ⟨rb, 0, none⟩)) (ls' := #[true, true, true, true, true, true, true, true, true, true, true, true, true, true, false, false, false, false, false, false, false, false, false, false, false]) rfl rfl (by kernel_rfl) (by kernel_rfl) (by kernel_rfl) (by kernel_rfl) (fun _ _ _ h => h) HS0 (Or.inl ⟨by rfl, fun wq hSw => ?_⟩) (by kernel_rfl) ?_
            · obtain ⟨hs1, hs2⟩ := hSw
              go_simp
            simp only [Act.put, List.setIfInBounds_toArray, List.set_cons_zero, List.set_cons_succ]
            refine Till.take_ (i := 16) (d := some 69) (v := .pointer (some ⟨rb, 0, none⟩)) (ls' := #[true, true, true, true, true, true, true, true, true, true, true, true, true, true, false, false, true, false, false, false, false, false, false, false, false]) rfl rfl (by kernel_rfl) (by kernel_rfl) (by kernel_rfl) (by kernel_rfl) (fun _ _ _ h => h) HS0 (Or.inl ⟨by rfl, fun wq hSw => ?_⟩) (by kernel_rfl) ?_
            · obtain ⟨hs1, hs2⟩ := hSw
              go_simp
            simp only [Act.put, List.setIfInBounds_toArray, List.set_cons_zero, List.set_cons_succ]
            refine Till.all (rs := [14, 17]) (by kernel_rfl) (by decide) (List.forall_mem_cons.2 ⟨?_, List.forall_mem_cons.2 ⟨?_, fun _ h => nomatch h⟩⟩)
            · refine Till.step rfl (by rfl) ?_
              intro K hK
              go_simp
              refine hK _ _ (fun _ => ⟨by first | exact c1' | exact e1 | exact d4 | exact c4 | exact d5 | exact c5 | go_keep, by first | exact c1' | exact e1 | exact d4 | exact c4 | exact d5 | exact c5 | go_keep⟩) ?_
              clear hK K
              refine Till.all (rs := [15, 17]) (by kernel_rfl) (by decide) (List.forall_mem_cons.2 ⟨?_, List.forall_mem_cons.2 ⟨?_, fun _ h => nomatch h⟩⟩)
              · refine Till.step rfl (by rfl) ?_
                intro K hK
                go_simp
                go_at_call 76
                with_reducible refine (HPA.out).mono ?_
                rintro e w4 ⟨j, hj, rfl, hR4, hg4'⟩
                have hg4 := grown_drew hg4'
                have HS4 := Lib.hid (Stays.trans (Stays.below (lo := w.heap.size) (((Below.refl _ _).alloc (Nat.le_refl _) _))) (Stays.grown hg4 hlt))
                have hz4 := HS4.out.1
                have l4 : g' < w4.heap.size := Nat.lt_of_lt_of_le hgs' hz4
                have k4 : g < w4.heap.size := Nat.lt_of_lt_of_le hg3 hz4
                have d4 := (World.cell?_of_block (a := ⟨g, d * 2 + 1, none⟩) (HS4.out.2 g hlg hg3)).trans c1'
                have c4 := (World.cell?_of_block (a := ⟨g', 1, none⟩) (HS4.out.2 g' hlg' hgs')).trans e1
                have f4 : ∀ i, w4.frozen? ⟨g', i, none⟩ = false := free_of_blk ((HS4.out.2 g' hlg' hgs').trans HCS'.out)
                generalize ([9, -2, 0, -1] : List Int)[j] = a
                have HQ : Hid (Calls Try.prog 76 #[.pointer (some ⟨rb, 0, none⟩), .slice (some ⟨w4.heap.size, 0, none⟩) 4 4] (w4.alloc (.cells #[.int .i64 0, .int .i64 4, .int .i64 (-1), .int .i64 (-2)] 3)) (PickedI (w4.alloc (.cells #[.int .i64 0, .int .i64 4, .int .i64 (-1), .int .i64 (-2)] 3)) B rb (M + 1 + 1 + 1) [0, 4, -1, -2])) := num_n rb B (M + 1 + 1 + 1) 4 [0, 4, -1, -2] rfl _ 4 _ (hR4.alloc _) (by omega) (by decide) (RInts.lit _ _ _ rfl (by decide)) (fun b o e => by injection e with e; injection e with e; omega)
                have HGQ : Hid (w.grownBy (w4.alloc (.cells #[.int .i64 0, .int .i64 4, .int .i64 (-1), .int .i64 (-2)] 3)) (some rb)) := grown_alloc ((grown_alloc HG3.out _).trans hg4) _
                have HSQ : Hid (Stays w.heap.size w3 (w4.alloc (.cells #[.int .i64 0, .int .i64 4, .int .i64 (-1), .int .i64 (-2)] 3))) := HS4.out.trans (Stays.below ((Below.refl _ _).alloc (Nat.le_refl _) _))
                go_simp
                refine hK _ _ (fun _ => ⟨d4, c4⟩) ?_
                clear hK K
                refine Till.all (rs := [17]) (by kernel_rfl) (by decide) (List.forall_mem_cons.2 ⟨?_, fun _ h => nomatch h⟩)
                refine Till.step rfl (by rfl) ?_
                intro K hK
                go_simp
                refine hK _ _ (fun _ => ⟨by first | exact c1' | exact e1 | exact d4 | exact c4 | exact d5 | exact c5 | go_keep, by first | exact c1' | exact e1 | exact d4 | exact c4 | exact d5 | exact c5 | go_keep⟩) ?_
                clear hK K
                refine Till.all (rs := [18]) (by kernel_rfl) (by decide) (List.forall_mem_cons.2 ⟨?_, fun _ h => nomatch h⟩)
                refine Till.step rfl (by rfl) ?_
                intro K hK
                go_simp
                go_at_call 76
                with_reducible refine (HQ.out).mono ?_
                rintro e w5 ⟨j2, hj2, rfl, hR5, hg5⟩
                have HS5 := Lib.hid (Stays.trans HSQ.out (Stays.grown hg5 hlt))
                have d5 := (World.cell?_of_block (a := ⟨g, d * 2 + 1, none⟩) (HS5.out.2 g hlg hg3)).trans c1'
                have c5 := (World.cell?_of_block (a := ⟨g', 1, none⟩) (HS5.out.2 g' hlg' hgs')).trans e1
                have hz5 := HS5.out.1
                have l5 : g' < w5.heap.size := Nat.lt_of_lt_of_le hgs' hz5
                have k5 : g < w5.heap.size := Nat.lt_of_lt_of_le hg3 hz5
                have hcs5 : w5.heap[g']? = some (.cells cs' 148 (0, 0)) := (HS5.out.2 g' hlg' hgs').trans HCS'.out
                have hcg5 : w5.heap[g]? = some (.cells cs 144 (0, 0)) := (HS5.out.2 g hlg hg3).trans HCS3.out
                have HU5 : Hid (XTys w5 w.heap.size N (.slice Au' m' cu') m') := HU'.out.keepT (HS5.out.keepT _) (Nat.le_refl _)
                have HG5 := Lib.hid (HGQ.out.trans hg5)
                generalize ([0, 4, -1, -2] : List Int)[j2] = b
                go_simp
                refine hK _ _ (fun _ => ⟨d5, c5⟩) ?_
                clear hK K
                have HS5' : w5.cell? ⟨g, d * 2 + 1, none⟩ = some (.slice (some ⟨g', 0, none⟩) m cu) ∧ w5.cell? ⟨g', 0 + 1, none⟩ = some (.slice Au' m' cu') := ⟨d5, c5⟩
                refine Till.take_ (i := 19) (d := some 72) (v := .agg #[.int .i64 a, .int .i64 b]) (ls' := #[true, true, true, true, true, true, true, true, true, true, true, true, true, true, true, true, true, true, true, true, false, false, false, false, false]) rfl rfl (by kernel_rfl) (by kernel_rfl) (by kernel_rfl) (by kernel_rfl) (fun _ _ _ h => h) HS5' (Or.inl ⟨by rfl, fun wq hSw => ?_⟩) (by kernel_rfl) ?_
                · obtain ⟨hs1, hs2⟩ := hSw
                  go_simp
                simp only [Act.put, List.setIfInBounds_toArray, List.set_cons_zero, List.set_cons_succ]
                refine Till.all (rs := [20]) (by kernel_rfl) (by decide) (List.forall_mem_cons.2 ⟨?_, fun _ h => nomatch h⟩)
                refine Till.step rfl (by rfl) ?_
                intro K hK
                go_simp
                refine hK _ _ (fun _ => ⟨by first | exact c1' | exact e1 | exact d4 | exact c4 | exact d5 | exact c5 | go_keep, by first | exact c1' | exact e1 | exact d4 | exact c4 | exact d5 | exact c5 | go_keep⟩) ?_
                refine Till.all (rs := [21]) (by kernel_rfl) (by decide) (List.forall_mem_cons.2 ⟨?_, fun _ h => nomatch h⟩)
                clear hK K
                refine Till.step rfl (by rfl) ?_
                intro K hK
                refine if_of (E := False) (by rfl) (step_append_ty (ops := #[]) (by rfl) _ _ (by rfl) Au' m' cu' (by rfl) (HU5.out.keepT (KeepT.alloc _ _ _ _) (Nat.le_refl _)) hm9 (by simp; omega) ⟨w5.heap.size, 0, none⟩ 1 a b (by rfl) (cell_two_new _ _ _ _) ?_)
                intro A6 c6 w6 hmore hx6
                have hcs6 : w6.heap[g']? = some (.cells cs' 148 (0, 0)) := (hmore.other g' cs' 148 (by decide) ((Below.heap_alloc _ _ _ l5).trans hcs5)).trans ((Below.heap_alloc _ _ _ l5).trans hcs5)
                have f6 : ∀ i, w6.frozen? ⟨g', i, none⟩ = false := free_of_blk hcs6
                have c6' := (World.cell?_of_block (w := w5) (w' := w6) (a := ⟨g', 1, none⟩) (hcs6.trans hcs5.symm)).trans c5
                have hcg6 : w6.heap[g]? = some (.cells cs 144 (0, 0)) := (hmore.other g cs 144 (by decide) ((Below.heap_alloc _ _ _ k5).trans hcg5)).trans ((Below.heap_alloc _ _ _ k5).trans hcg5)
                have d6 := (World.cell?_of_block (w := w5) (w' := w6) (a := ⟨g, d * 2 + 1, none⟩) (hcg6.trans hcg5.symm)).trans d5
                refine hK _ _ (fun _ => ⟨d6, c6'⟩) ?_
                clear hK K
                refine Till.all (rs := [22]) (by kernel_rfl) (by decide) (List.forall_mem_cons.2 ⟨?_, fun _ h => nomatch h⟩)
                refine Till.step rfl (by rfl) ?_
                intro K hK
                go_simp
                refine hK _ _ (fun _ => ⟨d6, c6'⟩) ?_
                clear hK K
                refine Till.all (rs := [23]) (by kernel_rfl) (by decide) (List.forall_mem_cons.2 ⟨?_, fun _ h => nomatch h⟩)
                refine Till.step rfl (by rfl) ?_
                intro K hK
                go_simp
                refine hK _ _ (fun _ => ⟨d6, c6'⟩) ?_
                clear hK K
                refine Till.all (rs := [24]) (by kernel_rfl) (by decide) (List.forall_mem_cons.2 ⟨?_, fun _ h => nomatch h⟩)
                refine Till.step rfl (by rfl) ?_
                intro K hK
                go_simp
                refine hK _ _ (fun h => absurd rfl h) ?_
                clear hK K
                refine Till.done (by kernel_rfl) ?_ _
                have HF := Lib.hid (Muted.mk w (w6.setCell ⟨g', 1, none⟩ (.slice A6 (m' + 1) c6)) B rb _ (M + 4) (N + 1) (N + 1) n _ ((XDas.more hmore ((HX3.out.keepT (HS5.out.keepT _) (Nat.le_refl _)).keepT (KeepT.alloc _ _ _ _) (Nat.le_refl _)) (Nat.le_succ _)).set31 hcs6 (.inr (.inl ⟨by omega, m' + 1, hx6⟩))) hn (((hR5.alloc _).belowLo hmore.below hlt).setCell (by omega) (by omega)) (grown_set (grown_more (grown_alloc HG5.out _) hmore.below) hlg') (by omega) (by omega))
                clear hR5 hmore hx6 hcs6 f6 c6' d6 hcg6 HPA HPB HPC
                go_wp2_with fail
                go_ret
                exact HF.out
              · refine Till.step rfl (by rfl) ?_
                intro K hK
                go_simp
                refine hK _ _ (fun _ => ⟨by first | exact c1' | exact e1 | exact d4 | exact c4 | exact d5 | exact c5 | go_keep, by first | exact c1' | exact e1 | exact d4 | exact c4 | exact d5 | exact c5 | go_keep⟩) ?_
                clear hK K
                refine Till.all (rs := [15]) (by kernel_rfl) (by decide) (List.forall_mem_cons.2 ⟨?_, fun _ h => nomatch h⟩)
                refine Till.step rfl (by rfl) ?_
                intro K hK
                go_simp
                go_at_call 76
                with_reducible refine (HPB.out).mono ?_
                rintro e w4 ⟨j, hj, rfl, hR4, hg4'⟩
                have hg4 := grown_drew hg4'
                have HS4 := Lib.hid (Stays.trans (Stays.below (lo := w.heap.size) ((((Below.refl _ _).alloc (Nat.le_refl _) _).alloc (by simp) _))) (Stays.grown hg4 hlt))
                have hz4 := HS4.out.1
                have l4 : g' < w4.heap.size := Nat.lt_of_lt_of_le hgs' hz4
                have k4 : g < w4.heap.size := Nat.lt_of_lt_of_le hg3 hz4
                have d4 := (World.cell?_of_block (a := ⟨g, d * 2 + 1, none⟩) (HS4.out.2 g hlg hg3)).trans c1'
                have c4 := (World.cell?_of_block (a := ⟨g', 1, none⟩) (HS4.out.2 g' hlg' hgs')).trans e1
                have f4 : ∀ i, w4.frozen? ⟨g', i, none⟩ = false := free_of_blk ((HS4.out.2 g' hlg' hgs').trans HCS'.out)
                generalize ([9, -2, 0, -1] : List Int)[j] = a
                have HQ : Hid (Calls Try.prog 76 #[.pointer (some ⟨rb, 0, none⟩), .slice (some ⟨w3.heap.size + 1, 0, none⟩) 4 4] w4 (PickedI w4 B rb (M + 1 + 1 + 1) [0, 4, -1, -2])) := num_n rb B (M + 1 + 1 + 1) 4 [0, 4, -1, -2] rfl _ 4 _ hR4 (by omega) (by decide) (RInts.grown_ (by have := RInts.lit (w3.alloc (.cells #[.int .i64 9, .int .i64 (-2), .int .i64 0, .int .i64 (-1)] 3)) #[.int .i64 0, .int .i64 4, .int .i64 (-1), .int .i64 (-2)] [0, 4, -1, -2] rfl (by decide); simpa using this) hg4 (by simp; omega)) (fun b o e => by injection e with e; injection e with e; omega)
                have HGQ : Hid (w.grownBy w4 (some rb)) := (grown_alloc (grown_alloc HG3.out _) _).trans hg4
                have HSQ := HS4
                go_simp
                refine hK _ _ (fun _ => ⟨d4, c4⟩) ?_
                clear hK K
                refine Till.all (rs := [18]) (by kernel_rfl) (by decide) (List.forall_mem_cons.2 ⟨?_, fun _ h => nomatch h⟩)
                refine Till.step rfl (by rfl) ?_
                intro K hK
                go_simp
                go_at_call 76
                with_reducible refine (HQ.out).mono ?_
                rintro e w5 ⟨j2, hj2, rfl, hR5, hg5⟩
                have HS5 := Lib.hid (Stays.trans HSQ.out (Stays.grown hg5 hlt))
                have d5 := (World.cell?_of_block (a := ⟨g, d * 2 + 1, none⟩) (HS5.out.2 g hlg hg3)).trans c1'
                have c5 := (World.cell?_of_block (a := ⟨g', 1, none⟩) (HS5.out.2 g' hlg' hgs')).trans e1
                have hz5 := HS5.out.1
                have l5 : g' < w5.heap.size := Nat.lt_of_lt_of_le hgs' hz5
                have k5 : g < w5.heap.size := Nat.lt_of_lt_of_le hg3 hz5
                have hcs5 : w5.heap[g']? = some (.cells cs' 148 (0, 0)) := (HS5.out.2 g' hlg' hgs').trans HCS'.out
                have hcg5 : w5.heap[g]? = some (.cells cs 144 (0, 0)) := (HS5.out.2 g hlg hg3).trans HCS3.out
                have HU5 : Hid (XTys w5 w.heap.size N (.slice Au' m' cu') m') := HU'.out.keepT (HS5.out.keepT _) (Nat.le_refl _)
                have HG5 := Lib.hid (HGQ.out.trans hg5)
                generalize ([0, 4, -1, -2] : List Int)[j2] = b
                go_simp
                refine hK _ _ (fun _ => ⟨d5, c5⟩) ?_
                clear hK K
                have HS5' : w5.cell? ⟨g, d * 2 + 1, none⟩ = some (.slice (some ⟨g', 0, none⟩) m cu) ∧ w5.cell? ⟨g', 0 + 1, none⟩ = some (.slice Au' m' cu') := ⟨d5, c5⟩
                refine Till.take_ (i := 19) (d := some 72) (v := .agg #[.int .i64 a, .int .i64 b]) (ls' := #[true, true, true, true, true, true, true, true, true, true, true, true, true, true, true, true, true, true, true, true, false, false, false, false, false]) rfl rfl (by kernel_rfl) (by kernel_rfl) (by kernel_rfl) (by kernel_rfl) (fun _ _ _ h => h) HS5' (Or.inl ⟨by rfl, fun wq hSw => ?_⟩) (by kernel_rfl) ?_
                · obtain ⟨hs1, hs2⟩ := hSw
                  go_simp
                simp only [Act.put, List.setIfInBounds_toArray, List.set_cons_zero, List.set_cons_succ]
                refine Till.all (rs := [20]) (by kernel_rfl) (by decide) (List.forall_mem_cons.2 ⟨?_, fun _ h => nomatch h⟩)
                refine Till.step rfl (by rfl) ?_
                intro K hK
                go_simp
                refine hK _ _ (fun _ => ⟨by first | exact c1' | exact e1 | exact d4 | exact c4 | exact d5 | exact c5 | go_keep, by first | exact c1' | exact e1 | exact d4 | exact c4 | exact d5 | exact c5 | go_keep⟩) ?_
                refine Till.all (rs := [21]) (by kernel_rfl) (by decide) (List.forall_mem_cons.2 ⟨?_, fun _ h => nomatch h⟩)
                clear hK K
                refine Till.step rfl (by rfl) ?_
                intro K hK
                refine if_of (E := False) (by rfl) (step_append_ty (ops := #[]) (by rfl) _ _ (by rfl) Au' m' cu' (by rfl) (HU5.out.keepT (KeepT.alloc _ _ _ _) (Nat.le_refl _)) hm9 (by simp; omega) ⟨w5.heap.size, 0, none⟩ 1 a b (by rfl) (cell_two_new _ _ _ _) ?_)
                intro A6 c6 w6 hmore hx6
                have hcs6 : w6.heap[g']? = some (.cells cs' 148 (0, 0)) := (hmore.other g' cs' 148 (by decide) ((Below.heap_alloc _ _ _ l5).trans hcs5)).trans ((Below.heap_alloc _ _ _ l5).trans hcs5)
                have f6 : ∀ i, w6.frozen? ⟨g', i, none⟩ = false := free_of_blk hcs6
                have c6' := (World.cell?_of_block (w := w5) (w' := w6) (a := ⟨g', 1, none⟩) (hcs6.trans hcs5.symm)).trans c5
                have hcg6 : w6.heap[g]? = some (.cells cs 144 (0, 0)) := (hmore.other g cs 144 (by decide) ((Below.heap_alloc _ _ _ k5).trans hcg5)).trans ((Below.heap_alloc _ _ _ k5).trans hcg5)
                have d6 := (World.cell?_of_block (w := w5) (w' := w6) (a := ⟨g, d * 2 + 1, none⟩) (hcg6.trans hcg5.symm)).trans d5
                refine hK _ _ (fun _ => ⟨d6, c6'⟩) ?_
                clear hK K
                refine Till.all (rs := [22]) (by kernel_rfl) (by decide) (List.forall_mem_cons.2 ⟨?_, fun _ h => nomatch h⟩)
                refine Till.step rfl (by rfl) ?_
                intro K hK
                go_simp
                refine hK _ _ (fun _ => ⟨d6, c6'⟩) ?_
                clear hK K
                refine Till.all (rs := [23]) (by kernel_rfl) (by decide) (List.forall_mem_cons.2 ⟨?_, fun _ h => nomatch h⟩)
                refine Till.step rfl (by rfl) ?_
                intro K hK
                go_simp
                refine hK _ _ (fun _ => ⟨d6, c6'⟩) ?_
                clear hK K
                refine Till.all (rs := [24]) (by kernel_rfl) (by decide) (List.forall_mem_cons.2 ⟨?_, fun _ h => nomatch h⟩)
                refine Till.step rfl (by rfl) ?_
                intro K hK
                go_simp
                refine hK _ _ (fun h => absurd rfl h) ?_
                clear hK K
                refine Till.done (by kernel_rfl) ?_ _
                have HF := Lib.hid (Muted.mk w (w6.setCell ⟨g', 1, none⟩ (.slice A6 (m' + 1) c6)) B rb _ (M + 4) (N + 1) (N + 1) n _ ((XDas.more hmore ((HX3.out.keepT (HS5.out.keepT _) (Nat.le_refl _)).keepT (KeepT.alloc _ _ _ _) (Nat.le_refl _)) (Nat.le_succ _)).set31 hcs6 (.inr (.inl ⟨by omega, m' + 1, hx6⟩))) hn (((hR5.alloc _).belowLo hmore.below hlt).setCell (by omega) (by omega)) (grown_set (grown_more (grown_alloc HG5.out _) hmore.below) hlg') (by omega) (by omega))
                clear hR5 hmore hx6 hcs6 f6 c6' d6 hcg6 HPA HPB HPC
                go_wp2_with fail
                go_ret
                exact HF.out
            · refine Till.step rfl (by rfl) ?_
              intro K hK
              go_simp
              refine hK _ _ (fun _ => ⟨by first | exact c1' | exact e1 | exact d4 | exact c4 | exact d5 | exact c5 | go_keep, by first | exact c1' | exact e1 | exact d4 | exact c4 | exact d5 | exact c5 | go_keep⟩) ?_
              clear hK K
              refine Till.all (rs := [14]) (by kernel_rfl) (by decide) (List.forall_mem_cons.2 ⟨?_, fun _ h => nomatch h⟩)
              refine Till.step rfl (by rfl) ?_
              intro K hK
              go_simp
              refine hK _ _ (fun _ => ⟨by first | exact c1' | exact e1 | exact d4 | exact c4 | exact d5 | exact c5 | go_keep, by first | exact c1' | exact e1 | exact d4 | exact c4 | exact d5 | exact c5 | go_keep⟩) ?_
              clear hK K
              refine Till.all (rs := [15]) (by kernel_rfl) (by decide) (List.forall_mem_cons.2 ⟨?_, fun _ h => nomatch h⟩)
              refine Till.step rfl (by rfl) ?_
              intro K hK
              go_simp
              go_at_call 76
              with_reducible refine (HPC.out).mono ?_
              rintro e w4 ⟨j, hj, rfl, hR4, hg4'⟩
              have hg4 := grown_drew hg4'
              have HS4 := Lib.hid (Stays.trans (Stays.below (lo := w.heap.size) ((((Below.refl _ _).alloc (Nat.le_refl _) _).alloc (by simp) _))) (Stays.grown hg4 hlt))
              have hz4 := HS4.out.1
              have l4 : g' < w4.heap.size := Nat.lt_of_lt_of_le hgs' hz4
              have k4 : g < w4.heap.size := Nat.lt_of_lt_of_le hg3 hz4
              have d4 := (World.cell?_of_block (a := ⟨g, d * 2 + 1, none⟩) (HS4.out.2 g hlg hg3)).trans c1'
              have c4 := (World.cell?_of_block (a := ⟨g', 1, none⟩) (HS4.out.2 g' hlg' hgs')).trans e1
              have f4 : ∀ i, w4.frozen? ⟨g', i, none⟩ = false := free_of_blk ((HS4.out.2 g' hlg' hgs').trans HCS'.out)
              generalize ([9, -2, 0, -1] : List Int)[j] = a
              have HQ : Hid (Calls Try.prog 76 #[.pointer (some ⟨rb, 0, none⟩), .slice (some ⟨w3.heap.size, 0, none⟩) 4 4] w4 (PickedI w4 B rb (M + 1 + 1 + 1) [0, 4, -1, -2])) := num_n rb B (M + 1 + 1 + 1) 4 [0, 4, -1, -2] rfl _ 4 _ hR4 (by omega) (by decide) (RInts.grown_ (RInts.alloc (RInts.lit _ _ _ rfl (by decide)) _) hg4 (by simp; omega)) (fun b o e => by injection e with e; injection e with e; omega)
              have HGQ : Hid (w.grownBy w4 (some rb)) := (grown_alloc (grown_alloc HG3.out _) _).trans hg4
              have HSQ := HS4
              go_simp
              refine hK _ _ (fun _ => ⟨d4, c4⟩) ?_
              clear hK K
              refine Till.all (rs := [18]) (by kernel_rfl) (by decide) (List.forall_mem_cons.2 ⟨?_, fun _ h => nomatch h⟩)
              refine Till.step rfl (by rfl) ?_
              intro K hK
              go_simp
              go_at_call 76
              with_reducible refine (HQ.out).mono ?_
              rintro e w5 ⟨j2, hj2, rfl, hR5, hg5⟩
              have HS5 := Lib.hid (Stays.trans HSQ.out (Stays.grown hg5 hlt))
              have d5 := (World.cell?_of_block (a := ⟨g, d * 2 + 1, none⟩) (HS5.out.2 g hlg hg3)).trans c1'
              have c5 := (World.cell?_of_block (a := ⟨g', 1, none⟩) (HS5.out.2 g' hlg' hgs')).trans e1
              have hz5 := HS5.out.1
              have l5 : g' < w5.heap.size := Nat.lt_of_lt_of_le hgs' hz5
              have k5 : g < w5.heap.size := Nat.lt_of_lt_of_le hg3 hz5
              have hcs5 : w5.heap[g']? = some (.cells cs' 148 (0, 0)) := (HS5.out.2 g' hlg' hgs').trans HCS'.out
              have hcg5 : w5.heap[g]? = some (.cells cs 144 (0, 0)) := (HS5.out.2 g hlg hg3).trans HCS3.out
              have HU5 : Hid (XTys w5 w.heap.size N (.slice Au' m' cu') m') := HU'.out.keepT (HS5.out.keepT _) (Nat.le_refl _)
              have HG5 := Lib.hid (HGQ.out.trans hg5)
              generalize ([0, 4, -1, -2] : List Int)[j2] = b
              go_simp
              refine hK _ _ (fun _ => ⟨d5, c5⟩) ?_
              clear hK K
              have HS5' : w5.cell? ⟨g, d * 2 + 1, none⟩ = some (.slice (some ⟨g', 0, none⟩) m cu) ∧ w5.cell? ⟨g', 0 + 1, none⟩ = some (.slice Au' m' cu') := ⟨d5, c5⟩
              refine Till.take_ (i := 19) (d := some 72) (v := .agg #[.int .i64 a, .int .i64 b]) (ls' := #[true, true, true, true, true, true, true, true, true, true, true, true, true, true, true, true, true, true, true, true, false, false, false, false, false]) rfl rfl (by kernel_rfl) (by kernel_rfl) (by kernel_rfl) (by kernel_rfl) (fun _ _ _ h => h) HS5' (Or.inl ⟨by rfl, fun wq hSw => ?_⟩) (by kernel_rfl) ?_
              · obtain ⟨hs1, hs2⟩ := hSw
                go_simp
              simp only [Act.put, List.setIfInBounds_toArray, List.set_cons_zero, List.set_cons_succ]
              refine Till.all (rs := [20]) (by kernel_rfl) (by decide) (List.forall_mem_cons.2 ⟨?_, fun _ h => nomatch h⟩)
              refine Till.step rfl (by rfl) ?_
              intro K hK
              go_simp
              refine hK _ _ (fun _ => ⟨by first | exact c1' | exact e1 | exact d4 | exact c4 | exact d5 | exact c5 | go_keep, by first | exact c1' | exact e1 | exact d4 | exact c4 | exact d5 | exact c5 | go_keep⟩) ?_
              refine Till.all (rs := [21]) (by kernel_rfl) (by decide) (List.forall_mem_cons.2 ⟨?_, fun _ h => nomatch h⟩)
              clear hK K
              refine Till.step rfl (by rfl) ?_
              intro K hK
              refine if_of (E := False) (by rfl) (step_append_ty (ops := #[]) (by rfl) _ _ (by rfl) Au' m' cu' (by rfl) (HU5.out.keepT (KeepT.alloc _ _ _ _) (Nat.le_refl _)) hm9 (by simp; omega) ⟨w5.heap.size, 0, none⟩ 1 a b (by rfl) (cell_two_new _ _ _ _) ?_)
              intro A6 c6 w6 hmore hx6
              have hcs6 : w6.heap[g']? = some (.cells cs' 148 (0, 0)) := (hmore.other g' cs' 148 (by decide) ((Below.heap_alloc _ _ _ l5).trans hcs5)).trans ((Below.heap_alloc _ _ _ l5).trans hcs5)
              have f6 : ∀ i, w6.frozen? ⟨g', i, none⟩ = false := free_of_blk hcs6
              have c6' := (World.cell?_of_block (w := w5) (w' := w6) (a := ⟨g', 1, none⟩) (hcs6.trans hcs5.symm)).trans c5
              have hcg6 : w6.heap[g]? = some (.cells cs 144 (0, 0)) := (hmore.other g cs 144 (by decide) ((Below.heap_alloc _ _ _ k5).trans hcg5)).trans ((Below.heap_alloc _ _ _ k5).trans hcg5)
              have d6 := (World.cell?_of_block (w := w5) (w' := w6) (a := ⟨g, d * 2 + 1, none⟩) (hcg6.trans hcg5.symm)).trans d5
              refine hK _ _ (fun _ => ⟨d6, c6'⟩) ?_
              clear hK K
              refine Till.all (rs := [22]) (by kernel_rfl) (by decide) (List.forall_mem_cons.2 ⟨?_, fun _ h => nomatch h⟩)
              refine Till.step rfl (by rfl) ?_
              intro K hK
              go_simp
              refine hK _ _ (fun _ => ⟨d6, c6'⟩) ?_
              clear hK K
              refine Till.all (rs := [23]) (by kernel_rfl) (by decide) (List.forall_mem_cons.2 ⟨?_, fun _ h => nomatch h⟩)
              refine Till.step rfl (by rfl) ?_
              intro K hK
              go_simp
              refine hK _ _ (fun _ => ⟨d6, c6'⟩) ?_
              clear hK K
              refine Till.all (rs := [24]) (by kernel_rfl) (by decide) (List.forall_mem_cons.2 ⟨?_, fun _ h => nomatch h⟩)
              refine Till.step rfl (by rfl) ?_
              intro K hK
              go_simp
              refine hK _ _ (fun h => absurd rfl h) ?_
              clear hK K
              refine Till.done (by kernel_rfl) ?_ _
              have HF := Lib.hid (Muted.mk w (w6.setCell ⟨g', 1, none⟩ (.slice A6 (m' + 1) c6)) B rb _ (M + 4) (N + 1) (N + 1) n _ ((XDas.more hmore ((HX3.out.keepT (HS5.out.keepT _) (Nat.le_refl _)).keepT (KeepT.alloc _ _ _ _) (Nat.le_refl _)) (Nat.le_succ _)).set31 hcs6 (.inr (.inl ⟨by omega, m' + 1, hx6⟩))) hn (((hR5.alloc _).belowLo hmore.below hlt).setCell (by omega) (by omega)) (grown_set (grown_more (grown_alloc HG5.out _) hmore.below) hlg') (by omega) (by omega))
              clear hR5 hmore hx6 hcs6 f6 c6' d6 hcg6 HPA HPB HPC
              go_wp2_with fail
              go_ret
              exact HF.out
          · have p3 : ((k : Int) == 3) = false := ieq_f (by omega)
            by_cases k4 : k = 4
            · have p4 : ((k : Int) == 4) = true := ieq_t (by omega)
              clear k0 k1 k2 k3 k4
              rw [Nat.zero_mul] at e2
              go_wp2_with fail
              go_region_held3 (fun w' => w'.cell? ⟨g, d * 2 + 1, none⟩ = some (.slice (some ⟨g', 0, none⟩) m cu)) (first | exact c1' | exact d1 | exact HNE.out _ _ _ _ _ d1 | go_keep) (first | (go_at_call 76; refine (num_n rb B (M + 1 + 1) 3 [4, -1, 1] rfl _ 3 _ (HR3.out.alloc _).drew (by omega) (by decide) (RInts.lit2 _ _ _ rfl (by decide)) (fun b o e => by injection e with e; injection e with e; omega)).mono ?_; rintro e w4 ⟨j, hj, rfl, hR, hg'⟩; have hg := grown_drew hg'; have HS4 := Lib.hid (Stays.trans (Stays.below (lo := w.heap.size) ((Below.refl _ _).alloc (Nat.le_refl _) _)) (Stays.grown hg hlt)); have d1 := (World.cell?_of_block (a := ⟨g, d * 2 + 1, none⟩) (HS4.out.2 g hlg hg3)).trans c1'; have hcs4 : w4.heap[g']? = some (.cells cs' 148 (0, 0)) := (HS4.out.2 g' hlg' hgs').trans HCS'.out; have df : ∀ i, w4.frozen? ⟨g', i, none⟩ = false := free_of_blk hcs4; have d0 := (World.cell?_of_block (a := ⟨g', 0 + 2, none⟩) (HS4.out.2 g' hlg' hgs')).trans e2))
              all_goals
                generalize ([4, -1, 1] : List Int)[j] = x
                have HF := Lib.hid (Muted.mk w (w4.setCell ⟨g', 2, none⟩ (.int .i64 x)) B rb _ (M + 4) N (N + 1) n _ ((HX3.out.keepT (HS4.out.keepT _) (Nat.le_refl _)).set31 hcs4 (.inr (.inr ⟨by omega, x, rfl⟩))) hn (hR.setCell (by omega) (by have := HR3.out.ge; omega)) (grown_set ((grown_alloc HG3.out _).trans hg) hlg') (by omega) (by omega))
                clear hR hg hg' hcs4 d1 d0 df
                go_wp2_with fail
                go_ret
                exact HF.out
            · have p4 : ((k : Int) == 4) = false := ieq_f (by omega)
              by_cases k5 : k = 5
              · have p5 : ((k : Int) == 5) = true := ieq_t (by omega)
                clear k0 k1 k2 k3 k4 k5
                obtain ⟨xs, ho, hxn, hxk⟩ := HX3.out
                have HOX := Lib.hid ho
                have HXK := Lib.hid hxk
                have hnN : n ≤ 900 := by omega
                have hL1 : n + 1 ≤ maxLen := by unfold maxLen; omega
                have HN : Hid ((n + 1) * 40 ≤ 140737488355328) := by unfold Hid; omega
                clear ho hxk
                go_wp2_with (at_builtin; refine wpList_append_lies _ rfl _ _ 23 rfl w.heap.size 144 i28 _ 2 40 Try.underlying23 hi28 hw0 hw1 hw2 rfl (by decide) (.slice (some ⟨g, 0, none⟩) n c5) n xs rfl (HOX.out.alloc _) ⟨w3.heap.size, 0, none⟩ 1 1 [.string s, .slice (some ⟨g', 0, none⟩) m cu] rfl rfl (cell_two_new _ _ _ _) (by simp [Value.oneCell']) (by omega) hL1 HN.out (by simp; omega) w3.heap.size.succ (by simp) ?_)
                intro gg c9 w9 hown9 hg9 hat9 hlt9
                have hk9 : KeepT w.heap.size T31 w3 w9 := (KeepT.alloc _ _ _ _).trans (KeepT.grown (HOX.out.alloc _) T31_not28 hg9)
                have HX9 : XDas w9 w.heap.size (N + 1) (.slice (some ⟨gg, 0, none⟩) (n + 1) c9) (n + 1) := XDas.app (fun q hq => (HXK.out q hq).keepT hk9 (Nat.le_succ _)) HOX.out.1 hss (HU3.out.keepT hk9 (Nat.le_succ _)) hown9 (by omega)
                have HF := Lib.hid (Muted.mk w w9 B rb _ (M + 4) (N + 1) (N + 1) (n + 1) _ HX9 (by omega) ((HR3.out.alloc _).grown_ (g := g) hg9 (by omega) (by omega)) ((grown_alloc HG3.out _).andThen (row' := some g) hg9 (fun q e => .inl (by injection e with e; omega))) (by omega) (by omega))
                clear hown9 hg9 hat9 hlt9 hk9 HX9
                go_wp2_with fail
                go_ret
                exact HF.out
              · have p5 : ((k : Int) == 5) = false := ieq_f (by omega)
                have HF := Lib.hid (Muted.mk w w3 B rb _ (M + 4) N (N + 1) n _ HX3.out hn HR3.out HG3.out (by omega) (by omega))
                clear k0 k1 k2 k3 k4 k5
                go_wp2_with fail
                go_ret
                exact HF.out
end Go.Proofs.Yteoopmogklpnoaa
