/-
  The law FnWorldSame walked. No statement is proved here.
-/
import Derived.Test.YthebdlejoficmabDoorG03
import Derived.Test.YthebdlejoficmabDoorG06
import Derived.Test.YthebdlejoficmabDoorG02
namespace Go.Proofs.YthebdlejoficmabDoor
open Go.RowKit Go.Deep
set_option maxRecDepth 100000
set_option linter.unusedVariables false

/-- Two worlds of the call's own. -/
def GotWW (w : World) (e : Ending) (w' : World) : Prop := ∃ A l c A2 l2 c2, e = .returned (.tuple #[.slice A (List.length l) c, .slice A2 (List.length l2) c2]) ∧ RDas w' w'.heap.size A l ∧ RDas w' w'.heap.size A2 l2 ∧ Below w.heap.size w w'
set_option maxHeartbeats 3000000 in
theorem drawWW_any (n cap : Nat) (A : Option Addr) (w : World) (hn : n ≤ maxLen) (hc : n ≤ cap) (h : RBy w w.heap.size A n) : Calls Tryd.prog 11 #[.slice A n cap] w (GotWW w) := by
  have H := Lib.hid h
  have HC := Lib.hid hc
  have HNM := Lib.hid hn
  clear h hc hn
  go_enter Tryd.func11, Tryd.ntmps11
  go_wp2_with fail
  refine (open_any w.heap.size n cap A w HNM.out HC.out H.out (Nat.le_refl _)).mono ?_
  rintro e w1 ⟨rfl, hR, hb⟩
  have HR1 := Lib.hid hR
  have HB1 := Lib.hid hb
  have hz1 : w.heap.size < w1.heap.size := hR.lt
  clear hR hb
  go_wp2_with fail
  refine (l1World_any _ _ _ _ HR1.out (by omega)).mono ?_
  rintro e w2 ⟨v, l, rfl, ho, hl, hs, hR, hg⟩
  have hll : l.length ≤ maxLen := by have := hs.1; unfold maxLen; omega
  have hli := ho.lies hll
  have hx := ho.x hs
  obtain ⟨A2, c2, rfl⟩ := hx.form
  have HLI := Lib.hid hli
  have HX := Lib.hid hx
  have HR2 := Lib.hid hR
  have HB2 := Lib.hid (below_grown HB1.out hg HB1.out.size (Nat.le_refl _))
  clear hx hR hg ho hli
  go_wp2_with fail
  refine (pick_any _ _ _ 2 _ HR2.out (by omega)).mono ?_
  rintro e w3 ⟨k, rfl, hk, hR, hg⟩
  have HR3 := Lib.hid hR
  have HB3 := Lib.hid (below_grown HB2.out hg HB2.out.size (Nat.le_refl _))
  have HLI3 := Lib.hid (HLI.out.at_ (Stays.grown hg hz1))
  have HX3 : Hid (XDas w3 w1.heap.size 4 (.slice A2 l.length c2) l.length) := HX.out.keepT ((Stays.grown hg hz1).keepT _) (Nat.le_refl _)
  clear hR hg
  by_cases h0 : k = 0
  · have q := ieq_t (show (k : Int) = 0 by omega)
    clear h0
    go_wp2_with fail
    refine (l1World_any _ _ _ _ HR3.out (by omega)).mono ?_
    rintro e w4 ⟨v4, l4, rfl, ho4, hl4, hs4, hR4, hg4⟩
    obtain ⟨A4, c4, rfl, hr4⟩ := ho4.form (by have := hs4.1; unfold maxLen; omega)
    have HF : Hid (GotWW w (.returned (.tuple #[.slice A2 l.length c2, .slice A4 l4.length c4])) w4) := by
      obtain ⟨A5, c5, e5, hr5⟩ := (HLI3.out.at_ (Stays.grown hg4 hz1)).form
      injection e5 with e5 e6 e7
      subst e5 e7
      exact ⟨_, l, _, _, l4, _, rfl, hr5, hr4, below_grown HB3.out hg4 HB3.out.size (Nat.le_refl _)⟩
    clear hg4 hr4 ho4 hR4
    go_wp2_with fail
    go_ret2
    exact HF.out
  · have q := ieq_f (show ¬ (k : Int) = 0 by omega)
    clear h0
    go_wp2_with fail
    refine (l1Mutate_any _ w.heap.size w.heap.size _ _ 4 l.length _ _ HX3.out (by omega) hl HR3.out (by omega)).mono ?_
    rintro e w4 ⟨v4, n4, rfl, hx4, hn4, hR4, hg4⟩
    obtain ⟨A4, c4, rfl⟩ := hx4.form
    have HX4 := Lib.hid hx4
    have HR4 := Lib.hid hR4
    have HB4 := Lib.hid (below_grown HB3.out hg4 HB3.out.size (Nat.le_refl _))
    have HLI4 := Lib.hid (HLI3.out.at_ (Stays.grown hg4 hz1))
    clear hx4 hR4 hg4
    go_wp2_with fail
    refine (l1Mutate_any _ w.heap.size w.heap.size _ _ 5 n4 _ _ HX4.out (by omega) hn4 HR4.out (by omega)).mono ?_
    rintro e w5 ⟨v5, n5, rfl, hx5, hn5, hR5, hg5⟩
    obtain ⟨L, hL, hli5, _⟩ := hx5.lies (by unfold maxLen; omega)
    subst hL
    obtain ⟨A5, c5, rfl, hr5⟩ := hli5.form
    have HF : Hid (GotWW w (.returned (.tuple #[.slice A2 l.length c2, .slice A5 L.length c5])) w5) := by
      obtain ⟨A6, c6, e5, hr6⟩ := (HLI4.out.at_ (Stays.grown hg5 hz1)).form
      injection e5 with e5 e6 e7
      subst e5 e7
      exact ⟨_, l, _, _, L, _, rfl, hr6, hr5, below_grown HB4.out hg5 HB4.out.size (Nat.le_refl _)⟩
    clear hg5 hr5 hli5 hR5 hx5
    go_wp2_with fail
    go_ret2
    exact HF.out

theorem same_as {A A' : Option Addr} {l m : List Da} {cap cap' : Nat} {w : World} {b : Bool} (hb : eqv l m = b) (hr : RDas w w.heap.size A l) (hr' : RDas w w.heap.size A' m) :
    Calls Tryd.prog 12 #[.slice A l.length cap, .slice A' m.length cap'] w fun e w' => e = .returned (.bool b) ∧ Below w.heap.size w w' := by
  subst hb; exact worldSame_impl A A' l m cap cap' w hr hr'
theorem same_as_spec {A A' : Option Addr} {l m : List Da} {cap cap' : Nat} {w : World} {b : Bool} (hb : eqv l m = b) (hr : RDas w w.heap.size A l) (hr' : RDas w w.heap.size A' m) :
    Calls Tryd.prog 13 #[.slice A l.length cap, .slice A' m.length cap'] w fun e w' => e = .returned (.bool b) ∧ Below w.heap.size w w' := by
  subst hb; exact worldSame_spec A A' l m cap cap' w hr hr'
theorem text_as {A : Option Addr} {l : List Da} {cap : Nat} {w : World} {s : ByteArray} (hs : fwT l = s) (hr : RDas w w.heap.size A l) :
    Calls Tryd.prog 10 #[.slice A l.length cap] w fun e w' => e = .returned (.string s) ∧ Below w.heap.size w w' := by
  subst hs; exact fworld_impl A l cap w hr
/-- What the last line asks. -/
theorem ws_end {l m : List Da} {b : Bool} (hb : eqv l m = b) (hl : WorldOK l) (hm : WorldOK m) : ((fwT l).toList == (fwT m).toList) = b := by
  rw [fwT_yes hl, fwT_yes hm]
  by_cases h : l = m
  · rw [eqv_t h] at hb
    subst hb h
    exact beq_iff_eq.2 rfl
  · rw [eqv_f h] at hb
    subst hb
    rw [beq_eq_false_iff_ne, ByteArray.toList_eq, ByteArray.toList_eq]
    exact fun e => h (world_inj hl hm (ls_inj e))
set_option maxHeartbeats 3000000 in
theorem worldSameB_law (n cap : Nat) (A : Option Addr) (w : World) (hn : n ≤ maxLen) (hc : n ≤ cap) (h : RBy w w.heap.size A n) :
    Calls Tryd.prog 4 #[.slice A n cap] w fun e w' => e = .returned (.bool true) ∧ Below w.heap.size w w' := by
  have HM := Lib.hid (drawWW_any n cap A w hn hc h)
  unfold maxLen at hn
  clear h hc
  by_cases hbig : n ≤ 1048576
  · have hbI : (n : Int) ≤ 1048576 := by omega
    go_enter Tryd.func4, Tryd.ntmps4
    go_wp2_with fail
    refine (HM.out).mono ?_
    rintro e w1 ⟨A1, l, c1, A2, m, c2, rfl, hr1, hr2, hb⟩
    have HA := Lib.hid hr1
    have HC := Lib.hid hr2
    have HB := Lib.hid hb
    obtain ⟨b, hbv⟩ : ∃ b, eqv l m = b := ⟨_, rfl⟩
    have HE := Lib.hid hbv
    have HE2 : Hid (eqv m l = b) := by
      unfold Hid
      rw [← hbv]
      by_cases h : l = m
      · rw [eqv_t h, eqv_t h.symm]
      · rw [eqv_f h, eqv_f (fun e => h e.symm)]
    have HE3 : Hid (eqv l l = true) := eqv_t rfl
    have hbb : (b != b) = false := by cases b <;> rfl
    have hbe : (b == b) = true := by cases b <;> rfl
    clear hr1 hr2 hb hbv HM
    go_wp2_with fail
    refine (same_as HE.out HA.out HC.out).mono ?_
    rintro e w2 ⟨rfl, hb2⟩
    have HA2 := Lib.hid (HA.out.at_ hb2)
    have HC2 := Lib.hid (HC.out.at_ hb2)
    have HB2 := Lib.hid (below_after HB.out hb2 HB.out.size)
    clear hb2 HA HC HB
    go_wp2_with fail
    refine (same_as_spec HE.out HA2.out HC2.out).mono ?_
    rintro e w3 ⟨rfl, hb3⟩
    have HA3 := Lib.hid (HA2.out.at_ hb3)
    have HC3 := Lib.hid (HC2.out.at_ hb3)
    have HB3 := Lib.hid (below_after HB2.out hb3 HB2.out.size)
    clear hb3 HA2 HC2 HB2
    go_wp2_with fail
    refine (same_as HE2.out HC3.out HA3.out).mono ?_
    rintro e w4 ⟨rfl, hb4⟩
    have HA4 := Lib.hid (HA3.out.at_ hb4)
    have HC4 := Lib.hid (HC3.out.at_ hb4)
    have HB4 := Lib.hid (below_after HB3.out hb4 HB3.out.size)
    clear hb4 HA3 HC3 HB3
    go_wp2_with fail
    refine (same_as HE3.out HA4.out HA4.out).mono ?_
    rintro e w5 ⟨rfl, hb5⟩
    have HA5 := Lib.hid (HA4.out.at_ hb5)
    have HC5 := Lib.hid (HC4.out.at_ hb5)
    have HB5 := Lib.hid (below_after HB4.out hb5 HB4.out.size)
    clear hb5 HA4 HC4 HB4
    by_cases hl : WorldOK l
    · have HL := Lib.hid hl
      clear hl
      go_wp2_with fail
      refine (worldI_yes HA5.out HL.out).mono ?_
      rintro e w6 ⟨rfl, hb6⟩
      have HA6 := Lib.hid (HA5.out.at_ hb6)
      have HC6 := Lib.hid (HC5.out.at_ hb6)
      have HB6 := Lib.hid (below_after HB5.out hb6 HB5.out.size)
      clear hb6 HA5 HC5 HB5
      by_cases hm : WorldOK m
      · have HMM := Lib.hid hm
        have hend := ws_end HE.out HL.out hm
        clear hm
        generalize hs1 : fwT l = s1 at hend
        generalize hs2 : fwT m = s2 at hend
        have HS1 := Lib.hid hs1
        have HS2 := Lib.hid hs2
        clear hs1 hs2
        go_wp2_with fail
        refine (worldI_yes HC6.out HMM.out).mono ?_
        rintro e w7 ⟨rfl, hb7⟩
        have HA7 := Lib.hid (HA6.out.at_ hb7)
        have HC7 := Lib.hid (HC6.out.at_ hb7)
        have HB7 := Lib.hid (below_after HB6.out hb7 HB6.out.size)
        clear hb7 HA6 HC6 HB6
        go_wp2_with fail
        refine (text_as HS1.out HA7.out).mono ?_
        rintro e w8 ⟨rfl, hb8⟩
        have HC8 := Lib.hid (HC7.out.at_ hb8)
        have HB8 := Lib.hid (below_after HB7.out hb8 HB7.out.size)
        clear hb8 HA7 HC7 HB7
        go_wp2_with fail
        refine (text_as HS2.out HC8.out).mono ?_
        rintro e w9 ⟨rfl, hb9⟩
        have HB9 := Lib.hid (below_after HB8.out hb9 HB8.out.size)
        clear hb9 HC8 HB8
        go_wp2_with fail
        go_ret
        exact ⟨rfl, HB9.out⟩
      · have HMM := Lib.hid hm
        clear hm
        go_wp2_with fail
        refine (worldI_no HC6.out HMM.out).mono ?_
        rintro e w7 ⟨rfl, hb7⟩
        have HB7 := Lib.hid (below_after HB6.out hb7 HB6.out.size)
        clear hb7
        go_wp2_with fail
        go_ret
        exact ⟨rfl, HB7.out⟩
    · have HL := Lib.hid hl
      clear hl
      go_wp2_with fail
      refine (worldI_no HA5.out HL.out).mono ?_
      rintro e w6 ⟨rfl, hb6⟩
      have HB6 := Lib.hid (below_after HB5.out hb6 HB5.out.size)
      clear hb6
      go_wp2_with fail
      go_ret
      exact ⟨rfl, HB6.out⟩
  · have hbI : (1048576 : Int) < (n : Int) := by omega
    go_enter Tryd.func4, Tryd.ntmps4
    go_wp2_with fail
    go_ret
    exact ⟨rfl, Below.refl _ _⟩
end Go.Proofs.YthebdlejoficmabDoor
