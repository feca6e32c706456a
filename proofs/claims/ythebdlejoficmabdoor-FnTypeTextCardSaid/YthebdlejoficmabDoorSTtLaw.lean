/-
  The law FnTypeText walked. No statement is proved here.
-/
import Derived.Test.YthebdlejoficmabDoorG05
import Derived.Test.YthebdlejoficmabDoorG06
namespace Go.Proofs.YthebdlejoficmabDoor
open Go.RowKit Go.Deep
set_option maxRecDepth 100000
set_option linter.unusedVariables false

theorem RBy.under {w w' : World} {A : Option Addr} {n : Nat} (h : RBy w w.heap.size A n) (hb : Below w.heap.size w w') : RBy w' w'.heap.size A n := fun k hk => by
  obtain ⟨b, off, x, e, hB, hcc, hx⟩ := h k hk
  exact ⟨b, off, x, e, Nat.lt_of_lt_of_le hB hb.size, (hb.cell hB).trans hcc, hx⟩
theorem BoxT.at_ {w w' : World} {b : Nat} {t : Ty} (h : BoxT w b t) (hb : Below w.heap.size w w') : BoxT w' b t := h.keep (hb.block b h.lt)
/-- The first part of the walk: two types drawn, and what their texts are. -/
def ftS (l : List Da) (t : Ty) (s : ByteArray) : Prop := (TyOK l t ∧ s = tyT l t) ∨ (¬ TyOK l t ∧ s = ⟨#[]⟩)
set_option maxHeartbeats 3000000 in
theorem typeText_law (n n2 cap cap2 : Nat) (A A2 : Option Addr) (w : World) (hn : n ≤ maxLen) (hn2 : n2 ≤ maxLen) (hc : n ≤ cap) (hc2 : n2 ≤ cap2) (h : RBy w w.heap.size A n) (h2 : RBy w w.heap.size A2 n2) :
    Calls Tryd.prog 5 #[.slice A n cap, .slice A2 n2 cap2] w fun e w' => e = .returned (.bool true) ∧ Below w.heap.size w w' := by
  have HM := Lib.hid (drawTy_any n cap A w hn hc h)
  have HM2 : Hid (∀ w' : World, Below w.heap.size w w' → Calls Tryd.prog 14 #[.slice A2 n2 cap2] w' (GotWT w')) := fun w' hb => drawTy_any n2 cap2 A2 w' hn2 hc2 (h2.under hb)
  unfold maxLen at hn hn2
  clear h hc h2 hc2
  by_cases hbig : n ≤ 1048576
  · have hbI : (n : Int) ≤ 1048576 := by omega
    by_cases hbig2 : n2 ≤ 1048576
    · have hbI2 : (n2 : Int) ≤ 1048576 := by omega
      go_enter Tryd.func5, Tryd.ntmps5
      go_wp2_with fail
      refine (HM.out).mono ?_
      rintro e w1 ⟨v, l, t, rfl, hli, hl, hb⟩
      obtain ⟨Aw, cw, rfl, hrd⟩ := hli.form
      have HRW : Hid (RDas (w1.alloc (.cells #[.int .i64 t.data, .int .i64 t.index] 39)) (w1.alloc (.cells #[.int .i64 t.data, .int .i64 t.index] 39)).heap.size Aw l) := hrd.at_ ((Below.refl _ _).alloc (Nat.le_refl _) _)
      have HBX : Hid (BoxT (w1.alloc (.cells #[.int .i64 t.data, .int .i64 t.index] 39)) w1.heap.size t) := heap_alloc_new w1 _
      have HB : Hid (Below w.heap.size w (w1.alloc (.cells #[.int .i64 t.data, .int .i64 t.index] 39))) := hb.alloc hb.size _
      clear hrd hli hb HM
      go_wp2_with fail
      generalize (w1.alloc (.cells #[.int .i64 t.data, .int .i64 t.index] 39)) = wa at HRW HBX HB ⊢
      refine (ftype_impl _ l _ t _ HRW.out).mono ?_
      rintro e w2 ⟨rfl, hb2⟩
      have HRW2 := Lib.hid (HRW.out.at_ hb2)
      have HBX2 := Lib.hid (HBX.out.at_ hb2)
      have HB2 := Lib.hid (below_after HB.out hb2 HB.out.size)
      clear hb2 HRW HBX HB
      go_wp2_with fail
      refine (HM2.out _ HB2.out).mono ?_
      rintro e w3 ⟨v3, l3, u, rfl, hli3, hl3, hb3⟩
      obtain ⟨A3, c3, rfl, _⟩ := hli3.form
      have HRW3 := Lib.hid (HRW2.out.at_ hb3)
      have HBX3 := Lib.hid (HBX2.out.at_ hb3)
      have HB3 := Lib.hid (below_after HB2.out hb3 HB2.out.size)
      have HRWa : Hid (RDas (w3.alloc (.cells #[.int .i64 u.data, .int .i64 u.index] 39)) (w3.alloc (.cells #[.int .i64 u.data, .int .i64 u.index] 39)).heap.size Aw l) := HRW3.out.at_ ((Below.refl _ _).alloc (Nat.le_refl _) _)
      have HBXa : Hid (BoxT (w3.alloc (.cells #[.int .i64 u.data, .int .i64 u.index] 39)) w1.heap.size t) := HBX3.out.at_ ((Below.refl _ _).alloc (Nat.le_refl _) _)
      have HBU : Hid (BoxT (w3.alloc (.cells #[.int .i64 u.data, .int .i64 u.index] 39)) w3.heap.size u) := heap_alloc_new w3 _
      have HBa : Hid (Below w.heap.size w (w3.alloc (.cells #[.int .i64 u.data, .int .i64 u.index] 39))) := HB3.out.alloc HB3.out.size _
      clear hli3 hb3 HRW2 HBX2 HB2 HRW3 HBX3 HB3
      go_wp2_with fail
      generalize (w3.alloc (.cells #[.int .i64 u.data, .int .i64 u.index] 39)) = wb at HRWa HBXa HBU HBa ⊢
      refine (ftype_impl _ l _ u _ HRWa.out).mono ?_
      rintro e w4 ⟨rfl, hb4⟩
      have HRW4 := Lib.hid (HRWa.out.at_ hb4)
      have HBX4 := Lib.hid (HBXa.out.at_ hb4)
      have HBU4 := Lib.hid (HBU.out.at_ hb4)
      have HB4 := Lib.hid (below_after HBa.out hb4 HBa.out.size)
      clear hb4 HRWa HBXa HBU HBa
      have x0 := HBX4.out.c0
      have x1 := HBX4.out.c1
      go_wp2_with fail
      refine (ftype_spec _ l _ t _ HRW4.out).mono ?_
      rintro e w5 ⟨rfl, hb5⟩
      have HRW5 := Lib.hid (HRW4.out.at_ hb5)
      have HBX5 := Lib.hid (HBX4.out.at_ hb5)
      have HBU5 := Lib.hid (HBU4.out.at_ hb5)
      have HB5 := Lib.hid (below_after HB4.out hb5 HB4.out.size)
      clear hb5 HRW4 HBX4 HBU4 HB4 x0 x1
      have x0 := HBX5.out.c0
      have x1 := HBX5.out.c1
      have hsz0 : ∀ {x : ByteArray}, ¬ x.size = 0 → ¬ x.toList = [] := fun h => notEmpty_of h
      by_cases ht : TyOK l t
      · rw [ftT_yes ht]
        have ha1 := notEmpty_of (tyT_some ht)
        have ha2 := notEmpty_of' (tyT_some ht)
        have HT := Lib.hid ht
        by_cases hu : TyOK l u
        · rw [ftT_yes hu]
          have hb1 := notEmpty_of (tyT_some hu)
          have hb2 := notEmpty_of' (tyT_some hu)
          by_cases he : t = u
          · subst he
            generalize tyT l t = a at ha1 ha2 hb1 hb2 ⊢
            clear hsz0 ht hu hb1 hb2
            go_wp2_with (go_at_call 17; refine (typeI_yes HRW5.out HT.out).mono ?_; rintro e w6 ⟨rfl, hb6⟩; have HB6 := Lib.hid (below_after HB5.out hb6 HB5.out.size); have y0 := (HBX5.out.at_ hb6).c0; have y1 := (HBX5.out.at_ hb6).c1; have z0 := (HBU5.out.at_ hb6).c0; have z1 := (HBU5.out.at_ hb6).c1; clear hb6)
            all_goals go_ret
            all_goals exact ⟨rfl, HB6.out⟩
          · have hne : ¬ tyT l t = tyT l u := fun e => he (tyT_inj ht hu e)
            have hne2 : ((tyT l t).toList == (tyT l u).toList) = false := by
              rw [beq_eq_false_iff_ne, ByteArray.toList_eq, ByteArray.toList_eq]
              exact fun e => hne (ba_ext' e)
            generalize tyT l t = a at ha1 ha2 hne hne2 ⊢
            generalize tyT l u = b at hb1 hb2 hne hne2 ⊢
            clear hsz0 ht hu
            go_wp2_with (go_at_call 17; refine (typeI_yes HRW5.out HT.out).mono ?_; rintro e w6 ⟨rfl, hb6⟩; have HB6 := Lib.hid (below_after HB5.out hb6 HB5.out.size); have y0 := (HBX5.out.at_ hb6).c0; have y1 := (HBX5.out.at_ hb6).c1; have z0 := (HBU5.out.at_ hb6).c0; have z1 := (HBU5.out.at_ hb6).c1; clear hb6)
            all_goals first | (go_ret; exact ⟨rfl, HB6.out⟩) | (exfalso; apply he; obtain ⟨a1, a2⟩ := t; obtain ⟨b1, b2⟩ := u; simp_all)
        · rw [ftT_no hu]
          generalize tyT l t = a at ha1 ha2 ⊢
          clear hsz0 ht hu
          go_wp2_with (go_at_call 17; refine (typeI_yes HRW5.out HT.out).mono ?_; rintro e w6 ⟨rfl, hb6⟩; have HB6 := Lib.hid (below_after HB5.out hb6 HB5.out.size); clear hb6)
          go_ret
          exact ⟨rfl, HB6.out⟩
      · rw [ftT_no ht]
        have HT := Lib.hid ht
        clear hsz0 ht
        go_wp2_with (go_at_call 17; refine (typeI_no HRW5.out HT.out).mono ?_; rintro e w6 ⟨rfl, hb6⟩; have HB6 := Lib.hid (below_after HB5.out hb6 HB5.out.size); clear hb6)
        go_ret
        exact ⟨rfl, HB6.out⟩
    · have hbI2 : (1048576 : Int) < (n2 : Int) := by omega
      go_enter Tryd.func5, Tryd.ntmps5
      go_wp2_with fail
      go_ret
      exact ⟨rfl, Below.refl _ _⟩
  · have hbI : (1048576 : Int) < (n : Int) := by omega
    go_enter Tryd.func5, Tryd.ntmps5
    go_wp2_with fail
    go_ret
    exact ⟨rfl, Below.refl _ _⟩
end Go.Proofs.YthebdlejoficmabDoor
