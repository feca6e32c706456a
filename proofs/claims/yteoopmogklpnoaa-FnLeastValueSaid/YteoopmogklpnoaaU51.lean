/-
  The law FnLeastValue walked. No statement is proved here.
-/
import Derived.Test.YteoopmogklpnoaaU43
import Derived.Test.YteoopmogklpnoaaU46
import Derived.Test.YteoopmogklpnoaaU49
import Derived.Test.YteoopmogklpnoaaU50
import Derived.Test.YteoopmogklpnoaaU17
import Derived.Deep.Slices
import Derived.ChangeArms
namespace Go.Proofs.Yteoopmogklpnoaa
open Go.RowKit Go.Sort Go.Deep
set_option maxRecDepth 100000
set_option linter.unusedVariables false
theorem OVk.own {d : Nat} {w : World} {P : Nat → Prop} {A : Option Addr} {c : Nat} {l : List Vl} (h : OVk d w P A c l) : OVc d w P A l := by
  obtain ⟨_, h2⟩ := h
  exact h2
theorem OVk.room {d : Nat} {w : World} {P : Nat → Prop} {A : Option Addr} {c : Nat} {l : List Vl} (h : OVk d w P A c l) : l.length ≤ c ∧ c ≤ maxLen := by
  obtain ⟨h1, _⟩ := h
  exact h1
theorem drawLV_any (n cap : Nat) (A : Option Addr) (w : World) (hn : n ≤ maxLen) (hc : n ≤ cap) (h : RBy w w.heap.size A n) : Calls Try.prog 23 #[.slice A n cap] w (GotWT w) := by
  have HT0 : Hid (BoxT (w.alloc (.cells #[.int .i64 0, .int .i64 0] 25)) w.heap.size ⟨0, 0⟩) := heap_alloc_new w _
  have HB0 : Hid (Below w.heap.size w (w.alloc (.cells #[.int .i64 0, .int .i64 0] 25))) := (Below.refl _ _).alloc (Nat.le_refl _) _
  have HM : Hid (Calls Try.prog 58 #[.slice A n cap] (w.alloc (.cells #[.int .i64 0, .int .i64 0] 25)) (GotWT (w.alloc (.cells #[.int .i64 0, .int .i64 0] 25)))) :=
    l1Two_any n cap A _ hn hc (fun k hk => by
      obtain ⟨b, off, x, e, hB, hcc, hx⟩ := h k hk
      exact ⟨b, off, x, e, by simp; omega, (World.cell?_alloc_lt _ _ _ hB).trans hcc, hx⟩)
  clear h hc hn
  go_enter Try.func23, Try.ntmps23
  go_wp2_with fail
  refine (HM.out).mono ?_
  rintro e w1 ⟨v, l, t, rfl, hli, hl, hb⟩
  obtain ⟨A3, c3, rfl, _⟩ := hli.form
  have HT1 : Hid (BoxT w1 w.heap.size ⟨0, 0⟩) := HT0.out.keep (hb.block _ (by simp))
  have hzw : (w.alloc (.cells #[.int .i64 0, .int .i64 0] 25)).heap.size = w.heap.size + 1 := by simp
  have HF : Hid (GotWT w (.returned (.tuple #[.slice A3 l.length c3, .agg #[.int .i64 t.data, .int .i64 t.index]])) ((w1.setCell ⟨w.heap.size, 0, none⟩ (.int .i64 t.data)).setCell ⟨w.heap.size, 1, none⟩ (.int .i64 t.index))) := by
    have hs : Stays (w.heap.size + 1) w1 ((w1.setCell ⟨w.heap.size, 0, none⟩ (.int .i64 t.data)).setCell ⟨w.heap.size, 1, none⟩ (.int .i64 t.index)) :=
      ⟨by simp [World.setCell], fun b hb _ => (Below.heap_setCell _ _ _ _ (by simp only; omega)).trans (Below.heap_setCell _ _ _ _ (by simp only; omega))⟩
    rw [hzw] at hli
    exact ⟨_, l, t, rfl, (hli.at_ hs).lower (by omega), hl, ((below_after HB0.out hb HB0.out.size).setCell (Nat.le_refl _) _).setCell (Nat.le_refl _) _⟩
  have HU5 : Hid (BoxT ((w1.setCell ⟨w.heap.size, 0, none⟩ (.int .i64 t.data)).setCell ⟨w.heap.size, 1, none⟩ (.int .i64 t.index)) w.heap.size t) := heap_setCell_same _ _ 1 _ _ _ (heap_setCell_same _ _ 0 _ _ _ HT1.out)
  have q0 := HT1.out.c0
  have q1 := HT1.out.c1
  have qf := HT1.out.fz
  have r0 := HU5.out.c0
  have r1 := HU5.out.c1
  clear hli hb HT0 HB0 HM
  go_wp2_with fail
  exact bodyPost_ret (v := .tuple #[.slice A3 l.length c3, .agg #[.int .i64 t.data, .int .i64 t.index]]) (by simp [results, Try.results23, go_sem, r0, r1]) rfl HF.out
set_option maxHeartbeats 4000000 in
theorem leastV_law (n cap : Nat) (A : Option Addr) (w : World) (hn : n ≤ maxLen) (hc : n ≤ cap) (h : RBy w w.heap.size A n) : Calls Try.prog 6 #[.slice A n cap] w fun e w' => e = .returned (.bool true) ∧ Below w.heap.size w w' := by
  have HC := Lib.hid hc
  have HNM := Lib.hid hn
  have H := Lib.hid h
  clear hc hn h
  by_cases hb : n ≤ 1048576
  · have hbI : (n : Int) ≤ 1048576 := by omega
    go_enter Try.func6, Try.ntmps6
    go_wp2_with fail
    refine (drawLV_any n cap A w HNM.out HC.out H.out).mono ?_
    rintro e w1 ⟨v0, l, t, rfl, hli, hl, hb1⟩
    obtain ⟨Aw, cw, rfl, hrd⟩ := hli.form
    generalize hwb : w1.alloc (.cells #[.int .i64 t.data, .int .i64 t.index] 25) = wb
    have hbb : Below w1.heap.size w1 wb := by rw [← hwb]; exact (Below.refl _ _).alloc (Nat.le_refl _) _
    have R0 : Hid (RDas wb wb.heap.size Aw l) := hrd.at_ hbb
    have XT0 : Hid (Bx wb w1.heap.size t) := by rw [← hwb]; exact ⟨by simp [go_sem], by simp [go_sem]⟩
    have B0 : Hid (Below w.heap.size w wb) := below_after hb1 hbb hb1.size
    have HWB := Lib.hid hwb
    have HLY := Lib.hid (@lvB_yes l t)
    have HWV : Hid (wV (lvR l t) ≤ 1048576) := by have := lvR_w l t; unfold Hid; omega
    clear hwb hbb hrd hb1 hli hl
    go_wp2_with fail
    rw [HWB.out]
    with_reducible refine (lvc_impl Aw l cw t wb R0.out).mono ?_
    rintro e2 w2 ⟨D, c, rfl, ok2, hb2⟩
    have HLS := Lib.hid (fun W hr => lvc_spec Aw l cw t W hr)
    unfold LvTc at HLS
    generalize lvR l t = v at HLY HWV ok2 HLS ⊢
    generalize lvB l t = bb at HLY HLS ⊢
    generalize hwc : w2.alloc (.cells #[.int .i64 v.ctor, .int .i64 v.n, .slice D v.kids.length c] 28) = wc
    have hbc : Below w2.heap.size w2 wc := by rw [← hwc]; exact (Below.refl _ _).alloc (Nat.le_refl _) _
    have hsc : wc.heap.size = w2.heap.size + 1 := by rw [← hwc]; simp
    have XV3 : Hid (VBx wc w2.heap.size v.ctor v.n (.slice D v.kids.length c)) := by rw [← hwc]; exact ⟨by simp [go_sem], by simp [go_sem], by simp [go_sem]⟩
    have hb0c := below_aft hb2 hbc hb2.size
    have R3 := Lib.hid (R0.out.at_ hb0c)
    have XT3 : Hid (Bx wc w1.heap.size t) := XT0.out.at_ hb0c
    have B3 : Hid (Below w.heap.size w wc) := below_after B0.out hb0c B0.out.size
    have O3 : Hid (OVk 10 wc (Nw wb w2) D c v.kids) := ok2.fr _ (Fr.below (P := fun _ => False) hbc) (fun _ _ h => h)
    have HP : Hid (∀ b, Nw wb w2 b → b < wc.heap.size) := fun b h => by have := h.2; omega
    have HWC := Lib.hid hwc
    obtain ⟨u0, u1⟩ := XT0.out.at_ hb2
    have hl12 : w1.heap.size < w2.heap.size := Go.block_lt_of_cell u0
    generalize Nw wb w2 = P at O3 HP
    clear hwc hbc hb2 ok2 hb0c hsc R0 XT0 B0
    go_wp2_with fail
    rw [HWC.out]
    with_reducible refine (HLS.out wc R3.out).mono ?_
    rintro e3 w3 ⟨E, d, rfl, ok4, hb4⟩
    generalize hwd : w3.alloc (.cells #[.int .i64 v.ctor, .int .i64 v.n, .slice E v.kids.length d] 28) = wd
    have hbd : Below w3.heap.size w3 wd := by rw [← hwd]; exact (Below.refl _ _).alloc (Nat.le_refl _) _
    have hsd : wd.heap.size = w3.heap.size + 1 := by rw [← hwd]; simp
    have XW5 : Hid (VBx wd w3.heap.size v.ctor v.n (.slice E v.kids.length d)) := by rw [← hwd]; exact ⟨by simp [go_sem], by simp [go_sem], by simp [go_sem]⟩
    have hbcd := below_aft hb4 hbd hb4.size
    have R5 := Lib.hid (R3.out.at_ hbcd)
    have XT5 : Hid (Bx wd w1.heap.size t) := XT3.out.at_ hbcd
    have XV5 : Hid (VBx wd w2.heap.size v.ctor v.n (.slice D v.kids.length c)) := XV3.out.at_ hbcd
    have B5 : Hid (Below w.heap.size w wd) := below_after B3.out hbcd B3.out.size
    have O5 : Hid (OVk 10 wd P D c v.kids) := O3.out.fr _ (Fr.below (P := fun _ => False) hbcd) (fun _ _ h => h)
    have P5 : Hid (OVk 10 wd (Nw wc w3) E d v.kids) := ok4.fr _ (Fr.below (P := fun _ => False) hbd) (fun _ _ h => h)
    have HQ : Hid (∀ b, Nw wc w3 b → b < wd.heap.size) := fun b h => by have := h.2; omega
    have HP5 : Hid (∀ b, P b → b < wd.heap.size) := fun b h => by have := HP.out b h; have := hbcd.size; omega
    have HWD := Lib.hid hwd
    clear HP
    have HP := HP5
    clear HP5
    have hs : ∃ s, s = wd.heap.size := ⟨_, rfl⟩
    obtain ⟨s, hs⟩ := hs
    rw [← hs] at HP HQ
    have S5 : Hid (s ≤ wd.heap.size) := by unfold Hid; omega
    obtain ⟨v0', v1', v2'⟩ := XV3.out.at_ hb4
    have hl23 : w2.heap.size < w3.heap.size := Go.block_lt_of_cell v0'
    generalize Nw wc w3 = Q at P5 HQ
    clear hwd hbd hb4 ok4 hbcd hsd R3 XT3 XV3 B3 O3 u0 u1 hs
    generalize wd = w5 at XW5 R5 XT5 XV5 B5 O5 P5 S5 HWD
    cases bb with
    | true =>
      obtain ⟨hvv, hlb, hld⟩ := HLY.out rfl
      have HVV := Lib.hid hvv
      have HLB := Lib.hid hlb
      have HLD := Lib.hid hld
      clear hvv hlb hld HLY HLS
      have hw5 : w3.alloc (.cells #[.int .i64 v.ctor, .int .i64 v.n, .slice E v.kids.length d] 28) = w5 := HWD.out
      obtain ⟨y0, y1, y2⟩ := XV5.out
      obtain ⟨z0, z1, z2⟩ := XW5.out
      clear hw5
      go_wp2_with fail
      rw [HWD.out]
      with_reducible refine (vsm_impl D E v v c d 10 10 P Q w5 O5.out.own P5.out.own (fun b h => by have := HP.out b h; have := S5.out; omega) (fun b h => by have := HQ.out b h; have := S5.out; omega) O5.out.room P5.out.room HWV.out).mono ?_
      rw [show dec (v = v) = true from dec_t rfl]
      rintro e6 w6 ⟨rfl, hb6⟩
      have R6 := Lib.hid (R5.out.at_ hb6)
      have XT6 : Hid (Bx w6 w1.heap.size t) := XT5.out.at_ hb6
      have XV6 : Hid (VBx w6 w2.heap.size v.ctor v.n (.slice D v.kids.length c)) := XV5.out.at_ hb6
      have XW6 : Hid (VBx w6 w3.heap.size v.ctor v.n (.slice E v.kids.length d)) := XW5.out.at_ hb6
      have O6 : Hid (OVk 10 w6 P D c v.kids) := O5.out.fr _ (Fr.below (P := fun _ => False) hb6) (fun _ _ h => h)
      have P6 : Hid (OVk 10 w6 Q E d v.kids) := P5.out.fr _ (Fr.below (P := fun _ => False) hb6) (fun _ _ h => h)
      have S6 : Hid (s ≤ w6.heap.size) := Nat.le_trans S5.out hb6.size
      have B6 : Hid (Below w.heap.size w w6) := below_after B5.out hb6 B5.out.size
      clear hb6
      clear v0' v1' v2' y0 y1 y2 z0 z1 z2
      obtain ⟨x0, x1⟩ := XT6.out
      obtain ⟨y0, y1, y2⟩ := XV6.out
      go_wp2_with fail
      with_reducible refine (least_impl Aw l cw t w6 R6.out).mono ?_
      rw [HLB.out, HLD.out]
      rintro e7 w7 ⟨rfl, hb7⟩
      have R7 := Lib.hid (R6.out.at_ hb7)
      have XT7 : Hid (Bx w7 w1.heap.size t) := XT6.out.at_ hb7
      have XV7 : Hid (VBx w7 w2.heap.size v.ctor v.n (.slice D v.kids.length c)) := XV6.out.at_ hb7
      have O7 : Hid (OVk 10 w7 P D c v.kids) := O6.out.fr _ (Fr.below (P := fun _ => False) hb7) (fun _ _ h => h)
      have S7 : Hid (s ≤ w7.heap.size) := Nat.le_trans S6.out hb7.size
      have B7 : Hid (Below w.heap.size w w7) := below_after B6.out hb7 B6.out.size
      clear hb7
      clear x0 x1 y0 y1 y2
      obtain ⟨x0, x1⟩ := XT7.out
      obtain ⟨y0, y1, y2⟩ := XV7.out
      go_wp2_with fail
      with_reducible refine (vv_impl Aw D l cw c 9 t v w7 R7.out (OVk.reads 9 O7.out) (by have := HWV.out; omega)).mono ?_
      rw [HVV.out]
      rintro e8 w8 ⟨rfl, hb8⟩
      have XV8 : Hid (VBx w8 w2.heap.size v.ctor v.n (.slice D v.kids.length c)) := XV7.out.at_ hb8
      have O8 : Hid (OVk 10 w8 P D c v.kids) := O7.out.fr _ (Fr.below (P := fun _ => False) hb8) (fun _ _ h => h)
      have S8 : Hid (s ≤ w8.heap.size) := Nat.le_trans S7.out hb8.size
      have B8 : Hid (Below w.heap.size w w8) := below_after B7.out hb8 B7.out.size
      clear hb8
      clear x0 x1 y0 y1 y2
      obtain ⟨y0, y1, y2⟩ := XV8.out
      have hdd : ((dV v : Int) == (dV v : Int)) = true := by simp
      go_wp2_with fail
      with_reducible refine (dp_impl D v c 10 P w8 O8.out.own (fun b h => by have := HP.out b h; have := S8.out; omega) O8.out.room HWV.out).mono ?_
      rintro e9 w9 ⟨rfl, hb9⟩
      have B9 : Hid (Below w.heap.size w w9) := below_after B8.out hb9 B8.out.size
      clear hb9 y0 y1 y2
      generalize (dV v : Int) = dd at hdd ⊢
      go_wp2_with fail
      go_ret
      exact ⟨rfl, B9.out⟩
    | false =>
      clear HLY HLS
      go_wp2_with fail
      rw [HWD.out]
      with_reducible refine (vsm_impl D E v v c d 10 10 P Q w5 O5.out.own P5.out.own (fun b h => by have := HP.out b h; have := S5.out; omega) (fun b h => by have := HQ.out b h; have := S5.out; omega) O5.out.room P5.out.room HWV.out).mono ?_
      rw [show dec (v = v) = true from dec_t rfl]
      rintro e6 w6 ⟨rfl, hb6⟩
      have R6 := Lib.hid (R5.out.at_ hb6)
      have XT6 : Hid (Bx w6 w1.heap.size t) := XT5.out.at_ hb6
      have XV6 : Hid (VBx w6 w2.heap.size v.ctor v.n (.slice D v.kids.length c)) := XV5.out.at_ hb6
      have XW6 : Hid (VBx w6 w3.heap.size v.ctor v.n (.slice E v.kids.length d)) := XW5.out.at_ hb6
      have O6 : Hid (OVk 10 w6 P D c v.kids) := O5.out.fr _ (Fr.below (P := fun _ => False) hb6) (fun _ _ h => h)
      have P6 : Hid (OVk 10 w6 Q E d v.kids) := P5.out.fr _ (Fr.below (P := fun _ => False) hb6) (fun _ _ h => h)
      have S6 : Hid (s ≤ w6.heap.size) := Nat.le_trans S5.out hb6.size
      have B6 : Hid (Below w.heap.size w w6) := below_after B5.out hb6 B5.out.size
      clear hb6
      clear v0' v1' v2'
      obtain ⟨y0, y1, y2⟩ := XV6.out
      obtain ⟨z0, z1, z2⟩ := XW6.out
      go_wp2_with fail
      with_reducible refine (vsm_impl D E v v c d 10 10 P Q w6 O6.out.own P6.out.own (fun b h => by have := HP.out b h; have := S6.out; omega) (fun b h => by have := HQ.out b h; have := S6.out; omega) O6.out.room P6.out.room HWV.out).mono ?_
      rw [show dec (v = v) = true from dec_t rfl]
      rintro e7 w7 ⟨rfl, hb7⟩
      have B7 : Hid (Below w.heap.size w w7) := below_after B6.out hb7 B6.out.size
      clear hb7 y0 y1 y2 z0 z1 z2
      go_wp2_with fail
      go_ret
      exact ⟨rfl, B7.out⟩
  · have hbI : (1048576 : Int) < (n : Int) := by omega
    go_enter Try.func6, Try.ntmps6
    go_wp2_with fail
    go_ret
    exact ⟨rfl, Below.refl _ _⟩
end Go.Proofs.Yteoopmogklpnoaa
/-
  The argument of the statements, opened; lists of numbers compared: the statements' own functions. No statement is proved here.
-/
namespace Go.Proofs.Yteoopmogklpnoaa
open Go.RowKit Go.Deep
open Go.ChangeShapes Go.WideShapes Go.ChangeAt
set_option maxRecDepth 100000
set_option linter.unusedVariables false
section
variable {H : Type} {enc : TypeId × Value → H} {w : World} {spare : Nat → Bool} {held : Bool}
theorem spot_none {w : World} {a : Addr} {v : Value} (h : w.cell? a = some v) : a.spot = none := by
  unfold World.cell? at h
  split at h
  · split at h
    · cases h
    · simpa using ‹¬ a.spot.isSome = true›
  · cases h
theorem open_code {v : Value} {d : DataW H} {p : List MemPlace} (hval : Value.okWide Try.prog w .any w.heap.size 22 v) (h : DataW.Trod enc Try.prog w 0 spare held 22 v d p) :
    ∃ A n cap, v = .slice A n cap ∧ n ≤ maxLen ∧ n ≤ cap ∧ RBy w w.heap.size A n := by
  obtain ⟨fuel, hf⟩ := h
  have hv : ∃ A n cap, v = .slice A n cap := okWide_slice Try.underlying22 hval
  obtain ⟨A, n, cap, rfl⟩ := hv
  rcases open_slice Try.underlying22 hf with ⟨hcs, _⟩ | ⟨a, len, cap', m, n', D, Pl, hcs, hb, hl, hm, hmm, hx, hi⟩
  · simp [Value.cells] at hcs
    obtain ⟨rfl, rfl, rfl⟩ := hcs
    exact ⟨none, 0, 0, rfl, Nat.zero_le _, Nat.le_refl _, fun k hk => absurd hk (by omega)⟩
  · simp [Value.cells] at hcs
    obtain ⟨rfl, rfl, rfl⟩ := hcs
    have hlm : n ≤ m := by rw [hmm]; split <;> omega
    refine ⟨some a, n, cap, rfl, by omega, hl, fun k hk => ?_⟩
    obtain ⟨cs', q1, q2⟩ := hi k (by omega)
    have h1 : Try.prog.cellsOf 5 = 1 := by kernel_rfl
    rw [h1] at q1
    obtain ⟨_, hcl, hat⟩ := World.cells?_some q1
    obtain ⟨x, rfl, _, hwf⟩ := DataW.trod_int Try.underlying5 q2
    have hc := (hat 0 (by omega)).trans rfl
    have hsp : a.spot = none := by
      obtain ⟨cs0, r1, r2⟩ := hi 0 (by omega)
      rw [h1] at r1
      obtain ⟨_, _, hat0⟩ := World.cells?_some r1
      obtain ⟨x0, rfl, _, _⟩ := DataW.trod_int Try.underlying5 r2
      have h0 := (hat0 0 (by omega)).trans rfl
      exact spot_none (w := w) (a := a) (by simpa [Addr.add] using h0)
    obtain ⟨b, off, sp⟩ := a
    simp only at hsp
    subst hsp
    simp only [Addr.add_lit, Nat.add_zero, Nat.mul_one] at hc
    have hw : 0 ≤ x ∧ x ≤ 255 := by
      have : (IntKind.u8.min ≤ x ∧ x ≤ IntKind.u8.max) := by simpa [Lit.wf] using hwf
      exact this
    exact ⟨b, off, x, rfl, block_lt_of_cell hc, hc, hw.1, hw.2⟩
end
end Go.Proofs.Yteoopmogklpnoaa
