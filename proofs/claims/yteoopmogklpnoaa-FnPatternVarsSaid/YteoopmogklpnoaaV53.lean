/-
  PatternVars of the document. No statement is proved here.
-/
import Derived.Test.YteoopmogklpnoaaV51
import Derived.Test.YteoopmogklpnoaaV06
import Derived.Test.YteoopmogklpnoaaV43
namespace Go.Proofs.Yteoopmogklpnoaa
open Go.RowKit Go.Sort Go.Deep
set_option maxRecDepth 100000
set_option linter.unusedVariables false
set_option maxHeartbeats 1600000 in
theorem pvars_spec (A D : Option Addr) (l : List Da) (cap ep e : Nat) (t : Ty) (p : Pt) (w : World) (hr : RDas w w.heap.size A l) (hv : RPs e w w.heap.size D p.kids) (hn : wP p ≤ 1048576) :
    Calls Try.prog 29 #[.slice A l.length cap, .agg #[.int .i64 t.data, .int .i64 t.index], .agg #[.int .i64 p.op, .int .i64 p.ctor, .int .i64 p.n, .int .i64 p.m, .int .i64 p.var, .slice D p.kids.length ep]] w fun e w' => ∃ v, e = .returned v ∧ OVt w' w.heap.size v (pvL l t p) ∧ Below w.heap.size w w' := by
  have Hr := Lib.hid hr
  have HV := Lib.hid hv
  clear hr hv
  generalize hw0 : (w.alloc (.cells #[.int .i64 t.data, .int .i64 t.index] 25)).alloc (.cells #[.int .i64 p.op, .int .i64 p.ctor, .int .i64 p.n, .int .i64 p.m, .int .i64 p.var, .slice D p.kids.length ep] 50) = w0
  have hb0 := below_box2 hw0
  have HXT : Hid (Bx w0 w.heap.size t) := by rw [← hw0]; exact ⟨by simp [go_sem], by simp [go_sem]⟩
  have HXP : Hid (PBx w0 (w.heap.size + 1) p (.slice D p.kids.length ep)) := by rw [← hw0]; exact ⟨by simp [go_sem], by simp [go_sem], by simp [go_sem], by simp [go_sem], by simp [go_sem], by simp [go_sem]⟩
  have HW := Lib.hid hw0
  clear hw0
  by_cases hf : pvT l t p = true
  · have HF := Lib.hid hf
    have HL := Lib.hid (pvL_yes hf)
    have hsh := pvT_sh hf
    have ht : TyOK l t := by
      by_cases ht : TyOK l t
      · exact ht
      · rw [pvT_no ht] at hf; cases hf
    have HT := Lib.hid ht
    have HSH := Lib.hid hsh
    clear hf ht hsh
    go_enter Try.func29, Try.ntmps29
    go_wp2_with (go_at_call 33; rw [HW.out]; refine (pv_spec A D l cap ep e t p w0 (Hr.out.at_ hb0) (HV.out.at_ hb0) hn).mono ?_; rw [HF.out]; rintro e1 w1 ⟨rfl, hb1⟩; obtain ⟨x0, x1⟩ := HXT.out.at_ hb1; obtain ⟨y0, y1, y2, y3, y4, y5⟩ := HXP.out.at_ hb1; have hb1w := below_aft hb0 hb1 hb0.size; have hlt0 : w.heap.size < w1.heap.size := Go.block_lt_of_cell x0; have hlt1 : w.heap.size + 1 < w1.heap.size := Go.block_lt_of_cell y0)
    obtain ⟨w2, hw2⟩ : ∃ w2, w1.alloc (.cells #[] 56) = w2 := ⟨_, rfl⟩
    have hb2 : Below w1.heap.size w1 w2 := by rw [← hw2]; exact (Below.refl _ _).alloc (Nat.le_refl _) _
    have ho2 : OVt w2 w1.heap.size (.slice (some ⟨w1.heap.size, 0, none⟩) 0 0) [] := by rw [← hw2]; exact ⟨[], World.ownsRow_lit w1 #[] 0 (Nat.le_refl _) (by unfold maxLen; omega) rfl, fun j h => absurd h (Nat.not_lt_zero _)⟩
    have HVC := Lib.hid (varC_any l 10 A D cap ep e t p [] (.slice (some ⟨w1.heap.size, 0, none⟩) 0 0) w1.heap.size w2 ((Hr.out.at_ hb1w).below hb2 (Nat.le_refl _)) HT.out ((HV.out.at_ hb1w).below hb2 (Nat.le_refl _)) HSH.out.1 ho2 hb2.size (by have := HSH.out.2; simp; omega))
    have HW2 := Lib.hid hw2
    clear hw2 ho2
    go_wp2_with (go_at_call 65; (try rw [HW2.out]); refine HVC.out.mono ?_; rintro e3 w3 ⟨v3, rfl, ho3, hg3, hf3⟩; rw [List.nil_append] at ho3; have HO3 := Lib.hid ho3; have HG3 := Lib.hid hg3; clear ho3 hg3 hf3)
    go_ret
    have hs1 := hb1w.size
    have h3 : Below w1.heap.size w1 w3 := hb2.trans (grown_low HG3.out (fun q e => by have e' : w1.heap.size = q := Option.some.inj e; omega) hb2.size)
    exact ⟨_, rfl, by rw [HL.out]; exact HO3.out.lower hs1, hb1w.trans (h3.mono hs1)⟩
  · have hf' : pvT l t p = false := by simpa using hf
    have HF := Lib.hid hf'
    have HL := Lib.hid (pvL_no hf')
    clear hf hf'
    go_enter Try.func29, Try.ntmps29
    go_wp2_with (go_at_call 33; rw [HW.out]; refine (pv_spec A D l cap ep e t p w0 (Hr.out.at_ hb0) (HV.out.at_ hb0) hn).mono ?_; rw [HF.out]; rintro e1 w1 ⟨rfl, hb1⟩; have hb1w := below_aft hb0 hb1 hb0.size)
    go_ret
    exact ⟨_, rfl, by rw [HL.out]; exact ⟨[], World.ownsRow_lit w1 #[] 0 hb1w.size (by unfold maxLen; omega) rfl, fun j h => absurd h (Nat.not_lt_zero _)⟩, hb1w.alloc hb1w.size _⟩
end Go.Proofs.Yteoopmogklpnoaa
/-
  The law FnPatternVars walked. No statement is proved here.
-/
namespace Go.Proofs.Yteoopmogklpnoaa
open Go.RowKit Go.Sort Go.Deep
set_option maxRecDepth 100000
set_option linter.unusedVariables false
theorem neqVt_no (x : Vt) (w : World) : (Go.binOp .neq 56 (vv x) (vv x)).run Try.prog w = .ok (.bool false) w := by
  have hS : Try.prog.underlying 56 = some (.struct (Try.prog.fieldsOf 56)) := by kernel_rfl
  have hp : Try.prog.stoodInHeld 56 = false := by kernel_rfl
  have hS2 : Try.prog.underlying 25 = some (.struct (Try.prog.fieldsOf 25)) := by kernel_rfl
  have hp2 : Try.prog.stoodInHeld 25 = false := by kernel_rfl
  have u3 := Try.underlying3
  have a3 := Try.isAgg3
  have z3 := Try.sizeOf3
  have a4 := Try.isAgg25
  have z4 := Try.sizeOf25
  obtain ⟨a, b, c⟩ := x
  have hN : (Op.equalIn 9999 25 (.agg #[.int .i64 b, .int .i64 c]) (.agg #[.int .i64 b, .int .i64 c])).run Try.prog w = .ok true w := by
    rw [show (9999 : Nat) = 9998 + 1 from rfl, run_equalIn_agg w 9998 25 _ _ hS2 hp2]
    simp only [Program.fieldsOf, Try.underlying25]
    go_simp
  have hI : (Op.equalIn 9999 3 (.int .i64 a) (.int .i64 a)).run Try.prog w = .ok (a == a) w := by
    rw [show (9999 : Nat) = 9998 + 1 from rfl]
    go_simp
  rw [run_neq_struct, show (10000 : Nat) = 9999 + 1 from rfl, run_equalIn_agg w 9999 56 _ _ hS hp]
  generalize 9999 = n at hN hI
  simp only [Program.fieldsOf, Try.underlying56]
  go_simp
theorem guardVtN (x y : Operand) (xs ys : Array Value) (w : World) : (eqGuard .neq 56 x y (.agg xs) (.agg ys)).run Try.prog w = .ok () w := run_eqGuard_agg (P := Try.prog) w .neq 56 x y xs ys (by kernel_rfl)
theorem drawPVs_any (n cap : Nat) (A : Option Addr) (w : World) (hn : n ≤ maxLen) (hc : n ≤ cap) (h : RBy w w.heap.size A n) : Calls Try.prog 27 #[.slice A n cap] w (GotPV w) := by
  generalize hwx : (w.alloc (.cells #[.int .i64 0, .int .i64 0] 25)).alloc (.cells #[.int .i64 0, .int .i64 0, .int .i64 0, .int .i64 0, .int .i64 0, .slice none 0 0] 50) = wx
  have hbx := below_box2 hwx
  have HBY := h.below hbx
  have HSX : Hid (wx.heap.size = w.heap.size + 2) := by unfold Hid; rw [← hwx]; simp
  have HZAx : Hid (ZTa wx w.heap.size) := by unfold Hid ZTa; rw [← hwx]; exact (Below.heap_alloc _ _ _ (by simp)).trans (heap_alloc_new w _)
  have HZBx : Hid (ZPa wx (w.heap.size + 1)) := by
    have h := heap_alloc_new (w.alloc (.cells #[.int .i64 0, .int .i64 0] 25)) (.cells #[.int .i64 0, .int .i64 0, .int .i64 0, .int .i64 0, .int .i64 0, .slice none 0 0] 50)
    rw [World.size_alloc] at h
    unfold Hid ZPa; rw [← hwx]; exact h
  have HM : Hid (Calls Try.prog 31 #[.slice A n cap] wx (GotPV wx)) := drawPV_any n cap A wx hn hc (fun k hk => by
    obtain ⟨b, off, x, e, hB, hcc, hx⟩ := HBY k hk
    exact ⟨b, off, x, e, by have := HSX.out; omega, hcc, hx⟩)
  have HBX := Lib.hid hbx
  have HWX := Lib.hid hwx
  clear hwx hbx h hc hn HBY
  go_enter Try.func27, Try.ntmps27
  go_wp2_with fail
  rw [HWX.out]
  with_reducible refine (HM.out).mono ?_
  rintro e w1 ⟨l, t, p, Aw, D, cw, c, PP, rfl, hli, hop, hPP, hwp, hb1⟩
  have hza : w1.heap[w.heap.size]? = some (.cells #[.int .i64 0, .int .i64 0] 25 (0, 0)) := (Fr.below (P := fun _ => False) hb1).block HZAx.out id
  have hzb : w1.heap[w.heap.size + 1]? = some (.cells #[.int .i64 0, .int .i64 0, .int .i64 0, .int .i64 0, .int .i64 0, .slice none 0 0] 50 (0, 0)) := (Fr.below (P := fun _ => False) hb1).block HZBx.out id
  have hsx := HSX.out
  have hs1 := hb1.size
  have hfs : Fr (fun b => b = w.heap.size ∨ b = w.heap.size + 1) w1 ((((((((w1.setCell ⟨w.heap.size, 0, none⟩ (.int .i64 t.data)).setCell ⟨w.heap.size, 1, none⟩ (.int .i64 t.index)).setCell ⟨w.heap.size + 1, 0, none⟩ (.int .i64 p.op)).setCell ⟨w.heap.size + 1, 1, none⟩ (.int .i64 p.ctor)).setCell ⟨w.heap.size + 1, 2, none⟩ (.int .i64 p.n)).setCell ⟨w.heap.size + 1, 3, none⟩ (.int .i64 p.m)).setCell ⟨w.heap.size + 1, 4, none⟩ (.int .i64 p.var)).setCell ⟨w.heap.size + 1, 5, none⟩ (.slice D p.kids.length c)) := ((((((((Fr.refl _ _).setOf (.inl rfl)).setOf (.inl rfl)).setOf (.inr rfl)).setOf (.inr rfl)).setOf (.inr rfl)).setOf (.inr rfl)).setOf (.inr rfl)).setOf (.inr rfl)
  have h1 : ((((((((w1.setCell ⟨w.heap.size, 0, none⟩ (.int .i64 t.data)).setCell ⟨w.heap.size, 1, none⟩ (.int .i64 t.index)).setCell ⟨w.heap.size + 1, 0, none⟩ (.int .i64 p.op)).setCell ⟨w.heap.size + 1, 1, none⟩ (.int .i64 p.ctor)).setCell ⟨w.heap.size + 1, 2, none⟩ (.int .i64 p.n)).setCell ⟨w.heap.size + 1, 3, none⟩ (.int .i64 p.m)).setCell ⟨w.heap.size + 1, 4, none⟩ (.int .i64 p.var)).setCell ⟨w.heap.size + 1, 5, none⟩ (.slice D p.kids.length c)).heap[w.heap.size]? = some (.cells #[.int .i64 t.data, .int .i64 t.index] 25 (0, 0)) := (Fr.six _ _ _ _ _ _ _ _).block (heap_setCell_same _ _ 1 _ _ _ (heap_setCell_same _ _ 0 _ _ _ hza)) (by omega)
  have hf2 : Fr (fun b => b = w.heap.size) w1 ((w1.setCell ⟨w.heap.size, 0, none⟩ (.int .i64 t.data)).setCell ⟨w.heap.size, 1, none⟩ (.int .i64 t.index)) := ((Fr.refl (fun b => b = w.heap.size) _).setOf rfl).setOf rfl
  have h2 : ((((((((w1.setCell ⟨w.heap.size, 0, none⟩ (.int .i64 t.data)).setCell ⟨w.heap.size, 1, none⟩ (.int .i64 t.index)).setCell ⟨w.heap.size + 1, 0, none⟩ (.int .i64 p.op)).setCell ⟨w.heap.size + 1, 1, none⟩ (.int .i64 p.ctor)).setCell ⟨w.heap.size + 1, 2, none⟩ (.int .i64 p.n)).setCell ⟨w.heap.size + 1, 3, none⟩ (.int .i64 p.m)).setCell ⟨w.heap.size + 1, 4, none⟩ (.int .i64 p.var)).setCell ⟨w.heap.size + 1, 5, none⟩ (.slice D p.kids.length c)).heap[w.heap.size + 1]? = some (.cells #[.int .i64 p.op, .int .i64 p.ctor, .int .i64 p.n, .int .i64 p.m, .int .i64 p.var, .slice D p.kids.length c] 50 (0, 0)) := ZP.put (hf2.block hzb (by omega)) _ _ _ _ _ _
  have HFIN : Hid (GotPV w (.returned (.tuple #[.slice Aw l.length cw, .agg #[.int .i64 t.data, .int .i64 t.index], .agg #[.int .i64 p.op, .int .i64 p.ctor, .int .i64 p.n, .int .i64 p.m, .int .i64 p.var, .slice D p.kids.length c]])) ((((((((w1.setCell ⟨w.heap.size, 0, none⟩ (.int .i64 t.data)).setCell ⟨w.heap.size, 1, none⟩ (.int .i64 t.index)).setCell ⟨w.heap.size + 1, 0, none⟩ (.int .i64 p.op)).setCell ⟨w.heap.size + 1, 1, none⟩ (.int .i64 p.ctor)).setCell ⟨w.heap.size + 1, 2, none⟩ (.int .i64 p.n)).setCell ⟨w.heap.size + 1, 3, none⟩ (.int .i64 p.m)).setCell ⟨w.heap.size + 1, 4, none⟩ (.int .i64 p.var)).setCell ⟨w.heap.size + 1, 5, none⟩ (.slice D p.kids.length c))) := by
    have hsf := hfs.size
    have hfp : Fr (fun b => w.heap.size ≤ b) w ((((((((w1.setCell ⟨w.heap.size, 0, none⟩ (.int .i64 t.data)).setCell ⟨w.heap.size, 1, none⟩ (.int .i64 t.index)).setCell ⟨w.heap.size + 1, 0, none⟩ (.int .i64 p.op)).setCell ⟨w.heap.size + 1, 1, none⟩ (.int .i64 p.ctor)).setCell ⟨w.heap.size + 1, 2, none⟩ (.int .i64 p.n)).setCell ⟨w.heap.size + 1, 3, none⟩ (.int .i64 p.m)).setCell ⟨w.heap.size + 1, 4, none⟩ (.int .i64 p.var)).setCell ⟨w.heap.size + 1, 5, none⟩ (.slice D p.kids.length c)) := ((Fr.below HBX.out).trans (Fr.below hb1)).trans (hfs.wide (fun b hb => by show w.heap.size ≤ b; omega))
    refine ⟨l, t, p, Aw, D, cw, c, PP, rfl, (hli.at_ ⟨hfs.size, fun b hb hlt => hfs.2.2.2.2 b hlt (by omega)⟩).lower (by omega), hop.fr _ hfs (fun b hb e => by have := (hPP b hb).1; rcases e with e | e <;> omega), (fun b hb => ⟨by have := (hPP b hb).1; omega, by have := (hPP b hb).2; omega⟩), hwp, hfp.to (Nat.le_refl _) (fun b hb hc => by have hc' : w.heap.size ≤ b := hc; omega)⟩
  obtain ⟨a0, a1, a2, a3⟩ := cellsT hza
  obtain ⟨b0, b1, b2, b3, b4, b5, b6, b7, b8, b9, b10, b11⟩ := cellsP hzb
  obtain ⟨r0, r1, _⟩ := cellsT h1
  obtain ⟨s0, s1, s2, s3, s4, s5, _⟩ := cellsP h2
  have HLT : w.heap.size ≠ w.heap.size + 1 := by omega
  clear hza hzb hfs h1 h2 hf2 hli hop hPP hwp hb1 hsx
  obtain ⟨wf, hwf⟩ : ∃ wf, ((((((((w1.setCell ⟨w.heap.size, 0, none⟩ (.int .i64 t.data)).setCell ⟨w.heap.size, 1, none⟩ (.int .i64 t.index)).setCell ⟨w.heap.size + 1, 0, none⟩ (.int .i64 p.op)).setCell ⟨w.heap.size + 1, 1, none⟩ (.int .i64 p.ctor)).setCell ⟨w.heap.size + 1, 2, none⟩ (.int .i64 p.n)).setCell ⟨w.heap.size + 1, 3, none⟩ (.int .i64 p.m)).setCell ⟨w.heap.size + 1, 4, none⟩ (.int .i64 p.var)).setCell ⟨w.heap.size + 1, 5, none⟩ (.slice D p.kids.length c)) = wf := ⟨_, rfl⟩
  rw [hwf] at HFIN r0 r1 s0 s1 s2 s3 s4 s5
  have HWF := Lib.hid hwf
  clear hwf
  go_wp2_with fail
  rw [HWF.out]
  exact bodyPost_ret (v := .tuple #[.slice Aw l.length cw, .agg #[.int .i64 t.data, .int .i64 t.index], .agg #[.int .i64 p.op, .int .i64 p.ctor, .int .i64 p.n, .int .i64 p.m, .int .i64 p.var, .slice D p.kids.length c]]) (by simp [results, Try.results27, go_sem, r0, r1, s0, s1, s2, s3, s4, s5]) rfl HFIN.out
set_option maxHeartbeats 4000000 in
theorem patVars_law (n cap : Nat) (A : Option Addr) (w : World) (hn : n ≤ maxLen) (hc : n ≤ cap) (h : RBy w w.heap.size A n) : Calls Try.prog 7 #[.slice A n cap] w fun e w' => e = .returned (.bool true) ∧ Below w.heap.size w w' := by
  have HC := Lib.hid hc
  have HNM := Lib.hid hn
  have H := Lib.hid h
  clear hc hn h
  by_cases hb : n ≤ 1048576
  · have hbI : (n : Int) ≤ 1048576 := by omega
    go_enter Try.func7, Try.ntmps7
    go_wp2_with fail
    with_reducible refine (drawPVs_any n cap A w HNM.out HC.out H.out).mono ?_
    rintro e w1 ⟨l, t, p, Aw, D, cw, c, PP, rfl, hrd, hop, hPP, hwp, hb1⟩
    obtain ⟨A', c', hee, hrd⟩ := hrd.form
    injection hee with hee he2 he3
    rw [← hee] at hrd
    clear hee he2 he3
    generalize hwb : (w1.alloc (.cells #[.int .i64 t.data, .int .i64 t.index] 25)).alloc (.cells #[.int .i64 p.op, .int .i64 p.ctor, .int .i64 p.n, .int .i64 p.m, .int .i64 p.var, .slice D p.kids.length c] 50) = wb
    have hbb := below_box2 hwb
    have R : Hid (RDas wb wb.heap.size Aw l) := hrd.at_ hbb
    have V : Hid (RPs 9 wb wb.heap.size D p.kids) := OPs.reads 9 (hop.fr _ (Fr.below (P := fun _ => False) hbb) (fun _ _ h => h))
    have HXT : Hid (Bx wb w1.heap.size t) := by rw [← hwb]; exact ⟨by simp [go_sem], by simp [go_sem]⟩
    have HXP : Hid (PBx wb (w1.heap.size + 1) p (.slice D p.kids.length c)) := by rw [← hwb]; exact ⟨by simp [go_sem], by simp [go_sem], by simp [go_sem], by simp [go_sem], by simp [go_sem], by simp [go_sem]⟩
    have hwp' : wP p ≤ 1048576 := by omega
    have HWP := Lib.hid hwp'
    have HBB : Hid (Below w.heap.size w wb) := below_after hb1 hbb hb1.size
    have HWB := Lib.hid hwb
    clear hwb hbb hrd hop hPP hwp hb1 hwp'
    have HLEN := Lib.hid (pvL_len l t p)
    go_wp2_with fail
    rw [HWB.out]
    with_reducible refine (pvars_impl Aw D l cw c 9 t p wb R.out V.out).mono ?_
    rintro e2 w2 ⟨v2, rfl, ho2, hb2⟩
    have hlm : (pvL l t p).length ≤ maxLen := by have := HLEN.out; unfold maxLen; omega
    obtain ⟨A2, c2, rfl, hr2⟩ := ho2.form hlm
    have R2 := Lib.hid (R.out.at_ hb2)
    have V2 := Lib.hid (V.out.at_ hb2)
    have Q2 := Lib.hid hr2
    obtain ⟨x0, x1⟩ := HXT.out.at_ hb2
    obtain ⟨y0, y1, y2, y3, y4, y5⟩ := HXP.out.at_ hb2
    have HBB2 : Hid (Below w.heap.size w w2) := below_after HBB.out hb2 HBB.out.size
    clear hb2 ho2 hr2
    go_wp2_with fail
    with_reducible refine (pvars_spec Aw D l cw c 9 t p w2 R2.out V2.out HWP.out).mono ?_
    rintro e3 w3 ⟨v3, rfl, ho3, hb3⟩
    obtain ⟨A3, c3, rfl, hr3⟩ := ho3.form hlm
    have R3 := Lib.hid (R2.out.at_ hb3)
    have Q3 := Lib.hid (Q2.out.at_ hb3)
    have S3 := Lib.hid hr3
    have HBB3 : Hid (Below w.heap.size w w3) := below_after HBB2.out hb3 HBB2.out.size
    have HOK : Hid (∀ k (h : k < (pvL l t p).length), TyOK l (pvL l t p)[k].ty) := fun k h => pvL_ok h
    have HON : Hid (∀ i j (hj : j < (pvL l t p).length) (hi : i < (pvL l t p).length), i < j → (pvL l t p)[i].var ≠ (pvL l t p)[j].var) := fun i j hj hi h => pvL_once hj hi h
    clear hb3 ho3 hr3 x0 x1 y0 y1 y2 y3 y4 y5 R2 V2 Q2 V
    generalize pvL l t p = L at HLEN hlm Q3 S3 HOK HON ⊢
    have hll : (L.length : Int) ≤ 60 := by have := HLEN.out; omega
    have hee : ((L.length : Int) == (L.length : Int)) = true := by simp
    have gd := guardVtN
    go_wp2_with fail
    go_loopw [8] (fun i wr => ∃ k : Nat, k ≤ L.length ∧ i = .int .i64 k ∧ Below w3.heap.size w3 wr) (fun i _ => L.length - (intOf i).toNat)
    case atStart => exact ⟨0, by omega, rfl, Below.refl _ _⟩
    case round =>
      obtain ⟨k, hk, rfl, hb⟩ := hrel
      by_cases hlt : k < L.length
      · have hi : (k : Int) < (L.length : Int) := by omega
        obtain ⟨b, off, rfl, hbB, c0, c1, c2'⟩ := (Q3.out.at_ hb).2 k hlt
        obtain ⟨b', off', rfl, hbB', d0, d1, d2⟩ := (S3.out.at_ hb).2 k hlt
        have hq := neqVt_no L[k]
        have HTY := Lib.hid (HOK.out k hlt)
        have hbd : Below wr.heap.size wr wr.drew := (Below.refl _ wr).drew
        have HTV := Lib.hid (typeI_yes (cap := cw) (t := L[k].ty) (R3.out.at_ (below_aft hb hbd hb.size)) HTY.out)
        have HKR : Hid (∀ W, Below wr.heap.size wr W → W.cell? ⟨b, off + k * 3, none⟩ = some (.int .i64 L[k].var) ∧ W.cell? ⟨b, off + k * 3 + 1, none⟩ = some (.int .i64 L[k].ty.data) ∧ W.cell? ⟨b, off + k * 3 + 1 + 1, none⟩ = some (.int .i64 L[k].ty.index) ∧ W.cell? ⟨b', off' + k * 3, none⟩ = some (.int .i64 L[k].var) ∧ W.cell? ⟨b', off' + k * 3 + 1, none⟩ = some (.int .i64 L[k].ty.data) ∧ W.cell? ⟨b', off' + k * 3 + 1 + 1, none⟩ = some (.int .i64 L[k].ty.index)) := fun W h => ⟨(h.cell (p := ⟨b, _, none⟩) hbB).trans c0, (h.cell (p := ⟨b, _, none⟩) hbB).trans c1, (h.cell (p := ⟨b, _, none⟩) hbB).trans c2', (h.cell (p := ⟨b', _, none⟩) hbB').trans d0, (h.cell (p := ⟨b', _, none⟩) hbB').trans d1, (h.cell (p := ⟨b', _, none⟩) hbB').trans d2⟩
        have SA := HKR.out wr.drew hbd
        have SZ : wr.cell? ⟨b, off + k * 3, none⟩ = some (.int .i64 L[k].var) ∧ wr.cell? ⟨b, off + k * 3 + 1, none⟩ = some (.int .i64 L[k].ty.data) ∧ wr.cell? ⟨b, off + k * 3 + 1 + 1, none⟩ = some (.int .i64 L[k].ty.index) ∧ wr.cell? ⟨b', off' + k * 3, none⟩ = some (.int .i64 L[k].var) ∧ wr.cell? ⟨b', off' + k * 3 + 1, none⟩ = some (.int .i64 L[k].ty.data) ∧ wr.cell? ⟨b', off' + k * 3 + 1 + 1, none⟩ = some (.int .i64 L[k].ty.index) := SA
        have HB := Lib.hid hb
        clear c0 c1 c2' d0 d1 d2 hb
        go_wp2_with fail
        go_region_held3 (fun w' => w'.cell? ⟨b, off + k * 3, none⟩ = some (.int .i64 L[k].var) ∧ w'.cell? ⟨b, off + k * 3 + 1, none⟩ = some (.int .i64 L[k].ty.data) ∧ w'.cell? ⟨b, off + k * 3 + 1 + 1, none⟩ = some (.int .i64 L[k].ty.index) ∧ w'.cell? ⟨b', off' + k * 3, none⟩ = some (.int .i64 L[k].var) ∧ w'.cell? ⟨b', off' + k * 3 + 1, none⟩ = some (.int .i64 L[k].ty.data) ∧ w'.cell? ⟨b', off' + k * 3 + 1 + 1, none⟩ = some (.int .i64 L[k].ty.index)) (first | with_reducible exact SA | with_reducible exact SZ | with_reducible exact SB | go_keep) (first | (go_at_call 30; (with_reducible refine (HTV.out).mono ?_); rintro e4 w4 ⟨rfl, hb4'⟩; have hb4 : Below wr.heap.size wr w4 := ⟨hb4'.os, hb4'.tape, hb4'.output, hb4'.size, hb4'.block⟩; have SB := HKR.out w4 hb4; have HB4 : Hid (Below w3.heap.size w3 w4) := below_after HB.out hb4 HB.out.size; clear hb4 hb4'))
        all_goals
          clear SA SZ SB HKR HTV
          go_wp2_with fail
          go_loopw [9] (fun j wr2 => ∃ m : Nat, m ≤ k ∧ j = .int .i64 m ∧ Below w3.heap.size w3 wr2) (fun j _ => k - (intOf j).toNat)
          case atStart => exact ⟨0, by omega, rfl, HB4.out⟩
          case round =>
            obtain ⟨m, hm, rfl, hb5⟩ := hrel
            by_cases hlm : m < k
            · have hmk : (m : Int) < (k : Int) := by omega
              have hml : m < L.length := by omega
              have hmi : (m : Int) < (L.length : Int) := by omega
              obtain ⟨b2, off2, hq2, hbB2, c0, c1, c2'⟩ := (Q3.out.at_ hb5).2 m hml
              injection hq2 with hq2
              injection hq2 with hq2 hq3
              obtain ⟨b3, off3, hq4, hbB3, d0, d1, d2⟩ := (Q3.out.at_ hb5).2 k hlt
              injection hq4 with hq4
              injection hq4 with hq4 hq5
              rw [← hq2, ← hq3] at c0
              rw [← hq4, ← hq5] at d0
              have hne : (L[m].var == L[k].var) = false := ieq_f (HON.out m k hlt hml hlm)
              have hb6 : ∀ n, Below w3.heap.size w3 (wr.drewN n) := fun n => below_drawn hb5 n
              have HB6 := Lib.hid hb6
              clear hq2 hq3 hq4 hq5 c1 c2' d1 d2 hb6 hbB2 hbB3
              go_wp2_with fail
              go_quiet (fail)
              go_wp2_with fail
              go_roundw
              case rel => exact ⟨m + 1, by omega, by go_num, HB6.out _⟩
              case measure => simp [intOf]; omega
            · go_wp2_with fail
              go_roundw
              case rel => exact ⟨k + 1, by omega, by go_num, hb5⟩
              case measure => simp [intOf]; omega
      · go_wp2_with fail
        go_ret
        exact ⟨rfl, below_after HBB3.out hb HBB3.out.size⟩
  · have hbI : (1048576 : Int) < (n : Int) := by omega
    go_enter Try.func7, Try.ntmps7
    go_wp2_with fail
    go_ret
    exact ⟨rfl, Below.refl _ _⟩
end Go.Proofs.Yteoopmogklpnoaa
