/-
  No variable of a pattern stands twice: the document's function. No statement is proved here.
-/
import Derived.Test.YthdnfnmglhifmaaGreatR11
import Derived.Test.YthdnfnmglhifmaaGreatR09
namespace Go.Proofs.YthdnfnmglhifmaaGreat
open Go.RowKit Go.Sort Go.Deep
set_option maxRecDepth 100000
set_option linter.unusedVariables false
noncomputable def onceV (L : List Vt) (i : Nat) : Bool := decide (findV L (L.getD i default).var = i)
theorem onceV_at {L : List Vt} {i : Nat} (h : i < L.length) : onceV L i = decide (findV L L[i].var = i) := by unfold onceV; rw [getD_at L i h]
noncomputable def headL (l : List Da) (d : Nat) (t : Ty) (p : Pt) : Bool := if p.op = 5 then alike (vrP l d t (p.kids.getD 0 default)) (vrP l d t (p.kids.getD 1 default)) else upto (onceV (vrP l (d + 1) t p)) (vrP l (d + 1) t p).length
noncomputable def linP (l : List Da) : Nat → Ty → Pt → Bool
  | 0, _, _ => false
  | d + 1, t, p => upto (fun i => linP l d ((tysP l t p).getD i default) (p.kids.getD i default)) (tysP l t p).length && headL l d t p
noncomputable def kidL (l : List Da) (d : Nat) (ats : List Ty) (ks : List Pt) (i : Nat) : Bool := linP l d (ats.getD i default) (ks.getD i default)
theorem kidL_at {l : List Da} {d : Nat} {ats : List Ty} {ks : List Pt} {i : Nat} (h : i < ats.length) (h' : i < ks.length) : kidL l d ats ks i = linP l d ats[i] ks[i] := by
  unfold kidL; rw [getD_at ats i h, getD_at ks i h']
theorem linP_go (l : List Da) (d : Nat) (t : Ty) (p : Pt) : linP l (d + 1) t p = (upto (kidL l d (tysP l t p) p.kids) (tysP l t p).length && headL l d t p) := rfl
theorem headL_or {l : List Da} {d : Nat} {t : Ty} {p : Pt} (h : p.op = 5) (h0 : 0 < p.kids.length) (h1 : 1 < p.kids.length) : headL l d t p = alike (vrP l d t p.kids[0]) (vrP l d t p.kids[1]) := by
  unfold headL; rw [if_pos h, getD_at _ 0 h0, getD_at _ 1 h1]
theorem headL_no {l : List Da} {d : Nat} {t : Ty} {p : Pt} (h : ¬ p.op = 5) : headL l d t p = upto (onceV (vrP l (d + 1) t p)) (vrP l (d + 1) t p).length := if_neg h
theorem vars_new (l : List Da) (d : Nat) (A D : Option Addr) (cap ep e : Nat) (t : Ty) (p : Pt) (w : World) (hr : RDas w w.heap.size A l) (ht : TyOK l t) (hv : RPs e w w.heap.size D p.kids) (hs : shP l d t p = true) (hn : wP p ≤ 1000) :
    Calls Tryz.prog 199 #[.slice none 0 0, .slice A l.length cap, .agg #[.int .i64 t.data, .int .i64 t.index], .agg #[.int .i64 p.op, .int .i64 p.ctor, .int .i64 p.n, .int .i64 p.m, .int .i64 p.var, .slice D p.kids.length ep]] w fun e w' => ∃ A' c, e = .returned (.slice A' (vrP l d t p).length c) ∧ RVts w' w'.heap.size A' (vrP l d t p) ∧ Below w.heap.size w w' := by
  refine (varC_any l d A D cap ep e t p [] (.slice none 0 0) w.heap.size w hr ht hv hs (OVt.nil _ _) (Nat.le_refl _) (by simp; omega)).mono ?_
  rintro e w' ⟨v', rfl, ho, hg, hf⟩
  rw [List.nil_append] at ho
  obtain ⟨A', c, rfl, hrv⟩ := ho.form (by have := vrP_len l d t p hs; unfold maxLen; omega)
  exact ⟨A', c, rfl, hrv, ⟨hg.os, hg.tape, hg.output, hg.size, fun i hi => hg.block i hi (fun e => by simp [Value.ownBlock] at e)⟩⟩
def LinC (l : List Da) (d : Nat) : Prop := ∀ (A D : Option Addr) (cap ep e : Nat) (t : Ty) (p : Pt) (w : World), RDas w w.heap.size A l → TyOK l t → RPs e w w.heap.size D p.kids → shP l d t p = true → wP p ≤ 1000 →
  Calls Tryz.prog 187 #[.slice A l.length cap, .agg #[.int .i64 t.data, .int .i64 t.index], .agg #[.int .i64 p.op, .int .i64 p.ctor, .int .i64 p.n, .int .i64 p.m, .int .i64 p.var, .slice D p.kids.length ep]] w fun e w' => e = .returned (.bool (linP l d t p)) ∧ Below w.heap.size w w'
theorem LinC.known {l : List Da} {d : Nat} (h : LinC l d) (A D : Option Addr) (cap ep e : Nat) (t : Ty) (p : Pt) (b : Bool) (w : World) (hf : linP l d t p = b) (hr : RDas w w.heap.size A l) (ht : TyOK l t) (hv : RPs e w w.heap.size D p.kids) (hs : shP l d t p = true) (hn : wP p ≤ 1000) :
    Calls Tryz.prog 187 #[.slice A l.length cap, .agg #[.int .i64 t.data, .int .i64 t.index], .agg #[.int .i64 p.op, .int .i64 p.ctor, .int .i64 p.n, .int .i64 p.m, .int .i64 p.var, .slice D p.kids.length ep]] w fun e w' => e = .returned (.bool b) ∧ Below w.heap.size w w' := by
  rw [← hf]; exact h A D cap ep e t p w hr ht hv hs hn
set_option maxHeartbeats 4000000 in
theorem linC_step (l : List Da) (d : Nat) (ih : LinC l d) : LinC l (d + 1) := by
  intro A D cap ep e t p w hr ht hv hs hn
  obtain ⟨hown, hkl, hsh⟩ := shP_parts hs
  have hl := hv.1
  unfold maxLen at hl
  have HR := Lib.hid hr
  have HT := Lib.hid ht
  have HV := Lib.hid hv
  have HSH := Lib.hid hs
  have HM : Hid (p.op = 4 → p.ctor ∈ ctR l t) := hown.mem
  have IH := Lib.hid ih
  have hm3 := tysP_len l t p
  have HOK := Lib.hid (tysP_ok ht hown)
  have HKL := Lib.hid hkl
  have HS := Lib.hid hsh
  have HN := Lib.hid hn
  have HF := Lib.hid (linP_go l d t p)
  have HK := Lib.hid (fun (i : Nat) (h : i < (tysP l t p).length) (h' : i < p.kids.length) => kidL_at (l := l) (d := d) h h')
  have H52 : Hid (p.op = 5 → (tysP l t p).length = 2) := fun h => by rw [tysP_other (by omega), List.length_replicate, h]; decide
  have HSO : Hid (∀ (i : Nat) (h : i < (tysP l t p).length) (h' : i < p.kids.length), p.op = 5 → shP l d t p.kids[i] = true) := fun i h h' h5 => by
    have h6 := hsh i h h'
    simp only [tysP_other (l := l) (t := t) (p := p) (by omega), List.getElem_replicate] at h6
    exact h6
  have HAG : Hid (∀ w, RDas w w.heap.size A l → _) := fun w h => tys_any A D l cap ep t p w h HT.out HM.out
  clear hr ht hv hs ih hown hkl hsh hn
  generalize hw0 : (w.alloc (.cells #[.int .i64 t.data, .int .i64 t.index] 25)).alloc (.cells #[.int .i64 p.op, .int .i64 p.ctor, .int .i64 p.n, .int .i64 p.m, .int .i64 p.var, .slice D p.kids.length ep] 28) = w0
  have hb0 := below_box2 hw0
  have HXT : Hid (Bx w0 w.heap.size t) := by rw [← hw0]; exact ⟨by simp [go_sem], by simp [go_sem]⟩
  have HXP : Hid (PBx w0 (w.heap.size + 1) p (.slice D p.kids.length ep)) := by rw [← hw0]; exact ⟨by simp [go_sem], by simp [go_sem], by simp [go_sem], by simp [go_sem], by simp [go_sem], by simp [go_sem]⟩
  have HW := Lib.hid hw0
  clear hw0
  generalize hats : tysP l t p = ats at HF hm3 HOK HK HAG HKL HS H52 HSO
  clear hats
  go_enter Tryz.func187, Tryz.ntmps187
  go_wp2_with fail
  rw [HW.out]
  refine (HAG.out _ (HR.out.at_ hb0)).mono ?_
  rintro e3 w3 ⟨v3, rfl, ho3, hb3'⟩
  obtain ⟨A3, c3, rfl, hr3⟩ := ho3.form (by unfold maxLen; omega)
  have HR3 := Lib.hid hr3
  have HXT3 := Lib.hid (HXT.out.at_ hb3')
  have HXP3 := Lib.hid (HXP.out.at_ hb3')
  have hb3 := below_aft hb0 hb3' hb0.size
  clear hr3 ho3 hb3'
  go_wp2_with fail
  go_loopw [8] (fun i wr => ∃ k : Nat, k ≤ ats.length ∧ i = .int .i64 k ∧ Hid (upto (kidL l d ats p.kids) k = true) ∧ Below w3.heap.size w3 wr) (fun i _ => ats.length - (intOf i).toNat)
  case atStart => exact ⟨0, by omega, rfl, rfl, Below.refl _ _⟩
  case round =>
    obtain ⟨k, hk, rfl, HU, hb⟩ := hrel
    have hbw : Below w.heap.size w wr := below_aft hb3 hb hb3.size
    have HXTr := Lib.hid (HXT3.out.at_ hb)
    have HXPr := Lib.hid (HXP3.out.at_ hb)
    by_cases hlt : k < ats.length
    · have hkl : k < p.kids.length := by rw [HKL.out]; exact hlt
      obtain ⟨f0, f1, f2, f3, f4, f5⟩ := HXPr.out
      obtain ⟨g, o, rfl, hgB, t0, t1⟩ := (HR3.out.below hb (Nat.le_refl _)).2 k hlt
      obtain ⟨b, off, rfl, hbB, hvk⟩ := (HV.out.below hbw (Nat.le_refl _)).2 k hkl
      obtain ⟨e', he', D', cp, c0, c1, c2, c3', c4, c5, hm⟩ := hvk.parts
      have d0 := cell_regrown t0
      have d1 := cell_regrown t1
      have d2 := cell_regrown c0
      have d3 := cell_regrown c1
      have d4 := cell_regrown c2
      have d5 := cell_regrown c3'
      have d6 := cell_regrown c4
      have d7 := cell_regrown c5
      have d8 := cell_regrown f5
      have Hm : Hid (RPs e' wr wr.heap.size D' p.kids[k].kids) := hm.keep (fun _ _ => rfl) hbw.size
      have Hrr : Hid (RDas wr wr.heap.size A l) := HR.out.at_ hbw
      have HTk := Lib.hid (HOK.out _ (List.getElem_mem hlt))
      have HSk := Lib.hid (HS.out k hlt hkl)
      have HKk := Lib.hid (HK.out k hlt hkl)
      have HNk : Hid (wP p.kids[k] ≤ 1000) := by have := wP_kid p k hkl; have := HN.out; unfold Hid; omega
      have hi : (k : Int) < (ats.length : Int) := by omega
      have hi2 : (k : Int) < (p.kids.length : Int) := by omega
      clear c0 c1 c2 c3' c4 c5 t0 t1 f0 f1 f2 f3 f4 f5 hm hvk he'
      by_cases hf : linP l d ats[k] p.kids[k] = true
      · have HFk := Lib.hid hf
        have HUk : Hid (upto (kidL l d ats p.kids) (k + 1) = true) := upto_t HU.out (by rw [HKk.out]; exact hf)
        clear hf
        go_wp2_with fail
        refine wp_region_quiet_below (by kernel_rfl) (by kernel_rfl) ?_
        repeat (quiet_step (exact Calls.regrown_of (IH.out.known _ _ _ _ _ _ _ _ _ HFk.out (Hrr.out.at_ (below_regrown wr _ _)) HTk.out (Hm.out.at_ (below_regrown wr _ _)) HSk.out HNk.out)))
        refine wpQuiet_nil ?_
        intro _ hw'
        obtain ⟨⟨dq, osq⟩, hw''⟩ := hw'
        subst hw''
        have hb2 := hb.trans ((below_regrown wr dq osq).mono hb.size)
        clear d0 d1 d2 d3 d4 d5 d6 d7 d8
        go_wp2_with fail
        go_roundw
        case rel => exact ⟨k + 1, by omega, by go_num, HUk, hb2⟩
        case measure => simp [intOf]; omega
      · have hf' : linP l d ats[k] p.kids[k] = false := by simpa using hf
        have HFk := Lib.hid hf'
        have HUk := Lib.hid (upto_f (f := kidL l d ats p.kids) hlt (by rw [HKk.out]; exact hf'))
        clear hf hf'
        go_wp2_with fail
        refine wp_region_quiet_below (by kernel_rfl) (by kernel_rfl) ?_
        repeat (quiet_step (exact Calls.regrown_of (IH.out.known _ _ _ _ _ _ _ _ _ HFk.out (Hrr.out.at_ (below_regrown wr _ _)) HTk.out (Hm.out.at_ (below_regrown wr _ _)) HSk.out HNk.out)))
        refine wpQuiet_nil ?_
        intro _ hw'
        obtain ⟨⟨dq, osq⟩, hw''⟩ := hw'
        subst hw''
        have hb2 := hbw.trans ((below_regrown wr dq osq).mono hbw.size)
        clear d0 d1 d2 d3 d4 d5 d6 d7 d8
        go_wp2_with fail
        go_ret
        exact ⟨ret_bool (by rw [HF.out, HUk.out]; rfl), hb2⟩
    · have he : k = ats.length := by omega
      have HE : Hid (linP l (d + 1) t p = headL l d t p) := by unfold Hid; rw [HF.out, ← he, HU.out]; rfl
      clear he
      obtain ⟨x0, x1⟩ := HXTr.out
      obtain ⟨y0, y1, y2, y3, y4, y5⟩ := HXPr.out
      by_cases h5 : p.op = 5
      · have q5 := ieq_t h5
        have h2 : p.kids.length = 2 := by rw [HKL.out]; exact H52.out h5
        have h0k : 0 < p.kids.length := by omega
        have h1k : 1 < p.kids.length := by omega
        have HHD := Lib.hid (headL_or (l := l) (d := d) (t := t) h5 h0k h1k)
        obtain ⟨b, off, rfl, hbB, hvk⟩ := (HV.out.below hbw (Nat.le_refl _)).2 0 h0k
        obtain ⟨b2, off2, e2, hbB2, hvk2⟩ := (HV.out.below hbw (Nat.le_refl _)).2 1 h1k
        cases e2
        rw [show off + 0 * 6 = off by omega] at hvk
        rw [show off + 1 * 6 = off + 6 by omega] at hvk2
        obtain ⟨e4, he4, D4, cp4, c0, c1, c2, c3', c4, c5, hm4⟩ := hvk.parts
        obtain ⟨e5, he5, D5, cp5, d0, d1, d2, d3, d4, d5, hm5⟩ := hvk2.parts
        have a5 := H52.out
        have h0a : 0 < ats.length := by rw [← HKL.out]; exact h0k
        have h1a : 1 < ats.length := by rw [← HKL.out]; exact h1k
        have HT0 : Hid (shP l d t p.kids[0] = true ∧ shP l d t p.kids[1] = true) := ⟨(HSO.out 0 h0a h0k h5), (HSO.out 1 h1a h1k h5)⟩
        clear h5
        have HN01 : Hid (wP p.kids[0] ≤ 1000 ∧ wP p.kids[1] ≤ 1000) := by have a := wP_kid p 0 h0k; have b := wP_kid p 1 h1k; have := HN.out; exact ⟨by omega, by omega⟩
        have HM4 : Hid (RPs e4 wr wr.heap.size D4 p.kids[0].kids) := hm4.keep (fun _ _ => rfl) hbw.size
        have HM5 : Hid (RPs e5 wr wr.heap.size D5 p.kids[1].kids) := hm5.keep (fun _ _ => rfl) hbw.size
        have HRR : Hid (RDas wr wr.heap.size A l) := HR.out.at_ hbw
        have HKS : Hid (∀ w', Below wr.heap.size wr w' → w'.cell? ⟨w.heap.size, 0, none⟩ = some (.int .i64 t.data) ∧ w'.cell? ⟨w.heap.size, 1, none⟩ = some (.int .i64 t.index) ∧ w'.cell? ⟨w.heap.size + 1, 5, none⟩ = some (.slice (some ⟨b, off, none⟩) p.kids.length ep) ∧ w'.cell? ⟨b, off, none⟩ = some (.int .i64 p.kids[0].op) ∧ w'.cell? ⟨b, off + 1, none⟩ = some (.int .i64 p.kids[0].ctor) ∧ w'.cell? ⟨b, off + 2, none⟩ = some (.int .i64 p.kids[0].n) ∧ w'.cell? ⟨b, off + 3, none⟩ = some (.int .i64 p.kids[0].m) ∧ w'.cell? ⟨b, off + 4, none⟩ = some (.int .i64 p.kids[0].var) ∧ w'.cell? ⟨b, off + 5, none⟩ = some (.slice D4 p.kids[0].kids.length cp4) ∧ w'.cell? ⟨b, off + 6, none⟩ = some (.int .i64 p.kids[1].op) ∧ w'.cell? ⟨b, off + 7, none⟩ = some (.int .i64 p.kids[1].ctor) ∧ w'.cell? ⟨b, off + 8, none⟩ = some (.int .i64 p.kids[1].n) ∧ w'.cell? ⟨b, off + 9, none⟩ = some (.int .i64 p.kids[1].m) ∧ w'.cell? ⟨b, off + 10, none⟩ = some (.int .i64 p.kids[1].var) ∧ w'.cell? ⟨b, off + 11, none⟩ = some (.slice D5 p.kids[1].kids.length cp5)) := fun w' hW => ⟨(hW.cell (p := ⟨w.heap.size, 0, none⟩) (Go.block_lt_of_cell x0)).trans x0, (hW.cell (p := ⟨w.heap.size, 1, none⟩) (Go.block_lt_of_cell x1)).trans x1, (hW.cell (p := ⟨w.heap.size + 1, 5, none⟩) (Go.block_lt_of_cell y5)).trans y5, (hW.cell (p := ⟨b, off, none⟩) (Go.block_lt_of_cell c0)).trans c0, (hW.cell (p := ⟨b, off + 1, none⟩) (Go.block_lt_of_cell c1)).trans c1, (hW.cell (p := ⟨b, off + 2, none⟩) (Go.block_lt_of_cell c2)).trans c2, (hW.cell (p := ⟨b, off + 3, none⟩) (Go.block_lt_of_cell c3')).trans c3', (hW.cell (p := ⟨b, off + 4, none⟩) (Go.block_lt_of_cell c4)).trans c4, (hW.cell (p := ⟨b, off + 5, none⟩) (Go.block_lt_of_cell c5)).trans c5, (hW.cell (p := ⟨b, off + 6, none⟩) (Go.block_lt_of_cell d0)).trans d0, (hW.cell (p := ⟨b, off + 7, none⟩) (Go.block_lt_of_cell d1)).trans d1, (hW.cell (p := ⟨b, off + 8, none⟩) (Go.block_lt_of_cell d2)).trans d2, (hW.cell (p := ⟨b, off + 9, none⟩) (Go.block_lt_of_cell d3)).trans d3, (hW.cell (p := ⟨b, off + 10, none⟩) (Go.block_lt_of_cell d4)).trans d4, (hW.cell (p := ⟨b, off + 11, none⟩) (Go.block_lt_of_cell d5)).trans d5⟩
        have HBD : Hid (Below wr.heap.size wr wr.drew) := (Below.refl _ wr).drew
        have SQ := HKS.out wr.drew HBD.out
        have HV0 : Hid (∀ W, Below wr.heap.size wr W → _) := fun W h => vars_new l d A D4 cap cp4 e4 t p.kids[0] W (HRR.out.at_ h) HT.out (HM4.out.at_ h) HT0.out.1 HN01.out.1
        have HV1 : Hid (∀ W, Below wr.heap.size wr W → _) := fun W h => vars_new l d A D5 cap cp5 e5 t p.kids[1] W (HRR.out.at_ h) HT.out (HM5.out.at_ h) HT0.out.2 HN01.out.2
        clear c0 c1 c2 c3' c4 c5 d0 d1 d2 d3 d4 d5 hm4 hm5 hvk hvk2 he4 he5 x0 x1 y1 y2 y3 y4 y5
        go_wp2_with fail
        go_region_held3 (fun w' => w'.cell? ⟨w.heap.size, 0, none⟩ = some (.int .i64 t.data) ∧ w'.cell? ⟨w.heap.size, 1, none⟩ = some (.int .i64 t.index) ∧ w'.cell? ⟨w.heap.size + 1, 5, none⟩ = some (.slice (some ⟨b, off, none⟩) p.kids.length ep) ∧ w'.cell? ⟨b, off, none⟩ = some (.int .i64 p.kids[0].op) ∧ w'.cell? ⟨b, off + 1, none⟩ = some (.int .i64 p.kids[0].ctor) ∧ w'.cell? ⟨b, off + 2, none⟩ = some (.int .i64 p.kids[0].n) ∧ w'.cell? ⟨b, off + 3, none⟩ = some (.int .i64 p.kids[0].m) ∧ w'.cell? ⟨b, off + 4, none⟩ = some (.int .i64 p.kids[0].var) ∧ w'.cell? ⟨b, off + 5, none⟩ = some (.slice D4 p.kids[0].kids.length cp4) ∧ w'.cell? ⟨b, off + 6, none⟩ = some (.int .i64 p.kids[1].op) ∧ w'.cell? ⟨b, off + 7, none⟩ = some (.int .i64 p.kids[1].ctor) ∧ w'.cell? ⟨b, off + 8, none⟩ = some (.int .i64 p.kids[1].n) ∧ w'.cell? ⟨b, off + 9, none⟩ = some (.int .i64 p.kids[1].m) ∧ w'.cell? ⟨b, off + 10, none⟩ = some (.int .i64 p.kids[1].var) ∧ w'.cell? ⟨b, off + 11, none⟩ = some (.slice D5 p.kids[1].kids.length cp5)) (with_reducible exact SQ) (first | (go_at_call 199; (with_reducible refine (HV0.out wr.drew HBD.out).mono ?_); rintro e4 w4 ⟨A4, q4, rfl, hr4, hb4'⟩; have hb4 : Below wr.heap.size wr w4 := ⟨hb4'.os, hb4'.tape, hb4'.output, hb4'.size, hb4'.block⟩; have HR4 := Lib.hid hr4; have SQ := HKS.out w4 hb4; clear hr4 hb4') | (go_at_call 199; (with_reducible refine (HV1.out wr.drew HBD.out).mono ?_); rintro e4 w6 ⟨A5, q5, rfl, hr4, hb4'⟩; have hb6 : Below wr.heap.size wr w6 := ⟨hb4'.os, hb4'.tape, hb4'.output, hb4'.size, hb4'.block⟩; have HR5 := Lib.hid hr4; have SQ := HKS.out w6 hb6; clear hr4 hb4') | (go_at_call 199; (with_reducible refine (HV1.out w4 hb4).mono ?_); rintro e4 w5 ⟨A5, q5, rfl, hr4, hb4'⟩; have hb5 : Below wr.heap.size wr w5 := hb4.trans (hb4'.mono hb4.size); have HR5 := Lib.hid hr4; have HR4 := Lib.hid (HR4.out.at_ hb4'); have SQ := HKS.out w5 hb5; clear hr4 hb4') | (go_at_call 199; (with_reducible refine (HV0.out w6 hb6).mono ?_); rintro e4 w5 ⟨A4, q4, rfl, hr4, hb4'⟩; have hb5 : Below wr.heap.size wr w5 := hb6.trans (hb4'.mono hb6.size); have HR4 := Lib.hid hr4; have HR5 := Lib.hid (HR5.out.at_ hb4'); have SQ := HKS.out w5 hb5; clear hr4 hb4') | (go_at_call 238; (with_reducible refine (alike_any A4 A5 _ _ q4 q5 w5 HR4.out HR5.out).mono ?_); rintro e7 w7 ⟨rfl, hb7'⟩; have hb7 := hb5.trans (hb7'.mono hb5.size); have SQ := HKS.out w7 hb7; clear hb7'))
        all_goals
          go_wp2_with fail
          go_ret
          exact ⟨ret_bool (by rw [HE.out, HHD.out]), below_aft hbw hb7 hbw.size⟩
      · have q5 := ieq_f h5
        have HHD := Lib.hid (headL_no (l := l) (d := d) (t := t) h5)
        have HVN := Lib.hid (vars_new l (d + 1) A D cap ep e t p wr (HR.out.at_ hbw) HT.out (HV.out.at_ hbw) HSH.out HN.out)
        have HLN := Lib.hid (vrP_len l (d + 1) t p HSH.out)
        clear h5
        generalize vrP l (d + 1) t p = L at HHD HVN HLN
        go_wp2_with fail
        refine HVN.out.mono ?_
        rintro e4 w4 ⟨A4, c4, rfl, hr4, hb4⟩
        have HR4 := Lib.hid hr4
        have hl4 := hr4.1
        unfold maxLen at hl4
        have hb4w := below_aft hbw hb4 hbw.size
        clear hr4
        go_wp2_with fail
        clear x0 x1 y0 y1 y2 y3 y4 y5
        go_loopw [10] (fun i wq => ∃ k : Nat, k ≤ L.length ∧ i = .int .i64 k ∧ Hid (upto (onceV L) k = true) ∧ w4 = wq) (fun i _ => L.length - (intOf i).toNat)
        case atStart => exact ⟨0, by omega, rfl, rfl, rfl⟩
        case round =>
          obtain ⟨k2, hk2, rfl, HU2, rfl⟩ := hrel
          by_cases hlt2 : k2 < L.length
          · have hi2 : (k2 : Int) < (L.length : Int) := by omega
            have HFI := Lib.hid (find_any A4 L c4 L[k2].var w4 HR4.out)
            have HON := Lib.hid (onceV_at hlt2)
            obtain ⟨b, off, rfl, hbB, g0, _⟩ := HR4.out.2 k2 hlt2
            by_cases hq : findV L L[k2].var = k2
            · have qn : (findV L L[k2].var != (k2 : Int)) = false := by simp [hq]
              have HU3 : Hid (upto (onceV L) (k2 + 1) = true) := upto_t HU2.out (by rw [HON.out]; exact decide_eq_true hq)
              clear hq
              go_wp2_with (go_at_call 239; refine HFI.out.mono ?_; rintro e5 w5 ⟨rfl, rfl⟩)
              go_roundw
              case rel => exact ⟨k2 + 1, by omega, by go_num, HU3.out, trivial⟩
              case measure => simp [intOf]; omega
            · have qn : (findV L L[k2].var != (k2 : Int)) = true := by simp [hq]
              have HU3 := Lib.hid (upto_f (f := onceV L) hlt2 (by rw [HON.out]; exact decide_eq_false hq))
              clear hq
              go_wp2_with (go_at_call 239; refine HFI.out.mono ?_; rintro e5 w5 ⟨rfl, rfl⟩)
              go_ret
              exact ⟨ret_bool (by rw [HE.out, HHD.out, HU3.out]), hb4w⟩
          · have he2 : k2 = L.length := by omega
            have HU3 : Hid (upto (onceV L) L.length = true) := by unfold Hid; rw [← he2]; exact HU2.out
            clear he2
            go_wp2_with fail
            go_ret
            exact ⟨ret_bool (by rw [HE.out, HHD.out, HU3.out]), hb4w⟩
theorem linC_any (l : List Da) : ∀ d, LinC l d
  | 0 => fun A D cap ep e t p w _ _ _ hs _ => by rw [shP_zero] at hs; cases hs
  | d + 1 => linC_step l d (linC_any l d)
end Go.Proofs.YthdnfnmglhifmaaGreat
/-
  When a tree is a value of a type: the program's function. No statement is proved here.
-/
namespace Go.Proofs.YthdnfnmglhifmaaGreat
open Go.RowKit Go.Sort Go.Deep
set_option maxRecDepth 100000
set_option linter.unusedVariables false
/-- What the program's function gives beside the answer. -/
noncomputable def ndR (l : List Da) (d : Nat) (t : Ty) (v : Vl) : Int := if fitV l d t v then 1 + (wV v : Int) else if 0 < d ∧ t.data = -1 then 1 else 0
theorem ndR_yes {l : List Da} {d : Nat} {t : Ty} {v : Vl} (h : fitV l d t v = true) : ndR l d t v = 1 + (wV v : Int) := by unfold ndR; rw [h]; rfl
theorem ndR_int {l : List Da} {d : Nat} {t : Ty} {v : Vl} (h : fitV l (d + 1) t v = false) (ht : t.data = -1) : ndR l (d + 1) t v = 1 := by unfold ndR; rw [h, if_neg (by simp), if_pos ⟨by omega, ht⟩]
theorem ndR_no {l : List Da} {d : Nat} {t : Ty} {v : Vl} (h : fitV l d t v = false) (ht : ¬ t.data = -1) : ndR l d t v = 0 := by unfold ndR; rw [h, if_neg (by simp), if_neg (fun e => ht e.2)]
theorem ndR_zero {l : List Da} {t : Ty} {v : Vl} : ndR l 0 t v = 0 := by unfold ndR; rw [fit_zero, if_neg (by simp), if_neg (fun e => by omega)]
theorem wV_none {v : Vl} (h : v.kids.length = 0) : wV v = 0 := by rw [wV_kids, List.eq_nil_of_length_eq_zero h, wVs]
theorem ret_nb {a b : Int} {x y : Bool} (h : a = b) (h' : x = y) : Ending.returned (.tuple #[.int .i64 a, .bool x]) = .returned (.tuple #[.int .i64 b, .bool y]) := by rw [h, h']
def NdC (l : List Da) (d : Nat) (z : Int) : Prop := ∀ (A D : Option Addr) (cap ep e : Nat) (t : Ty) (v : Vl) (w : World), RDas w w.heap.size A l → TyOK l t → RVs e w w.heap.size D v.kids → wV v ≤ 16000000 →
  Calls Tryz.prog 66 #[.slice A l.length cap, .agg #[.int .i64 t.data, .int .i64 t.index], .agg #[.int .i64 v.ctor, .int .i64 v.n, .slice D v.kids.length ep], .int .i64 z] w fun e w' => e = .returned (.tuple #[.int .i64 (ndR l d t v), .bool (fitV l d t v)]) ∧ Below w.heap.size w w'
def NdS (l : List Da) (d : Nat) : Prop := NdC l d (d : Nat)
theorem NdC.known {l : List Da} {d : Nat} {z : Int} (h : NdC l d z) (A D : Option Addr) (cap ep e : Nat) (t : Ty) (v : Vl) (r : Int) (b : Bool) (w : World) (hf : fitV l d t v = b) (hn : ndR l d t v = r) (hr : RDas w w.heap.size A l) (ht : TyOK l t) (hv : RVs e w w.heap.size D v.kids) (hw : wV v ≤ 16000000) :
    Calls Tryz.prog 66 #[.slice A l.length cap, .agg #[.int .i64 t.data, .int .i64 t.index], .agg #[.int .i64 v.ctor, .int .i64 v.n, .slice D v.kids.length ep], .int .i64 z] w fun e w' => e = .returned (.tuple #[.int .i64 r, .bool b]) ∧ Below w.heap.size w w' := by
  rw [← hf, ← hn]; exact h A D cap ep e t v w hr ht hv hw
theorem ndS_zero (l : List Da) : NdS l 0 := by
  intro A D cap ep e t v w hr ht hv hw
  have HB : Hid (∀ o o' : Obj, Below w.heap.size w ((w.alloc o).alloc o')) := fun o o' => ((Below.refl _ _).alloc (Nat.le_refl _) _).alloc (by simp) _
  have HZ := Lib.hid (ndR_zero (l := l) (t := t) (v := v))
  clear hr ht hv
  go_enter Tryz.func66, Tryz.ntmps66
  go_wp2_with fail
  go_ret2
  exact ⟨ret_nb HZ.out.symm rfl, HB.out _ _⟩
set_option maxHeartbeats 1600000 in
theorem ndS_int (l : List Da) (d : Nat) (hd : d < 100) (A D : Option Addr) (cap ep : Nat) (t : Ty) (v : Vl) (w : World) (h1 : t.data = -1) (hl : v.kids.length ≤ maxLen) :
    Calls Tryz.prog 66 #[.slice A l.length cap, .agg #[.int .i64 t.data, .int .i64 t.index], .agg #[.int .i64 v.ctor, .int .i64 v.n, .slice D v.kids.length ep], .int .i64 ((d + 1 : Nat) : Int)] w fun e w' => e = .returned (.tuple #[.int .i64 (ndR l (d + 1) t v), .bool (fitV l (d + 1) t v)]) ∧ Below w.heap.size w w' := by
  have HF := Lib.hid (fit_int (l := l) (d := d) (v := v) h1)
  have HR : Hid (ndR l (d + 1) t v = 1) := by
    by_cases hf : fitV l (d + 1) t v = true
    · have h2 := hf
      rw [fit_int h1] at h2
      simp only [Bool.and_eq_true, decide_eq_true_eq] at h2
      unfold Hid
      rw [ndR_yes hf, wV_none h2.2.2.2]; rfl
    · exact ndR_int (by simpa using hf) h1
  have q1 := ieq_t h1
  generalize hz : ((d + 1 : Nat) : Int) = z
  have hz0 : 1 ≤ z := by omega
  have hz1 : (z == 0) = false := ieq_f (by omega)
  clear h1 hz
  unfold maxLen at hl
  generalize hw0 : (w.alloc (.cells #[.int .i64 t.data, .int .i64 t.index] 25)).alloc (.cells #[.int .i64 v.ctor, .int .i64 v.n, .slice D v.kids.length ep] 31) = w0
  have hb0 := below_box2 hw0
  have HXV : Hid (VBx w0 (w.heap.size + 1) v.ctor v.n (.slice D v.kids.length ep)) := by rw [← hw0]; exact ⟨by simp [go_sem], by simp [go_sem], by simp [go_sem]⟩
  have HW := Lib.hid hw0
  clear hw0
  obtain ⟨y0, y1, y2⟩ := HXV.out
  by_cases a1 : v.ctor = -1
  · have p1 := ieq_t a1
    by_cases a2 : 0 ≤ v.n
    · by_cases a3 : v.n ≤ 9
      · by_cases a4 : v.kids.length = 0
        · have p4 := ieq_t (show (v.kids.length : Int) = 0 by omega)
          rw [decide_eq_true a1, decide_eq_true a2, decide_eq_true a3, decide_eq_true a4] at HF
          clear a1 a4
          go_enter Tryz.func66, Tryz.ntmps66
          go_wp2_with fail
          rw [HW.out]
          go_quiet (fail)
          go_wp2_with fail
          go_ret2
          exact ⟨ret_nb HR.out.symm (by rw [HF.out]; rfl), below_drawn hb0 _⟩
        · have p4 := ieq_f (show ¬ (v.kids.length : Int) = 0 by omega)
          rw [decide_eq_false a4] at HF
          clear a1 a4
          go_enter Tryz.func66, Tryz.ntmps66
          go_wp2_with fail
          rw [HW.out]
          go_quiet (fail)
          go_wp2_with fail
          go_ret2
          exact ⟨ret_nb HR.out.symm (by rw [HF.out]; simp), below_drawn hb0 _⟩
      · have p3 : decide (v.n ≤ 9) = false := decide_eq_false a3
        rw [decide_eq_false a3] at HF
        clear a1
        go_enter Tryz.func66, Tryz.ntmps66
        go_wp2_with fail
        rw [HW.out]
        go_quiet (fail)
        go_wp2_with fail
        go_ret2
        exact ⟨ret_nb HR.out.symm (by rw [HF.out]; simp), below_drawn hb0 _⟩
    · have p2 : decide (0 ≤ v.n) = false := decide_eq_false a2
      rw [decide_eq_false a2] at HF
      clear a1
      go_enter Tryz.func66, Tryz.ntmps66
      go_wp2_with fail
      rw [HW.out]
      go_quiet (fail)
      go_wp2_with fail
      go_ret2
      exact ⟨ret_nb HR.out.symm (by rw [HF.out]; simp), below_drawn hb0 _⟩
  · have p1 := ieq_f a1
    rw [decide_eq_false a1] at HF
    clear a1
    go_enter Tryz.func66, Tryz.ntmps66
    go_wp2_with fail
    rw [HW.out]
    go_quiet (fail)
    go_wp2_with fail
    go_ret2
    exact ⟨ret_nb HR.out.symm (by rw [HF.out]; simp), below_drawn hb0 _⟩
set_option maxHeartbeats 3000000 in
theorem ndS_step (l : List Da) (d : Nat) (hd : d < 100) (ih : NdS l d) : NdS l (d + 1) := by
  intro A D cap ep e t v w hr ht hv hwv
  have hl := hv.1
  by_cases h1 : t.data = -1
  · exact ndS_int l d hd A D cap ep t v w h1 hl
  have q1 := ieq_f h1
  have H1 := Lib.hid h1
  have Hr := Lib.hid hr
  have HT := Lib.hid ht
  have HV := Lib.hid hv
  have IH := Lib.hid ih
  unfold maxLen at hl
  generalize hz : ((d + 1 : Nat) : Int) = z
  have hz0 : 1 ≤ z := by omega
  have hz2 : z ≤ 101 := by omega
  have hz1 : (z == 0) = false := ieq_f (by omega)
  have IHz : Hid (NdC l d (z - 1)) := by unfold Hid; rw [show z - 1 = (d : Int) by omega]; exact ih
  clear h1 hr ht hv ih hz IH
  generalize hw0 : (w.alloc (.cells #[.int .i64 t.data, .int .i64 t.index] 25)).alloc (.cells #[.int .i64 v.ctor, .int .i64 v.n, .slice D v.kids.length ep] 31) = w0
  have hb0 := below_box2 hw0
  have HXT : Hid (Bx w0 w.heap.size t) := by rw [← hw0]; exact ⟨by simp [go_sem], by simp [go_sem]⟩
  have HXV : Hid (VBx w0 (w.heap.size + 1) v.ctor v.n (.slice D v.kids.length ep)) := by rw [← hw0]; exact ⟨by simp [go_sem], by simp [go_sem], by simp [go_sem]⟩
  have HW := Lib.hid hw0
  clear hw0
  obtain ⟨x0, x1⟩ := HXT.out
  obtain ⟨y0, y1, y2⟩ := HXV.out
  by_cases hn : v.n = 0
  · have qn : (v.n != 0) = false := by simp [hn]
    by_cases hc : v.ctor ∈ ctR l t
    · have HC := Lib.hid hc
      have HD := Lib.hid (dec_t hc)
      by_cases hk : v.kids.length = (agR l t v.ctor).length
      · have HF := Lib.hid (fit_go (d := d) H1.out hn hc hk)
        have hm3 := agR_len l t v.ctor
        have HOK := Lib.hid (agR_ok hc)
        have HK := Lib.hid (fun (i : Nat) (h : i < (agR l t v.ctor).length) (h' : i < v.kids.length) => kidV_at (l := l) (d := d) h h')
        have HAG := Lib.hid (argTypes_all A l cap t v.ctor · · hc)
        generalize hats : agR l t v.ctor = ats at HF hm3 HOK HK HAG hk
        have hkI : ((v.kids.length : Int) != (ats.length : Int)) = false := by simp [hk]
        have HKL := Lib.hid hk
        clear hn hc hats hk
        go_enter Tryz.func66, Tryz.ntmps66
        go_wp2_with fail
        rw [HW.out]
        go_region_with (first | (go_at_call 129; refine (ctorsOf_all _ l _ t _ (by exact Hr.out.at_ hb0.drew) HT.out).mono ?_; rintro e w1 ⟨v1, rfl, ho, hb1'⟩; have hb1 : Below w0.heap.size w0 w1 := ⟨hb1'.os, hb1'.tape, hb1'.output, hb1'.size, hb1'.block⟩; obtain ⟨A1, c1, rfl, hri⟩ := ho.form (by have := ctR_len l t; unfold maxLen; omega); have HRI := Lib.hid hri; have HXV1 := Lib.hid (HXV.out.at_ hb1); obtain ⟨z0, z1, z2⟩ := HXV1.out; clear hri ho hb1') | (go_at_call 67; refine (contains_any _ _ _ _ _ HRI.out).mono ?_; rw [HD.out]; rintro e w2 ⟨rfl, rfl⟩))
        all_goals
          have HXT1 := Lib.hid (HXT.out.at_ hb1)
          obtain ⟨u0, u1⟩ := HXT1.out
          have hb1w := below_aft hb0 hb1 hb0.size
          clear x0 x1 y0 y1 y2
          go_wp2_with (go_at_call 69; refine (HAG.out _ (by exact Hr.out.at_ hb1w)).mono ?_; rintro e w3 ⟨v3, rfl, ho3, hb3'⟩; obtain ⟨A3, c3, rfl, hr3⟩ := ho3.form (by unfold maxLen; omega); have HR3 := Lib.hid hr3; have HXV3 := Lib.hid (HXV1.out.at_ hb3'); obtain ⟨z0', z1', z2'⟩ := HXV3.out; have hb3 := below_aft hb1w hb3' hb1w.size; clear hr3 ho3 hb3')
          go_loopw [11, 65] (fun n i wr => ∃ k : Nat, k ≤ ats.length ∧ i = .int .i64 k ∧ ∃ q : Int, 1 ≤ q ∧ q ≤ 32000000 ∧ n = .int .i64 q ∧ Hid (q = upK v.kids k) ∧ Hid (upto (kidV l d ats v.kids) k = true) ∧ Below w3.heap.size w3 wr) (fun _ i _ => ats.length - (intOf i).toNat)
          case atStart => exact ⟨0, by omega, rfl, 1, by omega, by omega, rfl, rfl, rfl, Below.refl _ _⟩
          case round =>
            obtain ⟨k, hk, rfl, q, hq1, hq2, rfl, HQ, HU, hb⟩ := hrel
            clear u0 u1 z0 z1 z2 z0' z1' z2'
            have hbw : Below w.heap.size w wr := below_aft hb3 hb hb3.size
            have HXVr := Lib.hid (HXV3.out.at_ hb)
            by_cases hlt : k < ats.length
            · have hkl : k < v.kids.length := by rw [HKL.out]; exact hlt
              obtain ⟨g, o, rfl, hgB, t0, t1⟩ := (HR3.out.below hb (Nat.le_refl _)).2 k hlt
              have hi : (k : Int) < (ats.length : Int) := by omega
              have hi2 : (k : Int) < (v.kids.length : Int) := by omega
              have hzs : IntKind.i64.wrap (z - 1) = z - 1 := IntWalk.i64_in _ (by omega)
              generalize hwA : wr.alloc (.cells #[.int .i64 ats[k].data, .int .i64 ats[k].index] 25) = wA
              have hbA : Below wr.heap.size wr wA := by rw [← hwA]; exact (Below.refl _ _).alloc (Nat.le_refl _) _
              have HXTA : Hid (Bx wA wr.heap.size ats[k]) := by rw [← hwA]; exact Bx.new _ _ _
              have hbwA := below_aft hbw hbA hbw.size
              obtain ⟨b, off, rfl, hbB, hvk⟩ := (HV.out.below hbwA (Nat.le_refl _)).2 k hkl
              obtain ⟨e', he', D', cp, c0, c1, c2, hm⟩ := hvk.parts
              obtain ⟨f0, f1, f2⟩ := HXVr.out.at_ hbA
              obtain ⟨s0, s1⟩ := HXTA.out
              have d0 := cell_regrown s0
              have d1 := cell_regrown s1
              have d2 := cell_regrown c0
              have d3 := cell_regrown c1
              have d4 := cell_regrown c2
              have d5 := cell_regrown f2
              have HWA := Lib.hid hwA
              have Hm : Hid (RVs e' wA wA.heap.size D' v.kids[k].kids) := hm.keep (fun _ _ => rfl) hbwA.size
              have Hrr : Hid (RDas wA wA.heap.size A l) := Hr.out.at_ hbwA
              have HTk := Lib.hid (HOK.out _ (List.getElem_mem hlt))
              have HKk := Lib.hid (HK.out k hlt hkl)
              have HWK : Hid (wV v.kids[k] ≤ 16000000) := by have := wV_kid v k hkl; unfold Hid; omega
              have HS := Lib.hid (upK_succ v.kids k hkl)
              have HL2 := Lib.hid (upK_le v (k + 1) (by omega))
              clear c0 c1 c2 s0 s1 f0 f1 f2 hm hvk he' hwA
              by_cases hf : fitV l d ats[k] v.kids[k] = true
              · have HFk := Lib.hid hf
                have HNk := Lib.hid (ndR_yes hf)
                have HUk : Hid (upto (kidV l d ats v.kids) (k + 1) = true) := upto_t HU.out (by rw [HKk.out]; exact hf)
                have hr1 : (0 : Int) ≤ 1 + (wV v.kids[k] : Int) := by omega
                have hr2 : 1 + (wV v.kids[k] : Int) ≤ 16000001 := by have := HWK.out; omega
                generalize hrr : 1 + (wV v.kids[k] : Int) = r at hr1 hr2 HNk
                have HRR := Lib.hid hrr
                clear hf hrr
                go_wp2_with fail
                rw [HWA.out]
                refine wp_region_quiet_below (by kernel_rfl) (by kernel_rfl) ?_
                repeat (quiet_step (exact Calls.regrown_of (IHz.out.known _ _ _ _ _ _ _ _ _ _ HFk.out HNk.out (Hrr.out.at_ (below_regrown wA _ _)) HTk.out (Hm.out.at_ (below_regrown wA _ _)) HWK.out)))
                refine wpQuiet_nil ?_
                intro _ hw'
                obtain ⟨⟨dq, osq⟩, hw''⟩ := hw'
                subst hw''
                have hb2 := (below_aft hb hbA hb.size).trans ((below_regrown wA dq osq).mono (Nat.le_trans hb.size hbA.size))
                clear d0 d1 d2 d3 d4 d5
                go_wp2_with fail
                have hqn : q + r = ((upK v.kids (k + 1) : Nat) : Int) := by rw [HS.out, ← HRR.out, HQ.out]; push_cast; omega
                have hqb := HL2.out
                go_roundw
                case rel => exact ⟨k + 1, by omega, by go_num, _, by omega, by omega, rfl, hqn, HUk, hb2⟩
                case measure => simp [intOf]; omega
              · have hf' : fitV l d ats[k] v.kids[k] = false := by simpa using hf
                have HFk := Lib.hid hf'
                have HUk := Lib.hid (upto_f (f := kidV l d ats v.kids) hlt (by rw [HKk.out]; exact hf'))
                have HFF : Hid (fitV l (d + 1) t v = false) := by unfold Hid; rw [HF.out, HUk.out]
                clear hf hf'
                go_wp2_with fail
                rw [HWA.out]
                refine wp_region_quiet_below (by kernel_rfl) (by kernel_rfl) ?_
                repeat (quiet_step (exact Calls.regrown_of (IHz.out.known _ _ _ _ _ _ _ _ _ _ HFk.out rfl (Hrr.out.at_ (below_regrown wA _ _)) HTk.out (Hm.out.at_ (below_regrown wA _ _)) HWK.out)))
                refine wpQuiet_nil ?_
                intro _ hw'
                obtain ⟨⟨dq, osq⟩, hw''⟩ := hw'
                subst hw''
                have hb2 := hbwA.trans ((below_regrown wA dq osq).mono hbwA.size)
                clear d0 d1 d2 d3 d4 d5
                go_wp2_with fail
                go_ret2
                exact ⟨ret_nb (ndR_no HFF.out H1.out).symm HFF.out.symm, hb2⟩
            · have he : k = ats.length := by omega
              have HE : Hid (fitV l (d + 1) t v = true) := by unfold Hid; rw [HF.out, ← he]; exact HU.out
              have HQN : Hid (q = ndR l (d + 1) t v) := by unfold Hid; rw [ndR_yes HE.out, HQ.out, he, ← HKL.out, upK_all]; push_cast; rfl
              clear he
              go_wp2_with fail
              go_ret2
              exact ⟨ret_nb HQN.out HE.out.symm, hbw⟩
      · have HF := Lib.hid (fit_len (d := d) H1.out hk)
        have hm3 := agR_len l t v.ctor
        have HAG := Lib.hid (argTypes_all A l cap t v.ctor · · hc)
        generalize hats : agR l t v.ctor = ats at HF hm3 HAG hk
        have hkI : ((v.kids.length : Int) != (ats.length : Int)) = true := by simp; omega
        clear hn hc hats hk
        go_enter Tryz.func66, Tryz.ntmps66
        go_wp2_with fail
        rw [HW.out]
        go_region_with (first | (go_at_call 129; refine (ctorsOf_all _ l _ t _ (by exact Hr.out.at_ hb0.drew) HT.out).mono ?_; rintro e w1 ⟨v1, rfl, ho, hb1'⟩; have hb1 : Below w0.heap.size w0 w1 := ⟨hb1'.os, hb1'.tape, hb1'.output, hb1'.size, hb1'.block⟩; obtain ⟨A1, c1, rfl, hri⟩ := ho.form (by have := ctR_len l t; unfold maxLen; omega); have HRI := Lib.hid hri; have HXV1 := Lib.hid (HXV.out.at_ hb1); obtain ⟨z0, z1, z2⟩ := HXV1.out; clear hri ho hb1') | (go_at_call 67; refine (contains_any _ _ _ _ _ HRI.out).mono ?_; rw [HD.out]; rintro e w2 ⟨rfl, rfl⟩))
        all_goals
          have HXT1 := Lib.hid (HXT.out.at_ hb1)
          obtain ⟨u0, u1⟩ := HXT1.out
          have hb1w := below_aft hb0 hb1 hb0.size
          clear x0 x1 y0 y1 y2
          go_wp2_with (go_at_call 69; refine (HAG.out _ (by exact Hr.out.at_ hb1w)).mono ?_; rintro e w3 ⟨v3, rfl, ho3, hb3'⟩; obtain ⟨A3, c3, rfl, hr3⟩ := ho3.form (by unfold maxLen; omega); have HXV3 := Lib.hid (HXV1.out.at_ hb3'); obtain ⟨z0', z1', z2'⟩ := HXV3.out; have hb3 := below_aft hb1w hb3' hb1w.size; clear hr3 ho3 hb3')
          go_ret2
          exact ⟨ret_nb (ndR_no HF.out H1.out).symm HF.out.symm, hb3⟩
    · have HF := Lib.hid (fit_ctor (d := d) H1.out hc)
      have HD := Lib.hid (dec_f hc)
      clear hn hc
      go_enter Tryz.func66, Tryz.ntmps66
      go_wp2_with fail
      rw [HW.out]
      go_region_with (first | (go_at_call 129; refine (ctorsOf_all _ l _ t _ (by exact Hr.out.at_ hb0.drew) HT.out).mono ?_; rintro e w1 ⟨v1, rfl, ho, hb1'⟩; have hb1 : Below w0.heap.size w0 w1 := ⟨hb1'.os, hb1'.tape, hb1'.output, hb1'.size, hb1'.block⟩; obtain ⟨A1, c1, rfl, hri⟩ := ho.form (by have := ctR_len l t; unfold maxLen; omega); have HRI := Lib.hid hri; have HXV1 := Lib.hid (HXV.out.at_ hb1); obtain ⟨z0, z1, z2⟩ := HXV1.out; clear hri ho hb1') | (go_at_call 67; refine (contains_any _ _ _ _ _ HRI.out).mono ?_; rw [HD.out]; rintro e w2 ⟨rfl, rfl⟩))
      all_goals
        go_wp2_with fail
        go_ret2
        exact ⟨ret_nb (ndR_no HF.out H1.out).symm HF.out.symm, below_aft hb0 hb1 hb0.size⟩
  · have qn : (v.n != 0) = true := by simpa using hn
    have HF := Lib.hid (fit_n (l := l) (d := d) H1.out hn)
    clear hn
    go_enter Tryz.func66, Tryz.ntmps66
    go_wp2_with fail
    rw [HW.out]
    go_quiet (fail)
    go_wp2_with fail
    go_ret2
    exact ⟨ret_nb (ndR_no HF.out H1.out).symm HF.out.symm, below_drawn hb0 _⟩
end Go.Proofs.YthdnfnmglhifmaaGreat
