/-
  No variable of a pattern stands twice: the document's function. No statement is proved here.
-/
import Derived.Test.YteoopmogklpnoaaT31
namespace Go.Proofs.Yteoopmogklpnoaa
open Go.RowKit Go.Sort Go.Deep
set_option maxRecDepth 100000
set_option linter.unusedVariables false
noncomputable def onceV (L : List Vt) (i : Nat) : Bool := decide (findV L (L.getD i default).var = i)
theorem onceV_at {L : List Vt} {i : Nat} (h : i < L.length) : onceV L i = decide (findV L L[i].var = i) := by unfold onceV; rw [getDv_at L i h]
noncomputable def headL (l : List Da) (d : Nat) (t : Ty) (p : Pt) : Bool := if p.op = 5 then alike (vrP l d t (p.kids.getD 0 default)) (vrP l d t (p.kids.getD 1 default)) else upto (onceV (vrP l (d + 1) t p)) (vrP l (d + 1) t p).length
noncomputable def linP (l : List Da) : Nat → Ty → Pt → Bool
  | 0, _, _ => false
  | d + 1, t, p => upto (fun i => linP l d ((tysP l t p).getD i default) (p.kids.getD i default)) (tysP l t p).length && headL l d t p
noncomputable def kidL (l : List Da) (d : Nat) (ats : List Ty) (ks : List Pt) (i : Nat) : Bool := linP l d (ats.getD i default) (ks.getD i default)
theorem kidL_at {l : List Da} {d : Nat} {ats : List Ty} {ks : List Pt} {i : Nat} (h : i < ats.length) (h' : i < ks.length) : kidL l d ats ks i = linP l d ats[i] ks[i] := by
  unfold kidL; rw [getDv_at ats i h, getDv_at ks i h']
theorem linP_go (l : List Da) (d : Nat) (t : Ty) (p : Pt) : linP l (d + 1) t p = (upto (kidL l d (tysP l t p) p.kids) (tysP l t p).length && headL l d t p) := rfl
theorem headL_or {l : List Da} {d : Nat} {t : Ty} {p : Pt} (h : p.op = 5) (h0 : 0 < p.kids.length) (h1 : 1 < p.kids.length) : headL l d t p = alike (vrP l d t p.kids[0]) (vrP l d t p.kids[1]) := by
  unfold headL; rw [if_pos h, getDv_at _ 0 h0, getDv_at _ 1 h1]
theorem headL_no {l : List Da} {d : Nat} {t : Ty} {p : Pt} (h : ¬ p.op = 5) : headL l d t p = upto (onceV (vrP l (d + 1) t p)) (vrP l (d + 1) t p).length := if_neg h
theorem vars_new (l : List Da) (d : Nat) (A D : Option Addr) (cap ep e : Nat) (t : Ty) (p : Pt) (w : World) (hr : RDas w w.heap.size A l) (ht : TyOK l t) (hv : RPs e w w.heap.size D p.kids) (hs : shP l d t p = true) (hn : wP p ≤ 1000) :
    Calls Try.prog 65 #[.slice none 0 0, .slice A l.length cap, .agg #[.int .i64 t.data, .int .i64 t.index], .agg #[.int .i64 p.op, .int .i64 p.ctor, .int .i64 p.n, .int .i64 p.m, .int .i64 p.var, .slice D p.kids.length ep]] w fun e w' => ∃ A' c, e = .returned (.slice A' (vrP l d t p).length c) ∧ RVts w' w'.heap.size A' (vrP l d t p) ∧ Below w.heap.size w w' := by
  refine (varC_any l d A D cap ep e t p [] (.slice none 0 0) w.heap.size w hr ht hv hs (OVt.nil _ _) (Nat.le_refl _) (by simp; omega)).mono ?_
  rintro e w' ⟨v', rfl, ho, hg, hf⟩
  rw [List.nil_append] at ho
  obtain ⟨A', c, rfl, hrv⟩ := ho.form (by have := vrP_len l d t p hs; unfold maxLen; omega)
  exact ⟨A', c, rfl, hrv, ⟨hg.os, hg.tape, hg.output, hg.size, fun i hi => hg.block i hi (fun e => by simp [Value.ownBlock] at e)⟩⟩
def LinC (l : List Da) (d : Nat) : Prop := ∀ (A D : Option Addr) (cap ep e : Nat) (t : Ty) (p : Pt) (w : World), RDas w w.heap.size A l → TyOK l t → RPs e w w.heap.size D p.kids → shP l d t p = true → wP p ≤ 1000 →
  Calls Try.prog 108 #[.slice A l.length cap, .agg #[.int .i64 t.data, .int .i64 t.index], .agg #[.int .i64 p.op, .int .i64 p.ctor, .int .i64 p.n, .int .i64 p.m, .int .i64 p.var, .slice D p.kids.length ep]] w fun e w' => e = .returned (.bool (linP l d t p)) ∧ Below w.heap.size w w'
theorem LinC.known {l : List Da} {d : Nat} (h : LinC l d) (A D : Option Addr) (cap ep e : Nat) (t : Ty) (p : Pt) (b : Bool) (w : World) (hf : linP l d t p = b) (hr : RDas w w.heap.size A l) (ht : TyOK l t) (hv : RPs e w w.heap.size D p.kids) (hs : shP l d t p = true) (hn : wP p ≤ 1000) :
    Calls Try.prog 108 #[.slice A l.length cap, .agg #[.int .i64 t.data, .int .i64 t.index], .agg #[.int .i64 p.op, .int .i64 p.ctor, .int .i64 p.n, .int .i64 p.m, .int .i64 p.var, .slice D p.kids.length ep]] w fun e w' => e = .returned (.bool b) ∧ Below w.heap.size w w' := by
  rw [← hf]; exact h A D cap ep e t p w hr ht hv hs hn
set_option maxHeartbeats 4000000 in
theorem linC_step (l : List Da) (d : Nat) (ih : LinC l d) : LinC l (d + 1) := by
  intro A D cap ep e t p w hr ht hv hs hn
  obtain ⟨hown, hkl, hsh⟩ := shP_parts hs
  have hl := hv.1
  unfold maxLen at hl
  have HR := Lib.hid hr
  have HT := Lib.hid ht
  have HV := Lib.hid hv
  have HSH := Lib.hid hs
  have HM : Hid (p.op = 4 → p.ctor ∈ ctR l t) := hown.mem
  have IH := Lib.hid ih
  have hm3 := tysP_len l t p
  have HOK := Lib.hid (tysP_ok ht hown)
  have HKL := Lib.hid hkl
  have HS := Lib.hid hsh
  have HN := Lib.hid hn
  have HF := Lib.hid (linP_go l d t p)
  have HK := Lib.hid (fun (i : Nat) (h : i < (tysP l t p).length) (h' : i < p.kids.length) => kidL_at (l := l) (d := d) h h')
  have H52 : Hid (p.op = 5 → (tysP l t p).length = 2) := fun h => by rw [tysP_other (by omega), List.length_replicate, h]; decide
  have HSO : Hid (∀ (i : Nat) (h : i < (tysP l t p).length) (h' : i < p.kids.length), p.op = 5 → shP l d t p.kids[i] = true) := fun i h h' h5 => by
    have h6 := hsh i h h'
    simp only [tysP_other (l := l) (t := t) (p := p) (by omega), List.getElem_replicate] at h6
    exact h6
  have HAG : Hid (∀ w, RDas w w.heap.size A l → _) := fun w h => tys_any A D l cap ep t p w h HT.out HM.out
  clear hr ht hv hs ih hown hkl hsh hn
  generalize hw0 : (w.alloc (.cells #[.int .i64 t.data, .int .i64 t.index] 25)).alloc (.cells #[.int .i64 p.op, .int .i64 p.ctor, .int .i64 p.n, .int .i64 p.m, .int .i64 p.var, .slice D p.kids.length ep] 50) = w0
  have hb0 := below_box2 hw0
  have HXT : Hid (Bx w0 w.heap.size t) := by rw [← hw0]; exact ⟨by simp [go_sem], by simp [go_sem]⟩
  have HXP : Hid (PBx w0 (w.heap.size + 1) p (.slice D p.kids.length ep)) := by rw [← hw0]; exact ⟨by simp [go_sem], by simp [go_sem], by simp [go_sem], by simp [go_sem], by simp [go_sem], by simp [go_sem]⟩
  have HW := Lib.hid hw0
  clear hw0
  generalize hats : tysP l t p = ats at HF hm3 HOK HK HAG HKL HS H52 HSO
  clear hats
  go_enter Try.func108, Try.ntmps108
  go_wp2_with fail
  rw [HW.out]
  refine (HAG.out _ (HR.out.at_ hb0)).mono ?_
  rintro e3 w3 ⟨v3, rfl, ho3, hb3'⟩
  obtain ⟨A3, c3, rfl, hr3⟩ := ho3.form (by unfold maxLen; omega)
  have HR3 := Lib.hid hr3
  have HXT3 := Lib.hid (HXT.out.at_ hb3')
  have HXP3 := Lib.hid (HXP.out.at_ hb3')
  have hb3 := below_aft hb0 hb3' hb0.size
  clear hr3 ho3 hb3'
  go_wp2_with fail
  go_loopw [8] (fun i wr => ∃ k : Nat, k ≤ ats.length ∧ i = .int .i64 k ∧ Hid (upto (kidL l d ats p.kids) k = true) ∧ Below w3.heap.size w3 wr) (fun i _ => ats.length - (intOf i).toNat)
  case atStart => exact ⟨0, by omega, rfl, rfl, Below.refl _ _⟩
  case round =>
    obtain ⟨k, hk, rfl, HU, hb⟩ := hrel
    have hbw : Below w.heap.size w wr := below_aft hb3 hb hb3.size
    have HXTr := Lib.hid (HXT3.out.at_ hb)
    have HXPr := Lib.hid (HXP3.out.at_ hb)
    by_cases hlt : k < ats.length
    · have hkl : k < p.kids.length := by rw [HKL.out]; exact hlt
      obtain ⟨f0, f1, f2, f3, f4, f5⟩ := HXPr.out
      obtain ⟨g, o, rfl, hgB, t0, t1⟩ := (HR3.out.below hb (Nat.le_refl _)).2 k hlt
      obtain ⟨b, off, rfl, hbB, hvk⟩ := (HV.out.below hbw (Nat.le_refl _)).2 k hkl
      obtain ⟨e', he', D', cp, c0, c1, c2, c3', c4, c5, hm⟩ := hvk.parts
      have d0 := cell_regrown t0
      have d1 := cell_regrown t1
      have d2 := cell_regrown c0
      have d3 := cell_regrown c1
      have d4 := cell_regrown c2
      have d5 := cell_regrown c3'
      have d6 := cell_regrown c4
      have d7 := cell_regrown c5
      have d8 := cell_regrown f5
      have Hm : Hid (RPs e' wr wr.heap.size D' p.kids[k].kids) := hm.keep (fun _ _ => rfl) hbw.size
      have Hrr : Hid (RDas wr wr.heap.size A l) := HR.out.at_ hbw
      have HTk := Lib.hid (HOK.out _ (List.getElem_mem hlt))
      have HSk := Lib.hid (HS.out k hlt hkl)
      have HKk := Lib.hid (HK.out k hlt hkl)
      have HNk : Hid (wP p.kids[k] ≤ 1000) := by have := wP_kid p k hkl; have := HN.out; unfold Hid; omega
      have hi : (k : Int) < (ats.length : Int) := by omega
      have hi2 : (k : Int) < (p.kids.length : Int) := by omega
      clear c0 c1 c2 c3' c4 c5 t0 t1 f0 f1 f2 f3 f4 f5 hm hvk he'
      by_cases hf : linP l d ats[k] p.kids[k] = true
      · have HFk := Lib.hid hf
        have HUk : Hid (upto (kidL l d ats p.kids) (k + 1) = true) := upto_t HU.out (by rw [HKk.out]; exact hf)
        clear hf
        go_wp2_with fail
        refine wp_region_quiet_below (by kernel_rfl) (by kernel_rfl) ?_
        repeat (quiet_step (exact Calls.regrown_of (IH.out.known _ _ _ _ _ _ _ _ _ HFk.out (Hrr.out.at_ (below_regrown wr _ _)) HTk.out (Hm.out.at_ (below_regrown wr _ _)) HSk.out HNk.out)))
        refine wpQuiet_nil ?_
        intro _ hw'
        obtain ⟨⟨dq, osq⟩, hw''⟩ := hw'
        subst hw''
        have hb2 := hb.trans ((below_regrown wr dq osq).mono hb.size)
        clear d0 d1 d2 d3 d4 d5 d6 d7 d8
        go_wp2_with fail
        go_roundw
        case rel => exact ⟨k + 1, by omega, by go_num, HUk, hb2⟩
        case measure => simp [intOf]; omega
      · have hf' : linP l d ats[k] p.kids[k] = false := by simpa using hf
        have HFk := Lib.hid hf'
        have HUk := Lib.hid (upto_f (f := kidL l d ats p.kids) hlt (by rw [HKk.out]; exact hf'))
        clear hf hf'
        go_wp2_with fail
        refine wp_region_quiet_below (by kernel_rfl) (by kernel_rfl) ?_
        repeat (quiet_step (exact Calls.regrown_of (IH.out.known _ _ _ _ _ _ _ _ _ HFk.out (Hrr.out.at_ (below_regrown wr _ _)) HTk.out (Hm.out.at_ (below_regrown wr _ _)) HSk.out HNk.out)))
        refine wpQuiet_nil ?_
        intro _ hw'
        obtain ⟨⟨dq, osq⟩, hw''⟩ := hw'
        subst hw''
        have hb2 := hbw.trans ((below_regrown wr dq osq).mono hbw.size)
        clear d0 d1 d2 d3 d4 d5 d6 d7 d8
        go_wp2_with fail
        go_ret
        exact ⟨ret_bool (by rw [HF.out, HUk.out]; rfl), hb2⟩
    · have he : k = ats.length := by omega
      have HE : Hid (linP l (d + 1) t p = headL l d t p) := by unfold Hid; rw [HF.out, ← he, HU.out]; rfl
      clear he
      obtain ⟨x0, x1⟩ := HXTr.out
      obtain ⟨y0, y1, y2, y3, y4, y5⟩ := HXPr.out
      by_cases h5 : p.op = 5
      · have q5 := ieq_t h5
        have h2 : p.kids.length = 2 := by rw [HKL.out]; exact H52.out h5
        have h0k : 0 < p.kids.length := by omega
        have h1k : 1 < p.kids.length := by omega
        have HHD := Lib.hid (headL_or (l := l) (d := d) (t := t) h5 h0k h1k)
        obtain ⟨b, off, rfl, hbB, hvk⟩ := (HV.out.below hbw (Nat.le_refl _)).2 0 h0k
        obtain ⟨b2, off2, e2, hbB2, hvk2⟩ := (HV.out.below hbw (Nat.le_refl _)).2 1 h1k
        cases e2
        rw [show off + 0 * 6 = off by omega] at hvk
        rw [show off + 1 * 6 = off + 6 by omega] at hvk2
        obtain ⟨e4, he4, D4, cp4, c0, c1, c2, c3', c4, c5, hm4⟩ := hvk.parts
        obtain ⟨e5, he5, D5, cp5, d0, d1, d2, d3, d4, d5, hm5⟩ := hvk2.parts
        have a5 := H52.out
        have h0a : 0 < ats.length := by rw [← HKL.out]; exact h0k
        have h1a : 1 < ats.length := by rw [← HKL.out]; exact h1k
        have HT0 : Hid (shP l d t p.kids[0] = true ∧ shP l d t p.kids[1] = true) := ⟨(HSO.out 0 h0a h0k h5), (HSO.out 1 h1a h1k h5)⟩
        clear h5
        have HN01 : Hid (wP p.kids[0] ≤ 1000 ∧ wP p.kids[1] ≤ 1000) := by have a := wP_kid p 0 h0k; have b := wP_kid p 1 h1k; have := HN.out; exact ⟨by omega, by omega⟩
        have HM4 : Hid (RPs e4 wr wr.heap.size D4 p.kids[0].kids) := hm4.keep (fun _ _ => rfl) hbw.size
        have HM5 : Hid (RPs e5 wr wr.heap.size D5 p.kids[1].kids) := hm5.keep (fun _ _ => rfl) hbw.size
        have HRR : Hid (RDas wr wr.heap.size A l) := HR.out.at_ hbw
        have HKS : Hid (∀ w', Below wr.heap.size wr w' → w'.cell? ⟨w.heap.size, 0, none⟩ = some (.int .i64 t.data) ∧ w'.cell? ⟨w.heap.size, 1, none⟩ = some (.int .i64 t.index) ∧ w'.cell? ⟨w.heap.size + 1, 5, none⟩ = some (.slice (some ⟨b, off, none⟩) p.kids.length ep) ∧ w'.cell? ⟨b, off, none⟩ = some (.int .i64 p.kids[0].op) ∧ w'.cell? ⟨b, off + 1, none⟩ = some (.int .i64 p.kids[0].ctor) ∧ w'.cell? ⟨b, off + 2, none⟩ = some (.int .i64 p.kids[0].n) ∧ w'.cell? ⟨b, off + 3, none⟩ = some (.int .i64 p.kids[0].m) ∧ w'.cell? ⟨b, off + 4, none⟩ = some (.int .i64 p.kids[0].var) ∧ w'.cell? ⟨b, off + 5, none⟩ = some (.slice D4 p.kids[0].kids.length cp4) ∧ w'.cell? ⟨b, off + 6, none⟩ = some (.int .i64 p.kids[1].op) ∧ w'.cell? ⟨b, off + 7, none⟩ = some (.int .i64 p.kids[1].ctor) ∧ w'.cell? ⟨b, off + 8, none⟩ = some (.int .i64 p.kids[1].n) ∧ w'.cell? ⟨b, off + 9, none⟩ = some (.int .i64 p.kids[1].m) ∧ w'.cell? ⟨b, off + 10, none⟩ = some (.int .i64 p.kids[1].var) ∧ w'.cell? ⟨b, off + 11, none⟩ = some (.slice D5 p.kids[1].kids.length cp5)) := fun w' hW => ⟨(hW.cell (p := ⟨w.heap.size, 0, none⟩) (Go.block_lt_of_cell x0)).trans x0, (hW.cell (p := ⟨w.heap.size, 1, none⟩) (Go.block_lt_of_cell x1)).trans x1, (hW.cell (p := ⟨w.heap.size + 1, 5, none⟩) (Go.block_lt_of_cell y5)).trans y5, (hW.cell (p := ⟨b, off, none⟩) (Go.block_lt_of_cell c0)).trans c0, (hW.cell (p := ⟨b, off + 1, none⟩) (Go.block_lt_of_cell c1)).trans c1, (hW.cell (p := ⟨b, off + 2, none⟩) (Go.block_lt_of_cell c2)).trans c2, (hW.cell (p := ⟨b, off + 3, none⟩) (Go.block_lt_of_cell c3')).trans c3', (hW.cell (p := ⟨b, off + 4, none⟩) (Go.block_lt_of_cell c4)).trans c4, (hW.cell (p := ⟨b, off + 5, none⟩) (Go.block_lt_of_cell c5)).trans c5, (hW.cell (p := ⟨b, off + 6, none⟩) (Go.block_lt_of_cell d0)).trans d0, (hW.cell (p := ⟨b, off + 7, none⟩) (Go.block_lt_of_cell d1)).trans d1, (hW.cell (p := ⟨b, off + 8, none⟩) (Go.block_lt_of_cell d2)).trans d2, (hW.cell (p := ⟨b, off + 9, none⟩) (Go.block_lt_of_cell d3)).trans d3, (hW.cell (p := ⟨b, off + 10, none⟩) (Go.block_lt_of_cell d4)).trans d4, (hW.cell (p := ⟨b, off + 11, none⟩) (Go.block_lt_of_cell d5)).trans d5⟩
        have HBD : Hid (Below wr.heap.size wr wr.drew) := (Below.refl _ wr).drew
        have SQ := HKS.out wr.drew HBD.out
        have HV0 : Hid (∀ W, Below wr.heap.size wr W → _) := fun W h => vars_new l d A D4 cap cp4 e4 t p.kids[0] W (HRR.out.at_ h) HT.out (HM4.out.at_ h) HT0.out.1 HN01.out.1
        have HV1 : Hid (∀ W, Below wr.heap.size wr W → _) := fun W h => vars_new l d A D5 cap cp5 e5 t p.kids[1] W (HRR.out.at_ h) HT.out (HM5.out.at_ h) HT0.out.2 HN01.out.2
        clear c0 c1 c2 c3' c4 c5 d0 d1 d2 d3 d4 d5 hm4 hm5 hvk hvk2 he4 he5 x0 x1 y1 y2 y3 y4 y5
        go_wp2_with fail
        go_region_held3 (fun w' => w'.cell? ⟨w.heap.size, 0, none⟩ = some (.int .i64 t.data) ∧ w'.cell? ⟨w.heap.size, 1, none⟩ = some (.int .i64 t.index) ∧ w'.cell? ⟨w.heap.size + 1, 5, none⟩ = some (.slice (some ⟨b, off, none⟩) p.kids.length ep) ∧ w'.cell? ⟨b, off, none⟩ = some (.int .i64 p.kids[0].op) ∧ w'.cell? ⟨b, off + 1, none⟩ = some (.int .i64 p.kids[0].ctor) ∧ w'.cell? ⟨b, off + 2, none⟩ = some (.int .i64 p.kids[0].n) ∧ w'.cell? ⟨b, off + 3, none⟩ = some (.int .i64 p.kids[0].m) ∧ w'.cell? ⟨b, off + 4, none⟩ = some (.int .i64 p.kids[0].var) ∧ w'.cell? ⟨b, off + 5, none⟩ = some (.slice D4 p.kids[0].kids.length cp4) ∧ w'.cell? ⟨b, off + 6, none⟩ = some (.int .i64 p.kids[1].op) ∧ w'.cell? ⟨b, off + 7, none⟩ = some (.int .i64 p.kids[1].ctor) ∧ w'.cell? ⟨b, off + 8, none⟩ = some (.int .i64 p.kids[1].n) ∧ w'.cell? ⟨b, off + 9, none⟩ = some (.int .i64 p.kids[1].m) ∧ w'.cell? ⟨b, off + 10, none⟩ = some (.int .i64 p.kids[1].var) ∧ w'.cell? ⟨b, off + 11, none⟩ = some (.slice D5 p.kids[1].kids.length cp5)) (with_reducible exact SQ) (first | (go_at_call 65; (with_reducible refine (HV0.out wr.drew HBD.out).mono ?_); rintro e4 w4 ⟨A4, q4, rfl, hr4, hb4'⟩; have hb4 : Below wr.heap.size wr w4 := ⟨hb4'.os, hb4'.tape, hb4'.output, hb4'.size, hb4'.block⟩; have HR4 := Lib.hid hr4; have SQ := HKS.out w4 hb4; clear hr4 hb4') | (go_at_call 65; (with_reducible refine (HV1.out wr.drew HBD.out).mono ?_); rintro e4 w6 ⟨A5, q5, rfl, hr4, hb4'⟩; have hb6 : Below wr.heap.size wr w6 := ⟨hb4'.os, hb4'.tape, hb4'.output, hb4'.size, hb4'.block⟩; have HR5 := Lib.hid hr4; have SQ := HKS.out w6 hb6; clear hr4 hb4') | (go_at_call 65; (with_reducible refine (HV1.out w4 hb4).mono ?_); rintro e4 w5 ⟨A5, q5, rfl, hr4, hb4'⟩; have hb5 : Below wr.heap.size wr w5 := hb4.trans (hb4'.mono hb4.size); have HR5 := Lib.hid hr4; have HR4 := Lib.hid (HR4.out.at_ hb4'); have SQ := HKS.out w5 hb5; clear hr4 hb4') | (go_at_call 65; (with_reducible refine (HV0.out w6 hb6).mono ?_); rintro e4 w5 ⟨A4, q4, rfl, hr4, hb4'⟩; have hb5 : Below wr.heap.size wr w5 := hb6.trans (hb4'.mono hb6.size); have HR4 := Lib.hid hr4; have HR5 := Lib.hid (HR5.out.at_ hb4'); have SQ := HKS.out w5 hb5; clear hr4 hb4') | (go_at_call 133; (with_reducible refine (alike_any A4 A5 _ _ q4 q5 w5 HR4.out HR5.out).mono ?_); rintro e7 w7 ⟨rfl, hb7'⟩; have hb7 := hb5.trans (hb7'.mono hb5.size); have SQ := HKS.out w7 hb7; clear hb7'))
        all_goals
          go_wp2_with fail
          go_ret
          exact ⟨ret_bool (by rw [HE.out, HHD.out]), below_aft hbw hb7 hbw.size⟩
      · have q5 := ieq_f h5
        have HHD := Lib.hid (headL_no (l := l) (d := d) (t := t) h5)
        have HVN := Lib.hid (vars_new l (d + 1) A D cap ep e t p wr (HR.out.at_ hbw) HT.out (HV.out.at_ hbw) HSH.out HN.out)
        have HLN := Lib.hid (vrP_len l (d + 1) t p HSH.out)
        clear h5
        generalize vrP l (d + 1) t p = L at HHD HVN HLN
        go_wp2_with fail
        refine HVN.out.mono ?_
        rintro e4 w4 ⟨A4, c4, rfl, hr4, hb4⟩
        have HR4 := Lib.hid hr4
        have hl4 := hr4.1
        unfold maxLen at hl4
        have hb4w := below_aft hbw hb4 hbw.size
        clear hr4
        go_wp2_with fail
        clear x0 x1 y0 y1 y2 y3 y4 y5
        go_loopw [10] (fun i wq => ∃ k : Nat, k ≤ L.length ∧ i = .int .i64 k ∧ Hid (upto (onceV L) k = true) ∧ w4 = wq) (fun i _ => L.length - (intOf i).toNat)
        case atStart => exact ⟨0, by omega, rfl, rfl, rfl⟩
        case round =>
          obtain ⟨k2, hk2, rfl, HU2, rfl⟩ := hrel
          by_cases hlt2 : k2 < L.length
          · have hi2 : (k2 : Int) < (L.length : Int) := by omega
            have HFI := Lib.hid (findVt_any A4 L c4 L[k2].var w4 HR4.out)
            have HON := Lib.hid (onceV_at hlt2)
            obtain ⟨b, off, rfl, hbB, g0, _⟩ := HR4.out.2 k2 hlt2
            by_cases hq : findV L L[k2].var = k2
            · have qn : (findV L L[k2].var != (k2 : Int)) = false := by simp [hq]
              have HU3 : Hid (upto (onceV L) (k2 + 1) = true) := upto_t HU2.out (by rw [HON.out]; exact decide_eq_true hq)
              clear hq
              go_wp2_with (go_at_call 134; refine HFI.out.mono ?_; rintro e5 w5 ⟨rfl, rfl⟩)
              go_roundw
              case rel => exact ⟨k2 + 1, by omega, by go_num, HU3.out, trivial⟩
              case measure => simp [intOf]; omega
            · have qn : (findV L L[k2].var != (k2 : Int)) = true := by simp [hq]
              have HU3 := Lib.hid (upto_f (f := onceV L) hlt2 (by rw [HON.out]; exact decide_eq_false hq))
              clear hq
              go_wp2_with (go_at_call 134; refine HFI.out.mono ?_; rintro e5 w5 ⟨rfl, rfl⟩)
              go_ret
              exact ⟨ret_bool (by rw [HE.out, HHD.out, HU3.out]), hb4w⟩
          · have he2 : k2 = L.length := by omega
            have HU3 : Hid (upto (onceV L) L.length = true) := by unfold Hid; rw [← he2]; exact HU2.out
            clear he2
            go_wp2_with fail
            go_ret
            exact ⟨ret_bool (by rw [HE.out, HHD.out, HU3.out]), hb4w⟩
theorem linC_any (l : List Da) : ∀ d, LinC l d
  | 0 => fun A D cap ep e t p w _ _ _ hs _ => by rw [shP_zero] at hs; cases hs
  | d + 1 => linC_step l d (linC_any l d)
end Go.Proofs.Yteoopmogklpnoaa
