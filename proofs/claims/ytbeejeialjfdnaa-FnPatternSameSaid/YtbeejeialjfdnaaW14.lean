/-
  No variable of a pattern stands twice: the document's function. No statement is proved here.
-/
import Derived.Test.YtbeejeialjfdnaaW13
import Derived.Test.YtbeejeialjfdnaaW08
import Derived.Test.YtbeejeialjfdnaaW02
import Derived.Test.YtbeejeialjfdnaaW10
import Derived.Deep.DeepCutAuto
namespace Go.Proofs.Ytbeejeialjfdnaa
open Go.RowKit Go.Sort Go.Deep
set_option maxRecDepth 100000
set_option linter.unusedVariables false
noncomputable def onceV (L : List Vt) (i : Nat) : Bool := decide (findV L (L.getD i default).var = i)
theorem onceV_at {L : List Vt} {i : Nat} (h : i < L.length) : onceV L i = decide (findV L L[i].var = i) := by unfold onceV; rw [getDv_at L i h]
noncomputable def headL (l : List Da) (d : Nat) (t : Ty) (p : Pt) : Bool := if p.op = 5 then alike (vrP l d t (p.kids.getD 0 default)) (vrP l d t (p.kids.getD 1 default)) else upto (onceV (vrP l (d + 1) t p)) (vrP l (d + 1) t p).length
noncomputable def linP (l : List Da) : Nat → Ty → Pt → Bool
  | 0, _, _ => false
  | d + 1, t, p => upto (fun i => linP l d ((tysP l t p).getD i default) (p.kids.getD i default)) (tysP l t p).length && headL l d t p
noncomputable def kidL (l : List Da) (d : Nat) (ats : List Ty) (ks : List Pt) (i : Nat) : Bool := linP l d (ats.getD i default) (ks.getD i default)
theorem kidL_at {l : List Da} {d : Nat} {ats : List Ty} {ks : List Pt} {i : Nat} (h : i < ats.length) (h' : i < ks.length) : kidL l d ats ks i = linP l d ats[i] ks[i] := by
  unfold kidL; rw [getDv_at ats i h, getDv_at ks i h']
theorem linP_go (l : List Da) (d : Nat) (t : Ty) (p : Pt) : linP l (d + 1) t p = (upto (kidL l d (tysP l t p) p.kids) (tysP l t p).length && headL l d t p) := rfl
theorem headL_or {l : List Da} {d : Nat} {t : Ty} {p : Pt} (h : p.op = 5) (h0 : 0 < p.kids.length) (h1 : 1 < p.kids.length) : headL l d t p = alike (vrP l d t p.kids[0]) (vrP l d t p.kids[1]) := by
  unfold headL; rw [if_pos h, getDv_at _ 0 h0, getDv_at _ 1 h1]
theorem headL_no {l : List Da} {d : Nat} {t : Ty} {p : Pt} (h : ¬ p.op = 5) : headL l d t p = upto (onceV (vrP l (d + 1) t p)) (vrP l (d + 1) t p).length := if_neg h
theorem vars_new (l : List Da) (d : Nat) (A D : Option Addr) (cap ep e : Nat) (t : Ty) (p : Pt) (w : World) (hr : RDas w w.heap.size A l) (ht : TyOK l t) (hv : RPs e w w.heap.size D p.kids) (hs : shP l d t p = true) (hn : wP p ≤ 1000) :
    Calls Try.prog 65 #[.slice none 0 0, .slice A l.length cap, .agg #[.int .i64 t.data, .int .i64 t.index], .agg #[.int .i64 p.op, .int .i64 p.ctor, .int .i64 p.n, .int .i64 p.m, .int .i64 p.var, .slice D p.kids.length ep]] w fun e w' => ∃ A' c, e = .returned (.slice A' (vrP l d t p).length c) ∧ RVts w' w'.heap.size A' (vrP l d t p) ∧ Below w.heap.size w w' := by
  refine (varC_any l d A D cap ep e t p [] (.slice none 0 0) w.heap.size w hr ht hv hs (OVt.nil _ _) (Nat.le_refl _) (by simp; omega)).mono ?_
  rintro e w' ⟨v', rfl, ho, hg, hf⟩
  rw [List.nil_append] at ho
  obtain ⟨A', c, rfl, hrv⟩ := ho.form (by have := vrP_len l d t p hs; unfold maxLen; omega)
  exact ⟨A', c, rfl, hrv, ⟨hg.os, hg.tape, hg.output, hg.size, fun i hi => hg.block i hi (fun e => by simp [Value.ownBlock] at e)⟩⟩
def LinC (l : List Da) (d : Nat) : Prop := ∀ (A D : Option Addr) (cap ep e : Nat) (t : Ty) (p : Pt) (w : World), RDas w w.heap.size A l → TyOK l t → RPs e w w.heap.size D p.kids → shP l d t p = true → wP p ≤ 1000 →
  Calls Try.prog 108 #[.slice A l.length cap, .agg #[.int .i64 t.data, .int .i64 t.index], .agg #[.int .i64 p.op, .int .i64 p.ctor, .int .i64 p.n, .int .i64 p.m, .int .i64 p.var, .slice D p.kids.length ep]] w fun e w' => e = .returned (.bool (linP l d t p)) ∧ Below w.heap.size w w'
theorem LinC.known {l : List Da} {d : Nat} (h : LinC l d) (A D : Option Addr) (cap ep e : Nat) (t : Ty) (p : Pt) (b : Bool) (w : World) (hf : linP l d t p = b) (hr : RDas w w.heap.size A l) (ht : TyOK l t) (hv : RPs e w w.heap.size D p.kids) (hs : shP l d t p = true) (hn : wP p ≤ 1000) :
    Calls Try.prog 108 #[.slice A l.length cap, .agg #[.int .i64 t.data, .int .i64 t.index], .agg #[.int .i64 p.op, .int .i64 p.ctor, .int .i64 p.n, .int .i64 p.m, .int .i64 p.var, .slice D p.kids.length ep]] w fun e w' => e = .returned (.bool b) ∧ Below w.heap.size w w' := by
  rw [← hf]; exact h A D cap ep e t p w hr ht hv hs hn
set_option maxHeartbeats 4000000 in
theorem linC_step (l : List Da) (d : Nat) (ih : LinC l d) : LinC l (d + 1) := by
  intro A D cap ep e t p w hr ht hv hs hn
  obtain ⟨hown, hkl, hsh⟩ := shP_parts hs
  have hl := hv.1
  unfold maxLen at hl
  have HR := Lib.hid hr
  have HT := Lib.hid ht
  have HV := Lib.hid hv
  have HSH := Lib.hid hs
  have HM : Hid (p.op = 4 → p.ctor ∈ ctR l t) := hown.mem
  have IH := Lib.hid ih
  have hm3 := tysP_len l t p
  have HOK := Lib.hid (tysP_ok ht hown)
  have HKL := Lib.hid hkl
  have HS := Lib.hid hsh
  have HN := Lib.hid hn
  have HF := Lib.hid (linP_go l d t p)
  have HK := Lib.hid (fun (i : Nat) (h : i < (tysP l t p).length) (h' : i < p.kids.length) => kidL_at (l := l) (d := d) h h')
  have H52 : Hid (p.op = 5 → (tysP l t p).length = 2) := fun h => by rw [tysP_other (by omega), List.length_replicate, h]; decide
  have HSO : Hid (∀ (i : Nat) (h : i < (tysP l t p).length) (h' : i < p.kids.length), p.op = 5 → shP l d t p.kids[i] = true) := fun i h h' h5 => by
    have h6 := hsh i h h'
    simp only [tysP_other (l := l) (t := t) (p := p) (by omega), List.getElem_replicate] at h6
    exact h6
  have HAG : Hid (∀ w, RDas w w.heap.size A l → _) := fun w h => tys_any A D l cap ep t p w h HT.out HM.out
  clear hr ht hv hs ih hown hkl hsh hn
  generalize hw0 : (w.alloc (.cells #[.int .i64 t.data, .int .i64 t.index] 25)).alloc (.cells #[.int .i64 p.op, .int .i64 p.ctor, .int .i64 p.n, .int .i64 p.m, .int .i64 p.var, .slice D p.kids.length ep] 50) = w0
  have hb0 := below_box2 hw0
  have HXT : Hid (Bx w0 w.heap.size t) := by rw [← hw0]; exact ⟨by simp [go_sem], by simp [go_sem]⟩
  have HXP : Hid (PBx w0 (w.heap.size + 1) p (.slice D p.kids.length ep)) := by rw [← hw0]; exact ⟨by simp [go_sem], by simp [go_sem], by simp [go_sem], by simp [go_sem], by simp [go_sem], by simp [go_sem]⟩
  have HW := Lib.hid hw0
  clear hw0
  generalize hats : tysP l t p = ats at HF hm3 HOK HK HAG HKL HS H52 HSO
  clear hats
  go_enter Try.func108, Try.ntmps108
  go_wp2_with fail
  rw [HW.out]
  refine (HAG.out _ (HR.out.at_ hb0)).mono ?_
  rintro e3 w3 ⟨v3, rfl, ho3, hb3'⟩
  obtain ⟨A3, c3, rfl, hr3⟩ := ho3.form (by unfold maxLen; omega)
  have HR3 := Lib.hid hr3
  have HXT3 := Lib.hid (HXT.out.at_ hb3')
  have HXP3 := Lib.hid (HXP.out.at_ hb3')
  have hb3 := below_aft hb0 hb3' hb0.size
  clear hr3 ho3 hb3'
  go_wp2_with fail
  go_loopw [8] (fun i wr => ∃ k : Nat, k ≤ ats.length ∧ i = .int .i64 k ∧ Hid (upto (kidL l d ats p.kids) k = true) ∧ Below w3.heap.size w3 wr) (fun i _ => ats.length - (intOf i).toNat)
  case atStart => exact ⟨0, by omega, rfl, rfl, Below.refl _ _⟩
  case round =>
    obtain ⟨k, hk, rfl, HU, hb⟩ := hrel
    have hbw : Below w.heap.size w wr := below_aft hb3 hb hb3.size
    have HXTr := Lib.hid (HXT3.out.at_ hb)
    have HXPr := Lib.hid (HXP3.out.at_ hb)
    by_cases hlt : k < ats.length
    · have hkl : k < p.kids.length := by rw [HKL.out]; exact hlt
      obtain ⟨f0, f1, f2, f3, f4, f5⟩ := HXPr.out
      obtain ⟨g, o, rfl, hgB, t0, t1⟩ := (HR3.out.below hb (Nat.le_refl _)).2 k hlt
      obtain ⟨b, off, rfl, hbB, hvk⟩ := (HV.out.below hbw (Nat.le_refl _)).2 k hkl
      obtain ⟨e', he', D', cp, c0, c1, c2, c3', c4, c5, hm⟩ := hvk.parts
      have d0 := cell_regrown t0
      have d1 := cell_regrown t1
      have d2 := cell_regrown c0
      have d3 := cell_regrown c1
      have d4 := cell_regrown c2
      have d5 := cell_regrown c3'
      have d6 := cell_regrown c4
      have d7 := cell_regrown c5
      have d8 := cell_regrown f5
      have Hm : Hid (RPs e' wr wr.heap.size D' p.kids[k].kids) := hm.keep (fun _ _ => rfl) hbw.size
      have Hrr : Hid (RDas wr wr.heap.size A l) := HR.out.at_ hbw
      have HTk := Lib.hid (HOK.out _ (List.getElem_mem hlt))
      have HSk := Lib.hid (HS.out k hlt hkl)
      have HKk := Lib.hid (HK.out k hlt hkl)
      have HNk : Hid (wP p.kids[k] ≤ 1000) := by have := wP_kid p k hkl; have := HN.out; unfold Hid; omega
      have hi : (k : Int) < (ats.length : Int) := by omega
      have hi2 : (k : Int) < (p.kids.length : Int) := by omega
      clear c0 c1 c2 c3' c4 c5 t0 t1 f0 f1 f2 f3 f4 f5 hm hvk he'
      by_cases hf : linP l d ats[k] p.kids[k] = true
      · have HFk := Lib.hid hf
        have HUk : Hid (upto (kidL l d ats p.kids) (k + 1) = true) := upto_t HU.out (by rw [HKk.out]; exact hf)
        clear hf
        go_wp2_with fail
        refine wp_region_quiet_below (by kernel_rfl) (by kernel_rfl) ?_
        repeat (quiet_step (exact Calls.regrown_of (IH.out.known _ _ _ _ _ _ _ _ _ HFk.out (Hrr.out.at_ (below_regrown wr _ _)) HTk.out (Hm.out.at_ (below_regrown wr _ _)) HSk.out HNk.out)))
        refine wpQuiet_nil ?_
        intro _ hw'
        obtain ⟨⟨dq, osq⟩, hw''⟩ := hw'
        subst hw''
        have hb2 := hb.trans ((below_regrown wr dq osq).mono hb.size)
        clear d0 d1 d2 d3 d4 d5 d6 d7 d8
        go_wp2_with fail
        go_roundw
        case rel => exact ⟨k + 1, by omega, by go_num, HUk, hb2⟩
        case measure => simp [intOf]; omega
      · have hf' : linP l d ats[k] p.kids[k] = false := by simpa using hf
        have HFk := Lib.hid hf'
        have HUk := Lib.hid (upto_f (f := kidL l d ats p.kids) hlt (by rw [HKk.out]; exact hf'))
        clear hf hf'
        go_wp2_with fail
        refine wp_region_quiet_below (by kernel_rfl) (by kernel_rfl) ?_
        repeat (quiet_step (exact Calls.regrown_of (IH.out.known _ _ _ _ _ _ _ _ _ HFk.out (Hrr.out.at_ (below_regrown wr _ _)) HTk.out (Hm.out.at_ (below_regrown wr _ _)) HSk.out HNk.out)))
        refine wpQuiet_nil ?_
        intro _ hw'
        obtain ⟨⟨dq, osq⟩, hw''⟩ := hw'
        subst hw''
        have hb2 := hbw.trans ((below_regrown wr dq osq).mono hbw.size)
        clear d0 d1 d2 d3 d4 d5 d6 d7 d8
        go_wp2_with fail
        go_ret
        exact ⟨ret_bool (by rw [HF.out, HUk.out]; rfl), hb2⟩
    · have he : k = ats.length := by omega
      have HE : Hid (linP l (d + 1) t p = headL l d t p) := by unfold Hid; rw [HF.out, ← he, HU.out]; rfl
      clear he
      obtain ⟨x0, x1⟩ := HXTr.out
      obtain ⟨y0, y1, y2, y3, y4, y5⟩ := HXPr.out
      by_cases h5 : p.op = 5
      · have q5 := ieq_t h5
        have h2 : p.kids.length = 2 := by rw [HKL.out]; exact H52.out h5
        have h0k : 0 < p.kids.length := by omega
        have h1k : 1 < p.kids.length := by omega
        have HHD := Lib.hid (headL_or (l := l) (d := d) (t := t) h5 h0k h1k)
        obtain ⟨b, off, rfl, hbB, hvk⟩ := (HV.out.below hbw (Nat.le_refl _)).2 0 h0k
        obtain ⟨b2, off2, e2, hbB2, hvk2⟩ := (HV.out.below hbw (Nat.le_refl _)).2 1 h1k
        cases e2
        rw [show off + 0 * 6 = off by omega] at hvk
        rw [show off + 1 * 6 = off + 6 by omega] at hvk2
        obtain ⟨e4, he4, D4, cp4, c0, c1, c2, c3', c4, c5, hm4⟩ := hvk.parts
        obtain ⟨e5, he5, D5, cp5, d0, d1, d2, d3, d4, d5, hm5⟩ := hvk2.parts
        have a5 := H52.out
        have h0a : 0 < ats.length := by rw [← HKL.out]; exact h0k
        have h1a : 1 < ats.length := by rw [← HKL.out]; exact h1k
        have HT0 : Hid (shP l d t p.kids[0] = true ∧ shP l d t p.kids[1] = true) := ⟨(HSO.out 0 h0a h0k h5), (HSO.out 1 h1a h1k h5)⟩
        clear h5
        have HN01 : Hid (wP p.kids[0] ≤ 1000 ∧ wP p.kids[1] ≤ 1000) := by have a := wP_kid p 0 h0k; have b := wP_kid p 1 h1k; have := HN.out; exact ⟨by omega, by omega⟩
        have HM4 : Hid (RPs e4 wr wr.heap.size D4 p.kids[0].kids) := hm4.keep (fun _ _ => rfl) hbw.size
        have HM5 : Hid (RPs e5 wr wr.heap.size D5 p.kids[1].kids) := hm5.keep (fun _ _ => rfl) hbw.size
        have HRR : Hid (RDas wr wr.heap.size A l) := HR.out.at_ hbw
        have HKS : Hid (∀ w', Below wr.heap.size wr w' → w'.cell? ⟨w.heap.size, 0, none⟩ = some (.int .i64 t.data) ∧ w'.cell? ⟨w.heap.size, 1, none⟩ = some (.int .i64 t.index) ∧ w'.cell? ⟨w.heap.size + 1, 5, none⟩ = some (.slice (some ⟨b, off, none⟩) p.kids.length ep) ∧ w'.cell? ⟨b, off, none⟩ = some (.int .i64 p.kids[0].op) ∧ w'.cell? ⟨b, off + 1, none⟩ = some (.int .i64 p.kids[0].ctor) ∧ w'.cell? ⟨b, off + 2, none⟩ = some (.int .i64 p.kids[0].n) ∧ w'.cell? ⟨b, off + 3, none⟩ = some (.int .i64 p.kids[0].m) ∧ w'.cell? ⟨b, off + 4, none⟩ = some (.int .i64 p.kids[0].var) ∧ w'.cell? ⟨b, off + 5, none⟩ = some (.slice D4 p.kids[0].kids.length cp4) ∧ w'.cell? ⟨b, off + 6, none⟩ = some (.int .i64 p.kids[1].op) ∧ w'.cell? ⟨b, off + 7, none⟩ = some (.int .i64 p.kids[1].ctor) ∧ w'.cell? ⟨b, off + 8, none⟩ = some (.int .i64 p.kids[1].n) ∧ w'.cell? ⟨b, off + 9, none⟩ = some (.int .i64 p.kids[1].m) ∧ w'.cell? ⟨b, off + 10, none⟩ = some (.int .i64 p.kids[1].var) ∧ w'.cell? ⟨b, off + 11, none⟩ = some (.slice D5 p.kids[1].kids.length cp5)) := fun w' hW => ⟨(hW.cell (p := ⟨w.heap.size, 0, none⟩) (Go.block_lt_of_cell x0)).trans x0, (hW.cell (p := ⟨w.heap.size, 1, none⟩) (Go.block_lt_of_cell x1)).trans x1, (hW.cell (p := ⟨w.heap.size + 1, 5, none⟩) (Go.block_lt_of_cell y5)).trans y5, (hW.cell (p := ⟨b, off, none⟩) (Go.block_lt_of_cell c0)).trans c0, (hW.cell (p := ⟨b, off + 1, none⟩) (Go.block_lt_of_cell c1)).trans c1, (hW.cell (p := ⟨b, off + 2, none⟩) (Go.block_lt_of_cell c2)).trans c2, (hW.cell (p := ⟨b, off + 3, none⟩) (Go.block_lt_of_cell c3')).trans c3', (hW.cell (p := ⟨b, off + 4, none⟩) (Go.block_lt_of_cell c4)).trans c4, (hW.cell (p := ⟨b, off + 5, none⟩) (Go.block_lt_of_cell c5)).trans c5, (hW.cell (p := ⟨b, off + 6, none⟩) (Go.block_lt_of_cell d0)).trans d0, (hW.cell (p := ⟨b, off + 7, none⟩) (Go.block_lt_of_cell d1)).trans d1, (hW.cell (p := ⟨b, off + 8, none⟩) (Go.block_lt_of_cell d2)).trans d2, (hW.cell (p := ⟨b, off + 9, none⟩) (Go.block_lt_of_cell d3)).trans d3, (hW.cell (p := ⟨b, off + 10, none⟩) (Go.block_lt_of_cell d4)).trans d4, (hW.cell (p := ⟨b, off + 11, none⟩) (Go.block_lt_of_cell d5)).trans d5⟩
        have HBD : Hid (Below wr.heap.size wr wr.drew) := (Below.refl _ wr).drew
        have SQ := HKS.out wr.drew HBD.out
        have HV0 : Hid (∀ W, Below wr.heap.size wr W → _) := fun W h => vars_new l d A D4 cap cp4 e4 t p.kids[0] W (HRR.out.at_ h) HT.out (HM4.out.at_ h) HT0.out.1 HN01.out.1
        have HV1 : Hid (∀ W, Below wr.heap.size wr W → _) := fun W h => vars_new l d A D5 cap cp5 e5 t p.kids[1] W (HRR.out.at_ h) HT.out (HM5.out.at_ h) HT0.out.2 HN01.out.2
        clear c0 c1 c2 c3' c4 c5 d0 d1 d2 d3 d4 d5 hm4 hm5 hvk hvk2 he4 he5 x0 x1 y1 y2 y3 y4 y5
        go_wp2_with fail
        go_region_held3 (fun w' => w'.cell? ⟨w.heap.size, 0, none⟩ = some (.int .i64 t.data) ∧ w'.cell? ⟨w.heap.size, 1, none⟩ = some (.int .i64 t.index) ∧ w'.cell? ⟨w.heap.size + 1, 5, none⟩ = some (.slice (some ⟨b, off, none⟩) p.kids.length ep) ∧ w'.cell? ⟨b, off, none⟩ = some (.int .i64 p.kids[0].op) ∧ w'.cell? ⟨b, off + 1, none⟩ = some (.int .i64 p.kids[0].ctor) ∧ w'.cell? ⟨b, off + 2, none⟩ = some (.int .i64 p.kids[0].n) ∧ w'.cell? ⟨b, off + 3, none⟩ = some (.int .i64 p.kids[0].m) ∧ w'.cell? ⟨b, off + 4, none⟩ = some (.int .i64 p.kids[0].var) ∧ w'.cell? ⟨b, off + 5, none⟩ = some (.slice D4 p.kids[0].kids.length cp4) ∧ w'.cell? ⟨b, off + 6, none⟩ = some (.int .i64 p.kids[1].op) ∧ w'.cell? ⟨b, off + 7, none⟩ = some (.int .i64 p.kids[1].ctor) ∧ w'.cell? ⟨b, off + 8, none⟩ = some (.int .i64 p.kids[1].n) ∧ w'.cell? ⟨b, off + 9, none⟩ = some (.int .i64 p.kids[1].m) ∧ w'.cell? ⟨b, off + 10, none⟩ = some (.int .i64 p.kids[1].var) ∧ w'.cell? ⟨b, off + 11, none⟩ = some (.slice D5 p.kids[1].kids.length cp5)) (with_reducible exact SQ) (first | (go_at_call 65; (with_reducible refine (HV0.out wr.drew HBD.out).mono ?_); rintro e4 w4 ⟨A4, q4, rfl, hr4, hb4'⟩; have hb4 : Below wr.heap.size wr w4 := ⟨hb4'.os, hb4'.tape, hb4'.output, hb4'.size, hb4'.block⟩; have HR4 := Lib.hid hr4; have SQ := HKS.out w4 hb4; clear hr4 hb4') | (go_at_call 65; (with_reducible refine (HV1.out wr.drew HBD.out).mono ?_); rintro e4 w6 ⟨A5, q5, rfl, hr4, hb4'⟩; have hb6 : Below wr.heap.size wr w6 := ⟨hb4'.os, hb4'.tape, hb4'.output, hb4'.size, hb4'.block⟩; have HR5 := Lib.hid hr4; have SQ := HKS.out w6 hb6; clear hr4 hb4') | (go_at_call 65; (with_reducible refine (HV1.out w4 hb4).mono ?_); rintro e4 w5 ⟨A5, q5, rfl, hr4, hb4'⟩; have hb5 : Below wr.heap.size wr w5 := hb4.trans (hb4'.mono hb4.size); have HR5 := Lib.hid hr4; have HR4 := Lib.hid (HR4.out.at_ hb4'); have SQ := HKS.out w5 hb5; clear hr4 hb4') | (go_at_call 65; (with_reducible refine (HV0.out w6 hb6).mono ?_); rintro e4 w5 ⟨A4, q4, rfl, hr4, hb4'⟩; have hb5 : Below wr.heap.size wr w5 := hb6.trans (hb4'.mono hb6.size); have HR4 := Lib.hid hr4; have HR5 := Lib.hid (HR5.out.at_ hb4'); have SQ := HKS.out w5 hb5; clear hr4 hb4') | (go_at_call 133; (with_reducible refine (alike_any A4 A5 _ _ q4 q5 w5 HR4.out HR5.out).mono ?_); rintro e7 w7 ⟨rfl, hb7'⟩; have hb7 := hb5.trans (hb7'.mono hb5.size); have SQ := HKS.out w7 hb7; clear hb7'))
        all_goals
          go_wp2_with fail
          go_ret
          exact ⟨ret_bool (by rw [HE.out, HHD.out]), below_aft hbw hb7 hbw.size⟩
      · have q5 := ieq_f h5
        have HHD := Lib.hid (headL_no (l := l) (d := d) (t := t) h5)
        have HVN := Lib.hid (vars_new l (d + 1) A D cap ep e t p wr (HR.out.at_ hbw) HT.out (HV.out.at_ hbw) HSH.out HN.out)
        have HLN := Lib.hid (vrP_len l (d + 1) t p HSH.out)
        clear h5
        generalize vrP l (d + 1) t p = L at HHD HVN HLN
        go_wp2_with fail
        refine HVN.out.mono ?_
        rintro e4 w4 ⟨A4, c4, rfl, hr4, hb4⟩
        have HR4 := Lib.hid hr4
        have hl4 := hr4.1
        unfold maxLen at hl4
        have hb4w := below_aft hbw hb4 hbw.size
        clear hr4
        go_wp2_with fail
        clear x0 x1 y0 y1 y2 y3 y4 y5
        go_loopw [10] (fun i wq => ∃ k : Nat, k ≤ L.length ∧ i = .int .i64 k ∧ Hid (upto (onceV L) k = true) ∧ w4 = wq) (fun i _ => L.length - (intOf i).toNat)
        case atStart => exact ⟨0, by omega, rfl, rfl, rfl⟩
        case round =>
          obtain ⟨k2, hk2, rfl, HU2, rfl⟩ := hrel
          by_cases hlt2 : k2 < L.length
          · have hi2 : (k2 : Int) < (L.length : Int) := by omega
            have HFI := Lib.hid (findVt_any A4 L c4 L[k2].var w4 HR4.out)
            have HON := Lib.hid (onceV_at hlt2)
            obtain ⟨b, off, rfl, hbB, g0, _⟩ := HR4.out.2 k2 hlt2
            by_cases hq : findV L L[k2].var = k2
            · have qn : (findV L L[k2].var != (k2 : Int)) = false := by simp [hq]
              have HU3 : Hid (upto (onceV L) (k2 + 1) = true) := upto_t HU2.out (by rw [HON.out]; exact decide_eq_true hq)
              clear hq
              go_wp2_with (go_at_call 134; refine HFI.out.mono ?_; rintro e5 w5 ⟨rfl, rfl⟩)
              go_roundw
              case rel => exact ⟨k2 + 1, by omega, by go_num, HU3.out, trivial⟩
              case measure => simp [intOf]; omega
            · have qn : (findV L L[k2].var != (k2 : Int)) = true := by simp [hq]
              have HU3 := Lib.hid (upto_f (f := onceV L) hlt2 (by rw [HON.out]; exact decide_eq_false hq))
              clear hq
              go_wp2_with (go_at_call 134; refine HFI.out.mono ?_; rintro e5 w5 ⟨rfl, rfl⟩)
              go_ret
              exact ⟨ret_bool (by rw [HE.out, HHD.out, HU3.out]), hb4w⟩
          · have he2 : k2 = L.length := by omega
            have HU3 : Hid (upto (onceV L) L.length = true) := by unfold Hid; rw [← he2]; exact HU2.out
            clear he2
            go_wp2_with fail
            go_ret
            exact ⟨ret_bool (by rw [HE.out, HHD.out, HU3.out]), hb4w⟩
theorem linC_any (l : List Da) : ∀ d, LinC l d
  | 0 => fun A D cap ep e t p w _ _ _ hs _ => by rw [shP_zero] at hs; cases hs
  | d + 1 => linC_step l d (linC_any l d)
end Go.Proofs.Ytbeejeialjfdnaa
/-
  PatternValid of the document. No statement is proved here.
-/
namespace Go.Proofs.Ytbeejeialjfdnaa
open Go.RowKit Go.Sort Go.Deep
set_option maxRecDepth 100000
set_option linter.unusedVariables false
noncomputable def isP (l : List Da) (t : Ty) (p : Pt) : Bool := shP l 10 t p && (decide (1 + wP p ≤ 60) && linP l 10 t p)
theorem isP_sh {l : List Da} {t : Ty} {p : Pt} (h : shP l 10 t p = false) : isP l t p = false := by unfold isP; rw [h]; rfl
theorem isP_big {l : List Da} {t : Ty} {p : Pt} (h : ¬ 1 + wP p ≤ 60) : isP l t p = false := by unfold isP; rw [decide_eq_false h]; simp
theorem isP_go {l : List Da} {t : Ty} {p : Pt} (h : shP l 10 t p = true) (h' : 1 + wP p ≤ 60) : isP l t p = linP l 10 t p := by unfold isP; rw [h, decide_eq_true h']; rfl
set_option maxHeartbeats 1600000 in
theorem isP_any (A D : Option Addr) (l : List Da) (cap ep e : Nat) (t : Ty) (p : Pt) (w : World) (hr : RDas w w.heap.size A l) (ht : TyOK l t) (hv : RPs e w w.heap.size D p.kids) (hn : wP p ≤ 1048576) :
    Calls Try.prog 70 #[.slice A l.length cap, .agg #[.int .i64 t.data, .int .i64 t.index], .agg #[.int .i64 p.op, .int .i64 p.ctor, .int .i64 p.n, .int .i64 p.m, .int .i64 p.var, .slice D p.kids.length ep]] w fun e w' => e = .returned (.bool (isP l t p)) ∧ Below w.heap.size w w' := by
  have HR := Lib.hid hr
  have HT := Lib.hid ht
  have HV := Lib.hid hv
  have IS : Hid (ShC l 10 10) := shS_any l 10 (by omega)
  clear hr ht hv
  generalize hw0 : (w.alloc (.cells #[.int .i64 t.data, .int .i64 t.index] 25)).alloc (.cells #[.int .i64 p.op, .int .i64 p.ctor, .int .i64 p.n, .int .i64 p.m, .int .i64 p.var, .slice D p.kids.length ep] 50) = w0
  have hb0 := below_box2 hw0
  have HXT : Hid (Bx w0 w.heap.size t) := by rw [← hw0]; exact ⟨by simp [go_sem], by simp [go_sem]⟩
  have HXP : Hid (PBx w0 (w.heap.size + 1) p (.slice D p.kids.length ep)) := by rw [← hw0]; exact ⟨by simp [go_sem], by simp [go_sem], by simp [go_sem], by simp [go_sem], by simp [go_sem], by simp [go_sem]⟩
  have HW := Lib.hid hw0
  clear hw0
  obtain ⟨x0, x1⟩ := HXT.out
  obtain ⟨y0, y1, y2, y3, y4, y5⟩ := HXP.out
  by_cases hf : shP l 10 t p = true
  · have HF := Lib.hid hf
    clear hf
    by_cases h60 : 1 + wP p ≤ 60
    · have HI := Lib.hid (isP_go HF.out h60)
      go_enter Try.func70, Try.ntmps70
      go_wp2_with (first | (go_at_call 106; rw [HW.out]; refine (IS.out.known A D cap ep e t p true _ HF.out (HR.out.at_ hb0) HT.out (HV.out.at_ hb0)).mono ?_; rintro e1 w1 ⟨rfl, hb1⟩; obtain ⟨u0, u1⟩ := HXT.out.at_ hb1; obtain ⟨z0, z1, z2, z3, z4, z5⟩ := HXP.out.at_ hb1; have hb1w := below_aft hb0 hb1 hb0.size) | (go_at_call 107; refine (cntPS_any e D ep p 60 _ (HV.out.at_ hb1w) hn (by omega) (by omega)).mono ?_; rintro e2 w2 ⟨r, rfl, hr, hb2⟩; have HC := Lib.hid hr; obtain ⟨z0, z1⟩ := HXT.out.at_ (hb1.trans (hb2.mono hb1.size)); obtain ⟨y0', y1', y2', y3', y4', y5'⟩ := HXP.out.at_ (hb1.trans (hb2.mono hb1.size)); have hb2w := below_aft hb1w hb2 hb1w.size; have hq : decide (r ≤ 60) = true := decide_eq_true (by have := HC.out.1 (by omega); omega); clear hr) | (go_at_call 108; refine (linC_any l 10 A D cap ep e t p _ (HR.out.at_ hb2w) HT.out (HV.out.at_ hb2w) HF.out (by omega)).mono ?_; rintro e3 w3 ⟨rfl, hb3⟩))
      all_goals go_ret
      all_goals exact ⟨ret_bool HI.out.symm, below_aft hb2w hb3 hb2w.size⟩
    · have HI := Lib.hid (isP_big (l := l) (t := t) h60)
      go_enter Try.func70, Try.ntmps70
      go_wp2_with (first | (go_at_call 106; rw [HW.out]; refine (IS.out.known A D cap ep e t p true _ HF.out (HR.out.at_ hb0) HT.out (HV.out.at_ hb0)).mono ?_; rintro e1 w1 ⟨rfl, hb1⟩; obtain ⟨u0, u1⟩ := HXT.out.at_ hb1; obtain ⟨z0, z1, z2, z3, z4, z5⟩ := HXP.out.at_ hb1; have hb1w := below_aft hb0 hb1 hb0.size) | (go_at_call 107; refine (cntPS_any e D ep p 60 _ (HV.out.at_ hb1w) hn (by omega) (by omega)).mono ?_; rintro e2 w2 ⟨r, rfl, hr, hb2⟩; have HC := Lib.hid hr; obtain ⟨z0, z1⟩ := HXT.out.at_ (hb1.trans (hb2.mono hb1.size)); obtain ⟨y0', y1', y2', y3', y4', y5'⟩ := HXP.out.at_ (hb1.trans (hb2.mono hb1.size)); have hb2w := below_aft hb1w hb2 hb1w.size; have hq : decide (r ≤ 60) = false := decide_eq_false (by have := HC.out.2.1 (by omega); omega); clear hr))
      all_goals go_ret
      all_goals exact ⟨ret_bool HI.out.symm, hb2w⟩
  · have hf' : shP l 10 t p = false := by simpa using hf
    have HF := Lib.hid hf'
    have HI := Lib.hid (isP_sh hf')
    clear hf hf'
    go_enter Try.func70, Try.ntmps70
    go_wp2_with (go_at_call 106; rw [HW.out]; refine (IS.out.known A D cap ep e t p false _ HF.out (HR.out.at_ hb0) HT.out (HV.out.at_ hb0)).mono ?_; rintro e1 w1 ⟨rfl, hb1⟩; obtain ⟨u0, u1⟩ := HXT.out.at_ hb1; obtain ⟨z0, z1, z2, z3, z4, z5⟩ := HXP.out.at_ hb1; have hb1w := below_aft hb0 hb1 hb0.size)
    go_ret
    exact ⟨ret_bool HI.out.symm, hb1w⟩
end Go.Proofs.Ytbeejeialjfdnaa
/-
  A valid pattern is drawn: the document's function. No statement is proved here.
-/
namespace Go.Proofs.Ytbeejeialjfdnaa
open Go.RowKit Go.Sort Go.Deep
set_option maxRecDepth 100000
set_option linter.unusedVariables false
theorem ZbP.fr' {w w' : World} {g rb : Nat} (h : ZbP w g) (hf : Fr (fun b => b = rb) w w') (hp : g ≠ rb) : ZbP w' g := hf.block h hp
/-- A pattern that was drawn, in block g. -/
def SmP (wx : World) (B rb N g : Nat) (v : Pt) (A : Option Addr) (c : Nat) (wz : World) : Prop := wx.heap.size ≤ g ∧ wz.heap[g]? = some (.cells #[.int .i64 v.op, .int .i64 v.ctor, .int .i64 v.n, .int .i64 v.m, .int .i64 v.var, .slice A v.kids.length c] 50 (0, 0)) ∧ wP v ≤ 400 ∧ OPs 8 wz (fun b => wx.heap.size ≤ b ∧ b < wz.heap.size ∧ b ≠ g) A v.kids ∧ RRd wz B rb (N + 600) ∧ Fr (fun b => b = rb) wx wz
theorem SmP.new {wx w5 : World} {B rb N M : Nat} {v : Pt} {A : Option Addr} {c : Nat} {P : Nat → Prop} (hf : Fr (fun b => b = rb) wx w5) (ho : OPs 8 w5 P A v.kids) (hP : ∀ b, P b → wx.heap.size ≤ b ∧ b < w5.heap.size) (hw : wP v ≤ 400) (hR : RRd w5 B rb M) (hM : M ≤ N + 600) :
    SmP wx B rb N w5.heap.size v A c (w5.alloc (.cells #[.int .i64 v.op, .int .i64 v.ctor, .int .i64 v.n, .int .i64 v.m, .int .i64 v.var, .slice A v.kids.length c] 50)) :=
  ⟨hf.size, heap_alloc_new _ _, hw, (ho.fr _ (Fr.below (P := fun _ => False) ((Below.refl _ _).alloc (Nat.le_refl _) _)) (fun _ _ h => h)).wide _ (fun b hb => ⟨(hP b hb).1, by have := (hP b hb).2; simp; omega, by have := (hP b hb).2; omega⟩), (hR.alloc _).more hM, hf.trans (Fr.below ((Below.refl _ _).alloc (Nat.le_refl _) _))⟩
theorem SmP.set {wx w5 : World} {B rb N M g : Nat} {v : Pt} {A : Option Addr} {c : Nat} {P : Nat → Prop} (hz : ZbP w5 g) (hg : wx.heap.size ≤ g) (hgr : g ≠ rb) (hgB : B ≤ g) (hf : Fr (fun b => b = rb) wx w5) (ho : OPs 8 w5 P A v.kids) (hP : ∀ b, P b → wx.heap.size ≤ b ∧ b < w5.heap.size ∧ b ≠ g) (hw : wP v ≤ 400) (hR : RRd w5 B rb M) (hM : M ≤ N + 600) :
    SmP wx B rb N g v A c ((((((w5.setCell ⟨g, 0, none⟩ (.int .i64 v.op)).setCell ⟨g, 1, none⟩ (.int .i64 v.ctor)).setCell ⟨g, 2, none⟩ (.int .i64 v.n)).setCell ⟨g, 3, none⟩ (.int .i64 v.m)).setCell ⟨g, 4, none⟩ (.int .i64 v.var)).setCell ⟨g, 5, none⟩ (.slice A v.kids.length c)) :=
  ⟨hg, ZP.put hz _ _ _ _ _ _, hw, (ho.fr _ (Fr.six _ _ _ _ _ _ _ _) (fun b hb e => (hP b hb).2.2 e)).wide _ (fun b hb => ⟨(hP b hb).1, by have := (hP b hb).2.1; simpa [World.setCell] using this, (hP b hb).2.2⟩), (hR.fr (Fr.six _ _ _ _ _ _ _ _) (fun b hb => by have hb' : b = g := hb; omega)).more hM, hf.put6 hg _ _ _ _ _ _⟩
def SomeQ (l : List Da) (t : Ty) (B rb N : Nat) (w : World) (e : Ending) (w' : World) : Prop := ∃ (v : Pt) (A : Option Addr) (c : Nat), e = .returned (.agg #[.int .i64 v.op, .int .i64 v.ctor, .int .i64 v.n, .int .i64 v.m, .int .i64 v.var, .slice A v.kids.length c]) ∧ (isP l t v = true ∨ v = .mk 1 0 0 0 0 []) ∧ wP v ≤ 400 ∧ OPs 8 w' (Nw w w') A v.kids ∧ RRd w' B rb (N + 600) ∧ Fr (fun b => b = rb) w w'
set_option maxHeartbeats 16000000 in
theorem sm_any (l : List Da) (hw : WorldOK l) (A : Option Addr) (cap : Nat) (t : Ty) (lo B rb N : Nat) (w : World) (hrob : RobW w lo A l) (hlo : rb < lo) (ht : TyOK l t) (hR : RRd w B rb N) (hN : N ≤ 80000) :
    Calls Try.prog 71 #[.pointer (some ⟨rb, 0, none⟩), .slice A l.length cap, .agg #[.int .i64 t.data, .int .i64 t.index]] w (SomeQ l t B rb N w) := by
  have HN := Lib.hid hN
  have HW := Lib.hid hw
  have HROB := Lib.hid hrob
  have HLO := Lib.hid hlo
  have HK := Lib.hid ht
  have hrl := hR.lt
  have hrg := hR.ge
  generalize hwx : (w.alloc (.cells #[.int .i64 t.data, .int .i64 t.index] 25)).alloc (.cells #[.int .i64 0, .int .i64 0, .int .i64 0, .int .i64 0, .int .i64 0, .slice none 0 0] 50) = wx
  have hbx := below_box2 hwx
  have HXT : Hid (Bx wx w.heap.size t) := by rw [← hwx]; exact ⟨by simp [go_sem], by simp [go_sem]⟩
  have HXR : Hid (wx.heap[w.heap.size + 1]? = some (.cells #[.int .i64 0, .int .i64 0, .int .i64 0, .int .i64 0, .int .i64 0, .slice none 0 0] 50 (0, 0))) := by
    have h := heap_alloc_new (w.alloc (.cells #[.int .i64 t.data, .int .i64 t.index] 25)) (.cells #[.int .i64 0, .int .i64 0, .int .i64 0, .int .i64 0, .int .i64 0, .slice none 0 0] 50)
    simp only [World.size_alloc] at h
    unfold Hid; rw [← hwx]; exact h
  have HRX := Lib.hid (hR.below hbx)
  have HFW : Hid (Fr (fun b => b = rb) w wx) := Fr.below hbx
  have hzx := heap_lt HXR.out
  have HKS : Hid (∀ w', Fr (fun b => b = rb) wx w' → w'.cell? ⟨w.heap.size, 0, none⟩ = some (.int .i64 t.data) ∧ w'.cell? ⟨w.heap.size, 1, none⟩ = some (.int .i64 t.index)) := fun w' h =>
    have e : w'.heap[w.heap.size]? = wx.heap[w.heap.size]? := h.2.2.2.2 w.heap.size (by omega) (by omega)
    ⟨(World.cell?_of_block (a := ⟨w.heap.size, 0, none⟩) e).trans HXT.out.1, (World.cell?_of_block (a := ⟨w.heap.size, 1, none⟩) e).trans HXT.out.2⟩
  have HWX := Lib.hid hwx
  clear hrob hlo ht hR hN hwx hbx hw
  obtain ⟨x0, x1⟩ := HXT.out
  go_enter Try.func71, Try.ntmps71
  go_upto_region 1 with fail
  rw [HWX.out]
  have SA0 := HKS.out wx (Fr.refl _ _)
  have SB0 : wx.drew.cell? ⟨w.heap.size, 0, none⟩ = some (.int .i64 t.data) ∧ wx.drew.cell? ⟨w.heap.size, 1, none⟩ = some (.int .i64 t.index) := SA0
  have SA1 := HKS.out (wx.alloc (.cells #[.int .i64 3, .int .i64 2, .int .i64 4, .int .i64 1] 3)) (Fr.below ((Below.refl _ wx).alloc (Nat.le_refl _) (.cells #[.int .i64 3, .int .i64 2, .int .i64 4, .int .i64 1] 3)))
  have SB1 : (wx.alloc (.cells #[.int .i64 3, .int .i64 2, .int .i64 4, .int .i64 1] 3)).drew.cell? ⟨w.heap.size, 0, none⟩ = some (.int .i64 t.data) ∧ (wx.alloc (.cells #[.int .i64 3, .int .i64 2, .int .i64 4, .int .i64 1] 3)).drew.cell? ⟨w.heap.size, 1, none⟩ = some (.int .i64 t.index) := SA1
  have SA2 := HKS.out (wx.alloc (.cells #[.int .i64 0, .int .i64 0, .int .i64 0, .int .i64 0, .int .i64 0, .slice none 0 0] 50)) (Fr.below ((Below.refl _ wx).alloc (Nat.le_refl _) (.cells #[.int .i64 0, .int .i64 0, .int .i64 0, .int .i64 0, .int .i64 0, .slice none 0 0] 50)))
  have SB2 : (wx.alloc (.cells #[.int .i64 0, .int .i64 0, .int .i64 0, .int .i64 0, .int .i64 0, .slice none 0 0] 50)).drew.cell? ⟨w.heap.size, 0, none⟩ = some (.int .i64 t.data) ∧ (wx.alloc (.cells #[.int .i64 0, .int .i64 0, .int .i64 0, .int .i64 0, .int .i64 0, .slice none 0 0] 50)).drew.cell? ⟨w.heap.size, 1, none⟩ = some (.int .i64 t.index) := SA2
  have SA3 := HKS.out ((wx.alloc (.cells #[.int .i64 3, .int .i64 2, .int .i64 4, .int .i64 1] 3)).alloc (.cells #[.int .i64 0, .int .i64 0, .int .i64 0, .int .i64 0, .int .i64 0, .slice none 0 0] 50)) ((Fr.below ((Below.refl _ wx).alloc (Nat.le_refl _) (.cells #[.int .i64 3, .int .i64 2, .int .i64 4, .int .i64 1] 3))).trans (Fr.below ((Below.refl _ _).alloc (Nat.le_refl _) (.cells #[.int .i64 0, .int .i64 0, .int .i64 0, .int .i64 0, .int .i64 0, .slice none 0 0] 50))))
  have SB3 : ((wx.alloc (.cells #[.int .i64 3, .int .i64 2, .int .i64 4, .int .i64 1] 3)).alloc (.cells #[.int .i64 0, .int .i64 0, .int .i64 0, .int .i64 0, .int .i64 0, .slice none 0 0] 50)).drew.cell? ⟨w.heap.size, 0, none⟩ = some (.int .i64 t.data) ∧ ((wx.alloc (.cells #[.int .i64 3, .int .i64 2, .int .i64 4, .int .i64 1] 3)).alloc (.cells #[.int .i64 0, .int .i64 0, .int .i64 0, .int .i64 0, .int .i64 0, .slice none 0 0] 50)).drew.cell? ⟨w.heap.size, 1, none⟩ = some (.int .i64 t.index) := SA3
  have SA4 := HKS.out ((wx.alloc (.cells #[.int .i64 0, .int .i64 0, .int .i64 0, .int .i64 0, .int .i64 0, .slice none 0 0] 50)).alloc (.cells #[.int .i64 3, .int .i64 2, .int .i64 4, .int .i64 1] 3)) ((Fr.below ((Below.refl _ wx).alloc (Nat.le_refl _) (.cells #[.int .i64 0, .int .i64 0, .int .i64 0, .int .i64 0, .int .i64 0, .slice none 0 0] 50))).trans (Fr.below ((Below.refl _ _).alloc (Nat.le_refl _) (.cells #[.int .i64 3, .int .i64 2, .int .i64 4, .int .i64 1] 3))))
  have SB4 : ((wx.alloc (.cells #[.int .i64 0, .int .i64 0, .int .i64 0, .int .i64 0, .int .i64 0, .slice none 0 0] 50)).alloc (.cells #[.int .i64 3, .int .i64 2, .int .i64 4, .int .i64 1] 3)).drew.cell? ⟨w.heap.size, 0, none⟩ = some (.int .i64 t.data) ∧ ((wx.alloc (.cells #[.int .i64 0, .int .i64 0, .int .i64 0, .int .i64 0, .int .i64 0, .slice none 0 0] 50)).alloc (.cells #[.int .i64 3, .int .i64 2, .int .i64 4, .int .i64 1] 3)).drew.cell? ⟨w.heap.size, 1, none⟩ = some (.int .i64 t.index) := SA4
  have HNM1 : Hid (Calls Try.prog 76 #[.pointer (some ⟨rb, 0, none⟩), .slice (some ⟨wx.heap.size, 0, none⟩) 4 4] ((wx.alloc (.cells #[.int .i64 3, .int .i64 2, .int .i64 4, .int .i64 1] 3)).drew) (PickedI ((wx.alloc (.cells #[.int .i64 3, .int .i64 2, .int .i64 4, .int .i64 1] 3)).drew) B rb N [3, 2, 4, 1])) := num_n rb B N 4 [3, 2, 4, 1] rfl (some ⟨wx.heap.size, 0, none⟩) 4 _ (HRX.out.alloc _).drew (by have := HN.out; omega) (by decide) (RInts.lit2 _ _ _ rfl (by decide)) (fun b o e => by injection e with e; injection e with e; omega)
  have HNM2 : Hid (Calls Try.prog 76 #[.pointer (some ⟨rb, 0, none⟩), .slice (some ⟨wx.heap.size + 1, 0, none⟩) 4 4] (((wx.alloc (.cells #[.int .i64 0, .int .i64 0, .int .i64 0, .int .i64 0, .int .i64 0, .slice none 0 0] 50)).alloc (.cells #[.int .i64 3, .int .i64 2, .int .i64 4, .int .i64 1] 3)).drew) (PickedI (((wx.alloc (.cells #[.int .i64 0, .int .i64 0, .int .i64 0, .int .i64 0, .int .i64 0, .slice none 0 0] 50)).alloc (.cells #[.int .i64 3, .int .i64 2, .int .i64 4, .int .i64 1] 3)).drew) B rb N [3, 2, 4, 1])) := num_n rb B N 4 [3, 2, 4, 1] rfl (some ⟨wx.heap.size + 1, 0, none⟩) 4 _ ((HRX.out.alloc _).alloc _).drew (by have := HN.out; omega) (by decide) (by have h := RInts.lit2 (wx.alloc (.cells #[.int .i64 0, .int .i64 0, .int .i64 0, .int .i64 0, .int .i64 0, .slice none 0 0] 50)) #[.int .i64 3, .int .i64 2, .int .i64 4, .int .i64 1] [3, 2, 4, 1] rfl (by decide); rw [World.size_alloc] at h; exact h) (fun b o e => by injection e with e; injection e with e; omega)
  have HNM3 : Hid (Calls Try.prog 76 #[.pointer (some ⟨rb, 0, none⟩), .slice (some ⟨wx.heap.size, 0, none⟩) 4 4] (((wx.alloc (.cells #[.int .i64 3, .int .i64 2, .int .i64 4, .int .i64 1] 3)).alloc (.cells #[.int .i64 0, .int .i64 0, .int .i64 0, .int .i64 0, .int .i64 0, .slice none 0 0] 50)).drew) (PickedI (((wx.alloc (.cells #[.int .i64 3, .int .i64 2, .int .i64 4, .int .i64 1] 3)).alloc (.cells #[.int .i64 0, .int .i64 0, .int .i64 0, .int .i64 0, .int .i64 0, .slice none 0 0] 50)).drew) B rb N [3, 2, 4, 1])) := num_n rb B N 4 [3, 2, 4, 1] rfl (some ⟨wx.heap.size, 0, none⟩) 4 _ ((HRX.out.alloc _).alloc _).drew (by have := HN.out; omega) (by decide) ((RInts.lit _ _ _ rfl (by decide) : RInts (wx.alloc (.cells #[.int .i64 3, .int .i64 2, .int .i64 4, .int .i64 1] 3)) _ _).alloc _).drew (fun b o e => by injection e with e; injection e with e; omega)
  go_cut [7] (fun s7 wz => ∃ g v A1 c1, s7 = .pointer (some ⟨g, 0, none⟩) ∧ SmP wx B rb N g v A1 c1 wz)
  case first =>
    go_region_held3 (fun w' => w'.cell? ⟨w.heap.size, 0, none⟩ = some (.int .i64 t.data) ∧ w'.cell? ⟨w.heap.size, 1, none⟩ = some (.int .i64 t.index)) (first | with_reducible exact SQ | with_reducible exact SA0 | with_reducible exact SB0 | with_reducible exact SA1 | with_reducible exact SB1 | with_reducible exact SA2 | with_reducible exact SB2 | with_reducible exact SA3 | with_reducible exact SB3 | with_reducible exact SA4 | with_reducible exact SB4 | with_reducible exact SQA | with_reducible exact SQP | with_reducible exact SQV | go_keep) (first
      | (go_at_call 76; (with_reducible refine (HNM1.out).mono ?_); rintro e w3 ⟨j, hj, rfl, hR', hg'⟩; have hf3 : Fr (fun b => b = rb) wx w3 := (Fr.below ((Below.refl _ wx).alloc (Nat.le_refl _) (.cells #[.int .i64 3, .int .i64 2, .int .i64 4, .int .i64 1] 3))).trans (Fr.grown (⟨hg'.os, hg'.tape, hg'.output, hg'.size, hg'.block⟩ : (wx.alloc (.cells #[.int .i64 3, .int .i64 2, .int .i64 4, .int .i64 1] 3)).grownBy w3 (some rb)) (fun b e => by injection e)); have HF3 := Lib.hid hf3; have HR3 := Lib.hid hR'; have hs3 := hf3.size; have SQ := HKS.out _ hf3; have SQA := HKS.out _ (hf3.trans (Fr.below ((Below.refl _ w3).alloc (Nat.le_refl _) (.cells #[.int .i64 0, .int .i64 0, .int .i64 0, .int .i64 0, .int .i64 0, .slice none 0 0] 50)))); have HJ : Hid (1 ≤ ([3, 2, 4, 1] : List Int)[j] ∧ ([3, 2, 4, 1] : List Int)[j] ≤ 4) := (by have := mem_ix hj; simp only [List.mem_cons, List.not_mem_nil, or_false] at this; unfold Hid; omega); (generalize ([3, 2, 4, 1] : List Int)[j] = dp at HJ); have HDW1 := Lib.hid (pw_any l HW.out 3 A cap t dp lo B rb (N + 1) w3 (HROB.out.at_ (Stays.fr (HFW.out.trans HF3.out) HLO.out)) HLO.out HK.out (by have := HJ.out; omega) (by have := HJ.out; omega) (by have := HJ.out; omega) HR3.out (by have := HN.out; simp only [pkP]; omega)); have HDW2 := Lib.hid (pw_any l HW.out 3 A cap t dp lo B rb (N + 1) (w3.alloc (.cells #[.int .i64 0, .int .i64 0, .int .i64 0, .int .i64 0, .int .i64 0, .slice none 0 0] 50)) (HROB.out.at_ (Stays.fr ((HFW.out.trans HF3.out).trans (Fr.below ((Below.refl _ w3).alloc (Nat.le_refl _) (.cells #[.int .i64 0, .int .i64 0, .int .i64 0, .int .i64 0, .int .i64 0, .slice none 0 0] 50)))) HLO.out)) HLO.out HK.out (by have := HJ.out; omega) (by have := HJ.out; omega) (by have := HJ.out; omega) (HR3.out.alloc _) (by have := HN.out; simp only [pkP]; omega)); clear hf3 hR' hg' hj)
      | (go_at_call 76; (with_reducible refine (HNM2.out).mono ?_); rintro e w3 ⟨j, hj, rfl, hR', hg'⟩; have hf3 : Fr (fun b => b = rb) wx w3 := ((Fr.below ((Below.refl _ wx).alloc (Nat.le_refl _) (.cells #[.int .i64 0, .int .i64 0, .int .i64 0, .int .i64 0, .int .i64 0, .slice none 0 0] 50))).trans (Fr.below ((Below.refl _ (wx.alloc (.cells #[.int .i64 0, .int .i64 0, .int .i64 0, .int .i64 0, .int .i64 0, .slice none 0 0] 50))).alloc (Nat.le_refl _) (.cells #[.int .i64 3, .int .i64 2, .int .i64 4, .int .i64 1] 3)))).trans (Fr.grown (⟨hg'.os, hg'.tape, hg'.output, hg'.size, hg'.block⟩ : ((wx.alloc (.cells #[.int .i64 0, .int .i64 0, .int .i64 0, .int .i64 0, .int .i64 0, .slice none 0 0] 50)).alloc (.cells #[.int .i64 3, .int .i64 2, .int .i64 4, .int .i64 1] 3)).grownBy w3 (some rb)) (fun b e => by injection e)); have HF3 := Lib.hid hf3; have HR3 := Lib.hid hR'; have hs3 := hf3.size; have SQ := HKS.out _ hf3; have SQA := HKS.out _ (hf3.trans (Fr.below ((Below.refl _ w3).alloc (Nat.le_refl _) (.cells #[.int .i64 0, .int .i64 0, .int .i64 0, .int .i64 0, .int .i64 0, .slice none 0 0] 50)))); have HJ : Hid (1 ≤ ([3, 2, 4, 1] : List Int)[j] ∧ ([3, 2, 4, 1] : List Int)[j] ≤ 4) := (by have := mem_ix hj; simp only [List.mem_cons, List.not_mem_nil, or_false] at this; unfold Hid; omega); (generalize ([3, 2, 4, 1] : List Int)[j] = dp at HJ); have hzb : ZbP w3 wx.heap.size := (ZbP.at_ (ZbP.new wx) ((Below.refl _ _).alloc (Nat.le_refl _) (.cells #[.int .i64 3, .int .i64 2, .int .i64 4, .int .i64 1] 3))).fr' (Fr.grown (P := fun b => b = rb) (⟨hg'.os, hg'.tape, hg'.output, hg'.size, hg'.block⟩ : ((wx.alloc (.cells #[.int .i64 0, .int .i64 0, .int .i64 0, .int .i64 0, .int .i64 0, .slice none 0 0] 50)).alloc (.cells #[.int .i64 3, .int .i64 2, .int .i64 4, .int .i64 1] 3)).grownBy w3 (some rb)) (fun b e => by injection e)) (by omega); have hgz : wx.heap.size ≤ wx.heap.size := Nat.le_refl _; have hgl : wx.heap.size < w3.heap.size := heap_lt hzb; have HDW1 := Lib.hid (pw_any l HW.out 3 A cap t dp lo B rb (N + 1) w3 (HROB.out.at_ (Stays.fr (HFW.out.trans HF3.out) HLO.out)) HLO.out HK.out (by have := HJ.out; omega) (by have := HJ.out; omega) (by have := HJ.out; omega) HR3.out (by have := HN.out; simp only [pkP]; omega)); have HDW2 := Lib.hid (pw_any l HW.out 3 A cap t dp lo B rb (N + 1) (w3.alloc (.cells #[.int .i64 0, .int .i64 0, .int .i64 0, .int .i64 0, .int .i64 0, .slice none 0 0] 50)) (HROB.out.at_ (Stays.fr ((HFW.out.trans HF3.out).trans (Fr.below ((Below.refl _ w3).alloc (Nat.le_refl _) (.cells #[.int .i64 0, .int .i64 0, .int .i64 0, .int .i64 0, .int .i64 0, .slice none 0 0] 50)))) HLO.out)) HLO.out HK.out (by have := HJ.out; omega) (by have := HJ.out; omega) (by have := HJ.out; omega) (HR3.out.alloc _) (by have := HN.out; simp only [pkP]; omega)); clear hf3 hR' hg' hj)
      | (go_at_call 76; (with_reducible refine (HNM3.out).mono ?_); rintro e w3 ⟨j, hj, rfl, hR', hg'⟩; have hf3 : Fr (fun b => b = rb) wx w3 := ((Fr.below ((Below.refl _ wx).alloc (Nat.le_refl _) (.cells #[.int .i64 3, .int .i64 2, .int .i64 4, .int .i64 1] 3))).trans (Fr.below ((Below.refl _ (wx.alloc (.cells #[.int .i64 3, .int .i64 2, .int .i64 4, .int .i64 1] 3))).alloc (Nat.le_refl _) (.cells #[.int .i64 0, .int .i64 0, .int .i64 0, .int .i64 0, .int .i64 0, .slice none 0 0] 50)))).trans (Fr.grown (⟨hg'.os, hg'.tape, hg'.output, hg'.size, hg'.block⟩ : ((wx.alloc (.cells #[.int .i64 3, .int .i64 2, .int .i64 4, .int .i64 1] 3)).alloc (.cells #[.int .i64 0, .int .i64 0, .int .i64 0, .int .i64 0, .int .i64 0, .slice none 0 0] 50)).grownBy w3 (some rb)) (fun b e => by injection e)); have HF3 := Lib.hid hf3; have HR3 := Lib.hid hR'; have hs3 := hf3.size; have SQ := HKS.out _ hf3; have SQA := HKS.out _ (hf3.trans (Fr.below ((Below.refl _ w3).alloc (Nat.le_refl _) (.cells #[.int .i64 0, .int .i64 0, .int .i64 0, .int .i64 0, .int .i64 0, .slice none 0 0] 50)))); have HJ : Hid (1 ≤ ([3, 2, 4, 1] : List Int)[j] ∧ ([3, 2, 4, 1] : List Int)[j] ≤ 4) := (by have := mem_ix hj; simp only [List.mem_cons, List.not_mem_nil, or_false] at this; unfold Hid; omega); (generalize ([3, 2, 4, 1] : List Int)[j] = dp at HJ); have hzb : ZbP w3 (wx.heap.size + 1) := (show ZbP ((wx.alloc (.cells #[.int .i64 3, .int .i64 2, .int .i64 4, .int .i64 1] 3)).alloc (.cells #[.int .i64 0, .int .i64 0, .int .i64 0, .int .i64 0, .int .i64 0, .slice none 0 0] 50)) (wx.heap.size + 1) from (by have h := ZbP.new (wx.alloc (.cells #[.int .i64 3, .int .i64 2, .int .i64 4, .int .i64 1] 3)); rw [World.size_alloc] at h; exact h)).fr' (Fr.grown (P := fun b => b = rb) (⟨hg'.os, hg'.tape, hg'.output, hg'.size, hg'.block⟩ : ((wx.alloc (.cells #[.int .i64 3, .int .i64 2, .int .i64 4, .int .i64 1] 3)).alloc (.cells #[.int .i64 0, .int .i64 0, .int .i64 0, .int .i64 0, .int .i64 0, .slice none 0 0] 50)).grownBy w3 (some rb)) (fun b e => by injection e)) (by omega); have hgz : wx.heap.size ≤ wx.heap.size + 1 := Nat.le_succ _; have hgl : wx.heap.size + 1 < w3.heap.size := heap_lt hzb; have HDW1 := Lib.hid (pw_any l HW.out 3 A cap t dp lo B rb (N + 1) w3 (HROB.out.at_ (Stays.fr (HFW.out.trans HF3.out) HLO.out)) HLO.out HK.out (by have := HJ.out; omega) (by have := HJ.out; omega) (by have := HJ.out; omega) HR3.out (by have := HN.out; simp only [pkP]; omega)); have HDW2 := Lib.hid (pw_any l HW.out 3 A cap t dp lo B rb (N + 1) (w3.alloc (.cells #[.int .i64 0, .int .i64 0, .int .i64 0, .int .i64 0, .int .i64 0, .slice none 0 0] 50)) (HROB.out.at_ (Stays.fr ((HFW.out.trans HF3.out).trans (Fr.below ((Below.refl _ w3).alloc (Nat.le_refl _) (.cells #[.int .i64 0, .int .i64 0, .int .i64 0, .int .i64 0, .int .i64 0, .slice none 0 0] 50)))) HLO.out)) HLO.out HK.out (by have := HJ.out; omega) (by have := HJ.out; omega) (by have := HJ.out; omega) (HR3.out.alloc _) (by have := HN.out; simp only [pkP]; omega)); clear hf3 hR' hg' hj)
      | (go_at_call 110; (with_reducible refine (HDW1.out).mono ?_); rintro e w4 ⟨p4, A4, c4, rfl, hz4, ho4, hR', hf'⟩; have hf4 := HF3.out.trans hf'; have HF4 := Lib.hid hf4; have HO4 := Lib.hid ho4; have HZ4 := Lib.hid hz4; have HR4 := Lib.hid hR'; have hs4 := hf'.size; have SQ := HKS.out _ hf4; have SQA := HKS.out _ (hf4.trans (Fr.below ((Below.refl _ w4).alloc (Nat.le_refl _) (.cells #[.int .i64 0, .int .i64 0, .int .i64 0, .int .i64 0, .int .i64 0, .slice none 0 0] 50)))); (try (have hzb := hzb.fr' hf' (by omega))); have HPN1 : Hid (Calls Try.prog 109 #[.pointer (some ⟨rb, 0, none⟩), .agg #[.int .i64 p4.op, .int .i64 p4.ctor, .int .i64 p4.n, .int .i64 p4.m, .int .i64 p4.var, .slice A4 p4.kids.length c4], .int .i64 0] w4 (PnQ 3 _ p4 B rb (N + 1 + pkP 4) w4)) := (pn_any 3 p4 A4 c4 _ 0 B rb (N + 1 + pkP 4) w4 HO4.out (fun b hb => ⟨by have := hb.2; omega, by have := hb.1; (try simp only [World.size_alloc] at this); omega⟩) (by omega) HR4.out (by have := HN.out; have := HZ4.out; simp only [pkP]; omega)); have HPN2 : Hid (Calls Try.prog 109 #[.pointer (some ⟨rb, 0, none⟩), .agg #[.int .i64 p4.op, .int .i64 p4.ctor, .int .i64 p4.n, .int .i64 p4.m, .int .i64 p4.var, .slice A4 p4.kids.length c4], .int .i64 0] (w4.alloc (.cells #[.int .i64 0, .int .i64 0, .int .i64 0, .int .i64 0, .int .i64 0, .slice none 0 0] 50)) (PnQ 3 _ p4 B rb (N + 1 + pkP 4) (w4.alloc (.cells #[.int .i64 0, .int .i64 0, .int .i64 0, .int .i64 0, .int .i64 0, .slice none 0 0] 50)))) := (pn_any 3 p4 A4 c4 _ 0 B rb (N + 1 + pkP 4) (w4.alloc (.cells #[.int .i64 0, .int .i64 0, .int .i64 0, .int .i64 0, .int .i64 0, .slice none 0 0] 50)) (HO4.out.fr _ (Fr.below (P := fun _ => False) ((Below.refl _ w4).alloc (Nat.le_refl _) (.cells #[.int .i64 0, .int .i64 0, .int .i64 0, .int .i64 0, .int .i64 0, .slice none 0 0] 50))) (fun _ _ h => h)) (fun b hb => ⟨by have := hb.2; (simp; omega), by have := hb.1; (try simp only [World.size_alloc] at this); omega⟩) (by omega) (HR4.out.alloc _) (by have := HN.out; have := HZ4.out; simp only [pkP]; omega)); clear hf4 hf' ho4 hz4 hR')
      | (go_at_call 110; (with_reducible refine (HDW2.out).mono ?_); rintro e w4 ⟨p4, A4, c4, rfl, hz4, ho4, hR', hf'⟩; have hf4 := (HF3.out.trans (Fr.below ((Below.refl _ w3).alloc (Nat.le_refl _) (.cells #[.int .i64 0, .int .i64 0, .int .i64 0, .int .i64 0, .int .i64 0, .slice none 0 0] 50)))).trans hf'; have HF4 := Lib.hid hf4; have HO4 := Lib.hid ho4; have HZ4 := Lib.hid hz4; have HR4 := Lib.hid hR'; have hs4 : w3.heap.size + 1 ≤ w4.heap.size := (by have := hf'.size; simpa using this); have SQ := HKS.out _ hf4; have hzb : ZbP w4 w3.heap.size := (ZbP.new w3).fr' hf' (by omega); have hgz : wx.heap.size ≤ w3.heap.size := hs3; have HPN1 : Hid (Calls Try.prog 109 #[.pointer (some ⟨rb, 0, none⟩), .agg #[.int .i64 p4.op, .int .i64 p4.ctor, .int .i64 p4.n, .int .i64 p4.m, .int .i64 p4.var, .slice A4 p4.kids.length c4], .int .i64 0] w4 (PnQ 3 _ p4 B rb (N + 1 + pkP 4) w4)) := (pn_any 3 p4 A4 c4 _ 0 B rb (N + 1 + pkP 4) w4 HO4.out (fun b hb => ⟨by have := hb.2; omega, by have := hb.1; (try simp only [World.size_alloc] at this); omega⟩) (by omega) HR4.out (by have := HN.out; have := HZ4.out; simp only [pkP]; omega)); have HPN2 : Hid (Calls Try.prog 109 #[.pointer (some ⟨rb, 0, none⟩), .agg #[.int .i64 p4.op, .int .i64 p4.ctor, .int .i64 p4.n, .int .i64 p4.m, .int .i64 p4.var, .slice A4 p4.kids.length c4], .int .i64 0] (w4.alloc (.cells #[.int .i64 0, .int .i64 0, .int .i64 0, .int .i64 0, .int .i64 0, .slice none 0 0] 50)) (PnQ 3 _ p4 B rb (N + 1 + pkP 4) (w4.alloc (.cells #[.int .i64 0, .int .i64 0, .int .i64 0, .int .i64 0, .int .i64 0, .slice none 0 0] 50)))) := (pn_any 3 p4 A4 c4 _ 0 B rb (N + 1 + pkP 4) (w4.alloc (.cells #[.int .i64 0, .int .i64 0, .int .i64 0, .int .i64 0, .int .i64 0, .slice none 0 0] 50)) (HO4.out.fr _ (Fr.below (P := fun _ => False) ((Below.refl _ w4).alloc (Nat.le_refl _) (.cells #[.int .i64 0, .int .i64 0, .int .i64 0, .int .i64 0, .int .i64 0, .slice none 0 0] 50))) (fun _ _ h => h)) (fun b hb => ⟨by have := hb.2; (simp; omega), by have := hb.1; (try simp only [World.size_alloc] at this); omega⟩) (by omega) (HR4.out.alloc _) (by have := HN.out; have := HZ4.out; simp only [pkP]; omega)); clear hf4 hf' ho4 hz4 hR')
      | (go_at_call 109; (with_reducible refine (HPN1.out).mono ?_); rintro e w5 ⟨p5, A5, c5, n5, rfl, hn5, hz5, ho5, hR', hf'⟩; have hf5 := HF4.out.trans hf'; have HF5 := Lib.hid hf5; have HO5 := Lib.hid ho5; have HZ5 := Lib.hid hz5; have HR5 := Lib.hid hR'; have hs5 := hf'.size; have SQ := HKS.out _ hf5; have SQA := HKS.out _ (hf5.trans (Fr.below ((Below.refl _ w5).alloc (Nat.le_refl _) (.cells #[.int .i64 0, .int .i64 0, .int .i64 0, .int .i64 0, .int .i64 0, .slice none 0 0] 50)))); have SQV := HKS.out _ (hf5.trans (Fr.below ((Below.refl _ w5).alloc (Nat.le_refl _) (.cells #[.int .i64 p5.op, .int .i64 p5.ctor, .int .i64 p5.n, .int .i64 p5.m, .int .i64 p5.var, .slice A5 p5.kids.length c5] 50)))); (try (have hzd := hzb.fr' hf' (by omega); have SQP := HKS.out _ (hf5.put6 hgz (.int .i64 p5.op) (.int .i64 p5.ctor) (.int .i64 p5.n) (.int .i64 p5.m) (.int .i64 p5.var) (.slice A5 p5.kids.length c5)); obtain ⟨k0, k1, k2, k3, k4, k5, k6, k7, k8, k9, ka, kb⟩ := hzd.cells)); clear hf5 hf' ho5 hz5 hR')
      | (go_at_call 109; (with_reducible refine (HPN2.out).mono ?_); rintro e w5 ⟨p5, A5, c5, n5, rfl, hn5, hz5, ho5, hR', hf'⟩; have hf5 := (HF4.out.trans (Fr.below ((Below.refl _ w4).alloc (Nat.le_refl _) (.cells #[.int .i64 0, .int .i64 0, .int .i64 0, .int .i64 0, .int .i64 0, .slice none 0 0] 50)))).trans hf'; have HF5 := Lib.hid hf5; have HO5 := Lib.hid ho5; have HZ5 := Lib.hid hz5; have HR5 := Lib.hid hR'; have hs5 : w4.heap.size + 1 ≤ w5.heap.size := (by have := hf'.size; simpa using this); have SQ := HKS.out _ hf5; have hzd : ZbP w5 w4.heap.size := (ZbP.new w4).fr' hf' (by omega); have hgz : wx.heap.size ≤ w4.heap.size := (by omega); have SQP := HKS.out _ (hf5.put6 hgz (.int .i64 p5.op) (.int .i64 p5.ctor) (.int .i64 p5.n) (.int .i64 p5.m) (.int .i64 p5.var) (.slice A5 p5.kids.length c5)); obtain ⟨k0, k1, k2, k3, k4, k5, k6, k7, k8, k9, ka, kb⟩ := hzd.cells; clear hf5 hf' ho5 hz5 hR'))
    all_goals
      go_wp2_with fail
      go_meet
      refine ⟨_, p5, A5, c5, rfl, ?_⟩
      have hw5 : wP p5 ≤ 400 := by have h1 := HZ5.out; have h2 := HZ4.out; omega
      have hM5 : N + 1 + pkP 4 + 2 * (1 + wP p4) ≤ N + 600 := by have h2 := HZ4.out; simp only [pkP]; omega
      first
      | ((with_reducible refine SmP.new HF5.out HO5.out ?_ hw5 HR5.out hM5); (intro b h; (rcases h.1 with h1 | h1); all_goals ((try (have h2 := h1.1)); (try (have h3 := h1.2)); have h4 := h.2; (try simp only [World.size_alloc] at h1); (try simp only [World.size_alloc] at h2); exact ⟨by omega, h4⟩)))
      | ((with_reducible refine SmP.set hzd hgz (by omega) (by omega) HF5.out HO5.out ?_ hw5 HR5.out hM5); (intro b h; (rcases h.1 with h1 | h1); all_goals ((try (have h2 := h1.1)); (try (have h3 := h1.2)); have h4 := h.2; (try simp only [World.size_alloc] at h1); (try simp only [World.size_alloc] at h2); exact ⟨by omega, h4, by omega⟩)))
  case rest =>
    obtain ⟨g, v, A1, c1, rfl, hs⟩ := hcut
    generalize wc = wz at *
    have HSM := Lib.hid hs
    have hfz := HFW.out.trans hs.2.2.2.2.2
    have HFZ := Lib.hid hfz
    have hsz := hfz.size
    have hszx := hs.2.2.2.2.2.size
    have hgx := hs.1
    have hzz : wz.heap[w.heap.size + 1]? = some (.cells #[.int .i64 0, .int .i64 0, .int .i64 0, .int .i64 0, .int .i64 0, .slice none 0 0] 50 (0, 0)) := hs.2.2.2.2.2.block HXR.out (by omega)
    have HZZ := Lib.hid hzz
    obtain ⟨v0, v1, v2, v3, v4, v5, _⟩ := cellsP hs.2.1
    obtain ⟨x0', x1'⟩ := HKS.out wz hs.2.2.2.2.2
    have hgw := heap_lt hs.2.1
    clear hs hfz hzz x0 x1 SA0 SB0 SA1 SB1 SA2 SB2 SA3 SB3 SA4 SB4
    go_wp2_with fail
    refine (isP_any A A1 l cap c1 7 t v wz (HROB.out _ (Stays.fr HFZ.out HLO.out)) HK.out (OPs.reads 7 HSM.out.2.2.2.1) (by have := HSM.out.2.2.1; omega)).mono ?_
    rintro e w2 ⟨rfl, hb2⟩
    have hg2 := (hb2.block _ hgw).trans HSM.out.2.1
    have hz2 := (hb2.block _ (heap_lt HZZ.out)).trans HZZ.out
    have hs2 := hb2.size
    have HF2 : Hid (Fr (fun b => b = rb) w w2) := HFZ.out.trans (Fr.below hb2)
    have HR2 := Lib.hid (HSM.out.2.2.2.2.1.below hb2)
    have HO2 : Hid (OPs 8 w2 (fun b => wx.heap.size ≤ b ∧ b < wz.heap.size ∧ b ≠ g) A1 v.kids) := HSM.out.2.2.2.1.fr _ (Fr.below (P := fun _ => False) hb2) (fun _ _ h => h)
    obtain ⟨k0, k1, k2, k3, k4, k5, k6, k7, k8, k9, k10, k11⟩ := cellsP hz2
    obtain ⟨u0, u1, u2, u3, u4, u5, _⟩ := cellsP hg2
    clear v0 v1 v2 v3 v4 v5 x0' x1' hb2 hg2 hz2
    by_cases hv : isP l t v = true
    · have HV := Lib.hid hv
      have HFIN : Hid (SomeQ l t B rb N w (.returned (.agg #[.int .i64 v.op, .int .i64 v.ctor, .int .i64 v.n, .int .i64 v.m, .int .i64 v.var, .slice A1 v.kids.length c1])) ((((((w2.setCell ⟨w.heap.size + 1, 0, none⟩ (.int .i64 v.op)).setCell ⟨w.heap.size + 1, 1, none⟩ (.int .i64 v.ctor)).setCell ⟨w.heap.size + 1, 2, none⟩ (.int .i64 v.n)).setCell ⟨w.heap.size + 1, 3, none⟩ (.int .i64 v.m)).setCell ⟨w.heap.size + 1, 4, none⟩ (.int .i64 v.var)).setCell ⟨w.heap.size + 1, 5, none⟩ (.slice A1 v.kids.length c1))) :=
        ⟨v, A1, c1, rfl, .inl HV.out, HSM.out.2.2.1, (HO2.out.fr _ (Fr.six _ _ _ _ _ _ _ _) (fun b hq e => by have := hq.1; omega)).wide _ (fun b hq => ⟨by have := hq.1; omega, by have h2 := hq.2.1; simp [World.setCell]; omega⟩), HR2.out.fr (Fr.six _ _ _ _ _ _ _ _) (fun b hb => by omega), HF2.out.put6 (by omega) _ _ _ _ _ _⟩
      rw [hv]
      clear hv
      go_wp2_with fail
      exact bodyPost_ret (v := .agg #[.int .i64 v.op, .int .i64 v.ctor, .int .i64 v.n, .int .i64 v.m, .int .i64 v.var, .slice A1 v.kids.length c1]) (by simp [results, Try.results71, go_sem, k0, k1, k2, k3, k4, k5]) rfl HFIN.out
    · have hvf : isP l t v = false := by simpa using hv
      have HFIN : Hid (SomeQ l t B rb N w (.returned (.agg #[.int .i64 1, .int .i64 0, .int .i64 0, .int .i64 0, .int .i64 0, .slice none 0 0])) ((((((w2.setCell ⟨w.heap.size + 1, 0, none⟩ (.int .i64 1)).setCell ⟨w.heap.size + 1, 1, none⟩ (.int .i64 0)).setCell ⟨w.heap.size + 1, 2, none⟩ (.int .i64 0)).setCell ⟨w.heap.size + 1, 3, none⟩ (.int .i64 0)).setCell ⟨w.heap.size + 1, 4, none⟩ (.int .i64 0)).setCell ⟨w.heap.size + 1, 5, none⟩ (.slice none 0 0))) :=
        ⟨.mk 1 0 0 0 0 [], none, 0, rfl, .inr rfl, by rw [wP, wPs]; omega, OPs.nil _ _ _ _, HR2.out.fr (Fr.six _ _ _ _ _ _ _ _) (fun b hb => by omega), HF2.out.put6 (by omega) _ _ _ _ _ _⟩
      rw [hvf]
      clear hv hvf
      go_wp2_with fail
      exact bodyPost_ret (v := .agg #[.int .i64 1, .int .i64 0, .int .i64 0, .int .i64 0, .int .i64 0, .slice none 0 0]) (by simp [results, Try.results71, go_sem, k0, k1, k2, k3, k4, k5]) rfl HFIN.out
end Go.Proofs.Ytbeejeialjfdnaa
