/-
  No variable of a pattern stands twice: the document's function. No statement is proved here.
-/
import Derived.Test.YtbdiahnelnbdnaaGreatW14
import Derived.Test.YtbdiahnelnbdnaaGreatW06
import Derived.Test.YtbdiahnelnbdnaaGreatW03
import Derived.Test.YtbdiahnelnbdnaaGreatW02
import Derived.Maps.OwnSet
import Derived.Outline
namespace Go.Proofs.YtbdiahnelnbdnaaGreat
open Go.RowKit Go.Sort Go.Deep
set_option maxRecDepth 100000
set_option linter.unusedVariables false
noncomputable def onceV (L : List Vt) (i : Nat) : Bool := decide (findV L (L.getD i default).var = i)
theorem onceV_at {L : List Vt} {i : Nat} (h : i < L.length) : onceV L i = decide (findV L L[i].var = i) := by unfold onceV; rw [getD_at L i h]
noncomputable def headL (l : List Da) (d : Nat) (t : Ty) (p : Pt) : Bool := if p.op = 5 then alike (vrP l d t (p.kids.getD 0 default)) (vrP l d t (p.kids.getD 1 default)) else upto (onceV (vrP l (d + 1) t p)) (vrP l (d + 1) t p).length
noncomputable def linP (l : List Da) : Nat → Ty → Pt → Bool
  | 0, _, _ => false
  | d + 1, t, p => upto (fun i => linP l d ((tysP l t p).getD i default) (p.kids.getD i default)) (tysP l t p).length && headL l d t p
noncomputable def kidL (l : List Da) (d : Nat) (ats : List Ty) (ks : List Pt) (i : Nat) : Bool := linP l d (ats.getD i default) (ks.getD i default)
theorem kidL_at {l : List Da} {d : Nat} {ats : List Ty} {ks : List Pt} {i : Nat} (h : i < ats.length) (h' : i < ks.length) : kidL l d ats ks i = linP l d ats[i] ks[i] := by
  unfold kidL; rw [getD_at ats i h, getD_at ks i h']
theorem linP_go (l : List Da) (d : Nat) (t : Ty) (p : Pt) : linP l (d + 1) t p = (upto (kidL l d (tysP l t p) p.kids) (tysP l t p).length && headL l d t p) := rfl
theorem headL_or {l : List Da} {d : Nat} {t : Ty} {p : Pt} (h : p.op = 5) (h0 : 0 < p.kids.length) (h1 : 1 < p.kids.length) : headL l d t p = alike (vrP l d t p.kids[0]) (vrP l d t p.kids[1]) := by
  unfold headL; rw [if_pos h, getD_at _ 0 h0, getD_at _ 1 h1]
theorem headL_no {l : List Da} {d : Nat} {t : Ty} {p : Pt} (h : ¬ p.op = 5) : headL l d t p = upto (onceV (vrP l (d + 1) t p)) (vrP l (d + 1) t p).length := if_neg h
theorem vars_new (l : List Da) (d : Nat) (A D : Option Addr) (cap ep e : Nat) (t : Ty) (p : Pt) (w : World) (hr : RDas w w.heap.size A l) (ht : TyOK l t) (hv : RPs e w w.heap.size D p.kids) (hs : shP l d t p = true) (hn : wP p ≤ 1000) :
    Calls Tryz.prog 63 #[.slice none 0 0, .slice A l.length cap, .agg #[.int .i64 t.data, .int .i64 t.index], .agg #[.int .i64 p.op, .int .i64 p.ctor, .int .i64 p.n, .int .i64 p.m, .int .i64 p.var, .slice D p.kids.length ep]] w fun e w' => ∃ A' c, e = .returned (.slice A' (vrP l d t p).length c) ∧ RVts w' w'.heap.size A' (vrP l d t p) ∧ Below w.heap.size w w' := by
  refine (varC_any l d A D cap ep e t p [] (.slice none 0 0) w.heap.size w hr ht hv hs (OVt.nil _ _) (Nat.le_refl _) (by simp; omega)).mono ?_
  rintro e w' ⟨v', rfl, ho, hg, hf⟩
  rw [List.nil_append] at ho
  obtain ⟨A', c, rfl, hrv⟩ := ho.form (by have := vrP_len l d t p hs; unfold maxLen; omega)
  exact ⟨A', c, rfl, hrv, ⟨hg.os, hg.tape, hg.output, hg.size, fun i hi => hg.block i hi (fun e => by simp [Value.ownBlock] at e)⟩⟩
def LinC (l : List Da) (d : Nat) : Prop := ∀ (A D : Option Addr) (cap ep e : Nat) (t : Ty) (p : Pt) (w : World), RDas w w.heap.size A l → TyOK l t → RPs e w w.heap.size D p.kids → shP l d t p = true → wP p ≤ 1000 →
  Calls Tryz.prog 47 #[.slice A l.length cap, .agg #[.int .i64 t.data, .int .i64 t.index], .agg #[.int .i64 p.op, .int .i64 p.ctor, .int .i64 p.n, .int .i64 p.m, .int .i64 p.var, .slice D p.kids.length ep]] w fun e w' => e = .returned (.bool (linP l d t p)) ∧ Below w.heap.size w w'
theorem LinC.known {l : List Da} {d : Nat} (h : LinC l d) (A D : Option Addr) (cap ep e : Nat) (t : Ty) (p : Pt) (b : Bool) (w : World) (hf : linP l d t p = b) (hr : RDas w w.heap.size A l) (ht : TyOK l t) (hv : RPs e w w.heap.size D p.kids) (hs : shP l d t p = true) (hn : wP p ≤ 1000) :
    Calls Tryz.prog 47 #[.slice A l.length cap, .agg #[.int .i64 t.data, .int .i64 t.index], .agg #[.int .i64 p.op, .int .i64 p.ctor, .int .i64 p.n, .int .i64 p.m, .int .i64 p.var, .slice D p.kids.length ep]] w fun e w' => e = .returned (.bool b) ∧ Below w.heap.size w w' := by
  rw [← hf]; exact h A D cap ep e t p w hr ht hv hs hn
set_option maxHeartbeats 4000000 in
theorem linC_step (l : List Da) (d : Nat) (ih : LinC l d) : LinC l (d + 1) := by
  intro A D cap ep e t p w hr ht hv hs hn
  obtain ⟨hown, hkl, hsh⟩ := shP_parts hs
  have hl := hv.1
  unfold maxLen at hl
  have HR := Lib.hid hr
  have HT := Lib.hid ht
  have HV := Lib.hid hv
  have HSH := Lib.hid hs
  have HM : Hid (p.op = 4 → p.ctor ∈ ctR l t) := hown.mem
  have IH := Lib.hid ih
  have hm3 := tysP_len l t p
  have HOK := Lib.hid (tysP_ok ht hown)
  have HKL := Lib.hid hkl
  have HS := Lib.hid hsh
  have HN := Lib.hid hn
  have HF := Lib.hid (linP_go l d t p)
  have HK := Lib.hid (fun (i : Nat) (h : i < (tysP l t p).length) (h' : i < p.kids.length) => kidL_at (l := l) (d := d) h h')
  have H52 : Hid (p.op = 5 → (tysP l t p).length = 2) := fun h => by rw [tysP_other (by omega), List.length_replicate, h]; decide
  have HSO : Hid (∀ (i : Nat) (h : i < (tysP l t p).length) (h' : i < p.kids.length), p.op = 5 → shP l d t p.kids[i] = true) := fun i h h' h5 => by
    have h6 := hsh i h h'
    simp only [tysP_other (l := l) (t := t) (p := p) (by omega), List.getElem_replicate] at h6
    exact h6
  have HAG : Hid (∀ w, RDas w w.heap.size A l → _) := fun w h => tys_any A D l cap ep t p w h HT.out HM.out
  clear hr ht hv hs ih hown hkl hsh hn
  generalize hw0 : (w.alloc (.cells #[.int .i64 t.data, .int .i64 t.index] 35)).alloc (.cells #[.int .i64 p.op, .int .i64 p.ctor, .int .i64 p.n, .int .i64 p.m, .int .i64 p.var, .slice D p.kids.length ep] 38) = w0
  have hb0 := below_box2 hw0
  have HXT : Hid (Bx w0 w.heap.size t) := by rw [← hw0]; exact ⟨by simp [go_sem], by simp [go_sem]⟩
  have HXP : Hid (PBx w0 (w.heap.size + 1) p (.slice D p.kids.length ep)) := by rw [← hw0]; exact ⟨by simp [go_sem], by simp [go_sem], by simp [go_sem], by simp [go_sem], by simp [go_sem], by simp [go_sem]⟩
  have HW := Lib.hid hw0
  clear hw0
  generalize hats : tysP l t p = ats at HF hm3 HOK HK HAG HKL HS H52 HSO
  clear hats
  go_enter Tryz.func47, Tryz.ntmps47
  go_wp2_with fail
  rw [HW.out]
  refine (HAG.out _ (HR.out.at_ hb0)).mono ?_
  rintro e3 w3 ⟨v3, rfl, ho3, hb3'⟩
  obtain ⟨A3, c3, rfl, hr3⟩ := ho3.form (by unfold maxLen; omega)
  have HR3 := Lib.hid hr3
  have HXT3 := Lib.hid (HXT.out.at_ hb3')
  have HXP3 := Lib.hid (HXP.out.at_ hb3')
  have hb3 := below_aft hb0 hb3' hb0.size
  clear hr3 ho3 hb3'
  go_wp2_with fail
  go_loopw [8] (fun i wr => ∃ k : Nat, k ≤ ats.length ∧ i = .int .i64 k ∧ Hid (upto (kidL l d ats p.kids) k = true) ∧ Below w3.heap.size w3 wr) (fun i _ => ats.length - (intOf i).toNat)
  case atStart => exact ⟨0, by omega, rfl, rfl, Below.refl _ _⟩
  case round =>
    obtain ⟨k, hk, rfl, HU, hb⟩ := hrel
    have hbw : Below w.heap.size w wr := below_aft hb3 hb hb3.size
    have HXTr := Lib.hid (HXT3.out.at_ hb)
    have HXPr := Lib.hid (HXP3.out.at_ hb)
    by_cases hlt : k < ats.length
    · have hkl : k < p.kids.length := by rw [HKL.out]; exact hlt
      obtain ⟨f0, f1, f2, f3, f4, f5⟩ := HXPr.out
      obtain ⟨g, o, rfl, hgB, t0, t1⟩ := (HR3.out.below hb (Nat.le_refl _)).2 k hlt
      obtain ⟨b, off, rfl, hbB, hvk⟩ := (HV.out.below hbw (Nat.le_refl _)).2 k hkl
      obtain ⟨e', he', D', cp, c0, c1, c2, c3', c4, c5, hm⟩ := hvk.parts
      have d0 := cell_regrown t0
      have d1 := cell_regrown t1
      have d2 := cell_regrown c0
      have d3 := cell_regrown c1
      have d4 := cell_regrown c2
      have d5 := cell_regrown c3'
      have d6 := cell_regrown c4
      have d7 := cell_regrown c5
      have d8 := cell_regrown f5
      have Hm : Hid (RPs e' wr wr.heap.size D' p.kids[k].kids) := hm.keep (fun _ _ => rfl) hbw.size
      have Hrr : Hid (RDas wr wr.heap.size A l) := HR.out.at_ hbw
      have HTk := Lib.hid (HOK.out _ (List.getElem_mem hlt))
      have HSk := Lib.hid (HS.out k hlt hkl)
      have HKk := Lib.hid (HK.out k hlt hkl)
      have HNk : Hid (wP p.kids[k] ≤ 1000) := by have := wP_kid p k hkl; have := HN.out; unfold Hid; omega
      have hi : (k : Int) < (ats.length : Int) := by omega
      have hi2 : (k : Int) < (p.kids.length : Int) := by omega
      clear c0 c1 c2 c3' c4 c5 t0 t1 f0 f1 f2 f3 f4 f5 hm hvk he'
      by_cases hf : linP l d ats[k] p.kids[k] = true
      · have HFk := Lib.hid hf
        have HUk : Hid (upto (kidL l d ats p.kids) (k + 1) = true) := upto_t HU.out (by rw [HKk.out]; exact hf)
        clear hf
        go_wp2_with fail
        refine wp_region_quiet_below (by kernel_rfl) (by kernel_rfl) ?_
        repeat (quiet_step (exact Calls.regrown_of (IH.out.known _ _ _ _ _ _ _ _ _ HFk.out (Hrr.out.at_ (below_regrown wr _ _)) HTk.out (Hm.out.at_ (below_regrown wr _ _)) HSk.out HNk.out)))
        refine wpQuiet_nil ?_
        intro _ hw'
        obtain ⟨⟨dq, osq⟩, hw''⟩ := hw'
        subst hw''
        have hb2 := hb.trans ((below_regrown wr dq osq).mono hb.size)
        clear d0 d1 d2 d3 d4 d5 d6 d7 d8
        go_wp2_with fail
        go_roundw
        case rel => exact ⟨k + 1, by omega, by go_num, HUk, hb2⟩
        case measure => simp [intOf]; omega
      · have hf' : linP l d ats[k] p.kids[k] = false := by simpa using hf
        have HFk := Lib.hid hf'
        have HUk := Lib.hid (upto_f (f := kidL l d ats p.kids) hlt (by rw [HKk.out]; exact hf'))
        clear hf hf'
        go_wp2_with fail
        refine wp_region_quiet_below (by kernel_rfl) (by kernel_rfl) ?_
        repeat (quiet_step (exact Calls.regrown_of (IH.out.known _ _ _ _ _ _ _ _ _ HFk.out (Hrr.out.at_ (below_regrown wr _ _)) HTk.out (Hm.out.at_ (below_regrown wr _ _)) HSk.out HNk.out)))
        refine wpQuiet_nil ?_
        intro _ hw'
        obtain ⟨⟨dq, osq⟩, hw''⟩ := hw'
        subst hw''
        have hb2 := hbw.trans ((below_regrown wr dq osq).mono hbw.size)
        clear d0 d1 d2 d3 d4 d5 d6 d7 d8
        go_wp2_with fail
        go_ret
        exact ⟨ret_bool (by rw [HF.out, HUk.out]; rfl), hb2⟩
    · have he : k = ats.length := by omega
      have HE : Hid (linP l (d + 1) t p = headL l d t p) := by unfold Hid; rw [HF.out, ← he, HU.out]; rfl
      clear he
      obtain ⟨x0, x1⟩ := HXTr.out
      obtain ⟨y0, y1, y2, y3, y4, y5⟩ := HXPr.out
      by_cases h5 : p.op = 5
      · have q5 := ieq_t h5
        have h2 : p.kids.length = 2 := by rw [HKL.out]; exact H52.out h5
        have h0k : 0 < p.kids.length := by omega
        have h1k : 1 < p.kids.length := by omega
        have HHD := Lib.hid (headL_or (l := l) (d := d) (t := t) h5 h0k h1k)
        obtain ⟨b, off, rfl, hbB, hvk⟩ := (HV.out.below hbw (Nat.le_refl _)).2 0 h0k
        obtain ⟨b2, off2, e2, hbB2, hvk2⟩ := (HV.out.below hbw (Nat.le_refl _)).2 1 h1k
        cases e2
        rw [show off + 0 * 6 = off by omega] at hvk
        rw [show off + 1 * 6 = off + 6 by omega] at hvk2
        obtain ⟨e4, he4, D4, cp4, c0, c1, c2, c3', c4, c5, hm4⟩ := hvk.parts
        obtain ⟨e5, he5, D5, cp5, d0, d1, d2, d3, d4, d5, hm5⟩ := hvk2.parts
        have a5 := H52.out
        have h0a : 0 < ats.length := by rw [← HKL.out]; exact h0k
        have h1a : 1 < ats.length := by rw [← HKL.out]; exact h1k
        have HT0 : Hid (shP l d t p.kids[0] = true ∧ shP l d t p.kids[1] = true) := ⟨(HSO.out 0 h0a h0k h5), (HSO.out 1 h1a h1k h5)⟩
        clear h5
        have HN01 : Hid (wP p.kids[0] ≤ 1000 ∧ wP p.kids[1] ≤ 1000) := by have a := wP_kid p 0 h0k; have b := wP_kid p 1 h1k; have := HN.out; exact ⟨by omega, by omega⟩
        have HM4 : Hid (RPs e4 wr wr.heap.size D4 p.kids[0].kids) := hm4.keep (fun _ _ => rfl) hbw.size
        have HM5 : Hid (RPs e5 wr wr.heap.size D5 p.kids[1].kids) := hm5.keep (fun _ _ => rfl) hbw.size
        have HRR : Hid (RDas wr wr.heap.size A l) := HR.out.at_ hbw
        have HKS : Hid (∀ w', Below wr.heap.size wr w' → w'.cell? ⟨w.heap.size, 0, none⟩ = some (.int .i64 t.data) ∧ w'.cell? ⟨w.heap.size, 1, none⟩ = some (.int .i64 t.index) ∧ w'.cell? ⟨w.heap.size + 1, 5, none⟩ = some (.slice (some ⟨b, off, none⟩) p.kids.length ep) ∧ w'.cell? ⟨b, off, none⟩ = some (.int .i64 p.kids[0].op) ∧ w'.cell? ⟨b, off + 1, none⟩ = some (.int .i64 p.kids[0].ctor) ∧ w'.cell? ⟨b, off + 2, none⟩ = some (.int .i64 p.kids[0].n) ∧ w'.cell? ⟨b, off + 3, none⟩ = some (.int .i64 p.kids[0].m) ∧ w'.cell? ⟨b, off + 4, none⟩ = some (.int .i64 p.kids[0].var) ∧ w'.cell? ⟨b, off + 5, none⟩ = some (.slice D4 p.kids[0].kids.length cp4) ∧ w'.cell? ⟨b, off + 6, none⟩ = some (.int .i64 p.kids[1].op) ∧ w'.cell? ⟨b, off + 7, none⟩ = some (.int .i64 p.kids[1].ctor) ∧ w'.cell? ⟨b, off + 8, none⟩ = some (.int .i64 p.kids[1].n) ∧ w'.cell? ⟨b, off + 9, none⟩ = some (.int .i64 p.kids[1].m) ∧ w'.cell? ⟨b, off + 10, none⟩ = some (.int .i64 p.kids[1].var) ∧ w'.cell? ⟨b, off + 11, none⟩ = some (.slice D5 p.kids[1].kids.length cp5)) := fun w' hW => ⟨(hW.cell (p := ⟨w.heap.size, 0, none⟩) (Go.block_lt_of_cell x0)).trans x0, (hW.cell (p := ⟨w.heap.size, 1, none⟩) (Go.block_lt_of_cell x1)).trans x1, (hW.cell (p := ⟨w.heap.size + 1, 5, none⟩) (Go.block_lt_of_cell y5)).trans y5, (hW.cell (p := ⟨b, off, none⟩) (Go.block_lt_of_cell c0)).trans c0, (hW.cell (p := ⟨b, off + 1, none⟩) (Go.block_lt_of_cell c1)).trans c1, (hW.cell (p := ⟨b, off + 2, none⟩) (Go.block_lt_of_cell c2)).trans c2, (hW.cell (p := ⟨b, off + 3, none⟩) (Go.block_lt_of_cell c3')).trans c3', (hW.cell (p := ⟨b, off + 4, none⟩) (Go.block_lt_of_cell c4)).trans c4, (hW.cell (p := ⟨b, off + 5, none⟩) (Go.block_lt_of_cell c5)).trans c5, (hW.cell (p := ⟨b, off + 6, none⟩) (Go.block_lt_of_cell d0)).trans d0, (hW.cell (p := ⟨b, off + 7, none⟩) (Go.block_lt_of_cell d1)).trans d1, (hW.cell (p := ⟨b, off + 8, none⟩) (Go.block_lt_of_cell d2)).trans d2, (hW.cell (p := ⟨b, off + 9, none⟩) (Go.block_lt_of_cell d3)).trans d3, (hW.cell (p := ⟨b, off + 10, none⟩) (Go.block_lt_of_cell d4)).trans d4, (hW.cell (p := ⟨b, off + 11, none⟩) (Go.block_lt_of_cell d5)).trans d5⟩
        have HBD : Hid (Below wr.heap.size wr wr.drew) := (Below.refl _ wr).drew
        have SQ := HKS.out wr.drew HBD.out
        have HV0 : Hid (∀ W, Below wr.heap.size wr W → _) := fun W h => vars_new l d A D4 cap cp4 e4 t p.kids[0] W (HRR.out.at_ h) HT.out (HM4.out.at_ h) HT0.out.1 HN01.out.1
        have HV1 : Hid (∀ W, Below wr.heap.size wr W → _) := fun W h => vars_new l d A D5 cap cp5 e5 t p.kids[1] W (HRR.out.at_ h) HT.out (HM5.out.at_ h) HT0.out.2 HN01.out.2
        clear c0 c1 c2 c3' c4 c5 d0 d1 d2 d3 d4 d5 hm4 hm5 hvk hvk2 he4 he5 x0 x1 y1 y2 y3 y4 y5
        go_wp2_with fail
        go_region_held3 (fun w' => w'.cell? ⟨w.heap.size, 0, none⟩ = some (.int .i64 t.data) ∧ w'.cell? ⟨w.heap.size, 1, none⟩ = some (.int .i64 t.index) ∧ w'.cell? ⟨w.heap.size + 1, 5, none⟩ = some (.slice (some ⟨b, off, none⟩) p.kids.length ep) ∧ w'.cell? ⟨b, off, none⟩ = some (.int .i64 p.kids[0].op) ∧ w'.cell? ⟨b, off + 1, none⟩ = some (.int .i64 p.kids[0].ctor) ∧ w'.cell? ⟨b, off + 2, none⟩ = some (.int .i64 p.kids[0].n) ∧ w'.cell? ⟨b, off + 3, none⟩ = some (.int .i64 p.kids[0].m) ∧ w'.cell? ⟨b, off + 4, none⟩ = some (.int .i64 p.kids[0].var) ∧ w'.cell? ⟨b, off + 5, none⟩ = some (.slice D4 p.kids[0].kids.length cp4) ∧ w'.cell? ⟨b, off + 6, none⟩ = some (.int .i64 p.kids[1].op) ∧ w'.cell? ⟨b, off + 7, none⟩ = some (.int .i64 p.kids[1].ctor) ∧ w'.cell? ⟨b, off + 8, none⟩ = some (.int .i64 p.kids[1].n) ∧ w'.cell? ⟨b, off + 9, none⟩ = some (.int .i64 p.kids[1].m) ∧ w'.cell? ⟨b, off + 10, none⟩ = some (.int .i64 p.kids[1].var) ∧ w'.cell? ⟨b, off + 11, none⟩ = some (.slice D5 p.kids[1].kids.length cp5)) (with_reducible exact SQ) (first | (go_at_call 63; (with_reducible refine (HV0.out wr.drew HBD.out).mono ?_); rintro e4 w4 ⟨A4, q4, rfl, hr4, hb4'⟩; have hb4 : Below wr.heap.size wr w4 := ⟨hb4'.os, hb4'.tape, hb4'.output, hb4'.size, hb4'.block⟩; have HR4 := Lib.hid hr4; have SQ := HKS.out w4 hb4; clear hr4 hb4') | (go_at_call 63; (with_reducible refine (HV1.out wr.drew HBD.out).mono ?_); rintro e4 w6 ⟨A5, q5, rfl, hr4, hb4'⟩; have hb6 : Below wr.heap.size wr w6 := ⟨hb4'.os, hb4'.tape, hb4'.output, hb4'.size, hb4'.block⟩; have HR5 := Lib.hid hr4; have SQ := HKS.out w6 hb6; clear hr4 hb4') | (go_at_call 63; (with_reducible refine (HV1.out w4 hb4).mono ?_); rintro e4 w5 ⟨A5, q5, rfl, hr4, hb4'⟩; have hb5 : Below wr.heap.size wr w5 := hb4.trans (hb4'.mono hb4.size); have HR5 := Lib.hid hr4; have HR4 := Lib.hid (HR4.out.at_ hb4'); have SQ := HKS.out w5 hb5; clear hr4 hb4') | (go_at_call 63; (with_reducible refine (HV0.out w6 hb6).mono ?_); rintro e4 w5 ⟨A4, q4, rfl, hr4, hb4'⟩; have hb5 : Below wr.heap.size wr w5 := hb6.trans (hb4'.mono hb6.size); have HR4 := Lib.hid hr4; have HR5 := Lib.hid (HR5.out.at_ hb4'); have SQ := HKS.out w5 hb5; clear hr4 hb4') | (go_at_call 62; (with_reducible refine (alike_any A4 A5 _ _ q4 q5 w5 HR4.out HR5.out).mono ?_); rintro e7 w7 ⟨rfl, hb7'⟩; have hb7 := hb5.trans (hb7'.mono hb5.size); have SQ := HKS.out w7 hb7; clear hb7'))
        all_goals
          go_wp2_with fail
          go_ret
          exact ⟨ret_bool (by rw [HE.out, HHD.out]), below_aft hbw hb7 hbw.size⟩
      · have q5 := ieq_f h5
        have HHD := Lib.hid (headL_no (l := l) (d := d) (t := t) h5)
        have HVN := Lib.hid (vars_new l (d + 1) A D cap ep e t p wr (HR.out.at_ hbw) HT.out (HV.out.at_ hbw) HSH.out HN.out)
        have HLN := Lib.hid (vrP_len l (d + 1) t p HSH.out)
        clear h5
        generalize vrP l (d + 1) t p = L at HHD HVN HLN
        go_wp2_with fail
        refine HVN.out.mono ?_
        rintro e4 w4 ⟨A4, c4, rfl, hr4, hb4⟩
        have HR4 := Lib.hid hr4
        have hl4 := hr4.1
        unfold maxLen at hl4
        have hb4w := below_aft hbw hb4 hbw.size
        clear hr4
        go_wp2_with fail
        clear x0 x1 y0 y1 y2 y3 y4 y5
        go_loopw [10] (fun i wq => ∃ k : Nat, k ≤ L.length ∧ i = .int .i64 k ∧ Hid (upto (onceV L) k = true) ∧ w4 = wq) (fun i _ => L.length - (intOf i).toNat)
        case atStart => exact ⟨0, by omega, rfl, rfl, rfl⟩
        case round =>
          obtain ⟨k2, hk2, rfl, HU2, rfl⟩ := hrel
          by_cases hlt2 : k2 < L.length
          · have hi2 : (k2 : Int) < (L.length : Int) := by omega
            have HFI := Lib.hid (find_any A4 L c4 L[k2].var w4 HR4.out)
            have HON := Lib.hid (onceV_at hlt2)
            obtain ⟨b, off, rfl, hbB, g0, _⟩ := HR4.out.2 k2 hlt2
            by_cases hq : findV L L[k2].var = k2
            · have qn : (findV L L[k2].var != (k2 : Int)) = false := by simp [hq]
              have HU3 : Hid (upto (onceV L) (k2 + 1) = true) := upto_t HU2.out (by rw [HON.out]; exact decide_eq_true hq)
              clear hq
              go_wp2_with (go_at_call 64; refine HFI.out.mono ?_; rintro e5 w5 ⟨rfl, rfl⟩)
              go_roundw
              case rel => exact ⟨k2 + 1, by omega, by go_num, HU3.out, trivial⟩
              case measure => simp [intOf]; omega
            · have qn : (findV L L[k2].var != (k2 : Int)) = true := by simp [hq]
              have HU3 := Lib.hid (upto_f (f := onceV L) hlt2 (by rw [HON.out]; exact decide_eq_false hq))
              clear hq
              go_wp2_with (go_at_call 64; refine HFI.out.mono ?_; rintro e5 w5 ⟨rfl, rfl⟩)
              go_ret
              exact ⟨ret_bool (by rw [HE.out, HHD.out, HU3.out]), hb4w⟩
          · have he2 : k2 = L.length := by omega
            have HU3 : Hid (upto (onceV L) L.length = true) := by unfold Hid; rw [← he2]; exact HU2.out
            clear he2
            go_wp2_with fail
            go_ret
            exact ⟨ret_bool (by rw [HE.out, HHD.out, HU3.out]), hb4w⟩
theorem linC_any (l : List Da) : ∀ d, LinC l d
  | 0 => fun A D cap ep e t p w _ _ _ hs _ => by rw [shP_zero] at hs; cases hs
  | d + 1 => linC_step l d (linC_any l d)
end Go.Proofs.YtbdiahnelnbdnaaGreat
/-
  PatternValid of the document. No statement is proved here.
-/
namespace Go.Proofs.YtbdiahnelnbdnaaGreat
open Go.RowKit Go.Sort Go.Deep
set_option maxRecDepth 100000
set_option linter.unusedVariables false
noncomputable def isP (l : List Da) (t : Ty) (p : Pt) : Bool := shP l 10 t p && (decide (1 + wP p ≤ 60) && linP l 10 t p)
theorem isP_sh {l : List Da} {t : Ty} {p : Pt} (h : shP l 10 t p = false) : isP l t p = false := by unfold isP; rw [h]; rfl
theorem isP_big {l : List Da} {t : Ty} {p : Pt} (h : ¬ 1 + wP p ≤ 60) : isP l t p = false := by unfold isP; rw [decide_eq_false h]; simp
theorem isP_go {l : List Da} {t : Ty} {p : Pt} (h : shP l 10 t p = true) (h' : 1 + wP p ≤ 60) : isP l t p = linP l 10 t p := by unfold isP; rw [h, decide_eq_true h']; rfl
noncomputable def pvT (l : List Da) (t : Ty) (p : Pt) : Bool := dec (TyOK l t) && isP l t p
theorem pvT_yes {l : List Da} {t : Ty} {p : Pt} (h : TyOK l t) : pvT l t p = isP l t p := by unfold pvT; rw [dec_t h]; rfl
theorem pvT_no {l : List Da} {t : Ty} {p : Pt} (h : ¬ TyOK l t) : pvT l t p = false := by unfold pvT; rw [dec_f h]; rfl
set_option maxHeartbeats 1600000 in
theorem isP_any (A D : Option Addr) (l : List Da) (cap ep e : Nat) (t : Ty) (p : Pt) (w : World) (hr : RDas w w.heap.size A l) (ht : TyOK l t) (hv : RPs e w w.heap.size D p.kids) (hn : wP p ≤ 1048576) :
    Calls Tryz.prog 33 #[.slice A l.length cap, .agg #[.int .i64 t.data, .int .i64 t.index], .agg #[.int .i64 p.op, .int .i64 p.ctor, .int .i64 p.n, .int .i64 p.m, .int .i64 p.var, .slice D p.kids.length ep]] w fun e w' => e = .returned (.bool (isP l t p)) ∧ Below w.heap.size w w' := by
  have HR := Lib.hid hr
  have HT := Lib.hid ht
  have HV := Lib.hid hv
  have IS : Hid (ShC l 10 10) := shS_any l 10 (by omega)
  clear hr ht hv
  generalize hw0 : (w.alloc (.cells #[.int .i64 t.data, .int .i64 t.index] 35)).alloc (.cells #[.int .i64 p.op, .int .i64 p.ctor, .int .i64 p.n, .int .i64 p.m, .int .i64 p.var, .slice D p.kids.length ep] 38) = w0
  have hb0 := below_box2 hw0
  have HXT : Hid (Bx w0 w.heap.size t) := by rw [← hw0]; exact ⟨by simp [go_sem], by simp [go_sem]⟩
  have HXP : Hid (PBx w0 (w.heap.size + 1) p (.slice D p.kids.length ep)) := by rw [← hw0]; exact ⟨by simp [go_sem], by simp [go_sem], by simp [go_sem], by simp [go_sem], by simp [go_sem], by simp [go_sem]⟩
  have HW := Lib.hid hw0
  clear hw0
  obtain ⟨x0, x1⟩ := HXT.out
  obtain ⟨y0, y1, y2, y3, y4, y5⟩ := HXP.out
  by_cases hf : shP l 10 t p = true
  · have HF := Lib.hid hf
    clear hf
    by_cases h60 : 1 + wP p ≤ 60
    · have HI := Lib.hid (isP_go HF.out h60)
      go_enter Tryz.func33, Tryz.ntmps33
      go_wp2_with (first | (go_at_call 45; rw [HW.out]; refine (IS.out.known A D cap ep e t p true _ HF.out (HR.out.at_ hb0) HT.out (HV.out.at_ hb0)).mono ?_; rintro e1 w1 ⟨rfl, hb1⟩; obtain ⟨u0, u1⟩ := HXT.out.at_ hb1; obtain ⟨z0, z1, z2, z3, z4, z5⟩ := HXP.out.at_ hb1; have hb1w := below_aft hb0 hb1 hb0.size) | (go_at_call 46; refine (cntPS_any e D ep p 60 _ (HV.out.at_ hb1w) hn (by omega) (by omega)).mono ?_; rintro e2 w2 ⟨r, rfl, hr, hb2⟩; have HC := Lib.hid hr; obtain ⟨z0, z1⟩ := HXT.out.at_ (hb1.trans (hb2.mono hb1.size)); obtain ⟨y0', y1', y2', y3', y4', y5'⟩ := HXP.out.at_ (hb1.trans (hb2.mono hb1.size)); have hb2w := below_aft hb1w hb2 hb1w.size; have hq : decide (r ≤ 60) = true := decide_eq_true (by have := HC.out.1 (by omega); omega); clear hr) | (go_at_call 47; refine (linC_any l 10 A D cap ep e t p _ (HR.out.at_ hb2w) HT.out (HV.out.at_ hb2w) HF.out (by omega)).mono ?_; rintro e3 w3 ⟨rfl, hb3⟩))
      all_goals go_ret
      all_goals exact ⟨ret_bool HI.out.symm, below_aft hb2w hb3 hb2w.size⟩
    · have HI := Lib.hid (isP_big (l := l) (t := t) h60)
      go_enter Tryz.func33, Tryz.ntmps33
      go_wp2_with (first | (go_at_call 45; rw [HW.out]; refine (IS.out.known A D cap ep e t p true _ HF.out (HR.out.at_ hb0) HT.out (HV.out.at_ hb0)).mono ?_; rintro e1 w1 ⟨rfl, hb1⟩; obtain ⟨u0, u1⟩ := HXT.out.at_ hb1; obtain ⟨z0, z1, z2, z3, z4, z5⟩ := HXP.out.at_ hb1; have hb1w := below_aft hb0 hb1 hb0.size) | (go_at_call 46; refine (cntPS_any e D ep p 60 _ (HV.out.at_ hb1w) hn (by omega) (by omega)).mono ?_; rintro e2 w2 ⟨r, rfl, hr, hb2⟩; have HC := Lib.hid hr; obtain ⟨z0, z1⟩ := HXT.out.at_ (hb1.trans (hb2.mono hb1.size)); obtain ⟨y0', y1', y2', y3', y4', y5'⟩ := HXP.out.at_ (hb1.trans (hb2.mono hb1.size)); have hb2w := below_aft hb1w hb2 hb1w.size; have hq : decide (r ≤ 60) = false := decide_eq_false (by have := HC.out.2.1 (by omega); omega); clear hr))
      all_goals go_ret
      all_goals exact ⟨ret_bool HI.out.symm, hb2w⟩
  · have hf' : shP l 10 t p = false := by simpa using hf
    have HF := Lib.hid hf'
    have HI := Lib.hid (isP_sh hf')
    clear hf hf'
    go_enter Tryz.func33, Tryz.ntmps33
    go_wp2_with (go_at_call 45; rw [HW.out]; refine (IS.out.known A D cap ep e t p false _ HF.out (HR.out.at_ hb0) HT.out (HV.out.at_ hb0)).mono ?_; rintro e1 w1 ⟨rfl, hb1⟩; obtain ⟨u0, u1⟩ := HXT.out.at_ hb1; obtain ⟨z0, z1, z2, z3, z4, z5⟩ := HXP.out.at_ hb1; have hb1w := below_aft hb0 hb1 hb0.size)
    go_ret
    exact ⟨ret_bool HI.out.symm, hb1w⟩
theorem pv_spec (A D : Option Addr) (l : List Da) (cap ep e : Nat) (t : Ty) (p : Pt) (w : World) (hr : RDas w w.heap.size A l) (hv : RPs e w w.heap.size D p.kids) (hn : wP p ≤ 1048576) :
    Calls Tryz.prog 20 #[.slice A l.length cap, .agg #[.int .i64 t.data, .int .i64 t.index], .agg #[.int .i64 p.op, .int .i64 p.ctor, .int .i64 p.n, .int .i64 p.m, .int .i64 p.var, .slice D p.kids.length ep]] w fun e w' => e = .returned (.bool (pvT l t p)) ∧ Below w.heap.size w w' := by
  have Hr := Lib.hid hr
  have HV := Lib.hid hv
  clear hr hv
  generalize hw0 : (w.alloc (.cells #[.int .i64 t.data, .int .i64 t.index] 35)).alloc (.cells #[.int .i64 p.op, .int .i64 p.ctor, .int .i64 p.n, .int .i64 p.m, .int .i64 p.var, .slice D p.kids.length ep] 38) = w0
  have hb0 := below_box2 hw0
  have HXT : Hid (Bx w0 w.heap.size t) := by rw [← hw0]; exact ⟨by simp [go_sem], by simp [go_sem]⟩
  have HXP : Hid (PBx w0 (w.heap.size + 1) p (.slice D p.kids.length ep)) := by rw [← hw0]; exact ⟨by simp [go_sem], by simp [go_sem], by simp [go_sem], by simp [go_sem], by simp [go_sem], by simp [go_sem]⟩
  have HW := Lib.hid hw0
  clear hw0
  by_cases ht : TyOK l t
  · have HT := Lib.hid ht
    have HF := Lib.hid (pvT_yes (p := p) ht)
    clear ht
    go_enter Tryz.func20, Tryz.ntmps20
    go_wp2_with (first | (go_at_call 32; rw [HW.out]; refine (typeV_yes (t := t) (Hr.out.at_ hb0) HT.out).mono ?_; rintro e1 w1 ⟨rfl, hb1⟩; obtain ⟨x0, x1⟩ := HXT.out.at_ hb1; obtain ⟨y0, y1, y2, y3, y4, y5⟩ := HXP.out.at_ hb1; have hb1w := below_aft hb0 hb1 hb0.size) | (go_at_call 33; refine (isP_any A D l cap ep e t p _ (Hr.out.at_ hb1w) HT.out (HV.out.at_ hb1w) hn).mono ?_; rintro e2 w2 ⟨rfl, hb2⟩))
    all_goals go_ret
    all_goals exact ⟨ret_bool HF.out.symm, below_aft hb1w hb2 hb1w.size⟩
  · have HT := Lib.hid ht
    have HF := Lib.hid (pvT_no (p := p) ht)
    clear ht
    go_enter Tryz.func20, Tryz.ntmps20
    go_wp2_with (go_at_call 32; rw [HW.out]; refine (typeV_no (t := t) (Hr.out.at_ hb0) HT.out).mono ?_; rintro e1 w1 ⟨rfl, hb1⟩; have hb1w := below_aft hb0 hb1 hb0.size)
    go_ret
    exact ⟨ret_bool HF.out.symm, hb1w⟩
end Go.Proofs.YtbdiahnelnbdnaaGreat
/-
  When the program's walk over a pattern says yes: plain mathematics. No statement is proved here.
-/
namespace Go.Proofs.YtbdiahnelnbdnaaGreat
open Go.RowKit
set_option maxRecDepth 100000
set_option linter.unusedVariables false
theorem noV_of {L : List Vt} {n : Int} {i : Nat} (h : findV L n = (i : Nat)) : NoV L n i := by
  unfold findV at h
  split at h
  · rename_i hlt
    have e : L.findIdx (fun x => x.var == n) = i := by omega
    intro j hj hji
    have := List.not_of_lt_findIdx (p := fun x : Vt => x.var == n) (xs := L) (i := j) (by omega)
    simpa using this
  · omega
theorem findV_var {L : List Vt} {n : Int} {i : Nat} (h : findV L n = (i : Nat)) (hi : i < L.length) : L[i].var = n := by
  unfold findV at h
  split at h
  · rename_i hlt
    have e : L.findIdx (fun x => x.var == n) = i := by omega
    have := List.findIdx_getElem (p := fun x : Vt => x.var == n) (w := hlt)
    simp only [e] at this
    simpa using this
  · omega
theorem once_yes {L : List Vt} {k : Nat} (hk : k < L.length) (h : NoV L L[k].var k) : onceV L k = true := by
  rw [onceV_at hk]; exact decide_eq_true (findV_at h hk rfl)
theorem once_no {L : List Vt} {k : Nat} (hk : k < L.length) (h : ¬ NoV L L[k].var k) : onceV L k = false := by
  rw [onceV_at hk]; exact decide_eq_false (fun e => h (noV_of e))
def Once (L : List Vt) : Prop := upto (onceV L) L.length = true
theorem Once.at_ {L : List Vt} (h : Once L) {k : Nat} (hk : k < L.length) : findV L L[k].var = k := by
  have := upto_get h hk
  rw [onceV_at hk] at this
  exact of_decide_eq_true this
/-- The k-th of the first list is in the second. -/
noncomputable def inV (a b : List Vt) (i : Nat) : Bool := dec (a.getD i default ∈ b)
theorem inV_at {a b : List Vt} {i : Nat} (h : i < a.length) : inV a b i = dec (a[i] ∈ b) := by unfold inV; rw [getD_at a i h]
noncomputable def sameB (a b : List Vt) : Bool := decide (a.length = b.length) && upto (inV a b) a.length
theorem alV_in {a b : List Vt} {i : Nat} (h : i < a.length) (hb : Once b) : alV a b i = inV a b i := by
  rw [inV_at h]
  by_cases hm : a[i] ∈ b
  · rw [dec_t hm]
    obtain ⟨k, hk, e⟩ := List.mem_iff_getElem.1 hm
    have h1 : findV b a[i].var = k := by rw [← e]; exact hb.at_ hk
    rw [alV_yes h hk h1]
    exact eqv_t (by rw [e])
  · rw [dec_f hm]
    rcases findV_cases b a[i].var with h1 | ⟨k, hk, h1⟩
    · exact alV_no h h1
    · rw [alV_yes h hk h1]
      refine eqv_f (fun e => hm ?_)
      have h2 := findV_var h1 hk
      have h3 : b[k] = a[i] := by
        cases hbk : b[k]; cases hai : a[i]
        rw [hbk, hai] at e h2
        simp only at e h2
        rw [e, h2]
      rw [← h3]; exact List.getElem_mem hk
theorem upto_all {f : Nat → Bool} : ∀ {n : Nat}, (∀ i, i < n → f i = true) → upto f n = true
  | 0, _ => rfl
  | n + 1, h => upto_t (upto_all (fun i hi => h i (by omega))) (h n (by omega))
theorem upto_congr {f g : Nat → Bool} : ∀ n, (∀ i, i < n → f i = g i) → upto f n = upto g n
  | 0, _ => rfl
  | n + 1, h => by
    show (upto f n && f n) = (upto g n && g n)
    rw [upto_congr n (fun i hi => h i (by omega)), h n (by omega)]
theorem alike_same {a b : List Vt} (hb : Once b) : alike a b = sameB a b := by
  unfold alike sameB
  rw [upto_congr (g := inV a b) a.length (fun i hi => alV_in hi hb), Bool.and_comm]
/-- The parts' lists, one behind the other. -/
noncomputable def lisV (f : Nat → List Vt) (k : Nat) : List (List Vt) := (List.range k).map f
theorem lisV_len (f : Nat → List Vt) (k : Nat) : (lisV f k).length = k := by simp [lisV]
theorem lisV_at (f : Nat → List Vt) (k j : Nat) (h : j < (lisV f k).length) : (lisV f k)[j] = f j := by simp [lisV]
theorem lisV_flat (f : Nat → List Vt) : ∀ k, (lisV f k).flatten = catV f k
  | 0 => rfl
  | k + 1 => by
    have h := lisV_flat f k
    unfold lisV at h ⊢
    rw [List.range_succ, List.map_append, List.flatten_append, h]
    simp [catV]
theorem lin_once {l : List Da} : ∀ {d : Nat} {t : Ty} {p : Pt}, shP l d t p = true → linP l d t p = true → Once (vrP l d t p)
  | 0, t, p, h, _ => by rw [shP_zero] at h; cases h
  | d + 1, t, p, h, h' => by
    obtain ⟨h1, h2, h3⟩ := shP_parts h
    rw [linP_go, Bool.and_eq_true] at h'
    by_cases h5 : p.op = 5
    · have ht : tysP l t p = [t, t] := by rw [tysP_other (by omega), h5]; rfl
      have hlen : (tysP l t p).length = 2 := by rw [ht]; rfl
      have h0 : 0 < (tysP l t p).length := by omega
      have h0k : 0 < p.kids.length := by omega
      have hs0 := h3 0 h0 h0k
      have hl0 := upto_get h'.1 h0
      rw [kidL_at h0 h0k] at hl0
      have ho := lin_once hs0 hl0
      have e : vrP l (d + 1) t p = vrP l d (tysP l t p)[0] p.kids[0] := by
        rw [vrP_go, hdV_no (by omega)]
        have : limV l t p = 1 := by unfold limV; rw [if_pos h5]
        rw [this]
        show [] ++ ([] ++ kidR l d (tysP l t p) p.kids 0) = _
        rw [kidR_at h0 h0k]; rfl
      rw [e]; exact ho
    · have := h'.2
      rw [headL_no h5] at this
      exact this
/-- The program's answer at a counter's value. -/
noncomputable def okP (l : List Da) (d : Nat) (t : Ty) (p : Pt) (n : Nat) : Bool := shP l d t p && (decide (n + (1 + wP p) ≤ 60) && linP l d t p)
section
variable {l : List Da} {d : Nat} {t : Ty} {p : Pt} {n : Nat}
theorem okP_true (h : okP l d t p n = true) : shP l d t p = true ∧ n + (1 + wP p) ≤ 60 ∧ linP l d t p = true := by
  unfold okP at h
  rw [Bool.and_eq_true, Bool.and_eq_true] at h
  exact ⟨h.1, of_decide_eq_true h.2.1, h.2.2⟩
theorem okP_of (h : shP l d t p = true) (h' : n + (1 + wP p) ≤ 60) : okP l d t p n = linP l d t p := by
  unfold okP; rw [h, decide_eq_true h']; rfl
theorem okP_zero : okP l 0 t p n = false := by unfold okP; rw [shP_zero]; rfl
theorem okP_sh (h : shP l d t p = false) : okP l d t p n = false := by unfold okP; rw [h]; rfl
theorem okP_own (h : ¬ OwnOK l t p) : okP l d t p n = false := by
  cases d with
  | zero => exact okP_zero
  | succ d => exact okP_sh (shP_own h)
theorem okP_len (h : ¬ p.kids.length = (tysP l t p).length) : okP l d t p n = false := by
  cases d with
  | zero => exact okP_zero
  | succ d => exact okP_sh (shP_len h)
theorem okP_big (h : 60 < n + 1) : okP l d t p n = false := by
  unfold okP; rw [decide_eq_false (by omega)]; simp
theorem okP_kid {k : Nat} (hk : k < (tysP l t p).length) (hk' : k < p.kids.length) (h : okP l d (tysP l t p)[k] p.kids[k] (n + upKP p.kids k) = false) : okP l (d + 1) t p n = false := by
  by_cases hb : okP l (d + 1) t p n = true
  · obtain ⟨h1, h2, h3⟩ := okP_true hb
    obtain ⟨_, _, h4⟩ := shP_parts h1
    rw [linP_go, Bool.and_eq_true] at h3
    have h5 := upto_get h3.1 hk
    rw [kidL_at hk hk'] at h5
    have h6 := upKP_le p (k + 1) hk'
    rw [upKP_succ _ _ hk'] at h6
    rw [okP_of (h4 k hk hk') (by omega), h5] at h
    cases h
  · simpa using hb
def KidsOK (l : List Da) (d : Nat) (t : Ty) (p : Pt) (n k : Nat) : Prop := n + upKP p.kids k ≤ 60 ∧ ∀ i (h : i < (tysP l t p).length) (h' : i < p.kids.length), i < k → shP l d (tysP l t p)[i] p.kids[i] = true ∧ linP l d (tysP l t p)[i] p.kids[i] = true
theorem KidsOK.zero (h : n + 1 ≤ 60) : KidsOK l d t p n 0 := ⟨by rw [upKP_zero]; exact h, fun i _ _ h => absurd h (Nat.not_lt_zero _)⟩
theorem KidsOK.step {k : Nat} (h : KidsOK l d t p n k) (hk : k < (tysP l t p).length) (hk' : k < p.kids.length) (hf : okP l d (tysP l t p)[k] p.kids[k] (n + upKP p.kids k) = true) : KidsOK l d t p n (k + 1) := by
  obtain ⟨h1, h2, h3⟩ := okP_true hf
  refine ⟨by rw [upKP_succ _ _ hk']; omega, fun i hi hi' hik => ?_⟩
  by_cases e : i = k
  · subst e; exact ⟨h1, h3⟩
  · exact h.2 i hi hi' (by omega)
theorem KidsOK.all (h : KidsOK l d t p n (tysP l t p).length) (ho : OwnOK l t p) (hl : p.kids.length = (tysP l t p).length) : okP l (d + 1) t p n = headL l d t p ∧ n + (1 + wP p) ≤ 60 := by
  have hc : n + (1 + wP p) ≤ 60 := by have := h.1; rw [← hl, upKP_all] at this; exact this
  have hs : shP l (d + 1) t p = true := by
    rw [shP_go ho hl]
    exact upto_all (fun i hi => by rw [kidP_at hi (by omega)]; exact (h.2 i hi (by omega) hi).1)
  refine ⟨?_, hc⟩
  rw [okP_of hs hc, linP_go, upto_all (fun i hi => by rw [kidL_at hi (by omega)]; exact (h.2 i hi (by omega) hi).2)]
  rfl
theorem KidsOK.or_ (h : KidsOK l d t p n (tysP l t p).length) (ho : OwnOK l t p) (hl : p.kids.length = (tysP l t p).length) (h5 : p.op = 5) (h0 : 0 < p.kids.length) (h1 : 1 < p.kids.length) :
    okP l (d + 1) t p n = sameB (vrP l d t p.kids[0]) (vrP l d t p.kids[1]) ∧ vrP l (d + 1) t p = vrP l d t p.kids[0] := by
  have ht : tysP l t p = [t, t] := by rw [tysP_other (by omega), h5]; rfl
  have a1 := h.2 1 (by omega) h1 (by omega)
  simp only [ht, List.getElem_cons_succ, List.getElem_cons_zero] at a1
  refine ⟨?_, ?_⟩
  · rw [(h.all ho hl).1, headL_or h5 h0 h1, alike_same (lin_once a1.1 a1.2)]
  · rw [vrP_go, hdV_no (by omega)]
    have : limV l t p = 1 := by unfold limV; rw [if_pos h5]
    rw [this]
    show [] ++ ([] ++ kidR l d (tysP l t p) p.kids 0) = _
    rw [kidR_at (by omega) h0]
    simp only [ht, List.getElem_cons_zero, List.nil_append]
theorem KidsOK.not_or (h : KidsOK l d t p n (tysP l t p).length) (ho : OwnOK l t p) (hl : p.kids.length = (tysP l t p).length) (h5 : ¬ p.op = 5) :
    okP l (d + 1) t p n = upto (onceV (vrP l (d + 1) t p)) (vrP l (d + 1) t p).length ∧ vrP l (d + 1) t p = hdV t p ++ (lisV (kidR l d (tysP l t p) p.kids) (tysP l t p).length).flatten := by
  refine ⟨?_, ?_⟩
  · rw [(h.all ho hl).1, headL_no h5]
  · rw [vrP_go, lisV_flat]
    have : limV l t p = (tysP l t p).length := by unfold limV; rw [if_neg h5]
    rw [this]
theorem okP_is (l : List Da) (t : Ty) (p : Pt) : okP l 10 t p 0 = isP l t p := by
  unfold okP isP
  simp only [Nat.zero_add]
end
end Go.Proofs.YtbdiahnelnbdnaaGreat
/-
  A map from integers to bools that the call itself has made, as a set. No variable stands twice: the program's function. No statement is proved here.
-/
namespace Go.Proofs.YtbdiahnelnbdnaaGreat
open Go.RowKit Go.Maps
set_option maxRecDepth 100000
set_option linter.unusedVariables false
def MapIv (w : World) (b n : Nat) (S : Int → Prop) : Prop :=
  ∃ D : DataW Unit, w.ownsMap Tryz.prog 3 (plainElem Tryz.prog 4) b n D ∧ IsMap D ∧ ∀ s : Int, D.atKey (.int .i64 s) (.lit (.bool false)) = .lit (.bool (dec (S s)))
theorem zeroBool (w : World) : (zeroValue 4).run Tryz.prog w = .ok (.bool false) w := by kernel_rfl
theorem keyIv {s : Int} (h : (Lit.int .i64 s).wf = true) : keyOf Tryz.prog 3 (.int .i64 s) = some (.int .i64 s) := keyOf_int_mk Tryz.underlying3 h
theorem wf_small {s : Int} (h : 0 ≤ s ∧ s ≤ 5) : (Lit.int .i64 s).wf = true := WalkArith.wf_i64 (by omega)
theorem MapIv.made (w : World) : MapIv (w.alloc (.map #[] 0)) w.heap.size 0 (fun _ => False) :=
  ⟨.map [], World.ownsMap_made _ _ _ _, ⟨[], rfl⟩, fun s => by rw [dec_f (fun h => h)]; rfl⟩
theorem MapIv.lt {w : World} {b n : Nat} {S : Int → Prop} (h : MapIv w b n S) : b < w.heap.size := by
  obtain ⟨D, ho, _⟩ := h; exact ho.lt
theorem MapIv.keep {w w' : World} {b n n' : Nat} {S S' : Int → Prop} (h : MapIv w b n S) (hb : w'.heap[b]? = w.heap[b]?) (hn : n ≤ n') (hS : ∀ s, S s ↔ S' s) : MapIv w' b n' S' := by
  obtain ⟨D, ⟨es, clock, h1, h2, h3, h4⟩, hm, hat⟩ := h
  exact ⟨D, ⟨es, clock, hb.trans h1, h2, by omega, h4⟩, hm, fun s => by rw [hat s, dec_congr (hS s)]⟩
theorem MapIv.look {w : World} {b n : Nat} {S : Int → Prop} (h : MapIv w b n S) {s : Int} (hs : (Lit.int .i64 s).wf = true) : (Instr.lookup 132 (.map (some b)) (.int .i64 s) false).run Tryz.prog w = .ok (.bool (dec (S s))) w := by
  obtain ⟨D, ho, hm, hat⟩ := h
  obtain ⟨v, ps, hrun, hv⟩ := ho.lookup (int_keyed Tryz.underlying3) Tryz.underlying132 (zeroBool w) (zd := .lit (.bool false)) (zp := []) (plainElem_bool Tryz.underlying4 false) (keyIv hs)
  rw [hat] at hv
  have : v = .bool (dec (S s)) := by
    unfold plainElem at hv
    rw [Tryz.underlying4] at hv
    cases v <;> simp at hv
    rw [hv.1]
  rw [hrun, this]
theorem MapIv.put {w : World} {b n : Nat} {D : DataW Unit} {S : Int → Prop} {s : Int} (ho : w.ownsMap Tryz.prog 3 (plainElem Tryz.prog 4) b n (D.put (.int .i64 s) (.lit (.bool true)))) (hm : IsMap D) (hat : ∀ s : Int, D.atKey (.int .i64 s) (.lit (.bool false)) = .lit (.bool (dec (S s)))) :
    MapIv w b n (fun t => t = s ∨ S t) := by
  refine ⟨_, ho, ?_, fun t => ?_⟩
  · obtain ⟨es, rfl⟩ := hm
    exact ⟨_, rfl⟩
  · by_cases e : t = s
    · subst e
      rw [atKey_put_same (k := .int .i64 t) hm True.intro, dec_t (Or.inl rfl)]
    · rw [atKey_put_other (by intro e'; injection e' with e1 e''; exact e e''), hat, dec_congr (show S t ↔ (t = s ∨ S t) from ⟨Or.inr, fun h => h.resolve_left e⟩)]
theorem RVts.below {w w' : World} {B B0 : Nat} {A : Option Addr} {l : List Vt} (h : RVts w B A l) (hb : Below B0 w w') (hB : B ≤ B0) : RVts w' B A l := h.keep (fun _ hp => hb.cell (Nat.lt_of_lt_of_le hp hB)) (Nat.le_refl _)
/-- The variables of the first k. -/
def VS (L : List Vt) (k : Nat) (n : Int) : Prop := ∃ j, ∃ h : j < L.length, j < k ∧ L[j].var = n
theorem VS.zero (L : List Vt) (n : Int) : False ↔ VS L 0 n := ⟨False.elim, fun ⟨j, _, h, _⟩ => absurd h (by omega)⟩
theorem VS.succ (L : List Vt) (k : Nat) (hk : k < L.length) (n : Int) : (n = L[k].var ∨ VS L k n) ↔ VS L (k + 1) n := by
  constructor
  · rintro (rfl | ⟨j, h, h1, h2⟩)
    · exact ⟨k, hk, by omega, rfl⟩
    · exact ⟨j, h, by omega, h2⟩
  · rintro ⟨j, h, h1, h2⟩
    by_cases e : j = k
    · subst e; exact .inl h2.symm
    · exact .inr ⟨j, h, by omega, h2⟩
theorem VS.yes {L : List Vt} {k : Nat} (hk : k < L.length) (h : VS L k L[k].var) : onceV L k = false := once_no hk (fun hn => by
  obtain ⟨j, hj, h1, h2⟩ := h
  exact hn j hj h1 h2)
theorem VS.no {L : List Vt} {k : Nat} (hk : k < L.length) (h : ¬ VS L k L[k].var) : onceV L k = true := once_yes hk (fun j hj h1 h2 => h ⟨j, hj, h1, h2⟩)
set_option maxHeartbeats 1600000 in
theorem varTwice_any (A : Option Addr) (L : List Vt) (cap : Nat) (w : World) (hr : RVts w w.heap.size A L) (hv : ∀ x ∈ L, 0 ≤ x.var ∧ x.var ≤ 5) :
    Calls Tryz.prog 72 #[.slice A L.length cap] w fun e w' => e = .returned (.bool (!upto (onceV L) L.length)) ∧ Below w.heap.size w w' := by
  have hn := hr.1
  have hkm : L.length ≤ maxLen := hn
  unfold maxLen at hn
  have Hr := Lib.hid hr
  have HV := Lib.hid hv
  clear hr hv
  have hmm := @run_makeMap Tryz.prog
  go_enter Tryz.func72, Tryz.ntmps72
  go_wp2_with fail
  go_loopw [9] (fun i wr => ∃ k : Nat, k ≤ L.length ∧ i = .int .i64 k ∧ Hid (upto (onceV L) k = true) ∧ MapIv wr w.heap.size k (VS L k) ∧ Below w.heap.size w wr) (fun i _ => L.length - (intOf i).toNat)
  case atStart => exact ⟨0, by omega, rfl, rfl, (MapIv.made w).keep rfl (Nat.le_refl _) (VS.zero L), (Below.refl _ _).alloc (Nat.le_refl _) _⟩
  case round =>
    obtain ⟨k, hk, rfl, HU, hs, hb⟩ := hrel
    clear hmm
    by_cases hlt : k < L.length
    · obtain ⟨b, off, rfl, hbB, c0, c1, c2⟩ := (Hr.out.below hb (Nat.le_refl _)).2 k hlt
      have hwf := wf_small (HV.out _ (List.getElem_mem hlt))
      have HWF := Lib.hid hwf
      have hbs := hb.size
      have hl0 := hs.lt
      have HS := Lib.hid hs
      have HVY := Lib.hid (VS.yes hlt)
      have HVN := Lib.hid (VS.no hlt)
      have HSU := Lib.hid (VS.succ L k hlt)
      have HUF := Lib.hid (fun h => upto_f (f := onceV L) hlt h)
      have HUT := Lib.hid (fun h => upto_t (f := onceV L) HU.out h)
      clear hs hwf
      generalize L[k] = x at HWF HVY HVN HSU c0 c1 c2
      have hlook : ∀ o : Obj, (Instr.lookup 132 (.map (some w.heap.size)) (.int .i64 x.var) false).run Tryz.prog (wr.alloc o) = .ok (.bool (dec (VS L k x.var))) (wr.alloc o) := fun o => (HS.out.keep (w' := wr.alloc o) (Below.heap_alloc wr o _ HS.out.lt) (Nat.le_refl _) (fun _ => Iff.rfl)).look HWF.out
      by_cases hin : VS L k x.var
      · have hd := dec_t hin
        have HF := Lib.hid (HUF.out (HVY.out hin))
        clear hin
        go_wp2_with fail
        go_ret
        exact ⟨ret_bool (by rw [HF.out]; rfl), hb.alloc (by omega) _⟩
      · have hd := dec_f hin
        have HT : Hid (upto (onceV L) (k + 1) = true) := HUT.out (HVN.out hin)
        clear hin
        obtain ⟨D, ho, hmD, hat⟩ := HS.out
        have HA := Lib.hid hat
        have HO := Lib.hid ho
        have HM := Lib.hid hmD
        clear hat ho hmD
        have hkm' : k < maxLen := by unfold maxLen; omega
        go_wp2_with (at_mapUpdate; refine wpList_mapUpdate_own _ rfl _ _ _ 132 rfl 3 4 (int_keyed Tryz.underlying3) Tryz.underlying132 (plainElem Tryz.prog 4) w.heap.size k D rfl (HO.out.alloc _) hkm' _ _ (.int .i64 x.var) rfl rfl (keyIv HWF.out) (.lit (.bool true)) [] (plainElem_bool Tryz.underlying4 true) ?_; intro w1 ho1 hg1)
        have hb1 : Below w.heap.size w w1 := (hb.alloc (by omega) _).grown hg1 (by simp; omega) (fun g e => by injection e with e; omega)
        have s1 := (MapIv.put ho1 HM.out HA.out).keep (w' := w1) rfl (Nat.le_refl _) (fun n => HSU.out n)
        clear hlook hd HS HA HO HM hg1 c0 c1 c2 ho1
        go_roundw
        case rel => exact ⟨k + 1, by omega, by go_num, HT, s1, hb1⟩
        case measure => simp [intOf]; omega
    · have he : k = L.length := by omega
      have HE : Hid (upto (onceV L) L.length = true) := by unfold Hid; rw [← he]; exact HU.out
      clear he
      go_wp2_with fail
      go_ret
      exact ⟨ret_bool (by rw [HE.out]; rfl), hb⟩
end Go.Proofs.YtbdiahnelnbdnaaGreat
/-
  Whether two lists have the same variables: the program's closure, the library's functions over it, the program's function. No statement is proved here.
-/
namespace Go.Proofs.YtbdiahnelnbdnaaGreat
open Go.RowKit Go.Sort Go.Deep
set_option maxRecDepth 100000
set_option linter.unusedVariables false
abbrev vv (x : Vt) : Value := .agg #[.int .i64 x.var, .int .i64 x.ty.data, .int .i64 x.ty.index]
theorem eqlVt (x y : Vt) (w : World) : (Go.binOp .eql 104 (vv x) (vv y)).run Tryz.prog w = .ok (.bool (dec (x = y))) w := by
  have hS : Tryz.prog.underlying 104 = some (.struct (Tryz.prog.fieldsOf 104)) := by kernel_rfl
  have hp : Tryz.prog.stoodInHeld 104 = false := by kernel_rfl
  have hS2 : Tryz.prog.underlying 35 = some (.struct (Tryz.prog.fieldsOf 35)) := by kernel_rfl
  have hp2 : Tryz.prog.stoodInHeld 35 = false := by kernel_rfl
  have u3 := Tryz.underlying3
  have a3 := Tryz.isAgg3
  have z3 := Tryz.sizeOf3
  have a4 := Tryz.isAgg35
  have z4 := Tryz.sizeOf35
  obtain ⟨a, b, c⟩ := x
  obtain ⟨d, e, f⟩ := y
  have hN : (Op.equalIn 9999 35 (.agg #[.int .i64 b, .int .i64 c]) (.agg #[.int .i64 e, .int .i64 f])).run Tryz.prog w = .ok (b == e && c == f) w := by
    rw [show (9999 : Nat) = 9998 + 1 from rfl, run_equalIn_agg w 9998 35 _ _ hS2 hp2]
    simp only [Program.fieldsOf, Tryz.underlying35]
    go_simp
    by_cases h1 : b = e <;> by_cases h2 : c = f <;> simp_all
  have hI : (Op.equalIn 9999 3 (.int .i64 a) (.int .i64 d)).run Tryz.prog w = .ok (a == d) w := by
    rw [show (9999 : Nat) = 9998 + 1 from rfl]
    go_simp
  rw [run_eql_struct, show (10000 : Nat) = 9999 + 1 from rfl, run_equalIn_agg w 9999 104 _ _ hS hp]
  generalize 9999 = n at hN hI
  simp only [Program.fieldsOf, Tryz.underlying104]
  go_simp
  clear hN hI
  by_cases h1 : a = d
  · by_cases h2 : b = e
    · by_cases h3 : c = f
      · rw [dec_t ⟨h1, h2, h3⟩, if_pos h1, if_neg (fun h => h h2 h3)]
      · rw [dec_f (fun h => h3 h.2.2), if_pos h1, if_pos (fun _ => h3)]
    · rw [dec_f (fun h => h2 h.2.1), if_pos h1, if_pos (fun h => absurd h h2)]
  · rw [dec_f (fun h => h1 h.1), if_neg h1]
theorem guardVt (x y : Operand) (xs ys : Array Value) (w : World) : (eqGuard .eql 104 x y (.agg xs) (.agg ys)).run Tryz.prog w = .ok () w := run_eqGuard_agg (P := Tryz.prog) w .eql 104 x y xs ys (by kernel_rfl)
def NotInV (L : List Vt) (x : Vt) (k : Nat) : Prop := ∀ j (h : j < L.length), j < k → ¬ x = L[j]
theorem NotInV.zero (L : List Vt) (x : Vt) : NotInV L x 0 := fun j _ h => absurd h (by omega)
theorem NotInV.step {L : List Vt} {x : Vt} {k : Nat} (h : NotInV L x k) (hk : k < L.length) (e : ¬ x = L[k]) : NotInV L x (k + 1) := by
  intro j hj hjk
  by_cases e' : j = k
  · subst e'; exact e
  · exact h j hj (by omega)
theorem NotInV.all {L : List Vt} {x : Vt} {k : Nat} (h : NotInV L x k) (hk : L.length ≤ k) : ¬ x ∈ L := fun hm => by
  obtain ⟨j, hj, e⟩ := List.getElem_of_mem hm
  exact h j hj (by omega) e.symm
set_option maxHeartbeats 1600000 in
theorem indexVt_any (A : Option Addr) (L : List Vt) (cap : Nat) (x : Vt) (w : World) (hr : RVts w w.heap.size A L) :
    Calls Tryz.prog 102 #[.slice A L.length cap, vv x] w fun e w' => ∃ r : Int, e = .returned (.int .i64 r) ∧ decide (0 ≤ r) = dec (x ∈ L) ∧ Below w.heap.size w w' := by
  have hn := hr.1
  unfold maxLen at hn
  have Hr := Lib.hid hr
  clear hr
  have gd := guardVt
  have hq := eqlVt
  generalize hw0 : w.alloc (.cells #[.int .i64 x.var, .int .i64 x.ty.data, .int .i64 x.ty.index] 104) = w0
  have hb0 : Below w.heap.size w w0 := by rw [← hw0]; exact (Below.refl _ _).alloc (Nat.le_refl _) _
  have HX : Hid (RVt w0 w.heap.size 0 x) := by rw [← hw0]; exact ⟨by simp [go_sem], by simp [go_sem], by simp [go_sem]⟩
  have HW := Lib.hid hw0
  clear hw0
  go_enter Tryz.func102, Tryz.ntmps102
  go_wp2_with fail
  rw [HW.out]
  go_loopw [8, 5] (fun i _ wr => ∃ k : Nat, k ≤ L.length ∧ i = .int .i64 k ∧ NotInV L x k ∧ Below w0.heap.size w0 wr) (fun i _ _ => L.length - (intOf i).toNat)
  case atStart => exact ⟨0, by omega, rfl, NotInV.zero _ _, Below.refl _ _⟩
  case round =>
    obtain ⟨k, hk, rfl, hno, hb⟩ := hrel
    have hbw := below_aft hb0 hb hb0.size
    have HB2 : Hid (∀ n, Below w.heap.size w (wr.drewN n)) := fun n => below_drawn hbw n
    have HB3 : Hid (∀ n, Below w0.heap.size w0 (wr.drewN n)) := fun n => below_drawn hb n
    by_cases hlt : k < L.length
    · obtain ⟨b, off, rfl, hbB, c0, c1, c2⟩ := (Hr.out.below hbw (Nat.le_refl _)).2 k hlt
      obtain ⟨f0, f1, f2⟩ : RVt wr w.heap.size 0 x := ⟨(hb.cell (p := ⟨w.heap.size, 0, none⟩) (Go.block_lt_of_cell HX.out.1)).trans HX.out.1, (hb.cell (p := ⟨w.heap.size, 1, none⟩) (Go.block_lt_of_cell HX.out.2.1)).trans HX.out.2.1, (hb.cell (p := ⟨w.heap.size, 2, none⟩) (Go.block_lt_of_cell HX.out.2.2)).trans HX.out.2.2⟩
      have hkI : (k : Int) < (L.length : Int) := by omega
      have HST := Lib.hid (hno.step hlt)
      have HXM : Hid (L[k] ∈ L) := List.getElem_mem hlt
      generalize L[k] = y at HXM c0 c1 c2 HST
      by_cases hs : x = y
      · have HC := Lib.hid (dec_t hs)
        have HT : Hid (decide (0 ≤ (k : Int)) = dec (x ∈ L)) := by unfold Hid; rw [hs, dec_t HXM.out]; exact decide_eq_true (by omega)
        have hq2 := fun w => (hq x y w).trans (by rw [HC.out])
        clear hs hq
        go_wp2_with fail
        go_quiet (fail)
        go_wp2_with fail
        go_ret
        exact ⟨_, rfl, HT.out, HB2.out _⟩
      · have HC := Lib.hid (dec_f hs)
        have HN := Lib.hid (HST.out hs)
        have hq2 := fun w => (hq x y w).trans (by rw [HC.out])
        clear hs hq
        go_wp2_with fail
        go_quiet (fail)
        go_wp2_with fail
        go_roundw
        case rel => exact ⟨k + 1, by omega, by go_num, HN.out, HB3.out _⟩
        case measure => simp [intOf]; omega
    · have HT : Hid (decide (0 ≤ (-1 : Int)) = dec (x ∈ L)) := by unfold Hid; rw [dec_f (hno.all (by omega))]; rfl
      clear hq
      go_wp2_with fail
      go_ret
      exact ⟨_, rfl, HT.out, hbw⟩
end Go.Proofs.YtbdiahnelnbdnaaGreat
