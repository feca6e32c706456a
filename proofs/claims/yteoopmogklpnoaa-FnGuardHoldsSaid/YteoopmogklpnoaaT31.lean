/-
  The variables of a pattern with their types: the document's function. No statement is proved here.
-/
import Derived.Test.YteoopmogklpnoaaT30
namespace Go.Proofs.Yteoopmogklpnoaa
open Go.RowKit Go.Sort Go.Deep
set_option maxRecDepth 100000
set_option linter.unusedVariables false
def VarsP (lo : Nat) (v : Value) (L : List Vt) (w : World) (e : Ending) (w' : World) : Prop := ∃ v', e = .returned v' ∧ OVt w' lo v' L ∧ w.grownBy w' v.ownBlock ∧ Fresh w v v'
def VarC (l : List Da) (d : Nat) : Prop := ∀ (A D : Option Addr) (cap ep e : Nat) (t : Ty) (p : Pt) (vs : List Vt) (v : Value) (lo : Nat) (w : World), RDas w lo A l → TyOK l t → RPs e w lo D p.kids → shP l d t p = true → OVt w lo v vs → lo ≤ w.heap.size → vs.length + (1 + wP p) ≤ 2000 →
  Calls Try.prog 65 #[v, .slice A l.length cap, .agg #[.int .i64 t.data, .int .i64 t.index], .agg #[.int .i64 p.op, .int .i64 p.ctor, .int .i64 p.n, .int .i64 p.m, .int .i64 p.var, .slice D p.kids.length ep]] w (VarsP lo v (vs ++ vrP l d t p) w)
theorem stable_of {w w1 w2 : World} {l : List Da} {A D A3 : Option Addr} {e lo ep n3 c3 : Nat} {t : Ty} {p : Pt} {v v1 : Value} {L : List Vt} {ats : List Ty} (hr : RDas w lo A l) (hv : RPs e w lo D p.kids) (hlv : ∀ g, v.ownBlock = some g → lo ≤ g) (hlo : lo ≤ w.heap.size)
    (hg : w.grownBy w1 v.ownBlock) (hf : ∀ g, v1.ownBlock = some g → v.ownBlock = some g ∨ w.heap.size + 2 ≤ g) (hvl : ∀ g, v.ownBlock = some g → g < w.heap.size) (hx : Bx w1 w.heap.size t) (hp : PBx w1 (w.heap.size + 1) p (.slice D p.kids.length ep))
    (ho : OTys w2 w1.heap.size (.slice A3 n3 c3) ats ats.length) (hb : Below w1.heap.size w1 w2) (ho1 : OVt w1 lo v1 L) (hl3 : ats.length ≤ 3) :
    ∀ wr, w2.grownBy wr v1.ownBlock → lo ≤ wr.heap.size ∧ RDas wr lo A l ∧ RPs e wr lo D p.kids ∧ RTys wr wr.heap.size A3 ats ∧ Bx wr w.heap.size t ∧ PBx wr (w.heap.size + 1) p (.slice D p.kids.length ep) ∧ ∀ b, (b < lo ∨ (w.heap.size ≤ b ∧ b < w.heap.size + 2) ∨ (Value.slice A3 n3 c3).ownBlock = some b) → wr.heap[b]? = w2.heap[b]? := by
  intro wr hw
  have h1 := hg.size
  have h2 := hb.size
  have h3 := hw.size
  have hv1 : ∀ g, v1.ownBlock = some g → lo ≤ g ∧ g < w1.heap.size ∧ (g < w.heap.size ∨ w.heap.size + 2 ≤ g) := fun g e => ⟨(ho1.lt g e).1, (ho1.lt g e).2, (hf g e).elim (fun h => .inl (hvl g h)) .inr⟩
  have hlow : Below lo w wr := ⟨hw.os.trans (hb.os.trans hg.os), hw.tape.trans (hb.tape.trans hg.tape), hw.output.trans (hb.output.trans hg.output), by omega, fun i hi =>
    (hw.block i (by omega) (fun e => by have := (hv1 i e.symm).1; omega)).trans ((hb.block i (by omega)).trans (hg.block i (by omega) (fun e => by have := hlv i e.symm; omega)))⟩
  have hbox : ∀ i, w.heap.size ≤ i → i < w.heap.size + 2 → i < w1.heap.size → wr.heap[i]? = w1.heap[i]? := fun i h h' h'' =>
    (hw.block i (by omega) (fun e => by have := (hv1 i e.symm).2.2; omega)).trans (hb.block i h'')
  have k0 : w.heap.size < w1.heap.size := Go.block_lt_of_cell hx.1
  have k1 : w.heap.size + 1 < w1.heap.size := Go.block_lt_of_cell hp.1
  refine ⟨by omega, hr.below hlow (Nat.le_refl _), hv.below hlow (Nat.le_refl _), ?_, ⟨(World.cell?_of_block (a := ⟨w.heap.size, 0, none⟩) (hbox w.heap.size (by omega) (by omega) k0)).trans hx.1, (World.cell?_of_block (a := ⟨w.heap.size, 1, none⟩) (hbox w.heap.size (by omega) (by omega) k0)).trans hx.2⟩, hp.keep (hbox (w.heap.size + 1) (by omega) (by omega) k1), ?_⟩
  rotate_left
  · intro b hc
    rcases hc with h | ⟨h, h'⟩ | h
    · exact hw.block b (by omega) (fun e => by have := (hv1 b e.symm).1; omega)
    · exact hw.block b (by omega) (fun e => by have := (hv1 b e.symm).2.2; omega)
    · have h1 := ho.own b h
      exact hw.block b h1.2 (fun e => by have := (hv1 b e.symm).2.1; omega)
  exact (ho.keptV2 (fun b e => hw.block b (ho.own b e).2 (fun e2 => by have := (hv1 b e2.symm).2.1; have := (ho.own b e).1; omega))).reads (by unfold maxLen; omega)
theorem grown_all {w w1 w2 wr : World} {v v1 : Value} (h1 : w.grownBy w1 v.ownBlock) (hf : Fresh w v v1) (hb : Below w1.heap.size w1 w2) (hw : w2.grownBy wr v1.ownBlock) : w.grownBy wr v.ownBlock :=
  grown_chain h1 ⟨hw.os.trans hb.os, hw.tape.trans hb.tape, hw.output.trans hb.output, Nat.le_trans hb.size hw.size, fun i hi hne => (hw.block i (by have := hb.size; omega) hne).trans (hb.block i hi)⟩ hf
theorem varC_zero (l : List Da) : VarC l 0 := by
  intro A D cap ep e t p vs v lo w hr ht hv hs
  rw [shP_zero] at hs; cases hs
set_option maxHeartbeats 4000000 in
theorem varC_2 (l : List Da) (d : Nat) (ih : VarC l d) (A D : Option Addr) (cap ep e : Nat) (t : Ty) (p : Pt) (vs : List Vt) (v : Value) (lo : Nat) (w : World) (hr : RDas w lo A l) (ht : TyOK l t) (hv : RPs e w lo D p.kids) (hs : shP l (d + 1) t p = true) (hov : OVt w lo v vs) (hlo : lo ≤ w.heap.size) (hlen : vs.length + (1 + wP p) ≤ 2000)
    (h2 : p.op = 2) : Calls Try.prog 65 #[v, .slice A l.length cap, .agg #[.int .i64 t.data, .int .i64 t.index], .agg #[.int .i64 p.op, .int .i64 p.ctor, .int .i64 p.n, .int .i64 p.m, .int .i64 p.var, .slice D p.kids.length ep]] w (VarsP lo v (vs ++ vrP l (d + 1) t p) w) := by
  obtain ⟨hown, hkl, hsh⟩ := shP_parts hs
  obtain ⟨i0, hi, hz0, hz1, hz2⟩ := info_parts infoVt
  have hl := hv.1
  unfold maxLen at hl
  have HR := Lib.hid hr
  have HT := Lib.hid ht
  have HV := Lib.hid hv
  have HOW := Lib.hid hown
  have HM : Hid (p.op = 4 → p.ctor ∈ ctR l t) := hown.mem
  have HLO : Hid (∀ g, v.ownBlock = some g → lo ≤ g) := fun g e => (hov.lt g e).1
  have HVL : Hid (∀ g, v.ownBlock = some g → g < w.heap.size) := fun g e => (hov.lt g e).2
  have IH := Lib.hid ih
  have HKL := Lib.hid hkl
  have HS := Lib.hid hsh
  clear hr ht hv hs ih hown hkl hsh
  generalize hw0 : (w.alloc (.cells #[.int .i64 t.data, .int .i64 t.index] 25)).alloc (.cells #[.int .i64 p.op, .int .i64 p.ctor, .int .i64 p.n, .int .i64 p.m, .int .i64 p.var, .slice D p.kids.length ep] 50) = w0
  have hb0 := below_box2 hw0
  have hs0 : w0.heap.size = w.heap.size + 2 := by rw [← hw0]; simp
  have HXT : Hid (Bx w0 w.heap.size t) := by rw [← hw0]; exact ⟨by simp [go_sem], by simp [go_sem]⟩
  have HXP : Hid (PBx w0 (w.heap.size + 1) p (.slice D p.kids.length ep)) := by rw [← hw0]; exact ⟨by simp [go_sem], by simp [go_sem], by simp [go_sem], by simp [go_sem], by simp [go_sem], by simp [go_sem]⟩
  have HW := Lib.hid hw0
  clear hw0
  have HOV0 : Hid (OVt w0 lo v vs) := hov.at_ hb0
  clear hov
  have q2 := ieq_t h2
  have HHD := Lib.hid (hdV_yes (t := t) (p := p) (.inl h2))
  obtain ⟨xs, hown0, hrow0⟩ := HOV0.out
  have HOW0 := Lib.hid hown0
  have HRW0 := Lib.hid (hrow0.app (x := ⟨p.var, t⟩) hown0.1)
  have HC1 : Hid (∀ j u, [Value.int .i64 p.var, .int .i64 t.data, .int .i64 t.index][j]? = some u → (w0.alloc (.cells #[.int .i64 p.var, .int .i64 t.data, .int .i64 t.index] 56)).cell? ((⟨w.heap.size + 1 + 1, 0, none⟩ : Addr).add j) = some u) := by
    have h := cell_3_new w0 (.int .i64 p.var) (.int .i64 t.data) (.int .i64 t.index) 56
    rw [hs0] at h; exact h
  have HC2 : Hid (∀ u ∈ [Value.int .i64 p.var, .int .i64 t.data, .int .i64 t.index], u.oneCell' = true) := by
    intro u hu; simp at hu; rcases hu with rfl | rfl | rfl <;> rfl
  have HC3 : Hid (vs.length + 1 ≤ maxLen) := by unfold Hid maxLen; omega
  have HC4 : Hid ((vs.length + 1) * 24 ≤ 140737488355328) := by unfold Hid; omega
  have HC5 : Hid (lo ≤ (w0.alloc (.cells #[.int .i64 p.var, .int .i64 t.data, .int .i64 t.index] 56)).heap.size) := by unfold Hid; simp; omega
  clear h2 hown0 hrow0
  go_enter Try.func65, Try.ntmps65
  go_wp2_with (at_builtin; rw [HW.out]; refine wpList_append_own_at _ rfl _ _ 53 rfl lo 56 i0 (.agg #[.int .i64 0, .int .i64 0, .int .i64 0]) 3 24 Try.underlying53 hi hz0 hz1 hz2 rfl (by decide) _ _ _ rfl (HOW0.out.alloc _) ⟨w.heap.size + 1 + 1, 0, none⟩ 1 1 [.int .i64 p.var, .int .i64 t.data, .int .i64 t.index] rfl rfl HC1.out HC2.out HC3.out HC4.out HC5.out ?_)
  intro v1 w1 hown1 hgrow hnn hat
  have HO1 : Hid (OVt w1 lo v1 (vs ++ hdV t p)) := by
    unfold Hid
    rw [HHD.out]
    exact ⟨_, by rw [List.length_append]; exact hown1, HRW0.out⟩
  have HG1 : Hid (w.grownBy w1 v.ownBlock) := grown_chain (grown_below (hb0.alloc hb0.size _) (Nat.le_refl _)) hgrow (Fresh.refl _ _)
  have HF1s : Hid (∀ g, v1.ownBlock = some g → v.ownBlock = some g ∨ w.heap.size + 2 ≤ g) := fun g h => by
    rcases hat with e | e
    · exact .inl (e ▸ h)
    · right
      rw [e] at h
      injection h with h
      try simp at h
      omega
  have HF1 : Hid (Fresh w v v1) := ⟨fun g h => (HF1s.out g h).imp id (fun h => by omega)⟩
  have hbx0 := Go.block_lt_of_cell HXT.out.1
  have hbx1 := Go.block_lt_of_cell HXP.out.1
  have hk0 : w1.heap[w.heap.size]? = w0.heap[w.heap.size]? := by
    rw [hgrow.block w.heap.size (by simp; omega) (fun e => by have := HVL.out _ e.symm; omega), Below.heap_alloc _ _ _ hbx0]
  have hk1 : w1.heap[w.heap.size + 1]? = w0.heap[w.heap.size + 1]? := by
    rw [hgrow.block (w.heap.size + 1) (by simp; omega) (fun e => by have := HVL.out _ e.symm; omega), Below.heap_alloc _ _ _ hbx1]
  have HX1 : Hid (Bx w1 w.heap.size t) := ⟨(World.cell?_of_block (a := ⟨w.heap.size, 0, none⟩) hk0).trans HXT.out.1, (World.cell?_of_block (a := ⟨w.heap.size, 1, none⟩) hk0).trans HXT.out.2⟩
  have HP1 : Hid (PBx w1 (w.heap.size + 1) p (.slice D p.kids.length ep)) := PBx.keep HXP.out hk1
  obtain ⟨x0, x1⟩ := HX1.out
  obtain ⟨y0, y1, y2, y3, y4, y5⟩ := HP1.out
  clear hown1 hgrow hnn hat hk0 hk1 hbx0 hbx1
  have hr1 := Lib.hid ((HR.out.below (grown_low HG1.out HLO.out hlo) (Nat.le_refl _)))
  have hv1 := Lib.hid ((HV.out.below (grown_low HG1.out HLO.out hlo) (Nat.le_refl _)))
  have hlw1 : lo ≤ w1.heap.size := Nat.le_trans hlo HG1.out.size
  have HRW : Hid (RDas w1 w1.heap.size A l) := hr1.out.keep (fun _ _ => rfl) hlw1
  go_wp2_with (go_at_call 102; refine (tys_any A D l cap ep t p _ HRW.out HT.out HM.out).mono ?_; rintro e3 w2 ⟨v3, rfl, ho3, hb2⟩)
  obtain ⟨A3, c3, rfl, _⟩ := ho3.form (by have := tysP_len l t p; unfold maxLen; omega)
  have HO3 := Lib.hid ho3
  have HB2 := Lib.hid hb2
  have hm3 := tysP_len l t p
  have HST := Lib.hid (stable_of HR.out HV.out HLO.out hlo HG1.out HF1s.out HVL.out HX1.out HP1.out HO3.out HB2.out HO1.out hm3)
  have HOK := Lib.hid (tysP_ok HT.out HOW.out)
  have HLN : Hid (∀ k, k ≤ p.kids.length → (hdV t p).length + (catV (kidR l d (tysP l t p) p.kids) k).length ≤ upKP p.kids k) := cat_len (hdV_len t p) HKL.out (fun i hi hi' => vrP_len l d _ _ (HS.out i hi hi'))
  have HUP := Lib.hid (upKP_le p)
  have HLM := Lib.hid (limV_le l t p)
  have HKR := Lib.hid (fun (i : Nat) (h : i < (tysP l t p).length) (h' : i < p.kids.length) => kidR_at (l := l) (d := d) h h')
  have HV5 : Hid ((p.op = 5 → limV l t p = 1 ∧ (tysP l t p).length = 2) ∧ (¬ p.op = 5 → limV l t p = (tysP l t p).length)) := ⟨fun h => ⟨if_pos h, by rw [tysP_other (by omega), List.length_replicate, h]; decide⟩, fun h => if_neg h⟩
  have HFIN := Lib.hid (vrP_go l d t p)
  have hO1' := HO1.out.at_ HB2.out
  generalize hats : tysP l t p = ats at HOK HKL HS hm3 HLN HLM HKR HV5 HST HFIN
  try rw [hats]
  generalize hlim : limV l t p = lim at HLM HV5 HFIN
  clear ho3 hb2 HO3 hats hlim HX1 HP1 x0 x1 y0 y1 y2 y3 y4 y5 hlw1
  go_loopw [0, 10] (fun u i wr => ∃ k : Nat, k ≤ lim ∧ i = .int .i64 k ∧ Hid (OVt wr lo u (vs ++ (hdV t p ++ catV (kidR l d ats p.kids) k))) ∧ Hid (w2.grownBy wr v1.ownBlock) ∧ Hid (Fresh w2 v1 u)) (fun _ i _ => lim - (intOf i).toNat)
  case atStart => exact ⟨0, by omega, rfl, (by simp only [catV, List.append_nil]; exact hO1'), grown_refl _ _, Fresh.refl _ _⟩
  case round =>
    obtain ⟨k, hk, rfl, HO, HG, HF⟩ := hrel
    obtain ⟨hsz, hrd, hvd, hty, ⟨x0, x1⟩, ⟨y0, y1, y2, y3, y4, y5⟩, hst⟩ := HST.out wr.drew (grown_drewV HG.out)
    obtain ⟨_, _, _, _, ⟨x0', x1'⟩, ⟨y0', y1', y2', y3', y4', y5'⟩, _⟩ := HST.out wr HG.out
    by_cases hlt : k < lim
    · have hka : k < ats.length := by have := HLM.out; omega
      have hkl : k < p.kids.length := by rw [HKL.out]; exact hka
      obtain ⟨g, o, rfl, hgB, t0, t1⟩ := hty.2 k hka
      obtain ⟨b, off, rfl, hbB, hvk⟩ := hvd.2 k hkl
      obtain ⟨e', he', D', cp, c0, c1, c2, c3', c4, c5, hm⟩ := hvk.parts
      have Hm := Lib.hid hm
      have Hrd := Lib.hid hrd
      have HTk := Lib.hid (HOK.out _ (List.getElem_mem hka))
      have HSk := Lib.hid (HS.out k hka hkl)
      have HKk := Lib.hid (HKR.out k hka hkl)
      have hi : (k : Int) < (ats.length : Int) := by omega
      have hi2 : (k : Int) < (p.kids.length : Int) := by omega
      have HLK : Hid ((vs ++ (hdV t p ++ catV (kidR l d ats p.kids) k)).length + (1 + wP p.kids[k]) ≤ 2000) := by
        have a1 := HLN.out k (by omega)
        have a2 := HUP.out (k + 1) hkl
        rw [upKP_succ _ _ hkl] at a2
        unfold Hid
        rw [List.length_append, List.length_append]
        omega
      have hd : OVt wr.drew lo u0 (vs ++ (hdV t p ++ catV (kidR l d ats p.kids) k)) := HO.out.keep (fun _ _ => rfl)
      have HC := Lib.hid (IH.out A D' cap cp e' ats[k] p.kids[k] _ u0 lo wr.drew Hrd.out HTk.out Hm.out HSk.out hd (by omega) HLK.out)
      clear hm hvk he' hrd hvd hty hd
      have HKS : Hid (∀ w', w2.grownBy w' v1.ownBlock → w'.cell? ⟨g, o + k * 2, none⟩ = some (.int .i64 ats[k].data) ∧ w'.cell? ⟨g, o + k * 2 + 1, none⟩ = some (.int .i64 ats[k].index) ∧ w'.cell? ⟨w.heap.size + 1, 5, none⟩ = some (.slice (some ⟨b, off, none⟩) p.kids.length ep) ∧ w'.cell? ⟨b, off + k * 6, none⟩ = some (.int .i64 p.kids[k].op) ∧ w'.cell? ⟨b, off + k * 6 + 1, none⟩ = some (.int .i64 p.kids[k].ctor) ∧ w'.cell? ⟨b, off + k * 6 + 2, none⟩ = some (.int .i64 p.kids[k].n) ∧ w'.cell? ⟨b, off + k * 6 + 3, none⟩ = some (.int .i64 p.kids[k].m) ∧ w'.cell? ⟨b, off + k * 6 + 4, none⟩ = some (.int .i64 p.kids[k].var) ∧ w'.cell? ⟨b, off + k * 6 + 5, none⟩ = some (.slice D' p.kids[k].kids.length cp)) := fun w' hW => by
        obtain ⟨_, _, _, _, _, _, hs'⟩ := HST.out w' hW
        have hs : ∀ b', (b' < lo ∨ (w.heap.size ≤ b' ∧ b' < w.heap.size + 2) ∨ (Value.slice (some ⟨g, o, none⟩) ats.length c3).ownBlock = some b') → w'.heap[b']? = wr.drew.heap[b']? := fun b' hc => (hs' b' hc).trans (hst b' hc).symm
        exact ⟨(World.cell?_of_block (a := ⟨g, o + k * 2, none⟩) (hs (g) (.inr (.inr rfl)))).trans t0, (World.cell?_of_block (a := ⟨g, o + k * 2 + 1, none⟩) (hs (g) (.inr (.inr rfl)))).trans t1, (World.cell?_of_block (a := ⟨w.heap.size + 1, 5, none⟩) (hs (w.heap.size + 1) (.inr (.inl ⟨by omega, by omega⟩)))).trans y5, (World.cell?_of_block (a := ⟨b, off + k * 6, none⟩) (hs (b) (.inl hbB))).trans c0, (World.cell?_of_block (a := ⟨b, off + k * 6 + 1, none⟩) (hs (b) (.inl hbB))).trans c1, (World.cell?_of_block (a := ⟨b, off + k * 6 + 2, none⟩) (hs (b) (.inl hbB))).trans c2, (World.cell?_of_block (a := ⟨b, off + k * 6 + 3, none⟩) (hs (b) (.inl hbB))).trans c3', (World.cell?_of_block (a := ⟨b, off + k * 6 + 4, none⟩) (hs (b) (.inl hbB))).trans c4, (World.cell?_of_block (a := ⟨b, off + k * 6 + 5, none⟩) (hs (b) (.inl hbB))).trans c5⟩
      have SQ := HKS.out wr.drew (grown_drewV HG.out)
      clear t0 t1 y0 y1 y2 y3 y4 y5 x0 x1 c0 c1 c2 c3' c4 c5 hst x0' x1'
      by_cases hk0 : k = 0
      · have qk : ((k : Int) == 0) = true := by simp [hk0]
        clear hk0
        go_wp2_with fail
        go_region_held3 (fun w' => w'.cell? ⟨g, o + k * 2, none⟩ = some (.int .i64 ats[k].data) ∧ w'.cell? ⟨g, o + k * 2 + 1, none⟩ = some (.int .i64 ats[k].index) ∧ w'.cell? ⟨w.heap.size + 1, 5, none⟩ = some (.slice (some ⟨b, off, none⟩) p.kids.length ep) ∧ w'.cell? ⟨b, off + k * 6, none⟩ = some (.int .i64 p.kids[k].op) ∧ w'.cell? ⟨b, off + k * 6 + 1, none⟩ = some (.int .i64 p.kids[k].ctor) ∧ w'.cell? ⟨b, off + k * 6 + 2, none⟩ = some (.int .i64 p.kids[k].n) ∧ w'.cell? ⟨b, off + k * 6 + 3, none⟩ = some (.int .i64 p.kids[k].m) ∧ w'.cell? ⟨b, off + k * 6 + 4, none⟩ = some (.int .i64 p.kids[k].var) ∧ w'.cell? ⟨b, off + k * 6 + 5, none⟩ = some (.slice D' p.kids[k].kids.length cp)) (with_reducible exact SQ) (first | (go_at_call 65; (with_reducible refine HC.out.mono ?_); rintro e4 w4 ⟨v4, rfl, ho4, hg4, hf4⟩; have hg5 := grown_chain (grown_drewV HG.out) hg4 HF.out; have SQ := HKS.out w4 hg5))
        have HO4 : Hid (OVt w4 lo v4 (vs ++ (hdV t p ++ catV (kidR l d ats p.kids) (k + 1)))) := by
          unfold Hid
          have e5 : catV (kidR l d ats p.kids) (k + 1) = catV (kidR l d ats p.kids) k ++ vrP l d ats[k] p.kids[k] := by rw [← HKk.out]; rfl
          rw [e5, ← List.append_assoc (hdV t p), ← List.append_assoc vs]
          exact ho4
        have HG5 := Lib.hid hg5
        have HF5 : Hid (Fresh w2 v1 v4) := HF.out.trans hf4 HG.out.size
        clear ho4 hg4 hf4 hg5 SQ
        go_wp2_with fail
        go_roundw
        case rel => exact ⟨k + 1, by omega, by go_num, HO4.out, HG5.out, HF5.out⟩
        case measure => simp [intOf]; omega
      · have qk : ((k : Int) == 0) = false := by simp; omega
        have q5 : (p.op != 5) = true := by
          have h5 := HV5.out
          have h6 : ¬ p.op = 5 := fun h => by have := (h5.1 h).1; omega
          simpa using h6
        clear hk0
        go_wp2_with fail
        go_region_held3 (fun w' => w'.cell? ⟨g, o + k * 2, none⟩ = some (.int .i64 ats[k].data) ∧ w'.cell? ⟨g, o + k * 2 + 1, none⟩ = some (.int .i64 ats[k].index) ∧ w'.cell? ⟨w.heap.size + 1, 5, none⟩ = some (.slice (some ⟨b, off, none⟩) p.kids.length ep) ∧ w'.cell? ⟨b, off + k * 6, none⟩ = some (.int .i64 p.kids[k].op) ∧ w'.cell? ⟨b, off + k * 6 + 1, none⟩ = some (.int .i64 p.kids[k].ctor) ∧ w'.cell? ⟨b, off + k * 6 + 2, none⟩ = some (.int .i64 p.kids[k].n) ∧ w'.cell? ⟨b, off + k * 6 + 3, none⟩ = some (.int .i64 p.kids[k].m) ∧ w'.cell? ⟨b, off + k * 6 + 4, none⟩ = some (.int .i64 p.kids[k].var) ∧ w'.cell? ⟨b, off + k * 6 + 5, none⟩ = some (.slice D' p.kids[k].kids.length cp)) (with_reducible exact SQ) (first | (go_at_call 65; (with_reducible refine HC.out.mono ?_); rintro e4 w4 ⟨v4, rfl, ho4, hg4, hf4⟩; have hg5 := grown_chain (grown_drewV HG.out) hg4 HF.out; have SQ := HKS.out w4 hg5))
        have HO4 : Hid (OVt w4 lo v4 (vs ++ (hdV t p ++ catV (kidR l d ats p.kids) (k + 1)))) := by
          unfold Hid
          have e5 : catV (kidR l d ats p.kids) (k + 1) = catV (kidR l d ats p.kids) k ++ vrP l d ats[k] p.kids[k] := by rw [← HKk.out]; rfl
          rw [e5, ← List.append_assoc (hdV t p), ← List.append_assoc vs]
          exact ho4
        have HG5 := Lib.hid hg5
        have HF5 : Hid (Fresh w2 v1 v4) := HF.out.trans hf4 HG.out.size
        clear ho4 hg4 hf4 hg5 SQ
        go_wp2_with fail
        go_roundw
        case rel => exact ⟨k + 1, by omega, by go_num, HO4.out, HG5.out, HF5.out⟩
        case measure => simp [intOf]; omega
    · have he : k = lim := by omega
      have HL5 := HV5.out
      have HE : Hid (OVt wr lo u0 (vs ++ vrP l (d + 1) t p)) := by unfold Hid; rw [HFIN.out, ← he]; exact HO.out
      have HGA := Lib.hid (grown_all HG1.out HF1.out HB2.out HG.out)
      have HFA : Hid (Fresh w v u0) := HF1.out.trans HF.out (Nat.le_trans HG1.out.size HB2.out.size)
      clear HO HG HF
      by_cases h5 : p.op = 5
      · have q5 : (p.op != 5) = false := by simp [h5]
        have hl2 := HL5.1 h5
        have qk : ((k : Int) == 0) = false := by simp; omega
        have qc : ((k : Int) < (ats.length : Int)) := by omega
        clear h5 he hl2 HL5
        go_wp2_with fail
        go_ret
        exact ⟨_, rfl, HE.out, HGA.out, HFA.out⟩
      · have hl2 := HL5.2 h5
        have qc : ((ats.length : Int) ≤ (k : Int)) := by omega
        clear h5 he hl2 HL5
        go_wp2_with fail
        go_ret
        exact ⟨_, rfl, HE.out, HGA.out, HFA.out⟩
set_option maxHeartbeats 4000000 in
theorem varC_6 (l : List Da) (d : Nat) (ih : VarC l d) (A D : Option Addr) (cap ep e : Nat) (t : Ty) (p : Pt) (vs : List Vt) (v : Value) (lo : Nat) (w : World) (hr : RDas w lo A l) (ht : TyOK l t) (hv : RPs e w lo D p.kids) (hs : shP l (d + 1) t p = true) (hov : OVt w lo v vs) (hlo : lo ≤ w.heap.size) (hlen : vs.length + (1 + wP p) ≤ 2000)
    (h2 : ¬ p.op = 2) (h6 : p.op = 6) : Calls Try.prog 65 #[v, .slice A l.length cap, .agg #[.int .i64 t.data, .int .i64 t.index], .agg #[.int .i64 p.op, .int .i64 p.ctor, .int .i64 p.n, .int .i64 p.m, .int .i64 p.var, .slice D p.kids.length ep]] w (VarsP lo v (vs ++ vrP l (d + 1) t p) w) := by
  obtain ⟨hown, hkl, hsh⟩ := shP_parts hs
  obtain ⟨i0, hi, hz0, hz1, hz2⟩ := info_parts infoVt
  have hl := hv.1
  unfold maxLen at hl
  have HR := Lib.hid hr
  have HT := Lib.hid ht
  have HV := Lib.hid hv
  have HOW := Lib.hid hown
  have HM : Hid (p.op = 4 → p.ctor ∈ ctR l t) := hown.mem
  have HLO : Hid (∀ g, v.ownBlock = some g → lo ≤ g) := fun g e => (hov.lt g e).1
  have HVL : Hid (∀ g, v.ownBlock = some g → g < w.heap.size) := fun g e => (hov.lt g e).2
  have IH := Lib.hid ih
  have HKL := Lib.hid hkl
  have HS := Lib.hid hsh
  clear hr ht hv hs ih hown hkl hsh
  generalize hw0 : (w.alloc (.cells #[.int .i64 t.data, .int .i64 t.index] 25)).alloc (.cells #[.int .i64 p.op, .int .i64 p.ctor, .int .i64 p.n, .int .i64 p.m, .int .i64 p.var, .slice D p.kids.length ep] 50) = w0
  have hb0 := below_box2 hw0
  have hs0 : w0.heap.size = w.heap.size + 2 := by rw [← hw0]; simp
  have HXT : Hid (Bx w0 w.heap.size t) := by rw [← hw0]; exact ⟨by simp [go_sem], by simp [go_sem]⟩
  have HXP : Hid (PBx w0 (w.heap.size + 1) p (.slice D p.kids.length ep)) := by rw [← hw0]; exact ⟨by simp [go_sem], by simp [go_sem], by simp [go_sem], by simp [go_sem], by simp [go_sem], by simp [go_sem]⟩
  have HW := Lib.hid hw0
  clear hw0
  have HOV0 : Hid (OVt w0 lo v vs) := hov.at_ hb0
  clear hov
  have q2 := ieq_f h2
  have q6 := ieq_t h6
  have HHD := Lib.hid (hdV_yes (t := t) (p := p) (.inr h6))
  obtain ⟨xs, hown0, hrow0⟩ := HOV0.out
  have HOW0 := Lib.hid hown0
  have HRW0 := Lib.hid (hrow0.app (x := ⟨p.var, t⟩) hown0.1)
  have HC1 : Hid (∀ j u, [Value.int .i64 p.var, .int .i64 t.data, .int .i64 t.index][j]? = some u → (w0.alloc (.cells #[.int .i64 p.var, .int .i64 t.data, .int .i64 t.index] 56)).cell? ((⟨w.heap.size + 1 + 1, 0, none⟩ : Addr).add j) = some u) := by
    have h := cell_3_new w0 (.int .i64 p.var) (.int .i64 t.data) (.int .i64 t.index) 56
    rw [hs0] at h; exact h
  have HC2 : Hid (∀ u ∈ [Value.int .i64 p.var, .int .i64 t.data, .int .i64 t.index], u.oneCell' = true) := by
    intro u hu; simp at hu; rcases hu with rfl | rfl | rfl <;> rfl
  have HC3 : Hid (vs.length + 1 ≤ maxLen) := by unfold Hid maxLen; omega
  have HC4 : Hid ((vs.length + 1) * 24 ≤ 140737488355328) := by unfold Hid; omega
  have HC5 : Hid (lo ≤ (w0.alloc (.cells #[.int .i64 p.var, .int .i64 t.data, .int .i64 t.index] 56)).heap.size) := by unfold Hid; simp; omega
  clear h2 h6 hown0 hrow0
  go_enter Try.func65, Try.ntmps65
  go_wp2_with (at_builtin; rw [HW.out]; refine wpList_append_own_at _ rfl _ _ 53 rfl lo 56 i0 (.agg #[.int .i64 0, .int .i64 0, .int .i64 0]) 3 24 Try.underlying53 hi hz0 hz1 hz2 rfl (by decide) _ _ _ rfl (HOW0.out.alloc _) ⟨w.heap.size + 1 + 1, 0, none⟩ 1 1 [.int .i64 p.var, .int .i64 t.data, .int .i64 t.index] rfl rfl HC1.out HC2.out HC3.out HC4.out HC5.out ?_)
  intro v1 w1 hown1 hgrow hnn hat
  have HO1 : Hid (OVt w1 lo v1 (vs ++ hdV t p)) := by
    unfold Hid
    rw [HHD.out]
    exact ⟨_, by rw [List.length_append]; exact hown1, HRW0.out⟩
  have HG1 : Hid (w.grownBy w1 v.ownBlock) := grown_chain (grown_below (hb0.alloc hb0.size _) (Nat.le_refl _)) hgrow (Fresh.refl _ _)
  have HF1s : Hid (∀ g, v1.ownBlock = some g → v.ownBlock = some g ∨ w.heap.size + 2 ≤ g) := fun g h => by
    rcases hat with e | e
    · exact .inl (e ▸ h)
    · right
      rw [e] at h
      injection h with h
      try simp at h
      omega
  have HF1 : Hid (Fresh w v v1) := ⟨fun g h => (HF1s.out g h).imp id (fun h => by omega)⟩
  have hbx0 := Go.block_lt_of_cell HXT.out.1
  have hbx1 := Go.block_lt_of_cell HXP.out.1
  have hk0 : w1.heap[w.heap.size]? = w0.heap[w.heap.size]? := by
    rw [hgrow.block w.heap.size (by simp; omega) (fun e => by have := HVL.out _ e.symm; omega), Below.heap_alloc _ _ _ hbx0]
  have hk1 : w1.heap[w.heap.size + 1]? = w0.heap[w.heap.size + 1]? := by
    rw [hgrow.block (w.heap.size + 1) (by simp; omega) (fun e => by have := HVL.out _ e.symm; omega), Below.heap_alloc _ _ _ hbx1]
  have HX1 : Hid (Bx w1 w.heap.size t) := ⟨(World.cell?_of_block (a := ⟨w.heap.size, 0, none⟩) hk0).trans HXT.out.1, (World.cell?_of_block (a := ⟨w.heap.size, 1, none⟩) hk0).trans HXT.out.2⟩
  have HP1 : Hid (PBx w1 (w.heap.size + 1) p (.slice D p.kids.length ep)) := PBx.keep HXP.out hk1
  obtain ⟨x0, x1⟩ := HX1.out
  obtain ⟨y0, y1, y2, y3, y4, y5⟩ := HP1.out
  clear hown1 hgrow hnn hat hk0 hk1 hbx0 hbx1
  have hr1 := Lib.hid ((HR.out.below (grown_low HG1.out HLO.out hlo) (Nat.le_refl _)))
  have hv1 := Lib.hid ((HV.out.below (grown_low HG1.out HLO.out hlo) (Nat.le_refl _)))
  have hlw1 : lo ≤ w1.heap.size := Nat.le_trans hlo HG1.out.size
  have HRW : Hid (RDas w1 w1.heap.size A l) := hr1.out.keep (fun _ _ => rfl) hlw1
  go_wp2_with (go_at_call 102; refine (tys_any A D l cap ep t p _ HRW.out HT.out HM.out).mono ?_; rintro e3 w2 ⟨v3, rfl, ho3, hb2⟩)
  obtain ⟨A3, c3, rfl, _⟩ := ho3.form (by have := tysP_len l t p; unfold maxLen; omega)
  have HO3 := Lib.hid ho3
  have HB2 := Lib.hid hb2
  have hm3 := tysP_len l t p
  have HST := Lib.hid (stable_of HR.out HV.out HLO.out hlo HG1.out HF1s.out HVL.out HX1.out HP1.out HO3.out HB2.out HO1.out hm3)
  have HOK := Lib.hid (tysP_ok HT.out HOW.out)
  have HLN : Hid (∀ k, k ≤ p.kids.length → (hdV t p).length + (catV (kidR l d (tysP l t p) p.kids) k).length ≤ upKP p.kids k) := cat_len (hdV_len t p) HKL.out (fun i hi hi' => vrP_len l d _ _ (HS.out i hi hi'))
  have HUP := Lib.hid (upKP_le p)
  have HLM := Lib.hid (limV_le l t p)
  have HKR := Lib.hid (fun (i : Nat) (h : i < (tysP l t p).length) (h' : i < p.kids.length) => kidR_at (l := l) (d := d) h h')
  have HV5 : Hid ((p.op = 5 → limV l t p = 1 ∧ (tysP l t p).length = 2) ∧ (¬ p.op = 5 → limV l t p = (tysP l t p).length)) := ⟨fun h => ⟨if_pos h, by rw [tysP_other (by omega), List.length_replicate, h]; decide⟩, fun h => if_neg h⟩
  have HFIN := Lib.hid (vrP_go l d t p)
  have hO1' := HO1.out.at_ HB2.out
  generalize hats : tysP l t p = ats at HOK HKL HS hm3 HLN HLM HKR HV5 HST HFIN
  try rw [hats]
  generalize hlim : limV l t p = lim at HLM HV5 HFIN
  clear ho3 hb2 HO3 hats hlim HX1 HP1 x0 x1 y0 y1 y2 y3 y4 y5 hlw1
  go_loopw [0, 10] (fun u i wr => ∃ k : Nat, k ≤ lim ∧ i = .int .i64 k ∧ Hid (OVt wr lo u (vs ++ (hdV t p ++ catV (kidR l d ats p.kids) k))) ∧ Hid (w2.grownBy wr v1.ownBlock) ∧ Hid (Fresh w2 v1 u)) (fun _ i _ => lim - (intOf i).toNat)
  case atStart => exact ⟨0, by omega, rfl, (by simp only [catV, List.append_nil]; exact hO1'), grown_refl _ _, Fresh.refl _ _⟩
  case round =>
    obtain ⟨k, hk, rfl, HO, HG, HF⟩ := hrel
    obtain ⟨hsz, hrd, hvd, hty, ⟨x0, x1⟩, ⟨y0, y1, y2, y3, y4, y5⟩, hst⟩ := HST.out wr.drew (grown_drewV HG.out)
    obtain ⟨_, _, _, _, ⟨x0', x1'⟩, ⟨y0', y1', y2', y3', y4', y5'⟩, _⟩ := HST.out wr HG.out
    by_cases hlt : k < lim
    · have hka : k < ats.length := by have := HLM.out; omega
      have hkl : k < p.kids.length := by rw [HKL.out]; exact hka
      obtain ⟨g, o, rfl, hgB, t0, t1⟩ := hty.2 k hka
      obtain ⟨b, off, rfl, hbB, hvk⟩ := hvd.2 k hkl
      obtain ⟨e', he', D', cp, c0, c1, c2, c3', c4, c5, hm⟩ := hvk.parts
      have Hm := Lib.hid hm
      have Hrd := Lib.hid hrd
      have HTk := Lib.hid (HOK.out _ (List.getElem_mem hka))
      have HSk := Lib.hid (HS.out k hka hkl)
      have HKk := Lib.hid (HKR.out k hka hkl)
      have hi : (k : Int) < (ats.length : Int) := by omega
      have hi2 : (k : Int) < (p.kids.length : Int) := by omega
      have HLK : Hid ((vs ++ (hdV t p ++ catV (kidR l d ats p.kids) k)).length + (1 + wP p.kids[k]) ≤ 2000) := by
        have a1 := HLN.out k (by omega)
        have a2 := HUP.out (k + 1) hkl
        rw [upKP_succ _ _ hkl] at a2
        unfold Hid
        rw [List.length_append, List.length_append]
        omega
      have hd : OVt wr.drew lo u0 (vs ++ (hdV t p ++ catV (kidR l d ats p.kids) k)) := HO.out.keep (fun _ _ => rfl)
      have HC := Lib.hid (IH.out A D' cap cp e' ats[k] p.kids[k] _ u0 lo wr.drew Hrd.out HTk.out Hm.out HSk.out hd (by omega) HLK.out)
      clear hm hvk he' hrd hvd hty hd
      have HKS : Hid (∀ w', w2.grownBy w' v1.ownBlock → w'.cell? ⟨g, o + k * 2, none⟩ = some (.int .i64 ats[k].data) ∧ w'.cell? ⟨g, o + k * 2 + 1, none⟩ = some (.int .i64 ats[k].index) ∧ w'.cell? ⟨w.heap.size + 1, 5, none⟩ = some (.slice (some ⟨b, off, none⟩) p.kids.length ep) ∧ w'.cell? ⟨b, off + k * 6, none⟩ = some (.int .i64 p.kids[k].op) ∧ w'.cell? ⟨b, off + k * 6 + 1, none⟩ = some (.int .i64 p.kids[k].ctor) ∧ w'.cell? ⟨b, off + k * 6 + 2, none⟩ = some (.int .i64 p.kids[k].n) ∧ w'.cell? ⟨b, off + k * 6 + 3, none⟩ = some (.int .i64 p.kids[k].m) ∧ w'.cell? ⟨b, off + k * 6 + 4, none⟩ = some (.int .i64 p.kids[k].var) ∧ w'.cell? ⟨b, off + k * 6 + 5, none⟩ = some (.slice D' p.kids[k].kids.length cp)) := fun w' hW => by
        obtain ⟨_, _, _, _, _, _, hs'⟩ := HST.out w' hW
        have hs : ∀ b', (b' < lo ∨ (w.heap.size ≤ b' ∧ b' < w.heap.size + 2) ∨ (Value.slice (some ⟨g, o, none⟩) ats.length c3).ownBlock = some b') → w'.heap[b']? = wr.drew.heap[b']? := fun b' hc => (hs' b' hc).trans (hst b' hc).symm
        exact ⟨(World.cell?_of_block (a := ⟨g, o + k * 2, none⟩) (hs (g) (.inr (.inr rfl)))).trans t0, (World.cell?_of_block (a := ⟨g, o + k * 2 + 1, none⟩) (hs (g) (.inr (.inr rfl)))).trans t1, (World.cell?_of_block (a := ⟨w.heap.size + 1, 5, none⟩) (hs (w.heap.size + 1) (.inr (.inl ⟨by omega, by omega⟩)))).trans y5, (World.cell?_of_block (a := ⟨b, off + k * 6, none⟩) (hs (b) (.inl hbB))).trans c0, (World.cell?_of_block (a := ⟨b, off + k * 6 + 1, none⟩) (hs (b) (.inl hbB))).trans c1, (World.cell?_of_block (a := ⟨b, off + k * 6 + 2, none⟩) (hs (b) (.inl hbB))).trans c2, (World.cell?_of_block (a := ⟨b, off + k * 6 + 3, none⟩) (hs (b) (.inl hbB))).trans c3', (World.cell?_of_block (a := ⟨b, off + k * 6 + 4, none⟩) (hs (b) (.inl hbB))).trans c4, (World.cell?_of_block (a := ⟨b, off + k * 6 + 5, none⟩) (hs (b) (.inl hbB))).trans c5⟩
      have SQ := HKS.out wr.drew (grown_drewV HG.out)
      clear t0 t1 y0 y1 y2 y3 y4 y5 x0 x1 c0 c1 c2 c3' c4 c5 hst x0' x1'
      by_cases hk0 : k = 0
      · have qk : ((k : Int) == 0) = true := by simp [hk0]
        clear hk0
        go_wp2_with fail
        go_region_held3 (fun w' => w'.cell? ⟨g, o + k * 2, none⟩ = some (.int .i64 ats[k].data) ∧ w'.cell? ⟨g, o + k * 2 + 1, none⟩ = some (.int .i64 ats[k].index) ∧ w'.cell? ⟨w.heap.size + 1, 5, none⟩ = some (.slice (some ⟨b, off, none⟩) p.kids.length ep) ∧ w'.cell? ⟨b, off + k * 6, none⟩ = some (.int .i64 p.kids[k].op) ∧ w'.cell? ⟨b, off + k * 6 + 1, none⟩ = some (.int .i64 p.kids[k].ctor) ∧ w'.cell? ⟨b, off + k * 6 + 2, none⟩ = some (.int .i64 p.kids[k].n) ∧ w'.cell? ⟨b, off + k * 6 + 3, none⟩ = some (.int .i64 p.kids[k].m) ∧ w'.cell? ⟨b, off + k * 6 + 4, none⟩ = some (.int .i64 p.kids[k].var) ∧ w'.cell? ⟨b, off + k * 6 + 5, none⟩ = some (.slice D' p.kids[k].kids.length cp)) (with_reducible exact SQ) (first | (go_at_call 65; (with_reducible refine HC.out.mono ?_); rintro e4 w4 ⟨v4, rfl, ho4, hg4, hf4⟩; have hg5 := grown_chain (grown_drewV HG.out) hg4 HF.out; have SQ := HKS.out w4 hg5))
        have HO4 : Hid (OVt w4 lo v4 (vs ++ (hdV t p ++ catV (kidR l d ats p.kids) (k + 1)))) := by
          unfold Hid
          have e5 : catV (kidR l d ats p.kids) (k + 1) = catV (kidR l d ats p.kids) k ++ vrP l d ats[k] p.kids[k] := by rw [← HKk.out]; rfl
          rw [e5, ← List.append_assoc (hdV t p), ← List.append_assoc vs]
          exact ho4
        have HG5 := Lib.hid hg5
        have HF5 : Hid (Fresh w2 v1 v4) := HF.out.trans hf4 HG.out.size
        clear ho4 hg4 hf4 hg5 SQ
        go_wp2_with fail
        go_roundw
        case rel => exact ⟨k + 1, by omega, by go_num, HO4.out, HG5.out, HF5.out⟩
        case measure => simp [intOf]; omega
      · have qk : ((k : Int) == 0) = false := by simp; omega
        have q5 : (p.op != 5) = true := by
          have h5 := HV5.out
          have h6 : ¬ p.op = 5 := fun h => by have := (h5.1 h).1; omega
          simpa using h6
        clear hk0
        go_wp2_with fail
        go_region_held3 (fun w' => w'.cell? ⟨g, o + k * 2, none⟩ = some (.int .i64 ats[k].data) ∧ w'.cell? ⟨g, o + k * 2 + 1, none⟩ = some (.int .i64 ats[k].index) ∧ w'.cell? ⟨w.heap.size + 1, 5, none⟩ = some (.slice (some ⟨b, off, none⟩) p.kids.length ep) ∧ w'.cell? ⟨b, off + k * 6, none⟩ = some (.int .i64 p.kids[k].op) ∧ w'.cell? ⟨b, off + k * 6 + 1, none⟩ = some (.int .i64 p.kids[k].ctor) ∧ w'.cell? ⟨b, off + k * 6 + 2, none⟩ = some (.int .i64 p.kids[k].n) ∧ w'.cell? ⟨b, off + k * 6 + 3, none⟩ = some (.int .i64 p.kids[k].m) ∧ w'.cell? ⟨b, off + k * 6 + 4, none⟩ = some (.int .i64 p.kids[k].var) ∧ w'.cell? ⟨b, off + k * 6 + 5, none⟩ = some (.slice D' p.kids[k].kids.length cp)) (with_reducible exact SQ) (first | (go_at_call 65; (with_reducible refine HC.out.mono ?_); rintro e4 w4 ⟨v4, rfl, ho4, hg4, hf4⟩; have hg5 := grown_chain (grown_drewV HG.out) hg4 HF.out; have SQ := HKS.out w4 hg5))
        have HO4 : Hid (OVt w4 lo v4 (vs ++ (hdV t p ++ catV (kidR l d ats p.kids) (k + 1)))) := by
          unfold Hid
          have e5 : catV (kidR l d ats p.kids) (k + 1) = catV (kidR l d ats p.kids) k ++ vrP l d ats[k] p.kids[k] := by rw [← HKk.out]; rfl
          rw [e5, ← List.append_assoc (hdV t p), ← List.append_assoc vs]
          exact ho4
        have HG5 := Lib.hid hg5
        have HF5 : Hid (Fresh w2 v1 v4) := HF.out.trans hf4 HG.out.size
        clear ho4 hg4 hf4 hg5 SQ
        go_wp2_with fail
        go_roundw
        case rel => exact ⟨k + 1, by omega, by go_num, HO4.out, HG5.out, HF5.out⟩
        case measure => simp [intOf]; omega
    · have he : k = lim := by omega
      have HL5 := HV5.out
      have HE : Hid (OVt wr lo u0 (vs ++ vrP l (d + 1) t p)) := by unfold Hid; rw [HFIN.out, ← he]; exact HO.out
      have HGA := Lib.hid (grown_all HG1.out HF1.out HB2.out HG.out)
      have HFA : Hid (Fresh w v u0) := HF1.out.trans HF.out (Nat.le_trans HG1.out.size HB2.out.size)
      clear HO HG HF
      by_cases h5 : p.op = 5
      · have q5 : (p.op != 5) = false := by simp [h5]
        have hl2 := HL5.1 h5
        have qk : ((k : Int) == 0) = false := by simp; omega
        have qc : ((k : Int) < (ats.length : Int)) := by omega
        clear h5 he hl2 HL5
        go_wp2_with fail
        go_ret
        exact ⟨_, rfl, HE.out, HGA.out, HFA.out⟩
      · have hl2 := HL5.2 h5
        have qc : ((ats.length : Int) ≤ (k : Int)) := by omega
        clear h5 he hl2 HL5
        go_wp2_with fail
        go_ret
        exact ⟨_, rfl, HE.out, HGA.out, HFA.out⟩
set_option maxHeartbeats 4000000 in
theorem varC_o (l : List Da) (d : Nat) (ih : VarC l d) (A D : Option Addr) (cap ep e : Nat) (t : Ty) (p : Pt) (vs : List Vt) (v : Value) (lo : Nat) (w : World) (hr : RDas w lo A l) (ht : TyOK l t) (hv : RPs e w lo D p.kids) (hs : shP l (d + 1) t p = true) (hov : OVt w lo v vs) (hlo : lo ≤ w.heap.size) (hlen : vs.length + (1 + wP p) ≤ 2000)
    (h2 : ¬ p.op = 2) (h6 : ¬ p.op = 6) : Calls Try.prog 65 #[v, .slice A l.length cap, .agg #[.int .i64 t.data, .int .i64 t.index], .agg #[.int .i64 p.op, .int .i64 p.ctor, .int .i64 p.n, .int .i64 p.m, .int .i64 p.var, .slice D p.kids.length ep]] w (VarsP lo v (vs ++ vrP l (d + 1) t p) w) := by
  obtain ⟨hown, hkl, hsh⟩ := shP_parts hs
  obtain ⟨i0, hi, hz0, hz1, hz2⟩ := info_parts infoVt
  have hl := hv.1
  unfold maxLen at hl
  have HR := Lib.hid hr
  have HT := Lib.hid ht
  have HV := Lib.hid hv
  have HOW := Lib.hid hown
  have HM : Hid (p.op = 4 → p.ctor ∈ ctR l t) := hown.mem
  have HLO : Hid (∀ g, v.ownBlock = some g → lo ≤ g) := fun g e => (hov.lt g e).1
  have HVL : Hid (∀ g, v.ownBlock = some g → g < w.heap.size) := fun g e => (hov.lt g e).2
  have IH := Lib.hid ih
  have HKL := Lib.hid hkl
  have HS := Lib.hid hsh
  clear hr ht hv hs ih hown hkl hsh
  generalize hw0 : (w.alloc (.cells #[.int .i64 t.data, .int .i64 t.index] 25)).alloc (.cells #[.int .i64 p.op, .int .i64 p.ctor, .int .i64 p.n, .int .i64 p.m, .int .i64 p.var, .slice D p.kids.length ep] 50) = w0
  have hb0 := below_box2 hw0
  have hs0 : w0.heap.size = w.heap.size + 2 := by rw [← hw0]; simp
  have HXT : Hid (Bx w0 w.heap.size t) := by rw [← hw0]; exact ⟨by simp [go_sem], by simp [go_sem]⟩
  have HXP : Hid (PBx w0 (w.heap.size + 1) p (.slice D p.kids.length ep)) := by rw [← hw0]; exact ⟨by simp [go_sem], by simp [go_sem], by simp [go_sem], by simp [go_sem], by simp [go_sem], by simp [go_sem]⟩
  have HW := Lib.hid hw0
  clear hw0
  have HOV0 : Hid (OVt w0 lo v vs) := hov.at_ hb0
  clear hov
  have q2 := ieq_f h2
  have q6 := ieq_f h6
  have HHD := Lib.hid (hdV_no (t := t) (p := p) (fun h => h.elim h2 h6))
  have HO1 : Hid (OVt w0 lo v (vs ++ hdV t p)) := by unfold Hid; rw [HHD.out, List.append_nil]; exact HOV0.out
  have HG1 : Hid (w.grownBy w0 v.ownBlock) := grown_below hb0 (Nat.le_refl _)
  have HF1s : Hid (∀ g, v.ownBlock = some g → v.ownBlock = some g ∨ w.heap.size + 2 ≤ g) := fun g h => .inl h
  have HF1 : Hid (Fresh w v v) := Fresh.refl _ _
  have HX1 := HXT
  have HP1 := HXP
  clear h2 h6
  go_enter Try.func65, Try.ntmps65
  go_wp2_with fail
  rw [HW.out]
  have hr1 := Lib.hid ((HR.out.below (grown_low HG1.out HLO.out hlo) (Nat.le_refl _)))
  have hv1 := Lib.hid ((HV.out.below (grown_low HG1.out HLO.out hlo) (Nat.le_refl _)))
  have hlw1 : lo ≤ w0.heap.size := Nat.le_trans hlo HG1.out.size
  have HRW : Hid (RDas w0 w0.heap.size A l) := hr1.out.keep (fun _ _ => rfl) hlw1
  refine (tys_any A D l cap ep t p _ HRW.out HT.out HM.out).mono ?_
  rintro e3 w2 ⟨v3, rfl, ho3, hb2⟩
  go_wp2_with fail
  obtain ⟨A3, c3, rfl, _⟩ := ho3.form (by have := tysP_len l t p; unfold maxLen; omega)
  have HO3 := Lib.hid ho3
  have HB2 := Lib.hid hb2
  have hm3 := tysP_len l t p
  have HST := Lib.hid (stable_of HR.out HV.out HLO.out hlo HG1.out HF1s.out HVL.out HX1.out HP1.out HO3.out HB2.out HO1.out hm3)
  have HOK := Lib.hid (tysP_ok HT.out HOW.out)
  have HLN : Hid (∀ k, k ≤ p.kids.length → (hdV t p).length + (catV (kidR l d (tysP l t p) p.kids) k).length ≤ upKP p.kids k) := cat_len (hdV_len t p) HKL.out (fun i hi hi' => vrP_len l d _ _ (HS.out i hi hi'))
  have HUP := Lib.hid (upKP_le p)
  have HLM := Lib.hid (limV_le l t p)
  have HKR := Lib.hid (fun (i : Nat) (h : i < (tysP l t p).length) (h' : i < p.kids.length) => kidR_at (l := l) (d := d) h h')
  have HV5 : Hid ((p.op = 5 → limV l t p = 1 ∧ (tysP l t p).length = 2) ∧ (¬ p.op = 5 → limV l t p = (tysP l t p).length)) := ⟨fun h => ⟨if_pos h, by rw [tysP_other (by omega), List.length_replicate, h]; decide⟩, fun h => if_neg h⟩
  have HFIN := Lib.hid (vrP_go l d t p)
  have hO1' := HO1.out.at_ HB2.out
  generalize hats : tysP l t p = ats at HOK HKL HS hm3 HLN HLM HKR HV5 HST HFIN
  try rw [hats]
  generalize hlim : limV l t p = lim at HLM HV5 HFIN
  clear ho3 hb2 HO3 hats hlim HX1 HP1 hlw1
  go_loopw [0, 10] (fun u i wr => ∃ k : Nat, k ≤ lim ∧ i = .int .i64 k ∧ Hid (OVt wr lo u (vs ++ (hdV t p ++ catV (kidR l d ats p.kids) k))) ∧ Hid (w2.grownBy wr v.ownBlock) ∧ Hid (Fresh w2 v u)) (fun _ i _ => lim - (intOf i).toNat)
  case atStart => exact ⟨0, by omega, rfl, (by simp only [catV, List.append_nil]; exact hO1'), grown_refl _ _, Fresh.refl _ _⟩
  case round =>
    obtain ⟨k, hk, rfl, HO, HG, HF⟩ := hrel
    obtain ⟨hsz, hrd, hvd, hty, ⟨x0, x1⟩, ⟨y0, y1, y2, y3, y4, y5⟩, hst⟩ := HST.out wr.drew (grown_drewV HG.out)
    obtain ⟨_, _, _, _, ⟨x0', x1'⟩, ⟨y0', y1', y2', y3', y4', y5'⟩, _⟩ := HST.out wr HG.out
    by_cases hlt : k < lim
    · have hka : k < ats.length := by have := HLM.out; omega
      have hkl : k < p.kids.length := by rw [HKL.out]; exact hka
      obtain ⟨g, o, rfl, hgB, t0, t1⟩ := hty.2 k hka
      obtain ⟨b, off, rfl, hbB, hvk⟩ := hvd.2 k hkl
      obtain ⟨e', he', D', cp, c0, c1, c2, c3', c4, c5, hm⟩ := hvk.parts
      have Hm := Lib.hid hm
      have Hrd := Lib.hid hrd
      have HTk := Lib.hid (HOK.out _ (List.getElem_mem hka))
      have HSk := Lib.hid (HS.out k hka hkl)
      have HKk := Lib.hid (HKR.out k hka hkl)
      have hi : (k : Int) < (ats.length : Int) := by omega
      have hi2 : (k : Int) < (p.kids.length : Int) := by omega
      have HLK : Hid ((vs ++ (hdV t p ++ catV (kidR l d ats p.kids) k)).length + (1 + wP p.kids[k]) ≤ 2000) := by
        have a1 := HLN.out k (by omega)
        have a2 := HUP.out (k + 1) hkl
        rw [upKP_succ _ _ hkl] at a2
        unfold Hid
        rw [List.length_append, List.length_append]
        omega
      have hd : OVt wr.drew lo u0 (vs ++ (hdV t p ++ catV (kidR l d ats p.kids) k)) := HO.out.keep (fun _ _ => rfl)
      have HC := Lib.hid (IH.out A D' cap cp e' ats[k] p.kids[k] _ u0 lo wr.drew Hrd.out HTk.out Hm.out HSk.out hd (by omega) HLK.out)
      clear hm hvk he' hrd hvd hty hd
      have HKS : Hid (∀ w', w2.grownBy w' v.ownBlock → w'.cell? ⟨g, o + k * 2, none⟩ = some (.int .i64 ats[k].data) ∧ w'.cell? ⟨g, o + k * 2 + 1, none⟩ = some (.int .i64 ats[k].index) ∧ w'.cell? ⟨w.heap.size + 1, 5, none⟩ = some (.slice (some ⟨b, off, none⟩) p.kids.length ep) ∧ w'.cell? ⟨b, off + k * 6, none⟩ = some (.int .i64 p.kids[k].op) ∧ w'.cell? ⟨b, off + k * 6 + 1, none⟩ = some (.int .i64 p.kids[k].ctor) ∧ w'.cell? ⟨b, off + k * 6 + 2, none⟩ = some (.int .i64 p.kids[k].n) ∧ w'.cell? ⟨b, off + k * 6 + 3, none⟩ = some (.int .i64 p.kids[k].m) ∧ w'.cell? ⟨b, off + k * 6 + 4, none⟩ = some (.int .i64 p.kids[k].var) ∧ w'.cell? ⟨b, off + k * 6 + 5, none⟩ = some (.slice D' p.kids[k].kids.length cp)) := fun w' hW => by
        obtain ⟨_, _, _, _, _, _, hs'⟩ := HST.out w' hW
        have hs : ∀ b', (b' < lo ∨ (w.heap.size ≤ b' ∧ b' < w.heap.size + 2) ∨ (Value.slice (some ⟨g, o, none⟩) ats.length c3).ownBlock = some b') → w'.heap[b']? = wr.drew.heap[b']? := fun b' hc => (hs' b' hc).trans (hst b' hc).symm
        exact ⟨(World.cell?_of_block (a := ⟨g, o + k * 2, none⟩) (hs (g) (.inr (.inr rfl)))).trans t0, (World.cell?_of_block (a := ⟨g, o + k * 2 + 1, none⟩) (hs (g) (.inr (.inr rfl)))).trans t1, (World.cell?_of_block (a := ⟨w.heap.size + 1, 5, none⟩) (hs (w.heap.size + 1) (.inr (.inl ⟨by omega, by omega⟩)))).trans y5, (World.cell?_of_block (a := ⟨b, off + k * 6, none⟩) (hs (b) (.inl hbB))).trans c0, (World.cell?_of_block (a := ⟨b, off + k * 6 + 1, none⟩) (hs (b) (.inl hbB))).trans c1, (World.cell?_of_block (a := ⟨b, off + k * 6 + 2, none⟩) (hs (b) (.inl hbB))).trans c2, (World.cell?_of_block (a := ⟨b, off + k * 6 + 3, none⟩) (hs (b) (.inl hbB))).trans c3', (World.cell?_of_block (a := ⟨b, off + k * 6 + 4, none⟩) (hs (b) (.inl hbB))).trans c4, (World.cell?_of_block (a := ⟨b, off + k * 6 + 5, none⟩) (hs (b) (.inl hbB))).trans c5⟩
      have SQ := HKS.out wr.drew (grown_drewV HG.out)
      clear t0 t1 y0 y1 y2 y3 y4 y5 x0 x1 c0 c1 c2 c3' c4 c5 hst x0' x1'
      by_cases hk0 : k = 0
      · have qk : ((k : Int) == 0) = true := by simp [hk0]
        clear hk0
        go_wp2_with fail
        go_region_held3 (fun w' => w'.cell? ⟨g, o + k * 2, none⟩ = some (.int .i64 ats[k].data) ∧ w'.cell? ⟨g, o + k * 2 + 1, none⟩ = some (.int .i64 ats[k].index) ∧ w'.cell? ⟨w.heap.size + 1, 5, none⟩ = some (.slice (some ⟨b, off, none⟩) p.kids.length ep) ∧ w'.cell? ⟨b, off + k * 6, none⟩ = some (.int .i64 p.kids[k].op) ∧ w'.cell? ⟨b, off + k * 6 + 1, none⟩ = some (.int .i64 p.kids[k].ctor) ∧ w'.cell? ⟨b, off + k * 6 + 2, none⟩ = some (.int .i64 p.kids[k].n) ∧ w'.cell? ⟨b, off + k * 6 + 3, none⟩ = some (.int .i64 p.kids[k].m) ∧ w'.cell? ⟨b, off + k * 6 + 4, none⟩ = some (.int .i64 p.kids[k].var) ∧ w'.cell? ⟨b, off + k * 6 + 5, none⟩ = some (.slice D' p.kids[k].kids.length cp)) (with_reducible exact SQ) (first | (go_at_call 65; (with_reducible refine HC.out.mono ?_); rintro e4 w4 ⟨v4, rfl, ho4, hg4, hf4⟩; have hg5 := grown_chain (grown_drewV HG.out) hg4 HF.out; have SQ := HKS.out w4 hg5))
        have HO4 : Hid (OVt w4 lo v4 (vs ++ (hdV t p ++ catV (kidR l d ats p.kids) (k + 1)))) := by
          unfold Hid
          have e5 : catV (kidR l d ats p.kids) (k + 1) = catV (kidR l d ats p.kids) k ++ vrP l d ats[k] p.kids[k] := by rw [← HKk.out]; rfl
          rw [e5, ← List.append_assoc (hdV t p), ← List.append_assoc vs]
          exact ho4
        have HG5 := Lib.hid hg5
        have HF5 : Hid (Fresh w2 v v4) := HF.out.trans hf4 HG.out.size
        clear ho4 hg4 hf4 hg5 SQ
        go_wp2_with fail
        go_roundw
        case rel => exact ⟨k + 1, by omega, by go_num, HO4.out, HG5.out, HF5.out⟩
        case measure => simp [intOf]; omega
      · have qk : ((k : Int) == 0) = false := by simp; omega
        have q5 : (p.op != 5) = true := by
          have h5 := HV5.out
          have h6 : ¬ p.op = 5 := fun h => by have := (h5.1 h).1; omega
          simpa using h6
        clear hk0
        go_wp2_with fail
        go_region_held3 (fun w' => w'.cell? ⟨g, o + k * 2, none⟩ = some (.int .i64 ats[k].data) ∧ w'.cell? ⟨g, o + k * 2 + 1, none⟩ = some (.int .i64 ats[k].index) ∧ w'.cell? ⟨w.heap.size + 1, 5, none⟩ = some (.slice (some ⟨b, off, none⟩) p.kids.length ep) ∧ w'.cell? ⟨b, off + k * 6, none⟩ = some (.int .i64 p.kids[k].op) ∧ w'.cell? ⟨b, off + k * 6 + 1, none⟩ = some (.int .i64 p.kids[k].ctor) ∧ w'.cell? ⟨b, off + k * 6 + 2, none⟩ = some (.int .i64 p.kids[k].n) ∧ w'.cell? ⟨b, off + k * 6 + 3, none⟩ = some (.int .i64 p.kids[k].m) ∧ w'.cell? ⟨b, off + k * 6 + 4, none⟩ = some (.int .i64 p.kids[k].var) ∧ w'.cell? ⟨b, off + k * 6 + 5, none⟩ = some (.slice D' p.kids[k].kids.length cp)) (with_reducible exact SQ) (first | (go_at_call 65; (with_reducible refine HC.out.mono ?_); rintro e4 w4 ⟨v4, rfl, ho4, hg4, hf4⟩; have hg5 := grown_chain (grown_drewV HG.out) hg4 HF.out; have SQ := HKS.out w4 hg5))
        have HO4 : Hid (OVt w4 lo v4 (vs ++ (hdV t p ++ catV (kidR l d ats p.kids) (k + 1)))) := by
          unfold Hid
          have e5 : catV (kidR l d ats p.kids) (k + 1) = catV (kidR l d ats p.kids) k ++ vrP l d ats[k] p.kids[k] := by rw [← HKk.out]; rfl
          rw [e5, ← List.append_assoc (hdV t p), ← List.append_assoc vs]
          exact ho4
        have HG5 := Lib.hid hg5
        have HF5 : Hid (Fresh w2 v v4) := HF.out.trans hf4 HG.out.size
        clear ho4 hg4 hf4 hg5 SQ
        go_wp2_with fail
        go_roundw
        case rel => exact ⟨k + 1, by omega, by go_num, HO4.out, HG5.out, HF5.out⟩
        case measure => simp [intOf]; omega
    · have he : k = lim := by omega
      have HL5 := HV5.out
      have HE : Hid (OVt wr lo u0 (vs ++ vrP l (d + 1) t p)) := by unfold Hid; rw [HFIN.out, ← he]; exact HO.out
      have HGA := Lib.hid (grown_all HG1.out HF1.out HB2.out HG.out)
      have HFA : Hid (Fresh w v u0) := HF1.out.trans HF.out (Nat.le_trans HG1.out.size HB2.out.size)
      clear HO HG HF
      by_cases h5 : p.op = 5
      · have q5 : (p.op != 5) = false := by simp [h5]
        have hl2 := HL5.1 h5
        have qk : ((k : Int) == 0) = false := by simp; omega
        have qc : ((k : Int) < (ats.length : Int)) := by omega
        clear h5 he hl2 HL5
        go_wp2_with fail
        go_ret
        exact ⟨_, rfl, HE.out, HGA.out, HFA.out⟩
      · have hl2 := HL5.2 h5
        have qc : ((ats.length : Int) ≤ (k : Int)) := by omega
        clear h5 he hl2 HL5
        go_wp2_with fail
        go_ret
        exact ⟨_, rfl, HE.out, HGA.out, HFA.out⟩
theorem varC_step (l : List Da) (d : Nat) (ih : VarC l d) : VarC l (d + 1) := by
  intro A D cap ep e t p vs v lo w hr ht hv hs hov hlo hlen
  by_cases h2 : p.op = 2
  · exact varC_2 l d ih A D cap ep e t p vs v lo w hr ht hv hs hov hlo hlen h2
  by_cases h6 : p.op = 6
  · exact varC_6 l d ih A D cap ep e t p vs v lo w hr ht hv hs hov hlo hlen h2 h6
  exact varC_o l d ih A D cap ep e t p vs v lo w hr ht hv hs hov hlo hlen h2 h6
theorem varC_any (l : List Da) : ∀ d, VarC l d
  | 0 => varC_zero l
  | d + 1 => varC_step l d (varC_any l d)
end Go.Proofs.Yteoopmogklpnoaa
