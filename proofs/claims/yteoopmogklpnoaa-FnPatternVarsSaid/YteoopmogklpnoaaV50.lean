/-
  The program's walk over a pattern: the step. No statement is proved here.
-/
import Derived.Test.YteoopmogklpnoaaV49
namespace Go.Proofs.Yteoopmogklpnoaa
open Go.RowKit Go.Sort Go.Deep
set_option maxRecDepth 100000
set_option linter.unusedVariables false
set_option maxHeartbeats 8000000 in
theorem vo_step (l : List Da) (d : Nat) (z : Int) (hz0 : 1 ≤ z) (hz2 : z ≤ 100) (ih : VoZ l d (z - 1)) (A D : Option Addr) (cap ep e lo g n : Nat) (t : Ty) (p : Pt) (w : World) (hr : RDas w lo A l) (ht : TyOK l t) (hv : RPs e w lo D p.kids) (hc : CkB w lo g A l.length cap n) (hn60 : n ≤ 60) (ho : OwnOK l t p) (hb : n + 1 ≤ 60) (hl : p.kids.length = (tysP l t p).length) : Calls Try.prog 101 #[.pointer (some ⟨g, 0, none⟩), .agg #[.int .i64 t.data, .int .i64 t.index], .agg #[.int .i64 p.op, .int .i64 p.ctor, .int .i64 p.n, .int .i64 p.m, .int .i64 p.var, .slice D p.kids.length ep], .int .i64 z] w (VoQ l (d + 1) t p lo g A cap n w (okP l (d + 1) t p n)) := by
  obtain ⟨i0, hi, hiz, his, hib⟩ := info_parts infoVs
  have hzq : (z == 0) = false := by simp; omega
  have IH := Lib.hid ih
  have HD := Lib.hid (dec_t ho)
  have HOW := Lib.hid ho
  have HOK := Lib.hid (tysP_ok ht ho)
  have hq : decide (60 < (n : Int) + 1) = false := decide_eq_false (by omega)
  have hbI : (n : Int) + 1 ≤ 60 := by omega
  have hlI : (((tysP l t p).length : Int) != (p.kids.length : Int)) = false := by simp [hl]
  have hl3 := tysP_len l t p
  have hkm := hv.1
  unfold maxLen at hkm
  have HKI := Lib.hid (fun (i : Nat) (h : i < (tysP l t p).length) (h' : i < p.kids.length) => kidR_at (l := l) (d := d) h h')
  have HKZ : Hid (KidsOK l d t p n 0) := KidsOK.zero hb
  have HKL := Lib.hid hl
  have HLW : Hid (∀ w', Below lo w w' → RDas w' lo A l) := fun w' hb => hr.keep (fun q hq => hb.cell hq) (Nat.le_refl _)
  have HVS : Hid (∀ k (h : k < p.kids.length), ∃ b off, D = some ⟨b, off, none⟩ ∧ b < lo ∧ RPl e w lo b (off + k * 6) p.kids[k]) := hv.2
  clear ih ho hb hl
  have hgw := hc.lt
  have hglo := hc.ge
  have HT := Lib.hid ht
  have HCK := Lib.hid hc
  have hnI : (n : Int) ≤ 60 := by omega
  have HKR : Hid (∀ w', Below lo w w' → RDas w' w'.heap.size A l ∧ RPs e w' w'.heap.size D p.kids) := fun w' hb => ⟨hr.keep (fun q hq => hb.cell hq) (by have := hb.size; omega), hv.keep (fun q hq => hb.cell hq) (by have := hb.size; omega)⟩
  clear hr hv ht hc
  have hcA : w.cell? ⟨g, 1, none⟩ = some (.int .i64 n) := HCK.out.c1
  have hfA : w.frozen? ⟨g, 1, none⟩ = false := HCK.out.f1
  obtain ⟨wa, hwa⟩ : ∃ wa, w.setCell ⟨g, 1, none⟩ (.int .i64 ((n : Int) + 1)) = wa := ⟨_, rfl⟩
  obtain ⟨w1, hw1⟩ : ∃ w1, ((wa.alloc (.cells #[.int .i64 t.data, .int .i64 t.index] 25)).alloc (.cells #[.int .i64 p.op, .int .i64 p.ctor, .int .i64 p.n, .int .i64 p.m, .int .i64 p.var, .slice D p.kids.length ep] 50)) = w1 := ⟨_, rfl⟩
  obtain ⟨hC1, hG1, hX1, hP1, hs1⟩ := vo_start HCK.out hwa hw1
  have HWA := Lib.hid hwa
  have HW1 := Lib.hid hw1
  have HX1 := Lib.hid hX1
  have HP1 := Lib.hid hP1
  have HC1 := Lib.hid hC1
  have HG1 := Lib.hid hG1
  have hlow1 : Below lo w w1 := grown_low hG1 (fun q e => by injection e with e; omega) (by omega)
  have HKS : Hid (∀ w', Below w1.heap.size w1 w' → w'.cell? ⟨g, 0, none⟩ = some (.slice A l.length cap) ∧ w'.cell? ⟨g, 1, none⟩ = some (.int .i64 ((n : Int) + 1)) ∧ w'.cell? ⟨w.heap.size, 0, none⟩ = some (.int .i64 t.data) ∧ w'.cell? ⟨w.heap.size, 1, none⟩ = some (.int .i64 t.index) ∧ w'.cell? ⟨w.heap.size + 1, 0, none⟩ = some (.int .i64 p.op) ∧ w'.cell? ⟨w.heap.size + 1, 1, none⟩ = some (.int .i64 p.ctor) ∧ w'.cell? ⟨w.heap.size + 1, 2, none⟩ = some (.int .i64 p.n) ∧ w'.cell? ⟨w.heap.size + 1, 3, none⟩ = some (.int .i64 p.m) ∧ w'.cell? ⟨w.heap.size + 1, 4, none⟩ = some (.int .i64 p.var) ∧ w'.cell? ⟨w.heap.size + 1, 5, none⟩ = some (.slice D p.kids.length ep)) := fun w' h => ⟨(h.cell (p := ⟨g, 0, none⟩) hC1.lt).trans hC1.c0, (h.cell (p := ⟨g, 1, none⟩) hC1.lt).trans hC1.c1, (hX1.at_ h).1, (hX1.at_ h).2, hP1.at_ h⟩
  have SQ := HKS.out w1.drew (Below.refl _ w1).drew
  clear hw1 hwa hC1 hG1 hX1 hP1
  go_enter Try.func101, Try.ntmps101
  go_wp2_with fail
  rw [HWA.out, HW1.out]
  clear hcA hfA
  go_region_held3 (fun w' => w'.cell? ⟨g, 0, none⟩ = some (.slice A l.length cap) ∧ w'.cell? ⟨g, 1, none⟩ = some (.int .i64 ((n : Int) + 1)) ∧ w'.cell? ⟨w.heap.size, 0, none⟩ = some (.int .i64 t.data) ∧ w'.cell? ⟨w.heap.size, 1, none⟩ = some (.int .i64 t.index) ∧ w'.cell? ⟨w.heap.size + 1, 0, none⟩ = some (.int .i64 p.op) ∧ w'.cell? ⟨w.heap.size + 1, 1, none⟩ = some (.int .i64 p.ctor) ∧ w'.cell? ⟨w.heap.size + 1, 2, none⟩ = some (.int .i64 p.n) ∧ w'.cell? ⟨w.heap.size + 1, 3, none⟩ = some (.int .i64 p.m) ∧ w'.cell? ⟨w.heap.size + 1, 4, none⟩ = some (.int .i64 p.var) ∧ w'.cell? ⟨w.heap.size + 1, 5, none⟩ = some (.slice D p.kids.length ep)) (with_reducible exact SQ) (first | (go_at_call 124; (with_reducible refine (kt_any A D l cap ep t p w1.drew (HKR.out w1.drew hlow1.drew).1 HT.out).mono ?_); rintro e2 w2 ⟨v2, rfl, hty, hb2'⟩; have hb2 : Below w1.heap.size w1 w2 := ⟨hb2'.os, hb2'.tape, hb2'.output, hb2'.size, hb2'.block⟩; have HTY : Hid (OwnOK l t p → OTys w2 w1.heap.size v2 (tysP l t p) (tysP l t p).length) := hty; have SQ := HKS.out w2 hb2; clear hty hb2'; rw [HD.out]))
  obtain ⟨s0, s1, s2, s3, s4, s5, s6, s7, s8, s9⟩ := SQ
  have HG2 := Lib.hid (grown_below2 HG1.out hb2 (by omega))
  have HTY2 := HTY.out HOW.out
  obtain ⟨A2, c2, rfl, hr2⟩ := HTY2.form (by unfold maxLen; omega)
  have HTYH := Lib.hid HTY2
  have HC2 : Hid (CkB w2 lo g A l.length cap (n + 1)) := HC1.out.keep (hb2.block g HC1.out.lt)
  have hz1' := HG1.out.size
  have hz2' := hb2.size
  clear hr2 HTY2 HTY
  generalize hats : tysP l t p = ats at HTYH hl3 hlI HOK HKI
  go_wp2_with (at_make; refine wpList_make_full _ rfl _ _ 186 rfl w2.heap.size 53 i0 _ 1 Try.underlying186 hi hiz his _ _ _ _ ats.length rfl rfl rfl rfl (by rw [hib]; omega) (by unfold maxLen; omega) (Nat.le_refl _) ?_; intro w3 hown3 hgr3)
  have HO3 := Lib.hid hown3
  have HAT := Lib.hid (vo_at hlow1 hb2 hgr3 HX1.out HP1.out hs1 hglo hgw HTYH.out hl3)
  have HC3 : Hid (CkB w3 lo g A l.length cap (n + 1)) := HC2.out.keep (hgr3.block g HC2.out.lt (fun e => by cases e))
  have HG3 : Hid (w.grownBy w3 (some g)) := grown_below2 HG2.out (below_of_grown hgr3 (Nat.le_refl _)) (by omega)
  have hz3 := hgr3.size
  have hgl : w2.heap.size < w3.heap.size := own_lt hown3
  clear hown3 hgr3 hi hiz his hib s0 s1 s2 s3 s4 s5 s6 s7 s8 s9
  go_loopw [59] (fun i wr => ∃ k : Nat, k ≤ ats.length ∧ i = .int .i64 k ∧ ∃ xs, wr.ownsRow w2.heap.size 53 1 (.slice (some ⟨w2.heap.size, 0, none⟩) ats.length ats.length) ats.length xs ∧ KRow wr (w2.heap.size + 1) (kidR l d ats p.kids) xs k ∧ CkB wr lo g A l.length cap (n + upKP p.kids k) ∧ KidsOK l d t p n k ∧ Fr (fun b => b = g ∨ b = w2.heap.size) w3 wr) (fun i _ => ats.length - (intOf i).toNat)
  case atStart => exact ⟨0, by omega, rfl, _, HO3.out, KRow.zero _ _ _ _, by rw [upKP_zero]; exact HC3.out, HKZ.out, Fr.refl _ _⟩
  case round =>
    obtain ⟨k, hk, rfl, xs, hown, hkr, hck, hko, hfr⟩ := hrel
    obtain ⟨hlw, hxr, hpr, htr⟩ := HAT.out wr hfr
    have hz4 := hfr.size
    have HOWN := Lib.hid hown
    have HKRW := Lib.hid hkr
    have HCKR := Lib.hid hck
    have HKO := Lib.hid hko
    have HFR := Lib.hid hfr
    have HLWR := Lib.hid hlw
    have HXR := Lib.hid hxr
    have HPR := Lib.hid hpr
    have HXL : Hid (xs.length = ats.length) := by have := hown.1; unfold Hid; omega
    clear hown hkr hck hko hfr hlw hxr hpr
    by_cases hlt : k < ats.length
    · have hlt' : k < (tysP l t p).length := by rw [hats]; exact hlt
      have hkl : k < p.kids.length := by rw [HKL.out]; exact hlt'
      obtain ⟨gt, ot, rfl, hgB, q0, q1⟩ := htr.2 k hlt
      obtain ⟨b, off, rfl, hbB, hvk⟩ := HVS.out k hkl
      obtain ⟨e', he', D', cp, c0, c1, c2', c3, c4, c5', hm⟩ := hvk.parts
      have hi1 : (k : Int) < (ats.length : Int) := by omega
      have hi2 : (k : Int) < (p.kids.length : Int) := by omega
      have HTk := Lib.hid (HOK.out _ (List.getElem_mem hlt))
      have HUK := Lib.hid (upKP_succ p.kids k hkl)
      have HKD := Lib.hid (HKI.out k hlt hkl)
      have hn4 : n + upKP p.kids k ≤ 60 := HKO.out.1
      have HKOS : Hid (okP l d ats[k] p.kids[k] (n + upKP p.kids k) = true → KidsOK l d t p n (k + 1)) := by
        subst hats; exact fun h => HKO.out.step hlt hkl h
      have HOKK : Hid (okP l d ats[k] p.kids[k] (n + upKP p.kids k) = false → okP l (d + 1) t p n = false) := by
        subst hats; exact fun h => okP_kid hlt hkl h
      obtain ⟨w4, hw4⟩ : ∃ w4, wr.alloc (.cells #[.int .i64 ats[k].data, .int .i64 ats[k].index] 25) = w4 := ⟨_, rfl⟩
      have hb4 : Below wr.heap.size wr w4 := by rw [← hw4]; exact (Below.refl _ _).alloc (Nat.le_refl _) _
      have hw4s : w2.heap.size + 1 ≤ w4.heap.size := by have := hb4.size; omega
      have hx4 : Bx w4 wr.heap.size ats[k] := by rw [← hw4]; exact ⟨by simp [go_sem], by simp [go_sem]⟩
      have HLK : Hid (RDas w4.drew lo A l ∧ RPs e' w4.drew lo D' p.kids[k].kids) := by
        have hbl : Below lo w w4.drew := (HLWR.out.trans (hb4.mono (by have := HLWR.out.size; omega))).drew
        exact ⟨HLW.out _ hbl, hm.keep (fun q hq => hbl.cell hq) (Nat.le_refl _)⟩
      have HCK4 : Hid (CkB w4.drew lo g A l.length cap (n + upKP p.kids k)) := HCKR.out.keep (hb4.block g HCKR.out.lt)
      have HO4 : Hid (w4.ownsRow w2.heap.size 53 1 (.slice (some ⟨w2.heap.size, 0, none⟩) ats.length ats.length) ats.length xs) := own_at HOWN.out (fun b e => hb4.block b (HOWN.out.lt b e).2)
      have HKR4 : Hid (KRow w4 (w2.heap.size + 1) (kidR l d ats p.kids) xs k) := HKRW.out.keep (fun b _ h => hb4.block b h)
      have HFR4 : Hid (Fr (fun b => b = g ∨ b = w2.heap.size) w3 w4) := HFR.out.trans (Fr.below hb4)
      have HKS4 : Hid (∀ w', Fr (fun b => b = g ∨ b = w2.heap.size) w4 w' → w'.cell? ⟨wr.heap.size, 0, none⟩ = some (.int .i64 ats[k].data) ∧ w'.cell? ⟨wr.heap.size, 1, none⟩ = some (.int .i64 ats[k].index) ∧ w'.cell? ⟨w.heap.size + 1, 5, none⟩ = some (.slice (some ⟨b, off, none⟩) p.kids.length ep) ∧ w'.cell? ⟨b, off + k * 6, none⟩ = some (.int .i64 p.kids[k].op) ∧ w'.cell? ⟨b, off + k * 6 + 1, none⟩ = some (.int .i64 p.kids[k].ctor) ∧ w'.cell? ⟨b, off + k * 6 + 2, none⟩ = some (.int .i64 p.kids[k].n) ∧ w'.cell? ⟨b, off + k * 6 + 3, none⟩ = some (.int .i64 p.kids[k].m) ∧ w'.cell? ⟨b, off + k * 6 + 4, none⟩ = some (.int .i64 p.kids[k].var) ∧ w'.cell? ⟨b, off + k * 6 + 5, none⟩ = some (.slice D' p.kids[k].kids.length cp)) := fun w' hf => by
        have hlow : Below lo w w' := by
          have h1 := HLWR.out.trans (hb4.mono (by have := HLWR.out.size; omega))
          exact h1.trans (hf.to (by have := h1.size; omega) (fun b hb e => by rcases e with e | e <;> omega))
        have hkk : ∀ i, i < w4.heap.size → i ≠ g → i ≠ w2.heap.size → w'.heap[i]? = w4.heap[i]? := fun i h1 h2 h3 => hf.2.2.2.2 i h1 (fun e => by rcases e with e | e; exact h2 e; exact h3 e)
        have hwr4 := hb4.size
        have k4 : wr.heap.size < w4.heap.size := Go.block_lt_of_cell hx4.1
        have e4 := hkk wr.heap.size k4 (by omega) (by omega)
        have hp5 := HPR.out.2.2.2.2.2
        have e5 : w'.heap[w.heap.size + 1]? = wr.heap[w.heap.size + 1]? := (hkk (w.heap.size + 1) (by omega) (by omega) (by omega)).trans (hb4.block _ (by omega))
        have hcl : ∀ o v, w.cell? ⟨b, o, none⟩ = some v → w'.cell? ⟨b, o, none⟩ = some v := fun o v h => (hlow.cell (p := ⟨b, o, none⟩) hbB).trans h
        exact ⟨(World.cell?_of_block (a := ⟨wr.heap.size, 0, none⟩) e4).trans hx4.1, (World.cell?_of_block (a := ⟨wr.heap.size, 1, none⟩) e4).trans hx4.2, (World.cell?_of_block (a := ⟨w.heap.size + 1, 5, none⟩) e5).trans hp5, hcl _ _ c0, hcl _ _ c1, hcl _ _ c2', hcl _ _ c3, hcl _ _ c4, hcl _ _ c5'⟩
      have SQ := HKS4.out w4.drew (Fr.below (Below.refl _ w4).drew)
      have HW4 := Lib.hid hw4
      clear hw4 hx4 hb4 c0 c1 c2' c3 c4 c5' hm hvk he' htr
      by_cases hf : okP l d ats[k] p.kids[k] (n + upKP p.kids k) = true
      · have HF := Lib.hid hf
        clear hf
        have hzw : IntKind.i64.wrap (z - 1) = z - 1 := IntWalk.i64_in _ (by omega)
        go_wp2_with fail
        rw [HW4.out]
        go_region_held3 (fun w' => w'.cell? ⟨wr.heap.size, 0, none⟩ = some (.int .i64 ats[k].data) ∧ w'.cell? ⟨wr.heap.size, 1, none⟩ = some (.int .i64 ats[k].index) ∧ w'.cell? ⟨w.heap.size + 1, 5, none⟩ = some (.slice (some ⟨b, off, none⟩) p.kids.length ep) ∧ w'.cell? ⟨b, off + k * 6, none⟩ = some (.int .i64 p.kids[k].op) ∧ w'.cell? ⟨b, off + k * 6 + 1, none⟩ = some (.int .i64 p.kids[k].ctor) ∧ w'.cell? ⟨b, off + k * 6 + 2, none⟩ = some (.int .i64 p.kids[k].n) ∧ w'.cell? ⟨b, off + k * 6 + 3, none⟩ = some (.int .i64 p.kids[k].m) ∧ w'.cell? ⟨b, off + k * 6 + 4, none⟩ = some (.int .i64 p.kids[k].var) ∧ w'.cell? ⟨b, off + k * 6 + 5, none⟩ = some (.slice D' p.kids[k].kids.length cp)) (first | with_reducible exact SQ | with_reducible exact SK) (first | (go_at_call 101; (with_reducible refine (IH.out.known A D' cap cp e' lo g (n + upKP p.kids k) ats[k] p.kids[k] true w4.drew HF.out HLK.out.1 HTk.out HLK.out.2 HCK4.out hn4).mono ?_); rintro e5 w5 ⟨A5, n5, c5, rfl, hy5, hg5'⟩; have hg5 : w4.grownBy w5 (some g) := ⟨hg5'.os, hg5'.tape, hg5'.output, hg5'.size, hg5'.block⟩; have hfr5 : Fr (fun b => b = g ∨ b = w2.heap.size) w4 w5 := Fr.grown hg5 (fun b e => .inl (by injection e)); have hown5 : w5.ownsRow w2.heap.size 53 1 (.slice (some ⟨w2.heap.size, 0, none⟩) ats.length ats.length) ats.length xs := HO4.out.kept hg5 (.inr (fun e => by have e' : w2.heap.size = g := Option.some.inj e; omega)); obtain ⟨u0, f0⟩ := own_cell hown5 k (by omega); have f1 := hown5.frozenAt k; have SQ := HKS4.out w5 hfr5; have SK := HKS4.out (w5.setCell ⟨w2.heap.size, k, none⟩ (.slice A5 n5 c5)) (hfr5.trans (Fr.set w5 w2.heap.size k _ (.inr rfl))); have HY5 := Lib.hid (hy5 rfl); have HG5 := Lib.hid hg5; have HOW5 := Lib.hid hown5; have HFR5 := Lib.hid (hfr5.trans (Fr.set w5 w2.heap.size k (.slice A5 n5 c5) (.inr rfl))); clear hy5 hg5' hg5 hfr5 hown5))
        obtain ⟨ho5, hc5⟩ := HY5.out
        have HXS := Lib.hid (HOW5.out.stored k (.slice A5 n5 c5)).1
        have HKR6 : Hid (KRow (w5.setCell ⟨w2.heap.size, k, none⟩ (.slice A5 n5 c5)) (w2.heap.size + 1) (kidR l d ats p.kids) (xs.set k (.slice A5 n5 c5)) (k + 1)) := KRow.keep ((KRow.keep HKR4.out (fun b hb1 hb2 => HG5.out.block b hb2 (fun e => by injection e with e; omega))).step (by rw [HXL.out]; exact hlt) (by rw [HKD.out]; exact ho5.lower hw4s)) (fun b hb1 hb2 => Below.heap_setCell _ _ _ _ (by show b ≠ w2.heap.size; omega))
        have HCK6 : Hid (CkB (w5.setCell ⟨w2.heap.size, k, none⟩ (.slice A5 n5 c5)) lo g A l.length cap (n + upKP p.kids (k + 1))) := by unfold Hid; rw [HUK.out, ← Nat.add_assoc]; exact hc5.keep (Below.heap_setCell _ _ _ _ (by show g ≠ w2.heap.size; omega))
        have HKO6 := Lib.hid (HKOS.out HF.out)
        have HFR6 := Lib.hid (HFR4.out.trans HFR5.out)
        clear ho5 hc5 f0 f1 hzw
        go_wp2_with fail
        go_roundw
        case rel => exact ⟨k + 1, by omega, by go_num, _, HXS.out, HKR6.out, HCK6.out, HKO6.out, HFR6.out⟩
        case measure => simp [intOf]; omega
      · have hf' : okP l d ats[k] p.kids[k] (n + upKP p.kids k) = false := by simpa using hf
        have HF := Lib.hid hf'
        clear hf hf'
        have hzw : IntKind.i64.wrap (z - 1) = z - 1 := IntWalk.i64_in _ (by omega)
        go_wp2_with fail
        rw [HW4.out]
        go_region_held3 (fun w' => w'.cell? ⟨wr.heap.size, 0, none⟩ = some (.int .i64 ats[k].data) ∧ w'.cell? ⟨wr.heap.size, 1, none⟩ = some (.int .i64 ats[k].index) ∧ w'.cell? ⟨w.heap.size + 1, 5, none⟩ = some (.slice (some ⟨b, off, none⟩) p.kids.length ep) ∧ w'.cell? ⟨b, off + k * 6, none⟩ = some (.int .i64 p.kids[k].op) ∧ w'.cell? ⟨b, off + k * 6 + 1, none⟩ = some (.int .i64 p.kids[k].ctor) ∧ w'.cell? ⟨b, off + k * 6 + 2, none⟩ = some (.int .i64 p.kids[k].n) ∧ w'.cell? ⟨b, off + k * 6 + 3, none⟩ = some (.int .i64 p.kids[k].m) ∧ w'.cell? ⟨b, off + k * 6 + 4, none⟩ = some (.int .i64 p.kids[k].var) ∧ w'.cell? ⟨b, off + k * 6 + 5, none⟩ = some (.slice D' p.kids[k].kids.length cp)) (first | with_reducible exact SQ | with_reducible exact SK) (first | (go_at_call 101; (with_reducible refine (IH.out.known A D' cap cp e' lo g (n + upKP p.kids k) ats[k] p.kids[k] false w4.drew HF.out HLK.out.1 HTk.out HLK.out.2 HCK4.out hn4).mono ?_); rintro e5 w5 ⟨A5, n5, c5, rfl, hy5, hg5'⟩; have hg5 : w4.grownBy w5 (some g) := ⟨hg5'.os, hg5'.tape, hg5'.output, hg5'.size, hg5'.block⟩; have hfr5 : Fr (fun b => b = g ∨ b = w2.heap.size) w4 w5 := Fr.grown hg5 (fun b e => .inl (by injection e)); have hown5 : w5.ownsRow w2.heap.size 53 1 (.slice (some ⟨w2.heap.size, 0, none⟩) ats.length ats.length) ats.length xs := HO4.out.kept hg5 (.inr (fun e => by have e' : w2.heap.size = g := Option.some.inj e; omega)); obtain ⟨u0, f0⟩ := own_cell hown5 k (by omega); have f1 := hown5.frozenAt k; have SQ := HKS4.out w5 hfr5; have SK := HKS4.out (w5.setCell ⟨w2.heap.size, k, none⟩ (.slice A5 n5 c5)) (hfr5.trans (Fr.set w5 w2.heap.size k _ (.inr rfl)));  have HG5 := Lib.hid hg5; have HOW5 := Lib.hid hown5; have HFR5 := Lib.hid (hfr5.trans (Fr.set w5 w2.heap.size k (.slice A5 n5 c5) (.inr rfl))); clear hy5 hg5' hg5 hfr5 hown5))
        have HGZ := Lib.hid (grown_fr HG3.out (HFR4.out.trans HFR5.out) (by omega))
        have HOKF := Lib.hid (HOKK.out HF.out)
        clear f0 f1 hzw
        go_wp2_with fail
        go_ret2
        exact VoQ.no HOKF.out HGZ.out
    · have he : k = ats.length := by omega
      have HKA : Hid (KidsOK l d t p n ats.length) := by unfold Hid; rw [← he]; exact HKO.out
      have HKRA : Hid (KRow wr (w2.heap.size + 1) (kidR l d ats p.kids) xs ats.length) := by unfold Hid; rw [← he]; exact HKRW.out
      have HCKA : Hid (CkB wr lo g A l.length cap (n + (1 + wP p))) := by
        have h1 := HCKR.out
        have h2 : k = p.kids.length := by rw [HKL.out, hats]; exact he
        rw [h2, upKP_all] at h1; exact h1
      have HOR : Hid (p.op = 5 → ats.length = 2 ∧ okP l (d + 1) t p n = sameB (kidR l d ats p.kids 0) (kidR l d ats p.kids 1) ∧ vrP l (d + 1) t p = kidR l d ats p.kids 0) := by
        subst hats
        intro h5
        refine ⟨by rw [tysP_other (by omega), h5]; rfl, ?_⟩
        exact HKA.out.or2 HOW.out HKL.out h5
      have HNR : Hid (¬ p.op = 5 → okP l (d + 1) t p n = upto (onceV (vrP l (d + 1) t p)) (vrP l (d + 1) t p).length ∧ vrP l (d + 1) t p = hdV t p ++ (lisV (kidR l d ats p.kids) ats.length).flatten) := by
        subst hats
        exact fun h5 => HKA.out.not_or HOW.out HKL.out h5
      have HSH : Hid (shP l (d + 1) t p = true) := by
        subst hats
        exact HKA.out.sh HOW.out HKL.out
      have HLT : Hid ((vrP l (d + 1) t p).length ≤ 60) := by
        have h1 := vrP_len l (d + 1) t p HSH.out
        have h2 : n + (1 + wP p) ≤ 60 := by
          have := HKA.out.1
          rw [← he, show k = p.kids.length by rw [HKL.out, hats]; exact he, upKP_all] at this
          exact this
        unfold Hid; omega
      have HVW : Hid (∀ x ∈ vrP l (d + 1) t p, 0 ≤ x.var ∧ x.var ≤ 5) := vrP_vars HSH.out
      have HKLEN : Hid (∀ i, i < ats.length → (kidR l d ats p.kids i).length ≤ maxLen) := by
        subst hats
        intro i hi
        have hi' : i < p.kids.length := by rw [HKL.out]; exact hi
        have h1 := vrP_len l d _ _ (HKA.out.2 i hi hi' hi).1
        have h2 := wP_kid p i hi'
        have h3 : n + (1 + wP p) ≤ 60 := by have := HKA.out.1; rw [← HKL.out, upKP_all] at this; exact this
        rw [kidR_at hi hi']
        unfold maxLen; omega
      have HM26 : Hid (p.op = 2 ∨ p.op = 6 → ats.length = 0 ∨ ats.length = 1) := by
        subst hats
        intro h
        rcases h with h | h
        · left; rw [tysP_other (by omega), h]; rfl
        · right; rw [tysP_other (by omega), h]; rfl
      obtain ⟨y0, y1, y2, y3, y4, y5⟩ := HPR.out
      obtain ⟨z0, z1⟩ := HXR.out
      clear he htr HKO HKRW HCKR
      by_cases h5 : p.op = 5
      · have u5 := ieq_t h5
        obtain ⟨hm2, HOKO, HVRO⟩ := HOR.out h5
        have HOKO := Lib.hid HOKO
        have HVRO := Lib.hid HVRO
        obtain ⟨v0, e0, ho0⟩ := HKRA.out 0 (by omega)
        obtain ⟨v1, e1, ho1⟩ := HKRA.out 1 (by omega)
        have hl0 : (kidR l d ats p.kids 0).length ≤ maxLen := by rw [← HVRO.out]; have := HLT.out; unfold maxLen; omega
        have hl1 : (kidR l d ats p.kids 1).length ≤ maxLen := HKLEN.out 1 (by omega)
        obtain ⟨A0, c0, rfl, hr0⟩ := ho0.form hl0
        obtain ⟨A1, c1, rfl, hr1⟩ := ho1.form hl1
        have x0 := (HOWN.out.cellAt 0 (by omega)).trans e0
        have x1 := (HOWN.out.cellAt 1 (by omega)).trans e1
        have HKS5 : Hid (∀ w', Below wr.heap.size wr w' → w'.cell? ⟨w2.heap.size, 0, none⟩ = some (.slice A0 (kidR l d ats p.kids 0).length c0) ∧ w'.cell? ⟨w2.heap.size, 1, none⟩ = some (.slice A1 (kidR l d ats p.kids 1).length c1)) := fun w' h => ⟨(h.cell (p := ⟨w2.heap.size, 0, none⟩) (Go.block_lt_of_cell x0)).trans x0, (h.cell (p := ⟨w2.heap.size, 1, none⟩) (Go.block_lt_of_cell x1)).trans x1⟩
        have SQ := HKS5.out wr.drew (Below.refl _ wr).drew
        have HSV := Lib.hid (sameVars_any A0 A1 _ _ c0 c1 wr.drew hr0 hr1)
        have HO0 := Lib.hid ho0
        have HL0 := Lib.hid hl0
        have hi0 : (0 : Int) < (ats.length : Int) := by omega
        have hi1 : (1 : Int) < (ats.length : Int) := by omega
        have hi0n : 0 < ats.length := by omega
        have hi1n : 1 < ats.length := by omega
        generalize kidR l d ats p.kids 0 = L0 at SQ HSV HO0 HL0 HKS5 HOKO HVRO
        generalize kidR l d ats p.kids 1 = L1 at SQ HSV HKS5 HOKO
        clear h5 hm2 e0 e1 ho0 ho1 hl0 hl1 hr0 hr1 x0 x1 y1 y2 y3 y4 y5
        go_wp2_with fail
        go_region_held3 (fun w' => w'.cell? ⟨w2.heap.size, 0, none⟩ = some (.slice A0 L0.length c0) ∧ w'.cell? ⟨w2.heap.size, 1, none⟩ = some (.slice A1 L1.length c1)) (with_reducible exact SQ) (first | (go_at_call 125; (with_reducible refine HSV.out.mono ?_); rintro e7 w7 ⟨rfl, hb7'⟩; have hb7 : Below wr.heap.size wr w7 := ⟨hb7'.os, hb7'.tape, hb7'.output, hb7'.size, hb7'.block⟩; have SQ := HKS5.out w7 hb7; clear hb7'))
        go_wp2_with fail
        go_ret2
        exact VoQ.yes HOKO.out HVRO.out HL0.out ((HO0.out.at_ hb7).lower (by omega)) (HCKA.out.keep (hb7.block g HCKA.out.lt)) (grown_below2 (grown_fr HG3.out HFR.out (by omega)) hb7 (by omega))
      · have u5 := ieq_f h5
        obtain ⟨HOKT, HVRO⟩ := HNR.out h5
        have HOKT := Lib.hid HOKT
        have HVRO := Lib.hid HVRO
        by_cases h2 : p.op = 2
        · skip
          have hop := h2
          have u2 := ieq_t hop
          have u6 : (p.op == 6) = false := ieq_f (by omega)
          obtain ⟨LL, hLL⟩ : ∃ LL : List (List Vt), LL = [⟨p.var, t⟩] :: lisV (kidR l d ats p.kids) ats.length := ⟨_, rfl⟩
          have hhd : hdV t p = [⟨p.var, t⟩] := hdV_yes (by omega)
          obtain ⟨LF, hLF⟩ : ∃ LF : List Vt, LF = LL.flatten := ⟨_, rfl⟩
          have HVR : Hid (vrP l (d + 1) t p = LF) := by unfold Hid; rw [HVRO.out, hLF, hLL]; rw [hhd, List.flatten_cons]
          have HLE : Hid (LL.flatten.length ≤ 1000) := by have := HLT.out; rw [HVR.out, hLF] at this; unfold Hid; omega
          have HLM : Hid (LF.length ≤ maxLen) := by have := HLE.out; rw [← hLF] at this; unfold Hid maxLen; omega
          have HVL : Hid (∀ x ∈ LF, 0 ≤ x.var ∧ x.var ≤ 5) := by have := HVW.out; rw [HVR.out] at this; exact this
          have HLF := Lib.hid hLF
          clear hLF
          have hll : LL.length = ats.length + 1 := by rw [hLL, List.length_cons, lisV_len]
          obtain ⟨w7, hw7⟩ : ∃ w7, (wr.alloc (.cells #[.int .i64 p.var, .int .i64 t.data, .int .i64 t.index] 56)).alloc (.cells #[.slice (some ⟨wr.heap.size, 0, none⟩) 1 1] 53) = w7 := ⟨_, rfl⟩
          have hb7 : Below wr.heap.size wr w7 := by rw [← hw7]; exact ((Below.refl _ _).alloc (Nat.le_refl _) _).alloc (by simp) _
          have hx7 : w7.cell? ⟨wr.heap.size + 1, 0, none⟩ = some (.slice (some ⟨wr.heap.size, 0, none⟩) 1 1) := by rw [← hw7]; simp [go_sem]
          have hl7 : OVt w7 (w2.heap.size + 1) (.slice (some ⟨wr.heap.size, 0, none⟩) 1 1) [⟨p.var, t⟩] := by rw [← hw7]; exact (OVt.lit wr (w2.heap.size + 1) ⟨p.var, t⟩ (by omega)).alloc _
          have HK7 : Hid (KRow w7 (w2.heap.size + 1) (kidR l d ats p.kids) xs ats.length) := HKRA.out.keep (fun b _ h => hb7.block b h)
          have HO7 : Hid (w7.ownsRow w2.heap.size 53 1 (.slice (some ⟨w2.heap.size, 0, none⟩) ats.length ats.length) ats.length xs) := own_at HOWN.out (fun b e => hb7.block b (HOWN.out.lt b e).2)
          have HX7 := Lib.hid (LsRow.cons HK7.out.all hl7)
          have h7s := hb7.size
          have HFR7 : Hid (Fr (fun b => b = g ∨ b = w2.heap.size) w3 w7) := HFR.out.trans (Fr.below hb7)
          have HC7 : Hid (CkB w7 lo g A l.length cap (n + (1 + wP p))) := HCKA.out.keep (hb7.block g HCKA.out.lt)
          have HINS := Lib.hid (insert_any w2.heap.size w2.heap.size (wr.heap.size + 1) ats.length (some ⟨wr.heap.size, 0, none⟩) 1 1 xs w7 (HM26.out (by omega)) HO7.out (by omega) hx7 (HKRA.out.one HXL.out))
          have HW7 := Lib.hid hw7
          have HLLE := Lib.hid hLL
          have HLL2 := Lib.hid hll
          have HOP := Lib.hid hop
          have gd5 : (p.op == 5) = false := u5
          clear hw7 hb7 hx7 hl7 hhd hLL hll hop h2
          go_wp2_with (go_at_call 126; rw [HW7.out]; refine HINS.out.mono ?_; rintro e8 w8 ⟨v8, rfl, ho8, hg8⟩; obtain ⟨AL, cL, rfl, hrl⟩ := rls_of (LL := LL) ho8 (by rw [HLLE.out]; exact HX7.out.keep (fun b h1 h2 => hg8.block b h2 (fun e => by have e' : b = w2.heap.size := Option.some.inj e; omega))) HLL2.out (by unfold maxLen; omega); have hcon := concat_any AL LL cL w8 hrl HLE.out; rw [← HLF.out] at hcon; have HCON := Lib.hid hcon; have HCX : Hid (CkB w8 lo g A l.length cap (n + (1 + wP p))) := HC7.out.keep (hg8.block g HC7.out.lt (fun e => by have e' : g = w2.heap.size := Option.some.inj e; omega)); have HGX := Lib.hid (grown_fr HG3.out (HFR7.out.trans (Fr.grown (P := (fun b => b = g ∨ b = w2.heap.size)) hg8 (fun b e => .inr (Option.some.inj e)))) (by omega)); clear ho8 hg8 hrl hcon)
          go_wp2_with (first | (go_at_call 127; refine HCON.out.mono ?_; rintro e9 w9 ⟨v9, rfl, ho9, hb9⟩; obtain ⟨A9, c9, rfl, hr9⟩ := ho9.form HLM.out; have HO9 := Lib.hid ho9; have HR9 := Lib.hid hr9; clear ho9 hr9) | (go_at_call 128; refine (varTwice_any A9 _ c9 w9 HR9.out HVL.out).mono ?_; rintro e10 w10 ⟨rfl, hb10⟩))
          go_ret2
          have hbX := HCX.out.keep (hb9.block g HCX.out.lt)
          have hbY := hbX.keep (hb10.block g hbX.lt)
          have hgx := HGX.out.size
          have h9s := hb9.size
          have hgX := grown_below2 (grown_below2 HGX.out hb9 (by omega)) hb10 (by omega)
          exact VoQ.yes (by first | rw [HOKT.out, HVR.out] | rw [HOKT.out, HVR.out, Bool.not_not]) HVR.out HLM.out ((HO9.out.at_ hb10).lower (by omega)) hbY hgX
        by_cases h6 : p.op = 6
        · skip
          have hop := h6
          have u2 : (p.op == 2) = false := ieq_f (by omega)
          have u6 := ieq_t hop
          obtain ⟨LL, hLL⟩ : ∃ LL : List (List Vt), LL = [⟨p.var, t⟩] :: lisV (kidR l d ats p.kids) ats.length := ⟨_, rfl⟩
          have hhd : hdV t p = [⟨p.var, t⟩] := hdV_yes (by omega)
          obtain ⟨LF, hLF⟩ : ∃ LF : List Vt, LF = LL.flatten := ⟨_, rfl⟩
          have HVR : Hid (vrP l (d + 1) t p = LF) := by unfold Hid; rw [HVRO.out, hLF, hLL]; rw [hhd, List.flatten_cons]
          have HLE : Hid (LL.flatten.length ≤ 1000) := by have := HLT.out; rw [HVR.out, hLF] at this; unfold Hid; omega
          have HLM : Hid (LF.length ≤ maxLen) := by have := HLE.out; rw [← hLF] at this; unfold Hid maxLen; omega
          have HVL : Hid (∀ x ∈ LF, 0 ≤ x.var ∧ x.var ≤ 5) := by have := HVW.out; rw [HVR.out] at this; exact this
          have HLF := Lib.hid hLF
          clear hLF
          have hll : LL.length = ats.length + 1 := by rw [hLL, List.length_cons, lisV_len]
          obtain ⟨w7, hw7⟩ : ∃ w7, (wr.alloc (.cells #[.int .i64 p.var, .int .i64 t.data, .int .i64 t.index] 56)).alloc (.cells #[.slice (some ⟨wr.heap.size, 0, none⟩) 1 1] 53) = w7 := ⟨_, rfl⟩
          have hb7 : Below wr.heap.size wr w7 := by rw [← hw7]; exact ((Below.refl _ _).alloc (Nat.le_refl _) _).alloc (by simp) _
          have hx7 : w7.cell? ⟨wr.heap.size + 1, 0, none⟩ = some (.slice (some ⟨wr.heap.size, 0, none⟩) 1 1) := by rw [← hw7]; simp [go_sem]
          have hl7 : OVt w7 (w2.heap.size + 1) (.slice (some ⟨wr.heap.size, 0, none⟩) 1 1) [⟨p.var, t⟩] := by rw [← hw7]; exact (OVt.lit wr (w2.heap.size + 1) ⟨p.var, t⟩ (by omega)).alloc _
          have HK7 : Hid (KRow w7 (w2.heap.size + 1) (kidR l d ats p.kids) xs ats.length) := HKRA.out.keep (fun b _ h => hb7.block b h)
          have HO7 : Hid (w7.ownsRow w2.heap.size 53 1 (.slice (some ⟨w2.heap.size, 0, none⟩) ats.length ats.length) ats.length xs) := own_at HOWN.out (fun b e => hb7.block b (HOWN.out.lt b e).2)
          have HX7 := Lib.hid (LsRow.cons HK7.out.all hl7)
          have h7s := hb7.size
          have HFR7 : Hid (Fr (fun b => b = g ∨ b = w2.heap.size) w3 w7) := HFR.out.trans (Fr.below hb7)
          have HC7 : Hid (CkB w7 lo g A l.length cap (n + (1 + wP p))) := HCKA.out.keep (hb7.block g HCKA.out.lt)
          have HINS := Lib.hid (insert_any w2.heap.size w2.heap.size (wr.heap.size + 1) ats.length (some ⟨wr.heap.size, 0, none⟩) 1 1 xs w7 (HM26.out (by omega)) HO7.out (by omega) hx7 (HKRA.out.one HXL.out))
          have HW7 := Lib.hid hw7
          have HLLE := Lib.hid hLL
          have HLL2 := Lib.hid hll
          have HOP := Lib.hid hop
          have gd5 : (p.op == 5) = false := u5
          clear hw7 hb7 hx7 hl7 hhd hLL hll hop h6
          go_wp2_with (go_at_call 126; rw [HW7.out]; refine HINS.out.mono ?_; rintro e8 w8 ⟨v8, rfl, ho8, hg8⟩; obtain ⟨AL, cL, rfl, hrl⟩ := rls_of (LL := LL) ho8 (by rw [HLLE.out]; exact HX7.out.keep (fun b h1 h2 => hg8.block b h2 (fun e => by have e' : b = w2.heap.size := Option.some.inj e; omega))) HLL2.out (by unfold maxLen; omega); have hcon := concat_any AL LL cL w8 hrl HLE.out; rw [← HLF.out] at hcon; have HCON := Lib.hid hcon; have HCX : Hid (CkB w8 lo g A l.length cap (n + (1 + wP p))) := HC7.out.keep (hg8.block g HC7.out.lt (fun e => by have e' : g = w2.heap.size := Option.some.inj e; omega)); have HGX := Lib.hid (grown_fr HG3.out (HFR7.out.trans (Fr.grown (P := (fun b => b = g ∨ b = w2.heap.size)) hg8 (fun b e => .inr (Option.some.inj e)))) (by omega)); clear ho8 hg8 hrl hcon)
          go_wp2_with (first | (go_at_call 127; refine HCON.out.mono ?_; rintro e9 w9 ⟨v9, rfl, ho9, hb9⟩; obtain ⟨A9, c9, rfl, hr9⟩ := ho9.form HLM.out; have HO9 := Lib.hid ho9; have HR9 := Lib.hid hr9; clear ho9 hr9) | (go_at_call 128; refine (varTwice_any A9 _ c9 w9 HR9.out HVL.out).mono ?_; rintro e10 w10 ⟨rfl, hb10⟩))
          go_ret2
          have hbX := HCX.out.keep (hb9.block g HCX.out.lt)
          have hbY := hbX.keep (hb10.block g hbX.lt)
          have hgx := HGX.out.size
          have h9s := hb9.size
          have hgX := grown_below2 (grown_below2 HGX.out hb9 (by omega)) hb10 (by omega)
          exact VoQ.yes (by first | rw [HOKT.out, HVR.out] | rw [HOKT.out, HVR.out, Bool.not_not]) HVR.out HLM.out ((HO9.out.at_ hb10).lower (by omega)) hbY hgX
        · skip
          have u2 := ieq_f h2
          have u6 := ieq_f h6
          obtain ⟨LL, hLL⟩ : ∃ LL : List (List Vt), LL = lisV (kidR l d ats p.kids) ats.length := ⟨_, rfl⟩
          have hhd : hdV t p = [] := hdV_no (by omega)
          obtain ⟨LF, hLF⟩ : ∃ LF : List Vt, LF = LL.flatten := ⟨_, rfl⟩
          have HVR : Hid (vrP l (d + 1) t p = LF) := by unfold Hid; rw [HVRO.out, hLF, hLL]; rw [hhd, List.nil_append]
          have HLE : Hid (LL.flatten.length ≤ 1000) := by have := HLT.out; rw [HVR.out, hLF] at this; unfold Hid; omega
          have HLM : Hid (LF.length ≤ maxLen) := by have := HLE.out; rw [← hLF] at this; unfold Hid maxLen; omega
          have HVL : Hid (∀ x ∈ LF, 0 ≤ x.var ∧ x.var ≤ 5) := by have := HVW.out; rw [HVR.out] at this; exact this
          have HLF := Lib.hid hLF
          clear hLF
          have hll : LL.length = ats.length := by rw [hLL, lisV_len]
          have HCON : Hid (Calls Try.prog 127 #[.slice (some ⟨w2.heap.size, 0, none⟩) ats.length ats.length] wr fun e w' => ∃ v, e = .returned v ∧ OVt w' wr.heap.size v LF ∧ Below wr.heap.size wr w') := by
            obtain ⟨AL, cL, e, hrl⟩ := rls_of (LL := LL) HOWN.out (by rw [hLL]; exact HKRA.out.all) hll (by unfold maxLen; omega)
            have h1 := concat_any AL LL cL wr hrl HLE.out
            rw [← e, ← HLF.out] at h1
            exact h1
          have HCX := HCKA
          have HGX := Lib.hid (grown_fr HG3.out HFR.out (by omega))
          clear hhd hLL hll h2 h6
          go_wp2_with (first | (go_at_call 127; refine HCON.out.mono ?_; rintro e9 w9 ⟨v9, rfl, ho9, hb9⟩; obtain ⟨A9, c9, rfl, hr9⟩ := ho9.form HLM.out; have HO9 := Lib.hid ho9; have HR9 := Lib.hid hr9; clear ho9 hr9) | (go_at_call 128; refine (varTwice_any A9 _ c9 w9 HR9.out HVL.out).mono ?_; rintro e10 w10 ⟨rfl, hb10⟩))
          go_ret2
          have hbX := HCX.out.keep (hb9.block g HCX.out.lt)
          have hbY := hbX.keep (hb10.block g hbX.lt)
          have hgx := HGX.out.size
          have h9s := hb9.size
          have hgX := grown_below2 (grown_below2 HGX.out hb9 (by omega)) hb10 (by omega)
          exact VoQ.yes (by first | rw [HOKT.out, HVR.out] | rw [HOKT.out, HVR.out, Bool.not_not]) HVR.out HLM.out ((HO9.out.at_ hb10).lower (by omega)) hbY hgX
end Go.Proofs.Yteoopmogklpnoaa
