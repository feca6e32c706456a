/-
  The texts of values: the document's function. No statement is proved here.
-/
import Derived.Test.YthebdlejoficmacDoorVTx
import Derived.Test.YthebdlejoficmacDoorFitS
import Derived.Deep.RegionHeld3
namespace Go.Proofs.YthebdlejoficmacDoor
open Go.RowKit Go.Sort Go.Deep
set_option maxRecDepth 100000
set_option linter.unusedVariables false

def TxC (l : List Da) (d : Nat) : Prop := ∀ (A D : Option Addr) (cap ep e : Nat) (t : Ty) (v : Vl) (w : World), RDas w w.heap.size A l → TyOK l t → RVs e w w.heap.size D v.kids → fitV l d t v = true →
  Calls Tryd.prog 16 #[.slice A l.length cap, .agg #[.int .i64 t.data, .int .i64 t.index], .agg #[.int .i64 v.ctor, .int .i64 v.n, .slice D v.kids.length ep]] w fun e w' => e = .returned (.string (txV l d t v)) ∧ Below w.heap.size w w'

set_option maxHeartbeats 3000000 in
theorem txS_step (l : List Da) (d : Nat) (hd : d ≤ 9) (ih : TxC l d) : TxC l (d + 1) := by
  intro A D cap ep e t v w hr ht hv hfit
  have hl := hv.1
  have hm := hr.1
  unfold maxLen at hl hm
  generalize hw0 : (w.alloc (.cells #[.int .i64 t.data, .int .i64 t.index] 33)).alloc (.cells #[.int .i64 v.ctor, .int .i64 v.n, .slice D v.kids.length ep] 37) = w0
  have hb0 := below_box2 hw0
  have HXT : Hid (Bx w0 w.heap.size t) := by rw [← hw0]; exact ⟨by simp [go_sem], by simp [go_sem]⟩
  have HXV : Hid (VBx w0 (w.heap.size + 1) v.ctor v.n (.slice D v.kids.length ep)) := by rw [← hw0]; exact ⟨by simp [go_sem], by simp [go_sem], by simp [go_sem]⟩
  have HW := Lib.hid hw0
  clear hw0
  by_cases h1 : t.data = -1
  · obtain ⟨hn0, hn9⟩ := fit_num hfit h1
    have HT := Lib.hid (txV_int (l := l) (d := d) (v := v) h1)
    have q1 := ieq_t h1
    clear hr ht hv hfit ih h1
    obtain ⟨y0, y1, y2⟩ := HXV.out
    go_enter Tryd.func16, Tryd.ntmps16
    go_wp2_with (go_at_call 26; rw [HW.out]; refine (dec_any _ _ hn0 hn9).mono ?_; rintro e1 w1 ⟨rfl, hb1⟩)
    go_ret
    exact ⟨ret_str HT.out.symm, below_aft hb0 hb1 hb0.size⟩
  · obtain ⟨hnz, hc, hk, hu⟩ := fit_parts hfit h1
    clear hnz
    have HT := Lib.hid (txV_data (l := l) (d := d) (v := v) h1)
    have q1 := ieq_f h1
    have hnm := nmT_size hc
    have hm3 := agR_len l t v.ctor
    have HOK := Lib.hid (agR_ok hc)
    have HFK : Hid (∀ (i : Nat) (h : i < (agR l t v.ctor).length) (h' : i < v.kids.length), fitV l d (agR l t v.ctor)[i] v.kids[i] = true) := fun i h h' => by
      have := upto_get hu h
      rwa [kidV_at h h'] at this
    have hag := (l1Args_all A l cap t v.ctor · · hc)
    have HTL : Hid ((txK l d (agR l t v.ctor) v.kids).length = (agR l t v.ctor).length) := txK_len
    have HTK : Hid (∀ (i : Nat) (h : i < (agR l t v.ctor).length) (h' : i < v.kids.length) (h2 : i < (txK l d (agR l t v.ctor) v.kids).length), (txK l d (agR l t v.ctor) v.kids)[i] = txV l d (agR l t v.ctor)[i] v.kids[i]) := fun i h h' h2 => txK_at h h' h2
    have HTM : Hid (∀ x ∈ txK l d (agR l t v.ctor) v.kids, x.size ≤ 300000) := fun x hx => by
      obtain ⟨i, hi, rfl⟩ := List.getElem_of_mem hx
      have hi' : i < (agR l t v.ctor).length := by rw [txK_len] at hi; exact hi
      rw [txK_at hi' (by omega)]
      exact txV_short (by omega) (HFK.out i hi' (by omega))
    generalize hts : txK l d (agR l t v.ctor) v.kids = ts at HT HTL HTK HTM
    generalize hats : agR l t v.ctor = ats at hk hu hm3 HOK HFK hag HTL HTK
    obtain ⟨_, td, m, htd, e1, ecm, hmm⟩ := mem_ctR hc
    have hnT : nmT l t v.ctor = l[td].ctors[m].name := by
      rw [ecm]
      obtain ⟨x, y⟩ := t
      simp only at e1
      subst e1
      exact nmT_at htd hmm
    rw [hnT] at HT hnm
    have HAG := Lib.hid hag
    have HKL := Lib.hid hk
    obtain ⟨b, off, rfl, hbB, A', cp, c0, c1, _, hct⟩ := hr.2 td htd
    obtain ⟨g, o, rfl, hgB, D1, ep1, e0, _, _, _, _⟩ := hct.2 m hmm
    have hctl := hct.1
    unfold maxLen at hctl
    have k1 := (hb0.cell (p := ⟨b, off + td * 2 + 1, none⟩) hbB).trans c1
    have k2 := (hb0.cell (p := ⟨g, o + m * 3, none⟩) hgB).trans e0
    have HZ : Hid (∀ k, k ≤ ts.length → (acT l[td].ctors[m].name ts k).size ≤ l[td].ctors[m].name.size + k * (300000 + 1)) := fun k hk => acT_size HTM.out k hk
    have HJ1 : Hid (0 < ts.length → acT l[td].ctors[m].name ts ts.length ++ ⟨#[41]⟩ = twT l[td].ctors[m].name ts) := acT_all
    have HJ0 : Hid (ts.length = 0 → acT l[td].ctors[m].name ts ts.length = twT l[td].ctors[m].name ts) := acT_none
    have HAT : Hid (∀ k (h : k < ts.length), acT l[td].ctors[m].name ts (k + 1) = (acT l[td].ctors[m].name ts k ++ (if k = 0 then ⟨#[40]⟩ else ⟨#[44]⟩)) ++ ts[k]) := fun k h => acT_at h
    have HA0 : Hid (acT l[td].ctors[m].name ts 0 = l[td].ctors[m].name) := rfl
    generalize hnn : l[td].ctors[m].name = nm at HT hnm HZ HJ1 HJ0 HAT HA0 k2
    have Hr := Lib.hid hr
    have HTY := Lib.hid ht
    have HV := Lib.hid hv
    have IH := Lib.hid ih
    obtain ⟨x0, x1⟩ := HXT.out
    obtain ⟨y0, y1, y2⟩ := HXV.out
    have HEC := Lib.hid ecm
    rw [e1] at x0
    rw [ecm] at y0
    have hi1 : (td : Int) < (l.length : Int) := by omega
    have hi2 : (m : Int) < (l[td].ctors.length : Int) := by omega
    have q1' : ((td : Int) == -1) = false := ieq_f (by omega)
    have HE1 := Lib.hid e1
    clear hr ht hv hfit ih h1 hc hk hu hag hts hats hct c0 c1 e0 hnn hnT ecm e1
    go_enter Tryd.func16, Tryd.ntmps16
    go_wp2_with fail
    rw [HW.out]
    go_quiet (fail)
    go_wp2_with (go_at_call 27; rw [← HEC.out, ← HE1.out]; refine (HAG.out _ (by exact Hr.out.at_ (below_drawn hb0 _))).mono ?_; rintro e3 w3 ⟨v3, rfl, ho3, hb3'⟩; have hb3 : Below w0.heap.size w0 w3 := ⟨hb3'.os, hb3'.tape, hb3'.output, hb3'.size, hb3'.block⟩; obtain ⟨A3, c3, rfl, hr3⟩ := ho3.form (by unfold maxLen; omega); have HR3 := Lib.hid hr3; have hb3w := below_aft hb0 hb3 hb0.size; clear hr3 ho3 hb3')
    clear x0 x1 y0 y1 y2 k1 k2
    have hb30 := hb3
    go_loopw [7, 9] (fun t i wr => ∃ k : Nat, k ≤ ats.length ∧ i = .int .i64 k ∧ t = .string (acT nm ts k) ∧ Below w3.heap.size w3 wr) (fun _ i _ => ats.length - (intOf i).toNat)
    case atStart => exact ⟨0, by omega, rfl, by rw [HA0.out], Below.refl _ _⟩
    case round =>
      obtain ⟨k, hk, rfl, rfl, hb⟩ := hrel
      have hbw : Below w.heap.size w wr := below_aft hb3w hb hb3w.size
      have hbr0 : Below w0.heap.size w0 wr := below_aft hb30 hb hb30.size
      obtain ⟨f0, f1, f2⟩ := HXV.out.at_ hbr0
      have hz := HZ.out k (by rw [HTL.out]; exact hk)
      have hz2 : (acT nm ts k).size ≤ 1000000 := by
        have : k * (300000 + 1) ≤ 3 * (300000 + 1) := Nat.mul_le_mul (by omega) (Nat.le_refl _)
        omega
      clear hz
      by_cases hlt : k < ats.length
      · have hkl : k < v.kids.length := by rw [HKL.out]; exact hlt
        have hkt : k < ts.length := by rw [HTL.out]; exact hlt
        obtain ⟨g2, o2, rfl, hgB2, t0, t1⟩ := (HR3.out.below hb (Nat.le_refl _)).2 k hlt
        obtain ⟨b2, off2, rfl, hbB2, hvk⟩ := (HV.out.below hbw (Nat.le_refl _)).2 k hkl
        obtain ⟨e', he', D', cp2, c0, c1, c2, hm⟩ := hvk.parts
        have hi : (k : Int) < (ats.length : Int) := by omega
        have hi2 : (k : Int) < (v.kids.length : Int) := by omega
        have HTk := Lib.hid (HOK.out _ (List.getElem_mem hlt))
        have HFk := Lib.hid (HFK.out k hlt hkl)
        have HSk := Lib.hid (HTK.out k hlt hkl hkt)
        have hus := HTM.out ts[k] (List.getElem_mem hkt)
        have HAk := Lib.hid (HAT.out k hkt)
        have Hm : Hid (RVs e' wr.drew wr.drew.heap.size D' v.kids[k].kids) := hm.keep (fun _ _ => rfl) hbw.size
        have Hrr : Hid (RDas wr.drew wr.drew.heap.size (some ⟨b, off, none⟩) l) := Hr.out.at_ hbw.drew
        have HCI : Hid (∀ (ep : Nat), Calls Tryd.prog 16 #[.slice (some ⟨b, off, none⟩) l.length cap, .agg #[.int .i64 ats[k].data, .int .i64 ats[k].index], .agg #[.int .i64 v.kids[k].ctor, .int .i64 v.kids[k].n, .slice D' v.kids[k].kids.length ep]] wr.drew fun e w' => e = .returned (.string ts[k]) ∧ Below wr.drew.heap.size wr.drew w') := fun ep => by
          have := IH.out _ D' cap ep e' ats[k] v.kids[k] _ Hrr.out HTk.out Hm.out HFk.out
          rwa [← HSk.out] at this
        generalize hu : ts[k] = u at hus HAk HCI
        generalize ha : acT nm ts k = a at hz2 HAk
        have hS : wr.cell? ⟨g2, o2 + k * 2, none⟩ = some (.int .i64 ats[k].data) ∧ wr.cell? ⟨g2, o2 + k * 2 + 1, none⟩ = some (.int .i64 ats[k].index) ∧ wr.cell? ⟨w.heap.size + 1, 2, none⟩ = some (.slice (some ⟨b2, off2, none⟩) v.kids.length ep) ∧ wr.cell? ⟨b2, off2 + k * 3, none⟩ = some (.int .i64 v.kids[k].ctor) ∧ wr.cell? ⟨b2, off2 + k * 3 + 1, none⟩ = some (.int .i64 v.kids[k].n) ∧ wr.cell? ⟨b2, off2 + k * 3 + 2, none⟩ = some (.slice D' v.kids[k].kids.length cp2) := ⟨t0, t1, f2, c0, c1, c2⟩
        have HSC := Lib.hid hS
        clear hS hm hvk he' hu ha f0 f1
        by_cases h0 : k = 0
        all_goals
          first
            | (have q := ieq_t (show (k : Int) = 0 by omega)
               rw [if_pos h0] at HAk)
            | (have q := ieq_f (show ¬ (k : Int) = 0 by omega)
               rw [if_neg h0] at HAk)
          clear h0
          have HAk' := HAk.out
          first
            | (have hadd : ∀ w : World, (Op.stringOp .add (a ++ ⟨#[40]⟩) u).run Tryd.prog w = .ok (.string ((a ++ ⟨#[40]⟩) ++ u)) w := fun w => run_string_add_sum w _ _ (by rw [ByteArray.size_append]; have : (ByteArray.mk #[40]).size = 1 := rfl; omega)
               have hadd2 : ∀ w : World, (Op.stringOp .add (a ++ ⟨#[44]⟩) u).run Tryd.prog w = .ok (.string ((a ++ ⟨#[44]⟩) ++ u)) w := fun w => run_string_add_sum w _ _ (by rw [ByteArray.size_append]; have : (ByteArray.mk #[44]).size = 1 := rfl; omega))
          clear HAk'
          go_wp2_with fail
          go_region_held3 (fun w' => w'.cell? ⟨g2, o2 + k * 2, none⟩ = some (.int .i64 ats[k].data) ∧ w'.cell? ⟨g2, o2 + k * 2 + 1, none⟩ = some (.int .i64 ats[k].index) ∧ w'.cell? ⟨w.heap.size + 1, 2, none⟩ = some (.slice (some ⟨b2, off2, none⟩) v.kids.length ep) ∧ w'.cell? ⟨b2, off2 + k * 3, none⟩ = some (.int .i64 v.kids[k].ctor) ∧ w'.cell? ⟨b2, off2 + k * 3 + 1, none⟩ = some (.int .i64 v.kids[k].n) ∧ w'.cell? ⟨b2, off2 + k * 3 + 2, none⟩ = some (.slice D' v.kids[k].kids.length cp2)) (first | exact HSC.out | exact S6.out | go_keep) (first | (go_at_call 16; refine (HCI.out _).mono ?_; rintro e w6 ⟨rfl, hb6⟩; have hb6' : Below wr.heap.size wr w6 := ⟨hb6.os, hb6.tape, hb6.output, hb6.size, hb6.block⟩; have S6 := Lib.hid (show _ from (fun (kp : ∀ {p : Addr} {x : Value}, wr.cell? p = some x → w6.cell? p = some x) => And.intro (kp HSC.out.1) (And.intro (kp HSC.out.2.1) (And.intro (kp HSC.out.2.2.1) (And.intro (kp HSC.out.2.2.2.1) (And.intro (kp HSC.out.2.2.2.2.1) (kp HSC.out.2.2.2.2.2)))))) (fun h => (hb6'.cell (Go.block_lt_of_cell h)).trans h)); clear hb6))
          have hb7 : Below w3.heap.size w3 w6 := below_aft hb hb6' hb.size
          go_wp2_with fail
          go_roundw
          case rel => exact ⟨k + 1, by omega, by go_num, by rw [HAk.out], hb7⟩
          case measure => simp [intOf]; omega
      · have he : k = ts.length := by rw [HTL.out]; omega
        by_cases hp : 0 < ats.length
        · have hpI : (0 : Int) < (ats.length : Int) := by omega
          have HE : Hid (acT nm ts k ++ ⟨#[41]⟩ = twT nm ts) := by unfold Hid; rw [he]; exact HJ1.out (by rw [HTL.out]; exact hp)
          clear he
          go_wp2_with fail
          go_ret
          exact ⟨ret_str (by rw [HT.out, HE.out]), hbw⟩
        · have hpI : (ats.length : Int) ≤ 0 := by omega
          have HE : Hid (acT nm ts k = twT nm ts) := by unfold Hid; rw [he]; exact HJ0.out (by rw [HTL.out]; omega)
          clear he
          go_wp2_with fail
          go_ret
          exact ⟨ret_str (by rw [HT.out, HE.out]), hbw⟩
theorem txS_any (l : List Da) : ∀ d, d ≤ 10 → TxC l d
  | 0, _ => fun _ _ _ _ _ _ _ _ _ _ _ h => by cases h
  | d + 1, h => txS_step l d (by omega) (txS_any l d (by omega))
end Go.Proofs.YthebdlejoficmacDoor
