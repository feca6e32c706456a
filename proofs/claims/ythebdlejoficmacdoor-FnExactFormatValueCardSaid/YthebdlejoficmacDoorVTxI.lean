/-
  The texts of values: the program's function. No statement is proved here.
-/
import Derived.Test.YthebdlejoficmacDoorVTxS
import Derived.Deep.RegionHeld3
namespace Go.Proofs.YthebdlejoficmacDoor
open Go.RowKit Go.Sort Go.Deep
set_option maxRecDepth 100000
set_option linter.unusedVariables false

theorem infoStr : (Tryd.prog.info? 9).map (fun i => (i.zero, i.size, i.bytes)) = some (some (.string ByteArray.empty), 1, 16) := by kernel_rfl
theorem six_below {w w6 : World} {p1 p2 p3 p4 p5 p6 : Addr} {v1 v2 v3 v4 v5 v6 : Value} (hb : Below w.heap.size w w6) (h : w.cell? p1 = some v1 ∧ w.cell? p2 = some v2 ∧ w.cell? p3 = some v3 ∧ w.cell? p4 = some v4 ∧ w.cell? p5 = some v5 ∧ w.cell? p6 = some v6) :
    w6.cell? p1 = some v1 ∧ w6.cell? p2 = some v2 ∧ w6.cell? p3 = some v3 ∧ w6.cell? p4 = some v4 ∧ w6.cell? p5 = some v5 ∧ w6.cell? p6 = some v6 := by
  have kp : ∀ {p : Addr} {x : Value}, w.cell? p = some x → w6.cell? p = some x := fun h => (hb.cell (Go.block_lt_of_cell h)).trans h
  obtain ⟨a, b, c, d, e, f⟩ := h
  exact ⟨kp a, kp b, kp c, kp d, kp e, kp f⟩
theorem four_below {w w6 : World} {p1 p2 p3 p4 : Addr} {v1 v2 v3 v4 : Value} (hb : Below w.heap.size w w6) (h : w.cell? p1 = some v1 ∧ w.cell? p2 = some v2 ∧ w.cell? p3 = some v3 ∧ w.cell? p4 = some v4) :
    w6.cell? p1 = some v1 ∧ w6.cell? p2 = some v2 ∧ w6.cell? p3 = some v3 ∧ w6.cell? p4 = some v4 := by
  have kp : ∀ {p : Addr} {x : Value}, w.cell? p = some x → w6.cell? p = some x := fun h => (hb.cell (Go.block_lt_of_cell h)).trans h
  obtain ⟨a, b, c, d⟩ := h
  exact ⟨kp a, kp b, kp c, kp d⟩
theorem six_far {w6 : World} {B k : Nat} {x : Value} {p1 p2 p3 p4 p5 p6 : Addr} {v1 v2 v3 v4 v5 v6 : Value} (h : w6.cell? p1 = some v1 ∧ w6.cell? p2 = some v2 ∧ w6.cell? p3 = some v3 ∧ w6.cell? p4 = some v4 ∧ w6.cell? p5 = some v5 ∧ w6.cell? p6 = some v6)
    (n1 : B ≠ p1.block) (n2 : B ≠ p2.block) (n3 : B ≠ p3.block) (n4 : B ≠ p4.block) (n5 : B ≠ p5.block) (n6 : B ≠ p6.block) :
    (w6.setCell ⟨B, k, none⟩ x).cell? p1 = some v1 ∧ (w6.setCell ⟨B, k, none⟩ x).cell? p2 = some v2 ∧ (w6.setCell ⟨B, k, none⟩ x).cell? p3 = some v3 ∧ (w6.setCell ⟨B, k, none⟩ x).cell? p4 = some v4 ∧ (w6.setCell ⟨B, k, none⟩ x).cell? p5 = some v5 ∧ (w6.setCell ⟨B, k, none⟩ x).cell? p6 = some v6 := by
  have kp : ∀ {p : Addr} {y : Value}, B ≠ p.block → w6.cell? p = some y → (w6.setCell ⟨B, k, none⟩ x).cell? p = some y := fun h h' => (World.cell?_setCell_far _ _ _ _ h).trans h'
  obtain ⟨a, b, c, d, e, f⟩ := h
  exact ⟨kp n1 a, kp n2 b, kp n3 c, kp n4 d, kp n5 e, kp n6 f⟩
theorem OTys.far {w : World} {lo : Nat} {A : Option Addr} {n cap : Nat} {l : List Ty} {k : Nat} (h : OTys w lo (.slice A n cap) l k) : ∀ b off, A = some ⟨b, off, none⟩ → lo ≤ b := by
  rintro b off rfl
  obtain ⟨xs, ho, _⟩ := h
  rcases ho.2 with ⟨h', _⟩ | ⟨g, cap', cur, h', hb, _⟩
  · cases h'
  · simp only [Value.slice.injEq, Option.some.injEq, Addr.mk.injEq, and_true] at h'
    omega
theorem RTys.set {w : World} {B : Nat} {A : Option Addr} {l : List Ty} (h : RTys w B A l) {p : Addr} {x : Value} (hp : ∀ b off, A = some ⟨b, off, none⟩ → p.block ≠ b) : RTys (w.setCell p x) B A l :=
  ⟨h.1, fun k hk => by
    obtain ⟨b, off, e, hb, h1, h2⟩ := h.2 k hk
    exact ⟨b, off, e, hb, (World.cell?_setCell_far _ _ _ _ (hp b off e)).trans h1, (World.cell?_setCell_far _ _ _ _ (hp b off e)).trans h2⟩⟩
theorem RTys.at_ {w w' : World} {A : Option Addr} {l : List Ty} (h : RTys w w.heap.size A l) (hb : Below w.heap.size w w') : RTys w' w'.heap.size A l := h.keep (fun _ hp => hb.cell hp) hb.size
def TiC (l : List Da) (d : Nat) : Prop := ∀ (A D : Option Addr) (cap ep e : Nat) (t : Ty) (v : Vl) (w : World), RDas w w.heap.size A l → TyOK l t → RVs e w w.heap.size D v.kids → fitV l d t v = true →
  Calls Tryd.prog 20 #[.slice A l.length cap, .agg #[.int .i64 t.data, .int .i64 t.index], .agg #[.int .i64 v.ctor, .int .i64 v.n, .slice D v.kids.length ep]] w fun e w' => e = .returned (.string (txV l d t v)) ∧ Below w.heap.size w w'

set_option maxHeartbeats 3000000 in
theorem tiS_step (l : List Da) (d : Nat) (hd : d ≤ 9) (ih : TiC l d) : TiC l (d + 1) := by
  intro A D cap ep e t v w hr ht hv hfit
  obtain ⟨i0, hi0, hz0, hz1, hz2⟩ := info_parts infoStr
  have hl := hv.1
  have hm := hr.1
  unfold maxLen at hl hm
  generalize hw0 : (w.alloc (.cells #[.int .i64 t.data, .int .i64 t.index] 33)).alloc (.cells #[.int .i64 v.ctor, .int .i64 v.n, .slice D v.kids.length ep] 37) = w0
  have hb0 := below_box2 hw0
  have HXT : Hid (Bx w0 w.heap.size t) := by rw [← hw0]; exact ⟨by simp [go_sem], by simp [go_sem]⟩
  have HXV : Hid (VBx w0 (w.heap.size + 1) v.ctor v.n (.slice D v.kids.length ep)) := by rw [← hw0]; exact ⟨by simp [go_sem], by simp [go_sem], by simp [go_sem]⟩
  have hsz0 : w.heap.size + 2 ≤ w0.heap.size := by rw [← hw0]; simp
  have HW := Lib.hid hw0
  clear hw0
  by_cases h1 : t.data = -1
  · obtain ⟨hn0, hn9⟩ := fit_num hfit h1
    have HT := Lib.hid (txV_int (l := l) (d := d) (v := v) h1)
    have q1 := ieq_t h1
    clear hr ht hv hfit ih h1
    obtain ⟨y0, y1, y2⟩ := HXV.out
    obtain ⟨n, hn⟩ : ∃ n : Nat, v.n = n := ⟨v.n.toNat, by omega⟩
    have HN := Lib.hid (dig_small (n := n) (by omega))
    have hn100 : n < 100 := by omega
    rw [hn] at HT y1
    have HVN := Lib.hid hn
    clear hn
    go_enter Tryd.func20, Tryd.ntmps20
    go_wp2_with (go_at_call 31; rw [HW.out, HVN.out]; refine (Tryd.strconv_Itoa_small n hn100 _).mono ?_; rintro e1 w1 ⟨rfl, rfl⟩)
    go_ret
    exact ⟨ret_str (by rw [HT.out, HN.out]), hb0⟩
  · obtain ⟨hnz, hc, hk, hu⟩ := fit_parts hfit h1
    clear hnz
    have HT := Lib.hid (txV_data (l := l) (d := d) (v := v) h1)
    have q1 := ieq_f h1
    have hnm := nmT_size hc
    have hm3 := agR_len l t v.ctor
    have HOK := Lib.hid (agR_ok hc)
    have HFK : Hid (∀ (i : Nat) (h : i < (agR l t v.ctor).length) (h' : i < v.kids.length), fitV l d (agR l t v.ctor)[i] v.kids[i] = true) := fun i h h' => by
      have := upto_get hu h
      rwa [kidV_at h h'] at this
    have hag := (argTypes_all A l cap t v.ctor · · hc)
    have HTL : Hid ((txK l d (agR l t v.ctor) v.kids).length = (agR l t v.ctor).length) := txK_len
    have HTK : Hid (∀ (i : Nat) (h : i < (agR l t v.ctor).length) (h' : i < v.kids.length) (h2 : i < (txK l d (agR l t v.ctor) v.kids).length), (txK l d (agR l t v.ctor) v.kids)[i] = txV l d (agR l t v.ctor)[i] v.kids[i]) := fun i h h' h2 => txK_at h h' h2
    have HTM : Hid (∀ x ∈ txK l d (agR l t v.ctor) v.kids, x.size ≤ 300000) := fun x hx => by
      obtain ⟨i, hi, rfl⟩ := List.getElem_of_mem hx
      have hi' : i < (agR l t v.ctor).length := by rw [txK_len] at hi; exact hi
      rw [txK_at hi' (by omega)]
      exact txV_short (by omega) (HFK.out i hi' (by omega))
    generalize hts : txK l d (agR l t v.ctor) v.kids = ts at HT HTL HTK HTM
    generalize hats : agR l t v.ctor = ats at hk hu hm3 HOK HFK hag HTL HTK
    obtain ⟨_, td, m, htd, e1, ecm, hmm⟩ := mem_ctR hc
    have hnT : nmT l t v.ctor = l[td].ctors[m].name := by
      rw [ecm]
      obtain ⟨x, y⟩ := t
      simp only at e1
      subst e1
      exact nmT_at htd hmm
    rw [hnT] at HT hnm
    have HAG := Lib.hid hag
    have HKL := Lib.hid hk
    obtain ⟨b, off, rfl, hbB, A', cp, c0, c1, _, hct⟩ := hr.2 td htd
    obtain ⟨g, o, rfl, hgB, D1, ep1, e0, _, _, _, _⟩ := hct.2 m hmm
    have hctl := hct.1
    unfold maxLen at hctl
    have k1 := (hb0.cell (p := ⟨b, off + td * 2 + 1, none⟩) hbB).trans c1
    have k2 := (hb0.cell (p := ⟨g, o + m * 3, none⟩) hgB).trans e0
    generalize hnn : l[td].ctors[m].name = nm at HT hnm k2
    have HK1 := Lib.hid k1
    have HK2 := Lib.hid k2
    have Hr := Lib.hid hr
    have HTY := Lib.hid ht
    have HV := Lib.hid hv
    have IH := Lib.hid ih
    obtain ⟨x0, x1⟩ := HXT.out
    obtain ⟨y0, y1, y2⟩ := HXV.out
    have HEC := Lib.hid ecm
    rw [e1] at x0
    rw [ecm] at y0
    have hi1 : (td : Int) < (l.length : Int) := by omega
    have hi2 : (m : Int) < (l[td].ctors.length : Int) := by omega
    have q1' : ((td : Int) == -1) = false := ieq_f (by omega)
    have HE1 := Lib.hid e1
    clear hr ht hv hfit ih h1 hc hk hu hag hts hats hct c0 c1 e0 hnn hnT ecm e1
    have HTM6 : Hid (∀ x ∈ ts, x.size ≤ 600000) := fun x hx => Nat.le_trans (HTM.out x hx) (by omega)
    have hk3 : v.kids.length ≤ 3 := by rw [HKL.out]; exact hm3
    clear x0 x1 y0 k1 k2
    go_enter Tryd.func20, Tryd.ntmps20
    go_wp2_with (first | (at_make; rw [HW.out]; refine wpList_make_full _ rfl _ _ 65 rfl w0.heap.size 9 i0 _ 1 Tryd.underlying65 hi0 hz0 hz1 _ _ _ _ v.kids.length rfl rfl rfl rfl (by rw [hz2]; omega) (by unfold maxLen; omega) (Nat.le_refl _) ?_; intro w1 hown hgr; have hb1 := below_of_grown hgr (Nat.le_refl _); have hb1w := below_aft hb0 hb1 hb0.size; obtain ⟨u0, u1⟩ := HXT.out.at_ hb1; obtain ⟨u2, u3, u4⟩ := HXV.out.at_ hb1) | (go_at_call 32; refine (HAG.out _ (by exact Hr.out.at_ hb1w)).mono ?_; rintro e3 w3 ⟨v3, rfl, ho3, hb3⟩; obtain ⟨A3, c3, rfl, hr3⟩ := ho3.form (by unfold maxLen; omega); have hfar := ho3.far; have HR3 := Lib.hid hr3; have hb3w := below_aft hb1w hb3 hb1w.size; have hb30 := below_aft hb1 hb3 hb1.size; have hown3 := own_below hown hb3; have hw10 : w0.heap.size < w1.heap.size := own_lt hown; have HFAR : Hid (∀ b off, A3 = some ⟨b, off, none⟩ → w0.heap.size ≠ b) := (fun b off e => by have := hfar b off e; omega); clear hr3 ho3 hfar))
    go_loopw [26] (fun i wr => ∃ k : Nat, k ≤ ats.length ∧ i = .int .i64 k ∧ ∃ xs, wr.ownsRow w0.heap.size 9 1 (.slice (some ⟨w0.heap.size, 0, none⟩) v.kids.length v.kids.length) v.kids.length xs ∧ StRow ts xs k ∧ Hid (RTys wr wr.heap.size A3 ats) ∧ Below w0.heap.size w0 wr) (fun i _ => ats.length - (intOf i).toNat)
    case atStart => exact ⟨0, by omega, rfl, _, hown3, StRow.zero _ _, HR3, hb30⟩
    case round =>
      obtain ⟨k, hk, rfl, xs, hown, hrow, HRT, hbr0⟩ := hrel
      clear hgr hi0 hz0 hz1 hz2 u0 u1 u2 u3 u4 hown3
      have hbw : Below w.heap.size w wr := below_aft hb0 hbr0 hb0.size
      have HO := Lib.hid hown
      have HRW := Lib.hid hrow
      clear hown hrow
      have hwl : w0.heap.size < wr.heap.size := own_lt HO.out
      have hxl := HO.out.1
      by_cases hlt : k < ats.length
      · have hkl : k < v.kids.length := by rw [HKL.out]; exact hlt
        have hkt : k < ts.length := by rw [HTL.out]; exact hlt
        obtain ⟨g2, o2, hA3, hgB2, t0, t1⟩ := HRT.out.2 k hlt
        subst hA3
        generalize hwA : wr.alloc (.cells #[.int .i64 ats[k].data, .int .i64 ats[k].index] 33) = wA
        have hbA : Below wr.heap.size wr wA := by rw [← hwA]; exact (Below.refl _ _).alloc (Nat.le_refl _) _
        have HXTA : Hid (Bx wA wr.heap.size ats[k]) := by rw [← hwA]; exact Bx.new _ _ _
        have hbwA := below_aft hbw hbA hbw.size
        have hbA0 := below_aft hbr0 hbA hbr0.size
        obtain ⟨b2, off2, rfl, hbB2, hvk⟩ := (HV.out.below hbwA (Nat.le_refl _)).2 k hkl
        obtain ⟨e', he', D', cp2, c0, c1, c2, hm⟩ := hvk.parts
        obtain ⟨f0, f1, f2⟩ := HXV.out.at_ hbA0
        obtain ⟨s0, s1⟩ := HXTA.out
        have HWA := Lib.hid hwA
        have HOA : Hid (wA.ownsRow w0.heap.size 9 1 (.slice (some ⟨w0.heap.size, 0, none⟩) v.kids.length v.kids.length) v.kids.length xs) := own_below HO.out hbA
        have hi : (k : Int) < (ats.length : Int) := by omega
        have hi2 : (k : Int) < (v.kids.length : Int) := by omega
        have HTk := Lib.hid (HOK.out _ (List.getElem_mem hlt))
        have HFk := Lib.hid (HFK.out k hlt hkl)
        have HSk := Lib.hid (HTK.out k hlt hkl hkt)
        have Hm : Hid (RVs e' wA.drew wA.drew.heap.size D' v.kids[k].kids) := hm.keep (fun _ _ => rfl) hbwA.size
        have Hrr : Hid (RDas wA.drew wA.drew.heap.size (some ⟨b, off, none⟩) l) := Hr.out.at_ hbwA.drew
        have HCI : Hid (∀ (ep : Nat), Calls Tryd.prog 20 #[.slice (some ⟨b, off, none⟩) l.length cap, .agg #[.int .i64 ats[k].data, .int .i64 ats[k].index], .agg #[.int .i64 v.kids[k].ctor, .int .i64 v.kids[k].n, .slice D' v.kids[k].kids.length ep]] wA.drew fun e w' => e = .returned (.string ts[k]) ∧ Below wA.drew.heap.size wA.drew w') := fun ep => by
          have := IH.out _ D' cap ep e' ats[k] v.kids[k] _ Hrr.out HTk.out Hm.out HFk.out
          rwa [← HSk.out] at this
        have hrow2 := HRW.out.step hkt (by rw [HTL.out, hxl, HKL.out]; omega)
        generalize hu : ts[k] = u at HCI hrow2
        have hS : wA.cell? ⟨wr.heap.size, 0, none⟩ = some (.int .i64 ats[k].data) ∧ wA.cell? ⟨wr.heap.size, 1, none⟩ = some (.int .i64 ats[k].index) ∧ wA.cell? ⟨w.heap.size + 1, 2, none⟩ = some (.slice (some ⟨b2, off2, none⟩) v.kids.length ep) ∧ wA.cell? ⟨b2, off2 + k * 3, none⟩ = some (.int .i64 v.kids[k].ctor) ∧ wA.cell? ⟨b2, off2 + k * 3 + 1, none⟩ = some (.int .i64 v.kids[k].n) ∧ wA.cell? ⟨b2, off2 + k * 3 + 2, none⟩ = some (.slice D' v.kids[k].kids.length cp2) := ⟨s0, s1, f2, c0, c1, c2⟩
        have HSC := Lib.hid hS
        have HR2 := Lib.hid hrow2
        have hn1 : w0.heap.size ≠ wr.heap.size := by omega
        have hn2 : w0.heap.size ≠ w.heap.size + 1 := by omega
        have hn3 : w0.heap.size ≠ b2 := by omega
        clear hS hm hvk he' hu f0 f1 s0 s1 f2 c0 c1 c2 hrow2 hwA
        go_wp2_with fail
        rw [HWA.out]
        obtain ⟨s0, s1, f2, c0, c1, c2⟩ := HSC.out
        go_region_held3 (fun w' => w'.cell? ⟨wr.heap.size, 0, none⟩ = some (.int .i64 ats[k].data) ∧ w'.cell? ⟨wr.heap.size, 1, none⟩ = some (.int .i64 ats[k].index) ∧ w'.cell? ⟨w.heap.size + 1, 2, none⟩ = some (.slice (some ⟨b2, off2, none⟩) v.kids.length ep) ∧ w'.cell? ⟨b2, off2 + k * 3, none⟩ = some (.int .i64 v.kids[k].ctor) ∧ w'.cell? ⟨b2, off2 + k * 3 + 1, none⟩ = some (.int .i64 v.kids[k].n) ∧ w'.cell? ⟨b2, off2 + k * 3 + 2, none⟩ = some (.slice D' v.kids[k].kids.length cp2)) (first | exact HSC.out | exact S6.out | exact S7.out _ | go_keep) (first | (go_at_call 20; refine (HCI.out _).mono ?_; rintro e w6 ⟨rfl, hb6⟩; have hb6' : Below wA.heap.size wA w6 := ⟨hb6.os, hb6.tape, hb6.output, hb6.size, hb6.block⟩; have S6 := Lib.hid (six_below hb6' HSC.out); have S7 := Lib.hid (fun (x : Value) => six_far (x := x) (k := k) (B := w0.heap.size) S6.out hn1 hn1 hn2 hn3 hn3 hn3); have hown6 := own_below HOA.out hb6'; obtain ⟨v0, z0⟩ := own_cell hown6 k (by omega); have zf := hown6.frozenAt k; clear hb6))
        have hst := (hown6.stored k (.string u)).1
        have hb7 : Below w0.heap.size w0 w6 := below_aft hbA0 hb6' hbA0.size
        have HRT6 : Hid (∀ x : Value, RTys (w6.setCell ⟨w0.heap.size, k, none⟩ x) (w6.setCell ⟨w0.heap.size, k, none⟩ x).heap.size (some ⟨g2, o2, none⟩) ats) := fun x => by
          rw [World.size_setCell]
          exact ((HRT.out.at_ hbA).at_ hb6').set HFAR.out
        go_wp2_with fail
        go_roundw
        case rel => exact ⟨k + 1, by omega, by go_num, _, hst, HR2.out, HRT6.out _, hb7.setCell (Nat.le_refl _) _⟩
        case measure => simp [intOf]; omega
      · have he : k = ts.length := by rw [HTL.out]; omega
        have HO' : Hid (wr.drew.ownsRow w0.heap.size 9 1 (.slice (some ⟨w0.heap.size, 0, none⟩) ts.length ts.length) ts.length xs) := by unfold Hid; rw [HTL.out, ← HKL.out]; exact HO.out
        have HRW' : Hid (StRow ts xs ts.length) := by unfold Hid; rw [← he]; exact HRW.out
        have hl3 : ts.length ≤ 3 := by rw [HTL.out]; exact hm3
        have hcl : Hid (v.kids.length = ts.length) := by unfold Hid; rw [HTL.out, HKL.out]
        obtain ⟨f0, f1⟩ := HXT.out.at_ hbr0
        obtain ⟨f2, f3, f4⟩ := HXV.out.at_ hbr0
        rw [HE1.out] at f0
        rw [HEC.out] at f2
        have k1 := (hbr0.cell (p := ⟨b, off + td * 2 + 1, none⟩) (Go.block_lt_of_cell HK1.out)).trans HK1.out
        have k2 := (hbr0.cell (p := ⟨g, o + m * 3, none⟩) (Go.block_lt_of_cell HK2.out)).trans HK2.out
        have hS : wr.cell? ⟨w.heap.size, 0, none⟩ = some (.int .i64 td) ∧ wr.cell? ⟨b, off + td * 2 + 1, none⟩ = some (.slice (some ⟨g, o, none⟩) l[td].ctors.length cp) ∧ wr.cell? ⟨w.heap.size + 1, 0, none⟩ = some (.int .i64 m) ∧ wr.cell? ⟨g, o + m * 3, none⟩ = some (.string nm) := ⟨f0, k1, f2, k2⟩
        have HSC := Lib.hid hS
        clear he hS f1 f3 f4
        go_wp2_with fail
        go_region_held3 (fun w' => w'.cell? ⟨w.heap.size, 0, none⟩ = some (.int .i64 td) ∧ w'.cell? ⟨b, off + td * 2 + 1, none⟩ = some (.slice (some ⟨g, o, none⟩) l[td].ctors.length cp) ∧ w'.cell? ⟨w.heap.size + 1, 0, none⟩ = some (.int .i64 m) ∧ w'.cell? ⟨g, o + m * 3, none⟩ = some (.string nm)) (first | exact HSC.out | exact S8.out | go_keep) (first | (go_at_call 33; rw [hcl.out]; refine (twa_any nm ts _ _ _ xs _ HO'.out HRW'.out (Nat.le_refl _) hl3 HTM6.out (by omega)).mono ?_; rintro e w8 ⟨rfl, hb8⟩; have hb8' : Below wr.heap.size wr w8 := ⟨hb8.os, hb8.tape, hb8.output, hb8.size, hb8.block⟩; have S8 : Hid (w8.cell? ⟨w.heap.size, 0, none⟩ = some (.int .i64 td) ∧ w8.cell? ⟨b, off + td * 2 + 1, none⟩ = some (.slice (some ⟨g, o, none⟩) l[td].ctors.length cp) ∧ w8.cell? ⟨w.heap.size + 1, 0, none⟩ = some (.int .i64 m) ∧ w8.cell? ⟨g, o + m * 3, none⟩ = some (.string nm)) := (four_below hb8' HSC.out)))
        go_wp2_with fail
        go_ret
        exact ⟨ret_str HT.out.symm, below_aft hbw hb8' hbw.size⟩
theorem tiS_any (l : List Da) : ∀ d, d ≤ 10 → TiC l d
  | 0, _ => fun _ _ _ _ _ _ _ _ _ _ _ h => by cases h
  | d + 1, h => tiS_step l d (by omega) (tiS_any l d (by omega))
end Go.Proofs.YthebdlejoficmacDoor
