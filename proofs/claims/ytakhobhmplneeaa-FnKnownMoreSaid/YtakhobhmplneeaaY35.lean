/-
  CompareValues of the program, as far as equality goes. No statement is proved here.
-/
import Derived.Test.YtakhobhmplneeaaY34
import Derived.Deep.RegionHeld3
import Derived.Deep.DeepCutAuto
import Derived.BigRegion
namespace Go.Proofs.Ytakhobhmplneeaa
open Go.RowKit Go.Sort Go.Deep
set_option maxRecDepth 100000
set_option linter.unusedVariables false
/-- What a round knows. -/
def RelV (p q : Vl) (wS : World) (m lo N : Nat) (u : Value) (wr : World) (n : Nat) : Prop := ∃ W S, muV W = n ∧ n ≤ N ∧ OpnV wr lo u W ∧ MapKyV wr m S ∧ InvV p q wS m W S ∧ Fr (fun b => b = m) wS wr
set_option maxHeartbeats 32000000 in
theorem cv_cmp (D E : Option Addr) (p q : Vl) (cp cq d e : Nat) (PP QQ : Nat → Prop) (w : World) (hp : OVc d w PP D p.kids) (hq : OVc e w QQ E q.kids) (hPP : ∀ b, PP b → b < w.heap.size) (hQQ : ∀ b, QQ b → b < w.heap.size) (hcp : p.kids.length ≤ cp ∧ cp ≤ maxLen) (hcq : q.kids.length ≤ cq ∧ cq ≤ maxLen) (hN : wV p ≤ 1048576) :
    Calls Try.prog 25 #[.agg #[.int .i64 p.ctor, .int .i64 p.n, .slice D p.kids.length cp], .agg #[.int .i64 q.ctor, .int .i64 q.n, .slice E q.kids.length cq]] w fun e w' => ∃ c : Int, e = .returned (.int .i64 c) ∧ (c = 0 ↔ p = q) ∧ Below w.heap.size w w' := by
  obtain ⟨i0, hi, hz0, hz1, hz2⟩ := info_parts infoPairV
  generalize hwx : ((((w.alloc (.cells #[.int .i64 p.ctor, .int .i64 p.n, .slice D p.kids.length cp] 28)).alloc (.cells #[.int .i64 q.ctor, .int .i64 q.n, .slice E q.kids.length cq] 28)).alloc (.map #[] 0)).alloc (.cells #[.int .i64 p.ctor, .int .i64 p.n, .slice D p.kids.length cp] 28)).alloc (.cells #[.int .i64 q.ctor, .int .i64 q.n, .slice E q.kids.length cq] 28) = wS
  have hbS : Below w.heap.size w wS := by rw [← hwx]; exact (((((Below.refl _ _).alloc (Nat.le_refl _) _).alloc (by simp) _).alloc (by simp; omega) _).alloc (by simp; omega) _).alloc (by simp; omega) _
  have HSZ : Hid (wS.heap.size = w.heap.size + 5) := by unfold Hid; rw [← hwx]; simp
  have HMK : Hid (MapKyV wS (w.heap.size + 2) []) := by
    rw [← hwx]
    refine MapKyV.keep (w := ((w.alloc (.cells #[.int .i64 p.ctor, .int .i64 p.n, .slice D p.kids.length cp] 28)).alloc (.cells #[.int .i64 q.ctor, .int .i64 q.n, .slice E q.kids.length cq] 28)).alloc (.map #[] 0)) ?_ (by rw [Below.heap_alloc _ _ _ (by simp), Below.heap_alloc _ _ _ (by simp)])
    have := MapKyV.made ((w.alloc (.cells #[.int .i64 p.ctor, .int .i64 p.n, .slice D p.kids.length cp] 28)).alloc (.cells #[.int .i64 q.ctor, .int .i64 q.n, .slice E q.kids.length cq] 28))
    simpa using this
  have HL1 : Hid (wS.heap[w.heap.size + 3]? = some (.cells #[.int .i64 p.ctor, .int .i64 p.n, .slice D p.kids.length cp] 28 (0, 0))) := by rw [← hwx]; exact (Below.heap_alloc _ _ _ (by simp)).trans (by have h := heap_newV (((w.alloc (.cells #[.int .i64 p.ctor, .int .i64 p.n, .slice D p.kids.length cp] 28)).alloc (.cells #[.int .i64 q.ctor, .int .i64 q.n, .slice E q.kids.length cq] 28)).alloc (.map #[] 0)) (.cells #[.int .i64 p.ctor, .int .i64 p.n, .slice D p.kids.length cp] 28); rw [show (((w.alloc (.cells #[.int .i64 p.ctor, .int .i64 p.n, .slice D p.kids.length cp] 28)).alloc (.cells #[.int .i64 q.ctor, .int .i64 q.n, .slice E q.kids.length cq] 28)).alloc (.map #[] 0)).heap.size = w.heap.size + 3 by simp] at h; exact h)
  have HL2 : Hid (wS.heap[w.heap.size + 4]? = some (.cells #[.int .i64 q.ctor, .int .i64 q.n, .slice E q.kids.length cq] 28 (0, 0))) := by rw [← hwx]; have h := heap_newV ((((w.alloc (.cells #[.int .i64 p.ctor, .int .i64 p.n, .slice D p.kids.length cp] 28)).alloc (.cells #[.int .i64 q.ctor, .int .i64 q.n, .slice E q.kids.length cq] 28)).alloc (.map #[] 0)).alloc (.cells #[.int .i64 p.ctor, .int .i64 p.n, .slice D p.kids.length cp] 28)) (.cells #[.int .i64 q.ctor, .int .i64 q.n, .slice E q.kids.length cq] 28); rw [show ((((w.alloc (.cells #[.int .i64 p.ctor, .int .i64 p.n, .slice D p.kids.length cp] 28)).alloc (.cells #[.int .i64 q.ctor, .int .i64 q.n, .slice E q.kids.length cq] 28)).alloc (.map #[] 0)).alloc (.cells #[.int .i64 p.ctor, .int .i64 p.n, .slice D p.kids.length cp] 28)).heap.size = w.heap.size + 4 by simp] at h; exact h
  have HWS := Lib.hid hwx
  clear hwx
  have hpS := hp.fr _ (Fr.below (P := fun _ => False) hbS) (fun _ _ h => h)
  have hqS := hq.fr _ (Fr.below (P := fun _ => False) hbS) (fun _ _ h => h)
  have HP1 : Hid (SfV d wS (w.heap.size + 2) PP (some ⟨w.heap.size + 3, 0, none⟩) [p]) := SfV.single hpS hcp HL1.out (fun b h => by have := hPP b h; have := HSZ.out; omega) (by omega)
  have HQ1 : Hid (SfV e wS (w.heap.size + 2) QQ (some ⟨w.heap.size + 4, 0, none⟩) [q]) := SfV.single hqS hcq HL2.out (fun b h => by have := hQQ b h; have := HSZ.out; omega) (by omega)
  have HIV : Hid (InvV p q wS (w.heap.size + 2) [⟨some ⟨w.heap.size + 3, 0, none⟩, [p], 1, some ⟨w.heap.size + 4, 0, none⟩, [q], 1, d, PP, e, QQ⟩] []) := by
    refine ⟨?_, fun x hx => ?_, List.pairwise_singleton _ _, fun _ _ k hk => (by cases hk), fun k hk => (by cases hk), fun k hk => (by cases hk)⟩
    · simp
    · rw [List.mem_singleton.1 hx]
      exact ⟨HP1.out, HQ1.out, by simp, by simp, by unfold maxLen; simp, by unfold maxLen; simp⟩
  obtain ⟨wR, hwR⟩ : ∃ wR, wR = wS.alloc (.cells #[.slice (some ⟨w.heap.size + 3, 0, none⟩) 1 1, .slice (some ⟨w.heap.size + 4, 0, none⟩) 1 1] 67) := ⟨_, rfl⟩
  have hbR : Below wS.heap.size wS wR := by rw [hwR]; exact (Below.refl _ _).alloc (Nat.le_refl _) _
  have HO0 : Hid (OpnV wR (w.heap.size + 5) (.slice (some ⟨w.heap.size + 5, 0, none⟩) 1 1) [⟨some ⟨w.heap.size + 3, 0, none⟩, [p], 1, some ⟨w.heap.size + 4, 0, none⟩, [q], 1, d, PP, e, QQ⟩]) := by
    rw [hwR]
    refine ⟨[.slice (some ⟨w.heap.size + 3, 0, none⟩) 1 1, .slice (some ⟨w.heap.size + 4, 0, none⟩) 1 1], ?_, fun j hj => ?_⟩
    · have h := World.ownsRow_lit (e := 67) wS #[.slice (some ⟨w.heap.size + 3, 0, none⟩) 1 1, .slice (some ⟨w.heap.size + 4, 0, none⟩) 1 1] (size := 2) (base := w.heap.size + 5) 1 (by rw [HSZ.out]; exact Nat.le_refl _) (by unfold maxLen; omega) rfl
      rw [HSZ.out] at h
      exact h
    · have : j = 0 := by simp at hj; omega
      subst this
      exact ⟨rfl, rfl⟩
  have HR0 : Hid (RelV p q wS (w.heap.size + 2) (w.heap.size + 5) (3 + 2 * wV p) (.slice (some ⟨w.heap.size + 5, 0, none⟩) 1 1) wR (3 + 2 * wV p)) := by
    refine ⟨_, [], ?_, Nat.le_refl _, HO0.out, HMK.out.keep (hbR.block _ (by have := HSZ.out; omega)), HIV.out, Fr.below hbR⟩
    unfold muV
    simp only [List.map_cons, List.map_nil, List.sum_cons, List.sum_nil, wVs]
    omega
  have HWR := Lib.hid hwR
  have HNN := Lib.hid hN
  have HBS := Lib.hid hbS
  clear hp hq hcp hcq hPP hQQ hpS hqS HL1 HL2 HP1 HQ1 HIV HO0 HMK hwR hN hbR hbS
  have hmm := @run_makeMap Try.prog
  go_enter Try.func25, Try.ntmps25
  go_wp2_with fail
  rw [HWS.out, ← HWR.out]
  clear hmm
  go_loopw [6] (fun u wr => ∃ n, RelV p q wS (w.heap.size + 2) (w.heap.size + 5) (3 + 2 * wV p) u wr n) (fun u wr => lstV (RelV p q wS (w.heap.size + 2) (w.heap.size + 5) (3 + 2 * wV p) u wr))
  case atStart => exact ⟨_, HR0.out⟩
  case round =>
    clear HR0
    obtain ⟨n0, hn0⟩ := hrel
    obtain ⟨hrl, _⟩ := lstV_spec hn0
    obtain ⟨W0, S0, hmu, hle, ho, hmk, hiv, hfr⟩ := hrl
    clear hn0
    have HMU := Lib.hid hmu
    clear hmu
    have HFR := Lib.hid hfr
    have hfs := hfr.size
    clear hfr
    rcases last_orV W0 with rfl | ⟨W, x, rfl⟩
    · have HE : Hid (p = q) := hiv.goal.2 (fun x hx => by cases hx)
      obtain ⟨A, c, rfl⟩ := ho.nil_form
      clear hiv ho hmk
      go_wp2_with fail
      go_ret
      exact ⟨0, rfl, ⟨fun _ => HE.out, fun _ => rfl⟩, HBS.out.trans (HFR.out.to (B := w.heap.size) (by have := HSZ.out; omega) (fun b hb e => by omega))⟩
    · obtain ⟨XA, la, ca, XB, lb, cb, xd, XP, xe, XQ⟩ := x
      obtain ⟨hpa, hpb, hca, hcb, hcma, hcmb⟩ := hiv.ok _ in_last
      obtain ⟨g, cap, rfl, hlo, hgs, hlc, hcm, c0, c1, z0, z1, hpop, hput⟩ := ho.top
      change la.length ≤ ca at hca
      change lb.length ≤ cb at hcb
      change ca ≤ maxLen at hcma
      change cb ≤ maxLen at hcmb
      change SfV xd wS (w.heap.size + 2) XP XA la at hpa
      change SfV xe wS (w.heap.size + 2) XQ XB lb at hpb
      change wr.cell? ⟨g, W.length * 2, none⟩ = some (.slice XA la.length ca) at c0
      change wr.cell? ⟨g, W.length * 2 + 1, none⟩ = some (.slice XB lb.length cb) at c1
      have HIV := Lib.hid hiv
      have HMK := Lib.hid hmk
      have HPOP := Lib.hid hpop
      have HPUT := Lib.hid hput
      have HPA := Lib.hid hpa
      have HPB := Lib.hid hpb
      have hmuW : muV (W ++ [⟨XA, la, ca, XB, lb, cb, xd, XP, xe, XQ⟩]) = muV W + (1 + 2 * wVs la) := muV_app W _
      rw [hmuW] at HMU
      have HLE : Hid (muV W + (1 + 2 * wVs la) ≤ 3 + 2 * wV p) := by unfold Hid; rw [HMU.out]; exact hle
      have hWl : W.length ≤ 2097160 := by have := muV_len W; have := HLE.out; have := HNN.out; omega
      have hcm' : cap ≤ 9223372036854775807 := by unfold maxLen at hcm; omega
      have hca' : ca ≤ 9223372036854775807 := by unfold maxLen at hcma; omega
      have hcb' : cb ≤ 9223372036854775807 := by unfold maxLen at hcmb; omega
      have HLO := Lib.hid hlo
      clear ho hiv hmk hpop hput hpa hpb hmuW hle hcm hcma hcmb
      have HKR : Hid (∀ W', Below wr.heap.size wr W' → W'.cell? ⟨g, W.length * 2, none⟩ = some (.slice XA la.length ca) ∧ W'.cell? ⟨g, W.length * 2 + 1, none⟩ = some (.slice XB lb.length cb)) := fun W' h => ⟨(h.cell (p := ⟨g, _, none⟩) hgs).trans c0, (h.cell (p := ⟨g, _, none⟩) hgs).trans c1⟩
      by_cases hboth : 0 < la.length ∧ 0 < lb.length
      case neg =>
        have HBO := Lib.hid hboth
        have HGL := Lib.hid HIV.out.goal
        by_cases hl : la.length = 0
        · have u1 := ieq_t (show (la.length : Int) = 0 by omega)
          by_cases hl2 : lb.length = 0
          · have hc : cmpI (la.length : Int) (lb.length : Int) = 0 := cmpI_eq (by omega)
            have HI2 := Lib.hid (HIV.out.pop (List.eq_nil_of_length_eq_zero hl) (List.eq_nil_of_length_eq_zero hl2))
            have HCC := Lib.hid hc
            clear hc hboth hl hl2
            have SQ := HKR.out wr.drew (Below.refl _ wr).drew
            go_wp2_with fail
            go_region_held3 (fun w' => w'.cell? ⟨g, W.length * 2, none⟩ = some (.slice XA la.length ca) ∧ w'.cell? ⟨g, W.length * 2 + 1, none⟩ = some (.slice XB lb.length cb)) (with_reducible exact SQ) (first
              | (go_at_call 39; (with_reducible refine (cmp_any (la.length : Int) (lb.length : Int) wr.drew).mono ?_); rw [HCC.out]; rintro e3 w3 ⟨rfl, rfl⟩))
            go_wp2_with fail
            go_roundw
            case rel => exact ⟨muV W, W, S0, rfl, by have := HLE.out; omega, HPOP.out.below (Below.refl _ wr).drew, HMK.out.keep ((Below.refl wr.heap.size wr).drew.block (w.heap.size + 2) (by have := HSZ.out; omega)), HI2.out, HFR.out.nextV (Below.refl _ wr).drew⟩
            case measure =>
              have HREL : RelV p q wS (w.heap.size + 2) (w.heap.size + 5) (3 + 2 * wV p) (.slice (some ⟨g, 0, none⟩) W.length cap) wr.drew (muV W) := ⟨W, S0, rfl, by have := HLE.out; omega, HPOP.out.below (Below.refl _ wr).drew, HMK.out.keep ((Below.refl wr.heap.size wr).drew.block (w.heap.size + 2) (by have := HSZ.out; omega)), HI2.out, HFR.out.nextV (Below.refl _ wr).drew⟩
              have hlt := (lstV_spec HREL).2 _ HREL
              rw [← HMU.out]
              refine Nat.lt_of_le_of_lt hlt ?_
              omega
          · have u2 := ieq_f (show ¬ (lb.length : Int) = 0 by omega)
            have HC0 := Lib.hid (cmpI_ne (show ¬ (la.length : Int) = (lb.length : Int) by omega))
            have hnpq : ¬ p = q := fun h => by have h2 : la = lb := HIV.out.goal.1 h _ in_last; rw [h2] at hl; omega
            have HNE : Hid (cmpI (la.length : Int) (lb.length : Int) = 0 ↔ p = q) := ⟨fun h => absurd h HC0.out, fun h => absurd h hnpq⟩
            have hcne : (cmpI (la.length : Int) (lb.length : Int) != 0) = true := by simp; exact HC0.out
            have HCA := Lib.hid (cmp_any (la.length : Int) (lb.length : Int) wr.drew)
            generalize cmpI (la.length : Int) (lb.length : Int) = cc at HC0 HNE hcne HCA
            clear hboth hl hl2 hnpq
            have SQ := HKR.out wr.drew (Below.refl _ wr).drew
            go_wp2_with fail
            go_region_held3 (fun w' => w'.cell? ⟨g, W.length * 2, none⟩ = some (.slice XA la.length ca) ∧ w'.cell? ⟨g, W.length * 2 + 1, none⟩ = some (.slice XB lb.length cb)) (with_reducible exact SQ) (first
              | (go_at_call 39; (with_reducible refine HCA.out.mono ?_); rintro e3 w3 ⟨rfl, rfl⟩))
            go_wp2_with fail
            go_ret
            exact ⟨_, rfl, HNE.out, HBS.out.trans ((HFR.out.nextV (Below.refl _ wr).drew).to (B := w.heap.size) (by have := HSZ.out; omega) (fun b hb e => by omega))⟩
        · have u1 := ieq_f (show ¬ (la.length : Int) = 0 by omega)
          have hl2 : lb.length = 0 := by omega
          have u2 := ieq_t (show (lb.length : Int) = 0 by omega)
          have HC0 := Lib.hid (cmpI_ne (show ¬ (la.length : Int) = (lb.length : Int) by omega))
          have hnpq : ¬ p = q := fun h => by have h2 : la = lb := HIV.out.goal.1 h _ in_last; rw [h2] at hl; omega
          have HNE : Hid (cmpI (la.length : Int) (lb.length : Int) = 0 ↔ p = q) := ⟨fun h => absurd h HC0.out, fun h => absurd h hnpq⟩
          have hcne : (cmpI (la.length : Int) (lb.length : Int) != 0) = true := by simp; exact HC0.out
          have HCA := Lib.hid (cmp_any (la.length : Int) (lb.length : Int) wr.drew)
          generalize cmpI (la.length : Int) (lb.length : Int) = cc at HC0 HNE hcne HCA
          clear hboth hl hl2 hnpq
          have SQ := HKR.out wr.drew (Below.refl _ wr).drew
          go_wp2_with fail
          go_region_held3 (fun w' => w'.cell? ⟨g, W.length * 2, none⟩ = some (.slice XA la.length ca) ∧ w'.cell? ⟨g, W.length * 2 + 1, none⟩ = some (.slice XB lb.length cb)) (with_reducible exact SQ) (first
            | (go_at_call 39; (with_reducible refine HCA.out.mono ?_); rintro e3 w3 ⟨rfl, rfl⟩))
          go_wp2_with fail
          go_ret
          exact ⟨_, rfl, HNE.out, HBS.out.trans ((HFR.out.nextV (Below.refl _ wr).drew).to (B := w.heap.size) (by have := HSZ.out; omega) (fun b hb e => by omega))⟩
      case pos =>
        obtain ⟨hl1, hl2⟩ := hboth
        rcases la with _ | ⟨u, la⟩
        · simp at hl1
        rcases lb with _ | ⟨v, lb⟩
        · simp at hl2
        obtain ⟨gA, offA, A', capA, QA, RA, rfl, hgA, hgAm, a0, a1, a2, hkA, hoA, hsA, hqA, hrA, hqrA⟩ := HPA.out.cut
        obtain ⟨gB, offB, B', capB, QB, RB, rfl, hgB, hgBm, b0, b1, b2, hkB, hoB, hsB, hqB, hrB, hqrB⟩ := HPB.out.cut
        have f0 := (HFR.out.cellV (a := ⟨gA, _, none⟩) hgA hgAm).trans a0
        have f1 := (HFR.out.cellV (a := ⟨gA, _, none⟩) hgA hgAm).trans a1
        have f2 := (HFR.out.cellV (a := ⟨gA, _, none⟩) hgA hgAm).trans a2
        have h0 := (HFR.out.cellV (a := ⟨gB, _, none⟩) hgB hgBm).trans b0
        have h1 := (HFR.out.cellV (a := ⟨gB, _, none⟩) hgB hgBm).trans b1
        have h2 := (HFR.out.cellV (a := ⟨gB, _, none⟩) hgB hgBm).trans b2
        rw [List.length_cons] at c0 c1 hca hcb
        obtain ⟨d', rfl, _⟩ := hoA.parts
        obtain ⟨e', rfl, _⟩ := hoB.parts
        have HOA := Lib.hid hoA
        have HOB := Lib.hid hoB
        have HSA := Lib.hid hsA
        have HSB := Lib.hid hsB
        have HQA := Lib.hid hqA
        have HQB := Lib.hid hqB
        have HRA := Lib.hid hrA
        have HRB := Lib.hid hrB
        have HQR := Lib.hid hqrA
        have u1 : ((((la.length + 1 : Nat)) : Int) == 0) = false := ieq_f (by omega)
        have u2 : ((((lb.length + 1 : Nat)) : Int) == 0) = false := ieq_f (by omega)
        have u1' : (((la.length : Int) + 1) == 0) = false := ieq_f (by omega)
        have u2' : (((lb.length : Int) + 1) == 0) = false := ieq_f (by omega)
        have hgA' : gA < wr.heap.size := by omega
        have hgB' : gB < wr.heap.size := by omega
        have HCA := Lib.hid hkA
        have HCB2 := Lib.hid hkB
        clear a0 a1 a2 b0 b1 b2 hkA hkB hoA hoB hsA hsB hqA hqB hrA hrB hqrA hqrB HKR hl1 hl2
        go_upto_region 10 with fail
        go_cut [9, 10] (fun s9 s10 wx => ∃ b9 b10, s9 = .pointer (some ⟨b9, 0, none⟩) ∧ s10 = .pointer (some ⟨b10, 0, none⟩) ∧ TwoV wr b9 b10 u v A' B' capA capB wx)
        case first =>
          go_region
          all_goals
            go_wp2_with fail
            go_meet
            refine ⟨_, _, rfl, rfl, ?_⟩
            first
            | exact TwoV.new1 wr u v A' B' capA capB
            | exact TwoV.new2 wr u v A' B' capA capB
        obtain ⟨b9, b10, rfl, rfl, htw⟩ := hcut
        have hwo : ∃ wo, wo = wc := ⟨_, rfl⟩
        obtain ⟨wo, rfl⟩ := hwo
        clear f0 f1 f2 h0 h1 h2
        have hbw := htw.2.2.1
        have HKW : Hid (∀ W', Below wo.heap.size wo W' → W'.cell? ⟨b9, 0, none⟩ = some (.int .i64 u.ctor) ∧ W'.cell? ⟨b9, 1, none⟩ = some (.int .i64 u.n) ∧ W'.cell? ⟨b9, 2, none⟩ = some (.slice A' u.kids.length capA) ∧ W'.cell? ⟨b10, 0, none⟩ = some (.int .i64 v.ctor) ∧ W'.cell? ⟨b10, 1, none⟩ = some (.int .i64 v.n) ∧ W'.cell? ⟨b10, 2, none⟩ = some (.slice B' v.kids.length capB)) := by
          intro W' h
          obtain ⟨r0, r1, r2, r3, r4, r5⟩ := htw.cells
          have l1 := heap_lt htw.2.2.2.1
          have l2 := heap_lt htw.2.2.2.2
          exact ⟨(h.cell (p := ⟨b9, 0, none⟩) l1).trans r0, (h.cell (p := ⟨b9, 1, none⟩) l1).trans r1, (h.cell (p := ⟨b9, 2, none⟩) l1).trans r2, (h.cell (p := ⟨b10, 0, none⟩) l2).trans r3, (h.cell (p := ⟨b10, 1, none⟩) l2).trans r4, (h.cell (p := ⟨b10, 2, none⟩) l2).trans r5⟩
        have HTW := Lib.hid htw
        have HBW := Lib.hid hbw
        have hws := hbw.size
        have HC1 := Lib.hid (cmp_any u.ctor v.ctor wo.drew)
        have HC2 := Lib.hid (cmp_any u.n v.n wo.drew)
        have HZ1 : Hid (cmpI u.ctor v.ctor = 0 ↔ u.ctor = v.ctor) := ⟨fun h => Classical.byContradiction fun h' => cmpI_ne h' h, fun h => cmpI_eq h⟩
        have HZ2 : Hid (cmpI u.n v.n = 0 ↔ u.n = v.n) := ⟨fun h => Classical.byContradiction fun h' => cmpI_ne h' h, fun h => cmpI_eq h⟩
        generalize cmpI u.ctor v.ctor = d1 at HC1 HZ1
        generalize cmpI u.n v.n = d2 at HC2 HZ2
        have SQ := HKW.out wo.drew (Below.refl wo.heap.size wo).drew
        clear htw hbw
        go_upto_region 11 with fail
        go_cut [11] (fun s11 wx => s11 = .int .i64 (orI d1 d2) ∧ Below wo.heap.size wo wx)
        case first =>
          go_region_held3 (fun w' => w'.cell? ⟨b9, 0, none⟩ = some (.int .i64 u.ctor) ∧ w'.cell? ⟨b9, 1, none⟩ = some (.int .i64 u.n) ∧ w'.cell? ⟨b9, 2, none⟩ = some (.slice A' u.kids.length capA) ∧ w'.cell? ⟨b10, 0, none⟩ = some (.int .i64 v.ctor) ∧ w'.cell? ⟨b10, 1, none⟩ = some (.int .i64 v.n) ∧ w'.cell? ⟨b10, 2, none⟩ = some (.slice B' v.kids.length capB)) (first | with_reducible exact SQ | with_reducible exact (HKW.out _ (((Below.refl wo.heap.size wo).alloc (Nat.le_refl _) _).drew))) (first
            | (go_at_call 39; (with_reducible refine HC1.out.mono ?_); rintro e3 w3 ⟨rfl, rfl⟩)
            | (go_at_call 39; (with_reducible refine HC2.out.mono ?_); rintro e3 w3 ⟨rfl, rfl⟩)
            | (go_at_call 40; (with_reducible refine (or_row d1 d2 wo).mono ?_); rintro e3 w3 ⟨rfl, rfl⟩))
          all_goals
            go_wp2_with fail
            go_meet
            refine ⟨rfl, ?_⟩
            exact ((Below.refl wo.heap.size wo).alloc (Nat.le_refl _) _).drew
        obtain ⟨rfl, hcb⟩ := hcut
        clear SQ HC1 HC2
        have hbc : Below wr.heap.size wr wc := below_aft HBW.out hcb HBW.out.size
        have HZ : Hid (orI d1 d2 = 0 ↔ u.ctor = v.ctor ∧ u.n = v.n) := orI_zero.trans (and_congr HZ1.out HZ2.out)
        generalize orI d1 d2 = o1 at HZ
        have HCB := Lib.hid hcb
        have HBC := Lib.hid hbc
        have hsc := hbc.size
        have hsd := hcb.size
        have HFC := Lib.hid (HFR.out.nextV hbc)
        clear hcb
        by_cases ho1 : o1 = 0
        case neg =>
          have hne : (o1 != 0) = true := by simp; exact ho1
          have HNE : Hid (o1 = 0 ↔ p = q) := ⟨fun h => absurd h ho1, fun h => absurd (HZ.out.2 (by
            have h2 : u :: la = v :: lb := HIV.out.goal.1 h _ in_last
            injection h2 with h3 h4
            rw [h3]; exact ⟨rfl, rfl⟩)) ho1⟩
          clear hbc ho1 c0 c1 z0 z1
          go_wp2_with fail
          go_ret
          exact ⟨_, rfl, HNE.out, HBS.out.trans (HFC.out.to (B := w.heap.size) (by have := HSZ.out; omega) (fun b hb e => by omega))⟩
        case pos =>
          subst ho1
          have HF2 := Lib.hid (HZ.out.1 rfl)
          have n0 := (hbc.cell (p := ⟨g, W.length * 2, none⟩) hgs).trans c0
          have n1 := (hbc.cell (p := ⟨g, W.length * 2 + 1, none⟩) hgs).trans c1
          have m0 := (World.frozen?_of_block (a := ⟨g, W.length * 2, none⟩) (hbc.block g hgs)).trans z0
          have m1 := (World.frozen?_of_block (a := ⟨g, W.length * 2 + 1, none⟩) (hbc.block g hgs)).trans z1
          have hgc : g < wc.heap.size := by omega
          clear hbc c0 c1 z0 z1
          have k1 : (1 : Int) ≤ (la.length : Int) + 1 := by omega
          have k2 : (1 : Int) ≤ (lb.length : Int) + 1 := by omega
          go_upto_region 14 with fail
          have hwt : ∃ wt, wt = wc := ⟨_, rfl⟩
          obtain ⟨wt, rfl⟩ := hwt
          go_cut [103] (fun s103 wx => RsV wt g (W.length * 2) gA offA gB offB la lb wx)
          case first =>
            go_region
            all_goals go_wp2_with fail
            all_goals go_meet
            all_goals exact RsV.mk (by first | exact Or.inl rfl | exact Or.inr (List.eq_nil_of_length_eq_zero (by omega))) (by first | exact Or.inl rfl | exact Or.inr (List.eq_nil_of_length_eq_zero (by omega))) (by unfold maxLen; omega) (by unfold maxLen; omega)
          obtain ⟨A3, B3, c3, c4, hA3, hB3, hc3, hc4, hrow, hfd⟩ := hcut
          have hwd : ∃ wd, wd = wc := ⟨_, rfl⟩
          obtain ⟨wd, rfl⟩ := hwd
          have HO1 : Hid (OpnV wd (w.heap.size + 5) (.slice (some ⟨g, 0, none⟩) (W.length + 1) cap) (W ++ [(EnV.mk A3 la c3 B3 lb c4 (d' + 1) RA (e' + 1) RB)])) := HPUT.out wt wd A3 B3 la lb c3 c4 _ _ _ _ (HBC.out.block g hgs) hrow
          have hok : EnV.ok wS (w.heap.size + 2) (EnV.mk A3 la c3 B3 lb c4 (d' + 1) RA (e' + 1) RB) := ⟨HSA.out.at_ hA3, HSB.out.at_ hB3, hc3.1, hc4.1, hc3.2, hc4.2⟩
          have HOK := Lib.hid hok
          have hmg : w.heap.size + 2 < wt.heap.size := by omega
          have HFD : Hid (Fr (fun b => b = w.heap.size + 2) wS wd) := HFC.out.highV hfd (by have := HSZ.out; omega)
          have HMD : Hid (MapKyV wd (w.heap.size + 2) S0) := (HMK.out.keep (HBC.out.block _ (by omega))).keep (hfd.2.2.2.2 _ hmg (by omega))
          have hsz1 := hfd.size
          have l1 := heap_lt HTW.out.2.2.2.1
          have l2 := heap_lt HTW.out.2.2.2.2
          have hb9 : b9 < wt.heap.size := by omega
          have hb10 : b10 < wt.heap.size := by omega
          have hn9 : ¬ b9 = g := by have := HTW.out.1; omega
          have hq9 : ¬ b9 = w.heap.size + 2 := by have := HTW.out.1; have := HSZ.out; omega
          have hq10 : ¬ b10 = w.heap.size + 2 := by have := HTW.out.2.1; have := HSZ.out; omega
          have hn10 : ¬ b10 = g := by have := HTW.out.2.1; omega
          obtain ⟨_, _, t2, _, _, t5⟩ := HKW.out wt HCB.out
          have HKY : Hid (∀ W', Below wd.heap.size wd W' → W'.cell? ⟨b9, 2, none⟩ = some (.slice A' u.kids.length capA) ∧ W'.cell? ⟨b10, 2, none⟩ = some (.slice B' v.kids.length capB)) := fun W' h => ⟨(h.cell (p := ⟨b9, 2, none⟩) (by show b9 < _; omega)).trans ((hfd.cellV (a := ⟨b9, 2, none⟩) hb9 hn9).trans t2), (h.cell (p := ⟨b10, 2, none⟩) (by show b10 < _; omega)).trans ((hfd.cellV (a := ⟨b10, 2, none⟩) hb10 hn10).trans t5)⟩
          clear hok hA3 hB3 hc3 hc4 hrow hfd t2 t5 n0 n1 m0 m1 HKW HPUT HPOP
          have HK1 : Hid (∀ W', Calls Try.prog 41 #[.slice A' u.kids.length capA] W' fun e w' => e = .returned (.agg #[.pointer (kA A' u.kids.length), .int .i64 u.kids.length]) ∧ Below W'.heap.size W' w') := fun W' => keyOfV_own HOA.out capA W'
          have HK2 : Hid (∀ W', Calls Try.prog 41 #[.slice B' v.kids.length capB] W' fun e w' => e = .returned (.agg #[.pointer (kA B' v.kids.length), .int .i64 v.kids.length]) ∧ Below W'.heap.size W' w') := fun W' => keyOfV_own HOB.out capB W'
          have SQ := HKY.out wd.drew (Below.refl wd.heap.size wd).drew
          have SQ1 := HKY.out ((wd.alloc (.cells #[.pointer none, .int .i64 0, .pointer none, .int .i64 0] 76)).drew) ((Below.refl wd.heap.size wd).alloc (Nat.le_refl _) _).drew
          go_upto_region 15 with fail
          go_cut [12] (fun s12 wx => ∃ g12, s12 = .pointer (some ⟨g12, 0, none⟩) ∧ StKV wd g12 (KyV.mk (kA A' u.kids.length) u.kids.length (kA B' v.kids.length) v.kids.length) wx)
          case first =>
            go_region_held3 (fun w' => w'.cell? ⟨b9, 2, none⟩ = some (.slice A' u.kids.length capA) ∧ w'.cell? ⟨b10, 2, none⟩ = some (.slice B' v.kids.length capB)) (first | with_reducible exact SQ | with_reducible exact (HKY.out _ (hbq.alloc hbq.size _)) | with_reducible exact SQ1 | with_reducible exact (HKY.out _ (below_set4V hbq hgz _ _ _ _))) (first
              | (go_at_call 41; (with_reducible refine (HK1.out wd.drew).mono ?_); rintro e3 w3 ⟨rfl, hb'⟩; have hbq : Below wd.heap.size wd w3 := ⟨hb'.os, hb'.tape, hb'.output, hb'.size, hb'.block⟩; have SQ := HKY.out _ hbq; have hs3 := hbq.size; clear hb')
              | (go_at_call 41; (with_reducible refine (HK1.out ((wd.alloc (.cells #[.pointer none, .int .i64 0, .pointer none, .int .i64 0] 76)).drew)).mono ?_); rintro e3 w3 ⟨rfl, hb'⟩; have hbq : Below wd.heap.size wd w3 := ((Below.refl wd.heap.size wd).alloc (Nat.le_refl _) _).drew.trans (hb'.mono (by simp)); have SQ := HKY.out _ hbq; have hzb : ZbKV w3 wd.heap.size := ZbKV.at_ (w := (wd.alloc (.cells #[.pointer none, .int .i64 0, .pointer none, .int .i64 0] 76)).drew) (ZbKV.new wd) hb'; have hgz : wd.heap.size ≤ wd.heap.size := Nat.le_refl _; have hs3 := hbq.size; clear hb')
              | (go_at_call 41; (with_reducible refine (HK2.out w3).mono ?_); rintro e4 w4 ⟨rfl, hb'⟩; have hbq := below_aft hbq hb' hbq.size; have SQ := HKY.out _ hbq; (try (have hzd := hzb.at_ hb'; obtain ⟨k0, k1, k2, k3, k4, k5, k6, k7⟩ := hzd.cells)); clear hb')
              | (go_at_call 41; (with_reducible refine (HK2.out (w3.alloc (.cells #[.pointer none, .int .i64 0, .pointer none, .int .i64 0] 76))).mono ?_); rintro e4 w4 ⟨rfl, hb'⟩; have hbq0 := hbq; have hbq := below_aft (hbq.alloc hbq.size _) hb' (by simp; have := hbq0.size; omega); have SQ := HKY.out _ hbq; have hzd : ZbKV w4 w3.heap.size := ZbKV.at_ (ZbKV.new w3) hb'; have hgz : wd.heap.size ≤ w3.heap.size := hbq0.size; obtain ⟨k0, k1, k2, k3, k4, k5, k6, k7⟩ := hzd.cells; clear hb'))
            all_goals
              go_wp2_with fail
              go_meet
              refine ⟨_, rfl, ?_⟩
              first
              | (with_reducible exact StKV.new hbq)
              | (with_reducible exact StKV.set hbq hzd hgz)
          clear SQ SQ1
          obtain ⟨g12, rfl, hst⟩ := hcut
          have hcb := hst.2.1
          obtain ⟨r0, r1, r2, r3⟩ := hst.cells
          obtain ⟨v5, v6⟩ := HKY.out wc hcb
          have hz12 : g12 < wc.heap.size := heap_lt hst.2.2
          have hz13 := hst.1
          have HCD := Lib.hid hcb
          have HFE := Lib.hid (HFD.out.nextV hcb)
          have hszm : w.heap.size + 2 < wd.heap.size := by omega
          have HMC : Hid (MapKyV wc (w.heap.size + 2) S0) := HMD.out.keep (hcb.block _ hszm)
          have hLyA := HOA.out.ly (m := w.heap.size + 2) (fun b hb => HPA.out.2.1 b (HQA.out b hb))
          have hLyB := HOB.out.ly (m := w.heap.size + 2) (fun b hb => HPB.out.2.1 b (HQB.out b hb))
          have HKL2 : Hid (LiesKV wc (KyV.mk (kA A' u.kids.length) u.kids.length (kA B' v.kids.length) v.kids.length)) := ⟨hLyA.lies HFE.out, hLyB.lies HFE.out⟩
          have HAL : Hid (∀ k' ∈ S0, LiesKV wc k') := fun k' hk' => ⟨(HIV.out.lies k' hk').1.lies HFE.out, (HIV.out.lies k' hk').2.lies HFE.out⟩
          have hlook := HMC.out.look HKL2.out HAL.out
          have hlook1 : (Instr.lookup 65 (.map (some (w.heap.size + 1 + 1))) (.agg #[.pointer (kA A' u.kids.length), .int .i64 u.kids.length, .pointer (kA B' v.kids.length), .int .i64 v.kids.length]) false).run Try.prog wc = .ok (.bool (decide ((KyV.mk (kA A' u.kids.length) u.kids.length (kA B' v.kids.length) v.kids.length) ∈ S0))) wc := hlook
          have hlook2 : (Instr.lookup 65 (.map (some (w.heap.size + 2))) (.agg #[.pointer (kA A' u.kids.length), .int .i64 u.kids.length, .pointer (kA B' v.kids.length), .int .i64 v.kids.length]) false).run Try.prog wc = .ok (.bool (decide ((KyV.mk (kA A' u.kids.length) u.kids.length (kA B' v.kids.length) v.kids.length) ∈ S0))) wc := hlook
          have hse := hcb.size
          have HWV : Hid (wVs (u :: la) = 1 + wVs u.kids + wVs la) := by unfold Hid; rw [wVs, wV_kids]
          have hmu1 : muV (W ++ [(EnV.mk A3 la c3 B3 lb c4 (d' + 1) RA (e' + 1) RB)]) = muV W + (1 + 2 * wVs la) := muV_app W _
          have HM1 := Lib.hid hmu1
          clear hlook hLyA hLyB hst hcb hmu1
          by_cases hin : (KyV.mk (kA A' u.kids.length) u.kids.length (kA B' v.kids.length) v.kids.length) ∈ S0
          · have HI2 := Lib.hid (HIV.out.skip rfl rfl HF2.out HOA.out HOB.out HQA.out HRA.out hin HOK.out)
            rw [decide_eq_true hin] at hlook1 hlook2
            clear hin
            have HREL : Hid (RelV p q wS (w.heap.size + 2) (w.heap.size + 5) (3 + 2 * wV p) (.slice (some ⟨g, 0, none⟩) (W.length + 1) cap) wc (muV (W ++ [(EnV.mk A3 la c3 B3 lb c4 (d' + 1) RA (e' + 1) RB)]))) := ⟨_, S0, rfl, by have a := HLE.out; have b := HWV.out; have c := HM1.out; omega, HO1.out.below HCD.out, HMC.out, HI2.out, HFE.out⟩
            go_wp2_with fail
            go_roundw
            case rel => exact ⟨_, HREL.out⟩
            case measure =>
              have hlt := (lstV_spec HREL.out).2 _ HREL.out
              rw [← HMU.out]
              refine Nat.lt_of_le_of_lt hlt ?_
              have b := HWV.out; have c := HM1.out; omega
          · have HI2 := Lib.hid (HIV.out.push rfl rfl HF2.out HOA.out HOB.out HQA.out HRA.out HQR.out (fun b hb => HPB.out.2.1 b (HQB.out b hb)) HOK.out HCA.out.1 HCB2.out.1 HCA.out.2 HCB2.out.2)
            have HIN := Lib.hid hin
            rw [decide_eq_false hin] at hlook1 hlook2
            clear hin
            obtain ⟨xs, hown, hxs⟩ := HO1.out
            have hl1 : (W ++ [(EnV.mk A3 la c3 B3 lb c4 (d' + 1) RA (e' + 1) RB)]).length = W.length + 1 := by simp
            rw [hl1] at hown
            have hrw : w.heap.size + 5 ≤ g ∧ g < wd.heap.size := ⟨HLO.out, by omega⟩
            have HOW := Lib.hid hown
            have HXS := Lib.hid hxs
            have HL1 := Lib.hid hl1
            have HC3 : Hid (W.length + 1 + 1 ≤ maxLen) := by unfold Hid maxLen; omega
            have HC4 : Hid ((W.length + 1 + 1) * 48 ≤ 140737488355328) := by unfold Hid; omega
            clear hown hxs hl1
            go_wp2_with (first
              | (at_mapUpdate; (with_reducible refine wp_mapUpdate_kyV rfl _ _ _ rfl (w.heap.size + 2) S0 (KyV.mk (kA A' u.kids.length) u.kids.length (kA B' v.kids.length) v.kids.length) rfl HMC.out HKL2.out HAL.out HIN.out rfl rfl ?_); intro w5 hm5 hg5;
                  have HM5 := Lib.hid hm5; have HG5 := Lib.hid hg5; have hs5 := hg5.size; clear hm5 hg5;
                  have v5 := (World.cell?_of_block (a := ⟨b9, 2, none⟩) (HG5.out.block b9 (by omega) (by intro e; injection e with e; omega))).trans v5; have v6 := (World.cell?_of_block (a := ⟨b10, 2, none⟩) (HG5.out.block b10 (by omega) (by intro e; injection e with e; omega))).trans v6;
                  have HOA5 : Hid ((w5.alloc (.cells #[.slice A' u.kids.length capA, .slice B' v.kids.length capB] 67)).ownsRow (w.heap.size + 5) 67 2 (.slice (some ⟨g, 0, none⟩) (W.length + 1) cap) (W.length + 1) xs) := own_at HOW.out (fun b e => by have e2 : g = b := (by injection e with e); subst e2; rw [Below.heap_alloc _ _ _ (by omega), HG5.out.block g (by omega) (by intro e; injection e with e; omega)]; exact HCD.out.block g hrw.2);
                  have HC1 := Lib.hid (cell_two_new w5 (.slice A' u.kids.length capA) (.slice B' v.kids.length capB) 67);
                  have HC2 : Hid (∀ q ∈ [Value.slice A' u.kids.length capA, .slice B' v.kids.length capB], q.oneCell' = true) := (by intro q hq; simp at hq; rcases hq with rfl | rfl <;> rfl);
                  have HC5 : Hid (w.heap.size + 5 ≤ (w5.alloc (.cells #[.slice A' u.kids.length capA, .slice B' v.kids.length capB] 67)).heap.size) := (by unfold Hid; rw [World.size_alloc]; omega))
              | (at_builtin; refine wpList_append_own_at _ rfl _ _ 68 rfl (w.heap.size + 5) 67 i0 _ 2 48 Try.underlying68 hi hz0 hz1 hz2 rfl (by decide) (.slice (some ⟨g, 0, none⟩) (W.length + 1) cap) _ xs rfl HOA5.out ⟨w5.heap.size, 0, none⟩ 1 1 [Value.slice A' u.kids.length capA, Value.slice B' v.kids.length capB] rfl rfl HC1.out HC2.out HC3.out HC4.out HC5.out ?_; intro v' w6 hown' hgr' hnn' hat')
              | fail)
            have hsA : (w5.alloc (.cells #[.slice A' u.kids.length capA, .slice B' v.kids.length capB] 67)).heap.size = w5.heap.size + 1 := by simp
            have hs6 := hgr'.size
            have HF5 : Hid (Fr (fun b => b = w.heap.size + 2) wS (w5.alloc (.cells #[.slice A' u.kids.length capA, .slice B' v.kids.length capB] 67))) := ((HFE.out.trans (Fr.grown HG5.out (fun b e => by injection e))).nextV ((Below.refl _ _).alloc (Nat.le_refl _) _))
            have HF6 : Hid (Fr (fun b => b = w.heap.size + 2) wS w6) := HF5.out.rowV hgr' (fun b e => by have e2 : g = b := (by injection e with e); have := HSZ.out; omega)
            have hk6 : ∀ b, b < w5.heap.size → b ≠ g → w6.heap[b]? = w5.heap[b]? := fun b hb hn => (hgr'.block b (by omega) (fun e => hn (by injection e with e))).trans (Below.heap_alloc _ _ _ hb)
            have HM6 : Hid (MapKyV w6 (w.heap.size + 2) (S0 ++ [(KyV.mk (kA A' u.kids.length) u.kids.length (kA B' v.kids.length) v.kids.length)])) := HM5.out.keep (hk6 _ (by omega) (by omega))
            have hown2 : w6.ownsRow (w.heap.size + 5) 67 2 v' ((W ++ [(EnV.mk A3 la c3 B3 lb c4 (d' + 1) RA (e' + 1) RB)]).length + 1) (xs ++ [.slice A' u.kids.length capA, .slice B' v.kids.length capB]) := by rw [HL1.out]; exact hown'
            have HO6 : Hid (OpnV w6 (w.heap.size + 5) v' ((W ++ [(EnV.mk A3 la c3 B3 lb c4 (d' + 1) RA (e' + 1) RB)]) ++ [(EnV.mk A' u.kids capA B' v.kids capB d' (fun b => QA b ∧ ∀ a, A' = some a → b ≠ a.block) e' (fun b => QB b ∧ ∀ a, B' = some a → b ≠ a.block))])) := OpnV.push (x := (EnV.mk A' u.kids capA B' v.kids capB d' (fun b => QA b ∧ ∀ a, A' = some a → b ≠ a.block) e' (fun b => QB b ∧ ∀ a, B' = some a → b ≠ a.block))) (by rw [HL1.out]; exact HOW.out.1) HXS.out hown2
            have hmu2 : muV ((W ++ [(EnV.mk A3 la c3 B3 lb c4 (d' + 1) RA (e' + 1) RB)]) ++ [(EnV.mk A' u.kids capA B' v.kids capB d' (fun b => QA b ∧ ∀ a, A' = some a → b ≠ a.block) e' (fun b => QB b ∧ ∀ a, B' = some a → b ≠ a.block))]) = muV (W ++ [(EnV.mk A3 la c3 B3 lb c4 (d' + 1) RA (e' + 1) RB)]) + (1 + 2 * wVs u.kids) := muV_app _ _
            have HM2 := Lib.hid hmu2
            have HREL : Hid (RelV p q wS (w.heap.size + 2) (w.heap.size + 5) (3 + 2 * wV p) v' w6 (muV ((W ++ [(EnV.mk A3 la c3 B3 lb c4 (d' + 1) RA (e' + 1) RB)]) ++ [(EnV.mk A' u.kids capA B' v.kids capB d' (fun b => QA b ∧ ∀ a, A' = some a → b ≠ a.block) e' (fun b => QB b ∧ ∀ a, B' = some a → b ≠ a.block))]))) := ⟨_, _, rfl, by have a := HLE.out; have b := HWV.out; have c := HM1.out; have d := HM2.out; omega, HO6.out, HM6.out, HI2.out, HF6.out⟩
            clear hown' hown2 hgr' hnn' hat' hk6 hsA hmu2
            go_roundw
            case rel => exact ⟨_, HREL.out⟩
            case measure =>
              have hlt := (lstV_spec HREL.out).2 _ HREL.out
              rw [← HMU.out]
              refine Nat.lt_of_le_of_lt hlt ?_
              have b := HWV.out; have c := HM1.out; have d := HM2.out; omega
end Go.Proofs.Ytakhobhmplneeaa
