/-
  The function FnWorldPrefix: the walk. No statement is proved here.
-/
import Derived.Test.YtholdmdkhbhokabSCtorIdx
namespace Go.Proofs.Ytholdmdkhbhokab
open Go.RowKit Go.Deep
open Go.ChangeShapes Go.WideShapes Go.ChangeAt
set_option maxRecDepth 100000
set_option linter.unusedVariables false

/-- A world of the call's own, with room behind it. -/
def GotWC (w : World) (e : Ending) (w' : World) : Prop := ∃ A l cap, e = .returned (.slice A l.length cap) ∧ l.length ≤ cap ∧ Lies w' w.heap.size (.slice A l.length cap) l ∧ 0 < l.length ∧ Below w.heap.size w w'
set_option maxHeartbeats 1600000 in
theorem drawWorldC_any (n cap : Nat) (A : Option Addr) (w : World) (hn : n ≤ maxLen) (hc : n ≤ cap) (h : RBy w w.heap.size A n) : Calls Try.prog 12 #[.slice A n cap] w (GotWC w) := by
  have H := Lib.hid h
  have HC := Lib.hid hc
  have HNM := Lib.hid hn
  clear h hc hn
  go_enter Try.func12, Try.ntmps12
  go_wp2_with fail
  refine (open_any w.heap.size n cap A w HNM.out HC.out H.out (Nat.le_refl _)).mono ?_
  rintro e w1 ⟨rfl, hR, hb⟩
  have HR1 := Lib.hid hR
  have HB1 := Lib.hid hb
  clear hR hb
  go_wp2_with fail
  refine (l1World_any _ _ _ _ HR1.out (by omega)).mono ?_
  rintro e w2 ⟨v, l, rfl, ho, hl, hs, hR, hg⟩
  have hx := ho.x hs
  obtain ⟨A2, c2, rfl⟩ := hx.form
  have HX := Lib.hid hx
  have HR2 := Lib.hid hR
  have HB2 := Lib.hid (below_grown HB1.out hg HB1.out.size (Nat.le_refl _))
  clear hx hR hg ho
  go_wp2_with fail
  refine (l1Mutate_any _ w.heap.size w.heap.size 1 _ 4 l.length _ _ HX.out (by omega) hl (HR2.out.more (by omega)) (by omega)).mono ?_
  rintro e w3 ⟨v3, n3, rfl, hx3, hn3, hR, hg⟩
  obtain ⟨L, hL, hli, _⟩ := hx3.lies (by unfold maxLen; omega)
  have HF : Hid (GotWC w (.returned v3) w3) := by
    have hcap : ∃ A c, v3 = .slice A n3 c ∧ n3 ≤ c := by
      obtain ⟨xs, ho, _⟩ := hx3
      rcases ho.2 with ⟨_, h0⟩ | ⟨g, cap, cur, rfl, _, _, hnc, _⟩
      · omega
      · exact ⟨_, cap, rfl, hnc⟩
    obtain ⟨A3, c3, rfl, hc3⟩ := hcap
    subst hL
    exact ⟨A3, L, c3, rfl, hc3, hli.lower HB2.out.size, hn3, below_grown HB2.out hg HB2.out.size (Nat.le_refl _)⟩
  clear hx3 hR hg hli
  go_wp2_with fail
  go_ret
  exact HF.out


theorem take_at {l : List Da} {n d : Nat} (h : d < (l.take n).length) : (l.take n)[d] = l[d]'(by simp at h; omega) := List.getElem_take
theorem argB_less {n : Nat} {a : Ty} (h : argB ((n + 1 : Nat) : Int) (-1) a = true) (hne : ¬ a.data = n) : argB n (-1) a = true := by
  by_cases hd : a.data = -1
  · rw [argB_int hd] at h ⊢; exact h
  · rw [argB_data hd] at h ⊢
    have := of_decide_eq_true h
    exact decide_eq_true ⟨this.1, by omega, this.2.2⟩
theorem ctorB_less {n : Nat} {c : Ct} (h : ctorB ((n + 1 : Nat) : Int) c = true) (hne : ∀ a ∈ c.args, ¬ a.data = n) : ctorB n c = true := by
  unfold ctorB at h ⊢
  simp only [Bool.and_eq_true, decide_eq_true_eq, List.all_eq_true] at h ⊢
  exact ⟨h.1, h.2.1, h.2.2.1, fun a ha => argB_less (h.2.2.2 a ha) (hne a ha)⟩
theorem dataB_less {n : Nat} {d : Da} (h : dataB ((n + 1 : Nat) : Int) d = true) (hne : ∀ c ∈ d.ctors, ∀ a ∈ c.args, ¬ a.data = n) : dataB n d = true := by
  unfold dataB at h ⊢
  simp only [Bool.and_eq_true, decide_eq_true_eq, List.all_eq_true] at h ⊢
  exact ⟨h.1, h.2.1, fun c hc => ctorB_less (h.2.2 c hc) (hne c hc)⟩
/-- Does no argument before place n have type n? -/
def NoArg (l : List Da) (n : Nat) : Prop := ∀ d (h : d < l.length), d < n → ∀ c ∈ l[d].ctors, ∀ a ∈ c.args, ¬ a.data = n
theorem ok_less {l : List Da} {n : Nat} (h : WorldOK l) (hn : l.length = n + 1) (hno : NoArg l n) : WorldOK (l.take n) := by
  have hl : (l.take n).length = n := by simp; omega
  refine ⟨by rw [hl]; have := h.1; omega, fun d hd _ => ?_, fun d hd _ => ?_⟩
  · rw [hl, take_at hd]
    have hd2 : d < l.length := by omega
    have h1 := h.2.1 d hd2 hd2
    rw [hn] at h1
    exact dataB_less h1 (hno d hd2 (by omega))
  · have hd2 : d < l.length := by omega
    obtain ⟨h1, h2⟩ := h.2.2 d hd2 hd2
    rw [take_at hd]
    constructor
    · rintro ⟨i, hi, hlt, e⟩
      rw [take_at hi] at e
      exact h1 ⟨i, by omega, hlt, e⟩
    · intro j hj hjk
      have e0 : (l.take n)[d].ctors = l[d].ctors := by rw [take_at hd]
      have hj2 : j < l[d].ctors.length := by rw [← e0]; exact hj
      rintro ⟨i, hi, m, hm, hlt, e⟩
      refine h2 j hj2 hj2 ⟨i, by omega, m, by have := hm; rw [take_at hi] at this; exact this, hlt, ?_⟩
      simp only [take_at] at e
      exact e
theorem not_ok_less {l : List Da} {n d m : Nat} (hn : l.length = n + 1) (hd : d < n) (hd2 : d < l.length) (hm : m < l[d].ctors.length) {a : Ty} (ha : a ∈ l[d].ctors[m].args) (e : a.data = n) : ¬ WorldOK (l.take n) := fun h => by
  have hl : (l.take n).length = n := by simp; omega
  have hd3 : d < (l.take n).length := by omega
  have e0 : (l.take n)[d] = l[d] := take_at hd3
  have hm3 : m < (l.take n)[d].ctors.length := by rw [e0]; exact hm
  have h1 := world_ctor h hd3 hm3
  have e1 : (l.take n)[d].ctors[m] = l[d].ctors[m] := by simp only [take_at]
  rw [e1, hl] at h1
  have h2 := (ctor_parts h1).2 a ha
  rw [argB_data (by omega)] at h2
  have := of_decide_eq_true h2
  omega
theorem RDas.take_ {w : World} {B n : Nat} {A : Option Addr} {l : List Da} (h : RDas w B A l) (hn : n ≤ l.length) : RDas w B A (l.take n) :=
  ⟨by have := h.1; simp; omega, fun k hk => by
    have hk2 : k < l.length := by simp at hk; omega
    obtain ⟨b, off, e, hb, hr⟩ := h.2 k hk2
    refine ⟨b, off, e, hb, ?_⟩
    rw [take_at hk]; exact hr⟩
theorem worldI_yes {A : Option Addr} {l : List Da} {cap : Nat} {w : World} (hr : RDas w w.heap.size A l) (h : WorldOK l) :
    Calls Try.prog 13 #[.slice A l.length cap] w fun e w' => e = .returned (.bool true) ∧ Below w.heap.size w w' := by rw [← dec_t h]; exact worldValid_impl A l cap w hr
theorem worldI_no {A : Option Addr} {l : List Da} {cap : Nat} {w : World} (hr : RDas w w.heap.size A l) (h : ¬ WorldOK l) :
    Calls Try.prog 13 #[.slice A l.length cap] w fun e w' => e = .returned (.bool false) ∧ Below w.heap.size w w' := by rw [← dec_f h]; exact worldValid_impl A l cap w hr

set_option maxHeartbeats 3200000 in
theorem prefix_law (n cap : Nat) (A : Option Addr) (w : World) (hn : n ≤ maxLen) (hc : n ≤ cap) (h : RBy w w.heap.size A n) :
    Calls Try.prog 3 #[.slice A n cap] w fun e w' => e = .returned (.bool true) ∧ Below w.heap.size w w' := by
  have HM := Lib.hid (drawWorldC_any n cap A w hn hc h)
  unfold maxLen at hn
  clear h hc
  by_cases hbig : n ≤ 1048576
  · have hbI : (n : Int) ≤ 1048576 := by omega
    go_enter Try.func3, Try.ntmps3
    go_wp2_with fail
    refine (HM.out).mono ?_
    rintro e w1 ⟨Aw, l, cw, rfl, hcw, hli, hl, hb⟩
    obtain ⟨A', c', e1, hrd⟩ := hli.form
    injection e1 with e1 _ e2
    subst e1 e2
    have HRW := Lib.hid hrd
    have HB := Lib.hid hb
    clear hrd hli hb HM
    by_cases hok : WorldOK l
    · go_wp2_with fail
      refine (worldI_yes HRW.out hok).mono ?_
      rintro e w2 ⟨rfl, hb2⟩
      have HRW2 := Lib.hid (HRW.out.at_ hb2)
      have HB2 := Lib.hid (below_after HB.out hb2 HB.out.size)
      clear hb2 HRW HB
      go_wp2_with fail
      refine (worldV_yes HRW2.out hok).mono ?_
      rintro e w3 ⟨rfl, hb3⟩
      have HRW3 := Lib.hid (HRW2.out.at_ hb3)
      have HB3 := Lib.hid (below_after HB2.out hb3 HB2.out.size)
      clear hb3 HRW2 HB2
      obtain ⟨p, hp⟩ : ∃ p, l.length = p + 1 := ⟨l.length - 1, by omega⟩
      obtain ⟨bw, ow, rfl, _⟩ := HRW3.out.2 0 hl
      have HOK := Lib.hid hok
      have HP := Lib.hid hp
      have hl4 := hok.1
      have z0 : ((l.length : Int) == 0) = false := ieq_f (by omega)
      have hp1 : (l.length : Int) - 1 = (p : Int) := by omega
      have hpc : (p : Int) ≤ (cw : Int) := by omega
      have hp0 : (0 : Int) ≤ (p : Int) := by omega
      clear hok hp
      have HTL : Hid ((l.take p).length = p) := by unfold Hid; simp; omega
      have HY : Hid (NoArg l p → Calls Try.prog 13 #[.slice (some ⟨bw, ow, none⟩) p cw] w3 fun e w' => e = .returned (.bool true) ∧ Below w3.heap.size w3 w') := fun hno => by
        have := worldI_yes (cap := cw) (HRW3.out.take_ (n := p) (by have := HP.out; omega)) (ok_less HOK.out HP.out hno)
        rw [HTL.out] at this; exact this
      have HN : Hid (¬ WorldOK (l.take p) → Calls Try.prog 13 #[.slice (some ⟨bw, ow, none⟩) p cw] w3 fun e w' => e = .returned (.bool false) ∧ Below w3.heap.size w3 w') := fun hno => by
        have := worldI_no (cap := cw) (HRW3.out.take_ (n := p) (by have := HP.out; omega)) hno
        rw [HTL.out] at this; exact this
      have hpl : p < l.length := by have := HP.out; omega
      go_wp2_with fail
      go_loop [6] (fun i => ∃ d : Nat, d ≤ p ∧ i = .int .i64 d ∧ Hid (∀ e (h : e < l.length), e < d → ∀ c ∈ l[e].ctors, ∀ a ∈ c.args, ¬ a.data = p)) (fun i => p - (intOf i).toNat)
      case atStart => exact ⟨0, by omega, rfl, fun e h hlt => absurd hlt (by omega)⟩
      case round =>
        obtain ⟨d, hd, rfl, HD⟩ := hrel
        by_cases hdp : d < p
        · have hdI : (d : Int) < (p : Int) := by omega
          have hdl : d < l.length := by omega
          obtain ⟨bw', ow', e1, hbB, A2, c2, n0, n1, hns, hcts⟩ := HRW3.out.2 d hdl
          injection e1 with e1
          injection e1 with e1a e1b
          subst e1a e1b
          have HCT := Lib.hid hcts
          have hcl := hcts.1
          unfold maxLen at hcl
          clear hcts
          go_wp2_with fail
          go_loop [7] (fun i => ∃ m : Nat, m ≤ l[d].ctors.length ∧ i = .int .i64 m ∧ Hid (∀ e (h : e < l[d].ctors.length), e < m → ∀ a ∈ l[d].ctors[e].args, ¬ a.data = p)) (fun i => l[d].ctors.length - (intOf i).toNat)
          case atStart => exact ⟨0, by omega, rfl, fun e h hlt => absurd hlt (by omega)⟩
          case round =>
            obtain ⟨m, hm, rfl, HMM⟩ := hrel
            by_cases hml : m < l[d].ctors.length
            · have hmI : (m : Int) < (l[d].ctors.length : Int) := by omega
              obtain ⟨bc, oc, rfl, hbc, D, dp, g0, g1, g2, hgs, hargs⟩ := HCT.out.2 m hml
              have HAR := Lib.hid hargs
              have hal := hargs.1
              unfold maxLen at hal
              clear hargs
              go_wp2_with fail
              go_loop [9] (fun i => ∃ j : Nat, j ≤ l[d].ctors[m].args.length ∧ i = .int .i64 j ∧ Hid (∀ e (h : e < l[d].ctors[m].args.length), e < j → ¬ l[d].ctors[m].args[e].data = p)) (fun i => l[d].ctors[m].args.length - (intOf i).toNat)
              case atStart => exact ⟨0, by omega, rfl, fun e h hlt => absurd hlt (by omega)⟩
              case round =>
                obtain ⟨j, hj, rfl, HJ⟩ := hrel
                by_cases hjl : j < l[d].ctors[m].args.length
                · have hjI : (j : Int) < (l[d].ctors[m].args.length : Int) := by omega
                  obtain ⟨bd, od, rfl, hbd, k0, k1⟩ := HAR.out.2 j hjl
                  by_cases he : l[d].ctors[m].args[j].data = p
                  · have q := ieq_t he
                    have HC := Lib.hid (HN.out (not_ok_less HP.out hdp hdl hml (List.getElem_mem hjl) he))
                    clear he
                    go_wp2_with fail
                    refine (HC.out).mono ?_
                    rintro e w4 ⟨rfl, hb4⟩
                    have HF := Lib.hid (below_after HB3.out hb4 HB3.out.size)
                    clear hb4
                    go_wp2_with fail
                    go_ret
                    exact ⟨rfl, HF.out⟩
                  · have q := ieq_f he
                    have HJ2 : Hid (∀ e (h : e < l[d].ctors[m].args.length), e < j + 1 → ¬ l[d].ctors[m].args[e].data = p) := fun e h hlt => by
                      by_cases ee : e = j
                      · subst ee; exact he
                      · exact HJ.out e h (by omega)
                    clear he
                    go_wp2_with fail
                    go_round
                    case rel => exact ⟨j + 1, by omega, by go_num, HJ2⟩
                    case measure => simp [intOf]; omega
                · have hjI : (l[d].ctors[m].args.length : Int) ≤ (j : Int) := by omega
                  have HM2 : Hid (∀ e (h : e < l[d].ctors.length), e < m + 1 → ∀ a ∈ l[d].ctors[e].args, ¬ a.data = p) := fun e h hlt a ha => by
                    by_cases ee : e = m
                    · subst ee
                      obtain ⟨i, hi, rfl⟩ := List.getElem_of_mem ha
                      exact HJ.out i hi (by omega)
                    · exact HMM.out e h (by omega) a ha
                  go_wp2_with fail
                  go_round
                  case rel => exact ⟨m + 1, by omega, by go_num, HM2⟩
                  case measure => simp [intOf]; omega
            · have hmI : (l[d].ctors.length : Int) ≤ (m : Int) := by omega
              have HD2 : Hid (∀ e (h : e < l.length), e < d + 1 → ∀ c ∈ l[e].ctors, ∀ a ∈ c.args, ¬ a.data = p) := fun e h hlt c hc a ha => by
                by_cases ee : e = d
                · subst ee
                  obtain ⟨i, hi, rfl⟩ := List.getElem_of_mem hc
                  exact HMM.out i hi (by omega) a ha
                · exact HD.out e h (by omega) c hc a ha
              go_wp2_with fail
              go_round
              case rel => exact ⟨d + 1, by omega, by go_num, HD2⟩
              case measure => simp [intOf]; omega
        · have hdI : (p : Int) ≤ (d : Int) := by omega
          have HC := Lib.hid (HY.out (fun e h hlt c hc a ha => HD.out e h (by omega) c hc a ha))
          go_wp2_with fail
          refine (HC.out).mono ?_
          rintro e w4 ⟨rfl, hb4⟩
          have HF := Lib.hid (below_after HB3.out hb4 HB3.out.size)
          clear hb4
          go_wp2_with fail
          go_ret
          exact ⟨rfl, HF.out⟩
    · go_wp2_with fail
      refine (worldI_no HRW.out hok).mono ?_
      rintro e w2 ⟨rfl, hb2⟩
      have HRW2 := Lib.hid (HRW.out.at_ hb2)
      have HB2 := Lib.hid (below_after HB.out hb2 HB.out.size)
      clear hb2 HRW HB
      go_wp2_with fail
      refine (worldV_no HRW2.out hok).mono ?_
      rintro e w3 ⟨rfl, hb3⟩
      have HRW3 := Lib.hid (HRW2.out.at_ hb3)
      have HB3 := Lib.hid (below_after HB2.out hb3 HB2.out.size)
      clear hb3 HRW2 HB2
      go_wp2_with fail
      refine (worldV_no HRW3.out hok).mono ?_
      rintro e w4 ⟨rfl, hb4⟩
      have HF := Lib.hid (below_after HB3.out hb4 HB3.out.size)
      clear hb4
      go_wp2_with fail
      go_ret
      exact ⟨rfl, HF.out⟩
  · have hbI : (1048576 : Int) < (n : Int) := by omega
    go_enter Try.func3, Try.ntmps3
    go_wp2_with fail
    go_ret
    exact ⟨rfl, Below.refl _ _⟩
end Go.Proofs.Ytholdmdkhbhokab
