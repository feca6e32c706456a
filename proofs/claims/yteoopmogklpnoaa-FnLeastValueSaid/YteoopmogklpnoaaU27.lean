/-
  The text of a world: the document's function. No statement is proved here.
-/
import Derived.Test.YteoopmogklpnoaaU26
namespace Go.Proofs.Yteoopmogklpnoaa
open Go.RowKit Go.Deep
set_option maxRecDepth 100000
set_option linter.unusedVariables false
theorem name_five {s : ByteArray} (h : nameB s = true) : s.size ≤ 5 := by
  by_cases h5 : s.size ≤ 5
  · exact h5
  · have := name_long (s := s) (by omega); rw [h] at this; cases this
theorem ct_in {n : Nat} {c : Ct} (h : ctorB n c = true) : CtIn n c := by
  obtain ⟨h1, h2⟩ := ctor_parts h
  have hn : nameB c.name = true ∧ c.args.length ≤ 3 := by
    unfold ctorB at h
    simp only [Bool.and_eq_true, decide_eq_true_eq] at h
    exact ⟨h.1, h.2.1⟩
  have := name_five hn.1
  refine ⟨by omega, hn.2, h1.1, h1.2, fun a ha => ?_⟩
  have hB := h2 a ha
  by_cases hb : a.data = -1
  · rw [argB_int hb] at hB
    have : a.index = 0 := of_decide_eq_true hB
    exact ⟨.inl hb, by omega, by omega⟩
  · rw [argB_data hb] at hB
    have := of_decide_eq_true hB
    exact ⟨.inr ⟨this.1, this.2.1⟩, this.2.2.1, this.2.2.2⟩
theorem world_ct_in {l : List Da} (h : WorldOK l) {d m : Nat} (hd : d < l.length) (hm : m < l[d].ctors.length) : CtIn l.length l[d].ctors[m] := ct_in (world_ctor h hd hm)
theorem world_short {l : List Da} (h : WorldOK l) : Short l := fun d hd => by
  have h1 := h.2.1 d hd hd
  unfold dataB dnameB at h1
  simp only [Bool.and_eq_true, decide_eq_true_eq] at h1
  omega
theorem world_four {l : List Da} (h : WorldOK l) {d : Nat} (hd : d < l.length) : l[d].ctors.length ≤ 4 := (data_len4 (h.2.1 d hd hd)).2
def ctsAcc (l : List Da) (base : ByteArray) (cs : List Ct) : Nat → ByteArray
  | 0 => base
  | k + 1 => (if k = 0 then ctsAcc l base cs k else ctsAcc l base cs k ++ ⟨#[124]⟩) ++ ctT l (cs.getD k default)
def headT (base : ByteArray) (d : Da) (k : Nat) : ByteArray := ((if k = 0 then base else base ++ ⟨#[59]⟩) ++ d.name) ++ ⟨#[61]⟩
def wAcc (l : List Da) : Nat → ByteArray
  | 0 => ⟨#[]⟩
  | k + 1 => ctsAcc l (headT (wAcc l k) (l.getD k default) k) (l.getD k default).ctors (l.getD k default).ctors.length
/-- The text of a world. -/
def wT (l : List Da) : ByteArray := wAcc l l.length
theorem ctsAcc_at {l : List Da} {base : ByteArray} {cs : List Ct} {k : Nat} (h : k < cs.length) : ctsAcc l base cs (k + 1) = (if k = 0 then ctsAcc l base cs k else ctsAcc l base cs k ++ ⟨#[124]⟩) ++ ctT l cs[k] := by
  have e : cs.getD k default = cs[k] := by simp [List.getD, List.getElem?_eq_getElem h]
  show (if k = 0 then ctsAcc l base cs k else ctsAcc l base cs k ++ ⟨#[124]⟩) ++ ctT l (cs.getD k default) = _
  rw [e]
theorem wAcc_at {l : List Da} {k : Nat} (h : k < l.length) : wAcc l (k + 1) = ctsAcc l (headT (wAcc l k) l[k] k) l[k].ctors l[k].ctors.length := by
  have e : l.getD k default = l[k] := by simp [List.getD, List.getElem?_eq_getElem h]
  show ctsAcc l (headT (wAcc l k) (l.getD k default) k) (l.getD k default).ctors (l.getD k default).ctors.length = _
  rw [e]
theorem ctsAcc_size {l : List Da} {base : ByteArray} {cs : List Ct} (hs : Short l) (hc : ∀ c ∈ cs, CtIn l.length c) : ∀ k, k ≤ cs.length → (ctsAcc l base cs k).size ≤ base.size + 511 * k
  | 0, _ => Nat.le_refl _
  | k + 1, hk => by
    have h1 := ctsAcc_size hs hc (base := base) k (by omega)
    have h2 := ctT_size hs (hc _ (List.getElem_mem (by omega : k < cs.length)))
    rw [ctsAcc_at (by omega), ByteArray.size_append]
    have h3 : (ByteArray.mk #[124]).size = 1 := rfl
    split
    · omega
    · rw [ByteArray.size_append]; omega
theorem headT_size (base : ByteArray) (d : Da) (k : Nat) : (headT base d k).size ≤ base.size + d.name.size + 2 := by
  have h3 : (ByteArray.mk #[59]).size = 1 := rfl
  have h4 : (ByteArray.mk #[61]).size = 1 := rfl
  unfold headT
  rw [ByteArray.size_append, ByteArray.size_append]
  split
  · omega
  · rw [ByteArray.size_append]; omega
theorem wAcc_size {l : List Da} (hw : WorldOK l) : ∀ k, k ≤ l.length → (wAcc l k).size ≤ 2200 * k
  | 0, _ => Nat.le_refl _
  | k + 1, hk => by
    have h1 := wAcc_size hw k (by omega)
    have h2 := world_short hw k (by omega)
    have h3 := world_four hw (by omega : k < l.length)
    rw [wAcc_at (by omega)]
    have h4 := ctsAcc_size (base := headT (wAcc l k) l[k] k) (world_short hw) (cs := l[k].ctors) (fun c hc => by
      obtain ⟨m, hm, rfl⟩ := List.getElem_of_mem hc
      exact world_ct_in hw (by omega) hm) l[k].ctors.length (Nat.le_refl _)
    have h5 := headT_size (wAcc l k) l[k] k
    omega
set_option maxHeartbeats 3000000 in
theorem text_any (A : Option Addr) (l : List Da) (cap : Nat) (w : World) (hr : RDas w w.heap.size A l) (hw : WorldOK l) :
    Calls Try.prog 138 #[.slice A l.length cap] w fun e w' => e = .returned (.string (wT l)) ∧ Below w.heap.size w w' := by
  have Hr := Lib.hid hr
  have HW := Lib.hid hw
  have hl4 := hw.1
  have HZ : Hid (∀ k, k ≤ l.length → (wAcc l k).size ≤ 2200 * k) := wAcc_size hw
  have HS := Lib.hid (world_short hw)
  clear hr hw
  go_enter Try.func138, Try.ntmps138
  go_wp2_with fail
  go_loopw [3, 4] (fun t i wr => ∃ k : Nat, k ≤ l.length ∧ i = .int .i64 k ∧ t = .string (wAcc l k) ∧ Below w.heap.size w wr) (fun _ i _ => l.length - (intOf i).toNat)
  case atStart => exact ⟨0, by omega, rfl, rfl, Below.refl _ _⟩
  case round =>
    obtain ⟨k, hk, rfl, rfl, hb⟩ := hrel
    have hz := HZ.out k hk
    by_cases hlt : k < l.length
    · have hkI : (k : Int) < (l.length : Int) := by omega
      obtain ⟨b, off, rfl, hbB, A', cp, c0, c1, hszd, hmd⟩ := (Hr.out.below hb (Nat.le_refl _)).2 k hlt
      have hnm := HS.out k hlt
      have h4 := world_four HW.out hlt
      have HMD : Hid (RCts w w.heap.size A' l[k].ctors) := hmd.keep (fun p hp => (hb.cell hp).symm) (Nat.le_refl _)
      have HAT := Lib.hid (wAcc_at hlt)
      have hhz := headT_size (wAcc l k) l[k] k
      have HCZ : Hid (∀ j, j ≤ l[k].ctors.length → (ctsAcc l (headT (wAcc l k) l[k] k) l[k].ctors j).size ≤ (headT (wAcc l k) l[k] k).size + 511 * j) := ctsAcc_size HS.out (fun c hc => by
        obtain ⟨m, hm, rfl⟩ := List.getElem_of_mem hc
        exact world_ct_in HW.out hlt hm)
      have HC1 : Hid (w.cell? ⟨b, off + k * 2 + 1, none⟩ = some (.slice A' l[k].ctors.length cp)) := (hb.cell (p := ⟨b, off + k * 2 + 1, none⟩) hbB).symm.trans c1
      clear hmd
      have HH : Hid (headT (wAcc l k) l[k] k = ((if k = 0 then wAcc l k else wAcc l k ++ ⟨#[59]⟩) ++ l[k].name) ++ ⟨#[61]⟩) := rfl
      by_cases h0 : k = 0
      all_goals
        first
          | (have q : ¬ (0 : Int) < (k : Int) := by omega
             have q' : (k : Int) ≤ 0 := by omega
             have q'' : decide (0 < k) = false := decide_eq_false (by omega)
             rw [if_pos h0] at HH)
          | (have q' : (0 : Int) < (k : Int) := by omega
             have q'' : decide (0 < k) = true := decide_eq_true (by omega)
             rw [if_neg h0] at HH)
        generalize headT (wAcc l k) l[k] k = h at hhz HAT HCZ HH
        generalize wAcc l k = a at hz HH hhz
        clear h0
        go_wp2_with fail
        obtain ⟨wo, rfl⟩ : ∃ wo : World, wo = wr := ⟨_, rfl⟩
        go_loopw [3, 5] (fun t i wi => ∃ j : Nat, j ≤ l[k].ctors.length ∧ i = .int .i64 j ∧ t = .string (ctsAcc l h l[k].ctors j) ∧ Below w.heap.size w wi) (fun _ i _ => l[k].ctors.length - (intOf i).toNat)
        case atStart => exact ⟨0, by omega, rfl, by rw [show ctsAcc l h l[k].ctors 0 = h from rfl, HH.out], hb⟩
        case round =>
          clear hb c0 c1
          obtain ⟨j, hj, rfl, rfl, hb⟩ := hrel
          have hcz := HCZ.out j hj
          have c1 : wr.cell? ⟨b, off + k * 2 + 1, none⟩ = some (.slice A' l[k].ctors.length cp) := (hb.cell (p := ⟨b, off + k * 2 + 1, none⟩) (by have := block_lt_of_cell HC1.out; simpa using this)).trans HC1.out
          by_cases hjt : j < l[k].ctors.length
          · have hjI : (j : Int) < (l[k].ctors.length : Int) := by omega
            obtain ⟨g, o, rfl, hgB, D1, ep, e0, e1, e2, hszm, hmm⟩ := (HMD.out.below hb (Nat.le_refl _)).2 j hjt
            have HIN := Lib.hid (world_ct_in HW.out hlt hjt)
            have HJ := Lib.hid (ctsAcc_at (l := l) (base := h) hjt)
            have hct := ctT_size HS.out HIN.out
            have HRr : Hid (RDas wr wr.heap.size (some ⟨b, off, none⟩) l) := Hr.out.keep (fun p hp => hb.cell hp) hb.size
            have HMM : Hid (RTys wr wr.heap.size D1 l[k].ctors[j].args) := hmm.keep (fun _ _ => rfl) hb.size
            generalize hu : ctT l l[k].ctors[j] = u at hct HJ
            have HU := Lib.hid hu
            generalize ctsAcc l h l[k].ctors j = a2 at hcz HJ
            clear hu hmm
            by_cases h1 : j = 0
            · have q2 : (j : Int) ≤ 0 := by omega
              rw [if_pos h1] at HJ
              clear h1
              go_wp2_with fail
              refine (ctorText_any _ _ l l[k].ctors[j] _ _ _ HRr.out HMM.out HS.out HIN.out).mono ?_
              rw [HU.out]
              rintro e w1 ⟨rfl, hb1⟩
              have hb2 := below_after hb hb1 hb.size
              go_wp2_with fail
              go_roundw
              case rel => first | exact ⟨j + 1, by omega, by go_num, by rw [HJ.out], hb2⟩ | ((repeat apply Exists.intro); exact ⟨⟨j + 1, by omega, by go_num, by rw [HJ.out], hb2⟩, rfl⟩)
              case measure => simp [intOf]; omega
            · have q2 : (0 : Int) < (j : Int) := by omega
              rw [if_neg h1] at HJ
              clear h1
              go_wp2_with fail
              refine (ctorText_any _ _ l l[k].ctors[j] _ _ _ HRr.out HMM.out HS.out HIN.out).mono ?_
              rw [HU.out]
              rintro e w1 ⟨rfl, hb1⟩
              have hb2 := below_after hb hb1 hb.size
              go_wp2_with fail
              go_roundw
              case rel => first | exact ⟨j + 1, by omega, by go_num, by rw [HJ.out], hb2⟩ | ((repeat apply Exists.intro); exact ⟨⟨j + 1, by omega, by go_num, by rw [HJ.out], hb2⟩, rfl⟩)
              case measure => simp [intOf]; omega
          · have he : j = l[k].ctors.length := by omega
            have hjI : (l[k].ctors.length : Int) ≤ (j : Int) := by omega
            have HE : Hid (ctsAcc l h l[k].ctors j = wAcc l (k + 1)) := by unfold Hid; rw [he, HAT.out]
            clear he
            go_wp2_with fail
            go_roundw
            case rel => exact ⟨k + 1, by omega, by go_num, by rw [HE.out], hb⟩
            case measure => simp [intOf]; omega
    · have he : k = l.length := by omega
      have hkI : (l.length : Int) ≤ (k : Int) := by omega
      have HE : Hid (wAcc l k = wT l) := by unfold Hid wT; rw [he]
      clear he
      go_wp2_with fail
      go_ret
      exact ⟨ret_str HE.out, hb⟩
end Go.Proofs.Yteoopmogklpnoaa
