/-
  The texts of constructors and worlds: the document's functions. No statement is proved here.
-/
import Derived.Test.YtakhobhmplneeaaY15
namespace Go.Proofs.Ytakhobhmplneeaa
open Go.RowKit Go.Deep
set_option maxRecDepth 100000
set_option linter.unusedVariables false
/-- A type that can be that of an argument; the names are not long. -/
def ArgIn (n : Nat) (t : Ty) : Prop := (t.data = -1 ∨ (0 ≤ t.data ∧ t.data < n)) ∧ -1 ≤ t.index ∧ t.index ≤ 3
def Short (l : List Da) : Prop := ∀ d (h : d < l.length), l[d].name.size ≤ 100
def CtIn (n : Nat) (c : Ct) : Prop := c.name.size ≤ 100 ∧ c.args.length ≤ 3 ∧ 0 ≤ c.index ∧ c.index ≤ 3 ∧ ∀ a ∈ c.args, ArgIn n a
theorem tyT_size {l : List Da} {t : Ty} (hs : Short l) (ht : ArgIn l.length t) : (tyT l t).size ≤ 101 := by
  obtain ⟨d, i⟩ := t
  rcases ht.1 with h | ⟨h0, h1⟩
  · rw [tyT_int h]; decide
  · simp only at h0 h1
    obtain ⟨k, rfl⟩ : ∃ k : Nat, d = k := ⟨d.toNat, by omega⟩
    rw [tyT_data (by omega : k < l.length), ByteArray.size_append]
    have := hs k (by omega)
    have := ixT_size i
    omega
theorem type_any (A : Option Addr) (l : List Da) (cap : Nat) (t : Ty) (s : ByteArray) (w : World) (hr : RDas w w.heap.size A l) (hs : Short l) (ht : ArgIn l.length t) (he : tyT l t = s) :
    Calls Try.prog 91 #[.slice A l.length cap, .agg #[.int .i64 t.data, .int .i64 t.index]] w fun e w' => e = .returned (.string s) ∧ Below w.heap.size w w' := by
  subst he
  obtain ⟨d, i⟩ := t
  by_cases h : d = -1
  · subst h
    rw [tyT_int rfl]
    exact type_int A l.length cap i w
  · have h1 := ht.1.resolve_left h
    simp only at h1
    obtain ⟨k, rfl⟩ : ∃ k : Nat, d = k := ⟨d.toNat, by omega⟩
    rw [tyT_data (by omega : k < l.length)]
    exact type_data A l cap k i w hr (by omega) (hs k (by omega)) ht.2.1 (by have := ht.2.2; simp only at this; omega)
def argAcc (l : List Da) (c : Ct) : Nat → ByteArray
  | 0 => c.name
  | k + 1 => (argAcc l c k ++ (if k = 0 then ⟨#[40]⟩ else ⟨#[44]⟩)) ++ tyT l (c.args.getD k default)
/-- The text of a constructor. -/
def ctT2 (l : List Da) (c : Ct) : ByteArray := if 0 < c.args.length then argAcc l c c.args.length ++ ⟨#[41]⟩ else argAcc l c c.args.length
def ctT (l : List Da) (c : Ct) : ByteArray := if 0 < c.index then (ctT2 l c ++ ⟨#[58]⟩) ++ dig c.index else ctT2 l c
theorem argAcc_at {l : List Da} {c : Ct} {k : Nat} (h : k < c.args.length) : argAcc l c (k + 1) = (argAcc l c k ++ (if k = 0 then ⟨#[40]⟩ else ⟨#[44]⟩)) ++ tyT l c.args[k] := by
  have e : c.args.getD k default = c.args[k] := by simp [List.getD, List.getElem?_eq_getElem h]
  show (argAcc l c k ++ (if k = 0 then ⟨#[40]⟩ else ⟨#[44]⟩)) ++ tyT l (c.args.getD k default) = _
  rw [e]
theorem argAcc_size {l : List Da} {c : Ct} (hs : Short l) (hc : CtIn l.length c) : ∀ k, k ≤ c.args.length → (argAcc l c k).size ≤ 100 + 102 * k
  | 0, _ => hc.1
  | k + 1, hk => by
    have h1 := argAcc_size hs hc k (by omega)
    have h2 := tyT_size hs (hc.2.2.2.2 _ (List.getElem_mem (by omega : k < c.args.length)))
    rw [argAcc_at (by omega), ByteArray.size_append, ByteArray.size_append]
    have h3 : (if k = 0 then (⟨#[40]⟩ : ByteArray) else ⟨#[44]⟩).size = 1 := by split <;> rfl
    omega
theorem ctT2_size {l : List Da} {c : Ct} (hs : Short l) (hc : CtIn l.length c) : (ctT2 l c).size ≤ 500 := by
  have h1 := argAcc_size hs hc c.args.length (Nat.le_refl _)
  have h2 := hc.2.1
  unfold ctT2
  split
  · rw [ByteArray.size_append]; have : (ByteArray.mk #[41]).size = 1 := rfl; omega
  · omega
theorem ctT_size {l : List Da} {c : Ct} (hs : Short l) (hc : CtIn l.length c) : (ctT l c).size ≤ 510 := by
  have h1 := ctT2_size hs hc
  unfold ctT
  split
  · rw [ByteArray.size_append, ByteArray.size_append, dig_size]; have : (ByteArray.mk #[58]).size = 1 := rfl; omega
  · omega
set_option maxHeartbeats 1600000 in
theorem ctorText_any (A D : Option Addr) (l : List Da) (c : Ct) (cap ep : Nat) (w : World) (hr : RDas w w.heap.size A l) (ha : RTys w w.heap.size D c.args) (hs : Short l) (hc : CtIn l.length c) :
    Calls Try.prog 85 #[.slice A l.length cap, .agg #[.string c.name, .slice D c.args.length ep, .int .i64 c.index]] w fun e w' => e = .returned (.string (ctT l c)) ∧ Below w.heap.size w w' := by
  have Hr := Lib.hid hr
  have HA := Lib.hid ha
  have HS := Lib.hid hs
  have HC := Lib.hid hc
  have h3 := hc.2.1
  have hi0 := hc.2.2.1
  have hi3 := hc.2.2.2.1
  have hT2 := ctT2_size hs hc
  have HZ : Hid (∀ k, k ≤ c.args.length → (argAcc l c k).size ≤ 100 + 102 * k) := argAcc_size hs hc
  clear hr ha hs hc
  generalize hw0 : w.alloc (.cells #[.string c.name, .slice D c.args.length ep, .int .i64 c.index] 105) = w0
  have x0 : w0.cell? ⟨w.heap.size, 0, none⟩ = some (.string c.name) := by rw [← hw0]; simp [go_sem]
  have HX : Hid (Box3 w0 w.heap.size c.name (.slice D c.args.length ep) c.index) := by rw [← hw0]; exact heap_alloc_new w _
  have hb0 : Below w.heap.size w w0 := by rw [← hw0]; exact (Below.refl _ _).alloc (Nat.le_refl _) _
  have HW := Lib.hid hw0
  clear hw0
  go_enter Try.func85, Try.ntmps85
  go_wp2_with fail
  rw [HW.out]
  clear HW x0
  go_loopw [5, 6] (fun t i wr => ∃ k : Nat, k ≤ c.args.length ∧ i = .int .i64 k ∧ t = .string (argAcc l c k) ∧ Below w0.heap.size w0 wr) (fun _ i _ => c.args.length - (intOf i).toNat)
  case atStart => exact ⟨0, by omega, rfl, rfl, Below.refl _ _⟩
  case round =>
    obtain ⟨k, hk, rfl, rfl, hb⟩ := hrel
    have hbx := HX.out.at_ hb
    have b0 := hbx.c0
    have b1 := hbx.c1
    have b2 := hbx.c2
    have hbw : Below w.heap.size w wr := below_after hb0 hb hb0.size
    have hz := HZ.out k hk
    by_cases hlt : k < c.args.length
    · have hkI : (k : Int) < (c.args.length : Int) := by omega
      obtain ⟨g, o, rfl, hgB, y0, y1⟩ := (HA.out.below hbw (Nat.le_refl _)).2 k hlt
      have HIN := Lib.hid (HC.out.2.2.2.2 _ (List.getElem_mem hlt))
      have HAT := Lib.hid (argAcc_at (l := l) hlt)
      have hts := tyT_size HS.out HIN.out
      have HRr : Hid (RDas wr wr.heap.size A l) := Hr.out.keep (fun p hp => hbw.cell hp) hbw.size
      generalize hu : tyT l c.args[k] = u at hts HAT
      have HU := Lib.hid hu
      generalize argAcc l c k = a at hz HAT
      clear hu
      by_cases h0 : k = 0
      · have q := ieq_t (show (k : Int) = 0 by omega)
        rw [if_pos h0] at HAT
        clear h0
        go_wp2_with fail
        refine (type_any _ l _ _ u _ HRr.out HS.out HIN.out HU.out).mono ?_
        rintro e w1 ⟨rfl, hb1⟩
        have hb2 := hb.trans (hb1.mono hb.size)
        go_wp2_with fail
        go_roundw
        case rel => exact ⟨k + 1, by omega, by go_num, by rw [HAT.out], hb2⟩
        case measure => simp [intOf]; omega
      · have q := ieq_f (show ¬ (k : Int) = 0 by omega)
        rw [if_neg h0] at HAT
        clear h0
        go_wp2_with fail
        refine (type_any _ l _ _ u _ HRr.out HS.out HIN.out HU.out).mono ?_
        rintro e w1 ⟨rfl, hb1⟩
        have hb2 := hb.trans (hb1.mono hb.size)
        go_wp2_with fail
        go_roundw
        case rel => exact ⟨k + 1, by omega, by go_num, by rw [HAT.out], hb2⟩
        case measure => simp [intOf]; omega
    · have he : k = c.args.length := by omega
      have hkI : (c.args.length : Int) ≤ (k : Int) := by omega
      by_cases hp : 0 < c.args.length
      · have hpI : (0 : Int) < (c.args.length : Int) := by omega
        have HT2 : Hid (ctT2 l c = argAcc l c k ++ ⟨#[41]⟩) := by unfold Hid ctT2; rw [if_pos hp, he]
        generalize argAcc l c k = a at hz HT2
        by_cases hx : 0 < c.index
        · have HT : Hid (ctT l c = (ctT2 l c ++ ⟨#[58]⟩) ++ dig c.index) := if_pos hx
          have hds := dig_size c.index
          generalize hdd : dig c.index = dd at hds HT
          have HDD := Lib.hid hdd
          clear hdd he
          go_wp2_with fail
          refine (dec_any _ _ hi0 (by omega)).mono ?_
          rw [HDD.out]
          rintro e w1 ⟨rfl, hb1⟩
          have hb2 := below_after hbw hb1 hbw.size
          go_wp2_with fail
          go_ret
          exact ⟨ret_str (by rw [HT.out, HT2.out]), hb2⟩
        · have HT : Hid (ctT l c = ctT2 l c) := if_neg hx
          have hxI : c.index ≤ 0 := by omega
          clear he
          go_wp2_with fail
          go_ret
          exact ⟨ret_str (by rw [HT.out, HT2.out]), hbw⟩
      · have hpI : (c.args.length : Int) ≤ 0 := by omega
        have HT2 : Hid (ctT2 l c = argAcc l c k) := by unfold Hid ctT2; rw [if_neg hp, he]
        generalize argAcc l c k = a at hz HT2
        by_cases hx : 0 < c.index
        · have HT : Hid (ctT l c = (ctT2 l c ++ ⟨#[58]⟩) ++ dig c.index) := if_pos hx
          have hds := dig_size c.index
          generalize hdd : dig c.index = dd at hds HT
          have HDD := Lib.hid hdd
          clear hdd he
          go_wp2_with fail
          refine (dec_any _ _ hi0 (by omega)).mono ?_
          rw [HDD.out]
          rintro e w1 ⟨rfl, hb1⟩
          have hb2 := below_after hbw hb1 hbw.size
          go_wp2_with fail
          go_ret
          exact ⟨ret_str (by rw [HT.out, HT2.out]), hb2⟩
        · have HT : Hid (ctT l c = ctT2 l c) := if_neg hx
          have hxI : c.index ≤ 0 := by omega
          clear he
          go_wp2_with fail
          go_ret
          exact ⟨ret_str (by rw [HT.out, HT2.out]), hbw⟩
end Go.Proofs.Ytakhobhmplneeaa
/-
  The text of a world: the document's function. No statement is proved here.
-/
namespace Go.Proofs.Ytakhobhmplneeaa
open Go.RowKit Go.Deep
set_option maxRecDepth 100000
set_option linter.unusedVariables false
theorem name_five {s : ByteArray} (h : nameB s = true) : s.size ≤ 5 := by
  by_cases h5 : s.size ≤ 5
  · exact h5
  · have := name_long (s := s) (by omega); rw [h] at this; cases this
theorem ct_in {n : Nat} {c : Ct} (h : ctorB n c = true) : CtIn n c := by
  obtain ⟨h1, h2⟩ := ctor_parts h
  have hn : nameB c.name = true ∧ c.args.length ≤ 3 := by
    unfold ctorB at h
    simp only [Bool.and_eq_true, decide_eq_true_eq] at h
    exact ⟨h.1, h.2.1⟩
  have := name_five hn.1
  refine ⟨by omega, hn.2, h1.1, h1.2, fun a ha => ?_⟩
  have hB := h2 a ha
  by_cases hb : a.data = -1
  · rw [argB_int hb] at hB
    have : a.index = 0 := of_decide_eq_true hB
    exact ⟨.inl hb, by omega, by omega⟩
  · rw [argB_data hb] at hB
    have := of_decide_eq_true hB
    exact ⟨.inr ⟨this.1, this.2.1⟩, this.2.2.1, this.2.2.2⟩
theorem world_ct_in {l : List Da} (h : WorldOK l) {d m : Nat} (hd : d < l.length) (hm : m < l[d].ctors.length) : CtIn l.length l[d].ctors[m] := ct_in (world_ctor h hd hm)
theorem world_short {l : List Da} (h : WorldOK l) : Short l := fun d hd => by
  have h1 := h.2.1 d hd hd
  unfold dataB dnameB at h1
  simp only [Bool.and_eq_true, decide_eq_true_eq] at h1
  omega
theorem world_four {l : List Da} (h : WorldOK l) {d : Nat} (hd : d < l.length) : l[d].ctors.length ≤ 4 := (data_len4 (h.2.1 d hd hd)).2
def ctsAcc (l : List Da) (base : ByteArray) (cs : List Ct) : Nat → ByteArray
  | 0 => base
  | k + 1 => (if k = 0 then ctsAcc l base cs k else ctsAcc l base cs k ++ ⟨#[124]⟩) ++ ctT l (cs.getD k default)
def headT (base : ByteArray) (d : Da) (k : Nat) : ByteArray := ((if k = 0 then base else base ++ ⟨#[59]⟩) ++ d.name) ++ ⟨#[61]⟩
def wAcc (l : List Da) : Nat → ByteArray
  | 0 => ⟨#[]⟩
  | k + 1 => ctsAcc l (headT (wAcc l k) (l.getD k default) k) (l.getD k default).ctors (l.getD k default).ctors.length
/-- The text of a world. -/
def wT (l : List Da) : ByteArray := wAcc l l.length
theorem ctsAcc_at {l : List Da} {base : ByteArray} {cs : List Ct} {k : Nat} (h : k < cs.length) : ctsAcc l base cs (k + 1) = (if k = 0 then ctsAcc l base cs k else ctsAcc l base cs k ++ ⟨#[124]⟩) ++ ctT l cs[k] := by
  have e : cs.getD k default = cs[k] := by simp [List.getD, List.getElem?_eq_getElem h]
  show (if k = 0 then ctsAcc l base cs k else ctsAcc l base cs k ++ ⟨#[124]⟩) ++ ctT l (cs.getD k default) = _
  rw [e]
theorem wAcc_at {l : List Da} {k : Nat} (h : k < l.length) : wAcc l (k + 1) = ctsAcc l (headT (wAcc l k) l[k] k) l[k].ctors l[k].ctors.length := by
  have e : l.getD k default = l[k] := by simp [List.getD, List.getElem?_eq_getElem h]
  show ctsAcc l (headT (wAcc l k) (l.getD k default) k) (l.getD k default).ctors (l.getD k default).ctors.length = _
  rw [e]
theorem ctsAcc_size {l : List Da} {base : ByteArray} {cs : List Ct} (hs : Short l) (hc : ∀ c ∈ cs, CtIn l.length c) : ∀ k, k ≤ cs.length → (ctsAcc l base cs k).size ≤ base.size + 511 * k
  | 0, _ => Nat.le_refl _
  | k + 1, hk => by
    have h1 := ctsAcc_size hs hc (base := base) k (by omega)
    have h2 := ctT_size hs (hc _ (List.getElem_mem (by omega : k < cs.length)))
    rw [ctsAcc_at (by omega), ByteArray.size_append]
    have h3 : (ByteArray.mk #[124]).size = 1 := rfl
    split
    · omega
    · rw [ByteArray.size_append]; omega
theorem headT_size (base : ByteArray) (d : Da) (k : Nat) : (headT base d k).size ≤ base.size + d.name.size + 2 := by
  have h3 : (ByteArray.mk #[59]).size = 1 := rfl
  have h4 : (ByteArray.mk #[61]).size = 1 := rfl
  unfold headT
  rw [ByteArray.size_append, ByteArray.size_append]
  split
  · omega
  · rw [ByteArray.size_append]; omega
theorem wAcc_size {l : List Da} (hw : WorldOK l) : ∀ k, k ≤ l.length → (wAcc l k).size ≤ 2200 * k
  | 0, _ => Nat.le_refl _
  | k + 1, hk => by
    have h1 := wAcc_size hw k (by omega)
    have h2 := world_short hw k (by omega)
    have h3 := world_four hw (by omega : k < l.length)
    rw [wAcc_at (by omega)]
    have h4 := ctsAcc_size (base := headT (wAcc l k) l[k] k) (world_short hw) (cs := l[k].ctors) (fun c hc => by
      obtain ⟨m, hm, rfl⟩ := List.getElem_of_mem hc
      exact world_ct_in hw (by omega) hm) l[k].ctors.length (Nat.le_refl _)
    have h5 := headT_size (wAcc l k) l[k] k
    omega
set_option maxHeartbeats 3000000 in
theorem text_any (A : Option Addr) (l : List Da) (cap : Nat) (w : World) (hr : RDas w w.heap.size A l) (hw : WorldOK l) :
    Calls Try.prog 68 #[.slice A l.length cap] w fun e w' => e = .returned (.string (wT l)) ∧ Below w.heap.size w w' := by
  have Hr := Lib.hid hr
  have HW := Lib.hid hw
  have hl4 := hw.1
  have HZ : Hid (∀ k, k ≤ l.length → (wAcc l k).size ≤ 2200 * k) := wAcc_size hw
  have HS := Lib.hid (world_short hw)
  clear hr hw
  go_enter Try.func68, Try.ntmps68
  go_wp2_with fail
  go_loopw [3, 4] (fun t i wr => ∃ k : Nat, k ≤ l.length ∧ i = .int .i64 k ∧ t = .string (wAcc l k) ∧ Below w.heap.size w wr) (fun _ i _ => l.length - (intOf i).toNat)
  case atStart => exact ⟨0, by omega, rfl, rfl, Below.refl _ _⟩
  case round =>
    obtain ⟨k, hk, rfl, rfl, hb⟩ := hrel
    have hz := HZ.out k hk
    by_cases hlt : k < l.length
    · have hkI : (k : Int) < (l.length : Int) := by omega
      obtain ⟨b, off, rfl, hbB, A', cp, c0, c1, hszd, hmd⟩ := (Hr.out.below hb (Nat.le_refl _)).2 k hlt
      have hnm := HS.out k hlt
      have h4 := world_four HW.out hlt
      have HMD : Hid (RCts w w.heap.size A' l[k].ctors) := hmd.keep (fun p hp => (hb.cell hp).symm) (Nat.le_refl _)
      have HAT := Lib.hid (wAcc_at hlt)
      have hhz := headT_size (wAcc l k) l[k] k
      have HCZ : Hid (∀ j, j ≤ l[k].ctors.length → (ctsAcc l (headT (wAcc l k) l[k] k) l[k].ctors j).size ≤ (headT (wAcc l k) l[k] k).size + 511 * j) := ctsAcc_size HS.out (fun c hc => by
        obtain ⟨m, hm, rfl⟩ := List.getElem_of_mem hc
        exact world_ct_in HW.out hlt hm)
      have HC1 : Hid (w.cell? ⟨b, off + k * 2 + 1, none⟩ = some (.slice A' l[k].ctors.length cp)) := (hb.cell (p := ⟨b, off + k * 2 + 1, none⟩) hbB).symm.trans c1
      clear hmd
      have HH : Hid (headT (wAcc l k) l[k] k = ((if k = 0 then wAcc l k else wAcc l k ++ ⟨#[59]⟩) ++ l[k].name) ++ ⟨#[61]⟩) := rfl
      by_cases h0 : k = 0
      all_goals
        first
          | (have q : ¬ (0 : Int) < (k : Int) := by omega
             have q' : (k : Int) ≤ 0 := by omega
             have q'' : decide (0 < k) = false := decide_eq_false (by omega)
             rw [if_pos h0] at HH)
          | (have q' : (0 : Int) < (k : Int) := by omega
             have q'' : decide (0 < k) = true := decide_eq_true (by omega)
             rw [if_neg h0] at HH)
        generalize headT (wAcc l k) l[k] k = h at hhz HAT HCZ HH
        generalize wAcc l k = a at hz HH hhz
        clear h0
        go_wp2_with fail
        obtain ⟨wo, rfl⟩ : ∃ wo : World, wo = wr := ⟨_, rfl⟩
        go_loopw [3, 5] (fun t i wi => ∃ j : Nat, j ≤ l[k].ctors.length ∧ i = .int .i64 j ∧ t = .string (ctsAcc l h l[k].ctors j) ∧ Below w.heap.size w wi) (fun _ i _ => l[k].ctors.length - (intOf i).toNat)
        case atStart => exact ⟨0, by omega, rfl, by rw [show ctsAcc l h l[k].ctors 0 = h from rfl, HH.out], hb⟩
        case round =>
          clear hb c0 c1
          obtain ⟨j, hj, rfl, rfl, hb⟩ := hrel
          have hcz := HCZ.out j hj
          have c1 : wr.cell? ⟨b, off + k * 2 + 1, none⟩ = some (.slice A' l[k].ctors.length cp) := (hb.cell (p := ⟨b, off + k * 2 + 1, none⟩) (by have := block_lt_of_cell HC1.out; simpa using this)).trans HC1.out
          by_cases hjt : j < l[k].ctors.length
          · have hjI : (j : Int) < (l[k].ctors.length : Int) := by omega
            obtain ⟨g, o, rfl, hgB, D1, ep, e0, e1, e2, hszm, hmm⟩ := (HMD.out.below hb (Nat.le_refl _)).2 j hjt
            have HIN := Lib.hid (world_ct_in HW.out hlt hjt)
            have HJ := Lib.hid (ctsAcc_at (l := l) (base := h) hjt)
            have hct := ctT_size HS.out HIN.out
            have HRr : Hid (RDas wr wr.heap.size (some ⟨b, off, none⟩) l) := Hr.out.keep (fun p hp => hb.cell hp) hb.size
            have HMM : Hid (RTys wr wr.heap.size D1 l[k].ctors[j].args) := hmm.keep (fun _ _ => rfl) hb.size
            generalize hu : ctT l l[k].ctors[j] = u at hct HJ
            have HU := Lib.hid hu
            generalize ctsAcc l h l[k].ctors j = a2 at hcz HJ
            clear hu hmm
            by_cases h1 : j = 0
            · have q2 : (j : Int) ≤ 0 := by omega
              rw [if_pos h1] at HJ
              clear h1
              go_wp2_with fail
              refine (ctorText_any _ _ l l[k].ctors[j] _ _ _ HRr.out HMM.out HS.out HIN.out).mono ?_
              rw [HU.out]
              rintro e w1 ⟨rfl, hb1⟩
              have hb2 := below_after hb hb1 hb.size
              go_wp2_with fail
              go_roundw
              case rel => first | exact ⟨j + 1, by omega, by go_num, by rw [HJ.out], hb2⟩ | ((repeat apply Exists.intro); exact ⟨⟨j + 1, by omega, by go_num, by rw [HJ.out], hb2⟩, rfl⟩)
              case measure => simp [intOf]; omega
            · have q2 : (0 : Int) < (j : Int) := by omega
              rw [if_neg h1] at HJ
              clear h1
              go_wp2_with fail
              refine (ctorText_any _ _ l l[k].ctors[j] _ _ _ HRr.out HMM.out HS.out HIN.out).mono ?_
              rw [HU.out]
              rintro e w1 ⟨rfl, hb1⟩
              have hb2 := below_after hb hb1 hb.size
              go_wp2_with fail
              go_roundw
              case rel => first | exact ⟨j + 1, by omega, by go_num, by rw [HJ.out], hb2⟩ | ((repeat apply Exists.intro); exact ⟨⟨j + 1, by omega, by go_num, by rw [HJ.out], hb2⟩, rfl⟩)
              case measure => simp [intOf]; omega
          · have he : j = l[k].ctors.length := by omega
            have hjI : (l[k].ctors.length : Int) ≤ (j : Int) := by omega
            have HE : Hid (ctsAcc l h l[k].ctors j = wAcc l (k + 1)) := by unfold Hid; rw [he, HAT.out]
            clear he
            go_wp2_with fail
            go_roundw
            case rel => exact ⟨k + 1, by omega, by go_num, by rw [HE.out], hb⟩
            case measure => simp [intOf]; omega
    · have he : k = l.length := by omega
      have hkI : (l.length : Int) ≤ (k : Int) := by omega
      have HE : Hid (wAcc l k = wT l) := by unfold Hid wT; rw [he]
      clear he
      go_wp2_with fail
      go_ret
      exact ⟨ret_str HE.out, hb⟩
end Go.Proofs.Ytakhobhmplneeaa
