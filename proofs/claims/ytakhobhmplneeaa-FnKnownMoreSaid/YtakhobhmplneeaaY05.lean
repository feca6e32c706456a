/-
  When a list of data types is a world: the program's function and the document's. No statement is proved here.
-/
import Derived.Test.YtakhobhmplneeaaY04
namespace Go.Proofs.Ytakhobhmplneeaa
open Go.RowKit
set_option maxRecDepth 100000
set_option linter.unusedVariables false
def WorldOK (l : List Da) : Prop := l.length ≤ 4 ∧ AllTo (dataB l.length) l l.length ∧ Differ l
theorem not_world_len {l : List Da} (h : ¬ l.length ≤ 4) : ¬ WorldOK l := fun e => h e.1
theorem not_world_data {l : List Da} {k : Nat} (hk : k < l.length) (h : dataB l.length l[k] = false) : ¬ WorldOK l := fun e => by
  have := e.2.1 k hk hk
  rw [h] at this
  cases this
theorem data_len4 {n : Int} {d : Da} (h : dataB n d = true) : 1 ≤ d.ctors.length ∧ d.ctors.length ≤ 4 := by
  by_cases h' : 1 ≤ d.ctors.length ∧ d.ctors.length ≤ 4
  · exact h'
  · have := data_len (n := n) h'; rw [h] at this; cases this
set_option maxHeartbeats 800000 in
theorem worldValid_impl (A : Option Addr) (l : List Da) (cap : Nat) (w : World) (hr : RDas w w.heap.size A l) :
    Calls Try.prog 56 #[.slice A l.length cap] w fun e w' => e = .returned (.bool (dec (WorldOK l))) ∧ Below w.heap.size w w' := by
  have hn := hr.1
  unfold maxLen at hn
  have Hr := Lib.hid hr
  clear hr
  by_cases h4 : l.length ≤ 4
  · go_enter Try.func56, Try.ntmps56
    go_wp2_with fail
    go_loopw [10] (fun i wr => ∃ k : Nat, k ≤ l.length ∧ i = .int .i64 k ∧ AllTo (dataB l.length) l k ∧ Below w.heap.size w wr) (fun i _ => l.length - (intOf i).toNat)
    case atStart => exact ⟨0, by omega, rfl, AllTo.zero _ _, Below.refl _ _⟩
    case round =>
      obtain ⟨k, hk, rfl, hv, hb⟩ := hrel
      by_cases hlt : k < l.length
      · obtain ⟨b, off, rfl, hbB, A', cp, c0, c1, hsz, hm⟩ := (Hr.out.below hb (Nat.le_refl _)).2 k hlt
        have Hm := Lib.hid hm
        clear hm
        have hbs := hb.size
        by_cases he : dataB l.length l[k] = true
        · go_wp2_with (go_at_call 78; refine (dataValid_any l[k] _ _ _ _ hsz (by exact Hm.out.keep (fun p hp => keep_one _ p (by omega)) (by simp; omega))).mono ?_; rintro e w1 ⟨rfl, hb1⟩; have hb2 := hb.trans ((below_one hb1).mono hb.size))
          go_roundw
          case rel => exact ⟨k + 1, by omega, by go_num, hv.step hlt he, hb2⟩
          case measure => simp [intOf]; omega
        · have he' : dataB l.length l[k] = false := by simpa using he
          have HE := Lib.hid (not_world_data hlt he')
          clear he
          go_wp2_with (go_at_call 78; refine (dataValid_any l[k] _ _ _ _ hsz (by exact Hm.out.keep (fun p hp => keep_one _ p (by omega)) (by simp; omega))).mono ?_; rintro e w1 ⟨rfl, hb1⟩; have hb2 := hb.trans ((below_one hb1).mono hb.size))
          go_ret
          exact ⟨ret_bool (dec_f HE.out).symm, hb2⟩
      · have HV : Hid (AllTo (dataB l.length) l l.length) := fun j h h' => hv j h (by omega)
        clear hv
        go_wp2_with (go_at_call 79; refine (namesDiffer_any _ _ _ _ (by exact Hr.out.keep (fun p hp => hb.cell hp) hb.size) h4 (fun d hd => (data_len4 (HV.out d hd hd)).2)).mono ?_; rintro e w1 ⟨rfl, hb1⟩; have hb2 := hb.trans (hb1.mono hb.size))
        go_ret
        refine ⟨ret_bool (dec_congr ⟨fun h => ⟨h4, HV.out, h⟩, fun h => h.2.2⟩), hb2⟩
  · have HE := Lib.hid (not_world_len h4)
    go_enter Try.func56, Try.ntmps56
    go_wp2_with fail
    go_ret
    exact ⟨ret_bool (dec_f HE.out).symm, Below.refl _ _⟩
/-- What the document's function has seen before data type d, and before its constructor k. -/
def Seen (l : List Da) (d : Nat) : Prop := ∀ a (h : a < l.length), a < d → dataB l.length l[a] = true ∧ ∀ m (hm : m < l[a].ctors.length), ¬ Tw l a m
def SeenC (l : List Da) (d : Nat) (hd : d < l.length) (k : Nat) : Prop := ∀ m (hm : m < l[d].ctors.length), m < k → ctorB l.length l[d].ctors[m] = true ∧ ¬ Tw l d m
theorem Seen.zero (l : List Da) : Seen l 0 := fun a _ h => absurd h (by omega)
theorem SeenC.zero (l : List Da) (d : Nat) (hd : d < l.length) : SeenC l d hd 0 := fun a _ h => absurd h (by omega)
theorem SeenC.step {l : List Da} {d : Nat} {hd : d < l.length} {k : Nat} (h : SeenC l d hd k) (hk : k < l[d].ctors.length) (h1 : ctorB l.length l[d].ctors[k] = true) (h2 : ¬ Tw l d k) : SeenC l d hd (k + 1) := by
  intro m hm hmk
  by_cases e : m = k
  · subst e; exact ⟨h1, h2⟩
  · exact h m hm (by omega)
theorem Seen.step {l : List Da} {d : Nat} (h : Seen l d) (hd : d < l.length) (h1 : dnameB l[d].name = true) (h2 : 1 ≤ l[d].ctors.length ∧ l[d].ctors.length ≤ 4) (h3 : SeenC l d hd l[d].ctors.length) : Seen l (d + 1) := by
  intro a ha had
  by_cases e : a = d
  · subst e
    exact ⟨(data_good h1 h2 (AllTo.all (k := l[a].ctors.length) (fun j hj _ => (h3 j hj hj).1) (Nat.le_refl _))).symm, fun m hm => (h3 m hm hm).2⟩
  · exact h a ha (by omega)
theorem Seen.done {l : List Da} (h4 : l.length ≤ 4) (h : Seen l l.length) : WorldOK l := by
  refine ⟨h4, fun j hj _ => (h j hj hj).1, fun d hd _ => ?_⟩
  have hl := (data_len4 (h d hd hd).1).1
  exact ⟨fun e => (h d hd hd).2 0 hl ⟨hd, .inl e⟩, fun j hj _ e => (h d hd hd).2 j hj ⟨hd, .inr ⟨hj, e⟩⟩⟩
theorem not_world_tw {l : List Da} {d k : Nat} (hd : d < l.length) (hk : k < l[d].ctors.length) (e : Tw l d k) : ¬ WorldOK l := by
  rintro ⟨_, _, h⟩
  obtain ⟨_, e | ⟨_, e⟩⟩ := e
  · exact (h d hd hd).1 e
  · exact (h d hd hd).2 k hk hk e
theorem not_world_ctor {l : List Da} {d k : Nat} (hd : d < l.length) (hk : k < l[d].ctors.length) (e : ctorB l.length l[d].ctors[k] = false) : ¬ WorldOK l :=
  not_world_data hd (data_bad (all_bad hk e)).symm
end Go.Proofs.Ytakhobhmplneeaa
/-
  When a list of data types is a world: the document's function. No statement is proved here.
-/
namespace Go.Proofs.Ytakhobhmplneeaa
open Go.RowKit
set_option maxRecDepth 100000
set_option linter.unusedVariables false
set_option maxHeartbeats 1600000 in
theorem worldValid_spec (A : Option Addr) (l : List Da) (cap : Nat) (w : World) (hr : RDas w w.heap.size A l) :
    Calls Try.prog 52 #[.slice A l.length cap] w fun e w' => e = .returned (.bool (dec (WorldOK l))) ∧ Below w.heap.size w w' := by
  have hn := hr.1
  unfold maxLen at hn
  have Hr := Lib.hid hr
  clear hr
  by_cases h4 : l.length ≤ 4
  · go_enter Try.func52, Try.ntmps52
    go_wp2_with fail
    go_loopw [3] (fun i wr => ∃ d : Nat, d ≤ l.length ∧ i = .int .i64 d ∧ Seen l d ∧ Below w.heap.size w wr) (fun i _ => l.length - (intOf i).toNat)
    case atStart => exact ⟨0, by omega, rfl, Seen.zero l, Below.refl _ _⟩
    case round =>
      obtain ⟨d, hd, rfl, hv, hb⟩ := hrel
      by_cases hlt : d < l.length
      · have hdI : (d : Int) < (l.length : Int) := by omega
        obtain ⟨b, off, rfl, hbB, A', cp, c0, c1, hsz, hm⟩ := (Hr.out.below hb (Nat.le_refl _)).2 d hlt
        have hnl := hm.1
        unfold maxLen at hnl
        have Hm := Lib.hid (hm.keep (w' := w) (fun p hp => (hb.cell hp).symm) (Nat.le_refl _))
        have HC1 := Lib.hid ((hb.cell (p := ⟨b, off + d * 2 + 1, none⟩) hbB).symm.trans c1)
        clear hm
        by_cases h1 : dnameB l[d].name = true
        · by_cases h2 : 1 ≤ l[d].ctors.length
          · have q0 : ((l[d].ctors.length : Int) == 0) = false := beq_eq_false_iff_ne.2 (by omega)
            by_cases h3 : l[d].ctors.length ≤ 4
            · have q4 : decide ((4 : Int) < l[d].ctors.length) = false := by simp; omega
              go_wp2_with (go_at_call 71; refine (l1Data_any _ _ hsz).mono ?_; rintro e w' ⟨rfl, rfl⟩)
              go_loopw [4] (fun i wi => ∃ k : Nat, k ≤ l[d].ctors.length ∧ i = .int .i64 k ∧ SeenC l d hlt k ∧ Below w.heap.size w wi) (fun i _ => l[d].ctors.length - (intOf i).toNat)
              case atStart => exact ⟨0, by omega, rfl, SeenC.zero l d hlt, hb⟩
              case round =>
                obtain ⟨k, hk, rfl, hvc, hbi⟩ := hrel
                clear hb c0 c1
                have c1 := (hbi.cell (p := ⟨b, off + d * 2 + 1, none⟩) hbB).trans HC1.out
                by_cases hkt : k < l[d].ctors.length
                · have hkI : (k : Int) < (l[d].ctors.length : Int) := by omega
                  obtain ⟨g, o, rfl, hgB, D1, ep, e0, e1, e2, hszk, hmk⟩ := (Hm.out.below hbi (Nat.le_refl _)).2 k hkt
                  have Hmk := Lib.hid (hmk.keep (fun _ _ => rfl) hbi.size)
                  clear hmk
                  by_cases he : ctorB l.length l[d].ctors[k] = true
                  · by_cases ht : Tw l d k
                    · have HT := Lib.hid (not_world_tw hlt hkt ht)
                      have hq := dec_t ht
                      clear ht
                      go_wp2_with (first | (go_at_call 72; refine (l1Ctor_any l[d].ctors[k] _ _ _ _ hszk Hmk.out).mono ?_; rintro e w1 ⟨rfl, hb1⟩; have hb2 := hbi.trans (hb1.mono hbi.size)) | (go_at_call 73; refine (twice_any _ l _ d k hlt hkt _ (Hr.out.keep (fun p hp => hb2.cell hp) hb2.size)).mono ?_; rintro e w2 ⟨rfl, hb1'⟩; have hb3 := hb2.trans (hb1'.mono hb2.size)))
                      go_ret
                      exact ⟨ret_bool (dec_f HT.out).symm, hb3⟩
                    · have HT := Lib.hid ht
                      have hq := dec_f ht
                      clear ht
                      go_wp2_with (first | (go_at_call 72; refine (l1Ctor_any l[d].ctors[k] _ _ _ _ hszk Hmk.out).mono ?_; rintro e w1 ⟨rfl, hb1⟩; have hb2 := hbi.trans (hb1.mono hbi.size)) | (go_at_call 73; refine (twice_any _ l _ d k hlt hkt _ (Hr.out.keep (fun p hp => hb2.cell hp) hb2.size)).mono ?_; rintro e w2 ⟨rfl, hb1'⟩; have hb3 := hb2.trans (hb1'.mono hb2.size)))
                      go_roundw
                      case rel => exact ⟨k + 1, by omega, by go_num, hvc.step hkt he HT.out, hb3⟩
                      case measure => simp [intOf]; omega
                  · have he' : ctorB l.length l[d].ctors[k] = false := by simpa using he
                    have HT := Lib.hid (not_world_ctor hlt hkt he')
                    clear he
                    go_wp2_with (go_at_call 72; refine (l1Ctor_any l[d].ctors[k] _ _ _ _ hszk Hmk.out).mono ?_; rintro e w1 ⟨rfl, hb1⟩; have hb2 := hbi.trans (hb1.mono hbi.size))
                    go_ret
                    exact ⟨ret_bool (dec_f HT.out).symm, hb2⟩
                · have HV : Hid (SeenC l d hlt l[d].ctors.length) := fun m hm _ => hvc m hm (by omega)
                  go_wp2_with fail
                  go_roundw
                  case rel => exact ⟨d + 1, by omega, by go_num, hv.step hlt h1 ⟨h2, h3⟩ HV.out, hbi⟩
                  case measure => simp [intOf]; omega
            · have q4 : (4 : Int) < l[d].ctors.length := by omega
              have HT := Lib.hid (not_world_data hlt (data_len (n := l.length) (d := l[d]) (by omega)).symm)
              go_wp2_with (go_at_call 71; refine (l1Data_any _ _ hsz).mono ?_; rintro e w' ⟨rfl, rfl⟩)
              go_ret
              exact ⟨ret_bool (dec_f HT.out).symm, hb⟩
          · have q0 : ((l[d].ctors.length : Int) == 0) = true := beq_iff_eq.2 (by omega)
            have HT := Lib.hid (not_world_data hlt (data_len (n := l.length) (d := l[d]) (by omega)).symm)
            go_wp2_with (go_at_call 71; refine (l1Data_any _ _ hsz).mono ?_; rintro e w' ⟨rfl, rfl⟩)
            go_ret
            exact ⟨ret_bool (dec_f HT.out).symm, hb⟩
        · have h1' : dnameB l[d].name = false := by simpa using h1
          have HT := Lib.hid (not_world_data hlt (data_name (n := l.length) h1').symm)
          clear h1
          go_wp2_with (go_at_call 71; refine (l1Data_any _ _ hsz).mono ?_; rintro e w' ⟨rfl, rfl⟩)
          go_ret
          exact ⟨ret_bool (dec_f HT.out).symm, hb⟩
      · have HV : Hid (Seen l l.length) := fun a ha _ => hv a ha (by omega)
        go_wp2_with fail
        go_ret
        exact ⟨ret_bool (dec_t (HV.out.done h4)).symm, hb⟩
  · have HE := Lib.hid (not_world_len h4)
    go_enter Try.func52, Try.ntmps52
    go_wp2_with fail
    go_ret
    exact ⟨ret_bool (dec_f HE.out).symm, Below.refl _ _⟩
end Go.Proofs.Ytakhobhmplneeaa
/-
  When a type is one of a world: the program's function and the document's. No statement is proved here.
-/
namespace Go.Proofs.Ytakhobhmplneeaa
open Go.RowKit
set_option maxRecDepth 100000
set_option linter.unusedVariables false
theorem arg_zero (n : Int) (t : Ty) : (argB n (-1) t && decide (0 ≤ t.index)) = argB n 0 t := by
  obtain ⟨d, i⟩ := t
  unfold argB
  by_cases h0 : d = -1
  · simp only [h0, if_true]
    by_cases h1 : i = 0
    · subst h1; rfl
    · rw [decide_eq_false h1]; rfl
  · simp only [if_neg h0]
    by_cases h1 : 0 ≤ d ∧ d < n ∧ 0 ≤ i ∧ i ≤ 3
    · rw [decide_eq_true h1, decide_eq_true (show 0 ≤ d ∧ d < n ∧ -1 ≤ i ∧ i ≤ 3 by omega), decide_eq_true (show 0 ≤ i by omega)]; rfl
    · rw [decide_eq_false h1]
      by_cases h2 : 0 ≤ i
      · rw [decide_eq_false (show ¬ (0 ≤ d ∧ d < n ∧ -1 ≤ i ∧ i ≤ 3) by omega)]; rfl
      · rw [decide_eq_false h2]; simp
def TyOK (l : List Da) (t : Ty) : Prop := WorldOK l ∧ argB l.length 0 t = true
theorem l1Is_any (A : Option Addr) (n cap : Nat) (t : Ty) (w : World) (hn : n ≤ maxLen) :
    Calls Try.prog 53 #[.slice A n cap, .agg #[.int .i64 t.data, .int .i64 t.index]] w fun e w' => e = .returned (.bool (argB n 0 t)) ∧ Below w.heap.size w w' := by
  unfold maxLen at hn
  have H := Lib.hid (arg_zero n t)
  by_cases h1 : argB n (-1) t = true
  · by_cases h2 : 0 ≤ t.index
    · have HT : Hid (argB n 0 t = true) := by unfold Hid; rw [← H.out, h1, decide_eq_true h2]; rfl
      go_enter Try.func53, Try.ntmps53
      go_wp2_with (go_at_call 74; refine (arg_any _ _ _ _).mono ?_; rintro e w1 ⟨rfl, hb⟩; obtain ⟨hc, hfz⟩ := bcell hb)
      go_ret
      exact ⟨ret_bool HT.out.symm, below_one hb⟩
    · have HT : Hid (argB n 0 t = false) := by unfold Hid; rw [← H.out, decide_eq_false h2]; simp
      go_enter Try.func53, Try.ntmps53
      go_wp2_with (go_at_call 74; refine (arg_any _ _ _ _).mono ?_; rintro e w1 ⟨rfl, hb⟩; obtain ⟨hc, hfz⟩ := bcell hb)
      go_ret
      exact ⟨ret_bool (by rw [HT.out]; exact decide_eq_false (by omega)), below_one hb⟩
  · have h1' : argB n (-1) t = false := by simpa using h1
    have HT : Hid (argB n 0 t = false) := by unfold Hid; rw [← H.out, h1']; rfl
    clear h1
    go_enter Try.func53, Try.ntmps53
    go_wp2_with (go_at_call 74; refine (arg_any _ _ _ _).mono ?_; rintro e w1 ⟨rfl, hb⟩; obtain ⟨hc, hfz⟩ := bcell hb)
    go_ret
    exact ⟨ret_bool HT.out.symm, below_one hb⟩
theorem typeValid_spec (A : Option Addr) (l : List Da) (cap : Nat) (t : Ty) (w : World) (hr : RDas w w.heap.size A l) :
    Calls Try.prog 35 #[.slice A l.length cap, .agg #[.int .i64 t.data, .int .i64 t.index]] w fun e w' => e = .returned (.bool (dec (TyOK l t))) ∧ Below w.heap.size w w' := by
  have hn := hr.1
  have Hr := Lib.hid hr
  clear hr
  by_cases hw : WorldOK l
  · have hq := dec_t hw
    have HW := Lib.hid hw
    clear hw
    go_enter Try.func35, Try.ntmps35
    go_wp2_with (first | (go_at_call 52; refine (worldValid_spec _ _ _ _ (by exact Hr.out.keep (keep_one _) (by simp))).mono ?_; rintro e w1 ⟨rfl, hb⟩; obtain ⟨hc, hfz⟩ := bcell hb; have hb1 := below_one hb) | (go_at_call 53; refine (l1Is_any _ _ _ t _ hn).mono ?_; rintro e w2 ⟨rfl, hb2'⟩; have hb2 := hb1.trans (hb2'.mono hb1.size)))
    go_ret
    refine ⟨ret_bool ?_, hb2⟩
    by_cases h2 : argB l.length 0 t = true
    · rw [h2, dec_t (show TyOK l t from ⟨HW.out, h2⟩)]
    · rw [dec_f (show ¬ TyOK l t from fun h => h2 h.2)]; simpa using h2
  · have hq := dec_f hw
    have HW := Lib.hid hw
    clear hw
    go_enter Try.func35, Try.ntmps35
    go_wp2_with (go_at_call 52; refine (worldValid_spec _ _ _ _ (by exact Hr.out.keep (keep_one _) (by simp))).mono ?_; rintro e w1 ⟨rfl, hb⟩; obtain ⟨hc, hfz⟩ := bcell hb; have hb1 := below_one hb)
    go_ret
    exact ⟨ret_bool (dec_f (show ¬ TyOK l t from fun h => HW.out h.1)).symm, hb1⟩
theorem typeValid_impl (A : Option Addr) (l : List Da) (cap : Nat) (t : Ty) (w : World) (hr : RDas w w.heap.size A l) :
    Calls Try.prog 37 #[.slice A l.length cap, .agg #[.int .i64 t.data, .int .i64 t.index]] w fun e w' => e = .returned (.bool (dec (TyOK l t))) ∧ Below w.heap.size w w' := by
  have hn := hr.1
  have Hr := Lib.hid hr
  clear hr
  by_cases hw : WorldOK l
  · have hq := dec_t hw
    have HW := Lib.hid hw
    clear hw
    go_enter Try.func37, Try.ntmps37
    go_wp2_with (first | (go_at_call 56; refine (worldValid_impl _ _ _ _ (by exact Hr.out.keep (keep_one _) (by simp))).mono ?_; rintro e w1 ⟨rfl, hb⟩; obtain ⟨hc, hfz⟩ := bcell hb; have hb1 := below_one hb) | (go_at_call 57; refine (within_any _ _ _ _ _).mono ?_; rintro e w2 ⟨rfl, hb2'⟩; have hb2 := hb1.trans (hb2'.mono hb1.size)))
    go_ret
    refine ⟨ret_bool ?_, hb2⟩
    by_cases h2 : argB l.length 0 t = true
    · exact (show argB l.length 0 t = dec (TyOK l t) by rw [h2, dec_t (show TyOK l t from ⟨HW.out, h2⟩)])
    · exact (show argB l.length 0 t = dec (TyOK l t) by rw [dec_f (show ¬ TyOK l t from fun h => h2 h.2)]; simpa using h2)
  · have hq := dec_f hw
    have HW := Lib.hid hw
    clear hw
    go_enter Try.func37, Try.ntmps37
    go_wp2_with (go_at_call 56; refine (worldValid_impl _ _ _ _ (by exact Hr.out.keep (keep_one _) (by simp))).mono ?_; rintro e w1 ⟨rfl, hb⟩; obtain ⟨hc, hfz⟩ := bcell hb; have hb1 := below_one hb)
    go_ret
    exact ⟨ret_bool (dec_f (show ¬ TyOK l t from fun h => HW.out h.1)).symm, hb1⟩
end Go.Proofs.Ytakhobhmplneeaa
