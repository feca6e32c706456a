/-
  When a name stands twice: the document's function. No statement is proved here.
-/
import Derived.Test.YtnfjjabeobcenaaU02
import Derived.BigQuiet
import Derived.Deep.QuietTactic
import Derived.Laws.AppendOwn
import Derived.Laws.OwnMore
namespace Go.Proofs.Ytnfjjabeobcenaa
open Go.RowKit
set_option maxRecDepth 100000
set_option linter.unusedVariables false
theorem toList_inj {a b : ByteArray} (h : a.toList = b.toList) : a = b := Go.WideShapes.bytes_inj (by rw [← ByteArray.toList_eq, ← ByteArray.toList_eq]; exact h)
theorem str_eq_f {a b : ByteArray} (h : ¬ a = b) : (a.toList == b.toList) = false := beq_eq_false_iff_ne.2 (fun e => h (toList_inj e))
theorem below_drawn {B : Nat} {w wr : World} (h : Below B w wr) (n : Nat) : Below B w (wr.drewN n) := ⟨h.os, h.tape, h.output, h.size, h.block⟩
def Tw (l : List Da) (d k : Nat) : Prop := ∃ h : d < l.length, SD l d (bs l[d].name) ∨ ∃ hk : k < l[d].ctors.length, SC l d k (bs l[d].ctors[k].name)
/-- Nothing before data type i is a twin; nothing of it before place j. -/
def NoT (l : List Da) (d : Nat) (hd : d < l.length) (k : Nat) (hk : k < l[d].ctors.length) (i : Nat) : Prop :=
  ∀ a (h : a < l.length), a < i → (a < d → ¬ l[a].name = l[d].name) ∧ ∀ m (hm : m < l[a].ctors.length), (a < d ∨ (a = d ∧ m < k)) → ¬ l[a].ctors[m].name = l[d].ctors[k].name
def NoTI (l : List Da) (d : Nat) (hd : d < l.length) (k : Nat) (hk : k < l[d].ctors.length) (i : Nat) (hi : i < l.length) (j : Nat) : Prop :=
  ∀ m (hm : m < l[i].ctors.length), m < j → (i < d ∨ (i = d ∧ m < k)) → ¬ l[i].ctors[m].name = l[d].ctors[k].name
section
variable {l : List Da} {d : Nat} {hd : d < l.length} {k : Nat} {hk : k < l[d].ctors.length} {i : Nat} {hi : i < l.length} {j : Nat}
theorem NoT.zero : NoT l d hd k hk 0 := fun a _ h => absurd h (by omega)
theorem NoTI.zero : NoTI l d hd k hk i hi 0 := fun a _ h => absurd h (by omega)
theorem NoT.step (h : NoT l d hd k hk i) (h1 : i < d → ¬ l[i].name = l[d].name) (h2 : ∀ m (hm : m < l[i].ctors.length), (i < d ∨ (i = d ∧ m < k)) → ¬ l[i].ctors[m].name = l[d].ctors[k].name) : NoT l d hd k hk (i + 1) := by
  intro a ha hai
  by_cases e : a = i
  · subst e; exact ⟨h1, h2⟩
  · exact h a ha (by omega)
theorem NoTI.step (h : NoTI l d hd k hk i hi j) (hj : j < l[i].ctors.length) (e : ¬ l[i].ctors[j].name = l[d].ctors[k].name) : NoTI l d hd k hk i hi (j + 1) := by
  intro m hm hmj hc
  by_cases e' : m = j
  · subst e'; exact e
  · exact h m hm (by omega) hc
theorem NoT.done (h : NoT l d hd k hk (d + 1)) : ¬ Tw l d k := by
  rintro ⟨_, ⟨a, ha, had, e⟩ | ⟨_, a, ha, m, hm, hc, e⟩⟩
  · exact (h a ha (by omega)).1 had (Go.WideShapes.bytes_inj e)
  · exact (h a ha (by omega)).2 m hm hc (Go.WideShapes.bytes_inj e)
theorem tw_d (hid : i < d) (hi : i < l.length) (hd : d < l.length) (e : l[i].name = l[d].name) : Tw l d k := ⟨hd, .inl ⟨i, hi, hid, by rw [e]⟩⟩
theorem tw_c (hi : i < l.length) (hd : d < l.length) (hk : k < l[d].ctors.length) (hj : j < l[i].ctors.length) (hc : i < d ∨ (i = d ∧ j < k)) (e : l[i].ctors[j].name = l[d].ctors[k].name) : Tw l d k :=
  ⟨hd, .inr ⟨hk, i, hi, j, hj, hc, by rw [e]⟩⟩
end
set_option maxHeartbeats 2000000 in
theorem twice_any (A : Option Addr) (l : List Da) (cap : Nat) (d k : Nat) (hd : d < l.length) (hk : k < l[d].ctors.length) (w : World) (hr : RDas w w.heap.size A l) :
    Calls Try.prog 72 #[.slice A l.length cap, .int .i64 d, .int .i64 k] w fun e w' => e = .returned (.bool (dec (Tw l d k))) ∧ Below w.heap.size w w' := by
  have hn := hr.1
  unfold maxLen at hn
  obtain ⟨b, off, rfl, hbB, A', cp, c0, c1, hszd, hmd⟩ := hr.2 d hd
  have hnd := hmd.1
  unfold maxLen at hnd
  obtain ⟨g, o, rfl, hgB, D1, ep, f0, f1, f2, hszk, _⟩ := hmd.2 k hk
  have Hr := Lib.hid hr
  have HMD := Lib.hid hmd
  clear hr hmd
  have HC0 := Lib.hid c0
  have HC1 := Lib.hid c1
  have HF0 := Lib.hid f0
  clear c0 c1 f0 f1 f2
  have hdI : (d : Int) < (l.length : Int) := by omega
  have hkI : (k : Int) < (l[d].ctors.length : Int) := by omega
  go_enter Try.func72, Try.ntmps72
  go_wp2_with fail
  go_loopw [7] (fun x wr => ∃ i : Nat, i ≤ d + 1 ∧ x = .int .i64 i ∧ NoT l d hd k hk i ∧ Below w.heap.size w wr) (fun x _ => d + 1 - (intOf x).toNat)
  case atStart => exact ⟨0, by omega, rfl, NoT.zero, Below.refl _ _⟩
  case round =>
    obtain ⟨i, hi, rfl, hno, hb⟩ := hrel
    have c0 := (hb.cell (p := ⟨b, off + d * 2, none⟩) hbB).trans HC0.out
    have c1 := (hb.cell (p := ⟨b, off + d * 2 + 1, none⟩) hbB).trans HC1.out
    have f0 := (hb.cell (p := ⟨g, o + k * 3, none⟩) hgB).trans HF0.out
    have HB2 : Hid (∀ n, Below w.heap.size w (wr.drewN n)) := fun n => below_drawn hb n
    by_cases hid : i < d
    · have hil : i < l.length := by omega
      have hiI : (i : Int) < (l.length : Int) := by omega
      obtain ⟨b', off', e', hbB', Ai, cpi, p0, p1, hszi, hmi⟩ := (Hr.out.below hb (Nat.le_refl _)).2 i hil
      cases e'
      have hni := hmi.1
      unfold maxLen at hni
      have Hmi := Lib.hid (hmi.keep (w' := w) (fun p hp => (hb.cell hp).symm) (Nat.le_refl _))
      have HP1 := Lib.hid ((hb.cell (p := ⟨b, off + i * 2 + 1, none⟩) hbB).symm.trans p1)
      clear hmi
      by_cases hne : l[i].name = l[d].name
      · have HT := Lib.hid (tw_d (k := k) hid hil hd hne)
        rw [hne] at p0
        clear hne
        go_wp2_with fail
        go_quiet (fail)
        go_wp2_with fail
        go_ret
        exact ⟨ret_bool (dec_t HT.out).symm, HB2.out _⟩
      · have s1 := str_eq_f hne
        have s1' : ¬ l[i].name.toList = l[d].name.toList := fun e => hne (toList_inj e)
        have HN := Lib.hid hne
        clear hne
        go_wp2_with fail
        go_quiet (fail)
        go_wp2_with fail
        go_loopw [8] (fun x wi => ∃ j : Nat, j ≤ l[i].ctors.length ∧ x = .int .i64 j ∧ NoTI l d hd k hk i hil j ∧ Below w.heap.size w wi) (fun x _ => l[i].ctors.length - (intOf x).toNat)
        case atStart => exact ⟨0, by omega, rfl, NoTI.zero, HB2.out _⟩
        case round =>
          obtain ⟨j, hj, rfl, hni2, hbi⟩ := hrel
          clear c0 c1 f0 p0 p1 HB2 hb s1 s1'
          have c1 := (hbi.cell (p := ⟨b, off + d * 2 + 1, none⟩) hbB).trans HC1.out
          have p1 := (hbi.cell (p := ⟨b, off + i * 2 + 1, none⟩) hbB).trans HP1.out
          have f0 := (hbi.cell (p := ⟨g, o + k * 3, none⟩) hgB).trans HF0.out
          have HB3 : Hid (∀ n, Below w.heap.size w (wr.drewN n)) := fun n => below_drawn hbi n
          by_cases hjt : j < l[i].ctors.length
          · have hjI : (j : Int) < (l[i].ctors.length : Int) := by omega
            obtain ⟨g', o', rfl, hgB', D2, ep2, e0, e1, e2, _, _⟩ := (Hmi.out.below hbi (Nat.le_refl _)).2 j hjt
            clear e1 e2
            by_cases hne : l[i].ctors[j].name = l[d].ctors[k].name
            · have HT := Lib.hid (tw_c hil hd hk hjt (.inl hid) hne)
              rw [hne] at e0
              clear hne
              go_wp2_with fail
              go_quiet (fail)
              go_wp2_with fail
              go_ret
              exact ⟨ret_bool (dec_t HT.out).symm, HB3.out _⟩
            · have s1 := str_eq_f hne
              have s1' : ¬ l[i].ctors[j].name.toList = l[d].ctors[k].name.toList := fun e => hne (toList_inj e)
              have HN2 := Lib.hid hne
              clear hne
              go_wp2_with fail
              go_quiet (fail)
              go_wp2_with fail
              go_roundw
              case rel => exact ⟨j + 1, by omega, by go_num, hni2.step hjt HN2.out, HB3.out _⟩
              case measure => simp [intOf]; omega
          · go_wp2_with fail
            go_roundw
            case rel => exact ⟨i + 1, by omega, by go_num, hno.step (fun _ => HN.out) (fun m hm hc => hni2 m hm (by omega) hc), hbi⟩
            case measure => simp [intOf]; omega
    · by_cases hie : i = d
      · obtain rfl : d = i := hie.symm
        clear hie
        have hdd : decide ((d : Int) < (d : Int)) = false := by simp
        clear c0 f0
        go_wp2_with fail
        go_quiet (fail)
        go_wp2_with fail
        go_loopw [8] (fun x wi => ∃ j : Nat, j ≤ k ∧ x = .int .i64 j ∧ NoTI l d hd k hk d hd j ∧ Below w.heap.size w wi) (fun x _ => k - (intOf x).toNat)
        case atStart => exact ⟨0, by omega, rfl, NoTI.zero, HB2.out _⟩
        case round =>
          obtain ⟨j, hj, rfl, hni2, hbi⟩ := hrel
          clear HB2 hb c1
          have f0 := (hbi.cell (p := ⟨g, o + k * 3, none⟩) hgB).trans HF0.out
          have c1 := (hbi.cell (p := ⟨b, off + d * 2 + 1, none⟩) hbB).trans HC1.out
          have HB3 : Hid (∀ n, Below w.heap.size w (wr.drewN n)) := fun n => below_drawn hbi n
          by_cases hjt : j < k
          · have hjl : j < l[d].ctors.length := by omega
            have hjI : (j : Int) < (l[d].ctors.length : Int) := by omega
            have hjK : (j : Int) < (k : Int) := by omega
            obtain ⟨g', o', e', hgB', D2, ep2, e0, e1, e2, _, _⟩ := (HMD.out.below hbi (Nat.le_refl _)).2 j hjl
            cases e'
            clear e1 e2
            by_cases hne : l[d].ctors[j].name = l[d].ctors[k].name
            · have HT := Lib.hid (tw_c (i := d) hd hd hk hjl (.inr ⟨rfl, hjt⟩) hne)
              rw [hne] at e0
              clear hne
              go_wp2_with fail
              go_quiet (fail)
              go_wp2_with fail
              go_ret
              exact ⟨ret_bool (dec_t HT.out).symm, HB3.out _⟩
            · have s1 := str_eq_f hne
              have s1' : ¬ l[d].ctors[j].name.toList = l[d].ctors[k].name.toList := fun e => hne (toList_inj e)
              have HN2 := Lib.hid hne
              clear hne
              go_wp2_with fail
              go_quiet (fail)
              go_wp2_with fail
              go_roundw
              case rel => exact ⟨j + 1, by omega, by go_num, hni2.step hjl HN2.out, HB3.out _⟩
              case measure => simp [intOf]; omega
          · have hjI : (j : Int) < (l[d].ctors.length : Int) := by omega
            have hjK : decide ((j : Int) < (k : Int)) = false := by simp; omega
            go_wp2_with fail
            go_roundw
            case rel => exact ⟨d + 1, by omega, by go_num, hno.step (fun h => absurd h (by omega)) (fun m hm hc => hni2 m hm (by omega) hc), hbi⟩
            case measure => simp [intOf]
      · have hi1 : i = d + 1 := by omega
        have HD : Hid (NoT l d hd k hk (d + 1)) := by rw [← hi1]; exact hno
        have hgt : (d : Int) < (i : Int) := by omega
        clear hi1 c0 c1 f0
        go_wp2_with fail
        go_ret
        exact ⟨ret_bool (dec_f HD.out.done).symm, hb⟩
end Go.Proofs.Ytnfjjabeobcenaa
/-
  When a list of data types is a world: the program's function and the document's. No statement is proved here.
-/
namespace Go.Proofs.Ytnfjjabeobcenaa
open Go.RowKit
set_option maxRecDepth 100000
set_option linter.unusedVariables false
def WorldOK (l : List Da) : Prop := l.length ≤ 4 ∧ AllTo (dataB l.length) l l.length ∧ Differ l
theorem not_world_len {l : List Da} (h : ¬ l.length ≤ 4) : ¬ WorldOK l := fun e => h e.1
theorem not_world_data {l : List Da} {k : Nat} (hk : k < l.length) (h : dataB l.length l[k] = false) : ¬ WorldOK l := fun e => by
  have := e.2.1 k hk hk
  rw [h] at this
  cases this
theorem data_len4 {n : Int} {d : Da} (h : dataB n d = true) : 1 ≤ d.ctors.length ∧ d.ctors.length ≤ 4 := by
  by_cases h' : 1 ≤ d.ctors.length ∧ d.ctors.length ≤ 4
  · exact h'
  · have := data_len (n := n) h'; rw [h] at this; cases this
set_option maxHeartbeats 800000 in
theorem worldValid_impl (A : Option Addr) (l : List Da) (cap : Nat) (w : World) (hr : RDas w w.heap.size A l) :
    Calls Try.prog 78 #[.slice A l.length cap] w fun e w' => e = .returned (.bool (dec (WorldOK l))) ∧ Below w.heap.size w w' := by
  have hn := hr.1
  unfold maxLen at hn
  have Hr := Lib.hid hr
  clear hr
  by_cases h4 : l.length ≤ 4
  · go_enter Try.func78, Try.ntmps78
    go_wp2_with fail
    go_loopw [10] (fun i wr => ∃ k : Nat, k ≤ l.length ∧ i = .int .i64 k ∧ AllTo (dataB l.length) l k ∧ Below w.heap.size w wr) (fun i _ => l.length - (intOf i).toNat)
    case atStart => exact ⟨0, by omega, rfl, AllTo.zero _ _, Below.refl _ _⟩
    case round =>
      obtain ⟨k, hk, rfl, hv, hb⟩ := hrel
      by_cases hlt : k < l.length
      · obtain ⟨b, off, rfl, hbB, A', cp, c0, c1, hsz, hm⟩ := (Hr.out.below hb (Nat.le_refl _)).2 k hlt
        have Hm := Lib.hid hm
        clear hm
        have hbs := hb.size
        by_cases he : dataB l.length l[k] = true
        · go_wp2_with (go_at_call 95; refine (dataValid_any l[k] _ _ _ _ hsz (by exact Hm.out.keep (fun p hp => keep_one _ p (by omega)) (by simp; omega))).mono ?_; rintro e w1 ⟨rfl, hb1⟩; have hb2 := hb.trans ((below_one hb1).mono hb.size))
          go_roundw
          case rel => exact ⟨k + 1, by omega, by go_num, hv.step hlt he, hb2⟩
          case measure => simp [intOf]; omega
        · have he' : dataB l.length l[k] = false := by simpa using he
          have HE := Lib.hid (not_world_data hlt he')
          clear he
          go_wp2_with (go_at_call 95; refine (dataValid_any l[k] _ _ _ _ hsz (by exact Hm.out.keep (fun p hp => keep_one _ p (by omega)) (by simp; omega))).mono ?_; rintro e w1 ⟨rfl, hb1⟩; have hb2 := hb.trans ((below_one hb1).mono hb.size))
          go_ret
          exact ⟨ret_bool (dec_f HE.out).symm, hb2⟩
      · have HV : Hid (AllTo (dataB l.length) l l.length) := fun j h h' => hv j h (by omega)
        clear hv
        go_wp2_with (go_at_call 96; refine (namesDiffer_any _ _ _ _ (by exact Hr.out.keep (fun p hp => hb.cell hp) hb.size) h4 (fun d hd => (data_len4 (HV.out d hd hd)).2)).mono ?_; rintro e w1 ⟨rfl, hb1⟩; have hb2 := hb.trans (hb1.mono hb.size))
        go_ret
        refine ⟨ret_bool (dec_congr ⟨fun h => ⟨h4, HV.out, h⟩, fun h => h.2.2⟩), hb2⟩
  · have HE := Lib.hid (not_world_len h4)
    go_enter Try.func78, Try.ntmps78
    go_wp2_with fail
    go_ret
    exact ⟨ret_bool (dec_f HE.out).symm, Below.refl _ _⟩
/-- What the document's function has seen before data type d, and before its constructor k. -/
def Seen (l : List Da) (d : Nat) : Prop := ∀ a (h : a < l.length), a < d → dataB l.length l[a] = true ∧ ∀ m (hm : m < l[a].ctors.length), ¬ Tw l a m
def SeenC (l : List Da) (d : Nat) (hd : d < l.length) (k : Nat) : Prop := ∀ m (hm : m < l[d].ctors.length), m < k → ctorB l.length l[d].ctors[m] = true ∧ ¬ Tw l d m
theorem Seen.zero (l : List Da) : Seen l 0 := fun a _ h => absurd h (by omega)
theorem SeenC.zero (l : List Da) (d : Nat) (hd : d < l.length) : SeenC l d hd 0 := fun a _ h => absurd h (by omega)
theorem SeenC.step {l : List Da} {d : Nat} {hd : d < l.length} {k : Nat} (h : SeenC l d hd k) (hk : k < l[d].ctors.length) (h1 : ctorB l.length l[d].ctors[k] = true) (h2 : ¬ Tw l d k) : SeenC l d hd (k + 1) := by
  intro m hm hmk
  by_cases e : m = k
  · subst e; exact ⟨h1, h2⟩
  · exact h m hm (by omega)
theorem Seen.step {l : List Da} {d : Nat} (h : Seen l d) (hd : d < l.length) (h1 : dnameB l[d].name = true) (h2 : 1 ≤ l[d].ctors.length ∧ l[d].ctors.length ≤ 4) (h3 : SeenC l d hd l[d].ctors.length) : Seen l (d + 1) := by
  intro a ha had
  by_cases e : a = d
  · subst e
    exact ⟨(data_good h1 h2 (AllTo.all (k := l[a].ctors.length) (fun j hj _ => (h3 j hj hj).1) (Nat.le_refl _))).symm, fun m hm => (h3 m hm hm).2⟩
  · exact h a ha (by omega)
theorem Seen.done {l : List Da} (h4 : l.length ≤ 4) (h : Seen l l.length) : WorldOK l := by
  refine ⟨h4, fun j hj _ => (h j hj hj).1, fun d hd _ => ?_⟩
  have hl := (data_len4 (h d hd hd).1).1
  exact ⟨fun e => (h d hd hd).2 0 hl ⟨hd, .inl e⟩, fun j hj _ e => (h d hd hd).2 j hj ⟨hd, .inr ⟨hj, e⟩⟩⟩
theorem not_world_tw {l : List Da} {d k : Nat} (hd : d < l.length) (hk : k < l[d].ctors.length) (e : Tw l d k) : ¬ WorldOK l := by
  rintro ⟨_, _, h⟩
  obtain ⟨_, e | ⟨_, e⟩⟩ := e
  · exact (h d hd hd).1 e
  · exact (h d hd hd).2 k hk hk e
theorem not_world_ctor {l : List Da} {d k : Nat} (hd : d < l.length) (hk : k < l[d].ctors.length) (e : ctorB l.length l[d].ctors[k] = false) : ¬ WorldOK l :=
  not_world_data hd (data_bad (all_bad hk e)).symm
end Go.Proofs.Ytnfjjabeobcenaa
/-
  When a list of data types is a world: the document's function. No statement is proved here.
-/
namespace Go.Proofs.Ytnfjjabeobcenaa
open Go.RowKit
set_option maxRecDepth 100000
set_option linter.unusedVariables false
set_option maxHeartbeats 1600000 in
theorem worldValid_spec (A : Option Addr) (l : List Da) (cap : Nat) (w : World) (hr : RDas w w.heap.size A l) :
    Calls Try.prog 54 #[.slice A l.length cap] w fun e w' => e = .returned (.bool (dec (WorldOK l))) ∧ Below w.heap.size w w' := by
  have hn := hr.1
  unfold maxLen at hn
  have Hr := Lib.hid hr
  clear hr
  by_cases h4 : l.length ≤ 4
  · go_enter Try.func54, Try.ntmps54
    go_wp2_with fail
    go_loopw [3] (fun i wr => ∃ d : Nat, d ≤ l.length ∧ i = .int .i64 d ∧ Seen l d ∧ Below w.heap.size w wr) (fun i _ => l.length - (intOf i).toNat)
    case atStart => exact ⟨0, by omega, rfl, Seen.zero l, Below.refl _ _⟩
    case round =>
      obtain ⟨d, hd, rfl, hv, hb⟩ := hrel
      by_cases hlt : d < l.length
      · have hdI : (d : Int) < (l.length : Int) := by omega
        obtain ⟨b, off, rfl, hbB, A', cp, c0, c1, hsz, hm⟩ := (Hr.out.below hb (Nat.le_refl _)).2 d hlt
        have hnl := hm.1
        unfold maxLen at hnl
        have Hm := Lib.hid (hm.keep (w' := w) (fun p hp => (hb.cell hp).symm) (Nat.le_refl _))
        have HC1 := Lib.hid ((hb.cell (p := ⟨b, off + d * 2 + 1, none⟩) hbB).symm.trans c1)
        clear hm
        by_cases h1 : dnameB l[d].name = true
        · by_cases h2 : 1 ≤ l[d].ctors.length
          · have q0 : ((l[d].ctors.length : Int) == 0) = false := beq_eq_false_iff_ne.2 (by omega)
            by_cases h3 : l[d].ctors.length ≤ 4
            · have q4 : decide ((4 : Int) < l[d].ctors.length) = false := by simp; omega
              go_wp2_with (go_at_call 70; refine (l1Data_any _ _ hsz).mono ?_; rintro e w' ⟨rfl, rfl⟩)
              go_loopw [4] (fun i wi => ∃ k : Nat, k ≤ l[d].ctors.length ∧ i = .int .i64 k ∧ SeenC l d hlt k ∧ Below w.heap.size w wi) (fun i _ => l[d].ctors.length - (intOf i).toNat)
              case atStart => exact ⟨0, by omega, rfl, SeenC.zero l d hlt, hb⟩
              case round =>
                obtain ⟨k, hk, rfl, hvc, hbi⟩ := hrel
                clear hb c0 c1
                have c1 := (hbi.cell (p := ⟨b, off + d * 2 + 1, none⟩) hbB).trans HC1.out
                by_cases hkt : k < l[d].ctors.length
                · have hkI : (k : Int) < (l[d].ctors.length : Int) := by omega
                  obtain ⟨g, o, rfl, hgB, D1, ep, e0, e1, e2, hszk, hmk⟩ := (Hm.out.below hbi (Nat.le_refl _)).2 k hkt
                  have Hmk := Lib.hid (hmk.keep (fun _ _ => rfl) hbi.size)
                  clear hmk
                  by_cases he : ctorB l.length l[d].ctors[k] = true
                  · by_cases ht : Tw l d k
                    · have HT := Lib.hid (not_world_tw hlt hkt ht)
                      have hq := dec_t ht
                      clear ht
                      go_wp2_with (first | (go_at_call 71; refine (l1Ctor_any l[d].ctors[k] _ _ _ _ hszk Hmk.out).mono ?_; rintro e w1 ⟨rfl, hb1⟩; have hb2 := hbi.trans (hb1.mono hbi.size)) | (go_at_call 72; refine (twice_any _ l _ d k hlt hkt _ (Hr.out.keep (fun p hp => hb2.cell hp) hb2.size)).mono ?_; rintro e w2 ⟨rfl, hb1'⟩; have hb3 := hb2.trans (hb1'.mono hb2.size)))
                      go_ret
                      exact ⟨ret_bool (dec_f HT.out).symm, hb3⟩
                    · have HT := Lib.hid ht
                      have hq := dec_f ht
                      clear ht
                      go_wp2_with (first | (go_at_call 71; refine (l1Ctor_any l[d].ctors[k] _ _ _ _ hszk Hmk.out).mono ?_; rintro e w1 ⟨rfl, hb1⟩; have hb2 := hbi.trans (hb1.mono hbi.size)) | (go_at_call 72; refine (twice_any _ l _ d k hlt hkt _ (Hr.out.keep (fun p hp => hb2.cell hp) hb2.size)).mono ?_; rintro e w2 ⟨rfl, hb1'⟩; have hb3 := hb2.trans (hb1'.mono hb2.size)))
                      go_roundw
                      case rel => exact ⟨k + 1, by omega, by go_num, hvc.step hkt he HT.out, hb3⟩
                      case measure => simp [intOf]; omega
                  · have he' : ctorB l.length l[d].ctors[k] = false := by simpa using he
                    have HT := Lib.hid (not_world_ctor hlt hkt he')
                    clear he
                    go_wp2_with (go_at_call 71; refine (l1Ctor_any l[d].ctors[k] _ _ _ _ hszk Hmk.out).mono ?_; rintro e w1 ⟨rfl, hb1⟩; have hb2 := hbi.trans (hb1.mono hbi.size))
                    go_ret
                    exact ⟨ret_bool (dec_f HT.out).symm, hb2⟩
                · have HV : Hid (SeenC l d hlt l[d].ctors.length) := fun m hm _ => hvc m hm (by omega)
                  go_wp2_with fail
                  go_roundw
                  case rel => exact ⟨d + 1, by omega, by go_num, hv.step hlt h1 ⟨h2, h3⟩ HV.out, hbi⟩
                  case measure => simp [intOf]; omega
            · have q4 : (4 : Int) < l[d].ctors.length := by omega
              have HT := Lib.hid (not_world_data hlt (data_len (n := l.length) (d := l[d]) (by omega)).symm)
              go_wp2_with (go_at_call 70; refine (l1Data_any _ _ hsz).mono ?_; rintro e w' ⟨rfl, rfl⟩)
              go_ret
              exact ⟨ret_bool (dec_f HT.out).symm, hb⟩
          · have q0 : ((l[d].ctors.length : Int) == 0) = true := beq_iff_eq.2 (by omega)
            have HT := Lib.hid (not_world_data hlt (data_len (n := l.length) (d := l[d]) (by omega)).symm)
            go_wp2_with (go_at_call 70; refine (l1Data_any _ _ hsz).mono ?_; rintro e w' ⟨rfl, rfl⟩)
            go_ret
            exact ⟨ret_bool (dec_f HT.out).symm, hb⟩
        · have h1' : dnameB l[d].name = false := by simpa using h1
          have HT := Lib.hid (not_world_data hlt (data_name (n := l.length) h1').symm)
          clear h1
          go_wp2_with (go_at_call 70; refine (l1Data_any _ _ hsz).mono ?_; rintro e w' ⟨rfl, rfl⟩)
          go_ret
          exact ⟨ret_bool (dec_f HT.out).symm, hb⟩
      · have HV : Hid (Seen l l.length) := fun a ha _ => hv a ha (by omega)
        go_wp2_with fail
        go_ret
        exact ⟨ret_bool (dec_t (HV.out.done h4)).symm, hb⟩
  · have HE := Lib.hid (not_world_len h4)
    go_enter Try.func54, Try.ntmps54
    go_wp2_with fail
    go_ret
    exact ⟨ret_bool (dec_f HE.out).symm, Below.refl _ _⟩
end Go.Proofs.Ytnfjjabeobcenaa
/-
  When a type is one of a world: the program's function and the document's. No statement is proved here.
-/
namespace Go.Proofs.Ytnfjjabeobcenaa
open Go.RowKit
set_option maxRecDepth 100000
set_option linter.unusedVariables false
theorem arg_zero (n : Int) (t : Ty) : (argB n (-1) t && decide (0 ≤ t.index)) = argB n 0 t := by
  obtain ⟨d, i⟩ := t
  unfold argB
  by_cases h0 : d = -1
  · simp only [h0, if_true]
    by_cases h1 : i = 0
    · subst h1; rfl
    · rw [decide_eq_false h1]; rfl
  · simp only [if_neg h0]
    by_cases h1 : 0 ≤ d ∧ d < n ∧ 0 ≤ i ∧ i ≤ 3
    · rw [decide_eq_true h1, decide_eq_true (show 0 ≤ d ∧ d < n ∧ -1 ≤ i ∧ i ≤ 3 by omega), decide_eq_true (show 0 ≤ i by omega)]; rfl
    · rw [decide_eq_false h1]
      by_cases h2 : 0 ≤ i
      · rw [decide_eq_false (show ¬ (0 ≤ d ∧ d < n ∧ -1 ≤ i ∧ i ≤ 3) by omega)]; rfl
      · rw [decide_eq_false h2]; simp
def TyOK (l : List Da) (t : Ty) : Prop := WorldOK l ∧ argB l.length 0 t = true
theorem l1Is_any (A : Option Addr) (n cap : Nat) (t : Ty) (w : World) (hn : n ≤ maxLen) :
    Calls Try.prog 55 #[.slice A n cap, .agg #[.int .i64 t.data, .int .i64 t.index]] w fun e w' => e = .returned (.bool (argB n 0 t)) ∧ Below w.heap.size w w' := by
  unfold maxLen at hn
  have H := Lib.hid (arg_zero n t)
  by_cases h1 : argB n (-1) t = true
  · by_cases h2 : 0 ≤ t.index
    · have HT : Hid (argB n 0 t = true) := by unfold Hid; rw [← H.out, h1, decide_eq_true h2]; rfl
      go_enter Try.func55, Try.ntmps55
      go_wp2_with (go_at_call 73; refine (arg_any _ _ _ _).mono ?_; rintro e w1 ⟨rfl, hb⟩; obtain ⟨hc, hfz⟩ := bcell hb)
      go_ret
      exact ⟨ret_bool HT.out.symm, below_one hb⟩
    · have HT : Hid (argB n 0 t = false) := by unfold Hid; rw [← H.out, decide_eq_false h2]; simp
      go_enter Try.func55, Try.ntmps55
      go_wp2_with (go_at_call 73; refine (arg_any _ _ _ _).mono ?_; rintro e w1 ⟨rfl, hb⟩; obtain ⟨hc, hfz⟩ := bcell hb)
      go_ret
      exact ⟨ret_bool (by rw [HT.out]; exact decide_eq_false (by omega)), below_one hb⟩
  · have h1' : argB n (-1) t = false := by simpa using h1
    have HT : Hid (argB n 0 t = false) := by unfold Hid; rw [← H.out, h1']; rfl
    clear h1
    go_enter Try.func55, Try.ntmps55
    go_wp2_with (go_at_call 73; refine (arg_any _ _ _ _).mono ?_; rintro e w1 ⟨rfl, hb⟩; obtain ⟨hc, hfz⟩ := bcell hb)
    go_ret
    exact ⟨ret_bool HT.out.symm, below_one hb⟩
theorem typeValid_spec (A : Option Addr) (l : List Da) (cap : Nat) (t : Ty) (w : World) (hr : RDas w w.heap.size A l) :
    Calls Try.prog 31 #[.slice A l.length cap, .agg #[.int .i64 t.data, .int .i64 t.index]] w fun e w' => e = .returned (.bool (dec (TyOK l t))) ∧ Below w.heap.size w w' := by
  have hn := hr.1
  have Hr := Lib.hid hr
  clear hr
  by_cases hw : WorldOK l
  · have hq := dec_t hw
    have HW := Lib.hid hw
    clear hw
    go_enter Try.func31, Try.ntmps31
    go_wp2_with (first | (go_at_call 54; refine (worldValid_spec _ _ _ _ (by exact Hr.out.keep (keep_one _) (by simp))).mono ?_; rintro e w1 ⟨rfl, hb⟩; obtain ⟨hc, hfz⟩ := bcell hb; have hb1 := below_one hb) | (go_at_call 55; refine (l1Is_any _ _ _ t _ hn).mono ?_; rintro e w2 ⟨rfl, hb2'⟩; have hb2 := hb1.trans (hb2'.mono hb1.size)))
    go_ret
    refine ⟨ret_bool ?_, hb2⟩
    by_cases h2 : argB l.length 0 t = true
    · rw [h2, dec_t (show TyOK l t from ⟨HW.out, h2⟩)]
    · rw [dec_f (show ¬ TyOK l t from fun h => h2 h.2)]; simpa using h2
  · have hq := dec_f hw
    have HW := Lib.hid hw
    clear hw
    go_enter Try.func31, Try.ntmps31
    go_wp2_with (go_at_call 54; refine (worldValid_spec _ _ _ _ (by exact Hr.out.keep (keep_one _) (by simp))).mono ?_; rintro e w1 ⟨rfl, hb⟩; obtain ⟨hc, hfz⟩ := bcell hb; have hb1 := below_one hb)
    go_ret
    exact ⟨ret_bool (dec_f (show ¬ TyOK l t from fun h => HW.out h.1)).symm, hb1⟩
theorem typeValid_impl (A : Option Addr) (l : List Da) (cap : Nat) (t : Ty) (w : World) (hr : RDas w w.heap.size A l) :
    Calls Try.prog 59 #[.slice A l.length cap, .agg #[.int .i64 t.data, .int .i64 t.index]] w fun e w' => e = .returned (.bool (dec (TyOK l t))) ∧ Below w.heap.size w w' := by
  have hn := hr.1
  have Hr := Lib.hid hr
  clear hr
  by_cases hw : WorldOK l
  · have hq := dec_t hw
    have HW := Lib.hid hw
    clear hw
    go_enter Try.func59, Try.ntmps59
    go_wp2_with (first | (go_at_call 78; refine (worldValid_impl _ _ _ _ (by exact Hr.out.keep (keep_one _) (by simp))).mono ?_; rintro e w1 ⟨rfl, hb⟩; obtain ⟨hc, hfz⟩ := bcell hb; have hb1 := below_one hb) | (go_at_call 79; refine (within_any _ _ _ _ _).mono ?_; rintro e w2 ⟨rfl, hb2'⟩; have hb2 := hb1.trans (hb2'.mono hb1.size)))
    go_ret
    refine ⟨ret_bool ?_, hb2⟩
    by_cases h2 : argB l.length 0 t = true
    · exact (show argB l.length 0 t = dec (TyOK l t) by rw [h2, dec_t (show TyOK l t from ⟨HW.out, h2⟩)])
    · exact (show argB l.length 0 t = dec (TyOK l t) by rw [dec_f (show ¬ TyOK l t from fun h => h2 h.2)]; simpa using h2)
  · have hq := dec_f hw
    have HW := Lib.hid hw
    clear hw
    go_enter Try.func59, Try.ntmps59
    go_wp2_with (go_at_call 78; refine (worldValid_impl _ _ _ _ (by exact Hr.out.keep (keep_one _) (by simp))).mono ?_; rintro e w1 ⟨rfl, hb⟩; obtain ⟨hc, hfz⟩ := bcell hb; have hb1 := below_one hb)
    go_ret
    exact ⟨ret_bool (dec_f (show ¬ TyOK l t from fun h => HW.out h.1)).symm, hb1⟩
end Go.Proofs.Ytnfjjabeobcenaa
/-
  The constructors that can make values of a type: the program's function and the document's. No statement is proved here.
-/
namespace Go.Proofs.Ytnfjjabeobcenaa
open Go.RowKit
set_option maxRecDepth 100000
set_option linter.unusedVariables false
def fitsB (a i : Int) : Bool := decide (a = 0 ∨ i = 0 ∨ a = i)
theorem fits_t {a i : Int} (h : a = 0 ∨ i = 0 ∨ a = i) : true = fitsB a i := (decide_eq_true h).symm
theorem fits_f {a i : Int} (h : ¬ (a = 0 ∨ i = 0 ∨ a = i)) : false = fitsB a i := (decide_eq_false h).symm
theorem ieq_t {a b : Int} (h : a = b) : (a == b) = true := beq_iff_eq.2 h
theorem ieq_f {a b : Int} (h : ¬ a = b) : (a == b) = false := beq_eq_false_iff_ne.2 h
theorem meets_any (a i : Int) (w : World) :
    Calls Try.prog 99 #[.int .i64 a, .int .i64 i] w fun e w' => e = .returned (.bool (fitsB a i)) ∧ w = w' := by
  by_cases h1 : a = 0
  · have H := Lib.hid (fits_t (a := a) (i := i) (.inl h1))
    have q1 := ieq_t h1
    clear h1
    go_enter Try.func99, Try.ntmps99
    go_wp2_with fail
    go_ret
    exact ⟨ret_bool H.out, rfl⟩
  · have q1 := ieq_f h1
    by_cases h2 : i = 0
    · have H := Lib.hid (fits_t (a := a) (i := i) (.inr (.inl h2)))
      have q2 := ieq_t h2
      clear h1 h2
      go_enter Try.func99, Try.ntmps99
      go_wp2_with fail
      go_ret
      exact ⟨ret_bool H.out, rfl⟩
    · have q2 := ieq_f h2
      by_cases h3 : a = i
      · have H := Lib.hid (fits_t (a := a) (i := i) (.inr (.inr h3)))
        have q3 := ieq_t h3
        clear h1 h2 h3
        go_enter Try.func99, Try.ntmps99
        go_wp2_with fail
        go_ret
        exact ⟨ret_bool H.out, rfl⟩
      · have H := Lib.hid (fits_f (a := a) (i := i) (by simp [h1, h2, h3]))
        have q3 := ieq_f h3
        clear h1 h2 h3
        go_enter Try.func99, Try.ntmps99
        go_wp2_with fail
        go_ret
        exact ⟨ret_bool H.out, rfl⟩
theorem fits_any (nm : ByteArray) (A : Option Addr) (n cap : Nat) (a i : Int) (w : World) :
    Calls Try.prog 92 #[.agg #[.string nm, .slice A n cap, .int .i64 a], .int .i64 i] w fun e w' => e = .returned (.bool (fitsB a i)) ∧ Below w.heap.size w w' := by
  have HB : Hid (∀ o : Obj, Below w.heap.size w (w.alloc o)) := fun o => (Below.refl _ _).alloc (Nat.le_refl _) _
  by_cases h1 : a = 0
  · have H := Lib.hid (fits_t (a := a) (i := i) (.inl h1))
    have q1 := ieq_t h1
    clear h1
    go_enter Try.func92, Try.ntmps92
    go_wp2_with fail
    go_ret
    exact ⟨ret_bool H.out, HB.out _⟩
  · have q1 := ieq_f h1
    by_cases h2 : i = 0
    · have H := Lib.hid (fits_t (a := a) (i := i) (.inr (.inl h2)))
      have q2 := ieq_t h2
      clear h1 h2
      go_enter Try.func92, Try.ntmps92
      go_wp2_with fail
      go_ret
      exact ⟨ret_bool H.out, HB.out _⟩
    · have q2 := ieq_f h2
      by_cases h3 : a = i
      · have H := Lib.hid (fits_t (a := a) (i := i) (.inr (.inr h3)))
        have q3 := ieq_t h3
        clear h1 h2 h3
        go_enter Try.func92, Try.ntmps92
        go_wp2_with fail
        go_ret
        exact ⟨ret_bool H.out, HB.out _⟩
      · have H := Lib.hid (fits_f (a := a) (i := i) (by simp [h1, h2, h3]))
        have q3 := ieq_f h3
        clear h1 h2 h3
        go_enter Try.func92, Try.ntmps92
        go_wp2_with fail
        go_ret
        exact ⟨ret_bool H.out, HB.out _⟩
/-- The places before k of the constructors that fit an index. -/
def ctL (cs : List Ct) (i : Int) : Nat → List Int
  | 0 => []
  | k + 1 => ctL cs i k ++ (if fitsB (cs.getD k default).index i then [(k : Int)] else [])
theorem ctL_yes {cs : List Ct} {i : Int} {k : Nat} (hk : k < cs.length) (h : fitsB cs[k].index i = true) : ctL cs i (k + 1) = ctL cs i k ++ [(k : Int)] := by
  show ctL cs i k ++ _ = _
  have e : cs.getD k default = cs[k] := by simp [List.getD, List.getElem?_eq_getElem hk]
  rw [e, h]; rfl
theorem ctL_no {cs : List Ct} {i : Int} {k : Nat} (hk : k < cs.length) (h : fitsB cs[k].index i = false) : ctL cs i (k + 1) = ctL cs i k := by
  show ctL cs i k ++ _ = _
  have e : cs.getD k default = cs[k] := by simp [List.getD, List.getElem?_eq_getElem hk]
  rw [e, h]; simp
theorem ctL_length (cs : List Ct) (i : Int) : ∀ k, (ctL cs i k).length ≤ k
  | 0 => Nat.le_refl _
  | k + 1 => by
    have := ctL_length cs i k
    show (ctL cs i k ++ _).length ≤ k + 1
    rw [List.length_append]
    split <;> simp <;> omega
theorem cell_two_one (w : World) (o : Obj) (x : Value) (t : TypeId) : ∀ j u, [x][j]? = some u → ((w.alloc o).alloc (.cells #[x] t)).cell? ((⟨w.heap.size + 1, 0, none⟩ : Addr).add j) = some u := by
  intro j u hj
  match j, hj with
  | 0, hj => simp at hj; subst hj; simp [Addr.add, go_sem]
/-- Integers in a row of the call's own. -/
def OInts (w : World) (lo : Nat) (v : Value) (xs : List Int) : Prop := w.ownsRow lo 3 1 v xs.length (xs.map (Value.int .i64))
theorem info3 : (Try.prog.info? 3).map (fun i => (i.zero, i.size, i.bytes)) = some (some (.int .i64 0), 1, 8) := by kernel_rfl
set_option maxHeartbeats 1200000 in
theorem ctorsOf_data (A : Option Addr) (l : List Da) (cap d : Nat) (ix : Int) (hd : d < l.length) (h4 : l[d].ctors.length ≤ 4) (w : World) (hr : RDas w w.heap.size A l) :
    Calls Try.prog 81 #[.slice A l.length cap, .agg #[.int .i64 d, .int .i64 ix]] w fun e w' => ∃ v, e = .returned v ∧ OInts w' (w.heap.size + 1) v (ctL l[d].ctors ix l[d].ctors.length) ∧ Below w.heap.size w w' := by
  obtain ⟨i0, hi, hz0, hz1, hz2⟩ := info_parts info3
  have hn := hr.1
  unfold maxLen at hn
  obtain ⟨b, off, rfl, hbB, A', cp, c0, c1, hszd, hmd⟩ := hr.2 d hd
  have HMD := Lib.hid hmd
  clear hr hmd
  have q0 : ((d : Int) == -1) = false := ieq_f (by omega)
  have hdI : (d : Int) < (l.length : Int) := by omega
  have c1' : ∀ o, (w.alloc o).cell? ⟨b, off + d * 2 + 1, none⟩ = some (.slice A' l[d].ctors.length cp) := fun o => (World.cell?_alloc_lt _ _ _ hbB).trans c1
  have HB1 : Hid (∀ o : Obj, Below (w.heap.size + 1) (w.alloc o) (w.alloc o)) := fun o => Below.refl _ _
  go_enter Try.func81, Try.ntmps81
  go_wp2_with fail
  generalize hw0 : w.alloc (.cells #[.int .i64 d, .int .i64 ix] 33) = w0
  have x1 : w0.cell? ⟨w.heap.size, 1, none⟩ = some (.int .i64 ix) := by rw [← hw0]; simp [go_sem]
  have hsz0 : w0.heap.size = w.heap.size + 1 := by rw [← hw0]; simp
  have HW0 := Lib.hid hw0
  have HX1 := Lib.hid x1
  have HS0 := Lib.hid hsz0
  have HM0 : Hid (RCts w0 (w.heap.size + 1) A' l[d].ctors) := HMD.out.keep (fun p hp => by rw [← hw0]; exact World.cell?_alloc_lt _ _ _ hp) (by omega)
  clear hw0 x1 hsz0 c0 c1 c1' HB1
  go_loopw [5, 18] (fun v i wr => ∃ k : Nat, k ≤ l[d].ctors.length ∧ i = .int .i64 k ∧ OInts wr (w.heap.size + 1) v (ctL l[d].ctors ix k) ∧ Below (w.heap.size + 1) w0 wr) (fun _ i _ => l[d].ctors.length - (intOf i).toNat)
  case atStart => exact ⟨0, by omega, rfl, World.ownsRow_nil _ _ _ _, Below.refl _ _⟩
  case round =>
    obtain ⟨k, hk, rfl, hown, hb⟩ := hrel
    by_cases hkt : k < l[d].ctors.length
    · obtain ⟨g, o, rfl, hgB, D1, ep, e0, e1, e2, hszk, hmk⟩ := (HM0.out.below hb (Nat.le_refl _)).2 k hkt
      clear hmk
      have x1 : ∀ o, (wr.alloc o).cell? ⟨w.heap.size, 1, none⟩ = some (.int .i64 ix) := fun o => by
        have h1 := hb.cell (p := ⟨w.heap.size, 1, none⟩) (by simp)
        rw [World.cell?_alloc_lt _ _ _ (by have := hb.size; have := HS0.out; simp; omega), h1]; exact HX1.out
      have hlw : w.heap.size + 1 ≤ wr.heap.size := by have := hb.size; have := HS0.out; omega
      by_cases hf : fitsB l[d].ctors[k].index ix = true
      · have HC := Lib.hid (ctL_yes hkt hf)
        have hL := ctL_length l[d].ctors ix k
        have ho : wr.ownsRow (w.heap.size + 1) 3 1 u5 (ctL l[d].ctors ix k).length ((ctL l[d].ctors ix k).map (Value.int .i64)) := hown
        clear hown
        go_wp2_with (first | (go_at_call 99; refine (meets_any _ _ _).mono ?_; rintro e w1 ⟨rfl, rfl⟩) | (at_builtin; refine wpList_append_own _ rfl _ _ 69 rfl (w.heap.size + 1) 3 i0 (.int .i64 0) 1 8 Try.underlying69 hi hz0 hz1 hz2 rfl (by decide) _ _ _ rfl ((ho.alloc _).alloc _) ⟨wr.heap.size + 1, 0, none⟩ 1 1 [.int .i64 k] rfl rfl ?c1 ?c2 ?c3 ?c4 ?c5 ?_))
        case c1 => exact cell_two_one _ _ _ _
        case c2 => intro u hu; simp at hu; subst hu; rfl
        case c3 => unfold maxLen; omega
        case c4 => omega
        case c5 => simp; omega
        intro v' w1 hown' hgrow hnn
        have hb2 : Below (w.heap.size + 1) w0 w1 := ((hb.alloc hlw _).alloc (by simp; omega) _).grown hgrow (by simp; omega) (fun g' e => (ho.lt g' e).1)
        have ho2 : OInts w1 (w.heap.size + 1) v' (ctL l[d].ctors ix (k + 1)) := by unfold OInts; rw [HC.out]; simpa using hown'
        clear hown' hgrow hnn ho hL x1 e0 e1 e2
        go_wp2_with fail
        go_roundw
        case rel => exact ⟨k + 1, by omega, by go_num, ho2, hb2⟩
        case measure => simp [intOf]; omega
      · have hf' : fitsB l[d].ctors[k].index ix = false := by simpa using hf
        have HC := Lib.hid (ctL_no hkt hf')
        clear hf
        have HO := Lib.hid hown
        clear hown
        go_wp2_with (go_at_call 99; refine (meets_any _ _ _).mono ?_; rintro e w1 ⟨rfl, rfl⟩)
        go_roundw
        case rel => exact ⟨k + 1, by omega, by go_num, by rw [HC.out]; exact World.ownsRow.alloc HO.out _, hb.alloc hlw _⟩
        case measure => simp [intOf]; omega
    · have hke : k = l[d].ctors.length := by omega
      have HO : Hid (OInts wr (w.heap.size + 1) u5 (ctL l[d].ctors ix l[d].ctors.length)) := by rw [← hke]; exact hown
      clear hke hown
      go_wp2_with fail
      go_ret
      refine ⟨_, rfl, HO.out, ?_⟩
      have h0 : Below w.heap.size w w0 := by rw [← HW0.out]; exact (Below.refl _ _).alloc (Nat.le_refl _) _
      exact h0.trans (hb.mono (by omega))
end Go.Proofs.Ytnfjjabeobcenaa
