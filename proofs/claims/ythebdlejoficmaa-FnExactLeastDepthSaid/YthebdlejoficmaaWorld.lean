/-
  When a list of data types is a world: the program's function and the document's. No statement is proved here.
-/
import Derived.Test.YthebdlejoficmaaTwice
namespace Go.Proofs.Ythebdlejoficmaa
open Go.RowKit
set_option maxRecDepth 100000
set_option linter.unusedVariables false

def WorldOK (l : List Da) : Prop := l.length ≤ 4 ∧ AllTo (dataB l.length) l l.length ∧ Differ l
theorem not_world_len {l : List Da} (h : ¬ l.length ≤ 4) : ¬ WorldOK l := fun e => h e.1
theorem not_world_data {l : List Da} {k : Nat} (hk : k < l.length) (h : dataB l.length l[k] = false) : ¬ WorldOK l := fun e => by
  have := e.2.1 k hk hk
  rw [h] at this
  cases this
theorem data_len4 {n : Int} {d : Da} (h : dataB n d = true) : 1 ≤ d.ctors.length ∧ d.ctors.length ≤ 4 := by
  by_cases h' : 1 ≤ d.ctors.length ∧ d.ctors.length ≤ 4
  · exact h'
  · have := data_len (n := n) h'; rw [h] at this; cases this

set_option maxHeartbeats 800000 in
theorem worldValid_impl (A : Option Addr) (l : List Da) (cap : Nat) (w : World) (hr : RDas w w.heap.size A l) :
    Calls Try.prog 16 #[.slice A l.length cap] w fun e w' => e = .returned (.bool (dec (WorldOK l))) ∧ Below w.heap.size w w' := by
  have hn := hr.1
  unfold maxLen at hn
  have Hr := Lib.hid hr
  clear hr
  by_cases h4 : l.length ≤ 4
  · go_enter Try.func16, Try.ntmps16
    go_wp2_with fail
    go_loopw [10] (fun i wr => ∃ k : Nat, k ≤ l.length ∧ i = .int .i64 k ∧ AllTo (dataB l.length) l k ∧ Below w.heap.size w wr) (fun i _ => l.length - (intOf i).toNat)
    case atStart => exact ⟨0, by omega, rfl, AllTo.zero _ _, Below.refl _ _⟩
    case round =>
      obtain ⟨k, hk, rfl, hv, hb⟩ := hrel
      by_cases hlt : k < l.length
      · obtain ⟨b, off, rfl, hbB, A', cp, c0, c1, hsz, hm⟩ := (Hr.out.below hb (Nat.le_refl _)).2 k hlt
        have Hm := Lib.hid hm
        clear hm
        have hbs := hb.size
        by_cases he : dataB l.length l[k] = true
        · go_wp2_with (go_at_call 46; refine (dataValid_any l[k] _ _ _ _ hsz (by exact Hm.out.keep (fun p hp => keep_one _ p (by omega)) (by simp; omega))).mono ?_; rintro e w1 ⟨rfl, hb1⟩; have hb2 := hb.trans ((below_one hb1).mono hb.size))
          go_roundw
          case rel => exact ⟨k + 1, by omega, by go_num, hv.step hlt he, hb2⟩
          case measure => simp [intOf]; omega
        · have he' : dataB l.length l[k] = false := by simpa using he
          have HE := Lib.hid (not_world_data hlt he')
          clear he
          go_wp2_with (go_at_call 46; refine (dataValid_any l[k] _ _ _ _ hsz (by exact Hm.out.keep (fun p hp => keep_one _ p (by omega)) (by simp; omega))).mono ?_; rintro e w1 ⟨rfl, hb1⟩; have hb2 := hb.trans ((below_one hb1).mono hb.size))
          go_ret
          exact ⟨ret_bool (dec_f HE.out).symm, hb2⟩
      · have HV : Hid (AllTo (dataB l.length) l l.length) := fun j h h' => hv j h (by omega)
        clear hv
        go_wp2_with (go_at_call 47; refine (namesDiffer_any _ _ _ _ (by exact Hr.out.keep (fun p hp => hb.cell hp) hb.size) h4 (fun d hd => (data_len4 (HV.out d hd hd)).2)).mono ?_; rintro e w1 ⟨rfl, hb1⟩; have hb2 := hb.trans (hb1.mono hb.size))
        go_ret
        refine ⟨ret_bool (dec_congr ⟨fun h => ⟨h4, HV.out, h⟩, fun h => h.2.2⟩), hb2⟩
  · have HE := Lib.hid (not_world_len h4)
    go_enter Try.func16, Try.ntmps16
    go_wp2_with fail
    go_ret
    exact ⟨ret_bool (dec_f HE.out).symm, Below.refl _ _⟩

/-- What the document's function has seen before data type d, and before its constructor k. -/
def Seen (l : List Da) (d : Nat) : Prop := ∀ a (h : a < l.length), a < d → dataB l.length l[a] = true ∧ ∀ m (hm : m < l[a].ctors.length), ¬ Tw l a m
def SeenC (l : List Da) (d : Nat) (hd : d < l.length) (k : Nat) : Prop := ∀ m (hm : m < l[d].ctors.length), m < k → ctorB l.length l[d].ctors[m] = true ∧ ¬ Tw l d m
theorem Seen.zero (l : List Da) : Seen l 0 := fun a _ h => absurd h (by omega)
theorem SeenC.zero (l : List Da) (d : Nat) (hd : d < l.length) : SeenC l d hd 0 := fun a _ h => absurd h (by omega)
theorem SeenC.step {l : List Da} {d : Nat} {hd : d < l.length} {k : Nat} (h : SeenC l d hd k) (hk : k < l[d].ctors.length) (h1 : ctorB l.length l[d].ctors[k] = true) (h2 : ¬ Tw l d k) : SeenC l d hd (k + 1) := by
  intro m hm hmk
  by_cases e : m = k
  · subst e; exact ⟨h1, h2⟩
  · exact h m hm (by omega)
theorem Seen.step {l : List Da} {d : Nat} (h : Seen l d) (hd : d < l.length) (h1 : dnameB l[d].name = true) (h2 : 1 ≤ l[d].ctors.length ∧ l[d].ctors.length ≤ 4) (h3 : SeenC l d hd l[d].ctors.length) : Seen l (d + 1) := by
  intro a ha had
  by_cases e : a = d
  · subst e
    exact ⟨(data_good h1 h2 (AllTo.all (k := l[a].ctors.length) (fun j hj _ => (h3 j hj hj).1) (Nat.le_refl _))).symm, fun m hm => (h3 m hm hm).2⟩
  · exact h a ha (by omega)
theorem Seen.done {l : List Da} (h4 : l.length ≤ 4) (h : Seen l l.length) : WorldOK l := by
  refine ⟨h4, fun j hj _ => (h j hj hj).1, fun d hd _ => ?_⟩
  have hl := (data_len4 (h d hd hd).1).1
  exact ⟨fun e => (h d hd hd).2 0 hl ⟨hd, .inl e⟩, fun j hj _ e => (h d hd hd).2 j hj ⟨hd, .inr ⟨hj, e⟩⟩⟩
theorem not_world_tw {l : List Da} {d k : Nat} (hd : d < l.length) (hk : k < l[d].ctors.length) (e : Tw l d k) : ¬ WorldOK l := by
  rintro ⟨_, _, h⟩
  obtain ⟨_, e | ⟨_, e⟩⟩ := e
  · exact (h d hd hd).1 e
  · exact (h d hd hd).2 k hk hk e
theorem not_world_ctor {l : List Da} {d k : Nat} (hd : d < l.length) (hk : k < l[d].ctors.length) (e : ctorB l.length l[d].ctors[k] = false) : ¬ WorldOK l :=
  not_world_data hd (data_bad (all_bad hk e)).symm
end Go.Proofs.Ythebdlejoficmaa
