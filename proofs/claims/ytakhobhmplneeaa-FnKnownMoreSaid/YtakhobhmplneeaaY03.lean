/-
  When constructors and data types are valid: the program's functions and the document's. No statement is proved here.
-/
import Derived.Test.YtakhobhmplneeaaY02
import Derived.Test.YtakhobhmplneeaaY00
import Derived.Maps.Own
import Derived.Maps.OwnOps
import Derived.Maps.Views
namespace Go.Proofs.Ytakhobhmplneeaa
open Go.RowKit
set_option maxRecDepth 100000
set_option linter.unusedVariables false
def AllTo {α : Type} (f : α → Bool) (l : List α) (k : Nat) : Prop := ∀ j (h : j < l.length), j < k → f l[j] = true
theorem AllTo.zero {α : Type} (f : α → Bool) (l : List α) : AllTo f l 0 := fun j _ h => absurd h (by omega)
theorem AllTo.step {α : Type} {f : α → Bool} {l : List α} {k : Nat} (h : AllTo f l k) (hk : k < l.length) (e : f l[k] = true) : AllTo f l (k + 1) := by
  intro j hj hjk
  by_cases e' : j = k
  · subst e'; exact e
  · exact h j hj (by omega)
theorem AllTo.all {α : Type} {f : α → Bool} {l : List α} {k : Nat} (h : AllTo f l k) (hk : l.length ≤ k) : l.all f = true := by
  rw [List.all_eq_true]
  intro x hx
  obtain ⟨j, hj, rfl⟩ := List.getElem_of_mem hx
  exact h j hj (by omega)
theorem all_bad {α : Type} {f : α → Bool} {l : List α} {k : Nat} (hk : k < l.length) (e : f l[k] = false) : l.all f = false := by
  rw [List.all_eq_false]
  exact ⟨l[k], List.getElem_mem hk, by rw [e]; decide⟩
theorem dname_size {s : ByteArray} (h : ¬ s.size = 1) : dnameB s = false := by unfold dnameB; rw [decide_eq_false h]; rfl
theorem dname_one {s : ByteArray} (h : s.size = 1) (h0 : 0 < s.size) : dnameB s = (upB (s[0]'h0).toNat && decide (¬ s.toList = [73])) := by
  unfold dnameB; rw [decide_eq_true h, head_eq h0]; rfl
theorem l1Data_any (s : ByteArray) (w : World) (hs : s.size ≤ maxLen) :
    Calls Try.prog 71 #[.string s] w fun e w' => e = .returned (.bool (dnameB s)) ∧ w = w' := by
  unfold maxLen at hs
  by_cases h1 : s.size = 1
  · have h0 : 0 < s.size := by omega
    have H := Lib.hid (dname_one h1 h0)
    have q : ((s.size : Int) == 1) = true := beq_iff_eq.2 (by omega)
    clear h1
    by_cases hu : upB (s[0]'h0).toNat = true
    · by_cases hi : s.toList = [73]
      · have q2 : (s.toList != [73]) = false := by rw [hi]; rfl
        have HI := Lib.hid hi
        clear hi
        go_enter Try.func71, Try.ntmps71
        go_wp2_with (go_at_call 86; refine (big_any _ _).mono ?_; rintro e w' ⟨rfl, rfl⟩)
        go_ret
        exact ⟨ret_bool (by rw [H.out, hu]; simp [HI.out]), rfl⟩
      · have q2 : (s.toList != [73]) = true := by rw [bne, beq_eq_false_iff_ne.2 hi]; rfl
        have HI := Lib.hid hi
        clear hi
        go_enter Try.func71, Try.ntmps71
        go_wp2_with (go_at_call 86; refine (big_any _ _).mono ?_; rintro e w' ⟨rfl, rfl⟩)
        go_ret
        exact ⟨ret_bool (by rw [H.out, hu]; simp [HI.out]), rfl⟩
    · have hu' : upB (s[0]'h0).toNat = false := by simpa using hu
      clear hu
      go_enter Try.func71, Try.ntmps71
      go_wp2_with (go_at_call 86; refine (big_any _ _).mono ?_; rintro e w' ⟨rfl, rfl⟩)
      go_ret
      exact ⟨ret_bool (by rw [H.out, hu']; rfl), rfl⟩
  · have q : ((s.size : Int) == 1) = false := beq_eq_false_iff_ne.2 (by omega)
    have H := Lib.hid (dname_size h1)
    clear h1
    go_enter Try.func71, Try.ntmps71
    go_wp2_with fail
    go_ret
    exact ⟨ret_bool H.out.symm, rfl⟩
theorem ctor_name {n : Int} {c : Ct} (h : nameB c.name = false) : false = ctorB n c := by unfold ctorB; rw [h]; rfl
theorem ctor_args {n : Int} {c : Ct} (h : ¬ c.args.length ≤ 3) : false = ctorB n c := by unfold ctorB; rw [decide_eq_false h]; simp
theorem ctor_index {n : Int} {c : Ct} (h : ¬ (0 ≤ c.index ∧ c.index ≤ 3)) : false = ctorB n c := by unfold ctorB; rw [decide_eq_false h]; simp
theorem ctor_bad {n : Int} {c : Ct} (h : c.args.all (argB n (-1)) = false) : false = ctorB n c := by unfold ctorB; rw [h]; simp
theorem ctor_good {n : Int} {c : Ct} (h1 : nameB c.name = true) (h2 : c.args.length ≤ 3) (h3 : 0 ≤ c.index ∧ c.index ≤ 3) (h : c.args.all (argB n (-1)) = true) : true = ctorB n c := by
  unfold ctorB; rw [h, h1, decide_eq_true h2, decide_eq_true h3]; rfl
theorem below_one {w w' : World} {o : Obj} (h : Below (w.alloc o).heap.size (w.alloc o) w') : Below w.heap.size w w' :=
  ((Below.refl _ _).alloc (Nat.le_refl _) _).trans (h.mono (by simp))
theorem keep_one {w : World} (o : Obj) : ∀ p : Addr, p.block < w.heap.size → (w.alloc o).cell? p = w.cell? p := fun p hp => World.cell?_alloc_lt _ _ _ hp
set_option maxHeartbeats 800000 in
theorem l1Ctor_any (c : Ct) (A : Option Addr) (cap : Nat) (n : Int) (w : World) (hs : c.name.size ≤ maxLen) (hr : RTys w w.heap.size A c.args) :
    Calls Try.prog 72 #[.int .i64 n, .agg #[.string c.name, .slice A c.args.length cap, .int .i64 c.index]] w fun e w' => e = .returned (.bool (ctorB n c)) ∧ Below w.heap.size w w' := by
  have hn := hr.1
  unfold maxLen at hn
  have Hr := Lib.hid hr
  clear hr
  have HB : Hid (∀ o : Obj, Below w.heap.size w (w.alloc o)) := fun o => (Below.refl _ _).alloc (Nat.le_refl _) _
  by_cases h1 : nameB c.name = true
  · by_cases h2 : c.args.length ≤ 3
    · by_cases h3 : 0 ≤ c.index
      · by_cases h4 : c.index ≤ 3
        · go_enter Try.func72, Try.ntmps72
          go_wp2_with (go_at_call 87; refine (nameV_spec _ _ hs).mono ?_; rintro e w' ⟨rfl, rfl⟩)
          go_loopw [5] (fun i wr => ∃ k : Nat, k ≤ c.args.length ∧ i = .int .i64 k ∧ AllTo (argB n (-1)) c.args k ∧ wr.cell? ⟨w.heap.size, 1, none⟩ = some (.slice A c.args.length cap) ∧ w.heap.size < wr.heap.size ∧ Below w.heap.size w wr) (fun i _ => c.args.length - (intOf i).toNat)
          case atStart => exact ⟨0, by omega, rfl, AllTo.zero _ _, by simp [go_sem], by simp, HB.out _⟩
          case round =>
            obtain ⟨k, hk, rfl, hu, b1, hlw, hb⟩ := hrel
            by_cases hlt : k < c.args.length
            · obtain ⟨b, off, rfl, hbB, c0, c1⟩ := (Hr.out.below hb (Nat.le_refl _)).2 k hlt
              by_cases he : argB n (-1) c.args[k] = true
              · go_wp2_with (go_at_call 74; refine (arg_any _ _ _ _).mono ?_; rintro e w1 ⟨rfl, hb1⟩; have hb2 := hb.trans (hb1.mono hb.size); have b2 := (hb1.cell (p := ⟨w.heap.size, 1, none⟩) hlw).trans b1; have hlw2 := Nat.lt_of_lt_of_le hlw hb1.size)
                go_roundw
                case rel => exact ⟨k + 1, by omega, by go_num, hu.step hlt he, b2, hlw2, hb2⟩
                case measure => simp [intOf]; omega
              · have he' : argB n (-1) c.args[k] = false := by simpa using he
                have HE := Lib.hid (ctor_bad (n := n) (all_bad hlt he'))
                clear he
                go_wp2_with (go_at_call 74; refine (arg_any _ _ _ _).mono ?_; rintro e w1 ⟨rfl, hb1⟩; have hb2 := hb.trans (hb1.mono hb.size))
                go_ret
                exact ⟨ret_bool HE.out, hb2⟩
            · go_wp2_with fail
              go_ret
              exact ⟨ret_bool (ctor_good h1 h2 ⟨h3, h4⟩ (hu.all (by omega))), hb⟩
        · have H := Lib.hid (ctor_index (n := n) (c := c) (by omega))
          go_enter Try.func72, Try.ntmps72
          go_wp2_with (go_at_call 87; refine (nameV_spec _ _ hs).mono ?_; rintro e w' ⟨rfl, rfl⟩)
          go_ret
          exact ⟨ret_bool H.out, HB.out _⟩
      · have H := Lib.hid (ctor_index (n := n) (c := c) (by omega))
        go_enter Try.func72, Try.ntmps72
        go_wp2_with (go_at_call 87; refine (nameV_spec _ _ hs).mono ?_; rintro e w' ⟨rfl, rfl⟩)
        go_ret
        exact ⟨ret_bool H.out, HB.out _⟩
    · have H := Lib.hid (ctor_args (n := n) h2)
      have h2' : (3 : Int) < c.args.length := by omega
      go_enter Try.func72, Try.ntmps72
      go_wp2_with (go_at_call 87; refine (nameV_spec _ _ hs).mono ?_; rintro e w' ⟨rfl, rfl⟩)
      go_ret
      exact ⟨ret_bool H.out, HB.out _⟩
  · have h1' : nameB c.name = false := by simpa using h1
    clear h1
    go_enter Try.func72, Try.ntmps72
    go_wp2_with (go_at_call 87; refine (nameV_spec _ _ hs).mono ?_; rintro e w' ⟨rfl, rfl⟩)
    go_ret
    exact ⟨ret_bool (ctor_name h1'), HB.out _⟩
theorem btw_t {i : Int} (h1 : 0 ≤ i) (h2 : i ≤ 3) : btw 0 i = true := decide_eq_true ⟨h1, h2⟩
theorem btw_f {i : Int} (h : ¬ (0 ≤ i ∧ i ≤ 3)) : btw 0 i = false := decide_eq_false h
set_option maxHeartbeats 800000 in
theorem ctorValid_any (c : Ct) (A : Option Addr) (cap : Nat) (n : Int) (w : World) (hs : c.name.size ≤ maxLen) (hr : RTys w w.heap.size A c.args) :
    Calls Try.prog 89 #[.agg #[.string c.name, .slice A c.args.length cap, .int .i64 c.index], .int .i64 n] w fun e w' => e = .returned (.bool (ctorB n c)) ∧ Below w.heap.size w w' := by
  have hn := hr.1
  unfold maxLen at hn
  have Hr := Lib.hid hr
  clear hr
  have HB : Hid (∀ o : Obj, Below w.heap.size w (w.alloc o)) := fun o => (Below.refl _ _).alloc (Nat.le_refl _) _
  by_cases h1 : nameB c.name = true
  · by_cases h2 : c.args.length ≤ 3
    · by_cases h3 : 0 ≤ c.index ∧ c.index ≤ 3
      · have hb0 := btw_t h3.1 h3.2
        have H3 := Lib.hid h3
        clear h3
        go_enter Try.func89, Try.ntmps89
        go_wp2_with (first | (go_at_call 93; refine (nameV_impl _ _ hs).mono ?_; rintro e w' ⟨rfl, rfl⟩) | (go_at_call 80; refine (between_any _ _ _).mono ?_; rintro e w' ⟨rfl, rfl⟩))
        go_loopw [26] (fun i wr => ∃ k : Nat, k ≤ c.args.length ∧ i = .int .i64 k ∧ AllTo (argB n (-1)) c.args k ∧ Below w.heap.size w wr) (fun i _ => c.args.length - (intOf i).toNat)
        case atStart => exact ⟨0, by omega, rfl, AllTo.zero _ _, HB.out _⟩
        case round =>
          obtain ⟨k, hk, rfl, hu, hb⟩ := hrel
          by_cases hlt : k < c.args.length
          · obtain ⟨b, off, rfl, hbB, c0, c1⟩ := (Hr.out.below hb (Nat.le_refl _)).2 k hlt
            by_cases he : argB n (-1) c.args[k] = true
            · go_wp2_with (go_at_call 57; refine (within_any _ _ _ _ _).mono ?_; rintro e w1 ⟨rfl, hb1⟩; have hb2 := hb.trans ((below_one hb1).mono hb.size))
              go_roundw
              case rel => exact ⟨k + 1, by omega, by go_num, hu.step hlt he, hb2⟩
              case measure => simp [intOf]; omega
            · have he' : argB n (-1) c.args[k] = false := by simpa using he
              have HE := Lib.hid (ctor_bad (n := n) (all_bad hlt he'))
              clear he
              go_wp2_with (go_at_call 57; refine (within_any _ _ _ _ _).mono ?_; rintro e w1 ⟨rfl, hb1⟩; have hb2 := hb.trans ((below_one hb1).mono hb.size))
              go_ret
              exact ⟨ret_bool HE.out, hb2⟩
          · go_wp2_with fail
            go_ret
            exact ⟨ret_bool (ctor_good h1 h2 H3.out (hu.all (by omega))), hb⟩
      · have H := Lib.hid (ctor_index (n := n) h3)
        have hb0 := btw_f h3
        clear h3
        go_enter Try.func89, Try.ntmps89
        go_wp2_with (first | (go_at_call 93; refine (nameV_impl _ _ hs).mono ?_; rintro e w' ⟨rfl, rfl⟩) | (go_at_call 80; refine (between_any _ _ _).mono ?_; rintro e w' ⟨rfl, rfl⟩))
        go_ret
        exact ⟨ret_bool H.out, HB.out _⟩
    · have H := Lib.hid (ctor_args (n := n) h2)
      have h2' : (3 : Int) < c.args.length := by omega
      go_enter Try.func89, Try.ntmps89
      go_wp2_with (go_at_call 93; refine (nameV_impl _ _ hs).mono ?_; rintro e w' ⟨rfl, rfl⟩)
      go_ret
      exact ⟨ret_bool H.out, HB.out _⟩
  · have h1' : nameB c.name = false := by simpa using h1
    clear h1
    go_enter Try.func89, Try.ntmps89
    go_wp2_with (go_at_call 93; refine (nameV_impl _ _ hs).mono ?_; rintro e w' ⟨rfl, rfl⟩)
    go_ret
    exact ⟨ret_bool (ctor_name h1'), HB.out _⟩
theorem data_name {n : Int} {d : Da} (h : dnameB d.name = false) : false = dataB n d := by unfold dataB; rw [h]; rfl
theorem data_len {n : Int} {d : Da} (h : ¬ (1 ≤ d.ctors.length ∧ d.ctors.length ≤ 4)) : false = dataB n d := by unfold dataB; rw [decide_eq_false h]; simp
theorem data_bad {n : Int} {d : Da} (h : d.ctors.all (ctorB n) = false) : false = dataB n d := by unfold dataB; rw [h]; simp
theorem data_good {n : Int} {d : Da} (h1 : dnameB d.name = true) (h2 : 1 ≤ d.ctors.length ∧ d.ctors.length ≤ 4) (h : d.ctors.all (ctorB n) = true) : true = dataB n d := by
  unfold dataB; rw [h, h1, decide_eq_true h2]; rfl
theorem dname_f_i {s : ByteArray} (h : s.toList = [73]) : dnameB s = false := by unfold dnameB; rw [show decide (¬ s.toList = [73]) = false from decide_eq_false (fun hne => hne h)]; simp
theorem dname_f_u {s : ByteArray} (h1 : s.size = 1) (h0 : 0 < s.size) (h : upB (s[0]'h0).toNat = false) : dnameB s = false := by rw [dname_one h1 h0, h]; rfl
theorem dname_t {s : ByteArray} (h1 : s.size = 1) (h0 : 0 < s.size) (h : upB (s[0]'h0).toNat = true) (h2 : ¬ s.toList = [73]) : dnameB s = true := by rw [dname_one h1 h0, h, decide_eq_true h2]; rfl
set_option maxHeartbeats 1200000 in
theorem dataValid_any (d : Da) (A : Option Addr) (cap : Nat) (n : Int) (w : World) (hs : d.name.size ≤ maxLen) (hr : RCts w w.heap.size A d.ctors) :
    Calls Try.prog 78 #[.agg #[.string d.name, .slice A d.ctors.length cap], .int .i64 n] w fun e w' => e = .returned (.bool (dataB n d)) ∧ Below w.heap.size w w' := by
  have hn := hr.1
  unfold maxLen at hn
  have hs' := hs
  unfold maxLen at hs'
  have Hr := Lib.hid hr
  clear hr
  have HB : Hid (∀ o : Obj, Below w.heap.size w (w.alloc o)) := fun o => (Below.refl _ _).alloc (Nat.le_refl _) _
  by_cases h1 : d.name.size = 1
  · have h0 : 0 < d.name.size := by omega
    have q : ((d.name.size : Int) != 1) = false := by rw [bne, beq_iff_eq.2 (by omega)]; rfl
    have H1 := Lib.hid h1
    clear h1
    by_cases hu : upB (d.name[0]'h0).toNat = true
    · by_cases hi : d.name.toList = [73]
      · have q2 : (d.name.toList == [73]) = true := by rw [hi]; rfl
        have HI := Lib.hid (data_name (n := n) (dname_f_i hi))
        clear hi
        go_enter Try.func78, Try.ntmps78
        go_wp2_with (go_at_call 88; refine (isUpper_any _ _).mono ?_; rintro e w' ⟨rfl, rfl⟩)
        go_ret
        exact ⟨ret_bool HI.out, HB.out _⟩
      · have q2 : (d.name.toList == [73]) = false := beq_eq_false_iff_ne.2 hi
        have HD := Lib.hid (dname_t H1.out h0 hu hi)
        clear hi
        by_cases h2 : 1 ≤ d.ctors.length
        · by_cases h3 : d.ctors.length ≤ 4
          · go_enter Try.func78, Try.ntmps78
            go_wp2_with (go_at_call 88; refine (isUpper_any _ _).mono ?_; rintro e w' ⟨rfl, rfl⟩)
            go_loopw [36] (fun i wr => ∃ k : Nat, k ≤ d.ctors.length ∧ i = .int .i64 k ∧ AllTo (ctorB n) d.ctors k ∧ Below w.heap.size w wr) (fun i _ => d.ctors.length - (intOf i).toNat)
            case atStart => exact ⟨0, by omega, rfl, AllTo.zero _ _, HB.out _⟩
            case round =>
              obtain ⟨k, hk, rfl, hv, hb⟩ := hrel
              by_cases hlt : k < d.ctors.length
              · obtain ⟨b, off, rfl, hbB, A', cp, c0, c1, c2, hsz, hm⟩ := (Hr.out.below hb (Nat.le_refl _)).2 k hlt
                have Hm := Lib.hid hm
                clear hm
                have hbs := hb.size
                by_cases he : ctorB n d.ctors[k] = true
                · go_wp2_with (go_at_call 89; refine (ctorValid_any d.ctors[k] _ _ _ _ hsz (by exact Hm.out.keep (fun p hp => keep_one _ p (by omega)) (by simp; omega))).mono ?_; rintro e w1 ⟨rfl, hb1⟩; have hb2 := hb.trans ((below_one hb1).mono hb.size))
                  go_roundw
                  case rel => exact ⟨k + 1, by omega, by go_num, hv.step hlt he, hb2⟩
                  case measure => simp [intOf]; omega
                · have he' : ctorB n d.ctors[k] = false := by simpa using he
                  have HE := Lib.hid (data_bad (n := n) (all_bad hlt he'))
                  clear he
                  go_wp2_with (go_at_call 89; refine (ctorValid_any d.ctors[k] _ _ _ _ hsz (by exact Hm.out.keep (fun p hp => keep_one _ p (by omega)) (by simp; omega))).mono ?_; rintro e w1 ⟨rfl, hb1⟩; have hb2 := hb.trans ((below_one hb1).mono hb.size))
                  go_ret
                  exact ⟨ret_bool HE.out, hb2⟩
              · go_wp2_with fail
                go_ret
                exact ⟨ret_bool (data_good HD.out ⟨h2, h3⟩ (hv.all (by omega))), hb⟩
          · have H := Lib.hid (data_len (n := n) (d := d) (by omega))
            have h3' : (4 : Int) < d.ctors.length := by omega
            go_enter Try.func78, Try.ntmps78
            go_wp2_with (go_at_call 88; refine (isUpper_any _ _).mono ?_; rintro e w' ⟨rfl, rfl⟩)
            go_ret
            exact ⟨ret_bool H.out, HB.out _⟩
        · have H := Lib.hid (data_len (n := n) (d := d) (by omega))
          have h2' : (d.ctors.length : Int) < 1 := by omega
          go_enter Try.func78, Try.ntmps78
          go_wp2_with (go_at_call 88; refine (isUpper_any _ _).mono ?_; rintro e w' ⟨rfl, rfl⟩)
          go_ret
          exact ⟨ret_bool H.out, HB.out _⟩
    · have hu' : upB (d.name[0]'h0).toNat = false := by simpa using hu
      have H := Lib.hid (data_name (n := n) (dname_f_u H1.out h0 hu'))
      clear hu
      go_enter Try.func78, Try.ntmps78
      go_wp2_with (go_at_call 88; refine (isUpper_any _ _).mono ?_; rintro e w' ⟨rfl, rfl⟩)
      go_ret
      exact ⟨ret_bool H.out, HB.out _⟩
  · have q : ((d.name.size : Int) != 1) = true := by rw [bne, beq_eq_false_iff_ne.2 (by omega)]; rfl
    have H := Lib.hid (data_name (n := n) (dname_size h1))
    clear h1
    go_enter Try.func78, Try.ntmps78
    go_wp2_with fail
    go_ret
    exact ⟨ret_bool H.out, HB.out _⟩
end Go.Proofs.Ytakhobhmplneeaa
/-
  A map from strings to bools that the call itself has made, as a set of strings. No statement is proved here.
-/
namespace Go.Proofs.Ytakhobhmplneeaa
open Go.RowKit Go.Maps
set_option maxRecDepth 100000
set_option linter.unusedVariables false
/-- Does it hold? -/
noncomputable def dec (p : Prop) : Bool := @decide p (Classical.propDecidable _)
theorem dec_t {p : Prop} (h : p) : dec p = true := by unfold dec; simp [h]
theorem dec_f {p : Prop} (h : ¬ p) : dec p = false := by unfold dec; simp [h]
theorem dec_congr {p q : Prop} (h : p ↔ q) : dec p = dec q := by
  by_cases hp : p
  · rw [dec_t hp, dec_t (h.1 hp)]
  · rw [dec_f hp, dec_f (fun hq => hp (h.2 hq))]
def MapSet (w : World) (b n : Nat) (S : List UInt8 → Prop) : Prop :=
  ∃ D : DataW Unit, w.ownsMap Try.prog 9 (plainElem Try.prog 4) b n D ∧ IsMap D ∧ ∀ s : List UInt8, D.atKey (.string s) (.lit (.bool false)) = .lit (.bool (dec (S s)))
theorem zero4 (w : World) : (zeroValue 4).run Try.prog w = .ok (.bool false) w := by kernel_rfl
theorem keyStr {s : ByteArray} (h : s.size ≤ maxLen) : keyOf Try.prog 9 (.string s) = some (.string s.data.toList) := Go.WideMaps.keyOf_string_mk Try.underlying9 h
theorem MapSet.made (w : World) : MapSet (w.alloc (.map #[] 0)) w.heap.size 0 (fun _ => False) :=
  ⟨.map [], World.ownsMap_made _ _ _ _, ⟨[], rfl⟩, fun s => by rw [dec_f (fun h => h)]; rfl⟩
theorem MapSet.lt {w : World} {b n : Nat} {S : List UInt8 → Prop} (h : MapSet w b n S) : b < w.heap.size := by
  obtain ⟨D, ho, _⟩ := h; exact ho.lt
theorem MapSet.keep {w w' : World} {b n n' : Nat} {S S' : List UInt8 → Prop} (h : MapSet w b n S) (hb : w'.heap[b]? = w.heap[b]?) (hn : n ≤ n') (hS : ∀ s, S s ↔ S' s) : MapSet w' b n' S' := by
  obtain ⟨D, ⟨es, clock, h1, h2, h3, h4⟩, hm, hat⟩ := h
  exact ⟨D, ⟨es, clock, hb.trans h1, h2, by omega, h4⟩, hm, fun s => by rw [hat s, dec_congr (hS s)]⟩
theorem MapSet.look {w : World} {b n : Nat} {S : List UInt8 → Prop} (h : MapSet w b n S) {s : ByteArray} (hs : s.size ≤ maxLen) : (Instr.lookup 121 (.map (some b)) (.string s) false).run Try.prog w = .ok (.bool (dec (S s.data.toList))) w := by
  obtain ⟨D, ho, hm, hat⟩ := h
  obtain ⟨v, ps, hrun, hv⟩ := ho.lookup (string_keyed Try.underlying9) Try.underlying121 (zero4 w) (zd := .lit (.bool false)) (zp := []) (plainElem_bool Try.underlying4 false) (keyStr hs)
  rw [hat] at hv
  have : v = .bool (dec (S s.data.toList)) := by
    unfold plainElem at hv
    rw [Try.underlying4] at hv
    cases v <;> simp at hv
    rw [hv.1]
  rw [hrun, this]
theorem MapSet.put {w : World} {b n : Nat} {D : DataW Unit} {S : List UInt8 → Prop} {s : List UInt8} (ho : w.ownsMap Try.prog 9 (plainElem Try.prog 4) b n (D.put (.string s) (.lit (.bool true)))) (hm : IsMap D) (hat : ∀ s : List UInt8, D.atKey (.string s) (.lit (.bool false)) = .lit (.bool (dec (S s)))) :
    MapSet w b n (fun t => t = s ∨ S t) := by
  refine ⟨_, ho, ?_, fun t => ?_⟩
  · obtain ⟨es, rfl⟩ := hm
    exact ⟨_, rfl⟩
  · by_cases e : t = s
    · subst e
      rw [atKey_put_same (k := .string t) hm True.intro, dec_t (Or.inl rfl)]
    · rw [atKey_put_other (by intro e'; injection e' with e''; exact e e''), hat, dec_congr (show S t ↔ (t = s ∨ S t) from ⟨Or.inr, fun h => h.resolve_left e⟩)]
end Go.Proofs.Ytakhobhmplneeaa
