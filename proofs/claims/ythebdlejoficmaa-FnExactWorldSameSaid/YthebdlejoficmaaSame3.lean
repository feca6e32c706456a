/-
  When two lists of data types are equal, on: the library's function at these types, and the whole of it. No statement is proved here.
-/
import Derived.Test.YthebdlejoficmaaSame
namespace Go.Proofs.Ythebdlejoficmaa
open Go.RowKit Go.Sort
set_option maxRecDepth 100000
set_option linter.unusedVariables false

set_option maxHeartbeats 800000 in
theorem equalCts (A A' : Option Addr) (l m : List Ct) (cap cap' : Nat) (w : World) (hr : RCts w w.heap.size A l) (hr' : RCts w w.heap.size A' m) :
    Calls Try.prog 71 #[.slice A l.length cap, .slice A' m.length cap', .func (.func 72) #[] #[]] w fun e w' => e = .returned (.bool (eqv l m)) ∧ Below w.heap.size w w' := by
  have hn := hr.1
  have hn' := hr'.1
  unfold maxLen at hn hn'
  have Hr := Lib.hid hr
  have Hr' := Lib.hid hr'
  clear hr hr'
  by_cases hl : l.length = m.length
  · have HL := Lib.hid hl
    have q2 := nat_bne_f hl
    clear hl
    go_enter Try.func71, Try.ntmps71
    go_wp2_with fail
    go_loopw [17] (fun i wr => ∃ k : Nat, k ≤ l.length ∧ i = .int .i64 k ∧ Upto l m k ∧ Below w.heap.size w wr) (fun i _ => l.length - (intOf i).toNat)
    case atStart => exact ⟨0, by omega, rfl, Upto.zero _ _, Below.refl _ _⟩
    case round =>
      obtain ⟨k, hk, rfl, hu, hb⟩ := hrel
      by_cases hlt : k < l.length
      · have hlt' : k < m.length := by have := HL.out; omega
        obtain ⟨b, off, rfl, hbB, B1, cp, c0, c1, c2, _, hm⟩ := (Hr.out.below hb (Nat.le_refl _)).2 k hlt
        obtain ⟨b', off', rfl, hbB', B2, cp', c0', c1', c2', _, hm'⟩ := (Hr'.out.below hb (Nat.le_refl _)).2 k hlt'
        have Hm := Lib.hid hm
        have Hm' := Lib.hid hm'
        clear hm hm'
        have hi : (k : Int) < (l.length : Int) := by omega
        have hi' : (k : Int) < (m.length : Int) := by omega
        have hlw := hb.size
        have f0 : ∀ o, (wr.alloc o).cell? ⟨b', off' + k * 3, none⟩ = some (.string m[k].name) := fun o => (World.cell?_alloc_lt _ _ _ (by simp; omega)).trans c0'
        have f1 : ∀ o, (wr.alloc o).cell? ⟨b', off' + k * 3 + 1, none⟩ = some (.slice B2 m[k].args.length cp') := fun o => (World.cell?_alloc_lt _ _ _ (by simp; omega)).trans c1'
        have f2 : ∀ o, (wr.alloc o).cell? ⟨b', off' + k * 3 + 2, none⟩ = some (.int .i64 m[k].index) := fun o => (World.cell?_alloc_lt _ _ _ (by simp; omega)).trans c2'
        clear c0' c1' c2'
        by_cases he : l[k] = m[k]
        · have HE := Lib.hid he
          clear he
          go_wp2_with (go_at_call 72; refine (ctorSame_any l[k] m[k] _ _ _ _ _ (by exact Hm.out.keep (fun p hp => (keep_two _ _ p (by omega))) (by simp; omega)) (by exact Hm'.out.keep (fun p hp => (keep_two _ _ p (by omega))) (by simp; omega))).mono ?_; rw [eqv_t HE.out]; rintro e w1 ⟨rfl, hb1⟩; have hb2 := hb.trans ((below_two hb1).mono hb.size))
          go_roundw
          case rel => exact ⟨k + 1, by omega, by go_num, hu.step hlt hlt' HE.out, hb2⟩
          case measure => simp [intOf]; omega
        · have HN := Lib.hid he
          have HE := Lib.hid (ne_at hlt hlt' he)
          clear he
          go_wp2_with (go_at_call 72; refine (ctorSame_any l[k] m[k] _ _ _ _ _ (by exact Hm.out.keep (fun p hp => (keep_two _ _ p (by omega))) (by simp; omega)) (by exact Hm'.out.keep (fun p hp => (keep_two _ _ p (by omega))) (by simp; omega))).mono ?_; rw [eqv_f HN.out]; rintro e w1 ⟨rfl, hb1⟩; have hb2 := hb.trans ((below_two hb1).mono hb.size))
          go_ret
          exact ⟨ret_bool (eqv_f HE.out).symm, hb2⟩
      · go_wp2_with fail
        go_ret
        exact ⟨ret_bool (eqv_t (Upto.all (fun j h1 h2 _ => hu j h1 h2 (by omega)) HL.out)).symm, hb⟩
  · have HL := Lib.hid hl
    have q2 := nat_bne_t hl
    clear hl
    go_enter Try.func71, Try.ntmps71
    go_wp2_with fail
    go_ret
    exact ⟨ret_bool (eqv_f (fun e => HL.out (by rw [e]))).symm, Below.refl _ _⟩

theorem da_ne1 {c d : Da} (h : ¬ c.name = d.name) : ¬ c = d := fun e => h (by rw [e])
theorem da_ne2 {c d : Da} (h : ¬ c.ctors = d.ctors) : ¬ c = d := fun e => h (by rw [e])
theorem da_eq {c d : Da} (h1 : c.name = d.name) (h3 : c.ctors = d.ctors) : c = d := by cases c; cases d; simp_all

theorem dataSame_any (c d : Da) (A A' : Option Addr) (cap cap' : Nat) (w : World) (hr : RCts w w.heap.size A c.ctors) (hr' : RCts w w.heap.size A' d.ctors) :
    Calls Try.prog 51 #[.agg #[.string c.name, .slice A c.ctors.length cap], .agg #[.string d.name, .slice A' d.ctors.length cap']] w fun e w' => e = .returned (.bool (eqv c d)) ∧ Below w.heap.size w w' := by
  have Hr := Lib.hid hr
  have Hr' := Lib.hid hr'
  clear hr hr'
  by_cases h1 : c.name = d.name
  · have s1 := str_eq_t h1
    have H1 := Lib.hid h1
    clear h1
    go_enter Try.func51, Try.ntmps51
    go_wp2_with (go_at_call 71; refine (equalCts _ _ _ _ _ _ _ (by exact Hr.out.keep (keep_two _ _) (by simp; omega)) (by exact Hr'.out.keep (keep_two _ _) (by simp; omega))).mono ?_; rintro e w1 ⟨rfl, hb⟩; obtain ⟨hc, hfz⟩ := bcell hb)
    go_ret
    refine ⟨ret_bool ?_, below_two hb⟩
    by_cases h3 : c.ctors = d.ctors
    · rw [eqv_t h3, eqv_t (da_eq H1.out h3)]
    · rw [eqv_f h3, eqv_f (da_ne2 h3)]
  · have s1 := str_eq_f h1
    have H1 := Lib.hid h1
    clear h1
    go_enter Try.func51, Try.ntmps51
    go_wp2_with fail
    go_ret
    exact ⟨ret_bool (eqv_f (da_ne1 H1.out)).symm, ((Below.refl _ _).alloc (Nat.le_refl _) _).alloc (by simp) _⟩

set_option maxHeartbeats 800000 in
theorem equalDas (A A' : Option Addr) (l m : List Da) (cap cap' : Nat) (w : World) (hr : RDas w w.heap.size A l) (hr' : RDas w w.heap.size A' m) :
    Calls Try.prog 50 #[.slice A l.length cap, .slice A' m.length cap', .func (.func 51) #[] #[]] w fun e w' => e = .returned (.bool (eqv l m)) ∧ Below w.heap.size w w' := by
  have hn := hr.1
  have hn' := hr'.1
  unfold maxLen at hn hn'
  have Hr := Lib.hid hr
  have Hr' := Lib.hid hr'
  clear hr hr'
  by_cases hl : l.length = m.length
  · have HL := Lib.hid hl
    have q2 := nat_bne_f hl
    clear hl
    go_enter Try.func50, Try.ntmps50
    go_wp2_with fail
    go_loopw [17] (fun i wr => ∃ k : Nat, k ≤ l.length ∧ i = .int .i64 k ∧ Upto l m k ∧ Below w.heap.size w wr) (fun i _ => l.length - (intOf i).toNat)
    case atStart => exact ⟨0, by omega, rfl, Upto.zero _ _, Below.refl _ _⟩
    case round =>
      obtain ⟨k, hk, rfl, hu, hb⟩ := hrel
      by_cases hlt : k < l.length
      · have hlt' : k < m.length := by have := HL.out; omega
        obtain ⟨b, off, rfl, hbB, B1, cp, c0, c1, _, hm⟩ := (Hr.out.below hb (Nat.le_refl _)).2 k hlt
        obtain ⟨b', off', rfl, hbB', B2, cp', c0', c1', _, hm'⟩ := (Hr'.out.below hb (Nat.le_refl _)).2 k hlt'
        have Hm := Lib.hid hm
        have Hm' := Lib.hid hm'
        clear hm hm'
        have hi : (k : Int) < (l.length : Int) := by omega
        have hi' : (k : Int) < (m.length : Int) := by omega
        have hlw := hb.size
        have f0 : ∀ o, (wr.alloc o).cell? ⟨b', off' + k * 2, none⟩ = some (.string m[k].name) := fun o => (World.cell?_alloc_lt _ _ _ (by simp; omega)).trans c0'
        have f1 : ∀ o, (wr.alloc o).cell? ⟨b', off' + k * 2 + 1, none⟩ = some (.slice B2 m[k].ctors.length cp') := fun o => (World.cell?_alloc_lt _ _ _ (by simp; omega)).trans c1'
        clear c0' c1'
        by_cases he : l[k] = m[k]
        · have HE := Lib.hid he
          clear he
          go_wp2_with (go_at_call 51; refine (dataSame_any l[k] m[k] _ _ _ _ _ (by exact Hm.out.keep (fun p hp => (keep_two _ _ p (by omega))) (by simp; omega)) (by exact Hm'.out.keep (fun p hp => (keep_two _ _ p (by omega))) (by simp; omega))).mono ?_; rw [eqv_t HE.out]; rintro e w1 ⟨rfl, hb1⟩; have hb2 := hb.trans ((below_two hb1).mono hb.size))
          go_roundw
          case rel => exact ⟨k + 1, by omega, by go_num, hu.step hlt hlt' HE.out, hb2⟩
          case measure => simp [intOf]; omega
        · have HN := Lib.hid he
          have HE := Lib.hid (ne_at hlt hlt' he)
          clear he
          go_wp2_with (go_at_call 51; refine (dataSame_any l[k] m[k] _ _ _ _ _ (by exact Hm.out.keep (fun p hp => (keep_two _ _ p (by omega))) (by simp; omega)) (by exact Hm'.out.keep (fun p hp => (keep_two _ _ p (by omega))) (by simp; omega))).mono ?_; rw [eqv_f HN.out]; rintro e w1 ⟨rfl, hb1⟩; have hb2 := hb.trans ((below_two hb1).mono hb.size))
          go_ret
          exact ⟨ret_bool (eqv_f HE.out).symm, hb2⟩
      · go_wp2_with fail
        go_ret
        exact ⟨ret_bool (eqv_t (Upto.all (fun j h1 h2 _ => hu j h1 h2 (by omega)) HL.out)).symm, hb⟩
  · have HL := Lib.hid hl
    have q2 := nat_bne_t hl
    clear hl
    go_enter Try.func50, Try.ntmps50
    go_wp2_with fail
    go_ret
    exact ⟨ret_bool (eqv_f (fun e => HL.out (by rw [e]))).symm, Below.refl _ _⟩

theorem worldSame_impl (A A' : Option Addr) (l m : List Da) (cap cap' : Nat) (w : World) (hr : RDas w w.heap.size A l) (hr' : RDas w w.heap.size A' m) :
    Calls Try.prog 19 #[.slice A l.length cap, .slice A' m.length cap'] w fun e w' => e = .returned (.bool (eqv l m)) ∧ Below w.heap.size w w' := by
  have Hr := Lib.hid hr
  have Hr' := Lib.hid hr'
  clear hr hr'
  go_enter Try.func19, Try.ntmps19
  go_wp2_with (go_at_call 50; refine (equalDas _ _ _ _ _ _ _ Hr.out Hr'.out).mono ?_; rintro e w1 ⟨rfl, hb⟩)
  go_ret
  exact ⟨rfl, hb⟩

end Go.Proofs.Ythebdlejoficmaa
