/-
  When two lists of data types are equal: the document's function. No statement is proved here.
-/
import Derived.Test.YthebdlejoficmaaSame3
namespace Go.Proofs.Ythebdlejoficmaa
open Go.RowKit Go.Sort
set_option maxRecDepth 100000
set_option linter.unusedVariables false

set_option maxHeartbeats 1600000 in
theorem worldSame_spec (A A' : Option Addr) (l m : List Da) (cap cap' : Nat) (w : World) (hr : RDas w w.heap.size A l) (hr' : RDas w w.heap.size A' m) :
    Calls Try.prog 18 #[.slice A l.length cap, .slice A' m.length cap'] w fun e w' => e = .returned (.bool (eqv l m)) ∧ Below w.heap.size w w' := by
  have hn := hr.1
  have hn' := hr'.1
  unfold maxLen at hn hn'
  have Hr := Lib.hid hr
  have Hr' := Lib.hid hr'
  clear hr hr'
  by_cases hl : l.length = m.length
  · have HL := Lib.hid hl
    have q2 := nat_bne_f hl
    clear hl
    go_enter Try.func18, Try.ntmps18
    go_wp2_with fail
    go_loopw [5] (fun i wr => ∃ k : Nat, k ≤ l.length ∧ i = .int .i64 k ∧ Upto l m k ∧ Below w.heap.size w wr) (fun i _ => l.length - (intOf i).toNat)
    case atStart => exact ⟨0, by omega, rfl, Upto.zero _ _, Below.refl _ _⟩
    case round =>
      obtain ⟨k, hk, rfl, hu, hb⟩ := hrel
      by_cases hlt : k < l.length
      · have hlt' : k < m.length := by have := HL.out; omega
        have hr1 := Hr.out.below hb (Nat.le_refl _)
        have hr2 := Hr'.out.below hb (Nat.le_refl _)
        obtain ⟨b, off, rfl, hbB, B1, cp, c0, c1, _, hm⟩ := hr1.2 k hlt
        obtain ⟨b', off', rfl, hbB', B2, cp', c0', c1', _, hm'⟩ := hr2.2 k hlt'
        clear hr1 hr2
        have hnl := hm.1
        have hnl' := hm'.1
        unfold maxLen at hnl hnl'
        have Hm := Lib.hid (hm.keep (w' := w) (fun p hp => (hb.cell hp).symm) (Nat.le_refl _))
        have Hm' := Lib.hid (hm'.keep (w' := w) (fun p hp => (hb.cell hp).symm) (Nat.le_refl _))
        clear hm hm'
        have hi : (k : Int) < (l.length : Int) := by omega
        have hi' : (k : Int) < (m.length : Int) := by omega
        have HB2 : Hid (∀ n, Below w.heap.size w (wr.drewN n)) := fun n => below_drawn hb n
        have HC := Lib.hid ((hb.cell (p := ⟨b, off + k * 2 + 1, none⟩) hbB).symm.trans c1)
        have HC' := Lib.hid ((hb.cell (p := ⟨b', off' + k * 2 + 1, none⟩) hbB').symm.trans c1')
        by_cases h1 : l[k].name = m[k].name
        · rw [← h1] at c0'
          have H1 := Lib.hid h1
          clear h1
          by_cases h2 : l[k].ctors.length = m[k].ctors.length
          · rw [← h2] at c1'
            have HL2 := Lib.hid h2
            clear h2
            go_wp2_with fail
            go_quiet (fail)
            go_wp2_with fail
            go_loopw [6] (fun i wi => ∃ j : Nat, j ≤ l[k].ctors.length ∧ i = .int .i64 j ∧ Upto l[k].ctors m[k].ctors j ∧ Below w.heap.size w wi) (fun i _ => l[k].ctors.length - (intOf i).toNat)
            case atStart => exact ⟨0, by omega, rfl, Upto.zero _ _, HB2.out _⟩
            case round =>
              obtain ⟨j, hj, rfl, hu2, hbi⟩ := hrel
              clear c0 c1 c0' c1' HB2 hb
              have c1 := (hbi.cell (p := ⟨b, off + k * 2 + 1, none⟩) hbB).trans HC.out
              have c1' := (hbi.cell (p := ⟨b', off' + k * 2 + 1, none⟩) hbB').trans HC'.out
              by_cases hjt : j < l[k].ctors.length
              · have hjt' : j < m[k].ctors.length := by have := HL2.out; omega
                obtain ⟨g, o, rfl, hgB, D1, ep, e0, e1, e2, _, hn1⟩ := (Hm.out.below hbi (Nat.le_refl _)).2 j hjt
                obtain ⟨g', o', rfl, hgB', D2, ep', e0', e1', e2', _, hn2⟩ := (Hm'.out.below hbi (Nat.le_refl _)).2 j hjt'
                have Hn1 := Lib.hid hn1
                have Hn2 := Lib.hid hn2
                clear hn1 hn2
                have hj1 : (j : Int) < (l[k].ctors.length : Int) := by omega
                have hj2 : (j : Int) < (m[k].ctors.length : Int) := by omega
                have d1 := cell_regrown c1
                have d1' := cell_regrown c1'
                have f0 := cell_regrown e0
                have f1 := cell_regrown e1
                have f2 := cell_regrown e2
                have f0' := cell_regrown e0'
                have f1' := cell_regrown e1'
                have f2' := cell_regrown e2'
                have HK1 : Hid (∀ d os, RTys (grow (redrawn wr d) os) (grow (redrawn wr d) os).heap.size D1 l[k].ctors[j].args) := fun d os => Hn1.out.keep (fun p hp => (below_regrown wr d os).cell (Nat.lt_of_lt_of_le hp hbi.size)) (Nat.le_trans hbi.size (below_regrown wr d os).size)
                have HK2 : Hid (∀ d os, RTys (grow (redrawn wr d) os) (grow (redrawn wr d) os).heap.size D2 m[k].ctors[j].args) := fun d os => Hn2.out.keep (fun p hp => (below_regrown wr d os).cell (Nat.lt_of_lt_of_le hp hbi.size)) (Nat.le_trans hbi.size (below_regrown wr d os).size)
                by_cases he : l[k].ctors[j] = m[k].ctors[j]
                · have HE := Lib.hid he
                  have hq := eqv_t he
                  clear he
                  go_wp2_with fail
                  clear c1 c1' e0 e1 e2 e0' e1' e2'
                  refine wp_region_quiet_below (by kernel_rfl) (by kernel_rfl) ?_
                  repeat (quiet_step (exact Calls.regrown_of (sameCtor_any l[k].ctors[j] m[k].ctors[j] _ _ _ _ _ (HK1.out _ _) (HK2.out _ _))))
                  refine wpQuiet_nil ?_
                  intro _ hw'
                  obtain ⟨⟨dq, osq⟩, hw''⟩ := hw'
                  subst hw''
                  have hb2 := hbi.trans ((below_regrown wr dq osq).mono hbi.size)
                  clear d1 d1' f0 f1 f2 f0' f1' f2'
                  go_wp2_with fail
                  go_roundw
                  case rel => exact ⟨j + 1, by omega, by go_num, hu2.step hjt hjt' HE.out, hb2⟩
                  case measure => simp [intOf]; omega
                · have HE := Lib.hid (ne_at hlt hlt' (da_ne2 (c := l[k]) (d := m[k]) (ne_at hjt hjt' he)))
                  have hq := eqv_f he
                  clear he
                  go_wp2_with fail
                  clear c1 c1' e0 e1 e2 e0' e1' e2'
                  refine wp_region_quiet_below (by kernel_rfl) (by kernel_rfl) ?_
                  repeat (quiet_step (exact Calls.regrown_of (sameCtor_any l[k].ctors[j] m[k].ctors[j] _ _ _ _ _ (HK1.out _ _) (HK2.out _ _))))
                  refine wpQuiet_nil ?_
                  intro _ hw'
                  obtain ⟨⟨dq, osq⟩, hw''⟩ := hw'
                  subst hw''
                  have hb2 := hbi.trans ((below_regrown wr dq osq).mono hbi.size)
                  clear d1 d1' f0 f1 f2 f0' f1' f2'
                  go_wp2_with fail
                  go_ret
                  exact ⟨ret_bool (eqv_f HE.out).symm, hb2⟩
              · go_wp2_with fail
                go_roundw
                case rel => exact ⟨k + 1, by omega, by go_num, hu.step hlt hlt' (da_eq H1.out (Upto.all (fun j h1 h2 _ => hu2 j h1 h2 (by omega)) HL2.out)), hbi⟩
                case measure => simp [intOf]; omega
          · have HE := Lib.hid (ne_at hlt hlt' (da_ne2 (c := l[k]) (d := m[k]) (fun e => h2 (by rw [e]))))
            have q3 := nat_bne_t h2
            have q3' : ¬ (l[k].ctors.length : Int) = (m[k].ctors.length : Int) := by omega
            clear h2
            go_wp2_with fail
            go_quiet (fail)
            go_wp2_with fail
            go_ret
            exact ⟨ret_bool (eqv_f HE.out).symm, HB2.out _⟩
        · have s1 := str_ne_t h1
          have s1' : ¬ l[k].name.toList = m[k].name.toList := fun e => h1 (toList_inj e)
          have HE := Lib.hid (ne_at hlt hlt' (da_ne1 h1))
          clear h1
          go_wp2_with fail
          go_quiet (fail)
          go_wp2_with fail
          go_ret
          exact ⟨ret_bool (eqv_f HE.out).symm, HB2.out _⟩
      · go_wp2_with fail
        go_ret
        exact ⟨ret_bool (eqv_t (Upto.all (fun j h1 h2 _ => hu j h1 h2 (by omega)) HL.out)).symm, hb⟩
  · have HL := Lib.hid hl
    have q2 := nat_bne_t hl
    clear hl
    go_enter Try.func18, Try.ntmps18
    go_wp2_with fail
    go_ret
    exact ⟨ret_bool (eqv_f (fun e => HL.out (by rw [e]))).symm, Below.refl _ _⟩
end Go.Proofs.Ythebdlejoficmaa
