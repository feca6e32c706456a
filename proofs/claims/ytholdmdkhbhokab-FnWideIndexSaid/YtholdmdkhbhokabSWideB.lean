/-
  The function FnWideIndex: the walk. No statement is proved here.
-/
import Derived.Test.YtholdmdkhbhokabSCtorsLaw
import Derived.Test.YtholdmdkhbhokabSLeastD
namespace Go.Proofs.Ytholdmdkhbhokab
open Go.RowKit Go.Deep
open Go.ChangeShapes Go.WideShapes Go.ChangeAt
set_option maxRecDepth 100000
set_option linter.unusedVariables false

theorem Dk_wide {l : List Da} : ∀ k (t t' : Ty), (t' = t ∨ t' = ⟨t.data, 0⟩) → Dk (mkF l) k t → Dk (mkF l) k t'
  | 0, _, _, _, h => h.elim
  | k + 1, t, t', hw, h => by
    rcases hw with rfl | rfl
    · exact h
    · rcases h with h0 | ⟨d, hd, m, hm, h1, h2, h3⟩
      · exact .inl h0
      · refine .inr ⟨d, hd, m, hm, h1, by unfold fitsB; exact decide_eq_true (.inr (.inl rfl)), fun a' ha' => ?_⟩
        unfold argT at ha'
        obtain ⟨b, hb, rfl⟩ := List.mem_map.1 ha'
        have h4 := h3 (argOf l[d].ctors[m] t.index b) (List.mem_map.2 ⟨b, hb, rfl⟩)
        refine Dk_wide k _ _ ?_ h4
        by_cases hs : b.index = -1
        · rw [argOf_same hs, argOf_same hs]
          unfold resI
          by_cases hc : l[d].ctors[m].index = 0
          · rw [if_pos hc, if_pos hc]; exact .inr rfl
          · rw [if_neg hc, if_neg hc]; exact .inl rfl
        · rw [argOf_other hs, argOf_other hs]; exact .inl rfl
theorem ldep_wide {l : List Da} {t : Ty} (h : 0 < ldep l t) : 0 < ldep l ⟨t.data, 0⟩ ∧ ldep l ⟨t.data, 0⟩ ≤ ldep l t := by
  rcases ldep_is l t with ⟨h0, _⟩ | ⟨h0, h1, _⟩
  · omega
  · have h2 := Dk_wide _ _ _ (.inr rfl) h1
    rcases ldep_is l ⟨t.data, 0⟩ with ⟨g0, g1⟩ | ⟨g0, g1, g2⟩
    · exact absurd h2 (g1 _)
    · refine ⟨g0, ?_⟩
      rcases Nat.lt_or_ge (ldep l t).toNat (ldep l ⟨t.data, 0⟩).toNat with hlt | hge
      · exact absurd h2 (g2 _ hlt)
      · omega
theorem inh_iff {l : List Da} {t : Ty} (ht : TyOK l t) : Inh l t ↔ 0 < ldep l t := by
  constructor
  · rintro ⟨_, k, hk⟩
    rcases ldep_is l t with ⟨_, g1⟩ | ⟨g0, _⟩
    · exact absurd hk (g1 _)
    · exact g0
  · intro h
    rcases ldep_is l t with ⟨g0, _⟩ | ⟨_, g1, _⟩
    · omega
    · exact ⟨ok_tys ht, _, g1⟩
theorem lbR_yes {l : List Da} {t : Ty} (h : lbR l t = true) : TyOK l t ∧ 0 < ldR l t ∧ ldR l t = ldep l t := by
  unfold lbR at h
  have h' : TyOK l t ∧ Inh l t := by
    apply Classical.byContradiction
    intro hn
    rw [dec_f hn] at h; cases h
  have e : ldR l t = ldep l t := by unfold ldR; rw [dec_t h'.1]; rfl
  exact ⟨h'.1, by rw [e]; exact (inh_iff h'.1).1 h'.2, e⟩
theorem lbR_wide {l : List Da} {t : Ty} (h : lbR l t = true) : lbR l ⟨t.data, 0⟩ = true ∧ ldR l ⟨t.data, 0⟩ ≤ ldR l t := by
  obtain ⟨h1, h2, h3⟩ := lbR_yes h
  have hw := ldep_wide (by rw [← h3]; exact h2 : 0 < ldep l t)
  have ho := ty_wide h1
  refine ⟨dec_t ⟨ho, (inh_iff ho).2 hw.1⟩, ?_⟩
  have e : ldR l ⟨t.data, 0⟩ = ldep l ⟨t.data, 0⟩ := by unfold ldR; rw [dec_t ho]; rfl
  rw [e, h3]; exact hw.2

set_option maxHeartbeats 3200000 in
theorem wideB_law (n cap : Nat) (A : Option Addr) (w : World) (hn : n ≤ maxLen) (hc : n ≤ cap) (h : RBy w w.heap.size A n) :
    Calls Try.prog 9 #[.slice A n cap] w fun e w' => e = .returned (.bool true) ∧ Below w.heap.size w w' := by
  have HM := Lib.hid (draw22_any n cap A w hn hc h)
  unfold maxLen at hn
  clear h hc
  by_cases hbig : n ≤ 1048576
  · have hbI : (n : Int) ≤ 1048576 := by omega
    go_enter Try.func9, Try.ntmps9
    go_wp2_with fail
    refine (HM.out).mono ?_
    rintro e w1 ⟨v, l, t, rfl, hli, hl, hb⟩
    obtain ⟨Aw, cw, rfl, hrd⟩ := hli.form
    have HRW : Hid (RDas (w1.alloc (.cells #[.int .i64 t.data, .int .i64 t.index] 33)) (w1.alloc (.cells #[.int .i64 t.data, .int .i64 t.index] 33)).heap.size Aw l) := hrd.at_ ((Below.refl _ _).alloc (Nat.le_refl _) _)
    have HBX : Hid (BoxT (w1.alloc (.cells #[.int .i64 t.data, .int .i64 t.index] 33)) w1.heap.size t) := heap_alloc_new w1 _
    have HB : Hid (Below w.heap.size w (w1.alloc (.cells #[.int .i64 t.data, .int .i64 t.index] 33))) := hb.alloc hb.size _
    clear hrd hli hb HM
    go_wp2_with fail
    generalize (w1.alloc (.cells #[.int .i64 t.data, .int .i64 t.index] 33)) = wa at HRW HBX HB ⊢
    refine (least_impl _ l _ t _ HRW.out).mono ?_
    rintro e w2 ⟨rfl, hb2⟩
    have HRW2 := Lib.hid (HRW.out.at_ hb2)
    have HBX2 := Lib.hid (HBX.out.at_ hb2)
    have HB2 := Lib.hid (below_after HB.out hb2 HB.out.size)
    have x0 := HBX2.out.c0
    have x1 := HBX2.out.c1
    clear hb2 HRW HBX HB
    go_wp2_with fail
    refine (least_spec _ l _ t _ HRW2.out).mono ?_
    rintro e w3 ⟨rfl, hb3⟩
    have HRW3 := Lib.hid (HRW2.out.at_ hb3)
    have HBX3 := Lib.hid (HBX2.out.at_ hb3)
    have HB3 := Lib.hid (below_after HB2.out hb3 HB2.out.size)
    have y0 := HBX3.out.c0
    have y1 := HBX3.out.c1
    clear hb3 HRW2 HBX2 HB2 x0 x1
    have HWI : Hid (lbR l t = true → lbR l ⟨t.data, 0⟩ = true ∧ ldR l ⟨t.data, 0⟩ ≤ ldR l t) := lbR_wide
    generalize hN : ldR l t = N at HWI
    generalize hBB : lbR l t = BB at HWI
    clear hN hBB
    cases BB
    · go_wp2_with fail
      go_ret
      exact ⟨rfl, HB3.out⟩
    · go_wp2_with fail
      refine (least_impl _ l _ ⟨t.data, 0⟩ _ HRW3.out).mono ?_
      rintro e w4 ⟨rfl, hb4⟩
      have HF := Lib.hid (below_after HB3.out hb4 HB3.out.size)
      have hle := (HWI.out trivial).2
      rw [(HWI.out trivial).1]
      generalize ldR l ⟨t.data, 0⟩ = M at hle
      clear hb4
      go_wp2_with fail
      go_ret
      exact ⟨rfl, HF.out⟩
  · have hbI : (1048576 : Int) < (n : Int) := by omega
    go_enter Try.func9, Try.ntmps9
    go_wp2_with fail
    go_ret
    exact ⟨rfl, Below.refl _ _⟩
end Go.Proofs.Ytholdmdkhbhokab
