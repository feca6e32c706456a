/-
  The function FnCtorIndex returns true for every list of bytes, and it reads behind the call as it read before. No condition.
-/
import Derived.Test.YtholdmdkhbhokabG06
namespace Go.Proofs.Ytholdmdkhbhokab
open Go.RowKit Go.Deep
open Go.ChangeShapes Go.WideShapes Go.ChangeAt
set_option maxRecDepth 100000
set_option linter.unusedVariables false

theorem BoxT.at_ {w w' : World} {b : Nat} {t : Ty} (h : BoxT w b t) (hb : Below w.heap.size w w') : BoxT w' b t := h.keep (hb.block b h.lt)
theorem inB_ctR {l : List Da} {d k : Nat} {i : Int} (h : TyOK l ⟨d, i⟩) (hd : d < l.length) (hk : k < l[d].ctors.length) : inB (ctR l ⟨d, i⟩) k = fitsB l[d].ctors[k].index i := by
  unfold inB
  rw [ctR_data h hd]
  by_cases hf : fitsB l[d].ctors[k].index i = true
  · rw [hf]; exact dec_t (mem_of_fits hk hf _ hk (Nat.le_refl _))
  · have hf' : fitsB l[d].ctors[k].index i = false := by simpa using hf
    rw [hf']
    refine dec_f (fun hm => ?_)
    obtain ⟨m, hm1, e, hm2⟩ := fits_of_mem _ (Nat.le_refl _) hm
    have : k = m := by omega
    subst this
    exact hf hm2
theorem OInts.read {w : World} {lo : Nat} {v : Value} {xs : List Int} (h : OInts w lo v xs) (hl : xs.length ≤ maxLen) : ∃ A cap, v = .slice A xs.length cap ∧ RInts w A xs := by
  have h' : w.ownsRow lo 3 1 v xs.length (xs.map (Value.int .i64)) := h
  rcases h'.2 with ⟨rfl, h0⟩ | ⟨g, cap, cur, rfl, hb, hg, hnc, hcm, hcs, htake⟩
  · exact ⟨none, 0, by rw [h0], hl, fun k hk => absurd hk (by omega)⟩
  · refine ⟨_, cap, rfl, hl, fun k hk => ⟨g, 0, rfl, own_lt h', ?_⟩⟩
    rw [Nat.zero_add, h'.cellAt k (by omega), List.getElem?_map, List.getElem?_eq_getElem hk]; rfl

set_option maxHeartbeats 3200000 in
theorem ctorIdx_law (n cap : Nat) (A : Option Addr) (w : World) (hn : n ≤ maxLen) (hc : n ≤ cap) (h : RBy w w.heap.size A n) :
    Calls Try.prog 5 #[.slice A n cap] w fun e w' => e = .returned (.bool true) ∧ Below w.heap.size w w' := by
  have HM := Lib.hid (draw13_any n cap A w hn hc h)
  unfold maxLen at hn
  clear h hc
  by_cases hbig : n ≤ 1048576
  · have hbI : (n : Int) ≤ 1048576 := by omega
    go_enter Try.func5, Try.ntmps5
    go_wp2_with fail
    refine (HM.out).mono ?_
    rintro e w1 ⟨v, l, t, rfl, hli, hl, hb⟩
    obtain ⟨Aw, cw, rfl, hrd⟩ := hli.form
    have HRW : Hid (RDas (w1.alloc (.cells #[.int .i64 t.data, .int .i64 t.index] 33)) (w1.alloc (.cells #[.int .i64 t.data, .int .i64 t.index] 33)).heap.size Aw l) := hrd.at_ ((Below.refl _ _).alloc (Nat.le_refl _) _)
    have HBX : Hid (BoxT (w1.alloc (.cells #[.int .i64 t.data, .int .i64 t.index] 33)) w1.heap.size t) := heap_alloc_new w1 _
    have HB : Hid (Below w.heap.size w (w1.alloc (.cells #[.int .i64 t.data, .int .i64 t.index] 33))) := hb.alloc hb.size _
    clear hrd hli hb HM
    go_wp2_with fail
    generalize (w1.alloc (.cells #[.int .i64 t.data, .int .i64 t.index] 33)) = wa at HRW HBX HB ⊢
    refine (ctors_impl _ l _ t _ HRW.out).mono ?_
    rintro e w2 ⟨v5, rfl, ho5, hb2⟩
    have hct := ctR_len l t
    obtain ⟨A5, c5, rfl, hr5⟩ := ho5.read (by unfold maxLen; omega)
    have HR5 := Lib.hid hr5
    have HRW2 := Lib.hid (HRW.out.at_ hb2)
    have HBX2 := Lib.hid (HBX.out.at_ hb2)
    have HB2 := Lib.hid (below_after HB.out hb2 HB.out.size)
    have x0 := HBX2.out.c0
    have x1 := HBX2.out.c1
    clear ho5 hr5 hb2 HRW HBX HB
    go_wp2_with fail
    refine (ctors_spec _ l _ t _ HRW2.out).mono ?_
    rintro e w3 ⟨v6, rfl, ho6, hb3⟩
    obtain ⟨A6, c6, rfl, hr6⟩ := ho6.read (by unfold maxLen; omega)
    have HR6 := Lib.hid hr6
    have HR5' := Lib.hid (HR5.out.at_ hb3)
    have HRW3 := Lib.hid (HRW2.out.at_ hb3)
    have HBX3 := Lib.hid (HBX2.out.at_ hb3)
    have HB3 := Lib.hid (below_after HB2.out hb3 HB2.out.size)
    clear ho6 hr6 hb3 HRW2 HBX2 HB2 HR5 x0 x1
    go_wp2_with fail
    refine (ptInts_same _ _ _ _ _ _ HR5'.out HR6.out).mono ?_
    rintro e w4 ⟨rfl, hb4⟩
    have HR5 := Lib.hid (HR5'.out.at_ hb4)
    have HRW4 := Lib.hid (HRW3.out.at_ hb4)
    have HBX4 := Lib.hid (HBX3.out.at_ hb4)
    have HB4 := Lib.hid (below_after HB3.out hb4 HB3.out.size)
    have x0 := HBX4.out.c0
    have x1 := HBX4.out.c1
    clear hb4 HRW3 HBX3 HB3 HR5' HR6
    by_cases hok : TyOK l t
    · go_wp2_with fail
      refine (typeI_yes HRW4.out hok).mono ?_
      rintro e w5 ⟨rfl, hb5⟩
      have HR5b := Lib.hid (HR5.out.at_ hb5)
      have HRW5 := Lib.hid (HRW4.out.at_ hb5)
      have HBX5 := Lib.hid (HBX4.out.at_ hb5)
      have HB5 := Lib.hid (below_after HB4.out hb5 HB4.out.size)
      have y0 := HBX5.out.c0
      have y1 := HBX5.out.c1
      clear hb5 HRW4 HBX4 HB4 HR5 x0 x1
      rcases ty_cases hok with h1 | ⟨d, h1, hd⟩
      · have q := ieq_t h1
        clear hok h1
        go_wp2_with fail
        refine (ctors_spec _ l _ t _ HRW5.out).mono ?_
        rintro e w6 ⟨v6, rfl, ho6, hb6⟩
        obtain ⟨A6, c6, rfl, hr6⟩ := ho6.read (by unfold maxLen; omega)
        have HR6 := Lib.hid hr6
        have HR5' := Lib.hid (HR5b.out.at_ hb6)
        have HB6 := Lib.hid (below_after HB5.out hb6 HB5.out.size)
        clear ho6 hr6 hb6
        go_wp2_with fail
        refine (ptInts_same _ _ _ _ _ _ HR5'.out HR6.out).mono ?_
        rintro e w7 ⟨rfl, hb7⟩
        have HF := Lib.hid (below_after HB6.out hb7 HB6.out.size)
        clear hb7
        go_wp2_with fail
        go_ret
        exact ⟨rfl, HF.out⟩
      · obtain ⟨td, ti⟩ := t
        simp only at h1
        subst h1
        have h4 := ty_four hok hd
        have HIN := Lib.hid (fun k hk => inB_ctR hok hd (k := k) hk)
        obtain ⟨bw, ow, rfl, hbB, A', cp, c0, c1, _, hcts⟩ := HRW5.out.2 d hd
        have HCT := Lib.hid hcts
        have HC1 := Lib.hid c1
        have hll := HRW5.out.1
        unfold maxLen at hll
        have q : ((d : Int) == -1) = false := ieq_f (by omega)
        have hdI : (d : Int) < (l.length : Int) := by omega
        have hd0 : (0 : Int) ≤ (d : Int) := by omega
        clear hok hcts c0
        go_wp2_with fail
        go_loopw [6] (fun i wr => ∃ k : Nat, k ≤ l[d].ctors.length ∧ i = .int .i64 k ∧ Below w5.heap.size w5 wr) (fun i _ => l[d].ctors.length - (intOf i).toNat)
        case atStart => exact ⟨0, by omega, rfl, Below.refl _ _⟩
        case round =>
          clear y0 y1 c1
          obtain ⟨k, hk, rfl, hbr⟩ := hrel
          have hbx := HBX5.out.at_ hbr
          have y0 := hbx.c0
          have y1 := hbx.c1
          have c1 : wr.cell? ⟨bw, ow + d * 2 + 1, none⟩ = some (.slice A' l[d].ctors.length cp) := (hbr.cell (p := ⟨bw, ow + d * 2 + 1, none⟩) hbB).trans HC1.out
          by_cases hlt : k < l[d].ctors.length
          · have hkI : (k : Int) < (l[d].ctors.length : Int) := by omega
            obtain ⟨bc, oc, rfl, hbc, D, dp, n0, n1, n2, _⟩ := (HCT.out.keep (fun p hp => hbr.cell hp) hbr.size).2 k hlt
            have HK := Lib.hid (HIN.out k hlt)
            have HRr := Lib.hid (HR5b.out.at_ hbr)
            generalize l[d].ctors[k].index = x at n2 HK
            by_cases e0 : x = 0
            · have HV : Hid (inB (ctR l ⟨d, ti⟩) k = true) := HK.out.trans (fits_t (.inl e0)).symm
              have q0 := ieq_t e0
              clear e0
              go_wp2_with fail
              refine (ptIn_any _ _ _ _ true HV.out _ HRr.out).mono ?_
              rintro e w6 ⟨rfl, rfl⟩
              go_wp2_with fail
              go_roundw
              case rel => exact ⟨k + 1, by omega, by go_num, hbr⟩
              case measure => simp [intOf]; omega
            · have q0 := ieq_f e0
              by_cases e1 : ti = 0
              · have HV : Hid (inB (ctR l ⟨d, ti⟩) k = true) := HK.out.trans (fits_t (.inr (.inl e1))).symm
                have q1 := ieq_t e1
                clear e0 e1
                go_wp2_with fail
                refine (ptIn_any _ _ _ _ true HV.out _ HRr.out).mono ?_
                rintro e w6 ⟨rfl, rfl⟩
                go_wp2_with fail
                go_roundw
                case rel => exact ⟨k + 1, by omega, by go_num, hbr⟩
                case measure => simp [intOf]; omega
              · have q1 := ieq_f e1
                by_cases e2 : x = ti
                · have HV : Hid (inB (ctR l ⟨d, ti⟩) k = true) := HK.out.trans (fits_t (.inr (.inr e2))).symm
                  have q2 := ieq_t e2
                  clear e0 e1 e2
                  go_wp2_with fail
                  refine (ptIn_any _ _ _ _ true HV.out _ HRr.out).mono ?_
                  rintro e w6 ⟨rfl, rfl⟩
                  go_wp2_with fail
                  go_roundw
                  case rel => exact ⟨k + 1, by omega, by go_num, hbr⟩
                  case measure => simp [intOf]; omega
                · have HV : Hid (inB (ctR l ⟨d, ti⟩) k = false) := HK.out.trans (fits_f (fun h => h.elim e0 (fun h => h.elim e1 e2))).symm
                  have q2 := ieq_f e2
                  clear e0 e1 e2
                  go_wp2_with fail
                  refine (ptIn_any _ _ _ _ false HV.out _ HRr.out).mono ?_
                  rintro e w6 ⟨rfl, rfl⟩
                  go_wp2_with fail
                  go_roundw
                  case rel => exact ⟨k + 1, by omega, by go_num, hbr⟩
                  case measure => simp [intOf]; omega
          · have hkI : (l[d].ctors.length : Int) ≤ (k : Int) := by omega
            have HF := Lib.hid (below_after HB5.out hbr HB5.out.size)
            go_wp2_with fail
            go_ret
            exact ⟨rfl, HF.out⟩
    · go_wp2_with fail
      refine (typeI_no HRW4.out hok).mono ?_
      rintro e w5 ⟨rfl, hb5⟩
      have HR5b := Lib.hid (HR5.out.at_ hb5)
      have HRW5 := Lib.hid (HRW4.out.at_ hb5)
      have HBX5 := Lib.hid (HBX4.out.at_ hb5)
      have HB5 := Lib.hid (below_after HB4.out hb5 HB4.out.size)
      have y0 := HBX5.out.c0
      have y1 := HBX5.out.c1
      clear hb5 HRW4 HBX4 HB4 HR5 hok
      go_wp2_with fail
      refine (ctors_spec _ l _ t _ HRW5.out).mono ?_
      rintro e w6 ⟨v6, rfl, ho6, hb6⟩
      obtain ⟨A6, c6, rfl, hr6⟩ := ho6.read (by unfold maxLen; omega)
      have HR6 := Lib.hid hr6
      have HR5' := Lib.hid (HR5b.out.at_ hb6)
      have HB6 := Lib.hid (below_after HB5.out hb6 HB5.out.size)
      clear ho6 hr6 hb6
      go_wp2_with fail
      refine (ptInts_same _ _ _ _ _ _ HR5'.out HR6.out).mono ?_
      rintro e w7 ⟨rfl, hb7⟩
      have HF := Lib.hid (below_after HB6.out hb7 HB6.out.size)
      clear hb7
      go_wp2_with fail
      go_ret
      exact ⟨rfl, HF.out⟩
  · have hbI : (1048576 : Int) < (n : Int) := by omega
    go_enter Try.func5, Try.ntmps5
    go_wp2_with fail
    go_ret
    exact ⟨rfl, Below.refl _ _⟩
end Go.Proofs.Ytholdmdkhbhokab
