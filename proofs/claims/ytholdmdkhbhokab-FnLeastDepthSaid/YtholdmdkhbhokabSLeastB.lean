/-
  The function FnLeastDepth: the walk. No statement is proved here.
-/
import Derived.Test.YtholdmdkhbhokabSLeastM
namespace Go.Proofs.Ytholdmdkhbhokab
open Go.RowKit Go.Deep
open Go.ChangeShapes Go.WideShapes Go.ChangeAt
set_option maxRecDepth 100000
set_option linter.unusedVariables false

theorem fine_succ {l : List Da} {L : List Ty} {k : Nat} {h : Bool} (hk : k < L.length) (hh : lbR l L[k] = h) (hf : Fine l L k) : h = true ↔ Fine l L (k + 1) := by
  constructor
  · intro e j hj hjk
    by_cases ee : j = k
    · subst ee; rw [hh]; exact e
    · exact hf j hj (by omega)
  · intro hF; rw [← hh]; exact hF k hk (by omega)
theorem fine_no {l : List Da} {L : List Ty} {k : Nat} (hf : ¬ Fine l L k) : ¬ Fine l L (k + 1) := fun h => hf (fun j hj hjk => h j hj (by omega))
theorem least_at {A : Option Addr} {l : List Da} {cap : Nat} (a b N : Int) (h : Bool) {w : World} (hr : RDas w w.heap.size A l) (hN : ldR l ⟨a, b⟩ = N) (hh : lbR l ⟨a, b⟩ = h) :
    Calls Try.prog 25 #[.slice A l.length cap, .agg #[.int .i64 a, .int .i64 b]] w fun e w' => e = .returned (.tuple #[.int .i64 N, .bool h]) ∧ Below w.heap.size w w' := by
  subst hN hh; exact least_impl A l cap ⟨a, b⟩ w hr
theorem inh_at {A : Option Addr} {l : List Da} {cap : Nat} {t : Ty} {w : World} (bv : Bool) (hr : RDas w w.heap.size A l) (hh : lbR l t = bv) :
    Calls Try.prog 27 #[.slice A l.length cap, .agg #[.int .i64 t.data, .int .i64 t.index]] w fun e w' => e = .returned (.bool bv) ∧ Below w.heap.size w w' := by
  subst hh; exact inh_impl A l cap t w hr

set_option maxHeartbeats 3200000 in
theorem leastB_law (n cap : Nat) (A : Option Addr) (w : World) (hn : n ≤ maxLen) (hc : n ≤ cap) (h : RBy w w.heap.size A n) :
    Calls Try.prog 8 #[.slice A n cap] w fun e w' => e = .returned (.bool true) ∧ Below w.heap.size w w' := by
  have HM := Lib.hid (draw22_any n cap A w hn hc h)
  unfold maxLen at hn
  clear h hc
  by_cases hbig : n ≤ 1048576
  · have hbI : (n : Int) ≤ 1048576 := by omega
    go_enter Try.func8, Try.ntmps8
    go_wp2_with fail
    refine (HM.out).mono ?_
    rintro e w1 ⟨v, l, t, rfl, hli, hl, hb⟩
    obtain ⟨Aw, cw, rfl, hrd⟩ := hli.form
    have HRW : Hid (RDas (w1.alloc (.cells #[.int .i64 t.data, .int .i64 t.index] 33)) (w1.alloc (.cells #[.int .i64 t.data, .int .i64 t.index] 33)).heap.size Aw l) := hrd.at_ ((Below.refl _ _).alloc (Nat.le_refl _) _)
    have HBX : Hid (BoxT (w1.alloc (.cells #[.int .i64 t.data, .int .i64 t.index] 33)) w1.heap.size t) := heap_alloc_new w1 _
    have HB : Hid (Below w.heap.size w (w1.alloc (.cells #[.int .i64 t.data, .int .i64 t.index] 33))) := hb.alloc hb.size _
    clear hrd hli hb HM
    go_wp2_with fail
    generalize (w1.alloc (.cells #[.int .i64 t.data, .int .i64 t.index] 33)) = wa at HRW HBX HB ⊢
    refine (least_impl _ l _ t _ HRW.out).mono ?_
    rintro e w2 ⟨rfl, hb2⟩
    have HRW2 := Lib.hid (HRW.out.at_ hb2)
    have HBX2 := Lib.hid (HBX.out.at_ hb2)
    have HB2 := Lib.hid (below_after HB.out hb2 HB.out.size)
    have x0 := HBX2.out.c0
    have x1 := HBX2.out.c1
    clear hb2 HRW HBX HB
    go_wp2_with fail
    refine (least_spec _ l _ t _ HRW2.out).mono ?_
    rintro e w3 ⟨rfl, hb3⟩
    have HRW3 := Lib.hid (HRW2.out.at_ hb3)
    have HBX3 := Lib.hid (HBX2.out.at_ hb3)
    have HB3 := Lib.hid (below_after HB2.out hb3 HB2.out.size)
    have y0 := HBX3.out.c0
    have y1 := HBX3.out.c1
    clear hb3 HRW2 HBX2 HB2 x0 x1
    obtain ⟨bv, hbv⟩ : ∃ bv, lbR l t = bv := ⟨_, rfl⟩
    have HBV := Lib.hid hbv
    have HNV : Hid (ldR l t = ldR l t) := rfl
    rw [hbv]
    generalize hN : ldR l t = N at HNV
    have HN := Lib.hid hN
    clear hbv hN HNV
    have hbb : (bv != bv) = false := by cases bv <;> rfl
    have hbe : (bv == bv) = true := by cases bv <;> rfl
    go_wp2_with fail
    refine (inh_at bv HRW3.out HBV.out).mono ?_
    rintro e w4 ⟨rfl, hb4⟩
    have HRW4 := Lib.hid (HRW3.out.at_ hb4)
    have HBX4 := Lib.hid (HBX3.out.at_ hb4)
    have HB4 := Lib.hid (below_after HB3.out hb4 HB3.out.size)
    have x0 := HBX4.out.c0
    have x1 := HBX4.out.c1
    clear hb4 HRW3 HBX3 HB3 y0 y1
    by_cases hok : TyOK l t
    · go_wp2_with fail
      refine (typeI_yes HRW4.out hok).mono ?_
      rintro e w5 ⟨rfl, hb5⟩
      have HRW5 := Lib.hid (HRW4.out.at_ hb5)
      have HBX5 := Lib.hid (HBX4.out.at_ hb5)
      have HB5 := Lib.hid (below_after HB4.out hb5 HB4.out.size)
      have y0 := HBX5.out.c0
      have y1 := HBX5.out.c1
      clear hb5 HRW4 HBX4 HB4 x0 x1
      by_cases h1 : t.data = -1
      · have q := ieq_t h1
        clear hok h1
        go_wp2_with fail
        refine (inh_at bv HRW5.out HBV.out).mono ?_
        rintro e w6 ⟨rfl, hb6⟩
        have HF := Lib.hid (below_after HB5.out hb6 HB5.out.size)
        clear hb6
        go_wp2_with fail
        go_ret
        exact ⟨rfl, HF.out⟩
      · have q := ieq_f h1
        have HEND : Hid (∀ b, Bst l t (ctR l t).length b → N = b ∧ (bv = true ↔ 0 < b)) := fun b hb => by
          have := bst_end hok h1 hb
          rw [HN.out, HBV.out] at this
          exact this
        clear hok h1
        go_wp2_with fail
        refine (ctors_impl _ l _ t _ HRW5.out).mono ?_
        rintro e w6 ⟨v6, rfl, ho6, hb6⟩
        have hct := ctR_len l t
        obtain ⟨A6, c6, rfl, hr6⟩ := ho6.read (by unfold maxLen; omega)
        have HR6 := Lib.hid hr6
        have HRW6 := Lib.hid (HRW5.out.at_ hb6)
        have HBX6 := Lib.hid (HBX5.out.at_ hb6)
        have HB6 := Lib.hid (below_after HB5.out hb6 HB5.out.size)
        clear ho6 hr6 hb6 HRW5 HBX5 HB5 y0 y1 q
        generalize hLC : ctR l t = LC at HR6 hct HEND
        have HLC := Lib.hid hLC
        clear hLC
        go_wp2_with fail
        go_loopw [9, 11] (fun v i wr => ∃ (k : Nat) (b : Int), k ≤ LC.length ∧ i = .int .i64 k ∧ v = .int .i64 b ∧ Hid (Bst l t k b) ∧ Below w6.heap.size w6 wr) (fun _ i _ => LC.length - (intOf i).toNat)
        case atStart => exact ⟨0, 0, by omega, rfl, rfl, Bst.zero l t, Below.refl _ _⟩
        case round =>
          obtain ⟨k, b, hk, rfl, rfl, HBS, hbr⟩ := hrel
          have hb0 := HBS.out.1
          have hb18 := HBS.out.2.1
          by_cases hlt : k < LC.length
          · have hkI : (k : Int) < (LC.length : Int) := by omega
            have hbx := HBX6.out.at_ hbr
            have y0 := hbx.c0
            have y1 := hbx.c1
            have hbxl := hbx.lt
            obtain ⟨bc, oc, rfl, hbc, g0⟩ := (HR6.out.at_ hbr).2 k hlt
            have HX : Hid ((ctR l t)[k]? = some LC[k]) := by unfold Hid; rw [HLC.out, List.getElem?_eq_getElem hlt]
            generalize LC[k] = x at g0 HX
            have HRWr := Lib.hid (HRW6.out.at_ hbr)
            have HT : Hid (Calls Try.prog 22 #[.slice Aw l.length cw, .agg #[.int .i64 t.data, .int .i64 t.index], .int .i64 x] wr.drew fun e w' => ∃ v, e = .returned v ∧ OTys w' wr.drew.heap.size v (agR l t x) (agR l t x).length ∧ Below wr.drew.heap.size wr.drew w') := args_impl _ l _ t x _ (HRWr.out.keep (fun _ _ => rfl) (Nat.le_refl _))
            have hla := agR_len l t x
            go_wp2_with fail
            go_region_held3 (fun w' => w'.cell? ⟨w1.heap.size, 0, none⟩ = some (.int .i64 t.data) ∧ w'.cell? ⟨w1.heap.size, 1, none⟩ = some (.int .i64 t.index) ∧ w'.cell? ⟨bc, oc + k, none⟩ = some (.int .i64 x)) (first | exact ⟨y0, y1, g0⟩ | exact ⟨p0, p1, p2⟩ | go_keep) (first | (go_at_call 22; (with_reducible refine (HT.out).mono ?_); rintro e w7 ⟨v7, rfl, ho7, hb7⟩; have hb7' : Below wr.heap.size wr w7 := ⟨hb7.os, hb7.tape, hb7.output, hb7.size, hb7.block⟩; have p0 := (hb7'.cell (p := ⟨w1.heap.size, 0, none⟩) hbxl).trans y0; have p1 := (hb7'.cell (p := ⟨w1.heap.size, 1, none⟩) hbxl).trans y1; have p2 := (hb7'.cell (p := ⟨bc, oc + k, none⟩) hbc).trans g0))
            all_goals
              obtain ⟨A7, c7, rfl, hr7⟩ := ho7.form (by unfold maxLen; omega)
              have HR7 := Lib.hid hr7
              have HRW7 := Lib.hid (HRWr.out.at_ hb7')
              have HB7 := Lib.hid (below_after hbr hb7' hbr.size)
              clear ho7 hr7 hb7 hb7' hbr p0 p1 p2 g0 y0 y1 hbx hbxl HT HRWr
              generalize hAL : agR l t x = L at HR7 hla
              have HAL := Lib.hid hAL
              clear hAL
              go_wp2_with fail
              go_loopw [13, 14, 15] (fun mv fv i wi => ∃ (j : Nat) (m : Int) (f : Bool), j ≤ L.length ∧ i = .int .i64 j ∧ mv = .int .i64 m ∧ fv = .bool f ∧ Hid (Grt l L j m) ∧ Hid (f = true ↔ Fine l L j) ∧ Below w7.heap.size w7 wi) (fun _ _ i _ => L.length - (intOf i).toNat)
              case atStart => exact ⟨0, 0, true, by omega, rfl, rfl, rfl, Grt.zero l L, (show true = true ↔ Fine l L 0 from ⟨fun _ j _ h => absurd h (by omega), fun _ => rfl⟩), Below.refl _ _⟩
              case round =>
                obtain ⟨j, m, f, hj, rfl, rfl, rfl, HG, HFN, hbi⟩ := hrel
                have hm0 := HG.out.1
                have hm17 := HG.out.2.1
                by_cases hjl : j < L.length
                · have hjI : (j : Int) < (L.length : Int) := by omega
                  obtain ⟨bd, od, rfl, hbd, k0, k1⟩ := (HR7.out.at_ hbi).2 j hjl
                  have HRWi := Lib.hid (HRW7.out.at_ hbi)
                  obtain ⟨hv, ehv⟩ : ∃ hv, lbR l L[j] = hv := ⟨_, rfl⟩
                  have HS1 : Hid (f = true → (hv = true ↔ Fine l L (j + 1))) := fun e => fine_succ hjl ehv (HFN.out.1 e)
                  have HS2 : Hid (f = false → ¬ Fine l L (j + 1)) := fun e => fine_no (fun hF => by have := HFN.out.2 hF; rw [e] at this; cases this)
                  have hGd := ldR_bd (l := l) (t := L[j])
                  have HG1 : Hid (m < ldR l L[j] → Grt l L (j + 1) (ldR l L[j])) := fun h => HG.out.up hjl h
                  have HG2 : Hid (ldR l L[j] ≤ m → Grt l L (j + 1) m) := fun h => HG.out.stay hjl h
                  have HLV : Hid (lbR l L[j] = hv) := ehv
                  clear ehv HFN
                  generalize L[j] = aa at k0 k1 hGd HG1 HG2 HLV
                  obtain ⟨a, b'⟩ := aa
                  obtain ⟨M, eM⟩ : ∃ M, ldR l ⟨a, b'⟩ = M := ⟨_, rfl⟩
                  have HMV := Lib.hid eM
                  rw [eM] at hGd HG1 HG2
                  clear eM
                  obtain ⟨hM0, hM17⟩ := hGd
                  simp only at k0 k1
                  by_cases hlt2 : m < M
                  all_goals
                    first
                      | have HGN : Hid (Grt l L (j + 1) M) := HG1.out hlt2
                      | (have HGN : Hid (Grt l L (j + 1) m) := HG2.out (by omega)
                         have hle2 : M ≤ m := by omega)
                    cases f
                    · have HFF : Hid (false = true ↔ Fine l L (j + 1)) := (show false = true ↔ Fine l L (j + 1) from ⟨(fun e => Bool.noConfusion e), fun hF => absurd hF (HS2.out rfl)⟩)
                      go_wp2_with fail
                      refine (least_at a b' M hv HRWi.out HMV.out HLV.out).mono ?_
                      rintro e w8 ⟨rfl, hb8⟩
                      have HB8 := Lib.hid (below_after hbi hb8 hbi.size)
                      clear hb8
                      go_wp2_with fail
                      go_roundw
                      case rel => exact ⟨j + 1, _, false, by omega, by go_num, rfl, rfl, HGN.out, HFF.out, HB8.out⟩
                      case measure => simp [intOf]; omega
                    · have HFF : Hid (hv = true ↔ Fine l L (j + 1)) := HS1.out rfl
                      go_wp2_with fail
                      refine (least_at a b' M hv HRWi.out HMV.out HLV.out).mono ?_
                      rintro e w8 ⟨rfl, hb8⟩
                      have HB8 := Lib.hid (below_after hbi hb8 hbi.size)
                      clear hb8
                      go_wp2_with fail
                      go_roundw
                      case rel => exact ⟨j + 1, _, hv, by omega, by go_num, rfl, rfl, HGN.out, HFF.out, HB8.out⟩
                      case measure => simp [intOf]; omega
                · have hjI : (L.length : Int) ≤ (j : Int) := by omega
                  have hje : j = L.length := by omega
                  have HBW := Lib.hid (below_after HB7.out hbi HB7.out.size)
                  have HG' : Hid (Grt l (agR l t x) (agR l t x).length m) := by unfold Hid; rw [HAL.out, ← hje]; exact HG.out
                  have HF' : Hid (f = true ↔ Fine l (agR l t x) (agR l t x).length) := by unfold Hid; rw [HAL.out, ← hje]; exact HFN.out
                  clear hje HG HFN hbi
                  cases f
                  · have HBN : Hid (Bst l t (k + 1) b) := HBS.out.skip HX.out (fun hF => by have := HF'.out.2 hF; cases this)
                    go_wp2_with fail
                    go_roundw
                    case rel => exact ⟨k + 1, b, by omega, by go_num, rfl, HBN.out, HBW.out⟩
                    case measure => simp [intOf]; omega
                  · have hfine := HF'.out.1 rfl
                    by_cases hbz : b = 0
                    · have q := ieq_t hbz
                      have HBN : Hid (Bst l t (k + 1) (m + 1)) := HBS.out.better HX.out hfine HG'.out (.inl hbz)
                      clear hbz hfine
                      go_wp2_with fail
                      go_roundw
                      case rel => exact ⟨k + 1, m + 1, by omega, by go_num, rfl, HBN.out, HBW.out⟩
                      case measure => simp [intOf]; omega
                    · have q := ieq_f hbz
                      by_cases hbm : m + 1 < b
                      · have HBN : Hid (Bst l t (k + 1) (m + 1)) := HBS.out.better HX.out hfine HG'.out (.inr hbm)
                        clear hbz hfine
                        go_wp2_with fail
                        go_roundw
                        case rel => exact ⟨k + 1, m + 1, by omega, by go_num, rfl, HBN.out, HBW.out⟩
                        case measure => simp [intOf]; omega
                      · have HBN : Hid (Bst l t (k + 1) b) := HBS.out.worse HX.out HG'.out (by omega) (by omega)
                        have hbm' : b ≤ m + 1 := by omega
                        clear hbz hfine
                        go_wp2_with fail
                        go_roundw
                        case rel => exact ⟨k + 1, b, by omega, by go_num, rfl, HBN.out, HBW.out⟩
                        case measure => simp [intOf]; omega
          · have hkI : (LC.length : Int) ≤ (k : Int) := by omega
            have hke : k = LC.length := by omega
            have he := HEND.out b (by have := HBS.out; rw [hke, ← HLC.out] at this; rw [← HLC.out]; exact this)
            have HF := Lib.hid (below_after HB6.out hbr HB6.out.size)
            clear hke hbr
            obtain ⟨rfl, he2⟩ := he
            by_cases hbp : 0 < N
            · have hbt : bv = true := he2.2 hbp
              subst hbt
              clear he2
              go_wp2_with fail
              go_ret
              exact ⟨rfl, HF.out⟩
            · have hbf : bv = false := by
                cases hbv : bv
                · rfl
                · exact absurd (he2.1 hbv) hbp
              subst hbf
              have hbp' : N ≤ 0 := by omega
              clear he2
              go_wp2_with fail
              go_ret
              exact ⟨rfl, HF.out⟩
    · go_wp2_with fail
      refine (typeI_no HRW4.out hok).mono ?_
      rintro e w5 ⟨rfl, hb5⟩
      have HRW5 := Lib.hid (HRW4.out.at_ hb5)
      have HBX5 := Lib.hid (HBX4.out.at_ hb5)
      have HB5 := Lib.hid (below_after HB4.out hb5 HB4.out.size)
      have y0 := HBX5.out.c0
      have y1 := HBX5.out.c1
      clear hb5 HRW4 HBX4 HB4 x0 x1 hok
      go_wp2_with fail
      refine (inh_at bv HRW5.out HBV.out).mono ?_
      rintro e w6 ⟨rfl, hb6⟩
      have HF := Lib.hid (below_after HB5.out hb6 HB5.out.size)
      clear hb6
      go_wp2_with fail
      go_ret
      exact ⟨rfl, HF.out⟩
  · have hbI : (1048576 : Int) < (n : Int) := by omega
    go_enter Try.func8, Try.ntmps8
    go_wp2_with fail
    go_ret
    exact ⟨rfl, Below.refl _ _⟩
end Go.Proofs.Ytholdmdkhbhokab
