/-
  The function FnArgTypes: the walk. No statement is proved here.
-/
import Derived.Test.YtholdmdkhbhokabSCtorsLaw
import Derived.Test.YtholdmdkhbhokabSD19
import Derived.Test.YtholdmdkhbhokabSSame
namespace Go.Proofs.Ytholdmdkhbhokab
open Go.RowKit Go.Deep
open Go.ChangeShapes Go.WideShapes Go.ChangeAt
set_option maxRecDepth 100000
set_option linter.unusedVariables false

theorem arg_ok {l : List Da} {t : Ty} {x : Int} {a : Ty} (h : x ∈ ctR l t) (ha : a ∈ agR l t x) : TyOK l a := by
  obtain ⟨ht, d, m, hd, h1, rfl, hm⟩ := mem_ctR h
  obtain ⟨td, ti⟩ := t
  simp only at h1
  subst h1
  rw [agR_yes h hd hm] at ha
  unfold argT at ha
  obtain ⟨b, hb, rfl⟩ := List.mem_map.1 ha
  obtain ⟨hi, hargs⟩ := ctor_parts (world_ctor ht.1 hd hm)
  have hB := hargs b hb
  have hti0 := ty_index ht
  have hti3 : ti ≤ 3 := by
    have h2 := ht.2
    rw [argB_data (by simp only; omega)] at h2
    exact (of_decide_eq_true h2).2.2.2
  simp only at hti0
  refine ⟨ht.1, ?_⟩
  by_cases hbd : b.data = -1
  · rw [argB_int hbd] at hB
    have h0 := of_decide_eq_true hB
    rw [argOf_other (by omega), argB_int hbd]
    exact decide_eq_true h0
  · rw [argB_data hbd] at hB
    have h0 := of_decide_eq_true hB
    by_cases hs : b.index = -1
    · rw [argOf_same hs, argB_data (by exact hbd)]
      refine decide_eq_true ⟨h0.1, h0.2.1, ?_, ?_⟩
      · show 0 ≤ resI _ _
        unfold resI; split <;> omega
      · show resI _ _ ≤ 3
        unfold resI; split <;> omega
    · rw [argOf_other hs, argB_data hbd]
      exact decide_eq_true ⟨h0.1, h0.2.1, by omega, h0.2.2.2⟩
theorem arg_ok' {l : List Da} {t : Ty} {x : Int} {a : Ty} (ha : a ∈ agR l t x) : TyOK l a := by
  by_cases h : x ∈ ctR l t
  · exact arg_ok h ha
  · rw [agR_no h] at ha; simp at ha
theorem RTys.at_ {w w' : World} {A : Option Addr} {l : List Ty} (h : RTys w w.heap.size A l) (hb : Below w.heap.size w w') : RTys w' w'.heap.size A l := h.keep (fun p hp => hb.cell hp) hb.size
theorem typeI_at {A : Option Addr} {l : List Da} {cap : Nat} (a b : Int) {w : World} (hr : RDas w w.heap.size A l) (h : TyOK l ⟨a, b⟩) :
    Calls Try.prog 19 #[.slice A l.length cap, .agg #[.int .i64 a, .int .i64 b]] w fun e w' => e = .returned (.bool true) ∧ Below w.heap.size w w' := typeI_yes (t := ⟨a, b⟩) hr h

set_option maxHeartbeats 3200000 in
theorem argTy_law (n cap : Nat) (A : Option Addr) (w : World) (hn : n ≤ maxLen) (hc : n ≤ cap) (h : RBy w w.heap.size A n) :
    Calls Try.prog 6 #[.slice A n cap] w fun e w' => e = .returned (.bool true) ∧ Below w.heap.size w w' := by
  have HM := Lib.hid (draw19_any n cap A w hn hc h)
  unfold maxLen at hn
  clear h hc
  by_cases hbig : n ≤ 1048576
  · have hbI : (n : Int) ≤ 1048576 := by omega
    go_enter Try.func6, Try.ntmps6
    go_wp2_with fail
    refine (HM.out).mono ?_
    rintro e w1 ⟨v, l, t, x, rfl, hli, hl, hb⟩
    obtain ⟨Aw, cw, rfl, hrd⟩ := hli.form
    have HRW : Hid (RDas (w1.alloc (.cells #[.int .i64 t.data, .int .i64 t.index] 33)) (w1.alloc (.cells #[.int .i64 t.data, .int .i64 t.index] 33)).heap.size Aw l) := hrd.at_ ((Below.refl _ _).alloc (Nat.le_refl _) _)
    have HBX : Hid (BoxT (w1.alloc (.cells #[.int .i64 t.data, .int .i64 t.index] 33)) w1.heap.size t) := heap_alloc_new w1 _
    have HB : Hid (Below w.heap.size w (w1.alloc (.cells #[.int .i64 t.data, .int .i64 t.index] 33))) := hb.alloc hb.size _
    clear hrd hli hb HM
    go_wp2_with fail
    generalize (w1.alloc (.cells #[.int .i64 t.data, .int .i64 t.index] 33)) = wa at HRW HBX HB ⊢
    refine (args_impl _ l _ t x _ HRW.out).mono ?_
    rintro e w2 ⟨v5, rfl, ho5, hb2⟩
    have hlen := agR_len l t x
    obtain ⟨A5, c5, rfl, hr5⟩ := ho5.form (by unfold maxLen; omega)
    have HR5 := Lib.hid hr5
    have HRW2 := Lib.hid (HRW.out.at_ hb2)
    have HBX2 := Lib.hid (HBX.out.at_ hb2)
    have HB2 := Lib.hid (below_after HB.out hb2 HB.out.size)
    have x0 := HBX2.out.c0
    have x1 := HBX2.out.c1
    clear ho5 hr5 hb2 HRW HBX HB
    go_wp2_with fail
    refine (args_spec _ l _ t x _ HRW2.out).mono ?_
    rintro e w3 ⟨v6, rfl, ho6, hb3⟩
    obtain ⟨A6, c6, rfl, hr6⟩ := ho6.form (by unfold maxLen; omega)
    have HR6 := Lib.hid hr6
    have HR5' := Lib.hid (HR5.out.at_ hb3)
    have HRW3 := Lib.hid (HRW2.out.at_ hb3)
    have HBX3 := Lib.hid (HBX2.out.at_ hb3)
    have HB3 := Lib.hid (below_after HB2.out hb3 HB2.out.size)
    have HOK : Hid (∀ a ∈ agR l t x, TyOK l a) := fun a ha => arg_ok' ha
    have HIN : Hid (inB (ctR l t) x = true ∨ (agR l t x).length = 0) := by
      by_cases hx : x ∈ ctR l t
      · exact .inl (dec_t hx)
      · right; rw [agR_no hx]; rfl
    clear ho6 hr6 hb3 HRW2 HBX2 HB2 HR5 x0 x1
    generalize agR l t x = L at HR5' HR6 HOK HIN hlen
    go_wp2_with fail
    go_loopw [8] (fun i wr => ∃ k : Nat, k ≤ L.length ∧ i = .int .i64 k ∧ Below w3.heap.size w3 wr) (fun i _ => L.length - (intOf i).toNat)
    case atStart => exact ⟨0, by omega, rfl, Below.refl _ _⟩
    case round =>
      obtain ⟨k, hk, rfl, hbr⟩ := hrel
      by_cases hlt : k < L.length
      · have hkI : (k : Int) < (L.length : Int) := by omega
        obtain ⟨b5, o5, rfl, hB5, g0, g1⟩ := (HR5'.out.at_ hbr).2 k hlt
        obtain ⟨b6, o6, rfl, hB6, h0, h1⟩ := (HR6.out.at_ hbr).2 k hlt
        have HO := Lib.hid (HOK.out L[k] (List.getElem_mem hlt))
        have hq := neqTy_no L[k]
        generalize L[k] = ab at g0 g1 h0 h1 hq HO
        obtain ⟨a, b⟩ := ab
        have HRWr := Lib.hid (HRW3.out.at_ hbr)
        have HT : Hid (Calls Try.prog 19 #[.slice Aw l.length cw, .agg #[.int .i64 a, .int .i64 b]] wr.drew fun e w' => e = .returned (.bool true) ∧ Below wr.drew.heap.size wr.drew w') := typeI_at a b (HRWr.out.keep (fun _ _ => rfl) (Nat.le_refl _)) HO.out
        go_wp2_with fail
        go_region_held3 (fun w' => w'.cell? ⟨b5, o5 + k * 2, none⟩ = some (.int .i64 a) ∧ w'.cell? ⟨b5, o5 + k * 2 + 1, none⟩ = some (.int .i64 b) ∧ w'.cell? ⟨b6, o6 + k * 2, none⟩ = some (.int .i64 a) ∧ w'.cell? ⟨b6, o6 + k * 2 + 1, none⟩ = some (.int .i64 b)) (first | exact ⟨g0, g1, h0, h1⟩ | exact ⟨p0, p1, p2, p3⟩ | go_keep) (first | (go_at_call 19; (with_reducible refine (HT.out).mono ?_); rintro e w4 ⟨rfl, hb4⟩; have hb4' : Below wr.heap.size wr w4 := ⟨hb4.os, hb4.tape, hb4.output, hb4.size, hb4.block⟩; have p0 := (hb4'.cell (p := ⟨b5, o5 + k * 2, none⟩) hB5).trans g0; have p1 := (hb4'.cell (p := ⟨b5, o5 + k * 2 + 1, none⟩) hB5).trans g1; have p2 := (hb4'.cell (p := ⟨b6, o6 + k * 2, none⟩) hB6).trans h0; have p3 := (hb4'.cell (p := ⟨b6, o6 + k * 2 + 1, none⟩) hB6).trans h1))
        all_goals
          have HB4 := Lib.hid (below_after hbr hb4' hbr.size)
          clear hb4 hb4' hbr
          go_wp2_with fail
          go_roundw
          case rel => exact ⟨k + 1, by omega, by go_num, HB4.out⟩
          case measure => simp [intOf]; omega
      · have hkI : (L.length : Int) ≤ (k : Int) := by omega
        have hbx := HBX3.out.at_ hbr
        have z0 := hbx.c0
        have z1 := hbx.c1
        have HRWr := Lib.hid (HRW3.out.at_ hbr)
        have HBr := Lib.hid (below_after HB3.out hbr HB3.out.size)
        clear hbr
        go_wp2_with fail
        refine (ctors_impl _ l _ t _ HRWr.out).mono ?_
        rintro e w4 ⟨v7, rfl, ho7, hb4⟩
        have hct := ctR_len l t
        obtain ⟨A7, c7, rfl, hr7⟩ := ho7.read (by unfold maxLen; omega)
        have HR7 := Lib.hid hr7
        have HF := Lib.hid (below_after HBr.out hb4 HBr.out.size)
        clear ho7 hr7 hb4
        rcases HIN.out with hin | hin
        · go_wp2_with fail
          refine (ptIn_any _ _ _ _ true hin _ HR7.out).mono ?_
          rintro e w5 ⟨rfl, rfl⟩
          go_wp2_with fail
          go_ret
          exact ⟨rfl, HF.out⟩
        · have hz : ((L.length : Int) == 0) = true := ieq_t (by omega)
          have HZ := Lib.hid hin
          clear hin
          go_wp2_with fail
          refine (ptIn_any _ _ _ _ _ rfl _ HR7.out).mono ?_
          rintro e w5 ⟨rfl, rfl⟩
          generalize inB (ctR l t) x = bb
          cases bb
          all_goals
            go_wp2_with fail
            go_ret
            exact ⟨rfl, HF.out⟩
  · have hbI : (1048576 : Int) < (n : Int) := by omega
    go_enter Try.func6, Try.ntmps6
    go_wp2_with fail
    go_ret
    exact ⟨rfl, Below.refl _ _⟩
end Go.Proofs.Ytholdmdkhbhokab
