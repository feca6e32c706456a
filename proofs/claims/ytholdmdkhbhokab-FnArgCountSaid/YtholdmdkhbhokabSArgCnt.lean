/-
  The function FnArgCount: the walk. No statement is proved here.
-/
import Derived.Test.YtholdmdkhbhokabSArgTy
namespace Go.Proofs.Ytholdmdkhbhokab
open Go.RowKit Go.Deep
open Go.ChangeShapes Go.WideShapes Go.ChangeAt
set_option maxRecDepth 100000
set_option linter.unusedVariables false

set_option maxHeartbeats 3200000 in
theorem argCnt_law (n cap : Nat) (A : Option Addr) (w : World) (hn : n ≤ maxLen) (hc : n ≤ cap) (h : RBy w w.heap.size A n) :
    Calls Try.prog 7 #[.slice A n cap] w fun e w' => e = .returned (.bool true) ∧ Below w.heap.size w w' := by
  have HM := Lib.hid (draw19_any n cap A w hn hc h)
  unfold maxLen at hn
  clear h hc
  by_cases hbig : n ≤ 1048576
  · have hbI : (n : Int) ≤ 1048576 := by omega
    go_enter Try.func7, Try.ntmps7
    go_wp2_with fail
    refine (HM.out).mono ?_
    rintro e w1 ⟨v, l, t, x, rfl, hli, hl, hb⟩
    obtain ⟨Aw, cw, rfl, hrd⟩ := hli.form
    have HRW : Hid (RDas (w1.alloc (.cells #[.int .i64 t.data, .int .i64 t.index] 33)) (w1.alloc (.cells #[.int .i64 t.data, .int .i64 t.index] 33)).heap.size Aw l) := hrd.at_ ((Below.refl _ _).alloc (Nat.le_refl _) _)
    have HBX : Hid (BoxT (w1.alloc (.cells #[.int .i64 t.data, .int .i64 t.index] 33)) w1.heap.size t) := heap_alloc_new w1 _
    have HB : Hid (Below w.heap.size w (w1.alloc (.cells #[.int .i64 t.data, .int .i64 t.index] 33))) := hb.alloc hb.size _
    clear hrd hli hb HM
    go_wp2_with fail
    generalize (w1.alloc (.cells #[.int .i64 t.data, .int .i64 t.index] 33)) = wa at HRW HBX HB ⊢
    refine (args_impl _ l _ t x _ HRW.out).mono ?_
    rintro e w2 ⟨v5, rfl, ho5, hb2⟩
    have hlen := agR_len l t x
    obtain ⟨A5, c5, rfl, hr5⟩ := ho5.form (by unfold maxLen; omega)
    have HR5 := Lib.hid hr5
    have HRW2 := Lib.hid (HRW.out.at_ hb2)
    have HBX2 := Lib.hid (HBX.out.at_ hb2)
    have HB2 := Lib.hid (below_after HB.out hb2 HB.out.size)
    have x0 := HBX2.out.c0
    have x1 := HBX2.out.c1
    clear ho5 hr5 hb2 HRW HBX HB
    go_wp2_with fail
    refine (args_spec _ l _ t x _ HRW2.out).mono ?_
    rintro e w3 ⟨v6, rfl, ho6, hb3⟩
    obtain ⟨A6, c6, rfl, hr6⟩ := ho6.form (by unfold maxLen; omega)
    have HR5' := Lib.hid (HR5.out.at_ hb3)
    have HRW3 := Lib.hid (HRW2.out.at_ hb3)
    have HBX3 := Lib.hid (HBX2.out.at_ hb3)
    have HB3 := Lib.hid (below_after HB2.out hb3 HB2.out.size)
    have x0 := HBX3.out.c0
    have x1 := HBX3.out.c1
    clear ho6 hr6 hb3 HRW2 HBX2 HB2 HR5
    go_wp2_with fail
    refine (ctors_impl _ l _ t _ HRW3.out).mono ?_
    rintro e w4 ⟨v7, rfl, ho7, hb4⟩
    have hct := ctR_len l t
    obtain ⟨A7, c7, rfl, hr7⟩ := ho7.read (by unfold maxLen; omega)
    have HR7 := Lib.hid hr7
    have HR5 := Lib.hid (HR5'.out.at_ hb4)
    have HRW4 := Lib.hid (HRW3.out.at_ hb4)
    have HBX4 := Lib.hid (HBX3.out.at_ hb4)
    have HB4 := Lib.hid (below_after HB3.out hb4 HB3.out.size)
    have y0 := HBX4.out.c0
    have y1 := HBX4.out.c1
    clear ho7 hr7 hb4 HRW3 HBX3 HB3 HR5' x0 x1
    by_cases hx : x ∈ ctR l t
    · have hin : inB (ctR l t) x = true := dec_t hx
      have HM2 := Lib.hid (mem_ctR hx)
      have HX := Lib.hid hx
      go_wp2_with fail
      refine (ptIn_any _ _ _ _ true hin _ HR7.out).mono ?_
      rintro e w5 ⟨rfl, rfl⟩
      clear hin hx
      obtain ⟨ht, d, m, hd, h1, rfl, hm⟩ := HM2.out
      obtain ⟨td, ti⟩ := t
      simp only at h1
      subst h1
      have HL : Hid (agR l ⟨d, ti⟩ m = argT l[d].ctors[m] ti) := agR_yes HX.out hd hm
      obtain ⟨bw, ow, rfl, hbB, A', cp, d0, d1, _, hcts⟩ := HRW4.out.2 d hd
      obtain ⟨bc, oc, rfl, hbc, D, dp, n0, n1, n2, hns, hargs⟩ := hcts.2 m hm
      have hll := HRW4.out.1
      have hml := hcts.1
      unfold maxLen at hll hml
      have HAR := Lib.hid hargs
      have hdI : (d : Int) < (l.length : Int) := by omega
      have hd0 : (0 : Int) ≤ (d : Int) := by omega
      have hmI : (m : Int) < (l[d].ctors.length : Int) := by omega
      have hm0 : (0 : Int) ≤ (m : Int) := by omega
      have hal := hargs.1
      unfold maxLen at hal
      have HLL : Hid ((agR l ⟨d, ti⟩ m).length = l[d].ctors[m].args.length) := by unfold Hid; rw [HL.out, argT_len]
      clear HM2 hcts hargs ht d0
      generalize l[d].ctors[m] = c at n0 n1 n2 HAR HL HLL hal hns
      generalize hLL : agR l ⟨d, ti⟩ m = L at HL HLL HR5 hlen
      have hle : L.length = c.args.length := HLL.out
      rw [hle]
      rw [hle] at hlen
      have HBC : Hid (Box3 (w4.alloc (.cells #[.string c.name, .slice D c.args.length dp, .int .i64 c.index] 31)) w4.heap.size c.name (.slice D c.args.length dp) c.index) := heap_alloc_new w4 _
      have hbw4 : Below w4.heap.size w4 (w4.alloc (.cells #[.string c.name, .slice D c.args.length dp, .int .i64 c.index] 31)) := (Below.refl _ _).alloc (Nat.le_refl _) _
      have HR5a := Lib.hid (HR5.out.at_ hbw4)
      have HARa : Hid (RTys (w4.alloc (.cells #[.string c.name, .slice D c.args.length dp, .int .i64 c.index] 31)) (w4.alloc (.cells #[.string c.name, .slice D c.args.length dp, .int .i64 c.index] 31)).heap.size D c.args) := HAR.out.at_ hbw4
      have HBa : Hid (Below w.heap.size w (w4.alloc (.cells #[.string c.name, .slice D c.args.length dp, .int .i64 c.index] 31))) := HB4.out.alloc HB4.out.size _
      clear hbw4 HR5 HAR
      go_wp2_with fail

      generalize (w4.alloc (.cells #[.string c.name, .slice D c.args.length dp, .int .i64 c.index] 31)) = wb at HBC HR5a HARa HBa ⊢
      go_loopw [8] (fun i wr => ∃ k : Nat, k ≤ c.args.length ∧ i = .int .i64 k ∧ Below wb.heap.size wb wr) (fun i _ => c.args.length - (intOf i).toNat)
      case atStart => exact ⟨0, by omega, rfl, Below.refl _ _⟩
      case round =>
        obtain ⟨k, hk, rfl, hbr⟩ := hrel
        have hbc := HBC.out.at_ hbr
        have z0 := hbc.c0
        have z1 := hbc.c1
        have z2 := hbc.c2
        by_cases hlt : k < c.args.length
        · have hkI : (k : Int) < (c.args.length : Int) := by omega
          have hkL : k < L.length := by omega
          have HEK : Hid (L[k].data = c.args[k].data ∧ (0 < c.args[k].index → L[k].index = c.args[k].index)) := by
            have e : L[k] = argOf c ti c.args[k] := by
              have := HL.out
              subst this
              exact argT_get c ti k hlt hkL
            rw [e]
            by_cases hs : c.args[k].index = -1
            · rw [argOf_same hs]; exact ⟨rfl, fun h => by omega⟩
            · rw [argOf_other hs]; exact ⟨rfl, fun _ => rfl⟩
          obtain ⟨bd, od, rfl, hbd, g0, g1⟩ := (HARa.out.at_ hbr).2 k hlt
          obtain ⟨b5, o5, rfl, hb5, h0, h1⟩ := (HR5a.out.at_ hbr).2 k hkL
          generalize c.args[k] = ta at g0 g1 HEK
          generalize L[k] = tl at h0 h1 HEK
          obtain ⟨ad, ai⟩ := ta
          obtain ⟨ld, li⟩ := tl
          have e1 := HEK.out.1
          simp only at g0 g1 h0 h1 e1
          subst e1
          have HBr : Hid (∀ n, Below wb.heap.size wb (wr.drewN n)) := fun n => ⟨hbr.os, hbr.tape, hbr.output, hbr.size, hbr.block⟩
          by_cases hi : 0 < ai
          · have hq : decide (0 < ai) = true := decide_eq_true hi
            have e2 : li = ai := HEK.out.2 hi
            subst e2
            clear hbr HEK
            go_wp2_with fail
            go_quiet (fail)
            go_wp2_with fail
            go_roundw
            case rel => exact ⟨k + 1, by omega, by go_num, HBr.out _⟩
            case measure => simp [intOf]; omega
          · have hq : decide (0 < ai) = false := decide_eq_false hi
            have hq' : ai ≤ 0 := by omega
            clear hbr HEK
            go_wp2_with fail
            go_quiet (fail)
            go_wp2_with fail
            go_roundw
            case rel => exact ⟨k + 1, by omega, by go_num, HBr.out _⟩
            case measure => simp [intOf]; omega
        · have hkI : (c.args.length : Int) ≤ (k : Int) := by omega
          have HF := Lib.hid (below_after HBa.out hbr HBa.out.size)
          clear hbr
          go_wp2_with fail
          go_ret
          exact ⟨rfl, HF.out⟩
    · have hin : inB (ctR l t) x = false := dec_f hx
      go_wp2_with fail
      refine (ptIn_any _ _ _ _ false hin _ HR7.out).mono ?_
      rintro e w5 ⟨rfl, rfl⟩
      clear hin hx
      go_wp2_with fail
      refine (args_spec _ l _ t x _ HRW4.out).mono ?_
      rintro e w5 ⟨v6, rfl, ho6, hb5⟩
      obtain ⟨A8, c8, rfl, hr8⟩ := ho6.form (by unfold maxLen; omega)
      have HF := Lib.hid (below_after HB4.out hb5 HB4.out.size)
      clear ho6 hr8 hb5
      go_wp2_with fail
      go_ret
      exact ⟨rfl, HF.out⟩
  · have hbI : (1048576 : Int) < (n : Int) := by omega
    go_enter Try.func7, Try.ntmps7
    go_wp2_with fail
    go_ret
    exact ⟨rfl, Below.refl _ _⟩
end Go.Proofs.Ytholdmdkhbhokab
