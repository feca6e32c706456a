/-
  The function FnCtorsOf: the walk. No statement is proved here.
-/
import Derived.Test.YtholdmdkhbhokabSCtorIdx
namespace Go.Proofs.Ytholdmdkhbhokab
open Go.RowKit Go.Deep
open Go.ChangeShapes Go.WideShapes Go.ChangeAt
set_option maxRecDepth 100000
set_option linter.unusedVariables false

theorem ctL_lt {cs : List Ct} {i x : Int} {n : Nat} (h : n ≤ cs.length) (hx : x ∈ ctL cs i n) : x < n := by
  induction n with
  | zero => simp [ctL] at hx
  | succ n ih =>
    by_cases hf : fitsB cs[n].index i = true
    · rw [ctL_yes (by omega) hf] at hx
      rcases List.mem_append.1 hx with h1 | h1
      · have := ih (by omega) h1; omega
      · simp at h1; omega
    · rw [ctL_no (by omega) (by simpa using hf)] at hx
      have := ih (by omega) hx; omega
theorem ctL_sorted {cs : List Ct} {i : Int} : ∀ n, n ≤ cs.length → (ctL cs i n).Pairwise (· < ·)
  | 0, _ => by simp [ctL]
  | n + 1, h => by
    by_cases hf : fitsB cs[n].index i = true
    · rw [ctL_yes (by omega) hf, List.pairwise_append]
      exact ⟨ctL_sorted n (by omega), List.pairwise_singleton _ _, fun a ha b hb => by simp at hb; subst hb; exact ctL_lt (by omega) ha⟩
    · rw [ctL_no (by omega) (by simpa using hf)]; exact ctL_sorted n (by omega)
theorem ctR_sorted (l : List Da) (t : Ty) : (ctR l t).Pairwise (· < ·) := by
  by_cases ht : TyOK l t
  · rcases ty_cases ht with h1 | ⟨d, h1, hd⟩
    · rw [ctR_int h1]; exact List.Pairwise.nil
    · obtain ⟨td, ti⟩ := t
      simp only at h1
      subst h1
      rw [ctR_data ht hd]; exact ctL_sorted _ (Nat.le_refl _)
  · rw [ctR_no ht]; exact List.Pairwise.nil
theorem ty_wide {l : List Da} {t : Ty} (h : TyOK l t) : TyOK l ⟨t.data, 0⟩ := by
  refine ⟨h.1, ?_⟩
  have h2 := h.2
  by_cases hd : t.data = -1
  · rw [argB_int (by exact hd)]; rfl
  · rw [argB_data hd] at h2
    have := of_decide_eq_true h2
    rw [argB_data (by exact hd)]
    exact decide_eq_true ⟨this.1, this.2.1, by simp only; omega, by simp only; omega⟩
theorem fits_any_of {a i : Int} (h : fitsB a i = true) : fitsB a 0 = true := by
  unfold fitsB
  exact decide_eq_true (.inr (.inl rfl))
theorem ctR_wide {l : List Da} {t : Ty} {x : Int} (h : x ∈ ctR l t) : x ∈ ctR l ⟨t.data, 0⟩ := by
  obtain ⟨ht, d, m, hd, h1, rfl, hm⟩ := mem_ctR h
  obtain ⟨td, ti⟩ := t
  simp only at h1
  subst h1
  have hw := ty_wide ht
  simp only at hw
  rw [ctR_data hw hd]
  exact mem_of_fits hm (by unfold fitsB; exact decide_eq_true (.inr (.inl rfl))) _ hm (Nat.le_refl _)
theorem ty_index {l : List Da} {t : Ty} (h : TyOK l t) : 0 ≤ t.index := by
  have h2 := h.2
  by_cases hd : t.data = -1
  · rw [argB_int hd] at h2; have := of_decide_eq_true h2; omega
  · rw [argB_data hd] at h2; exact (of_decide_eq_true h2).2.2.1
theorem quiet_l {f : FuncId} {args : Array Value} {w : World} {n : Nat} {v : Value} (h : Calls Try.prog f args (w.drewN n) fun e w' => e = .returned v ∧ w.drewN n = w') :
    Calls Try.prog f args (w.drewN n) fun e w'' => e = .returned v ∧ ∃ m, w'' = w.drewN m := h.mono fun _ _ ⟨he, hm⟩ => ⟨he, n, hm.symm⟩

set_option maxHeartbeats 3200000 in
theorem ctorsLaw (n cap : Nat) (A : Option Addr) (w : World) (hn : n ≤ maxLen) (hc : n ≤ cap) (h : RBy w w.heap.size A n) :
    Calls Try.prog 4 #[.slice A n cap] w fun e w' => e = .returned (.bool true) ∧ Below w.heap.size w w' := by
  have HM := Lib.hid (draw13_any n cap A w hn hc h)
  unfold maxLen at hn
  clear h hc
  by_cases hbig : n ≤ 1048576
  · have hbI : (n : Int) ≤ 1048576 := by omega
    go_enter Try.func4, Try.ntmps4
    go_wp2_with fail
    refine (HM.out).mono ?_
    rintro e w1 ⟨v, l, t, rfl, hli, hl, hb⟩
    obtain ⟨Aw, cw, rfl, hrd⟩ := hli.form
    have HRW : Hid (RDas (w1.alloc (.cells #[.int .i64 t.data, .int .i64 t.index] 33)) (w1.alloc (.cells #[.int .i64 t.data, .int .i64 t.index] 33)).heap.size Aw l) := hrd.at_ ((Below.refl _ _).alloc (Nat.le_refl _) _)
    have HBX : Hid (BoxT (w1.alloc (.cells #[.int .i64 t.data, .int .i64 t.index] 33)) w1.heap.size t) := heap_alloc_new w1 _
    have HB : Hid (Below w.heap.size w (w1.alloc (.cells #[.int .i64 t.data, .int .i64 t.index] 33))) := hb.alloc hb.size _
    clear hrd hli hb HM
    go_wp2_with fail
    generalize (w1.alloc (.cells #[.int .i64 t.data, .int .i64 t.index] 33)) = wa at HRW HBX HB ⊢
    refine (ctors_impl _ l _ t _ HRW.out).mono ?_
    rintro e w2 ⟨v5, rfl, ho5, hb2⟩
    have hct := ctR_len l t
    obtain ⟨A5, c5, rfl, hr5⟩ := ho5.read (by unfold maxLen; omega)
    have HR5 := Lib.hid hr5
    have HRW2 := Lib.hid (HRW.out.at_ hb2)
    have HBX2 := Lib.hid (HBX.out.at_ hb2)
    have HB2 := Lib.hid (below_after HB.out hb2 HB.out.size)
    have x0 := HBX2.out.c0
    have x1 := HBX2.out.c1
    clear ho5 hr5 hb2 HRW HBX HB
    go_wp2_with fail
    refine (ctors_spec _ l _ t _ HRW2.out).mono ?_
    rintro e w3 ⟨v6, rfl, ho6, hb3⟩
    obtain ⟨A6, c6, rfl, hr6⟩ := ho6.read (by unfold maxLen; omega)
    have HR6 := Lib.hid hr6
    have HR5' := Lib.hid (HR5.out.at_ hb3)
    have HRW3 := Lib.hid (HRW2.out.at_ hb3)
    have HBX3 := Lib.hid (HBX2.out.at_ hb3)
    have HB3 := Lib.hid (below_after HB2.out hb3 HB2.out.size)
    clear ho6 hr6 hb3 HRW2 HBX2 HB2 HR5 x0 x1
    go_wp2_with fail
    refine (ptInts_same _ _ _ _ _ _ HR5'.out HR6.out).mono ?_
    rintro e w4 ⟨rfl, hb4⟩
    have HR5 := Lib.hid (HR5'.out.at_ hb4)
    have HRW4 := Lib.hid (HRW3.out.at_ hb4)
    have HBX4 := Lib.hid (HBX3.out.at_ hb4)
    have HB4 := Lib.hid (below_after HB3.out hb4 HB3.out.size)
    have x0 := HBX4.out.c0
    have x1 := HBX4.out.c1
    clear hb4 HRW3 HBX3 HB3 HR5' HR6
    by_cases hok : TyOK l t
    · go_wp2_with fail
      refine (typeI_yes HRW4.out hok).mono ?_
      rintro e w5 ⟨rfl, hb5⟩
      have HR5b := Lib.hid (HR5.out.at_ hb5)
      have HRW5 := Lib.hid (HRW4.out.at_ hb5)
      have HBX5 := Lib.hid (HBX4.out.at_ hb5)
      have HB5 := Lib.hid (below_after HB4.out hb5 HB4.out.size)
      have y0 := HBX5.out.c0
      have y1 := HBX5.out.c1
      have HIX := Lib.hid (ty_index hok)
      clear hb5 HRW4 HBX4 HB4 HR5 x0 x1 hok
      go_wp2_with fail
      refine (ctors_impl _ l _ ⟨t.data, 0⟩ _ HRW5.out).mono ?_
      rintro e w6 ⟨v6, rfl, ho6, hb6⟩
      have hcw := ctR_len l ⟨t.data, 0⟩
      obtain ⟨A6, c6, rfl, hr6⟩ := ho6.read (by unfold maxLen; omega)
      have HR6 := Lib.hid hr6
      have HR5c := Lib.hid (HR5b.out.at_ hb6)
      have HBX6 := Lib.hid (HBX5.out.at_ hb6)
      have HB6 := Lib.hid (below_after HB5.out hb6 HB5.out.size)
      have HSUB : Hid (∀ x ∈ ctR l t, inB (ctR l ⟨t.data, 0⟩) x = true) := fun x hx => dec_t (ctR_wide hx)
      have HSO : Hid (∀ (i j : Nat) (x y : Int), (ctR l t)[i]? = some x → (ctR l t)[j]? = some y → i < j → x < y) := fun i j x y h1 h2 hij => by
        obtain ⟨hi, rfl⟩ := List.getElem?_eq_some_iff.1 h1
        obtain ⟨hj, rfl⟩ := List.getElem?_eq_some_iff.1 h2
        exact (List.pairwise_iff_getElem.1 (ctR_sorted l t)) i j hi hj hij
      have HEQ : Hid (t.index ≤ 0 → ctR l ⟨t.data, 0⟩ = ctR l t) := fun h => by
        have h0 : t.index = 0 := by have := HIX.out; omega
        have e : t = ⟨t.data, 0⟩ := by cases t; simp only at h0; rw [h0]
        rw [← e]
      clear ho6 hr6 hb6 HRW5 HBX5 HB5 HR5b y0 y1
      generalize ctR l t = L at HR5c HSUB HSO HEQ hct
      generalize ctR l ⟨t.data, 0⟩ = LW at HR6 HSUB HEQ hcw
      go_wp2_with fail
      go_loopw [7] (fun i wr => ∃ k : Nat, k ≤ L.length ∧ i = .int .i64 k ∧ Below w6.heap.size w6 wr) (fun i _ => L.length - (intOf i).toNat)
      case atStart => exact ⟨0, by omega, rfl, Below.refl _ _⟩
      case round =>
        obtain ⟨k, hk, rfl, hbr⟩ := hrel
        by_cases hlt : k < L.length
        · have hkI : (k : Int) < (L.length : Int) := by omega
          have HR6r := Lib.hid (HR6.out.at_ hbr)
          have HBr : Hid (∀ n, Below w6.heap.size w6 (wr.drewN n)) := fun n => ⟨hbr.os, hbr.tape, hbr.output, hbr.size, hbr.block⟩
          obtain ⟨b5, o5, rfl, hb5, g0⟩ := (HR5c.out.at_ hbr).2 k hlt
          have HIN := Lib.hid (HSUB.out L[k] (List.getElem_mem hlt))
          by_cases hk0 : k = 0
          · have q : decide (0 < k) = false := decide_eq_false (by omega)
            have q' : (k : Int) ≤ 0 := by omega
            have HG : Hid (∀ n, (wr.drewN n).cell? ⟨b5, o5 + k, none⟩ = some (.int .i64 L[k])) := fun _ => g0
            generalize L[k] = x at g0 HIN HG
            clear hbr hk0
            go_wp2_with fail
            go_quiet ((go_at_call 20; exact quiet_l (ptIn_any _ _ _ _ true HIN.out _ HR6r.out)))
            go_wp2_with fail
            go_roundw
            case rel => exact ⟨k + 1, by omega, by go_num, HBr.out _⟩
            case measure => simp [intOf]; omega
          · have q : decide (0 < k) = true := decide_eq_true (by omega)
            have q' : (0 : Int) < (k : Int) := by omega
            have hk1 : k - 1 < L.length := by omega
            obtain ⟨b6, o6, e6, hb6, g1⟩ := (HR5c.out.at_ hbr).2 (k - 1) hk1
            injection e6 with e6
            injection e6 with e6a e6b
            subst e6a e6b
            have hlt2 := HSO.out (k - 1) k _ _ (List.getElem?_eq_getElem hk1) (List.getElem?_eq_getElem hlt) (by omega)
            have w1e : IntKind.i64.wrap ((k : Int) - 1) = (k : Int) - 1 := IntWalk.i64_in _ (by omega)
            have w2e : ((k : Int) - 1).toNat = k - 1 := by omega
            have w3e : (1 : Int) ≤ (k : Int) := by omega
            have w4e : (k : Int) - 1 < (L.length : Int) := by omega
            generalize L[k - 1] = y at g1 hlt2
            generalize L[k] = x at g0 HIN hlt2
            clear hbr hk0
            go_wp2_with fail
            go_quiet ((go_at_call 20; exact quiet_l (ptIn_any _ _ _ _ true HIN.out _ HR6r.out)))
            clear w1e w2e w3e w4e
            go_wp2_with fail
            go_roundw
            case rel => exact ⟨k + 1, by omega, by go_num, HBr.out _⟩
            case measure => simp [intOf]; omega
        · have hkI : (L.length : Int) ≤ (k : Int) := by omega
          have hbx := HBX6.out.at_ hbr
          have z0 := hbx.c0
          have z1 := hbx.c1
          have HF := Lib.hid (below_after HB6.out hbr HB6.out.size)
          by_cases hi : 0 < t.index
          · go_wp2_with fail
            go_ret
            exact ⟨rfl, HF.out⟩
          · have hi' : t.index ≤ 0 := by omega
            have HR6r := Lib.hid (HR6.out.at_ hbr)
            have HR5r := Lib.hid (HR5c.out.at_ hbr)
            rw [HEQ.out hi'] at HR6r
            rw [HEQ.out hi']
            go_wp2_with fail
            refine (ptInts_same _ _ _ _ _ _ HR5r.out HR6r.out).mono ?_
            rintro e w7 ⟨rfl, hb7⟩
            have HF2 := Lib.hid (below_after HF.out hb7 HF.out.size)
            clear hb7
            go_wp2_with fail
            go_ret
            exact ⟨rfl, HF2.out⟩
    · go_wp2_with fail
      refine (typeI_no HRW4.out hok).mono ?_
      rintro e w5 ⟨rfl, hb5⟩
      have HR5b := Lib.hid (HR5.out.at_ hb5)
      have HRW5 := Lib.hid (HRW4.out.at_ hb5)
      have HBX5 := Lib.hid (HBX4.out.at_ hb5)
      have HB5 := Lib.hid (below_after HB4.out hb5 HB4.out.size)
      have y0 := HBX5.out.c0
      have y1 := HBX5.out.c1
      have HZ : Hid ((ctR l t).length = 0) := by unfold Hid; rw [ctR_no hok]; rfl
      clear hb5 HRW4 HBX4 HB4 HR5 hok
      go_wp2_with fail
      refine (ctors_spec _ l _ t _ HRW5.out).mono ?_
      rintro e w6 ⟨v6, rfl, ho6, hb6⟩
      obtain ⟨A6, c6, rfl, hr6⟩ := ho6.read (by unfold maxLen; omega)
      have HR6 := Lib.hid hr6
      have HR5' := Lib.hid (HR5b.out.at_ hb6)
      have HB6 := Lib.hid (below_after HB5.out hb6 HB5.out.size)
      clear ho6 hr6 hb6
      go_wp2_with fail
      refine (ptInts_same _ _ _ _ _ _ HR5'.out HR6.out).mono ?_
      rintro e w7 ⟨rfl, hb7⟩
      have HF := Lib.hid (below_after HB6.out hb7 HB6.out.size)
      have hz := HZ.out
      have hzI : (((ctR l t).length : Int) == 0) = true := ieq_t (by omega)
      clear hb7
      go_wp2_with fail
      go_ret
      exact ⟨rfl, HF.out⟩
  · have hbI : (1048576 : Int) < (n : Int) := by omega
    go_enter Try.func4, Try.ntmps4
    go_wp2_with fail
    go_ret
    exact ⟨rfl, Below.refl _ _⟩
end Go.Proofs.Ytholdmdkhbhokab
