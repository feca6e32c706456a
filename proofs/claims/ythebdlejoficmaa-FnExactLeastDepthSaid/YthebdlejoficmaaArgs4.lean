/-
  The types of the arguments of a constructor: both functions, whole; types that are marked and looked at again. No statement is proved here.
-/
import Derived.Test.YthebdlejoficmaaArgs3
namespace Go.Proofs.Ythebdlejoficmaa
open Go.RowKit
set_option maxRecDepth 100000
set_option linter.unusedVariables false

theorem mem_ctL {cs : List Ct} {i x : Int} : ∀ n, x ∈ ctL cs i n → ∃ m : Nat, m < n ∧ x = m
  | n + 1, h => by
    have h' : x ∈ ctL cs i n ++ (if fitsB (cs.getD n default).index i then [(n : Int)] else []) := h
    rcases List.mem_append.1 h' with h1 | h1
    · obtain ⟨m, hm, e⟩ := mem_ctL n h1
      exact ⟨m, by omega, e⟩
    · split at h1
      · exact ⟨n, by omega, by simpa using h1⟩
      · simp at h1
theorem mem_ctR {l : List Da} {t : Ty} {x : Int} (h : x ∈ ctR l t) : TyOK l t ∧ ∃ (d m : Nat) (hd : d < l.length), t.data = d ∧ x = m ∧ m < l[d].ctors.length := by
  by_cases ht : TyOK l t
  · refine ⟨ht, ?_⟩
    rcases ty_cases ht with h1 | ⟨d, h1, hd⟩
    · rw [ctR_int h1] at h; simp at h
    · obtain ⟨td, ti⟩ := t
      simp only at h1
      subst h1
      rw [ctR_data ht hd] at h
      obtain ⟨m, hm, e⟩ := mem_ctL _ h
      exact ⟨d, m, hd, rfl, e, hm⟩
  · rw [ctR_no ht] at h; simp at h
theorem args_three {l : List Da} (h : WorldOK l) {d m : Nat} (hd : d < l.length) (hm : m < l[d].ctors.length) : l[d].ctors[m].args.length ≤ 3 := by
  have h1 := h.2.1 d hd hd
  by_cases h3 : l[d].ctors[m].args.length ≤ 3
  · exact h3
  · have h2 := (data_bad (n := l.length) (all_bad hm (ctor_args (n := l.length) h3).symm)).symm
    rw [h1] at h2; cases h2

/-- The types of the arguments of a constructor for a type. -/
noncomputable def agR (l : List Da) (t : Ty) (x : Int) : List Ty := if dec (x ∈ ctR l t) then argT ((l.getD t.data.toNat default).ctors.getD x.toNat default) t.index else []
theorem agR_no {l : List Da} {t : Ty} {x : Int} (h : ¬ x ∈ ctR l t) : agR l t x = [] := by unfold agR; rw [dec_f h]; rfl
theorem agR_yes {l : List Da} {d m : Nat} {i : Int} (h : (m : Int) ∈ ctR l ⟨d, i⟩) (hd : d < l.length) (hm : m < l[d].ctors.length) : agR l ⟨d, i⟩ m = argT l[d].ctors[m] i := by
  have e : l.getD d default = l[d] := by simp [List.getD, List.getElem?_eq_getElem hd]
  have e2 : l[d].ctors.getD m default = l[d].ctors[m] := by simp [List.getD, List.getElem?_eq_getElem hm]
  unfold agR
  rw [dec_t h]
  simp only [if_true, Int.toNat_natCast, e, e2]
theorem agR_len (l : List Da) (t : Ty) (x : Int) : (agR l t x).length ≤ 3 := by
  by_cases h : x ∈ ctR l t
  · obtain ⟨ht, d, m, hd, h1, rfl, hm⟩ := mem_ctR h
    obtain ⟨td, ti⟩ := t
    simp only at h1
    subst h1
    rw [agR_yes h hd hm, argT_len]
    exact args_three ht.1 hd hm
  · rw [agR_no h]; simp

theorem l1Args_all (A : Option Addr) (l : List Da) (cap : Nat) (t : Ty) (x : Int) (w : World) (hr : RDas w w.heap.size A l) (h : x ∈ ctR l t) :
    Calls Try.prog 59 #[.slice A l.length cap, .agg #[.int .i64 t.data, .int .i64 t.index], .int .i64 x] w fun e w' => ∃ v, e = .returned v ∧ OTys w' w.heap.size v (agR l t x) (agR l t x).length ∧ Below w.heap.size w w' := by
  obtain ⟨ht, d, m, hd, h1, rfl, hm⟩ := mem_ctR h
  obtain ⟨td, ti⟩ := t
  simp only at h1
  subst h1
  rw [agR_yes h hd hm]
  exact l1Args_data A l cap d m ti hd hm (args_three ht.1 hd hm) w hr
theorem argTypes_all (A : Option Addr) (l : List Da) (cap : Nat) (t : Ty) (x : Int) (w : World) (hr : RDas w w.heap.size A l) (h : x ∈ ctR l t) :
    Calls Try.prog 61 #[.slice A l.length cap, .agg #[.int .i64 t.data, .int .i64 t.index], .int .i64 x] w fun e w' => ∃ v, e = .returned v ∧ OTys w' w.heap.size v (agR l t x) (agR l t x).length ∧ Below w.heap.size w w' := by
  obtain ⟨ht, d, m, hd, h1, rfl, hm⟩ := mem_ctR h
  obtain ⟨td, ti⟩ := t
  simp only at h1
  subst h1
  rw [agR_yes h hd hm]
  exact argTypes_data A l cap d m ti hd hm (args_three ht.1 hd hm) w hr

theorem args_spec (A : Option Addr) (l : List Da) (cap : Nat) (t : Ty) (x : Int) (w : World) (hr : RDas w w.heap.size A l) :
    Calls Try.prog 29 #[.slice A l.length cap, .agg #[.int .i64 t.data, .int .i64 t.index], .int .i64 x] w fun e w' => ∃ v, e = .returned v ∧ OTys w' w.heap.size v (agR l t x) (agR l t x).length ∧ Below w.heap.size w w' := by
  have Hr := Lib.hid hr
  clear hr
  have hRl := ctR_len l t
  have hRm : (ctR l t).length ≤ maxLen := by unfold maxLen; omega
  go_enter Try.func29, Try.ntmps29
  go_wp2_with fail
  refine (ctors_spec _ _ _ t _ (Hr.out.keep (keep_one _) (by simp))).mono ?_
  rintro e w1 ⟨v0, rfl, ho0, hb⟩
  obtain ⟨A0, cap0, rfl, hr0⟩ := ho0.form hRm
  obtain ⟨hc, hfz⟩ := bcell hb
  have hb1 := below_one hb
  clear ho0 hb
  have Q := Lib.hid hr0
  clear hr0
  by_cases h : x ∈ ctR l t
  · have hq := dec_t h
    have HM := Lib.hid h
    clear h
    go_wp2_with fail
    refine (has_any _ _ _ _ _ Q.out).mono ?_
    rw [hq]
    rintro e w1' ⟨rfl, rfl⟩
    go_wp2_with fail
    refine (l1Args_all _ l _ t _ _ (Hr.out.keep (fun p hp => hb1.cell hp) hb1.size) HM.out).mono ?_
    rintro e w2 ⟨v, rfl, ho, hb2⟩
    have HO := Lib.hid (ho.lower hb1.size)
    have hb3 := hb1.trans (hb2.mono hb1.size)
    clear ho hb2
    go_wp2_with fail
    go_ret
    exact ⟨_, rfl, HO.out, hb3⟩
  · have hq := dec_f h
    have HN := Lib.hid (agR_no h)
    clear h
    have HE : Hid (∀ w1 : World, w.heap.size ≤ w1.heap.size → OTys (w1.alloc (.cells #[] 34)) w.heap.size (.slice (some ⟨w1.heap.size, 0, none⟩) 0 0) [] 0) := fun w1 hl => by
      have := World.ownsRow_lit (base := w.heap.size) (e := 34) (size := 2) w1 #[] 0 hl (by simp) rfl
      exact ⟨[], by simpa using this, TyRow.zero _ _⟩
    go_wp2_with fail
    refine (has_any _ _ _ _ _ Q.out).mono ?_
    rw [hq]
    rintro e w1' ⟨rfl, rfl⟩
    go_wp2_with fail
    go_ret
    exact ⟨_, rfl, by rw [HN.out]; exact HE.out _ hb1.size, hb1.alloc hb1.size _⟩
theorem args_impl (A : Option Addr) (l : List Da) (cap : Nat) (t : Ty) (x : Int) (w : World) (hr : RDas w w.heap.size A l) :
    Calls Try.prog 30 #[.slice A l.length cap, .agg #[.int .i64 t.data, .int .i64 t.index], .int .i64 x] w fun e w' => ∃ v, e = .returned v ∧ OTys w' w.heap.size v (agR l t x) (agR l t x).length ∧ Below w.heap.size w w' := by
  have Hr := Lib.hid hr
  clear hr
  have hRl := ctR_len l t
  have hRm : (ctR l t).length ≤ maxLen := by unfold maxLen; omega
  go_enter Try.func30, Try.ntmps30
  go_wp2_with fail
  refine (ctors_impl _ _ _ t _ (Hr.out.keep (keep_one _) (by simp))).mono ?_
  rintro e w1 ⟨v0, rfl, ho0, hb⟩
  obtain ⟨A0, cap0, rfl, hr0⟩ := ho0.form hRm
  obtain ⟨hc, hfz⟩ := bcell hb
  have hb1 := below_one hb
  clear ho0 hb
  have Q := Lib.hid hr0
  clear hr0
  by_cases h : x ∈ ctR l t
  · have hq := dec_t h
    have HM := Lib.hid h
    clear h
    go_wp2_with fail
    refine (contains_any _ _ _ _ _ Q.out).mono ?_
    rw [hq]
    rintro e w1' ⟨rfl, rfl⟩
    go_wp2_with fail
    refine (argTypes_all _ l _ t _ _ (Hr.out.keep (fun p hp => hb1.cell hp) hb1.size) HM.out).mono ?_
    rintro e w2 ⟨v, rfl, ho, hb2⟩
    have HO := Lib.hid (ho.lower hb1.size)
    have hb3 := hb1.trans (hb2.mono hb1.size)
    clear ho hb2
    go_wp2_with fail
    go_ret
    exact ⟨_, rfl, HO.out, hb3⟩
  · have hq := dec_f h
    have HN := Lib.hid (agR_no h)
    clear h
    go_wp2_with fail
    refine (contains_any _ _ _ _ _ Q.out).mono ?_
    rw [hq]
    rintro e w1' ⟨rfl, rfl⟩
    go_wp2_with fail
    go_ret
    exact ⟨_, rfl, by rw [HN.out]; exact ⟨[], World.ownsRow_nil _ _ _ _, TyRow.zero _ _⟩, hb1⟩

/-- A row of types whose first cells are marked. -/
def MarkedT (w : World) (lo : Nat) (v : Value) (n : Nat) (k : Int) (j : Nat) : Prop := ∃ xs, w.ownsRow lo 34 2 v n xs ∧ ∀ i, i < j * 2 → xs[i]? = some (.int .i64 (k + i))
set_option maxHeartbeats 800000 in
theorem markTys_some (g n cap lo : Nat) (k : Int) (xs : List Value) (w : World) (hn : n ≤ 1048576) (h0 : 0 ≤ k) (h1 : k ≤ 1048576) (hr : w.ownsRow lo 34 2 (.slice (some ⟨g, 0, none⟩) n cap) n xs) :
    Calls Try.prog 32 #[.slice (some ⟨g, 0, none⟩) n cap, .int .i64 k] w fun e w' => e = .returned (.int .i64 (k + 2 * n)) ∧ MarkedT w' lo (.slice (some ⟨g, 0, none⟩) n cap) n k n ∧ w.grownBy w' (some g) := by
  have Hr := Lib.hid hr
  clear hr
  go_enter Try.func32, Try.ntmps32
  go_wp2_with fail
  go_loopw [1, 5] (fun q i wr => ∃ j : Nat, j ≤ n ∧ i = .int .i64 j ∧ q = .int .i64 (k + 2 * j) ∧ MarkedT wr lo (.slice (some ⟨g, 0, none⟩) n cap) n k j ∧ w.grownBy wr (some g)) (fun _ i _ => n - (intOf i).toNat)
  case atStart => exact ⟨0, by omega, rfl, by simp, ⟨xs, Hr.out, fun i h => absurd h (by omega)⟩, World.grownBy.refl _ _⟩
  case round =>
    obtain ⟨j, hj, rfl, rfl, hm, hg⟩ := hrel
    by_cases hlt : j < n
    · obtain ⟨ys, ho, hy⟩ := hm
      have HY := Lib.hid hy
      have HO := Lib.hid ho
      obtain ⟨v0, f0⟩ := own_cell ho (j * 2) (by omega)
      obtain ⟨v1, f1⟩ := own_cell ho (j * 2 + 1) (by omega)
      have g0 := ho.frozenAt (j * 2)
      have g1 := ho.frozenAt (j * 2 + 1)
      clear hy ho
      go_wp2_with fail
      have hs := (HO.out.stored (j * 2) (.int .i64 (k + 2 * j))).1
      have hs2 := (hs.stored (j * 2 + 1) (.int .i64 (k + 2 * j + 1))).1
      have hg2 : w.grownBy ((wr.setCell ⟨g, j * 2, none⟩ (.int .i64 (k + 2 * j))).setCell ⟨g, j * 2 + 1, none⟩ (.int .i64 (k + 2 * j + 1))) (some g) := by
        have hg1 := (HO.out.stored (j * 2) (.int .i64 (k + 2 * j))).2
        have hg3 := (hs.stored (j * 2 + 1) (.int .i64 (k + 2 * j + 1))).2
        exact ⟨hg3.os.trans (hg1.os.trans hg.os), hg3.tape.trans (hg1.tape.trans hg.tape), hg3.output.trans (hg1.output.trans hg.output), Nat.le_trans hg.size (Nat.le_trans hg1.size hg3.size), fun b hb hne => (hg3.block b (Nat.lt_of_lt_of_le hb (Nat.le_trans hg.size hg1.size)) hne).trans ((hg1.block b (Nat.lt_of_lt_of_le hb hg.size) hne).trans (hg.block b hb hne))⟩
      have hl := HO.out.1
      go_roundw
      case rel => exact ⟨j + 1, by omega, by go_num, by congr 1; push_cast; omega, ⟨_, hs2, fun i hi => by
        by_cases e : i = j * 2
        · subst e; rw [List.getElem?_set_ne (by omega), List.getElem?_set_self (by omega)]; congr 2; push_cast; omega
        · by_cases e' : i = j * 2 + 1
          · subst e'; rw [List.getElem?_set_self (by simp; omega)]; congr 2; push_cast; omega
          · rw [List.getElem?_set_ne (by omega), List.getElem?_set_ne (by omega)]; exact HY.out i (by omega)⟩, hg2⟩
      case measure => simp [intOf]; omega
    · have he : j = n := by omega
      have HM : Hid (MarkedT wr lo (.slice (some ⟨g, 0, none⟩) n cap) n k n) := by rw [← he] at hm ⊢; exact hm
      have HE := Lib.hid he
      clear he hm
      go_wp2_with fail
      go_ret
      exact ⟨ret_i64 (by rw [HE.out]), HM.out, hg⟩

theorem markTys_none (A : Option Addr) (cap : Nat) (k : Int) (w : World) :
    Calls Try.prog 32 #[.slice A 0 cap, .int .i64 k] w fun e w' => e = .returned (.int .i64 k) ∧ w = w' := by
  go_enter Try.func32, Try.ntmps32
  go_wp2_with fail
  go_loopw [1, 5] (fun q i wr => i = .int .i64 0 ∧ q = .int .i64 k ∧ w = wr) (fun _ _ _ => 0)
  case atStart => exact ⟨rfl, rfl, rfl⟩
  case round =>
    obtain ⟨rfl, rfl, rfl⟩ := hrel
    go_wp2_with fail
    go_ret
    exact ⟨rfl, rfl⟩
theorem heldTys_none (A : Option Addr) (cap : Nat) (k : Int) (w : World) :
    Calls Try.prog 33 #[.slice A 0 cap, .int .i64 k] w fun e w' => e = .returned (.int .i64 k) ∧ w = w' := by
  go_enter Try.func33, Try.ntmps33
  go_wp2_with fail
  go_loopw [1, 5] (fun q i wr => i = .int .i64 0 ∧ q = .int .i64 k ∧ w = wr) (fun _ _ _ => 0)
  case atStart => exact ⟨rfl, rfl, rfl⟩
  case round =>
    obtain ⟨rfl, rfl, rfl⟩ := hrel
    go_wp2_with fail
    go_ret
    exact ⟨rfl, rfl⟩

/-- The marks lie there. -/
def RMkT (w : World) (A : Option Addr) (n : Nat) (k : Int) : Prop := ∀ j, j < n → ∃ b off, A = some ⟨b, off, none⟩ ∧ b < w.heap.size ∧ w.cell? ⟨b, off + j * 2, none⟩ = some (.int .i64 (k + 2 * j)) ∧ w.cell? ⟨b, off + j * 2 + 1, none⟩ = some (.int .i64 (k + 2 * j + 1))
theorem RMkT.at_ {w w' : World} {A : Option Addr} {n : Nat} {k : Int} (h : RMkT w A n k) (hb : Below w.heap.size w w') : RMkT w' A n k := fun j hj => by
  obtain ⟨b, off, e, hbl, h1, h2⟩ := h j hj
  exact ⟨b, off, e, Nat.lt_of_lt_of_le hbl hb.size, (hb.cell (p := ⟨b, off + j * 2, none⟩) hbl).trans h1, (hb.cell (p := ⟨b, off + j * 2 + 1, none⟩) hbl).trans h2⟩
theorem MarkedT.reads {w : World} {lo g n cap : Nat} {k : Int} (h : MarkedT w lo (.slice (some ⟨g, 0, none⟩) n cap) n k n) : RMkT w (some ⟨g, 0, none⟩) n k := fun j hj => by
  obtain ⟨xs, ho, hx⟩ := h
  refine ⟨g, 0, rfl, own_lt ho, ?_, ?_⟩
  · rw [Nat.zero_add, ho.cellAt (j * 2) (by omega), hx (j * 2) (by omega)]; congr 2; push_cast; omega
  · rw [Nat.zero_add, ho.cellAt (j * 2 + 1) (by omega), hx (j * 2 + 1) (by omega)]; congr 2; push_cast; omega

set_option maxHeartbeats 800000 in
theorem heldTys_any (A : Option Addr) (n cap : Nat) (k : Int) (w : World) (hn : n ≤ 1048576) (h0 : 0 ≤ k) (h1 : k ≤ 1048576) (hr : RMkT w A n k) :
    Calls Try.prog 33 #[.slice A n cap, .int .i64 k] w fun e w' => e = .returned (.int .i64 (k + 2 * n)) ∧ w = w' := by
  have Hr := Lib.hid hr
  clear hr
  go_enter Try.func33, Try.ntmps33
  go_wp2_with fail
  go_loopw [1, 5] (fun q i wr => ∃ j : Nat, j ≤ n ∧ i = .int .i64 j ∧ q = .int .i64 (k + 2 * j) ∧ w = wr) (fun _ i _ => n - (intOf i).toNat)
  case atStart => exact ⟨0, by omega, rfl, by simp, rfl⟩
  case round =>
    obtain ⟨j, hj, rfl, rfl, rfl⟩ := hrel
    by_cases hlt : j < n
    · obtain ⟨b, off, rfl, _, c0, c1⟩ := Hr.out j hlt
      go_wp2_with fail
      go_roundw
      case rel => exact ⟨j + 1, by omega, by go_num, by congr 1; push_cast; omega, trivial⟩
      case measure => simp [intOf]; omega
    · have he : j = n := by omega
      have HE := Lib.hid he
      clear he
      go_wp2_with fail
      go_ret
      exact ⟨ret_i64 (by rw [HE.out]), rfl⟩
end Go.Proofs.Ythebdlejoficmaa
