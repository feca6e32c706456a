/-
  Whether two lists have the same variables: the program's function and its closure. No statement is proved here.
-/
import Derived.Test.YteoopmogklpnoaaV44
import Derived.Lib.AppendZerosOnto
import Derived.Laws.AppendOwnNone
namespace Go.Proofs.Yteoopmogklpnoaa
open Go.RowKit Go.Sort Go.Deep
set_option maxRecDepth 100000
set_option linter.unusedVariables false
theorem containsVt_any (A : Option Addr) (L : List Vt) (cap : Nat) (x : Vt) (w : World) (hr : RVts w w.heap.size A L) :
    Calls Try.prog 145 #[.slice A L.length cap, vv x] w fun e w' => e = .returned (.bool (dec (x ∈ L))) ∧ Below w.heap.size w w' := by
  have Hr := Lib.hid hr
  clear hr
  generalize hw0 : w.alloc (.cells #[.int .i64 x.var, .int .i64 x.ty.data, .int .i64 x.ty.index] 56) = w0
  have hb0 : Below w.heap.size w w0 := by rw [← hw0]; exact (Below.refl _ _).alloc (Nat.le_refl _) _
  have HX : Hid (RVt w0 w.heap.size 0 x) := by rw [← hw0]; exact ⟨by simp [go_sem], by simp [go_sem], by simp [go_sem]⟩
  have HI := Lib.hid (indexVt_any A L cap x w0 (Hr.out.at_ hb0))
  have HW := Lib.hid hw0
  clear hw0
  obtain ⟨f0, f1, f2⟩ := HX.out
  go_enter Try.func145, Try.ntmps145
  go_wp2_with (go_at_call 153; (try rw [HW.out]); refine HI.out.mono ?_; rintro e w1 ⟨r, rfl, hd, hb⟩; have HD := Lib.hid hd; clear hd; have hbw := below_aft hb0 hb hb0.size)
  go_ret
  exact ⟨ret_bool HD.out, hbw⟩
theorem notIn_any (pb : Nat) (A : Option Addr) (L : List Vt) (cap : Nat) (x : Vt) (w : World) (hr : RVts w w.heap.size A L) (hp : w.cell? ⟨pb, 0, none⟩ = some (.slice A L.length cap)) :
    Calls Try.prog 144 #[vv x, .pointer (some ⟨pb, 0, none⟩)] w fun e w' => e = .returned (.bool (!dec (x ∈ L))) ∧ Below w.heap.size w w' := by
  have Hr := Lib.hid hr
  have HP := Lib.hid hp
  have hpl : pb < w.heap.size := Go.block_lt_of_cell hp
  clear hr hp
  generalize hw0 : w.alloc (.cells #[.int .i64 x.var, .int .i64 x.ty.data, .int .i64 x.ty.index] 56) = w0
  have hb0 : Below w.heap.size w w0 := by rw [← hw0]; exact (Below.refl _ _).alloc (Nat.le_refl _) _
  have HX : Hid (RVt w0 w.heap.size 0 x) := by rw [← hw0]; exact ⟨by simp [go_sem], by simp [go_sem], by simp [go_sem]⟩
  have HI := Lib.hid (containsVt_any A L cap x w0 (Hr.out.at_ hb0))
  have hp0 : w0.cell? ⟨pb, 0, none⟩ = some (.slice A L.length cap) := (hb0.cell (p := ⟨pb, 0, none⟩) hpl).trans HP.out
  have HW := Lib.hid hw0
  clear hw0
  have hpA : (w.alloc (.cells #[.int .i64 x.var, .int .i64 x.ty.data, .int .i64 x.ty.index] 56)).cell? ⟨pb, 0, none⟩ = some (.slice A L.length cap) := by rw [HW.out]; exact hp0
  obtain ⟨f0, f1, f2⟩ := HX.out
  go_enter Try.func144, Try.ntmps144
  go_wp2_with (go_at_call 145; (try rw [HW.out]); refine HI.out.mono ?_; rintro e w1 ⟨rfl, hb⟩; have hbw := below_aft hb0 hb hb0.size)
  go_ret
  exact ⟨rfl, hbw⟩
def AllIn (a b : List Vt) (k : Nat) : Prop := ∀ j (h : j < a.length), j < k → a[j] ∈ b
theorem AllIn.zero (a b : List Vt) : AllIn a b 0 := fun j _ h => absurd h (by omega)
theorem AllIn.step {a b : List Vt} {k : Nat} (h : AllIn a b k) (hk : k < a.length) (e : a[k] ∈ b) : AllIn a b (k + 1) := by
  intro j hj hjk
  by_cases e' : j = k
  · subst e'; exact e
  · exact h j hj (by omega)
theorem AllIn.yes {a b : List Vt} {k : Nat} (h : AllIn a b k) (hk : a.length ≤ k) : upto (inV a b) a.length = true := upto_all (fun i hi => by rw [inV_at hi, dec_t (h i hi (by omega))])
theorem AllIn.no {a b : List Vt} {k : Nat} (hk : k < a.length) (e : ¬ a[k] ∈ b) : upto (inV a b) a.length = false := upto_f hk (by rw [inV_at hk, dec_f e])
set_option maxHeartbeats 1600000 in
theorem indexNot_any (pb : Nat) (A A' : Option Addr) (a b : List Vt) (cap cap' : Nat) (w : World) (hr : RVts w w.heap.size A a) (hr' : RVts w w.heap.size A' b) (hp : w.cell? ⟨pb, 0, none⟩ = some (.slice A' b.length cap')) :
    Calls Try.prog 154 #[.slice A a.length cap, .func (.func 144) #[] #[.pointer (some ⟨pb, 0, none⟩)]] w fun e w' => ∃ r : Int, e = .returned (.int .i64 r) ∧ decide (0 ≤ r) = !upto (inV a b) a.length ∧ Below w.heap.size w w' := by
  have hn := hr.1
  unfold maxLen at hn
  have Hr := Lib.hid hr
  have Hr' := Lib.hid hr'
  have HP := Lib.hid hp
  have hpl : pb < w.heap.size := Go.block_lt_of_cell hp
  clear hr hr' hp
  go_enter Try.func154, Try.ntmps154
  go_wp2_with fail
  go_loopw [8] (fun i wr => ∃ k : Nat, k ≤ a.length ∧ i = .int .i64 k ∧ AllIn a b k ∧ Below w.heap.size w wr) (fun i _ => a.length - (intOf i).toNat)
  case atStart => exact ⟨0, by omega, rfl, AllIn.zero _ _, Below.refl _ _⟩
  case round =>
    obtain ⟨k, hk, rfl, hno, hb⟩ := hrel
    by_cases hlt : k < a.length
    · obtain ⟨g, off, rfl, hbB, c0, c1, c2⟩ := (Hr.out.below hb (Nat.le_refl _)).2 k hlt
      have hkI : (k : Int) < (a.length : Int) := by omega
      have HST := Lib.hid (hno.step hlt)
      have HNO := Lib.hid (AllIn.no (b := b) hlt)
      have HIS := Lib.hid (notIn_any pb A' b cap' a[k] wr (Hr'.out.at_ hb) ((hb.cell (p := ⟨pb, 0, none⟩) hpl).trans HP.out))
      generalize a[k] = x at HIS c0 c1 c2 HST HNO
      by_cases hs : x ∈ b
      · have HC := Lib.hid (dec_t hs)
        have HN := Lib.hid (HST.out hs)
        clear hs
        go_wp2_with fail
        refine HIS.out.mono ?_
        rw [HC.out]
        rintro e w1 ⟨rfl, hb1⟩
        have hb2 := hb.trans (hb1.mono hb.size)
        go_wp2_with fail
        go_roundw
        case rel => exact ⟨k + 1, by omega, by go_num, HN.out, hb2⟩
        case measure => simp [intOf]; omega
      · have HC := Lib.hid (dec_f hs)
        have HT : Hid (decide (0 ≤ (k : Int)) = !upto (inV a b) a.length) := by unfold Hid; rw [HNO.out hs]; exact decide_eq_true (by omega)
        clear hs
        go_wp2_with fail
        refine HIS.out.mono ?_
        rw [HC.out]
        rintro e w1 ⟨rfl, hb1⟩
        have hb2 := hb.trans (hb1.mono hb.size)
        go_wp2_with fail
        go_ret
        exact ⟨_, rfl, HT.out, hb2⟩
    · have HT : Hid (decide (0 ≤ (-1 : Int)) = !upto (inV a b) a.length) := by unfold Hid; rw [hno.yes (by omega)]; rfl
      go_wp2_with fail
      go_ret
      exact ⟨_, rfl, HT.out, hb⟩
theorem containsNot_any (pb : Nat) (A A' : Option Addr) (a b : List Vt) (cap cap' : Nat) (w : World) (hr : RVts w w.heap.size A a) (hr' : RVts w w.heap.size A' b) (hp : w.cell? ⟨pb, 0, none⟩ = some (.slice A' b.length cap')) :
    Calls Try.prog 146 #[.slice A a.length cap, .func (.func 144) #[] #[.pointer (some ⟨pb, 0, none⟩)]] w fun e w' => e = .returned (.bool (!upto (inV a b) a.length)) ∧ Below w.heap.size w w' := by
  have HI := Lib.hid (indexNot_any pb A A' a b cap cap' w hr hr' hp)
  clear hr hr' hp
  go_enter Try.func146, Try.ntmps146
  go_wp2_with fail
  refine HI.out.mono ?_
  rintro e w1 ⟨r, rfl, hd, hb⟩
  have HD := Lib.hid hd
  clear hd
  go_wp2_with fail
  go_ret
  exact ⟨ret_bool HD.out, hb⟩
set_option maxHeartbeats 1600000 in
theorem sameVars_any (A A' : Option Addr) (a b : List Vt) (cap cap' : Nat) (w : World) (hr : RVts w w.heap.size A a) (hr' : RVts w w.heap.size A' b) :
    Calls Try.prog 125 #[.slice A a.length cap, .slice A' b.length cap'] w fun e w' => e = .returned (.bool (sameB a b)) ∧ Below w.heap.size w w' := by
  have Hr := Lib.hid hr
  have Hr' := Lib.hid hr'
  clear hr hr'
  generalize hw0 : w.alloc (.cells #[.slice A' b.length cap'] 53) = w0
  have hb0 : Below w.heap.size w w0 := by rw [← hw0]; exact (Below.refl _ _).alloc (Nat.le_refl _) _
  have hx : w0.cell? ⟨w.heap.size, 0, none⟩ = some (.slice A' b.length cap') := by rw [← hw0]; simp [go_sem]
  have HI := Lib.hid (containsNot_any w.heap.size A A' a b cap cap' w0 (Hr.out.at_ hb0) (Hr'.out.at_ hb0) hx)
  have HW := Lib.hid hw0
  clear hw0
  by_cases hl : a.length = b.length
  · have q : ((a.length : Int) == (b.length : Int)) = true := by simp [hl]
    have HS : Hid (sameB a b = upto (inV a b) a.length) := by unfold Hid sameB; rw [decide_eq_true hl]; rfl
    clear hl
    go_enter Try.func125, Try.ntmps125
    go_wp2_with fail
    rw [HW.out]
    go_wp2_with (go_at_call 146; (try rw [HW.out]); refine HI.out.mono ?_; rintro e w1 ⟨rfl, hb⟩; have hbw := below_aft hb0 hb hb0.size)
    go_ret
    exact ⟨ret_bool (by rw [HS.out]), hbw⟩
  · have q : ((a.length : Int) == (b.length : Int)) = false := by simp; omega
    have HS : Hid (sameB a b = false) := by unfold Hid sameB; rw [decide_eq_false hl]; rfl
    clear hl
    go_enter Try.func125, Try.ntmps125
    go_wp2_with fail
    rw [HW.out]
    go_wp2_with fail
    go_ret
    exact ⟨ret_bool HS.out.symm, hb0⟩
end Go.Proofs.Yteoopmogklpnoaa
/-
  Rows of lists of variables; the library's Grow and Concat at them. No statement is proved here.
-/
namespace Go.Proofs.Yteoopmogklpnoaa
open Go.RowKit Go.Sort Go.Deep
set_option maxRecDepth 100000
set_option linter.unusedVariables false
theorem infoVs : (Try.prog.info? 53).map (fun i => (i.zero, i.size, i.bytes)) = some (some (.slice none 0 0), 1, 24) := by kernel_rfl
theorem VtRow.one {L : List Vt} {xs : List Value} (h : VtRow L xs) (hx : xs.length = L.length * 3) : ∀ u ∈ xs, u.oneCell' = true := by
  intro u hu
  obtain ⟨i, hi, rfl⟩ := List.mem_iff_getElem.1 hu
  have hj : i / 3 < L.length := by omega
  obtain ⟨h0, h1, h2⟩ := h (i / 3) hj
  have hr : i % 3 = 0 ∨ i % 3 = 1 ∨ i % 3 = 2 := by omega
  rcases hr with hr | hr | hr
  · rw [show i / 3 * 3 = i by omega, List.getElem?_eq_getElem hi] at h0
    injection h0 with h0; rw [h0]; rfl
  · rw [show i / 3 * 3 + 1 = i by omega, List.getElem?_eq_getElem hi] at h1
    injection h1 with h1; rw [h1]; rfl
  · rw [show i / 3 * 3 + 1 + 1 = i by omega, List.getElem?_eq_getElem hi] at h2
    injection h2 with h2; rw [h2]; rfl
theorem VtRow.cat {L L' : List Vt} {xs ys : List Value} (h : VtRow L xs) (hx : xs.length = L.length * 3) (h' : VtRow L' ys) : VtRow (L ++ L') (xs ++ ys) := by
  intro j hj
  by_cases e : j < L.length
  · obtain ⟨a, b, c⟩ := h j e
    rw [List.getElem_append_left e]
    refine ⟨?_, ?_, ?_⟩
    · rw [List.getElem?_append_left (by omega)]; exact a
    · rw [List.getElem?_append_left (by omega)]; exact b
    · rw [List.getElem?_append_left (by omega)]; exact c
  · have hj' : j - L.length < L'.length := by simp at hj; omega
    obtain ⟨a, b, c⟩ := h' (j - L.length) hj'
    rw [List.getElem_append_right (by omega)]
    refine ⟨?_, ?_, ?_⟩
    · rw [List.getElem?_append_right (by omega), hx, show j * 3 - L.length * 3 = (j - L.length) * 3 by omega]; exact a
    · rw [List.getElem?_append_right (by omega), hx, show j * 3 + 1 - L.length * 3 = (j - L.length) * 3 + 1 by omega]; exact b
    · rw [List.getElem?_append_right (by omega), hx, show j * 3 + 1 + 1 - L.length * 3 = (j - L.length) * 3 + 1 + 1 by omega]; exact c
/-- A list of variables that is nil, or at the head of a block. -/
theorem OVt.is {w : World} {lo : Nat} {v : Value} {L : List Vt} (h : OVt w lo v L) : (v = .slice none 0 0 ∧ L = []) ∨ ∃ g cap xs, v = .slice (some ⟨g, 0, none⟩) L.length cap ∧ lo ≤ g ∧ g < w.heap.size ∧ xs.length = L.length * 3 ∧ VtRow L xs ∧ ∀ j u, xs[j]? = some u → w.cell? ((⟨g, 0, none⟩ : Addr).add j) = some u := by
  obtain ⟨xs, ho, hx⟩ := h
  have hc := fun g (hg : v.ownBlock = some g) => ho.cells hg
  have hlen := ho.1
  rcases ho.2 with ⟨rfl, h0⟩ | ⟨g, cap, cur, rfl, hb, hg, _⟩
  · exact .inl ⟨rfl, List.eq_nil_of_length_eq_zero h0⟩
  · exact .inr ⟨g, cap, xs, rfl, hb, heap_lt hg, hlen, hx, hc g rfl⟩
theorem OVt.lower {w : World} {lo lo' : Nat} {v : Value} {L : List Vt} (h : OVt w lo v L) (hl : lo' ≤ lo) : OVt w lo' v L := by
  obtain ⟨xs, ho, hx⟩ := h
  refine ⟨xs, ⟨ho.1, ?_⟩, hx⟩
  rcases ho.2 with h0 | ⟨g, cap, cur, e, hb, hg⟩
  · exact .inl h0
  · exact .inr ⟨g, cap, cur, e, by omega, hg⟩
/-- A row of lists of variables. -/
def RLs (w : World) (B : Nat) (A : Option Addr) (LL : List (List Vt)) : Prop := LL.length ≤ maxLen ∧ ∀ k (h : k < LL.length), ∃ b off v, A = some ⟨b, off, none⟩ ∧ b < B ∧ w.cell? ⟨b, off + k, none⟩ = some v ∧ OVt w 0 v LL[k]
theorem RLs.at_ {w w' : World} {A : Option Addr} {LL : List (List Vt)} (h : RLs w w.heap.size A LL) (hb : Below w.heap.size w w') : RLs w' w'.heap.size A LL :=
  ⟨h.1, fun k hk => by
    obtain ⟨b, off, v, e, hbB, hc, ho⟩ := h.2 k hk
    exact ⟨b, off, v, e, by have := hb.size; omega, (hb.cell (p := ⟨b, off + k, none⟩) hbB).trans hc, ho.at_ hb⟩⟩
def sumL (LL : List (List Vt)) (k : Nat) : Nat := (LL.take k).flatten.length
theorem take_flat {LL : List (List Vt)} {k : Nat} (h : k < LL.length) : (LL.take (k + 1)).flatten = (LL.take k).flatten ++ LL[k] := by
  rw [List.take_succ_eq_append_getElem h, List.flatten_append]; simp
theorem sumL_succ {LL : List (List Vt)} {k : Nat} (h : k < LL.length) : sumL LL (k + 1) = sumL LL k + LL[k].length := by
  unfold sumL; rw [take_flat h, List.length_append]
theorem sumL_le (LL : List (List Vt)) (k : Nat) : sumL LL k ≤ LL.flatten.length := by
  have h : LL.flatten = (LL.take k).flatten ++ (LL.drop k).flatten := by rw [← List.flatten_append, List.take_append_drop]
  unfold sumL; rw [h, List.length_append]; omega
theorem sumL_all (LL : List (List Vt)) : sumL LL LL.length = LL.flatten.length := by unfold sumL; rw [List.take_length]
set_option maxHeartbeats 800000 in
theorem grow_any (n : Nat) (w : World) (hn : n ≤ 10000) :
    Calls Try.prog 149 #[.slice none 0 0, .int .i64 n] w fun e w' => ∃ v, e = .returned v ∧ OVt w' w.heap.size v [] ∧ Below w.heap.size w w' := by
  obtain ⟨i0, hi, hz0, hz1, hz2⟩ := info_parts infoVt
  by_cases h0 : n = 0
  · subst h0
    go_enter Try.func149, Try.ntmps149
    go_wp2_with fail
    go_ret
    exact ⟨_, rfl, OVt.nil _ _, Below.refl _ _⟩
  · have hrun := Lib.run_append_nil_zeros (P := Try.prog) w 53 3 53 56 i0 _ .i64 .i64 Try.underlying53 Try.underlying3 hi hz0 n (by omega) (by omega) (by omega) (by rw [hz2]; omega)
    have HRUN := Lib.hid hrun
    have hge := grownCap_ge w n 0 56
    have hcm := grownCap_le_maxLen w n 0 56 (by unfold maxLen; omega)
    have HMA := Lib.hid (fun (cur : Array Value) (cap : Nat) (hm : cap ≤ maxLen) (hs : cur.size = cap * 3) => World.ownsRow_made (base := w.heap.size) (e := 56) (size := 3) w.drew cur cap (Nat.le_refl _) hm hs)
    generalize grownCap w n 0 56 = cp at hge hcm HRUN
    clear hrun
    have hcm' := hcm
    unfold maxLen at hcm'
    go_enter Try.func149, Try.ntmps149
    go_wp2_with (at_builtin; refine Lib.wpList_append_run _ rfl _ _ _ _ rfl _ _ rfl rfl _ _ HRUN.out ?_)
    go_ret
    refine ⟨_, rfl, ⟨[], HMA.out _ cp hcm ?_, fun j h => absurd h (Nat.not_lt_zero _)⟩, ?_⟩
    · simp [size_zeroCells]
      omega
    · exact ((Below.refl _ w).drew).alloc (by simp) _
end Go.Proofs.Yteoopmogklpnoaa
/-
  The library's Concat at lists of variables. No statement is proved here.
-/
namespace Go.Proofs.Yteoopmogklpnoaa
open Go.RowKit Go.Sort Go.Deep
set_option maxRecDepth 100000
set_option linter.unusedVariables false
set_option maxHeartbeats 1600000 in
theorem concat_any (A : Option Addr) (LL : List (List Vt)) (cap : Nat) (w : World) (hr : RLs w w.heap.size A LL) (hn : LL.flatten.length ≤ 1000) :
    Calls Try.prog 127 #[.slice A LL.length cap] w fun e w' => ∃ v, e = .returned v ∧ OVt w' w.heap.size v LL.flatten ∧ Below w.heap.size w w' := by
  obtain ⟨i0, hi, hz0, hz1, hz2⟩ := info_parts infoVt
  have hm := hr.1
  unfold maxLen at hm
  have Hr := Lib.hid hr
  have HALL := Lib.hid (sumL_all LL)
  have HSL := Lib.hid (sumL_le LL)
  clear hr
  go_enter Try.func127, Try.ntmps127
  go_wp2_with fail
  go_loop [3, 11] (fun s i => ∃ k : Nat, k ≤ LL.length ∧ i = .int .i64 k ∧ s = .int .i64 (sumL LL k : Nat)) (fun _ i => LL.length - (intOf i).toNat)
  case atStart => exact ⟨0, by omega, rfl, rfl⟩
  case round =>
    obtain ⟨k, hk, rfl, rfl⟩ := hrel
    have hsk := HSL.out k
    by_cases hlt : k < LL.length
    · obtain ⟨b, off, v, rfl, hbB, c0, ho⟩ := Hr.out.2 k hlt
      obtain ⟨A', c', rfl, _⟩ := ho.form (by have := HSL.out (k + 1); have := sumL_succ hlt; unfold maxLen; omega)
      have hs1 := HSL.out (k + 1)
      have HS := Lib.hid (sumL_succ hlt)
      have hs2 : sumL LL k + LL[k].length ≤ LL.flatten.length := by rw [← HS.out]; exact hs1
      have HO := Lib.hid ho
      clear ho
      go_wp2_with fail
      go_round
      case rel => exact ⟨k + 1, by omega, by go_num, by rw [HS.out]; go_num⟩
      case measure => simp [intOf]; omega
    · have he : k = LL.length := by omega
      have HE : Hid (sumL LL k = LL.flatten.length) := by unfold Hid; rw [he]; exact HALL.out
      clear he
      go_wp2_with (go_at_call 149; refine (grow_any (sumL LL k) w (by omega)).mono ?_; rintro e w1 ⟨v1, rfl, ho1, hb1⟩)
      have HO1 := Lib.hid ho1
      clear ho1
      go_loopw [6, 27] (fun vs i wr => ∃ j : Nat, j ≤ LL.length ∧ i = .int .i64 j ∧ ∃ v, v = vs ∧ OVt wr w.heap.size v (LL.take j).flatten ∧ Below w.heap.size w wr) (fun _ i _ => LL.length - (intOf i).toNat)
      case atStart => exact ⟨0, by omega, rfl, _, rfl, HO1.out, hb1⟩
      case round =>
        obtain ⟨j, hj, rfl, v, rfl, ho, hb⟩ := hrel
        clear hb1 HO1
        by_cases hlt2 : j < LL.length
        · obtain ⟨b, off, v2, rfl, hbB, c0, ho2⟩ := (Hr.out.at_ hb).2 j hlt2
          have HTF := Lib.hid (take_flat hlt2)
          have hs1 := HSL.out (j + 1)
          have HS := Lib.hid (sumL_succ hlt2)
          have hs2 : sumL LL j + LL[j].length ≤ LL.flatten.length := by rw [← HS.out]; exact hs1
          have hbs := hb.size
          have hjl : (j : Int) < (LL.length : Int) := by omega
          obtain ⟨xs, hox, hxr⟩ := ho
          have HOX := Lib.hid hox
          have HXR := Lib.hid hxr
          have HXL := Lib.hid hox.1
          clear hox hxr
          have HOW : Hid (∀ g, v.ownBlock = some g → w.heap.size ≤ g) := fun g e => (HOX.out.lt g e).1
          rcases ho2.is with ⟨rfl, hnil⟩ | ⟨g, cap2, ys, rfl, _, hgl, hyl, hyr, hyc⟩
          · have HF : Hid ((LL.take (j + 1)).flatten = (LL.take j).flatten) := by unfold Hid; rw [HTF.out, hnil, List.append_nil]
            have HR : Hid (OVt wr w.heap.size v (LL.take (j + 1)).flatten) := by unfold Hid; rw [HF.out]; exact ⟨xs, HOX.out, HXR.out⟩
            clear hnil ho2
            go_wp2_with (at_builtin; refine wpList_append_own_none rfl _ _ 53 rfl w.heap.size 56 i0 3 Try.underlying53 hi v _ xs rfl HOX.out rfl ?_)
            go_roundw
            case rel => exact ⟨j + 1, by omega, by go_num, _, rfl, HR.out, hb⟩
            case measure => simp [intOf]; omega
          · have HYL := Lib.hid hyl
            have HYR := Lib.hid hyr
            have HYC := Lib.hid hyc
            have HY1 := Lib.hid (hyr.one hyl)
            have hsum : (LL.take j).flatten.length + LL[j].length ≤ 1000 := by unfold sumL at hs2; omega
            have HB47 : Hid ((LL.take j).flatten.length + LL[j].length ≤ maxLen ∧ ((LL.take j).flatten.length + LL[j].length) * 24 ≤ 140737488355328) := ⟨by unfold maxLen; omega, by omega⟩
            clear hyl hyr hyc ho2
            go_wp2_with (at_builtin; refine wpList_append_own _ rfl _ _ 53 rfl w.heap.size 56 i0 _ 3 24 Try.underlying53 hi hz0 hz1 hz2 rfl (by decide) v _ xs rfl HOX.out ⟨g, 0, none⟩ LL[j].length cap2 ys rfl HYL.out HYC.out HY1.out HB47.out.1 HB47.out.2 hbs ?_; intro v' w2 hown' hgr' _)
            have hb2 : Below w.heap.size w w2 := hb.grown hgr' hbs HOW.out
            have HR : OVt w2 w.heap.size v' (LL.take (j + 1)).flatten := by
              rw [HTF.out]
              refine ⟨xs ++ ys, ?_, HXR.out.cat HXL.out HYR.out⟩
              rw [List.length_append]
              exact hown'
            clear hown' hgr'
            go_roundw
            case rel => exact ⟨j + 1, by omega, by go_num, _, rfl, HR, hb2⟩
            case measure => simp [intOf]; omega
        · have he : j = LL.length := by omega
          have HR : OVt wr w.heap.size v LL.flatten := by rw [he, List.take_length] at ho; exact ho
          clear ho he
          go_wp2_with fail
          go_ret
          exact ⟨_, rfl, HR, hb⟩
end Go.Proofs.Yteoopmogklpnoaa
