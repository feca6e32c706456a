/-
  Whether two lists have the same variables: the program's function and its closure. No statement is proved here.
-/
import Derived.Test.YtbdiahnelnbdnaaGreatW15
import Derived.Test.YtbdiahnelnbdnaaGreatW06
import Derived.Lib.AppendZerosOnto
import Derived.Laws.AppendOwnNone
import Derived.Laws.CopyOwn
import Derived.StillTailTactics
namespace Go.Proofs.YtbdiahnelnbdnaaGreat
open Go.RowKit Go.Sort Go.Deep
set_option maxRecDepth 100000
set_option linter.unusedVariables false
theorem containsVt_any (A : Option Addr) (L : List Vt) (cap : Nat) (x : Vt) (w : World) (hr : RVts w w.heap.size A L) :
    Calls Tryz.prog 90 #[.slice A L.length cap, vv x] w fun e w' => e = .returned (.bool (dec (x ∈ L))) ∧ Below w.heap.size w w' := by
  have Hr := Lib.hid hr
  clear hr
  generalize hw0 : w.alloc (.cells #[.int .i64 x.var, .int .i64 x.ty.data, .int .i64 x.ty.index] 104) = w0
  have hb0 : Below w.heap.size w w0 := by rw [← hw0]; exact (Below.refl _ _).alloc (Nat.le_refl _) _
  have HX : Hid (RVt w0 w.heap.size 0 x) := by rw [← hw0]; exact ⟨by simp [go_sem], by simp [go_sem], by simp [go_sem]⟩
  have HI := Lib.hid (indexVt_any A L cap x w0 (Hr.out.at_ hb0))
  have HW := Lib.hid hw0
  clear hw0
  obtain ⟨f0, f1, f2⟩ := HX.out
  go_enter Tryz.func90, Tryz.ntmps90
  go_wp2_with (go_at_call 102; (try rw [HW.out]); refine HI.out.mono ?_; rintro e w1 ⟨r, rfl, hd, hb⟩; have HD := Lib.hid hd; clear hd; have hbw := below_aft hb0 hb hb0.size)
  go_ret
  exact ⟨ret_bool HD.out, hbw⟩
theorem notIn_any (pb : Nat) (A : Option Addr) (L : List Vt) (cap : Nat) (x : Vt) (w : World) (hr : RVts w w.heap.size A L) (hp : w.cell? ⟨pb, 0, none⟩ = some (.slice A L.length cap)) :
    Calls Tryz.prog 89 #[vv x, .pointer (some ⟨pb, 0, none⟩)] w fun e w' => e = .returned (.bool (!dec (x ∈ L))) ∧ Below w.heap.size w w' := by
  have Hr := Lib.hid hr
  have HP := Lib.hid hp
  have hpl : pb < w.heap.size := Go.block_lt_of_cell hp
  clear hr hp
  generalize hw0 : w.alloc (.cells #[.int .i64 x.var, .int .i64 x.ty.data, .int .i64 x.ty.index] 104) = w0
  have hb0 : Below w.heap.size w w0 := by rw [← hw0]; exact (Below.refl _ _).alloc (Nat.le_refl _) _
  have HX : Hid (RVt w0 w.heap.size 0 x) := by rw [← hw0]; exact ⟨by simp [go_sem], by simp [go_sem], by simp [go_sem]⟩
  have HI := Lib.hid (containsVt_any A L cap x w0 (Hr.out.at_ hb0))
  have hp0 : w0.cell? ⟨pb, 0, none⟩ = some (.slice A L.length cap) := (hb0.cell (p := ⟨pb, 0, none⟩) hpl).trans HP.out
  have HW := Lib.hid hw0
  clear hw0
  have hpA : (w.alloc (.cells #[.int .i64 x.var, .int .i64 x.ty.data, .int .i64 x.ty.index] 104)).cell? ⟨pb, 0, none⟩ = some (.slice A L.length cap) := by rw [HW.out]; exact hp0
  obtain ⟨f0, f1, f2⟩ := HX.out
  go_enter Tryz.func89, Tryz.ntmps89
  go_wp2_with (go_at_call 90; (try rw [HW.out]); refine HI.out.mono ?_; rintro e w1 ⟨rfl, hb⟩; have hbw := below_aft hb0 hb hb0.size)
  go_ret
  exact ⟨rfl, hbw⟩
def AllIn (a b : List Vt) (k : Nat) : Prop := ∀ j (h : j < a.length), j < k → a[j] ∈ b
theorem AllIn.zero (a b : List Vt) : AllIn a b 0 := fun j _ h => absurd h (by omega)
theorem AllIn.step {a b : List Vt} {k : Nat} (h : AllIn a b k) (hk : k < a.length) (e : a[k] ∈ b) : AllIn a b (k + 1) := by
  intro j hj hjk
  by_cases e' : j = k
  · subst e'; exact e
  · exact h j hj (by omega)
theorem AllIn.yes {a b : List Vt} {k : Nat} (h : AllIn a b k) (hk : a.length ≤ k) : upto (inV a b) a.length = true := upto_all (fun i hi => by rw [inV_at hi, dec_t (h i hi (by omega))])
theorem AllIn.no {a b : List Vt} {k : Nat} (hk : k < a.length) (e : ¬ a[k] ∈ b) : upto (inV a b) a.length = false := upto_f hk (by rw [inV_at hk, dec_f e])
set_option maxHeartbeats 1600000 in
theorem indexNot_any (pb : Nat) (A A' : Option Addr) (a b : List Vt) (cap cap' : Nat) (w : World) (hr : RVts w w.heap.size A a) (hr' : RVts w w.heap.size A' b) (hp : w.cell? ⟨pb, 0, none⟩ = some (.slice A' b.length cap')) :
    Calls Tryz.prog 103 #[.slice A a.length cap, .func (.func 89) #[] #[.pointer (some ⟨pb, 0, none⟩)]] w fun e w' => ∃ r : Int, e = .returned (.int .i64 r) ∧ decide (0 ≤ r) = !upto (inV a b) a.length ∧ Below w.heap.size w w' := by
  have hn := hr.1
  unfold maxLen at hn
  have Hr := Lib.hid hr
  have Hr' := Lib.hid hr'
  have HP := Lib.hid hp
  have hpl : pb < w.heap.size := Go.block_lt_of_cell hp
  clear hr hr' hp
  go_enter Tryz.func103, Tryz.ntmps103
  go_wp2_with fail
  go_loopw [8] (fun i wr => ∃ k : Nat, k ≤ a.length ∧ i = .int .i64 k ∧ AllIn a b k ∧ Below w.heap.size w wr) (fun i _ => a.length - (intOf i).toNat)
  case atStart => exact ⟨0, by omega, rfl, AllIn.zero _ _, Below.refl _ _⟩
  case round =>
    obtain ⟨k, hk, rfl, hno, hb⟩ := hrel
    by_cases hlt : k < a.length
    · obtain ⟨g, off, rfl, hbB, c0, c1, c2⟩ := (Hr.out.below hb (Nat.le_refl _)).2 k hlt
      have hkI : (k : Int) < (a.length : Int) := by omega
      have HST := Lib.hid (hno.step hlt)
      have HNO := Lib.hid (AllIn.no (b := b) hlt)
      have HIS := Lib.hid (notIn_any pb A' b cap' a[k] wr (Hr'.out.at_ hb) ((hb.cell (p := ⟨pb, 0, none⟩) hpl).trans HP.out))
      generalize a[k] = x at HIS c0 c1 c2 HST HNO
      by_cases hs : x ∈ b
      · have HC := Lib.hid (dec_t hs)
        have HN := Lib.hid (HST.out hs)
        clear hs
        go_wp2_with fail
        refine HIS.out.mono ?_
        rw [HC.out]
        rintro e w1 ⟨rfl, hb1⟩
        have hb2 := hb.trans (hb1.mono hb.size)
        go_wp2_with fail
        go_roundw
        case rel => exact ⟨k + 1, by omega, by go_num, HN.out, hb2⟩
        case measure => simp [intOf]; omega
      · have HC := Lib.hid (dec_f hs)
        have HT : Hid (decide (0 ≤ (k : Int)) = !upto (inV a b) a.length) := by unfold Hid; rw [HNO.out hs]; exact decide_eq_true (by omega)
        clear hs
        go_wp2_with fail
        refine HIS.out.mono ?_
        rw [HC.out]
        rintro e w1 ⟨rfl, hb1⟩
        have hb2 := hb.trans (hb1.mono hb.size)
        go_wp2_with fail
        go_ret
        exact ⟨_, rfl, HT.out, hb2⟩
    · have HT : Hid (decide (0 ≤ (-1 : Int)) = !upto (inV a b) a.length) := by unfold Hid; rw [hno.yes (by omega)]; rfl
      go_wp2_with fail
      go_ret
      exact ⟨_, rfl, HT.out, hb⟩
theorem containsNot_any (pb : Nat) (A A' : Option Addr) (a b : List Vt) (cap cap' : Nat) (w : World) (hr : RVts w w.heap.size A a) (hr' : RVts w w.heap.size A' b) (hp : w.cell? ⟨pb, 0, none⟩ = some (.slice A' b.length cap')) :
    Calls Tryz.prog 91 #[.slice A a.length cap, .func (.func 89) #[] #[.pointer (some ⟨pb, 0, none⟩)]] w fun e w' => e = .returned (.bool (!upto (inV a b) a.length)) ∧ Below w.heap.size w w' := by
  have HI := Lib.hid (indexNot_any pb A A' a b cap cap' w hr hr' hp)
  clear hr hr' hp
  go_enter Tryz.func91, Tryz.ntmps91
  go_wp2_with fail
  refine HI.out.mono ?_
  rintro e w1 ⟨r, rfl, hd, hb⟩
  have HD := Lib.hid hd
  clear hd
  go_wp2_with fail
  go_ret
  exact ⟨ret_bool HD.out, hb⟩
set_option maxHeartbeats 1600000 in
theorem sameVars_any (A A' : Option Addr) (a b : List Vt) (cap cap' : Nat) (w : World) (hr : RVts w w.heap.size A a) (hr' : RVts w w.heap.size A' b) :
    Calls Tryz.prog 69 #[.slice A a.length cap, .slice A' b.length cap'] w fun e w' => e = .returned (.bool (sameB a b)) ∧ Below w.heap.size w w' := by
  have Hr := Lib.hid hr
  have Hr' := Lib.hid hr'
  clear hr hr'
  generalize hw0 : w.alloc (.cells #[.slice A' b.length cap'] 69) = w0
  have hb0 : Below w.heap.size w w0 := by rw [← hw0]; exact (Below.refl _ _).alloc (Nat.le_refl _) _
  have hx : w0.cell? ⟨w.heap.size, 0, none⟩ = some (.slice A' b.length cap') := by rw [← hw0]; simp [go_sem]
  have HI := Lib.hid (containsNot_any w.heap.size A A' a b cap cap' w0 (Hr.out.at_ hb0) (Hr'.out.at_ hb0) hx)
  have HW := Lib.hid hw0
  clear hw0
  by_cases hl : a.length = b.length
  · have q : ((a.length : Int) == (b.length : Int)) = true := by simp [hl]
    have HS : Hid (sameB a b = upto (inV a b) a.length) := by unfold Hid sameB; rw [decide_eq_true hl]; rfl
    clear hl
    go_enter Tryz.func69, Tryz.ntmps69
    go_wp2_with fail
    rw [HW.out]
    go_wp2_with (go_at_call 91; (try rw [HW.out]); refine HI.out.mono ?_; rintro e w1 ⟨rfl, hb⟩; have hbw := below_aft hb0 hb hb0.size)
    go_ret
    exact ⟨ret_bool (by rw [HS.out]), hbw⟩
  · have q : ((a.length : Int) == (b.length : Int)) = false := by simp; omega
    have HS : Hid (sameB a b = false) := by unfold Hid sameB; rw [decide_eq_false hl]; rfl
    clear hl
    go_enter Tryz.func69, Tryz.ntmps69
    go_wp2_with fail
    rw [HW.out]
    go_wp2_with fail
    go_ret
    exact ⟨ret_bool HS.out.symm, hb0⟩
end Go.Proofs.YtbdiahnelnbdnaaGreat
/-
  Rows of lists of variables; the library's Grow and Concat at them. No statement is proved here.
-/
namespace Go.Proofs.YtbdiahnelnbdnaaGreat
open Go.RowKit Go.Sort Go.Deep
set_option maxRecDepth 100000
set_option linter.unusedVariables false
theorem infoVs : (Tryz.prog.info? 69).map (fun i => (i.zero, i.size, i.bytes)) = some (some (.slice none 0 0), 1, 24) := by kernel_rfl
theorem VtRow.one {L : List Vt} {xs : List Value} (h : VtRow L xs) (hx : xs.length = L.length * 3) : ∀ u ∈ xs, u.oneCell' = true := by
  intro u hu
  obtain ⟨i, hi, rfl⟩ := List.mem_iff_getElem.1 hu
  have hj : i / 3 < L.length := by omega
  obtain ⟨h0, h1, h2⟩ := h (i / 3) hj
  have hr : i % 3 = 0 ∨ i % 3 = 1 ∨ i % 3 = 2 := by omega
  rcases hr with hr | hr | hr
  · rw [show i / 3 * 3 = i by omega, List.getElem?_eq_getElem hi] at h0
    injection h0 with h0; rw [h0]; rfl
  · rw [show i / 3 * 3 + 1 = i by omega, List.getElem?_eq_getElem hi] at h1
    injection h1 with h1; rw [h1]; rfl
  · rw [show i / 3 * 3 + 1 + 1 = i by omega, List.getElem?_eq_getElem hi] at h2
    injection h2 with h2; rw [h2]; rfl
theorem VtRow.cat {L L' : List Vt} {xs ys : List Value} (h : VtRow L xs) (hx : xs.length = L.length * 3) (h' : VtRow L' ys) : VtRow (L ++ L') (xs ++ ys) := by
  intro j hj
  by_cases e : j < L.length
  · obtain ⟨a, b, c⟩ := h j e
    rw [List.getElem_append_left e]
    refine ⟨?_, ?_, ?_⟩
    · rw [List.getElem?_append_left (by omega)]; exact a
    · rw [List.getElem?_append_left (by omega)]; exact b
    · rw [List.getElem?_append_left (by omega)]; exact c
  · have hj' : j - L.length < L'.length := by simp at hj; omega
    obtain ⟨a, b, c⟩ := h' (j - L.length) hj'
    rw [List.getElem_append_right (by omega)]
    refine ⟨?_, ?_, ?_⟩
    · rw [List.getElem?_append_right (by omega), hx, show j * 3 - L.length * 3 = (j - L.length) * 3 by omega]; exact a
    · rw [List.getElem?_append_right (by omega), hx, show j * 3 + 1 - L.length * 3 = (j - L.length) * 3 + 1 by omega]; exact b
    · rw [List.getElem?_append_right (by omega), hx, show j * 3 + 1 + 1 - L.length * 3 = (j - L.length) * 3 + 1 + 1 by omega]; exact c
/-- A list of variables that is nil, or at the head of a block. -/
theorem OVt.is {w : World} {lo : Nat} {v : Value} {L : List Vt} (h : OVt w lo v L) : (v = .slice none 0 0 ∧ L = []) ∨ ∃ g cap xs, v = .slice (some ⟨g, 0, none⟩) L.length cap ∧ lo ≤ g ∧ g < w.heap.size ∧ xs.length = L.length * 3 ∧ VtRow L xs ∧ ∀ j u, xs[j]? = some u → w.cell? ((⟨g, 0, none⟩ : Addr).add j) = some u := by
  obtain ⟨xs, ho, hx⟩ := h
  have hc := fun g (hg : v.ownBlock = some g) => ho.cells hg
  have hlen := ho.1
  rcases ho.2 with ⟨rfl, h0⟩ | ⟨g, cap, cur, rfl, hb, hg, _⟩
  · exact .inl ⟨rfl, List.eq_nil_of_length_eq_zero h0⟩
  · exact .inr ⟨g, cap, xs, rfl, hb, heap_lt hg, hlen, hx, hc g rfl⟩
theorem OVt.lower {w : World} {lo lo' : Nat} {v : Value} {L : List Vt} (h : OVt w lo v L) (hl : lo' ≤ lo) : OVt w lo' v L := by
  obtain ⟨xs, ho, hx⟩ := h
  refine ⟨xs, ⟨ho.1, ?_⟩, hx⟩
  rcases ho.2 with h0 | ⟨g, cap, cur, e, hb, hg⟩
  · exact .inl h0
  · exact .inr ⟨g, cap, cur, e, by omega, hg⟩
/-- A row of lists of variables. -/
def RLs (w : World) (B : Nat) (A : Option Addr) (LL : List (List Vt)) : Prop := LL.length ≤ maxLen ∧ ∀ k (h : k < LL.length), ∃ b off v, A = some ⟨b, off, none⟩ ∧ b < B ∧ w.cell? ⟨b, off + k, none⟩ = some v ∧ OVt w 0 v LL[k]
theorem RLs.at_ {w w' : World} {A : Option Addr} {LL : List (List Vt)} (h : RLs w w.heap.size A LL) (hb : Below w.heap.size w w') : RLs w' w'.heap.size A LL :=
  ⟨h.1, fun k hk => by
    obtain ⟨b, off, v, e, hbB, hc, ho⟩ := h.2 k hk
    exact ⟨b, off, v, e, by have := hb.size; omega, (hb.cell (p := ⟨b, off + k, none⟩) hbB).trans hc, ho.at_ hb⟩⟩
def sumL (LL : List (List Vt)) (k : Nat) : Nat := (LL.take k).flatten.length
theorem take_flat {LL : List (List Vt)} {k : Nat} (h : k < LL.length) : (LL.take (k + 1)).flatten = (LL.take k).flatten ++ LL[k] := by
  rw [List.take_succ_eq_append_getElem h, List.flatten_append]; simp
theorem sumL_succ {LL : List (List Vt)} {k : Nat} (h : k < LL.length) : sumL LL (k + 1) = sumL LL k + LL[k].length := by
  unfold sumL; rw [take_flat h, List.length_append]
theorem sumL_le (LL : List (List Vt)) (k : Nat) : sumL LL k ≤ LL.flatten.length := by
  have h : LL.flatten = (LL.take k).flatten ++ (LL.drop k).flatten := by rw [← List.flatten_append, List.take_append_drop]
  unfold sumL; rw [h, List.length_append]; omega
theorem sumL_all (LL : List (List Vt)) : sumL LL LL.length = LL.flatten.length := by unfold sumL; rw [List.take_length]
set_option maxHeartbeats 800000 in
theorem grow_any (n : Nat) (w : World) (hn : n ≤ 10000) :
    Calls Tryz.prog 94 #[.slice none 0 0, .int .i64 n] w fun e w' => ∃ v, e = .returned v ∧ OVt w' w.heap.size v [] ∧ Below w.heap.size w w' := by
  obtain ⟨i0, hi, hz0, hz1, hz2⟩ := info_parts infoVt
  by_cases h0 : n = 0
  · subst h0
    go_enter Tryz.func94, Tryz.ntmps94
    go_wp2_with fail
    go_ret
    exact ⟨_, rfl, OVt.nil _ _, Below.refl _ _⟩
  · have hrun := Lib.run_append_nil_zeros (P := Tryz.prog) w 69 3 69 104 i0 _ .i64 .i64 Tryz.underlying69 Tryz.underlying3 hi hz0 n (by omega) (by omega) (by omega) (by rw [hz2]; omega)
    have HRUN := Lib.hid hrun
    have hge := grownCap_ge w n 0 104
    have hcm := grownCap_le_maxLen w n 0 104 (by unfold maxLen; omega)
    have HMA := Lib.hid (fun (cur : Array Value) (cap : Nat) (hm : cap ≤ maxLen) (hs : cur.size = cap * 3) => World.ownsRow_made (base := w.heap.size) (e := 104) (size := 3) w.drew cur cap (Nat.le_refl _) hm hs)
    generalize grownCap w n 0 104 = cp at hge hcm HRUN
    clear hrun
    have hcm' := hcm
    unfold maxLen at hcm'
    go_enter Tryz.func94, Tryz.ntmps94
    go_wp2_with (at_builtin; refine Lib.wpList_append_run _ rfl _ _ _ _ rfl _ _ rfl rfl _ _ HRUN.out ?_)
    go_ret
    refine ⟨_, rfl, ⟨[], HMA.out _ cp hcm ?_, fun j h => absurd h (Nat.not_lt_zero _)⟩, ?_⟩
    · simp [size_zeroCells]
      omega
    · exact ((Below.refl _ w).drew).alloc (by simp) _
end Go.Proofs.YtbdiahnelnbdnaaGreat
/-
  The library's Concat at lists of variables. No statement is proved here.
-/
namespace Go.Proofs.YtbdiahnelnbdnaaGreat
open Go.RowKit Go.Sort Go.Deep
set_option maxRecDepth 100000
set_option linter.unusedVariables false
set_option maxHeartbeats 1600000 in
theorem concat_any (A : Option Addr) (LL : List (List Vt)) (cap : Nat) (w : World) (hr : RLs w w.heap.size A LL) (hn : LL.flatten.length ≤ 1000) :
    Calls Tryz.prog 71 #[.slice A LL.length cap] w fun e w' => ∃ v, e = .returned v ∧ OVt w' w.heap.size v LL.flatten ∧ Below w.heap.size w w' := by
  obtain ⟨i0, hi, hz0, hz1, hz2⟩ := info_parts infoVt
  have hm := hr.1
  unfold maxLen at hm
  have Hr := Lib.hid hr
  have HALL := Lib.hid (sumL_all LL)
  have HSL := Lib.hid (sumL_le LL)
  clear hr
  go_enter Tryz.func71, Tryz.ntmps71
  go_wp2_with fail
  go_loop [3, 11] (fun s i => ∃ k : Nat, k ≤ LL.length ∧ i = .int .i64 k ∧ s = .int .i64 (sumL LL k : Nat)) (fun _ i => LL.length - (intOf i).toNat)
  case atStart => exact ⟨0, by omega, rfl, rfl⟩
  case round =>
    obtain ⟨k, hk, rfl, rfl⟩ := hrel
    have hsk := HSL.out k
    by_cases hlt : k < LL.length
    · obtain ⟨b, off, v, rfl, hbB, c0, ho⟩ := Hr.out.2 k hlt
      obtain ⟨A', c', rfl, _⟩ := ho.form (by have := HSL.out (k + 1); have := sumL_succ hlt; unfold maxLen; omega)
      have hs1 := HSL.out (k + 1)
      have HS := Lib.hid (sumL_succ hlt)
      have hs2 : sumL LL k + LL[k].length ≤ LL.flatten.length := by rw [← HS.out]; exact hs1
      have HO := Lib.hid ho
      clear ho
      go_wp2_with fail
      go_round
      case rel => exact ⟨k + 1, by omega, by go_num, by rw [HS.out]; go_num⟩
      case measure => simp [intOf]; omega
    · have he : k = LL.length := by omega
      have HE : Hid (sumL LL k = LL.flatten.length) := by unfold Hid; rw [he]; exact HALL.out
      clear he
      go_wp2_with (go_at_call 94; refine (grow_any (sumL LL k) w (by omega)).mono ?_; rintro e w1 ⟨v1, rfl, ho1, hb1⟩)
      have HO1 := Lib.hid ho1
      clear ho1
      go_loopw [6, 27] (fun vs i wr => ∃ j : Nat, j ≤ LL.length ∧ i = .int .i64 j ∧ ∃ v, v = vs ∧ OVt wr w.heap.size v (LL.take j).flatten ∧ Below w.heap.size w wr) (fun _ i _ => LL.length - (intOf i).toNat)
      case atStart => exact ⟨0, by omega, rfl, _, rfl, HO1.out, hb1⟩
      case round =>
        obtain ⟨j, hj, rfl, v, rfl, ho, hb⟩ := hrel
        clear hb1 HO1
        by_cases hlt2 : j < LL.length
        · obtain ⟨b, off, v2, rfl, hbB, c0, ho2⟩ := (Hr.out.at_ hb).2 j hlt2
          have HTF := Lib.hid (take_flat hlt2)
          have hs1 := HSL.out (j + 1)
          have HS := Lib.hid (sumL_succ hlt2)
          have hs2 : sumL LL j + LL[j].length ≤ LL.flatten.length := by rw [← HS.out]; exact hs1
          have hbs := hb.size
          have hjl : (j : Int) < (LL.length : Int) := by omega
          obtain ⟨xs, hox, hxr⟩ := ho
          have HOX := Lib.hid hox
          have HXR := Lib.hid hxr
          have HXL := Lib.hid hox.1
          clear hox hxr
          have HOW : Hid (∀ g, v.ownBlock = some g → w.heap.size ≤ g) := fun g e => (HOX.out.lt g e).1
          rcases ho2.is with ⟨rfl, hnil⟩ | ⟨g, cap2, ys, rfl, _, hgl, hyl, hyr, hyc⟩
          · have HF : Hid ((LL.take (j + 1)).flatten = (LL.take j).flatten) := by unfold Hid; rw [HTF.out, hnil, List.append_nil]
            have HR : Hid (OVt wr w.heap.size v (LL.take (j + 1)).flatten) := by unfold Hid; rw [HF.out]; exact ⟨xs, HOX.out, HXR.out⟩
            clear hnil ho2
            go_wp2_with (at_builtin; refine wpList_append_own_none rfl _ _ 69 rfl w.heap.size 104 i0 3 Tryz.underlying69 hi v _ xs rfl HOX.out rfl ?_)
            go_roundw
            case rel => exact ⟨j + 1, by omega, by go_num, _, rfl, HR.out, hb⟩
            case measure => simp [intOf]; omega
          · have HYL := Lib.hid hyl
            have HYR := Lib.hid hyr
            have HYC := Lib.hid hyc
            have HY1 := Lib.hid (hyr.one hyl)
            have hsum : (LL.take j).flatten.length + LL[j].length ≤ 1000 := by unfold sumL at hs2; omega
            have HB47 : Hid ((LL.take j).flatten.length + LL[j].length ≤ maxLen ∧ ((LL.take j).flatten.length + LL[j].length) * 24 ≤ 140737488355328) := ⟨by unfold maxLen; omega, by omega⟩
            clear hyl hyr hyc ho2
            go_wp2_with (at_builtin; refine wpList_append_own _ rfl _ _ 69 rfl w.heap.size 104 i0 _ 3 24 Tryz.underlying69 hi hz0 hz1 hz2 rfl (by decide) v _ xs rfl HOX.out ⟨g, 0, none⟩ LL[j].length cap2 ys rfl HYL.out HYC.out HY1.out HB47.out.1 HB47.out.2 hbs ?_; intro v' w2 hown' hgr' _)
            have hb2 : Below w.heap.size w w2 := hb.grown hgr' hbs HOW.out
            have HR : OVt w2 w.heap.size v' (LL.take (j + 1)).flatten := by
              rw [HTF.out]
              refine ⟨xs ++ ys, ?_, HXR.out.cat HXL.out HYR.out⟩
              rw [List.length_append]
              exact hown'
            clear hown' hgr'
            go_roundw
            case rel => exact ⟨j + 1, by omega, by go_num, _, rfl, HR, hb2⟩
            case measure => simp [intOf]; omega
        · have he : j = LL.length := by omega
          have HR : OVt wr w.heap.size v LL.flatten := by rw [he, List.take_length] at ho; exact ho
          clear ho he
          go_wp2_with fail
          go_ret
          exact ⟨_, rfl, HR, hb⟩
end Go.Proofs.YtbdiahnelnbdnaaGreat
/-
  The library's Insert of one list in front of none or of one. No statement is proved here.
-/
namespace Go.Proofs.YtbdiahnelnbdnaaGreat
open Go.RowKit Go.Sort Go.Deep
set_option maxRecDepth 100000
set_option linter.unusedVariables false
theorem cell_1_new (w : World) (x : Value) (b : Nat) (h : w.cell? ⟨b, 0, none⟩ = some x) : ∀ j u, [x][j]? = some u → w.cell? ((⟨b, 0, none⟩ : Addr).add j) = some u := by
  intro j u hj
  match j, hj with
  | 0, hj => simp at hj; subst hj; simpa [Addr.add] using h
theorem one_of (x : Value) (h : x.oneCell' = true) : ∀ u ∈ [x], u.oneCell' = true := by
  intro u hu
  rw [List.mem_singleton.1 hu]; exact h
set_option maxHeartbeats 800000 in
theorem insert_0 (base g b : Nat) (A : Option Addr) (n c : Nat) (w : World) (ho : w.ownsRow base 69 1 (.slice (some ⟨g, 0, none⟩) 0 0) 0 []) (hbase : base ≤ w.heap.size) (hx : w.cell? ⟨b, 0, none⟩ = some (.slice A n c)) :
    Calls Tryz.prog 70 #[.slice (some ⟨g, 0, none⟩) 0 0, .int .i64 0, .slice (some ⟨b, 0, none⟩) 1 1] w fun e w' => ∃ v, e = .returned v ∧ w'.ownsRow base 69 1 v 1 [.slice A n c] ∧ w.grownBy w' (some g) := by
  obtain ⟨i0, hi, hz0, hz1, hz2⟩ := info_parts infoVs
  have HO := Lib.hid ho
  have HX := Lib.hid (cell_1_new w _ b hx)
  have H1 := Lib.hid (one_of (.slice A n c) rfl)
  clear ho hx
  go_enter Tryz.func70, Tryz.ntmps70
  go_wp2_with (at_builtin; refine wpList_append_own _ rfl _ _ 111 rfl base 69 i0 _ 1 24 Tryz.underlying111 hi hz0 hz1 hz2 rfl (by decide) _ 0 [] rfl HO.out ⟨b, 0, none⟩ 1 1 [.slice A n c] rfl rfl HX.out H1.out (by unfold maxLen; omega) (by omega) hbase ?_; intro v' w2 hown' hgr' _)
  go_ret
  exact ⟨_, rfl, hown', hgr'⟩
set_option maxHeartbeats 1600000 in
theorem insert_1 (base g b : Nat) (A : Option Addr) (n c : Nat) (y : Value) (w : World) (ho : w.ownsRow base 69 1 (.slice (some ⟨g, 0, none⟩) 1 1) 1 [y]) (hbase : base ≤ w.heap.size) (hx : w.cell? ⟨b, 0, none⟩ = some (.slice A n c)) (hy : y.oneCell' = true) :
    Calls Tryz.prog 70 #[.slice (some ⟨g, 0, none⟩) 1 1, .int .i64 0, .slice (some ⟨b, 0, none⟩) 1 1] w fun e w' => ∃ v, e = .returned v ∧ w'.ownsRow base 69 1 v 2 [.slice A n c, y] ∧ w.grownBy w' (some g) := by
  obtain ⟨i0, hi, hz0, hz1, hz2⟩ := info_parts infoVs
  have hyc : w.cell? ⟨g, 0, none⟩ = some y := by have := ho.cells (g := g) rfl 0 y rfl; simpa [Addr.add] using this
  have HX : Hid (∀ w', Below w.heap.size w w' → ∀ j u, [Value.slice A n c][j]? = some u → w'.cell? ((⟨b, 0, none⟩ : Addr).add j) = some u) := fun w' hb => cell_1_new w' _ b ((hb.cell (p := ⟨b, 0, none⟩) (Go.block_lt_of_cell hx)).trans hx)
  have HY : Hid (∀ w', Below w.heap.size w w' → ∀ j u, [y][j]? = some u → w'.cell? ((⟨g, 0, none⟩ : Addr).add j) = some u) := fun w' hb => cell_1_new w' _ g ((hb.cell (p := ⟨g, 0, none⟩) (Go.block_lt_of_cell hyc)).trans hyc)
  have H1 := Lib.hid (one_of (.slice A n c) rfl)
  have H2 := Lib.hid (one_of y hy)
  have HSZ : Hid ((Tryz.prog.info? 69).map (·.size) = some 1) := by unfold Hid; rw [hi, Option.map_some, hz1]
  have hrun := Lib.run_append_grow_zeros (P := Tryz.prog) w 111 3 111 69 i0 _ .i64 .i64 Tryz.underlying111 Tryz.underlying3 hi hz0 (some ⟨g, 0, none⟩) 0 1 [] (by simp [Builtin.firstCells, loadCells, loadCellsFrom]) 2 (by omega) (by omega) (by omega) (by omega) (by rw [hz2]; omega) (by rw [hz2]; decide)
  have hge := grownCap_ge w (0 + 2) 1 69
  have hcm := grownCap_le_maxLen w (0 + 2) 1 69 (by unfold maxLen; omega)
  generalize grownCap w (0 + 2) 1 69 = cp at hrun hge hcm
  obtain ⟨cur, hcur, hcs⟩ : ∃ cur : List Value, cur.toArray = (([] : List Value).toArray ++ Builtin.zeroCells (Value.cells (.slice none 0 0)) 2 ++ Builtin.zeroCells (Value.cells (.slice none 0 0)) (cp - (0 + 2))) ∧ cur.length = cp := ⟨_, Array.toArray_toList, by simp [size_zeroCells, Value.cells]; omega⟩
  rw [← hcur] at hrun
  have HRUN := Lib.hid hrun
  have HB : Hid (∀ o, Below w.heap.size w (w.drew.alloc o)) := fun o => ((Below.refl _ w).drew).alloc (by simp) _
  have HNEW : Hid (∀ o, (w.drew.alloc o).heap[w.heap.size]? = some o) := fun o => heap_alloc_new w.drew o
  have hc2 : 2 ≤ cp := by omega
  have HSP0 : Hid ((splice cur 0 [Value.slice A n c]).length = cp) := by unfold Hid; rw [length_splice _ _ _ (by simp; omega)]; exact hcs
  have HSP1 : Hid (∃ r, splice (splice cur 0 [Value.slice A n c]) 1 [y] = .slice A n c :: y :: r ∧ r.length + 2 = cp) := by
    match cur, hcs with
    | [], h => simp at h; omega
    | [_], h => simp at h; omega
    | _ :: _ :: r, h => exact ⟨r, rfl, h⟩
  have hne1 : ¬ cp = 1 := by omega
  have hci : (2 : Int) ≤ (cp : Int) := by omega
  have hlen : cur.length = cp := hcs
  have HLEN := Lib.hid hlen
  clear hrun hcur ho hx hyc hcs hlen hge
  unfold maxLen at hcm
  go_enter Tryz.func70, Tryz.ntmps70
  go_wp2_with (first | (at_builtin; refine Lib.wpList_append_run _ rfl _ _ _ _ rfl _ _ rfl rfl _ _ HRUN.out ?_) | (refine wpList_copy_splice rfl (.tmp 43) (.tmp 44) 111 111 rfl 69 Tryz.underlying111 HSZ.out _ _ _ _ _ _ rfl rfl w.heap.size 0 cur 69 (HNEW.out _) [.slice A n c] rfl (fun _ => ⟨rfl, _, rfl, HX.out _ (HB.out _)⟩) (by have := HLEN.out; simp; omega) H1.out w.heap.size w (HB.out _) (Nat.le_refl _) ?_; intro w3 hg3 hb3))
  have hw1 : IntKind.i64.wrap 1 = 1 := by rw [IntKind.wrap_i64]; decide
  have HG3 : Hid (w3.drew.heap[w.heap.size]? = some (.cells (splice cur 0 [Value.slice A n c]).toArray 69 (0, 0))) := hg3.out
  have HB3 : Hid (Below w.heap.size w w3.drew) := hb3.drew
  have HPOS : Hid (0 < [y].length → (some ⟨w.heap.size, 1, none⟩ : Option Addr) = some ⟨w.heap.size, 1, none⟩ ∧ ∃ ad, (some ⟨g, 0, none⟩ : Option Addr) = some ad ∧ ∀ j v, [y][j]? = some v → w3.drew.cell? (ad.add j) = some v) := fun _ => ⟨rfl, _, rfl, HY.out _ HB3.out⟩
  have HFIT : Hid (1 + [y].length ≤ (splice cur 0 [Value.slice A n c]).length) := by unfold Hid; rw [HSP0.out]; simp; omega
  go_still_tail 8, (by kernel_rfl)
  refine wpList_copy_splice rfl (.tmp 50) (.tmp 53) 111 111 rfl 69 Tryz.underlying111 HSZ.out (some ⟨w.heap.size, 1, none⟩) (some ⟨g, 0, none⟩) 1 (cp - 1) 1 1 rfl rfl w.heap.size 1 (splice cur 0 [.slice A n c]) 69 HG3.out [y] rfl HPOS.out HFIT.out H2.out w.heap.size w HB3.out (Nat.le_refl _) ?_
  intro w4 hg4 hb4
  go_wp2_with fail
  go_ret
  obtain ⟨r, hr1, hr2⟩ := HSP1.out
  have hg5 := hg4.out
  rw [hr1] at hg5
  refine ⟨_, rfl, ⟨rfl, .inr ⟨w.heap.size, cp, _, rfl, hbase, hg5, hc2, by unfold maxLen; omega, by simp; omega, rfl⟩⟩, grown_below hb4 (Nat.le_refl _)⟩
end Go.Proofs.YtbdiahnelnbdnaaGreat
/-
  The fields of a node of a pattern: the program's functions. No statement is proved here.
-/
namespace Go.Proofs.YtbdiahnelnbdnaaGreat
open Go.RowKit Go.Sort Go.Deep
set_option maxRecDepth 100000
set_option linter.unusedVariables false
theorem isVar_any (v : Int) (w : World) : Calls Tryz.prog 85 #[.int .i64 v] w fun e w' => e = .returned (.bool (dec (0 ≤ v ∧ v ≤ 5))) ∧ w = w' := by
  by_cases h0 : 0 ≤ v
  · have q0 : decide (0 ≤ v) = true := decide_eq_true h0
    by_cases h5 : v ≤ 5
    · have q5 : decide (v ≤ 5) = true := decide_eq_true h5
      have HD : Hid (dec (0 ≤ v ∧ v ≤ 5) = true) := dec_t ⟨h0, h5⟩
      clear h0 h5
      go_enter Tryz.func85, Tryz.ntmps85
      go_wp2_with fail
      go_ret
      exact ⟨ret_bool HD.out.symm, rfl⟩
    · have q5 : decide (v ≤ 5) = false := decide_eq_false h5
      have HD : Hid (dec (0 ≤ v ∧ v ≤ 5) = false) := dec_f (fun h => h5 h.2)
      clear h0 h5
      go_enter Tryz.func85, Tryz.ntmps85
      go_wp2_with fail
      go_ret
      exact ⟨ret_bool HD.out.symm, rfl⟩
  · have q0 : decide (0 ≤ v) = false := decide_eq_false h0
    have HD : Hid (dec (0 ≤ v ∧ v ≤ 5) = false) := dec_f (fun h => h0 h.1)
    clear h0
    go_enter Tryz.func85, Tryz.ntmps85
    go_wp2_with fail
    go_ret
    exact ⟨ret_bool HD.out.symm, rfl⟩
def SameF (x0 x1 x2 x3 x4 y0 y1 y2 y3 y4 : Int) : Prop := x0 = y0 ∧ x1 = y1 ∧ x2 = y2 ∧ x3 = y3 ∧ x4 = y4
set_option maxHeartbeats 1600000 in
theorem same_any (x0 x1 x2 x3 x4 y0 y1 y2 y3 y4 : Int) (A B : Option Addr) (m n m' n' : Nat) (w : World) : Calls Tryz.prog 84 #[.agg #[.int .i64 x0, .int .i64 x1, .int .i64 x2, .int .i64 x3, .int .i64 x4, .slice A m n], .agg #[.int .i64 y0, .int .i64 y1, .int .i64 y2, .int .i64 y3, .int .i64 y4, .slice B m' n']] w fun e w' => e = .returned (.bool (dec (SameF x0 x1 x2 x3 x4 y0 y1 y2 y3 y4))) ∧ Below w.heap.size w w' := by
  have HB : Hid (∀ o o' : Obj, Below w.heap.size w ((w.alloc o).alloc o')) := fun o o' => ((Below.refl _ _).alloc (Nat.le_refl _) _).alloc (by simp) _
  by_cases h0 : x0 = y0
  · have q0 := ieq_t h0
    by_cases h1 : x1 = y1
    · have q1 := ieq_t h1
      by_cases h2 : x2 = y2
      · have q2 := ieq_t h2
        by_cases h3 : x3 = y3
        · have q3 := ieq_t h3
          by_cases h4 : x4 = y4
          · have q4 := ieq_t h4
            have HD : Hid (dec (SameF x0 x1 x2 x3 x4 y0 y1 y2 y3 y4) = true) := dec_t (⟨h0, h1, h2, h3, h4⟩)
            clear h0 h1 h2 h3 h4
            go_enter Tryz.func84, Tryz.ntmps84
            go_wp2_with fail
            go_ret
            exact ⟨ret_bool HD.out.symm, HB.out _ _⟩
          · have q4 := ieq_f h4
            have HD : Hid (dec (SameF x0 x1 x2 x3 x4 y0 y1 y2 y3 y4) = false) := dec_f (fun h => h4 h.2.2.2.2)
            clear h0 h1 h2 h3 h4
            go_enter Tryz.func84, Tryz.ntmps84
            go_wp2_with fail
            go_ret
            exact ⟨ret_bool HD.out.symm, HB.out _ _⟩
        · have q3 := ieq_f h3
          have HD : Hid (dec (SameF x0 x1 x2 x3 x4 y0 y1 y2 y3 y4) = false) := dec_f (fun h => h3 h.2.2.2.1)
          clear h0 h1 h2 h3
          go_enter Tryz.func84, Tryz.ntmps84
          go_wp2_with fail
          go_ret
          exact ⟨ret_bool HD.out.symm, HB.out _ _⟩
      · have q2 := ieq_f h2
        have HD : Hid (dec (SameF x0 x1 x2 x3 x4 y0 y1 y2 y3 y4) = false) := dec_f (fun h => h2 h.2.2.1)
        clear h0 h1 h2
        go_enter Tryz.func84, Tryz.ntmps84
        go_wp2_with fail
        go_ret
        exact ⟨ret_bool HD.out.symm, HB.out _ _⟩
    · have q1 := ieq_f h1
      have HD : Hid (dec (SameF x0 x1 x2 x3 x4 y0 y1 y2 y3 y4) = false) := dec_f (fun h => h1 h.2.1)
      clear h0 h1
      go_enter Tryz.func84, Tryz.ntmps84
      go_wp2_with fail
      go_ret
      exact ⟨ret_bool HD.out.symm, HB.out _ _⟩
  · have q0 := ieq_f h0
    have HD : Hid (dec (SameF x0 x1 x2 x3 x4 y0 y1 y2 y3 y4) = false) := dec_f (fun h => h0 h.1)
    clear h0
    go_enter Tryz.func84, Tryz.ntmps84
    go_wp2_with fail
    go_ret
    exact ⟨ret_bool HD.out.symm, HB.out _ _⟩
def KtQ (l : List Da) (t : Ty) (p : Pt) (w : World) (e : Ending) (w' : World) : Prop := ∃ v, e = .returned (.tuple #[v, .bool (dec (OwnOK l t p))]) ∧ (OwnOK l t p → OTys w' w.heap.size v (tysP l t p) (tysP l t p).length) ∧ Below w.heap.size w w'
theorem tysP_nil {l : List Da} {t : Ty} {p : Pt} (h : ¬ p.op = 4) (h5 : ¬ p.op = 5) (h6 : ¬ p.op = 6) : tysP l t p = [] := by
  rw [tysP_other h]; unfold kidN; rw [if_neg h5, if_neg h6]; rfl
theorem ktQ_nil {l : List Da} {t : Ty} {p : Pt} {w w' : World} {b : Bool} (h : ¬ p.op = 4) (h5 : ¬ p.op = 5) (h6 : ¬ p.op = 6) (hb : dec (OwnOK l t p) = b) (hw : Below w.heap.size w w') : KtQ l t p w (.returned (.tuple #[.slice none 0 0, .bool b])) w' :=
  ⟨_, by rw [hb], fun _ => by rw [tysP_nil h h5 h6]; exact ⟨[], World.ownsRow_nil _ _ _ _, TyRow.zero _ _⟩, hw⟩
theorem ktQ_no {l : List Da} {t : Ty} {p : Pt} {w w' : World} {v : Value} (hb : ¬ OwnOK l t p) (hw : Below w.heap.size w w') : KtQ l t p w (.returned (.tuple #[v, .bool false])) w' :=
  ⟨v, by rw [dec_f hb], fun h => absurd h hb, hw⟩
theorem own1 {l : List Da} {t : Ty} {p : Pt} (h : p.op = 1) : dec (OwnOK l t p) = dec (SameF p.op p.ctor p.n p.m p.var 1 0 0 0 0) := dec_congr ⟨fun h' => ⟨h, h'.2.2.2.1 (by omega), (h'.2.2.1 (by omega)).1, (h'.2.2.1 (by omega)).2, h'.2.1 (by omega)⟩, fun ⟨_, a, b, c, d⟩ => ⟨fun _ => by omega, fun _ => d, fun _ => ⟨b, c⟩, fun _ => a, .inl h⟩⟩
theorem own2 {l : List Da} {t : Ty} {p : Pt} (h : p.op = 2) : dec (OwnOK l t p) = (dec (0 ≤ p.var ∧ p.var ≤ 5) && dec (SameF p.op p.ctor p.n p.m p.var 2 0 0 0 p.var)) := by
  by_cases hv : 0 ≤ p.var ∧ p.var ≤ 5
  · rw [dec_t hv, Bool.true_and]
    exact dec_congr ⟨fun h' => ⟨h, h'.2.2.2.1 (by omega), (h'.2.2.1 (by omega)).1, (h'.2.2.1 (by omega)).2, rfl⟩, fun ⟨_, a, b, c, d⟩ => ⟨fun _ => hv, fun h => by omega, fun _ => ⟨b, c⟩, fun _ => a, .inr (.inl h)⟩⟩
  · rw [dec_f hv, Bool.false_and]
    exact dec_f (fun h' => hv (h'.1 (by omega)))
theorem own3 {l : List Da} {t : Ty} {p : Pt} (h : p.op = 3) : dec (OwnOK l t p) = (decide (t.data = -1 ∧ 0 ≤ p.n ∧ p.n ≤ p.m ∧ p.m ≤ 9) && dec (SameF p.op p.ctor p.n p.m p.var 3 0 p.n p.m 0)) := by
  by_cases hv : t.data = -1 ∧ 0 ≤ p.n ∧ p.n ≤ p.m ∧ p.m ≤ 9
  · rw [decide_eq_true hv, Bool.true_and]
    exact dec_congr ⟨fun h' => ⟨h, h'.2.2.2.1 (by omega), rfl, rfl, h'.2.1 (by omega)⟩, fun ⟨_, a, b, c, d⟩ => ⟨fun h => by omega, fun _ => d, fun h' => absurd h h', fun _ => a, .inr (.inr (.inr (.inr (.inl ⟨h, hv⟩))))⟩⟩
  · rw [decide_eq_false hv, Bool.false_and]
    refine dec_f (fun h' => ?_)
    rcases h'.2.2.2.2 with g | g | g | g | g | g
    · omega
    · omega
    · omega
    · omega
    · exact hv g.2
    · omega
theorem ownx {l : List Da} {t : Ty} {p : Pt} (h1 : ¬ p.op = 1) (h2 : ¬ p.op = 2) (h3 : ¬ p.op = 3) (h4 : ¬ p.op = 4) (h5 : ¬ p.op = 5) (h6 : ¬ p.op = 6) : ¬ OwnOK l t p := by
  intro h
  rcases h.2.2.2.2 with g | g | g | g | g | g <;> omega
set_option maxHeartbeats 1600000 in
theorem kt_1 (A D : Option Addr) (l : List Da) (cap ep : Nat) (t : Ty) (p : Pt) (w : World) (hr : RDas w w.heap.size A l) (ht : TyOK l t) (h1 : p.op = 1) : Calls Tryz.prog 68 #[.slice A l.length cap, .agg #[.int .i64 t.data, .int .i64 t.index], .agg #[.int .i64 p.op, .int .i64 p.ctor, .int .i64 p.n, .int .i64 p.m, .int .i64 p.var, .slice D p.kids.length ep]] w (KtQ l t p w) := by
  have u1 := ieq_t h1
  have u2 : (p.op == 2) = false := ieq_f (by omega)
  have u3 : (p.op == 3) = false := ieq_f (by omega)
  have u4 : (p.op == 4) = false := ieq_f (by omega)
  have u5 : (p.op == 5) = false := ieq_f (by omega)
  have u6 : (p.op == 6) = false := ieq_f (by omega)
  have HO := Lib.hid (own1 (l := l) (t := t) h1)
  have HQ : Hid (∀ w' b, dec (OwnOK l t p) = b → Below w.heap.size w w' → KtQ l t p w (.returned (.tuple #[.slice none 0 0, .bool b])) w') := fun w' b hb hw => ktQ_nil (by omega) (by omega) (by omega) hb hw
  clear h1 hr ht
  generalize hw0 : (w.alloc (.cells #[.int .i64 t.data, .int .i64 t.index] 35)).alloc (.cells #[.int .i64 p.op, .int .i64 p.ctor, .int .i64 p.n, .int .i64 p.m, .int .i64 p.var, .slice D p.kids.length ep] 38) = w0
  have hb0 := below_box2 hw0
  have HXT : Hid (Bx w0 w.heap.size t) := by rw [← hw0]; exact ⟨by simp [go_sem], by simp [go_sem]⟩
  have HXP : Hid (PBx w0 (w.heap.size + 1) p (.slice D p.kids.length ep)) := by rw [← hw0]; exact ⟨by simp [go_sem], by simp [go_sem], by simp [go_sem], by simp [go_sem], by simp [go_sem], by simp [go_sem]⟩
  have HW := Lib.hid hw0
  clear hw0
  go_enter Tryz.func68, Tryz.ntmps68
  go_wp2_with (go_at_call 84; (try rw [HW.out]); refine (same_any _ _ _ _ _ _ _ _ _ _ D none _ _ 0 0 _).mono ?_; rintro e2 w2 ⟨rfl, hb2⟩)
  go_ret2
  exact HQ.out _ _ HO.out (below_aft hb0 hb2 hb0.size)
set_option maxHeartbeats 1600000 in
theorem kt_x (A D : Option Addr) (l : List Da) (cap ep : Nat) (t : Ty) (p : Pt) (w : World) (hr : RDas w w.heap.size A l) (ht : TyOK l t) (h1 : ¬ p.op = 1) (h2 : ¬ p.op = 2) (h3 : ¬ p.op = 3) (h4 : ¬ p.op = 4) (h5 : ¬ p.op = 5) (h6 : ¬ p.op = 6) : Calls Tryz.prog 68 #[.slice A l.length cap, .agg #[.int .i64 t.data, .int .i64 t.index], .agg #[.int .i64 p.op, .int .i64 p.ctor, .int .i64 p.n, .int .i64 p.m, .int .i64 p.var, .slice D p.kids.length ep]] w (KtQ l t p w) := by
  have u1 := ieq_f h1
  have u2 := ieq_f h2
  have u3 := ieq_f h3
  have u4 := ieq_f h4
  have u5 := ieq_f h5
  have u6 := ieq_f h6
  have HQ := Lib.hid (fun (w' : World) => ktQ_no (w := w) (w' := w') (v := .slice none 0 0) (ownx (l := l) (t := t) h1 h2 h3 h4 h5 h6))
  have HB : Hid (∀ o o' : Obj, Below w.heap.size w ((w.alloc o).alloc o')) := fun o o' => ((Below.refl _ _).alloc (Nat.le_refl _) _).alloc (by simp) _
  clear h1 h2 h3 h4 h5 h6 hr ht
  go_enter Tryz.func68, Tryz.ntmps68
  go_wp2_with fail
  go_ret2
  exact HQ.out _ (HB.out _ _)
set_option maxHeartbeats 1600000 in
theorem kt_2 (A D : Option Addr) (l : List Da) (cap ep : Nat) (t : Ty) (p : Pt) (w : World) (hr : RDas w w.heap.size A l) (ht : TyOK l t) (h2 : p.op = 2) : Calls Tryz.prog 68 #[.slice A l.length cap, .agg #[.int .i64 t.data, .int .i64 t.index], .agg #[.int .i64 p.op, .int .i64 p.ctor, .int .i64 p.n, .int .i64 p.m, .int .i64 p.var, .slice D p.kids.length ep]] w (KtQ l t p w) := by
  have u1 : (p.op == 1) = false := ieq_f (by omega)
  have u2 := ieq_t h2
  have u3 : (p.op == 3) = false := ieq_f (by omega)
  have u4 : (p.op == 4) = false := ieq_f (by omega)
  have u5 : (p.op == 5) = false := ieq_f (by omega)
  have u6 : (p.op == 6) = false := ieq_f (by omega)
  have HO := Lib.hid (own2 (l := l) (t := t) h2)
  have HQ : Hid (∀ w' b, dec (OwnOK l t p) = b → Below w.heap.size w w' → KtQ l t p w (.returned (.tuple #[.slice none 0 0, .bool b])) w') := fun w' b hb hw => ktQ_nil (by omega) (by omega) (by omega) hb hw
  clear h2 hr ht
  generalize hw0 : (w.alloc (.cells #[.int .i64 t.data, .int .i64 t.index] 35)).alloc (.cells #[.int .i64 p.op, .int .i64 p.ctor, .int .i64 p.n, .int .i64 p.m, .int .i64 p.var, .slice D p.kids.length ep] 38) = w0
  have hb0 := below_box2 hw0
  have HXT : Hid (Bx w0 w.heap.size t) := by rw [← hw0]; exact ⟨by simp [go_sem], by simp [go_sem]⟩
  have HXP : Hid (PBx w0 (w.heap.size + 1) p (.slice D p.kids.length ep)) := by rw [← hw0]; exact ⟨by simp [go_sem], by simp [go_sem], by simp [go_sem], by simp [go_sem], by simp [go_sem], by simp [go_sem]⟩
  have HW := Lib.hid hw0
  clear hw0
  obtain ⟨y0, y1, y2, y3, y4, y5⟩ := HXP.out
  by_cases hv : 0 ≤ p.var ∧ p.var ≤ 5
  · have HD := Lib.hid (dec_t hv)
    rw [HD.out, Bool.true_and] at HO
    clear hv
    go_enter Tryz.func68, Tryz.ntmps68
    go_wp2_with (first | (go_at_call 85; (try rw [HW.out]); refine (isVar_any _ _).mono ?_; rw [HD.out]; rintro e1 w1 ⟨rfl, rfl⟩) | (go_at_call 84; (try rw [HW.out]); refine (same_any _ _ _ _ _ _ _ _ _ _ D none _ _ 0 0 _).mono ?_; rintro e2 w2 ⟨rfl, hb2⟩))
    all_goals go_ret2
    all_goals exact HQ.out _ _ HO.out (below_aft hb0 hb2 hb0.size)
  · have HD := Lib.hid (dec_f hv)
    rw [HD.out, Bool.false_and] at HO
    clear hv
    go_enter Tryz.func68, Tryz.ntmps68
    go_wp2_with (go_at_call 85; (try rw [HW.out]); refine (isVar_any _ _).mono ?_; rw [HD.out]; rintro e1 w1 ⟨rfl, rfl⟩)
    go_ret2
    exact HQ.out _ _ HO.out hb0
end Go.Proofs.YtbdiahnelnbdnaaGreat
/-
  The types of the parts of a pattern: the program's function. No statement is proved here.
-/
namespace Go.Proofs.YtbdiahnelnbdnaaGreat
open Go.RowKit Go.Sort Go.Deep
set_option maxRecDepth 100000
set_option linter.unusedVariables false
set_option maxHeartbeats 1600000 in
theorem kt_3 (A D : Option Addr) (l : List Da) (cap ep : Nat) (t : Ty) (p : Pt) (w : World) (hr : RDas w w.heap.size A l) (ht : TyOK l t) (h3 : p.op = 3) : Calls Tryz.prog 68 #[.slice A l.length cap, .agg #[.int .i64 t.data, .int .i64 t.index], .agg #[.int .i64 p.op, .int .i64 p.ctor, .int .i64 p.n, .int .i64 p.m, .int .i64 p.var, .slice D p.kids.length ep]] w (KtQ l t p w) := by
  have u1 : (p.op == 1) = false := ieq_f (by omega)
  have u2 : (p.op == 2) = false := ieq_f (by omega)
  have u3 := ieq_t h3
  have u4 : (p.op == 4) = false := ieq_f (by omega)
  have u5 : (p.op == 5) = false := ieq_f (by omega)
  have u6 : (p.op == 6) = false := ieq_f (by omega)
  have HO := Lib.hid (own3 (l := l) (t := t) h3)
  have HQ : Hid (∀ w' b, dec (OwnOK l t p) = b → Below w.heap.size w w' → KtQ l t p w (.returned (.tuple #[.slice none 0 0, .bool b])) w') := fun w' b hb hw => ktQ_nil (by omega) (by omega) (by omega) hb hw
  clear hr ht
  generalize hw0 : (w.alloc (.cells #[.int .i64 t.data, .int .i64 t.index] 35)).alloc (.cells #[.int .i64 p.op, .int .i64 p.ctor, .int .i64 p.n, .int .i64 p.m, .int .i64 p.var, .slice D p.kids.length ep] 38) = w0
  have hb0 := below_box2 hw0
  have HXT : Hid (Bx w0 w.heap.size t) := by rw [← hw0]; exact ⟨by simp [go_sem], by simp [go_sem]⟩
  have HXP : Hid (PBx w0 (w.heap.size + 1) p (.slice D p.kids.length ep)) := by rw [← hw0]; exact ⟨by simp [go_sem], by simp [go_sem], by simp [go_sem], by simp [go_sem], by simp [go_sem], by simp [go_sem]⟩
  have HW := Lib.hid hw0
  clear hw0
  obtain ⟨x0, x1⟩ := HXT.out
  obtain ⟨y0, y1, y2, y3, y4, y5⟩ := HXP.out
  by_cases hd : t.data = -1
  · have q1 := ieq_t hd
    by_cases ha : 0 ≤ p.n
    · have q2 : decide (0 ≤ p.n) = true := decide_eq_true ha
      by_cases hb : p.n ≤ p.m
      · have q3 : decide (p.n ≤ p.m) = true := decide_eq_true hb
        by_cases hc : p.m ≤ 9
        · have q4 : decide (p.m ≤ 9) = true := decide_eq_true hc
          have HO3 : Hid (dec (OwnOK l t p) = dec (SameF p.op p.ctor p.n p.m p.var 3 0 p.n p.m 0)) := by unfold Hid; rw [HO.out, decide_eq_true ⟨hd, ha, hb, hc⟩, Bool.true_and]
          clear hd ha hb hc h3
          go_enter Tryz.func68, Tryz.ntmps68
          go_wp2_with (go_at_call 84; (try rw [HW.out]); refine (same_any _ _ _ _ _ _ _ _ _ _ D none _ _ 0 0 _).mono ?_; rintro e2 w2 ⟨rfl, hb2⟩)
          go_ret2
          exact HQ.out _ _ HO3.out (below_aft hb0 hb2 hb0.size)
        · have q4 : decide (p.m ≤ 9) = false := decide_eq_false hc
          have HO3 : Hid (dec (OwnOK l t p) = false) := by unfold Hid; rw [HO.out, decide_eq_false (fun h => hc h.2.2.2), Bool.false_and]
          clear hd ha hb hc h3
          go_enter Tryz.func68, Tryz.ntmps68
          go_wp2_with fail
          rw [HW.out]
          go_ret2
          exact HQ.out _ _ HO3.out hb0
      · have q3 : decide (p.n ≤ p.m) = false := decide_eq_false hb
        have HO3 : Hid (dec (OwnOK l t p) = false) := by unfold Hid; rw [HO.out, decide_eq_false (fun h => hb h.2.2.1), Bool.false_and]
        clear hd ha hb h3
        go_enter Tryz.func68, Tryz.ntmps68
        go_wp2_with fail
        rw [HW.out]
        go_ret2
        exact HQ.out _ _ HO3.out hb0
    · have q2 : decide (0 ≤ p.n) = false := decide_eq_false ha
      have HO3 : Hid (dec (OwnOK l t p) = false) := by unfold Hid; rw [HO.out, decide_eq_false (fun h => ha h.2.1), Bool.false_and]
      clear hd ha h3
      go_enter Tryz.func68, Tryz.ntmps68
      go_wp2_with fail
      rw [HW.out]
      go_ret2
      exact HQ.out _ _ HO3.out hb0
  · have q1 := ieq_f hd
    by_cases ha : 0 ≤ p.n
    · have q2 : decide (0 ≤ p.n) = true := decide_eq_true ha
      by_cases hb : p.n ≤ p.m
      · have q3 : decide (p.n ≤ p.m) = true := decide_eq_true hb
        by_cases hc : p.m ≤ 9
        · have q4 : decide (p.m ≤ 9) = true := decide_eq_true hc
          have HO3 : Hid (dec (OwnOK l t p) = false) := by unfold Hid; rw [HO.out, decide_eq_false (fun h => hd h.1), Bool.false_and]
          clear hd ha hb hc h3
          go_enter Tryz.func68, Tryz.ntmps68
          go_wp2_with fail
          rw [HW.out]
          go_ret2
          exact HQ.out _ _ HO3.out hb0
        · have q4 : decide (p.m ≤ 9) = false := decide_eq_false hc
          have HO3 : Hid (dec (OwnOK l t p) = false) := by unfold Hid; rw [HO.out, decide_eq_false (fun h => hd h.1), Bool.false_and]
          clear hd ha hb hc h3
          go_enter Tryz.func68, Tryz.ntmps68
          go_wp2_with fail
          rw [HW.out]
          go_ret2
          exact HQ.out _ _ HO3.out hb0
      · have q3 : decide (p.n ≤ p.m) = false := decide_eq_false hb
        have HO3 : Hid (dec (OwnOK l t p) = false) := by unfold Hid; rw [HO.out, decide_eq_false (fun h => hd h.1), Bool.false_and]
        clear hd ha hb h3
        go_enter Tryz.func68, Tryz.ntmps68
        go_wp2_with fail
        rw [HW.out]
        go_ret2
        exact HQ.out _ _ HO3.out hb0
    · have q2 : decide (0 ≤ p.n) = false := decide_eq_false ha
      have HO3 : Hid (dec (OwnOK l t p) = false) := by unfold Hid; rw [HO.out, decide_eq_false (fun h => hd h.1), Bool.false_and]
      clear hd ha h3
      go_enter Tryz.func68, Tryz.ntmps68
      go_wp2_with fail
      rw [HW.out]
      go_ret2
      exact HQ.out _ _ HO3.out hb0
end Go.Proofs.YtbdiahnelnbdnaaGreat
/-
  The types of the parts of a pattern: the program's function. No statement is proved here.
-/
namespace Go.Proofs.YtbdiahnelnbdnaaGreat
open Go.RowKit Go.Sort Go.Deep
set_option maxRecDepth 100000
set_option linter.unusedVariables false
theorem own4 {l : List Da} {t : Ty} {p : Pt} (h : p.op = 4) (hc : p.ctor ∈ ctR l t) : dec (OwnOK l t p) = dec (SameF p.op p.ctor p.n p.m p.var 4 p.ctor 0 0 0) := dec_congr ⟨fun h' => ⟨h, rfl, (h'.2.2.1 (by omega)).1, (h'.2.2.1 (by omega)).2, h'.2.1 (by omega)⟩, fun ⟨_, _, b, c, d⟩ => ⟨fun _ => by omega, fun _ => d, fun _ => ⟨b, c⟩, fun h' => absurd h h', .inr (.inr (.inr (.inr (.inr ⟨h, hc⟩))))⟩⟩
set_option maxHeartbeats 3000000 in
theorem kt_4 (A D : Option Addr) (l : List Da) (cap ep : Nat) (t : Ty) (p : Pt) (w : World) (hr : RDas w w.heap.size A l) (ht : TyOK l t) (h4 : p.op = 4) : Calls Tryz.prog 68 #[.slice A l.length cap, .agg #[.int .i64 t.data, .int .i64 t.index], .agg #[.int .i64 p.op, .int .i64 p.ctor, .int .i64 p.n, .int .i64 p.m, .int .i64 p.var, .slice D p.kids.length ep]] w (KtQ l t p w) := by
  have u1 : (p.op == 1) = false := ieq_f (by omega)
  have u2 : (p.op == 2) = false := ieq_f (by omega)
  have u3 : (p.op == 3) = false := ieq_f (by omega)
  have u4 := ieq_t h4
  have u5 : (p.op == 5) = false := ieq_f (by omega)
  have u6 : (p.op == 6) = false := ieq_f (by omega)
  have Hr := Lib.hid hr
  have HT := Lib.hid ht
  have HTY := Lib.hid (tysP_ctor (l := l) (t := t) h4)
  have HM : Hid (OwnOK l t p → p.ctor ∈ ctR l t) := fun h => h.mem h4
  have HO4 : Hid (p.ctor ∈ ctR l t → dec (OwnOK l t p) = dec (SameF p.op p.ctor p.n p.m p.var 4 p.ctor 0 0 0)) := fun h => own4 h4 h
  clear hr ht h4
  generalize hw0 : (w.alloc (.cells #[.int .i64 t.data, .int .i64 t.index] 35)).alloc (.cells #[.int .i64 p.op, .int .i64 p.ctor, .int .i64 p.n, .int .i64 p.m, .int .i64 p.var, .slice D p.kids.length ep] 38) = w0
  have hb0 := below_box2 hw0
  have HXT : Hid (Bx w0 w.heap.size t) := by rw [← hw0]; exact ⟨by simp [go_sem], by simp [go_sem]⟩
  have HXP : Hid (PBx w0 (w.heap.size + 1) p (.slice D p.kids.length ep)) := by rw [← hw0]; exact ⟨by simp [go_sem], by simp [go_sem], by simp [go_sem], by simp [go_sem], by simp [go_sem], by simp [go_sem]⟩
  have HW := Lib.hid hw0
  clear hw0
  have HKS : Hid (∀ w', Below w0.heap.size w0 w' → w'.cell? ⟨w.heap.size, 0, none⟩ = some (.int .i64 t.data) ∧ w'.cell? ⟨w.heap.size, 1, none⟩ = some (.int .i64 t.index) ∧ w'.cell? ⟨w.heap.size + 1, 1, none⟩ = some (.int .i64 p.ctor)) := fun w' h => ⟨(HXT.out.at_ h).1, (HXT.out.at_ h).2, (HXP.out.at_ h).2.1⟩
  have SQ := HKS.out w0.drew (Below.refl _ w0).drew
  have y0 := HXP.out.1
  by_cases hc : p.ctor ∈ ctR l t
  · have HC := Lib.hid hc
    have HD := Lib.hid (dec_t hc)
    have HOW := Lib.hid (HO4.out hc)
    clear hc HO4 HM
    go_enter Tryz.func68, Tryz.ntmps68
    go_wp2_with fail
    rw [HW.out]
    go_region_held3 (fun w' => w'.cell? ⟨w.heap.size, 0, none⟩ = some (.int .i64 t.data) ∧ w'.cell? ⟨w.heap.size, 1, none⟩ = some (.int .i64 t.index) ∧ w'.cell? ⟨w.heap.size + 1, 1, none⟩ = some (.int .i64 p.ctor)) (with_reducible exact SQ) (first | (go_at_call 87; (with_reducible refine (ctorsOf_all _ l _ t w0.drew (Hr.out.at_ hb0.drew) HT.out).mono ?_); rintro e w1 ⟨v1, rfl, ho, hb1'⟩; have hb1 : Below w0.heap.size w0 w1 := ⟨hb1'.os, hb1'.tape, hb1'.output, hb1'.size, hb1'.block⟩; obtain ⟨A1, c1, rfl, hri⟩ := ho.form (by have := ctR_len l t; unfold maxLen; omega); have HRI := Lib.hid hri; have SQ := HKS.out _ hb1; clear hri ho hb1') | (go_at_call 86; (with_reducible refine (contains_any _ _ _ _ _ HRI.out).mono ?_); rw [HD.out]; rintro e w2 ⟨rfl, rfl⟩))
    have HR1 := Lib.hid (Hr.out.at_ (below_aft hb0 hb1 hb0.size))
    have HRD : Hid (RDas w1.drew w1.drew.heap.size A l) := HR1.out.at_ (Below.refl _ w1).drew
    have HX1 := Lib.hid (HXT.out.at_ hb1)
    have HP1 := Lib.hid (HXP.out.at_ hb1)
    have HK2 : Hid (∀ w', Below w1.heap.size w1 w' → w'.cell? ⟨w.heap.size, 0, none⟩ = some (.int .i64 t.data) ∧ w'.cell? ⟨w.heap.size, 1, none⟩ = some (.int .i64 t.index) ∧ w'.cell? ⟨w.heap.size + 1, 0, none⟩ = some (.int .i64 p.op) ∧ w'.cell? ⟨w.heap.size + 1, 1, none⟩ = some (.int .i64 p.ctor) ∧ w'.cell? ⟨w.heap.size + 1, 2, none⟩ = some (.int .i64 p.n) ∧ w'.cell? ⟨w.heap.size + 1, 3, none⟩ = some (.int .i64 p.m) ∧ w'.cell? ⟨w.heap.size + 1, 4, none⟩ = some (.int .i64 p.var) ∧ w'.cell? ⟨w.heap.size + 1, 5, none⟩ = some (.slice D p.kids.length ep)) := fun w' h => ⟨(HX1.out.at_ h).1, (HX1.out.at_ h).2, HP1.out.at_ h⟩
    clear SQ y0
    have SQ := HK2.out w1.drew (Below.refl _ w1).drew
    go_wp2_with fail
    go_region_held3 (fun w' => w'.cell? ⟨w.heap.size, 0, none⟩ = some (.int .i64 t.data) ∧ w'.cell? ⟨w.heap.size, 1, none⟩ = some (.int .i64 t.index) ∧ w'.cell? ⟨w.heap.size + 1, 0, none⟩ = some (.int .i64 p.op) ∧ w'.cell? ⟨w.heap.size + 1, 1, none⟩ = some (.int .i64 p.ctor) ∧ w'.cell? ⟨w.heap.size + 1, 2, none⟩ = some (.int .i64 p.n) ∧ w'.cell? ⟨w.heap.size + 1, 3, none⟩ = some (.int .i64 p.m) ∧ w'.cell? ⟨w.heap.size + 1, 4, none⟩ = some (.int .i64 p.var) ∧ w'.cell? ⟨w.heap.size + 1, 5, none⟩ = some (.slice D p.kids.length ep)) (with_reducible exact SQ) (first | (go_at_call 88; (with_reducible refine (argTypes_all A l cap t p.ctor w1.drew HRD.out HC.out).mono ?_); rintro e4 w4 ⟨v4, rfl, ho4, hb4'⟩; have hb4 : Below w1.heap.size w1 w4 := ⟨hb4'.os, hb4'.tape, hb4'.output, hb4'.size, hb4'.block⟩; have HO4 : Hid (OTys w4 w1.heap.size v4 (agR l t p.ctor) (agR l t p.ctor).length) := ho4; have SQ := HK2.out w4 hb4; clear ho4 hb4') | (go_at_call 84; (with_reducible refine (same_any p.op p.ctor p.n p.m p.var 4 p.ctor 0 0 0 D none p.kids.length ep 0 0 w4).mono ?_); rintro e5 w5 ⟨rfl, hb5'⟩; have hb5 := hb4.trans (hb5'.mono hb4.size); have HO5 : Hid (OTys w5 w1.heap.size v4 (agR l t p.ctor) (agR l t p.ctor).length) := HO4.out.kept2 (fun b e => hb5'.block b (HO4.out.own b e).2); have SQ := HK2.out w5 hb5; clear hb5') | (go_at_call 84; (with_reducible refine (same_any p.op p.ctor p.n p.m p.var 4 p.ctor 0 0 0 D none p.kids.length ep 0 0 w1.drew).mono ?_); rintro e6 w6 ⟨rfl, hb6'⟩; have hb6 : Below w1.heap.size w1 w6 := ⟨hb6'.os, hb6'.tape, hb6'.output, hb6'.size, hb6'.block⟩; have HR6 := Lib.hid (HR1.out.at_ hb6); have SQ := HK2.out w6 hb6; clear hb6') | (go_at_call 88; (with_reducible refine (argTypes_all A l cap t p.ctor w6 HR6.out HC.out).mono ?_); rintro e5 w5 ⟨v4, rfl, ho5, hb5'⟩; have hb5 := hb6.trans (hb5'.mono hb6.size); have HO5 : Hid (OTys w5 w1.heap.size v4 (agR l t p.ctor) (agR l t p.ctor).length) := ho5.lower hb6.size; have SQ := HK2.out w5 hb5; clear ho5 hb5'))
    all_goals
      have hbw := below_aft (below_aft hb0 hb1 hb0.size) hb5 (below_aft hb0 hb1 hb0.size).size
      have HKQ : Hid (KtQ l t p w (.returned (.tuple #[v4, .bool (dec (SameF p.op p.ctor p.n p.m p.var 4 p.ctor 0 0 0))])) w5) := ⟨v4, by rw [HOW.out], fun _ => by rw [HTY.out]; exact HO5.out.lower (below_aft hb0 hb1 hb0.size).size, hbw⟩
      go_wp2_with fail
      go_ret2
      exact HKQ.out
  · have HD := Lib.hid (dec_f hc)
    have HQ := Lib.hid (fun (w' : World) => ktQ_no (w := w) (w' := w') (v := .slice none 0 0) (fun h => hc (HM.out h)))
    clear hc HO4 HM
    go_enter Tryz.func68, Tryz.ntmps68
    go_wp2_with fail
    rw [HW.out]
    go_region_held3 (fun w' => w'.cell? ⟨w.heap.size, 0, none⟩ = some (.int .i64 t.data) ∧ w'.cell? ⟨w.heap.size, 1, none⟩ = some (.int .i64 t.index) ∧ w'.cell? ⟨w.heap.size + 1, 1, none⟩ = some (.int .i64 p.ctor)) (with_reducible exact SQ) (first | (go_at_call 87; (with_reducible refine (ctorsOf_all _ l _ t w0.drew (Hr.out.at_ hb0.drew) HT.out).mono ?_); rintro e w1 ⟨v1, rfl, ho, hb1'⟩; have hb1 : Below w0.heap.size w0 w1 := ⟨hb1'.os, hb1'.tape, hb1'.output, hb1'.size, hb1'.block⟩; obtain ⟨A1, c1, rfl, hri⟩ := ho.form (by have := ctR_len l t; unfold maxLen; omega); have HRI := Lib.hid hri; have SQ := HKS.out _ hb1; clear hri ho hb1') | (go_at_call 86; (with_reducible refine (contains_any _ _ _ _ _ HRI.out).mono ?_); rw [HD.out]; rintro e w2 ⟨rfl, rfl⟩))
    go_wp2_with fail
    go_ret2
    exact HQ.out _ (below_aft hb0 hb1 hb0.size)
end Go.Proofs.YtbdiahnelnbdnaaGreat
