/-
  Lists of strings as they lie in memory; a string cut at a byte: the document's function. No statement is proved here.
-/
import Derived.Test.YtakhobhmplneeaaY06
import Derived.Test.YtakhobhmplneeaaY00
import Derived.WalkSpells
import Derived.BigQuiet
namespace Go.Proofs.Ytakhobhmplneeaa
open Go.RowKit
set_option maxRecDepth 100000
set_option linter.unusedVariables false
theorem info9 : (Try.prog.info? 9).map (fun i => (i.zero, i.size, i.bytes)) = some (some (.string ByteArray.empty), 1, 16) := by kernel_rfl
/-- Strings that read as a list. -/
def RStrs (w : World) (A : Option Addr) (l : List ByteArray) : Prop := l.length ≤ maxLen ∧ ∀ k (h : k < l.length), ∃ b off, A = some ⟨b, off, none⟩ ∧ b < w.heap.size ∧ w.cell? ⟨b, off + k, none⟩ = some (.string l[k])
/-- Strings in a row of the call's own. -/
def OStrs (w : World) (lo : Nat) (v : Value) (l : List ByteArray) : Prop := w.ownsRow lo 9 1 v l.length (l.map Value.string)
theorem RStrs.at_ {w w' : World} {A : Option Addr} {l : List ByteArray} (h : RStrs w A l) (hb : Below w.heap.size w w') : RStrs w' A l :=
  ⟨h.1, fun k hk => by
    obtain ⟨b, off, e, hlt, h1⟩ := h.2 k hk
    exact ⟨b, off, e, Nat.lt_of_lt_of_le hlt hb.size, (hb.cell (p := ⟨b, off + k, none⟩) hlt).trans h1⟩⟩
theorem OStrs.form {w : World} {lo : Nat} {v : Value} {l : List ByteArray} (h : OStrs w lo v l) (hl : l.length ≤ maxLen) : ∃ A cap, v = .slice A l.length cap ∧ RStrs w A l := by
  have h' : w.ownsRow lo 9 1 v l.length (l.map Value.string) := h
  rcases h'.2 with ⟨rfl, h0⟩ | ⟨g, cap, cur, rfl, hb, hg, hnc, hcm, hcs, htake⟩
  · exact ⟨none, 0, by rw [h0], hl, fun k hk => absurd hk (by omega)⟩
  · refine ⟨_, cap, rfl, hl, fun k hk => ⟨g, 0, rfl, own_lt h', ?_⟩⟩
    rw [Nat.zero_add, h'.cellAt k (by omega), List.getElem?_map, List.getElem?_eq_getElem hk]; rfl
theorem OStrs.at_ {w w' : World} {lo : Nat} {v : Value} {l : List ByteArray} (h : OStrs w lo v l) (hb : Below w.heap.size w w') : OStrs w' lo v l := own_below h hb
theorem OStrs.lower {w : World} {lo lo' : Nat} {v : Value} {l : List ByteArray} (h : OStrs w lo v l) (hl : lo' ≤ lo) : OStrs w lo' v l := by
  have h' : w.ownsRow lo 9 1 v l.length (l.map Value.string) := h
  refine ⟨h'.1, ?_⟩
  rcases h'.2 with h0 | ⟨g, cap, cur, a1, a2, a3⟩
  · exact .inl h0
  · exact .inr ⟨g, cap, cur, a1, by omega, a3⟩
theorem OStrs.app {w : World} {lo : Nat} {v : Value} {l : List ByteArray} {s : ByteArray} (h : w.ownsRow lo 9 1 v (l.length + 1) (l.map Value.string ++ [.string s])) : OStrs w lo v (l ++ [s]) := by
  unfold OStrs
  rw [List.length_append, List.map_append]
  exact h
/-- Is there the byte c in place k, or the end? -/
def cutAt (s : ByteArray) (c : Int) (k : Nat) : Bool := decide (k = s.size) || decide (((s.data.toList.getD k 0).toNat : Int) = c)
/-- The pieces before place k, and where the next one begins. -/
def cutGo (s : ByteArray) (c : Int) : Nat → List ByteArray × Nat
  | 0 => ([], 0)
  | k + 1 => if cutAt s c k then ((cutGo s c k).1 ++ [s.extract (cutGo s c k).2 k], k + 1) else cutGo s c k
def cutB (s : ByteArray) (c : Int) : List ByteArray := (cutGo s c (s.size + 1)).1
theorem cutGo_yes {s : ByteArray} {c : Int} {k : Nat} (h : cutAt s c k = true) : cutGo s c (k + 1) = ((cutGo s c k).1 ++ [s.extract (cutGo s c k).2 k], k + 1) := if_pos h
theorem cutGo_no {s : ByteArray} {c : Int} {k : Nat} (h : cutAt s c k = false) : cutGo s c (k + 1) = cutGo s c k := if_neg (by rw [h]; simp)
theorem cutGo_le (s : ByteArray) (c : Int) : ∀ k, (cutGo s c k).2 ≤ k ∧ (cutGo s c k).1.length ≤ k
  | 0 => ⟨Nat.le_refl _, Nat.le_refl _⟩
  | k + 1 => by
    obtain ⟨h1, h2⟩ := cutGo_le s c k
    by_cases h : cutAt s c k = true
    · rw [cutGo_yes h]; simp; omega
    · rw [cutGo_no (by simpa using h)]; omega
theorem cutB_len (s : ByteArray) (c : Int) : (cutB s c).length ≤ s.size + 1 := (cutGo_le s c _).2
theorem cutAt_end {s : ByteArray} {c : Int} {k : Nat} (h : k = s.size) : cutAt s c k = true := by unfold cutAt; simp [h]
theorem getD_byte {s : ByteArray} {k : Nat} (h : k < s.size) : s.data.toList.getD k 0 = s[k] := by
  rw [List.getD_eq_getElem?_getD, List.getElem?_eq_getElem (by simpa using h)]; rfl
theorem cutAt_in {s : ByteArray} {c : Int} {k : Nat} (h : k < s.size) : cutAt s c k = decide ((s[k].toNat : Int) = c) := by
  unfold cutAt
  rw [getD_byte h, decide_eq_false (show ¬ k = s.size by omega)]
  rfl
set_option maxHeartbeats 800000 in
theorem cut_any (s : ByteArray) (c : Int) (w : World) (hs : s.size ≤ 1048576) :
    Calls Try.prog 66 #[.string s, .int .u8 c] w fun e w' => ∃ v, e = .returned v ∧ OStrs w' w.heap.size v (cutB s c) ∧ Below w.heap.size w w' := by
  obtain ⟨i0, hi, hz0, hz1, hz2⟩ := info_parts info9
  have HO0 : Hid (OStrs (w.alloc (.cells #[] 9)) w.heap.size (.slice (some ⟨w.heap.size, 0, none⟩) 0 0) []) := by
    have := World.ownsRow_lit (base := w.heap.size) (e := 9) (size := 1) w #[] 0 (Nat.le_refl _) (by simp) rfl
    unfold Hid OStrs
    simpa using this
  have HB0 : Hid (∀ o : Obj, Below w.heap.size w (w.alloc o)) := fun o => (Below.refl _ _).alloc (Nat.le_refl _) _
  go_enter Try.func66, Try.ntmps66
  go_wp2_with fail
  go_loopw [5, 6, 7] (fun v f i wr => ∃ k : Nat, k ≤ s.size + 1 ∧ i = .int .i64 k ∧ f = .int .i64 (cutGo s c k).2 ∧ OStrs wr w.heap.size v (cutGo s c k).1 ∧ Below w.heap.size w wr) (fun _ _ i _ => s.size + 1 - (intOf i).toNat)
  case atStart => exact ⟨0, by omega, rfl, rfl, HO0.out, HB0.out _⟩
  case round =>
    clear HO0 HB0
    obtain ⟨k, hk, rfl, rfl, ho, hb⟩ := hrel
    have hsz := hb.size
    obtain ⟨hf1, hf2⟩ := cutGo_le s c k
    have HO := Lib.hid ho
    clear ho
    by_cases hlt : k < s.size + 1
    · have hkI : (k : Int) ≤ (s.size : Int) := by omega
      by_cases he : k = s.size
      · have HY := Lib.hid (cutGo_yes (c := c) (cutAt_end he))
        have q : ((k : Int) == (s.size : Int)) = true := beq_iff_eq.2 (by omega)
        generalize hg : (cutGo s c k).2 = f at hf1 HY
        generalize hg2 : (cutGo s c k).1 = L at hf2 HY HO
        clear hg hg2 he
        go_wp2_with (at_builtin; refine wpList_append_own _ rfl _ _ 82 rfl w.heap.size 9 i0 (.string ByteArray.empty) 1 16 Try.underlying82 hi hz0 hz1 hz2 rfl (by decide) _ _ _ rfl (HO.out.alloc _) ⟨wr.heap.size, 0, none⟩ 1 1 [.string (s.extract f k)] rfl rfl ?c1 ?c2 ?c3 ?c4 ?c5 ?_)
        case c1 => exact cell_one_one _ _ _
        case c2 => intro u hu; simp at hu; subst hu; rfl
        case c3 => unfold maxLen; omega
        case c4 => omega
        case c5 => simp; omega
        intro v' w1 hown' hgrow hnn
        have hb3 : Below w.heap.size w w1 := (hb.alloc (by omega) _).grown hgrow (by simp; omega) (fun g' e => (HO.out.lt g' e).1)
        have HO3 : Hid (OStrs w1 w.heap.size v' (cutGo s c (k + 1)).1) := by unfold Hid; rw [HY.out]; exact OStrs.app hown'
        have HF3 : Hid ((cutGo s c (k + 1)).2 = k + 1) := by unfold Hid; rw [HY.out]
        clear hown' hgrow hnn HO HY
        go_wp2_with fail
        go_roundw
        case rel => exact ⟨k + 1, by omega, by go_num, by rw [HF3.out]; go_num, HO3.out, hb3⟩
        case measure => simp [intOf]; omega
      · have hks : k < s.size := by omega
        have hksI : (k : Int) < (s.size : Int) := by omega
        have q : ((k : Int) == (s.size : Int)) = false := beq_eq_false_iff_ne.2 (by omega)
        by_cases hc : (s[k].toNat : Int) = c
        · have HY := Lib.hid (cutGo_yes (c := c) (by rw [cutAt_in hks]; exact decide_eq_true hc))
          have q2 := ieq_t hc
          generalize hg : (cutGo s c k).2 = f at hf1 HY
          generalize hg2 : (cutGo s c k).1 = L at hf2 HY HO
          clear hg hg2 he hc
          go_wp2_with (at_builtin; refine wpList_append_own _ rfl _ _ 82 rfl w.heap.size 9 i0 (.string ByteArray.empty) 1 16 Try.underlying82 hi hz0 hz1 hz2 rfl (by decide) _ _ _ rfl (HO.out.alloc _) ⟨wr.heap.size, 0, none⟩ 1 1 [.string (s.extract f k)] rfl rfl ?d1 ?d2 ?d3 ?d4 ?d5 ?_)
          case d1 => exact cell_one_one _ _ _
          case d2 => intro u hu; simp at hu; subst hu; rfl
          case d3 => unfold maxLen; omega
          case d4 => omega
          case d5 => simp; omega
          intro v' w1 hown' hgrow hnn
          have hb3 : Below w.heap.size w w1 := (hb.alloc (by omega) _).grown hgrow (by simp; omega) (fun g' e => (HO.out.lt g' e).1)
          have HO3 : Hid (OStrs w1 w.heap.size v' (cutGo s c (k + 1)).1) := by unfold Hid; rw [HY.out]; exact OStrs.app hown'
          have HF3 : Hid ((cutGo s c (k + 1)).2 = k + 1) := by unfold Hid; rw [HY.out]
          clear hown' hgrow hnn HO HY
          go_wp2_with fail
          go_roundw
          case rel => exact ⟨k + 1, by omega, by go_num, by rw [HF3.out]; go_num, HO3.out, hb3⟩
          case measure => simp [intOf]; omega
        · have HY := Lib.hid (cutGo_no (c := c) (by rw [cutAt_in hks]; exact decide_eq_false hc))
          have q2 := ieq_f hc
          clear he hc
          go_wp2_with fail
          go_roundw
          case rel => exact ⟨k + 1, by omega, by go_num, by rw [HY.out], by rw [HY.out]; exact HO.out, hb⟩
          case measure => simp [intOf]; omega
    · have he : k = s.size + 1 := by omega
      have hkI : (s.size : Int) < (k : Int) := by omega
      have HO3 : Hid (OStrs wr w.heap.size u5 (cutB s c)) := by unfold Hid cutB; rw [← he]; exact HO.out
      clear he HO
      go_wp2_with fail
      go_ret
      exact ⟨_, rfl, HO3.out, hb⟩
end Go.Proofs.Ytakhobhmplneeaa
/-
  A data type by its name; a type out of its text: the document's functions. No statement is proved here.
-/
namespace Go.Proofs.Ytakhobhmplneeaa
open Go.RowKit
set_option maxRecDepth 100000
set_option linter.unusedVariables false
theorem bytes_inj' {a b : ByteArray} (h : a.toList = b.toList) : a = b := Go.WideShapes.bytes_inj (by rw [← ByteArray.toList_eq, ← ByteArray.toList_eq]; exact h)
theorem s_eq_t {a b : ByteArray} (h : a = b) : (a.toList == b.toList) = true := by rw [h]; simp
theorem s_eq_f {a b : ByteArray} (h : ¬ a = b) : (a.toList == b.toList) = false := beq_eq_false_iff_ne.2 (fun e => h (bytes_inj' e))
/-- The place of the first name that is s, from k on, or -2. -/
def findN : List ByteArray → ByteArray → Nat → Int
  | [], _, _ => -2
  | x :: xs, s, k => if x = s then k else findN xs s (k + 1)
def sI : ByteArray := ⟨#[73]⟩
theorem sI_list : sI.toList = [73] := by rw [ByteArray.toList_eq]; rfl
def findB (l : List ByteArray) (s : ByteArray) : Int := if s = sI then -1 else findN l s 0
theorem findN_hit {l : List ByteArray} {s : ByteArray} {k : Nat} (hk : k < l.length) (h : l[k] = s) : findN (l.drop k) s k = k := by
  rw [List.drop_eq_getElem_cons hk]; exact if_pos h
theorem findN_miss {l : List ByteArray} {s : ByteArray} {k : Nat} (hk : k < l.length) (h : ¬ l[k] = s) : findN (l.drop k) s k = findN (l.drop (k + 1)) s (k + 1) := by
  rw [List.drop_eq_getElem_cons hk]; exact if_neg h
theorem findN_end {l : List ByteArray} {s : ByteArray} {k : Nat} (hk : l.length ≤ k) : findN (l.drop k) s k = -2 := by
  rw [List.drop_eq_nil_of_le hk]; rfl
theorem find_any (A : Option Addr) (l : List ByteArray) (cap : Nat) (s : ByteArray) (w : World) (hr : RStrs w A l) :
    Calls Try.prog 90 #[.slice A l.length cap, .string s] w fun e w' => e = .returned (.int .i64 (findB l s)) ∧ w = w' := by
  have hn := hr.1
  unfold maxLen at hn
  have Hr := Lib.hid hr
  clear hr
  by_cases hI : s = sI
  · have HF : Hid (findB l s = -1) := if_pos hI
    have q : (s.toList == [73]) = true := by rw [← sI_list]; exact s_eq_t hI
    clear hI
    go_enter Try.func90, Try.ntmps90
    go_wp2_with fail
    go_ret
    exact ⟨ret_i64 HF.out.symm, rfl⟩
  · have HF : Hid (findB l s = findN l s 0) := if_neg hI
    have q : (s.toList == [73]) = false := by rw [← sI_list]; exact s_eq_f hI
    clear hI
    go_enter Try.func90, Try.ntmps90
    go_wp2_with fail
    go_loopw [5] (fun i wr => ∃ k : Nat, k ≤ l.length ∧ i = .int .i64 k ∧ Hid (findN l s 0 = findN (l.drop k) s k) ∧ w = wr) (fun i _ => l.length - (intOf i).toNat)
    case atStart => exact ⟨0, by omega, rfl, by unfold Hid; rw [List.drop_zero], rfl⟩
    case round =>
      obtain ⟨k, hk, rfl, HK, rfl⟩ := hrel
      by_cases hlt : k < l.length
      · obtain ⟨b, off, rfl, _, c0⟩ := Hr.out.2 k hlt
        have hkI : (k : Int) < (l.length : Int) := by omega
        by_cases he : l[k] = s
        · have q2 := s_eq_t he
          have HH := Lib.hid (findN_hit hlt he)
          clear he
          go_wp2_with fail
          go_ret
          exact ⟨ret_i64 (by rw [HF.out, HK.out, HH.out]), rfl⟩
        · have q2 := s_eq_f he
          have HH := Lib.hid (findN_miss hlt he)
          clear he
          go_wp2_with fail
          go_roundw
          case rel => exact ⟨k + 1, by omega, by go_num, HK.out.trans HH.out, trivial⟩
          case measure => simp [intOf]; omega
      · have hkI : (l.length : Int) ≤ (k : Int) := by omega
        have HH := Lib.hid (findN_end (l := l) (s := s) (k := k) (by omega))
        go_wp2_with fail
        go_ret
        exact ⟨ret_i64 (by rw [HF.out, HK.out, HH.out]), rfl⟩
def sStar : ByteArray := ⟨#[42]⟩
theorem sStar_list : sStar.toList = [42] := by rw [ByteArray.toList_eq]; rfl
/-- A type out of its text. -/
def tyP (l : List ByteArray) (s : ByteArray) : Ty :=
  if s.size = 0 then ⟨-2, 0⟩ else
    if s.extract 1 s.size = sStar then ⟨findB l (s.extract 0 1), -1⟩ else
      if s.size = 2 ∧ 48 ≤ ((s.data.toList.getD 1 0).toNat : Int) ∧ ((s.data.toList.getD 1 0).toNat : Int) ≤ 57 then ⟨findB l (s.extract 0 1), (s.data.toList.getD 1 0).toNat - 48⟩ else ⟨findB l (s.extract 0 1), 0⟩
def retTy (t : Ty) : Ending := .returned (.agg #[.int .i64 t.data, .int .i64 t.index])
theorem retTy_eq {t : Ty} {a b : Int} (h : t = ⟨a, b⟩) : Ending.returned (.agg #[.int .i64 a, .int .i64 b]) = retTy t := by rw [h]; rfl
set_option maxHeartbeats 800000 in
theorem parseType_any (A : Option Addr) (l : List ByteArray) (cap : Nat) (s : ByteArray) (w : World) (hr : RStrs w A l) (hs : s.size ≤ 1048576) :
    Calls Try.prog 84 #[.slice A l.length cap, .string s] w fun e w' => e = retTy (tyP l s) ∧ Below w.heap.size w w' := by
  have Hr := Lib.hid hr
  clear hr
  have HB : Hid (∀ o : Obj, Below w.heap.size w (w.alloc o)) := fun o => (Below.refl _ _).alloc (Nat.le_refl _) _
  have HB2 : Hid (∀ o o' : Obj, Below w.heap.size w ((w.alloc o).alloc o')) := fun o o' => ((Below.refl _ _).alloc (Nat.le_refl _) _).alloc (by simp) _
  by_cases h0 : s.size = 0
  · have h0' := isEmpty_of h0
    have HT : Hid (tyP l s = ⟨-2, 0⟩) := if_pos h0
    clear h0
    go_enter Try.func84, Try.ntmps84
    go_wp2_with fail
    exact bodyPost_ret (v := .agg #[.int .i64 (-2), .int .i64 0]) (by simp [results, Try.results84, go_sem]) rfl ⟨retTy_eq HT.out, HB.out _⟩
  · have h0' := notEmpty_of h0
    have h0'' := notEmpty_of' h0
    have h1 : (1 : Int) ≤ (s.size : Int) := by omega
    by_cases hst : s.extract 1 s.size = sStar
    · have q : ((s.extract 1 s.size).toList == [42]) = true := by rw [← sStar_list]; exact s_eq_t hst
      have HT : Hid (tyP l s = ⟨findB l (s.extract 0 1), -1⟩) := by unfold Hid tyP; rw [if_neg h0, if_pos hst]
      clear hst
      go_enter Try.func84, Try.ntmps84
      go_wp2_with fail
      refine (find_any _ _ _ _ _ (Hr.out.at_ ((Below.refl _ _).alloc (Nat.le_refl _) _))).mono ?_
      rintro e w1 ⟨rfl, rfl⟩
      go_wp2_with fail
      exact bodyPost_ret (v := .agg #[.int .i64 (findB l (s.extract 0 1)), .int .i64 (-1)]) (by simp [results, Try.results84, go_sem]) rfl ⟨retTy_eq HT.out, HB2.out _ _⟩
    · have q : ((s.extract 1 s.size).toList == [42]) = false := by rw [← sStar_list]; exact s_eq_f hst
      by_cases h2 : s.size = 2
      · have q2 : ((s.size : Int) == 2) = true := ieq_t (by omega)
        have h2I : (1 : Int) < (s.size : Int) := by omega
        have hlt2 : 1 < s.size := by omega
        have H2 := Lib.hid h2
        by_cases h3 : 48 ≤ ((s[1]'hlt2).toNat : Int)
        · by_cases h4 : ((s[1]'hlt2).toNat : Int) ≤ 57
          · have HT : Hid (tyP l s = ⟨findB l (s.extract 0 1), ((s[1]'hlt2).toNat : Int) - 48⟩) := by unfold Hid tyP; rw [if_neg h0, if_neg hst, getD_byte hlt2, if_pos ⟨h2, h3, h4⟩]
            clear hst h2
            go_enter Try.func84, Try.ntmps84
            go_wp2_with fail
            refine (find_any _ _ _ _ _ (Hr.out.at_ ((Below.refl _ _).alloc (Nat.le_refl _) _))).mono ?_
            rintro e w1 ⟨rfl, rfl⟩
            go_wp2_with fail
            exact bodyPost_ret (v := .agg #[.int .i64 (findB l (s.extract 0 1)), .int .i64 (((s[1]'hlt2).toNat : Int) - 48)]) (by simp [results, Try.results84, go_sem]) rfl ⟨retTy_eq HT.out, HB2.out _ _⟩
          · have HT : Hid (tyP l s = ⟨findB l (s.extract 0 1), 0⟩) := by unfold Hid tyP; rw [if_neg h0, if_neg hst, getD_byte hlt2, if_neg (fun h => h4 h.2.2)]
            clear hst h2
            go_enter Try.func84, Try.ntmps84
            go_wp2_with fail
            refine (find_any _ _ _ _ _ (Hr.out.at_ ((Below.refl _ _).alloc (Nat.le_refl _) _))).mono ?_
            rintro e w1 ⟨rfl, rfl⟩
            go_wp2_with fail
            exact bodyPost_ret (v := .agg #[.int .i64 (findB l (s.extract 0 1)), .int .i64 0]) (by simp [results, Try.results84, go_sem]) rfl ⟨retTy_eq HT.out, HB2.out _ _⟩
        · have HT : Hid (tyP l s = ⟨findB l (s.extract 0 1), 0⟩) := by unfold Hid tyP; rw [if_neg h0, if_neg hst, getD_byte hlt2, if_neg (fun h => h3 h.2.1)]
          clear hst h2
          go_enter Try.func84, Try.ntmps84
          go_wp2_with fail
          refine (find_any _ _ _ _ _ (Hr.out.at_ ((Below.refl _ _).alloc (Nat.le_refl _) _))).mono ?_
          rintro e w1 ⟨rfl, rfl⟩
          go_wp2_with fail
          exact bodyPost_ret (v := .agg #[.int .i64 (findB l (s.extract 0 1)), .int .i64 0]) (by simp [results, Try.results84, go_sem]) rfl ⟨retTy_eq HT.out, HB2.out _ _⟩
      · have q2 : ((s.size : Int) == 2) = false := ieq_f (by omega)
        have HT : Hid (tyP l s = ⟨findB l (s.extract 0 1), 0⟩) := by unfold Hid tyP; rw [if_neg h0, if_neg hst, if_neg (fun h => h2 h.1)]
        clear hst h2
        go_enter Try.func84, Try.ntmps84
        go_wp2_with fail
        refine (find_any _ _ _ _ _ (Hr.out.at_ ((Below.refl _ _).alloc (Nat.le_refl _) _))).mono ?_
        rintro e w1 ⟨rfl, rfl⟩
        go_wp2_with fail
        exact bodyPost_ret (v := .agg #[.int .i64 (findB l (s.extract 0 1)), .int .i64 0]) (by simp [results, Try.results84, go_sem]) rfl ⟨retTy_eq HT.out, HB2.out _ _⟩
end Go.Proofs.Ytakhobhmplneeaa
/-
  Lists of integers compared, marked and looked at again. No statement is proved here.
-/
namespace Go.Proofs.Ytakhobhmplneeaa
open Go.RowKit Go.Sort
set_option maxRecDepth 100000
set_option linter.unusedVariables false
/-- Integers that a slice holds. -/
def RInts (w : World) (A : Option Addr) (l : List Int) : Prop := l.length ≤ maxLen ∧ ∀ k (h : k < l.length), ∃ b off, A = some ⟨b, off, none⟩ ∧ b < w.heap.size ∧ w.cell? ⟨b, off + k, none⟩ = some (.int .i64 l[k])
theorem RInts.at_ {w w' : World} {A : Option Addr} {l : List Int} (h : RInts w A l) (hb : Below w.heap.size w w') : RInts w' A l :=
  ⟨h.1, fun k hk => by
    obtain ⟨b, off, e, hbl, h1⟩ := h.2 k hk
    exact ⟨b, off, e, Nat.lt_of_lt_of_le hbl hb.size, (hb.cell (p := ⟨b, off + k, none⟩) hbl).trans h1⟩⟩
/-- A row of integers of the call's own, as a slice. -/
theorem OInts.form {w : World} {lo : Nat} {v : Value} {xs : List Int} (h : OInts w lo v xs) (hx : xs.length ≤ maxLen) : ∃ A cap, v = .slice A xs.length cap ∧ RInts w A xs := by
  have h' : w.ownsRow lo 3 1 v xs.length (xs.map (Value.int .i64)) := h
  rcases h'.2 with ⟨rfl, h0⟩ | ⟨g, cap, cur, rfl, hb, hg, hnc, hcm, hcs, htake⟩
  · exact ⟨none, 0, by rw [h0], hx, fun k hk => absurd hk (by omega)⟩
  · refine ⟨_, cap, rfl, hx, fun k hk => ⟨g, 0, rfl, ?_, ?_⟩⟩
    · exact (h'.lt g rfl).2
    · rw [Nat.zero_add, h'.cellAt k (by omega), List.getElem?_map, List.getElem?_eq_getElem hk]; rfl
/-- The marks from a number on. -/
def mk (k : Int) : Nat → List Int
  | 0 => []
  | n + 1 => mk k n ++ [k + n]
end Go.Proofs.Ytakhobhmplneeaa
