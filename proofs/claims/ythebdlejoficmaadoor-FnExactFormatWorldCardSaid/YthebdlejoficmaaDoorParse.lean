/-
  A data type by its name; a type out of its text: the document's functions. No statement is proved here.
-/
import Derived.Test.YthebdlejoficmaaDoorStrs
import Derived.Test.YthebdlejoficmaaDoorText
import Derived.Test.YthebdlejoficmaaDoorSz
namespace Go.Proofs.YthebdlejoficmaaDoor
open Go.RowKit
set_option maxRecDepth 100000
set_option linter.unusedVariables false

theorem bytes_inj' {a b : ByteArray} (h : a.toList = b.toList) : a = b := Go.WideShapes.bytes_inj (by rw [← ByteArray.toList_eq, ← ByteArray.toList_eq]; exact h)
theorem s_eq_t {a b : ByteArray} (h : a = b) : (a.toList == b.toList) = true := by rw [h]; simp
theorem s_eq_f {a b : ByteArray} (h : ¬ a = b) : (a.toList == b.toList) = false := beq_eq_false_iff_ne.2 (fun e => h (bytes_inj' e))

/-- The place of the first name that is s, from k on, or -2. -/
def findN : List ByteArray → ByteArray → Nat → Int
  | [], _, _ => -2
  | x :: xs, s, k => if x = s then k else findN xs s (k + 1)
def sI : ByteArray := ⟨#[73]⟩
theorem sI_list : sI.toList = [73] := by rw [ByteArray.toList_eq]; rfl
def findB (l : List ByteArray) (s : ByteArray) : Int := if s = sI then -1 else findN l s 0
theorem findN_hit {l : List ByteArray} {s : ByteArray} {k : Nat} (hk : k < l.length) (h : l[k] = s) : findN (l.drop k) s k = k := by
  rw [List.drop_eq_getElem_cons hk]; exact if_pos h
theorem findN_miss {l : List ByteArray} {s : ByteArray} {k : Nat} (hk : k < l.length) (h : ¬ l[k] = s) : findN (l.drop k) s k = findN (l.drop (k + 1)) s (k + 1) := by
  rw [List.drop_eq_getElem_cons hk]; exact if_neg h
theorem findN_end {l : List ByteArray} {s : ByteArray} {k : Nat} (hk : l.length ≤ k) : findN (l.drop k) s k = -2 := by
  rw [List.drop_eq_nil_of_le hk]; rfl

theorem find_any (A : Option Addr) (l : List ByteArray) (cap : Nat) (s : ByteArray) (w : World) (hr : RStrs w A l) :
    Calls Tryd.prog 73 #[.slice A l.length cap, .string s] w fun e w' => e = .returned (.int .i64 (findB l s)) ∧ w = w' := by
  have hn := hr.1
  unfold maxLen at hn
  have Hr := Lib.hid hr
  clear hr
  by_cases hI : s = sI
  · have HF : Hid (findB l s = -1) := if_pos hI
    have q : (s.toList == [73]) = true := by rw [← sI_list]; exact s_eq_t hI
    clear hI
    go_enter Tryd.func73, Tryd.ntmps73
    go_wp2_with fail
    go_ret
    exact ⟨ret_i64 HF.out.symm, rfl⟩
  · have HF : Hid (findB l s = findN l s 0) := if_neg hI
    have q : (s.toList == [73]) = false := by rw [← sI_list]; exact s_eq_f hI
    clear hI
    go_enter Tryd.func73, Tryd.ntmps73
    go_wp2_with fail
    go_loopw [5] (fun i wr => ∃ k : Nat, k ≤ l.length ∧ i = .int .i64 k ∧ Hid (findN l s 0 = findN (l.drop k) s k) ∧ w = wr) (fun i _ => l.length - (intOf i).toNat)
    case atStart => exact ⟨0, by omega, rfl, by unfold Hid; rw [List.drop_zero], rfl⟩
    case round =>
      obtain ⟨k, hk, rfl, HK, rfl⟩ := hrel
      by_cases hlt : k < l.length
      · obtain ⟨b, off, rfl, _, c0⟩ := Hr.out.2 k hlt
        have hkI : (k : Int) < (l.length : Int) := by omega
        by_cases he : l[k] = s
        · have q2 := s_eq_t he
          have HH := Lib.hid (findN_hit hlt he)
          clear he
          go_wp2_with fail
          go_ret
          exact ⟨ret_i64 (by rw [HF.out, HK.out, HH.out]), rfl⟩
        · have q2 := s_eq_f he
          have HH := Lib.hid (findN_miss hlt he)
          clear he
          go_wp2_with fail
          go_roundw
          case rel => exact ⟨k + 1, by omega, by go_num, HK.out.trans HH.out, trivial⟩
          case measure => simp [intOf]; omega
      · have hkI : (l.length : Int) ≤ (k : Int) := by omega
        have HH := Lib.hid (findN_end (l := l) (s := s) (k := k) (by omega))
        go_wp2_with fail
        go_ret
        exact ⟨ret_i64 (by rw [HF.out, HK.out, HH.out]), rfl⟩

def sStar : ByteArray := ⟨#[42]⟩
theorem sStar_list : sStar.toList = [42] := by rw [ByteArray.toList_eq]; rfl
/-- A type out of its text. -/
def tyP (l : List ByteArray) (s : ByteArray) : Ty :=
  if s.size = 0 then ⟨-2, 0⟩ else
    if s.extract 1 s.size = sStar then ⟨findB l (s.extract 0 1), -1⟩ else
      if s.size = 2 ∧ 48 ≤ ((s.data.toList.getD 1 0).toNat : Int) ∧ ((s.data.toList.getD 1 0).toNat : Int) ≤ 57 then ⟨findB l (s.extract 0 1), (s.data.toList.getD 1 0).toNat - 48⟩ else ⟨findB l (s.extract 0 1), 0⟩
def retTy (t : Ty) : Ending := .returned (.agg #[.int .i64 t.data, .int .i64 t.index])
theorem retTy_eq {t : Ty} {a b : Int} (h : t = ⟨a, b⟩) : Ending.returned (.agg #[.int .i64 a, .int .i64 b]) = retTy t := by rw [h]; rfl

set_option maxHeartbeats 800000 in
theorem parseType_any (A : Option Addr) (l : List ByteArray) (cap : Nat) (s : ByteArray) (w : World) (hr : RStrs w A l) (hs : s.size ≤ 1048576) :
    Calls Tryd.prog 53 #[.slice A l.length cap, .string s] w fun e w' => e = retTy (tyP l s) ∧ Below w.heap.size w w' := by
  have Hr := Lib.hid hr
  clear hr
  have HB : Hid (∀ o : Obj, Below w.heap.size w (w.alloc o)) := fun o => (Below.refl _ _).alloc (Nat.le_refl _) _
  have HB2 : Hid (∀ o o' : Obj, Below w.heap.size w ((w.alloc o).alloc o')) := fun o o' => ((Below.refl _ _).alloc (Nat.le_refl _) _).alloc (by simp) _
  by_cases h0 : s.size = 0
  · have h0' := isEmpty_of h0
    have HT : Hid (tyP l s = ⟨-2, 0⟩) := if_pos h0
    clear h0
    go_enter Tryd.func53, Tryd.ntmps53
    go_wp2_with fail
    exact bodyPost_ret (v := .agg #[.int .i64 (-2), .int .i64 0]) (by simp [results, Tryd.results53, go_sem]) rfl ⟨retTy_eq HT.out, HB.out _⟩
  · have h0' := notEmpty_of h0
    have h0'' := notEmpty_of' h0
    have h1 : (1 : Int) ≤ (s.size : Int) := by omega
    by_cases hst : s.extract 1 s.size = sStar
    · have q : ((s.extract 1 s.size).toList == [42]) = true := by rw [← sStar_list]; exact s_eq_t hst
      have HT : Hid (tyP l s = ⟨findB l (s.extract 0 1), -1⟩) := by unfold Hid tyP; rw [if_neg h0, if_pos hst]
      clear hst
      go_enter Tryd.func53, Tryd.ntmps53
      go_wp2_with fail
      refine (find_any _ _ _ _ _ (Hr.out.at_ ((Below.refl _ _).alloc (Nat.le_refl _) _))).mono ?_
      rintro e w1 ⟨rfl, rfl⟩
      go_wp2_with fail
      exact bodyPost_ret (v := .agg #[.int .i64 (findB l (s.extract 0 1)), .int .i64 (-1)]) (by simp [results, Tryd.results53, go_sem]) rfl ⟨retTy_eq HT.out, HB2.out _ _⟩
    · have q : ((s.extract 1 s.size).toList == [42]) = false := by rw [← sStar_list]; exact s_eq_f hst
      by_cases h2 : s.size = 2
      · have q2 : ((s.size : Int) == 2) = true := ieq_t (by omega)
        have h2I : (1 : Int) < (s.size : Int) := by omega
        have hlt2 : 1 < s.size := by omega
        have H2 := Lib.hid h2
        by_cases h3 : 48 ≤ ((s[1]'hlt2).toNat : Int)
        · by_cases h4 : ((s[1]'hlt2).toNat : Int) ≤ 57
          · have HT : Hid (tyP l s = ⟨findB l (s.extract 0 1), ((s[1]'hlt2).toNat : Int) - 48⟩) := by unfold Hid tyP; rw [if_neg h0, if_neg hst, getD_byte hlt2, if_pos ⟨h2, h3, h4⟩]
            clear hst h2
            go_enter Tryd.func53, Tryd.ntmps53
            go_wp2_with fail
            refine (find_any _ _ _ _ _ (Hr.out.at_ ((Below.refl _ _).alloc (Nat.le_refl _) _))).mono ?_
            rintro e w1 ⟨rfl, rfl⟩
            go_wp2_with fail
            exact bodyPost_ret (v := .agg #[.int .i64 (findB l (s.extract 0 1)), .int .i64 (((s[1]'hlt2).toNat : Int) - 48)]) (by simp [results, Tryd.results53, go_sem]) rfl ⟨retTy_eq HT.out, HB2.out _ _⟩
          · have HT : Hid (tyP l s = ⟨findB l (s.extract 0 1), 0⟩) := by unfold Hid tyP; rw [if_neg h0, if_neg hst, getD_byte hlt2, if_neg (fun h => h4 h.2.2)]
            clear hst h2
            go_enter Tryd.func53, Tryd.ntmps53
            go_wp2_with fail
            refine (find_any _ _ _ _ _ (Hr.out.at_ ((Below.refl _ _).alloc (Nat.le_refl _) _))).mono ?_
            rintro e w1 ⟨rfl, rfl⟩
            go_wp2_with fail
            exact bodyPost_ret (v := .agg #[.int .i64 (findB l (s.extract 0 1)), .int .i64 0]) (by simp [results, Tryd.results53, go_sem]) rfl ⟨retTy_eq HT.out, HB2.out _ _⟩
        · have HT : Hid (tyP l s = ⟨findB l (s.extract 0 1), 0⟩) := by unfold Hid tyP; rw [if_neg h0, if_neg hst, getD_byte hlt2, if_neg (fun h => h3 h.2.1)]
          clear hst h2
          go_enter Tryd.func53, Tryd.ntmps53
          go_wp2_with fail
          refine (find_any _ _ _ _ _ (Hr.out.at_ ((Below.refl _ _).alloc (Nat.le_refl _) _))).mono ?_
          rintro e w1 ⟨rfl, rfl⟩
          go_wp2_with fail
          exact bodyPost_ret (v := .agg #[.int .i64 (findB l (s.extract 0 1)), .int .i64 0]) (by simp [results, Tryd.results53, go_sem]) rfl ⟨retTy_eq HT.out, HB2.out _ _⟩
      · have q2 : ((s.size : Int) == 2) = false := ieq_f (by omega)
        have HT : Hid (tyP l s = ⟨findB l (s.extract 0 1), 0⟩) := by unfold Hid tyP; rw [if_neg h0, if_neg hst, if_neg (fun h => h2 h.1)]
        clear hst h2
        go_enter Tryd.func53, Tryd.ntmps53
        go_wp2_with fail
        refine (find_any _ _ _ _ _ (Hr.out.at_ ((Below.refl _ _).alloc (Nat.le_refl _) _))).mono ?_
        rintro e w1 ⟨rfl, rfl⟩
        go_wp2_with fail
        exact bodyPost_ret (v := .agg #[.int .i64 (findB l (s.extract 0 1)), .int .i64 0]) (by simp [results, Tryd.results53, go_sem]) rfl ⟨retTy_eq HT.out, HB2.out _ _⟩
end Go.Proofs.YthebdlejoficmaaDoor
