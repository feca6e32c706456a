/-
  A data type by its name; a type out of its text: the document's functions. No statement is proved here.
-/
import Derived.Test.YtholdmdkhbhokabG00
import Derived.BigQuiet
import Derived.Deep.Fields
import Derived.Deep.Slices
import Derived.Maps.OwnSet
import Derived.DeepKeys5
import Derived.WalkLawsBesides
import Derived.Lib.QuietBelow
import Derived.Deep.QuietTactic
import Derived.Outline
namespace Go.Proofs.Ytholdmdkhbhokab
open Go.RowKit
set_option maxRecDepth 100000
set_option linter.unusedVariables false

theorem bytes_inj' {a b : ByteArray} (h : a.toList = b.toList) : a = b := Go.WideShapes.bytes_inj (by rw [← ByteArray.toList_eq, ← ByteArray.toList_eq]; exact h)
theorem s_eq_t {a b : ByteArray} (h : a = b) : (a.toList == b.toList) = true := by rw [h]; simp
theorem s_eq_f {a b : ByteArray} (h : ¬ a = b) : (a.toList == b.toList) = false := beq_eq_false_iff_ne.2 (fun e => h (bytes_inj' e))

/-- The place of the first name that is s, from k on, or -2. -/
def findN : List ByteArray → ByteArray → Nat → Int
  | [], _, _ => -2
  | x :: xs, s, k => if x = s then k else findN xs s (k + 1)
def sI : ByteArray := ⟨#[73]⟩
theorem sI_list : sI.toList = [73] := by rw [ByteArray.toList_eq]; rfl
def findB (l : List ByteArray) (s : ByteArray) : Int := if s = sI then -1 else findN l s 0
theorem findN_hit {l : List ByteArray} {s : ByteArray} {k : Nat} (hk : k < l.length) (h : l[k] = s) : findN (l.drop k) s k = k := by
  rw [List.drop_eq_getElem_cons hk]; exact if_pos h
theorem findN_miss {l : List ByteArray} {s : ByteArray} {k : Nat} (hk : k < l.length) (h : ¬ l[k] = s) : findN (l.drop k) s k = findN (l.drop (k + 1)) s (k + 1) := by
  rw [List.drop_eq_getElem_cons hk]; exact if_neg h
theorem findN_end {l : List ByteArray} {s : ByteArray} {k : Nat} (hk : l.length ≤ k) : findN (l.drop k) s k = -2 := by
  rw [List.drop_eq_nil_of_le hk]; rfl

theorem find_any (A : Option Addr) (l : List ByteArray) (cap : Nat) (s : ByteArray) (w : World) (hr : RStrs w A l) :
    Calls Try.prog 126 #[.slice A l.length cap, .string s] w fun e w' => e = .returned (.int .i64 (findB l s)) ∧ w = w' := by
  have hn := hr.1
  unfold maxLen at hn
  have Hr := Lib.hid hr
  clear hr
  by_cases hI : s = sI
  · have HF : Hid (findB l s = -1) := if_pos hI
    have q : (s.toList == [73]) = true := by rw [← sI_list]; exact s_eq_t hI
    clear hI
    go_enter Try.func126, Try.ntmps126
    go_wp2_with fail
    go_ret
    exact ⟨ret_i64 HF.out.symm, rfl⟩
  · have HF : Hid (findB l s = findN l s 0) := if_neg hI
    have q : (s.toList == [73]) = false := by rw [← sI_list]; exact s_eq_f hI
    clear hI
    go_enter Try.func126, Try.ntmps126
    go_wp2_with fail
    go_loopw [5] (fun i wr => ∃ k : Nat, k ≤ l.length ∧ i = .int .i64 k ∧ Hid (findN l s 0 = findN (l.drop k) s k) ∧ w = wr) (fun i _ => l.length - (intOf i).toNat)
    case atStart => exact ⟨0, by omega, rfl, by unfold Hid; rw [List.drop_zero], rfl⟩
    case round =>
      obtain ⟨k, hk, rfl, HK, rfl⟩ := hrel
      by_cases hlt : k < l.length
      · obtain ⟨b, off, rfl, _, c0⟩ := Hr.out.2 k hlt
        have hkI : (k : Int) < (l.length : Int) := by omega
        by_cases he : l[k] = s
        · have q2 := s_eq_t he
          have HH := Lib.hid (findN_hit hlt he)
          clear he
          go_wp2_with fail
          go_ret
          exact ⟨ret_i64 (by rw [HF.out, HK.out, HH.out]), rfl⟩
        · have q2 := s_eq_f he
          have HH := Lib.hid (findN_miss hlt he)
          clear he
          go_wp2_with fail
          go_roundw
          case rel => exact ⟨k + 1, by omega, by go_num, HK.out.trans HH.out, trivial⟩
          case measure => simp [intOf]; omega
      · have hkI : (l.length : Int) ≤ (k : Int) := by omega
        have HH := Lib.hid (findN_end (l := l) (s := s) (k := k) (by omega))
        go_wp2_with fail
        go_ret
        exact ⟨ret_i64 (by rw [HF.out, HK.out, HH.out]), rfl⟩

def sStar : ByteArray := ⟨#[42]⟩
theorem sStar_list : sStar.toList = [42] := by rw [ByteArray.toList_eq]; rfl
/-- A type out of its text. -/
def tyP (l : List ByteArray) (s : ByteArray) : Ty :=
  if s.size = 0 then ⟨-2, 0⟩ else
    if s.extract 1 s.size = sStar then ⟨findB l (s.extract 0 1), -1⟩ else
      if s.size = 2 ∧ 48 ≤ ((s.data.toList.getD 1 0).toNat : Int) ∧ ((s.data.toList.getD 1 0).toNat : Int) ≤ 57 then ⟨findB l (s.extract 0 1), (s.data.toList.getD 1 0).toNat - 48⟩ else ⟨findB l (s.extract 0 1), 0⟩
def retTy (t : Ty) : Ending := .returned (.agg #[.int .i64 t.data, .int .i64 t.index])
theorem retTy_eq {t : Ty} {a b : Int} (h : t = ⟨a, b⟩) : Ending.returned (.agg #[.int .i64 a, .int .i64 b]) = retTy t := by rw [h]; rfl

set_option maxHeartbeats 800000 in
theorem parseType_any (A : Option Addr) (l : List ByteArray) (cap : Nat) (s : ByteArray) (w : World) (hr : RStrs w A l) (hs : s.size ≤ 1048576) :
    Calls Try.prog 107 #[.slice A l.length cap, .string s] w fun e w' => e = retTy (tyP l s) ∧ Below w.heap.size w w' := by
  have Hr := Lib.hid hr
  clear hr
  have HB : Hid (∀ o : Obj, Below w.heap.size w (w.alloc o)) := fun o => (Below.refl _ _).alloc (Nat.le_refl _) _
  have HB2 : Hid (∀ o o' : Obj, Below w.heap.size w ((w.alloc o).alloc o')) := fun o o' => ((Below.refl _ _).alloc (Nat.le_refl _) _).alloc (by simp) _
  by_cases h0 : s.size = 0
  · have h0' := isEmpty_of h0
    have HT : Hid (tyP l s = ⟨-2, 0⟩) := if_pos h0
    clear h0
    go_enter Try.func107, Try.ntmps107
    go_wp2_with fail
    exact bodyPost_ret (v := .agg #[.int .i64 (-2), .int .i64 0]) (by simp [results, Try.results107, go_sem]) rfl ⟨retTy_eq HT.out, HB.out _⟩
  · have h0' := notEmpty_of h0
    have h0'' := notEmpty_of' h0
    have h1 : (1 : Int) ≤ (s.size : Int) := by omega
    by_cases hst : s.extract 1 s.size = sStar
    · have q : ((s.extract 1 s.size).toList == [42]) = true := by rw [← sStar_list]; exact s_eq_t hst
      have HT : Hid (tyP l s = ⟨findB l (s.extract 0 1), -1⟩) := by unfold Hid tyP; rw [if_neg h0, if_pos hst]
      clear hst
      go_enter Try.func107, Try.ntmps107
      go_wp2_with fail
      refine (find_any _ _ _ _ _ (Hr.out.at_ ((Below.refl _ _).alloc (Nat.le_refl _) _))).mono ?_
      rintro e w1 ⟨rfl, rfl⟩
      go_wp2_with fail
      exact bodyPost_ret (v := .agg #[.int .i64 (findB l (s.extract 0 1)), .int .i64 (-1)]) (by simp [results, Try.results107, go_sem]) rfl ⟨retTy_eq HT.out, HB2.out _ _⟩
    · have q : ((s.extract 1 s.size).toList == [42]) = false := by rw [← sStar_list]; exact s_eq_f hst
      by_cases h2 : s.size = 2
      · have q2 : ((s.size : Int) == 2) = true := ieq_t (by omega)
        have h2I : (1 : Int) < (s.size : Int) := by omega
        have hlt2 : 1 < s.size := by omega
        have H2 := Lib.hid h2
        by_cases h3 : 48 ≤ ((s[1]'hlt2).toNat : Int)
        · by_cases h4 : ((s[1]'hlt2).toNat : Int) ≤ 57
          · have HT : Hid (tyP l s = ⟨findB l (s.extract 0 1), ((s[1]'hlt2).toNat : Int) - 48⟩) := by unfold Hid tyP; rw [if_neg h0, if_neg hst, getD_byte hlt2, if_pos ⟨h2, h3, h4⟩]
            clear hst h2
            go_enter Try.func107, Try.ntmps107
            go_wp2_with fail
            refine (find_any _ _ _ _ _ (Hr.out.at_ ((Below.refl _ _).alloc (Nat.le_refl _) _))).mono ?_
            rintro e w1 ⟨rfl, rfl⟩
            go_wp2_with fail
            exact bodyPost_ret (v := .agg #[.int .i64 (findB l (s.extract 0 1)), .int .i64 (((s[1]'hlt2).toNat : Int) - 48)]) (by simp [results, Try.results107, go_sem]) rfl ⟨retTy_eq HT.out, HB2.out _ _⟩
          · have HT : Hid (tyP l s = ⟨findB l (s.extract 0 1), 0⟩) := by unfold Hid tyP; rw [if_neg h0, if_neg hst, getD_byte hlt2, if_neg (fun h => h4 h.2.2)]
            clear hst h2
            go_enter Try.func107, Try.ntmps107
            go_wp2_with fail
            refine (find_any _ _ _ _ _ (Hr.out.at_ ((Below.refl _ _).alloc (Nat.le_refl _) _))).mono ?_
            rintro e w1 ⟨rfl, rfl⟩
            go_wp2_with fail
            exact bodyPost_ret (v := .agg #[.int .i64 (findB l (s.extract 0 1)), .int .i64 0]) (by simp [results, Try.results107, go_sem]) rfl ⟨retTy_eq HT.out, HB2.out _ _⟩
        · have HT : Hid (tyP l s = ⟨findB l (s.extract 0 1), 0⟩) := by unfold Hid tyP; rw [if_neg h0, if_neg hst, getD_byte hlt2, if_neg (fun h => h3 h.2.1)]
          clear hst h2
          go_enter Try.func107, Try.ntmps107
          go_wp2_with fail
          refine (find_any _ _ _ _ _ (Hr.out.at_ ((Below.refl _ _).alloc (Nat.le_refl _) _))).mono ?_
          rintro e w1 ⟨rfl, rfl⟩
          go_wp2_with fail
          exact bodyPost_ret (v := .agg #[.int .i64 (findB l (s.extract 0 1)), .int .i64 0]) (by simp [results, Try.results107, go_sem]) rfl ⟨retTy_eq HT.out, HB2.out _ _⟩
      · have q2 : ((s.size : Int) == 2) = false := ieq_f (by omega)
        have HT : Hid (tyP l s = ⟨findB l (s.extract 0 1), 0⟩) := by unfold Hid tyP; rw [if_neg h0, if_neg hst, if_neg (fun h => h2 h.1)]
        clear hst h2
        go_enter Try.func107, Try.ntmps107
        go_wp2_with fail
        refine (find_any _ _ _ _ _ (Hr.out.at_ ((Below.refl _ _).alloc (Nat.le_refl _) _))).mono ?_
        rintro e w1 ⟨rfl, rfl⟩
        go_wp2_with fail
        exact bodyPost_ret (v := .agg #[.int .i64 (findB l (s.extract 0 1)), .int .i64 0]) (by simp [results, Try.results107, go_sem]) rfl ⟨retTy_eq HT.out, HB2.out _ _⟩
end Go.Proofs.Ytholdmdkhbhokab
/-
  Types, constructors and data types that are marked where they lie. No statement is proved here.
-/
namespace Go.Proofs.Ytholdmdkhbhokab
open Go.RowKit
set_option maxRecDepth 100000
set_option linter.unusedVariables false

/-- Two values of one kind: two integers, two strings, or one value. -/
def Alike (v v' : Value) : Prop := v = v' ∨ (∃ x y, v = .int .i64 x ∧ v' = .int .i64 y) ∨ (∃ s s', v = .string s ∧ v' = .string s')
theorem Alike.trans {a b c : Value} (h : Alike a b) (h' : Alike b c) : Alike a c := by
  rcases h with rfl | ⟨x, y, rfl, rfl⟩ | ⟨s, t, rfl, rfl⟩
  · exact h'
  · rcases h' with rfl | ⟨x', y', e, rfl⟩ | ⟨s, t, e, _⟩
    · exact .inr (.inl ⟨_, _, rfl, rfl⟩)
    · exact .inr (.inl ⟨_, _, rfl, rfl⟩)
    · cases e
  · rcases h' with rfl | ⟨x', y', e, _⟩ | ⟨s', t', e, rfl⟩
    · exact .inr (.inr ⟨_, _, rfl, rfl⟩)
    · cases e
    · exact .inr (.inr ⟨_, _, rfl, rfl⟩)
/-- Nothing below lo and nothing from hi on has turned; the cells of other blocks are of the kinds that they were. -/
def Kept (lo hi : Nat) (w w' : World) : Prop := Below lo w w' ∧ (∀ b, hi ≤ b → b < w.heap.size → w'.heap[b]? = w.heap[b]?) ∧ ∀ (g : Nat) (cs : Array Value) (t : TypeId), w.heap[g]? = some (.cells cs t (0, 0)) → ∃ cs' : Array Value, w'.heap[g]? = some (.cells cs' t (0, 0)) ∧ cs'.size = cs.size ∧ ∀ (i : Nat) (v : Value), cs[i]? = some v → ∃ v', cs'[i]? = some v' ∧ Alike v v'
theorem Kept.refl (lo hi : Nat) (w : World) : Kept lo hi w w := ⟨Below.refl _ _, fun _ _ _ => rfl, fun g cs t h => ⟨cs, h, rfl, fun i v hv => ⟨v, hv, .inl rfl⟩⟩⟩
theorem Kept.trans {lo hi : Nat} {a b c : World} (h : Kept lo hi a b) (h' : Kept lo hi b c) : Kept lo hi a c :=
  ⟨h.1.trans h'.1, fun x hx hl => (h'.2.1 x hx (Nat.lt_of_lt_of_le hl h.1.size)).trans (h.2.1 x hx hl), fun g cs t hg => by
    obtain ⟨cs1, e1, s1, q1⟩ := h.2.2 g cs t hg
    obtain ⟨cs2, e2, s2, q2⟩ := h'.2.2 g cs1 t e1
    refine ⟨cs2, e2, by omega, fun i v hv => ?_⟩
    obtain ⟨v1, f1, a1⟩ := q1 i v hv
    obtain ⟨v2, f2, a2⟩ := q2 i v1 f1
    exact ⟨v2, f2, a1.trans a2⟩⟩
theorem Kept.below {lo hi : Nat} {w w' : World} (h : Below w.heap.size w w') (hlo : lo ≤ w.heap.size) : Kept lo hi w w' :=
  ⟨h.mono hlo, fun x _ hl => h.block x hl, fun g cs t hg => ⟨cs, (h.block g (heap_lt hg)).trans hg, rfl, fun i v hv => ⟨v, hv, .inl rfl⟩⟩⟩
theorem Kept.set {lo hi g i : Nat} {w : World} {cs : Array Value} {t : TypeId} {v u : Value} (hg : w.heap[g]? = some (.cells cs t (0, 0))) (hlo : lo ≤ g ∧ g < hi) (hv : cs[i]? = some v) (ha : Alike v u) : Kept lo hi w (w.setCell ⟨g, i, none⟩ u) := by
  refine ⟨(Below.refl _ _).setCell hlo.1 _, fun x hx _ => Below.heap_setCell w ⟨g, i, none⟩ u x (by have := hlo.2; simp; omega), fun b ds s hb => ?_⟩
  by_cases e : b = g
  · subst e
    rw [hg] at hb
    injection hb with hb
    injection hb with e1 e2
    subst e1 e2
    refine ⟨cs.setIfInBounds i u, heap_setCell_same w b i cs t u hg, by simp, fun j x hx => ?_⟩
    have hjl : j < cs.size := (Array.getElem?_eq_some_iff.1 hx).1
    by_cases e : j = i
    · subst e
      rw [hv] at hx
      cases hx
      exact ⟨u, by simp [hjl], ha⟩
    · exact ⟨x, by rw [Array.getElem?_setIfInBounds_ne (by omega)]; exact hx, .inl rfl⟩
  · exact ⟨ds, (Below.heap_setCell w ⟨g, i, none⟩ u b e).trans hb, rfl, fun j x hx => ⟨x, hx, .inl rfl⟩⟩

/-- Shapes: blocks of the call's own that hold types, constructors, data types, whatever these are. -/
def STys (w : World) (lo hi : Nat) (A : Option Addr) (n : Nat) : Prop := 0 < n → ∃ g cs, A = some ⟨g, 0, none⟩ ∧ (lo ≤ g ∧ g < hi) ∧ w.heap[g]? = some (.cells cs 33 (0, 0)) ∧ ∀ i, i < n * 2 → ∃ x, cs[i]? = some (.int .i64 x)
def SCts (w : World) (lo hi : Nat) (A : Option Addr) (l : List Ct) : Prop := 0 < l.length → ∃ g cs, A = some ⟨g, 0, none⟩ ∧ (lo ≤ g ∧ g < hi) ∧ w.heap[g]? = some (.cells cs 31 (0, 0)) ∧
  ∀ k (h : k < l.length), ∃ s A' cap x, cs[k * 3]? = some (.string s) ∧ cs[k * 3 + 1]? = some (.slice A' l[k].args.length cap) ∧ cs[k * 3 + 2]? = some (.int .i64 x) ∧ STys w lo hi A' l[k].args.length
def SDas (w : World) (lo hi : Nat) (A : Option Addr) (l : List Da) : Prop := 0 < l.length → ∃ g cs, A = some ⟨g, 0, none⟩ ∧ (lo ≤ g ∧ g < hi) ∧ w.heap[g]? = some (.cells cs 28 (0, 0)) ∧
  ∀ k (h : k < l.length), ∃ s A' cap, cs[k * 2]? = some (.string s) ∧ cs[k * 2 + 1]? = some (.slice A' l[k].ctors.length cap) ∧ SCts w lo hi A' l[k].ctors
theorem alike_int {x : Int} {v : Value} (h : Alike (.int .i64 x) v) : ∃ y, v = .int .i64 y := by
  rcases h with rfl | ⟨a, b, _, rfl⟩ | ⟨s, t, e, _⟩
  · exact ⟨_, rfl⟩
  · exact ⟨_, rfl⟩
  · cases e
theorem alike_str {s : ByteArray} {v : Value} (h : Alike (.string s) v) : ∃ y, v = .string y := by
  rcases h with rfl | ⟨a, b, e, _⟩ | ⟨s, t, _, rfl⟩
  · exact ⟨_, rfl⟩
  · cases e
  · exact ⟨_, rfl⟩
theorem alike_slice {A : Option Addr} {n c : Nat} {v : Value} (h : Alike (.slice A n c) v) : v = .slice A n c := by
  rcases h with rfl | ⟨a, b, e, _⟩ | ⟨s, t, e, _⟩
  · rfl
  · cases e
  · cases e
theorem STys.kept {w w' : World} {lo hi : Nat} {A : Option Addr} {n : Nat} (h : STys w lo hi A n) (hk : Kept lo hi w w') : STys w' lo hi A n := fun hn => by
  obtain ⟨g, cs, e, hl, hg, hc⟩ := h hn
  obtain ⟨cs', hg', hs, hq⟩ := hk.2.2 g cs 33 hg
  refine ⟨g, cs', e, hl, hg', fun i hi => ?_⟩
  obtain ⟨x, hx⟩ := hc i hi
  obtain ⟨v', hv', ha⟩ := hq i _ hx
  obtain ⟨y, rfl⟩ := alike_int ha
  exact ⟨y, hv'⟩
theorem SCts.kept {w w' : World} {lo hi : Nat} {A : Option Addr} {l : List Ct} (h : SCts w lo hi A l) (hk : Kept lo hi w w') : SCts w' lo hi A l := fun hn => by
  obtain ⟨g, cs, e, hl, hg, hc⟩ := h hn
  obtain ⟨cs', hg', hs, hq⟩ := hk.2.2 g cs 31 hg
  refine ⟨g, cs', e, hl, hg', fun k hkl => ?_⟩
  obtain ⟨s, A', cap, x, e0, e1, e2, e3⟩ := hc k hkl
  obtain ⟨v0, f0, a0⟩ := hq _ _ e0
  obtain ⟨v1, f1, a1⟩ := hq _ _ e1
  obtain ⟨v2, f2, a2⟩ := hq _ _ e2
  obtain ⟨s', rfl⟩ := alike_str a0
  obtain ⟨y, rfl⟩ := alike_int a2
  rw [alike_slice a1] at f1
  exact ⟨s', A', cap, y, f0, f1, f2, e3.kept hk⟩
theorem SDas.kept {w w' : World} {lo hi : Nat} {A : Option Addr} {l : List Da} (h : SDas w lo hi A l) (hk : Kept lo hi w w') : SDas w' lo hi A l := fun hn => by
  obtain ⟨g, cs, e, hl, hg, hc⟩ := h hn
  obtain ⟨cs', hg', hs, hq⟩ := hk.2.2 g cs 28 hg
  refine ⟨g, cs', e, hl, hg', fun k hkl => ?_⟩
  obtain ⟨s, A', cap, e0, e1, e3⟩ := hc k hkl
  obtain ⟨v0, f0, a0⟩ := hq _ _ e0
  obtain ⟨v1, f1, a1⟩ := hq _ _ e1
  obtain ⟨s', rfl⟩ := alike_str a0
  rw [alike_slice a1] at f1
  exact ⟨s', A', cap, f0, f1, e3.kept hk⟩
theorem FTys.shape {w : World} {lo g : Nat} {l : List Ty} (h : FTys w lo g l) : STys w lo w.heap.size (some ⟨g, 0, none⟩) l.length := fun _ => by
  obtain ⟨h1, h2, cs, h3, h4, h5⟩ := h
  refine ⟨g, cs, rfl, ⟨h1, heap_lt h3⟩, h3, fun i hi => ?_⟩
  obtain ⟨a, b⟩ := h5 (i / 2) (by omega)
  rcases (show i = i / 2 * 2 ∨ i = i / 2 * 2 + 1 by omega) with e | e
  · rw [e]; exact ⟨_, a⟩
  · rw [e]; exact ⟨_, b⟩
theorem FCts.shape {w : World} {lo g : Nat} {l : List Ct} (h : FCts w lo g l) : SCts w lo w.heap.size (some ⟨g, 0, none⟩) l := fun _ => by
  obtain ⟨h1, h2, cs, h3, h4, h5⟩ := h
  refine ⟨g, cs, rfl, ⟨h1, heap_lt h3⟩, h3, fun k hk => ?_⟩
  obtain ⟨g', e0, e1, e2, e3, e4⟩ := h5 k hk
  exact ⟨_, _, _, _, e0, e1, e2, e4.shape⟩
theorem FDas.shape {w : World} {lo g : Nat} {l : List Da} (h : FDas w lo g l) : SDas w lo w.heap.size (some ⟨g, 0, none⟩) l := fun _ => by
  obtain ⟨h1, h2, cs, h3, h4, h5⟩ := h
  refine ⟨g, cs, rfl, ⟨h1, heap_lt h3⟩, h3, fun k hk => ?_⟩
  obtain ⟨g', e0, e1, e3, e4⟩ := h5 k hk
  exact ⟨_, _, _, e0, e1, e4.shape⟩

def mC (c : Ct) : Nat := 2 + 2 * c.args.length
def mD (d : Da) : Nat := 1 + (d.ctors.map mC).sum

end Go.Proofs.Ytholdmdkhbhokab
/-
  Lists of integers compared, marked and looked at again. No statement is proved here.
-/
namespace Go.Proofs.Ytholdmdkhbhokab
open Go.RowKit Go.Sort
set_option maxRecDepth 100000
set_option linter.unusedVariables false

/-- Integers that a slice holds. -/
def RInts (w : World) (A : Option Addr) (l : List Int) : Prop := l.length ≤ maxLen ∧ ∀ k (h : k < l.length), ∃ b off, A = some ⟨b, off, none⟩ ∧ b < w.heap.size ∧ w.cell? ⟨b, off + k, none⟩ = some (.int .i64 l[k])
theorem RInts.at_ {w w' : World} {A : Option Addr} {l : List Int} (h : RInts w A l) (hb : Below w.heap.size w w') : RInts w' A l :=
  ⟨h.1, fun k hk => by
    obtain ⟨b, off, e, hbl, h1⟩ := h.2 k hk
    exact ⟨b, off, e, Nat.lt_of_lt_of_le hbl hb.size, (hb.cell (p := ⟨b, off + k, none⟩) hbl).trans h1⟩⟩
/-- A row of integers of the call's own, as a slice. -/
theorem OInts.form {w : World} {lo : Nat} {v : Value} {xs : List Int} (h : OInts w lo v xs) (hx : xs.length ≤ maxLen) : ∃ A cap, v = .slice A xs.length cap ∧ RInts w A xs := by
  have h' : w.ownsRow lo 3 1 v xs.length (xs.map (Value.int .i64)) := h
  rcases h'.2 with ⟨rfl, h0⟩ | ⟨g, cap, cur, rfl, hb, hg, hnc, hcm, hcs, htake⟩
  · exact ⟨none, 0, by rw [h0], hx, fun k hk => absurd hk (by omega)⟩
  · refine ⟨_, cap, rfl, hx, fun k hk => ⟨g, 0, rfl, ?_, ?_⟩⟩
    · exact (h'.lt g rfl).2
    · rw [Nat.zero_add, h'.cellAt k (by omega), List.getElem?_map, List.getElem?_eq_getElem hk]; rfl

/-- The marks from a number on. -/
def mk (k : Int) : Nat → List Int
  | 0 => []
  | n + 1 => mk k n ++ [k + n]
theorem mk_length (k : Int) : ∀ n, (mk k n).length = n
  | 0 => rfl
  | n + 1 => by show (mk k n ++ _).length = _; rw [List.length_append, mk_length k n]; rfl
theorem mk_get (k : Int) : ∀ n j, j < n → (mk k n)[j]? = some (k + j)
  | n + 1, j, h => by
    show (mk k n ++ [k + (n : Int)])[j]? = _
    by_cases e : j = n
    · subst e; rw [List.getElem?_append_right (by rw [mk_length]; exact Nat.le_refl _), mk_length]; simp
    · rw [List.getElem?_append_left (by rw [mk_length]; omega)]; exact mk_get k n j (by omega)

/-- A row whose first cells are marked. -/
def Marked (w : World) (lo : Nat) (v : Value) (n : Nat) (k : Int) (j : Nat) : Prop := ∃ xs, w.ownsRow lo 3 1 v n xs ∧ ∀ i, i < j → xs[i]? = some (.int .i64 (k + i))

end Go.Proofs.Ytholdmdkhbhokab
/-
  Data types that are marked where they lie; integers that are marked and looked at again. No statement is proved here.
-/
namespace Go.Proofs.Ytholdmdkhbhokab
open Go.RowKit
set_option maxRecDepth 100000
set_option linter.unusedVariables false

/-- The marks lie there. -/
def RMk (w : World) (A : Option Addr) (n : Nat) (k : Int) : Prop := ∀ j, j < n → ∃ b off, A = some ⟨b, off, none⟩ ∧ b < w.heap.size ∧ w.cell? ⟨b, off + j, none⟩ = some (.int .i64 (k + j))
theorem RMk.at_ {w w' : World} {A : Option Addr} {n : Nat} {k : Int} (h : RMk w A n k) (hb : Below w.heap.size w w') : RMk w' A n k := fun j hj => by
  obtain ⟨b, off, e, hbl, h1⟩ := h j hj
  exact ⟨b, off, e, Nat.lt_of_lt_of_le hbl hb.size, (hb.cell (p := ⟨b, off + j, none⟩) hbl).trans h1⟩
theorem Marked.reads {w : World} {lo g n cap : Nat} {k : Int} (h : Marked w lo (.slice (some ⟨g, 0, none⟩) n cap) n k n) : RMk w (some ⟨g, 0, none⟩) n k := fun j hj => by
  obtain ⟨xs, ho, hx⟩ := h
  refine ⟨g, 0, rfl, own_lt ho, ?_⟩
  rw [Nat.zero_add, ho.cellAt j (by omega)]
  exact hx j hj

end Go.Proofs.Ytholdmdkhbhokab
/-
  A number looked for in a list; the index that a constructor makes. No statement is proved here.
-/
namespace Go.Proofs.Ytholdmdkhbhokab
open Go.RowKit
set_option maxRecDepth 100000
set_option linter.unusedVariables false

def NotIn (l : List Int) (x : Int) (k : Nat) : Prop := ∀ j (h : j < l.length), j < k → ¬ l[j] = x
theorem NotIn.zero (l : List Int) (x : Int) : NotIn l x 0 := fun j _ h => absurd h (by omega)
theorem NotIn.step {l : List Int} {x : Int} {k : Nat} (h : NotIn l x k) (hk : k < l.length) (e : ¬ l[k] = x) : NotIn l x (k + 1) := by
  intro j hj hjk
  by_cases e' : j = k
  · subst e'; exact e
  · exact h j hj (by omega)
theorem NotIn.all {l : List Int} {x : Int} {k : Nat} (h : NotIn l x k) (hk : l.length ≤ k) : ¬ x ∈ l := fun hx => by
  obtain ⟨j, hj, e⟩ := List.getElem_of_mem hx
  exact h j hj (by omega) e

theorem has_any (A : Option Addr) (l : List Int) (cap : Nat) (x : Int) (w : World) (hr : RInts w A l) :
    Calls Try.prog 50 #[.slice A l.length cap, .int .i64 x] w fun e w' => e = .returned (.bool (dec (x ∈ l))) ∧ w = w' := by
  have hn := hr.1
  unfold maxLen at hn
  have Hr := Lib.hid hr
  clear hr
  go_enter Try.func50, Try.ntmps50
  go_wp2_with fail
  go_loopw [5] (fun i wr => ∃ k : Nat, k ≤ l.length ∧ i = .int .i64 k ∧ NotIn l x k ∧ w = wr) (fun i _ => l.length - (intOf i).toNat)
  case atStart => exact ⟨0, by omega, rfl, NotIn.zero _ _, rfl⟩
  case round =>
    obtain ⟨k, hk, rfl, hno, rfl⟩ := hrel
    by_cases hlt : k < l.length
    · obtain ⟨b, off, rfl, _, c0⟩ := Hr.out.2 k hlt
      by_cases he : l[k] = x
      · have q := ieq_t he
        have HI : Hid (x ∈ l) := by rw [← he]; exact List.getElem_mem hlt
        clear he
        go_wp2_with fail
        go_ret
        exact ⟨ret_bool (dec_t HI.out).symm, rfl⟩
      · have q := ieq_f he
        have HN := Lib.hid (hno.step hlt he)
        clear he
        go_wp2_with fail
        go_roundw
        case rel => exact ⟨k + 1, by omega, by go_num, HN.out, trivial⟩
        case measure => simp [intOf]; omega
    · go_wp2_with fail
      go_ret
      exact ⟨ret_bool (dec_f (hno.all (by omega))).symm, rfl⟩

theorem index_any (A : Option Addr) (l : List Int) (cap : Nat) (x : Int) (w : World) (hr : RInts w A l) :
    Calls Try.prog 78 #[.slice A l.length cap, .int .i64 x] w fun e w' => ∃ r : Int, e = .returned (.int .i64 r) ∧ decide (0 ≤ r) = dec (x ∈ l) ∧ w = w' := by
  have hn := hr.1
  unfold maxLen at hn
  have Hr := Lib.hid hr
  clear hr
  go_enter Try.func78, Try.ntmps78
  go_wp2_with fail
  go_loopw [8] (fun i wr => ∃ k : Nat, k ≤ l.length ∧ i = .int .i64 k ∧ NotIn l x k ∧ w = wr) (fun i _ => l.length - (intOf i).toNat)
  case atStart => exact ⟨0, by omega, rfl, NotIn.zero _ _, rfl⟩
  case round =>
    obtain ⟨k, hk, rfl, hno, rfl⟩ := hrel
    by_cases hlt : k < l.length
    · obtain ⟨b, off, rfl, _, c0⟩ := Hr.out.2 k hlt
      by_cases he : l[k] = x
      · have q := ieq_t he.symm
        have HI : Hid (x ∈ l) := by rw [← he]; exact List.getElem_mem hlt
        clear he
        go_wp2_with fail
        go_ret
        exact ⟨_, rfl, by rw [dec_t HI.out]; simp, rfl⟩
      · have q := ieq_f (fun e => he e.symm)
        have HN := Lib.hid (hno.step hlt he)
        clear he
        go_wp2_with fail
        go_roundw
        case rel => exact ⟨k + 1, by omega, by go_num, HN.out, trivial⟩
        case measure => simp [intOf]; omega
    · go_wp2_with fail
      go_ret
      exact ⟨_, rfl, by rw [dec_f (hno.all (by omega))]; rfl, rfl⟩

theorem contains_any (A : Option Addr) (l : List Int) (cap : Nat) (x : Int) (w : World) (hr : RInts w A l) :
    Calls Try.prog 48 #[.slice A l.length cap, .int .i64 x] w fun e w' => e = .returned (.bool (dec (x ∈ l))) ∧ w = w' := by
  have Hr := Lib.hid hr
  clear hr
  go_enter Try.func48, Try.ntmps48
  go_wp2_with (go_at_call 78; refine (index_any _ _ _ _ _ Hr.out).mono ?_; rintro e w1 ⟨r, rfl, hd, rfl⟩; have HD := Lib.hid hd; clear hd)
  go_ret
  exact ⟨ret_bool HD.out, rfl⟩

/-- The index of what a constructor makes for a type of an index. -/
def resI (a ix : Int) : Int := if a = 0 then ix else a
theorem result_any (nm : ByteArray) (A : Option Addr) (n cap : Nat) (a ix : Int) (w : World) :
    Calls Try.prog 79 #[.agg #[.string nm, .slice A n cap, .int .i64 a], .int .i64 ix] w fun e w' => e = .returned (.int .i64 (resI a ix)) ∧ Below w.heap.size w w' := by
  have HB : Hid (∀ o : Obj, Below w.heap.size w (w.alloc o)) := fun o => (Below.refl _ _).alloc (Nat.le_refl _) _
  by_cases h : a = 0
  · have q := ieq_t h
    have H : Hid (resI a ix = ix) := if_pos h
    clear h
    go_enter Try.func79, Try.ntmps79
    go_wp2_with fail
    go_ret
    exact ⟨ret_i64 H.out.symm, HB.out _⟩
  · have q := ieq_f h
    have H : Hid (resI a ix = a) := if_neg h
    clear h
    go_enter Try.func79, Try.ntmps79
    go_wp2_with fail
    go_ret
    exact ⟨ret_i64 H.out.symm, HB.out _⟩

def argOf (c : Ct) (ix : Int) (a : Ty) : Ty := if a.index = -1 then ⟨a.data, resI c.index ix⟩ else a
def argT (c : Ct) (ix : Int) : List Ty := c.args.map (argOf c ix)
theorem argT_len (c : Ct) (ix : Int) : (argT c ix).length = c.args.length := List.length_map _
theorem argT_get (c : Ct) (ix : Int) (k : Nat) (h : k < c.args.length) (h' : k < (argT c ix).length) : (argT c ix)[k] = argOf c ix c.args[k] := by simp [argT]
/-- Types in a row of the call's own, the first k of a list. -/
def OTys (w : World) (lo : Nat) (v : Value) (l : List Ty) (k : Nat) : Prop := ∃ xs, w.ownsRow lo 33 2 v k xs ∧ TyRow l xs k
theorem TyRow.snoc {l : List Ty} {xs : List Value} {k : Nat} (h : TyRow l xs k) (hk : k < l.length) (hx : xs.length = k * 2) : TyRow l (xs ++ [.int .i64 l[k].data, .int .i64 l[k].index]) (k + 1) := by
  intro j hj hjk
  by_cases e : j = k
  · subst e
    constructor
    · rw [List.getElem?_append_right (by omega), hx]; simp
    · rw [List.getElem?_append_right (by omega), hx]; simp
  · obtain ⟨a, b⟩ := h j hj (by omega)
    constructor
    · rw [List.getElem?_append_left (by omega)]; exact a
    · rw [List.getElem?_append_left (by omega)]; exact b
theorem OTys.form {w : World} {lo : Nat} {v : Value} {l : List Ty} (h : OTys w lo v l l.length) (hl : l.length ≤ maxLen) : ∃ A cap, v = .slice A l.length cap ∧ RTys w w.heap.size A l := by
  obtain ⟨xs, ho, hx⟩ := h
  rcases ho.2 with ⟨rfl, h0⟩ | ⟨g, cap, cur, rfl, hb, hg, hnc, hcm, hcs, htake⟩
  · exact ⟨none, 0, by rw [h0], hl, fun k hk => absurd hk (by omega)⟩
  · refine ⟨_, cap, rfl, hl, fun k hk => ⟨g, 0, rfl, own_lt ho, ?_, ?_⟩⟩
    · rw [Nat.zero_add, ho.cellAt (k * 2) (by omega)]; exact (hx k hk hk).1
    · rw [Nat.zero_add, ho.cellAt (k * 2 + 1) (by omega)]; exact (hx k hk hk).2
theorem OTys.lower {w : World} {lo lo' : Nat} {v : Value} {l : List Ty} {k : Nat} (h : OTys w lo v l k) (hl : lo' ≤ lo) : OTys w lo' v l k := by
  obtain ⟨xs, ho, hx⟩ := h
  refine ⟨xs, ⟨ho.1, ?_⟩, hx⟩
  rcases ho.2 with h0 | ⟨g, cap, cur, a1, a2, a3⟩
  · exact .inl h0
  · exact .inr ⟨g, cap, cur, a1, by omega, a3⟩
end Go.Proofs.Ytholdmdkhbhokab
/-
  The types of the arguments of a constructor: the program's function. No statement is proved here.
-/
namespace Go.Proofs.Ytholdmdkhbhokab
open Go.RowKit
set_option maxRecDepth 100000
set_option linter.unusedVariables false

theorem argOf_same {c : Ct} {ix : Int} {a : Ty} (h : a.index = -1) : argOf c ix a = ⟨a.data, resI c.index ix⟩ := if_pos h
theorem argOf_other {c : Ct} {ix : Int} {a : Ty} (h : ¬ a.index = -1) : argOf c ix a = a := if_neg h
/-- What is stored for the element in place k. -/
theorem row_step {c : Ct} {ix : Int} {xs : List Value} {k : Nat} (h : TyRow (argT c ix) xs k) (hk : k < c.args.length) (hx : xs.length = c.args.length * 2) {u0 u1 : Int} (h0 : u0 = (argOf c ix c.args[k]).data) (h1 : u1 = (argOf c ix c.args[k]).index) :
    TyRow (argT c ix) ((xs.set (k * 2) (.int .i64 u0)).set (k * 2 + 1) (.int .i64 u1)) (k + 1) := by
  have hk' : k < (argT c ix).length := by rw [argT_len]; exact hk
  have := h.step hk' (by rw [argT_len]; exact hx)
  rw [argT_get c ix k hk hk'] at this
  rw [h0, h1]
  exact this

set_option maxHeartbeats 1600000 in
theorem argTypes_data (A : Option Addr) (l : List Da) (cap d m : Nat) (ix : Int) (hd : d < l.length) (hm : m < l[d].ctors.length) (h3 : l[d].ctors[m].args.length ≤ 3) (w : World) (hr : RDas w w.heap.size A l) :
    Calls Try.prog 49 #[.slice A l.length cap, .agg #[.int .i64 d, .int .i64 ix], .int .i64 m] w fun e w' => ∃ v, e = .returned v ∧ OTys w' w.heap.size v (argT l[d].ctors[m] ix) (argT l[d].ctors[m] ix).length ∧ Below w.heap.size w w' := by
  obtain ⟨i0, hi, hz0, hz1, hz2⟩ := info_parts info34
  have hn := hr.1
  unfold maxLen at hn
  obtain ⟨b, off, rfl, hbB, A', cp, c0, c1, hszd, hmd⟩ := hr.2 d hd
  have hnc := hmd.1
  unfold maxLen at hnc
  obtain ⟨g, o, rfl, hgB, D1, ep, e0, e1, e2, hszm, hmm⟩ := hmd.2 m hm
  have HMM := Lib.hid hmm
  clear hr hmd hmm
  have hdI : (d : Int) < (l.length : Int) := by omega
  have hmI : (m : Int) < (l[d].ctors.length : Int) := by omega
  have C1 : ∀ x, (w.alloc x).cell? ⟨b, off + d * 2 + 1, none⟩ = some (.slice (some ⟨g, o, none⟩) l[d].ctors.length cp) := fun x => (World.cell?_alloc_lt _ _ _ hbB).trans c1
  have E0 : ∀ x, (w.alloc x).cell? ⟨g, o + m * 3, none⟩ = some (.string l[d].ctors[m].name) := fun x => (World.cell?_alloc_lt _ _ _ hgB).trans e0
  have E1 : ∀ x, (w.alloc x).cell? ⟨g, o + m * 3 + 1, none⟩ = some (.slice D1 l[d].ctors[m].args.length ep) := fun x => (World.cell?_alloc_lt _ _ _ hgB).trans e1
  have E2 : ∀ x, (w.alloc x).cell? ⟨g, o + m * 3 + 2, none⟩ = some (.int .i64 l[d].ctors[m].index) := fun x => (World.cell?_alloc_lt _ _ _ hgB).trans e2
  clear c0 c1 e0 e1 e2
  have hL : (argT l[d].ctors[m] ix).length = l[d].ctors[m].args.length := argT_len _ _
  have HL := Lib.hid hL
  clear hL
  by_cases ha : l[d].ctors[m].index = 0
  · have q := ieq_t ha
    have HR : Hid (ix = resI l[d].ctors[m].index ix) := (if_pos ha).symm
    clear ha
    go_enter Try.func49, Try.ntmps49
    go_wp2_with (at_make; refine wpList_make_full _ rfl _ _ 29 rfl w.heap.size 33 i0 _ 2 Try.underlying29 hi hz0 hz1 _ _ _ _ l[d].ctors[m].args.length rfl rfl rfl rfl (by rw [hz2]; omega) (by unfold maxLen; omega) (by simp; omega) ?_; intro w1 hown0 hgr; have k1 : w1.cell? ⟨w.heap.size + 1, 1, none⟩ = some (.slice D1 l[d].ctors[m].args.length ep) := (World.cell?_of_block (a := ⟨w.heap.size + 1, 1, none⟩) (hgr.block (w.heap.size + 1) (by simp) (by simp))).trans (by simp [go_sem]))
    simp only [World.size_alloc] at hown0
    have hbw : Below w.heap.size w w1 := (((Below.refl _ _).alloc (Nat.le_refl _) _).alloc (by simp) _).grown hgr (by simp; omega) (fun k e => by cases e)
    clear hgr hi hz0 hz1 hz2 C1 E0 E1 E2 k1
    go_loopw [34] (fun i wr => ∃ k : Nat, k ≤ l[d].ctors[m].args.length ∧ i = .int .i64 k ∧ ∃ xs, wr.ownsRow w.heap.size 33 2 (.slice (some ⟨w.heap.size + 1 + 1, 0, none⟩) l[d].ctors[m].args.length l[d].ctors[m].args.length) l[d].ctors[m].args.length xs ∧ TyRow (argT l[d].ctors[m] ix) xs k ∧ Below w.heap.size w wr) (fun i _ => l[d].ctors[m].args.length - (intOf i).toNat)
    case atStart => exact ⟨0, by omega, rfl, _, hown0, TyRow.zero _ _, hbw⟩
    case round =>
      obtain ⟨k, hk, rfl, xs, hown, hrow, hb⟩ := hrel
      have hlw := hb.size
      clear hown0 hbw
      by_cases hlt : k < l[d].ctors[m].args.length
      · obtain ⟨b2, off2, rfl, hbB2, y0, y1⟩ := (HMM.out.below hb (Nat.le_refl _)).2 k hlt
        have hown2 : ∀ x, (wr.alloc x).ownsRow w.heap.size 33 2 (.slice (some ⟨w.heap.size + 1 + 1, 0, none⟩) l[d].ctors[m].args.length l[d].ctors[m].args.length) l[d].ctors[m].args.length xs := fun x => hown.alloc x
        have hgl := own_lt hown
        obtain ⟨v0, g0⟩ := own_cell hown (k * 2) (by omega)
        obtain ⟨v1, g1⟩ := own_cell hown (k * 2 + 1) (by omega)
        have f0 : ∀ x, (wr.alloc x).cell? ⟨w.heap.size + 1 + 1, k * 2, none⟩ = some v0 := fun x => (World.cell?_alloc_lt _ _ _ hgl).trans g0
        have f1 : ∀ x, (wr.alloc x).cell? ⟨w.heap.size + 1 + 1, k * 2 + 1, none⟩ = some v1 := fun x => (World.cell?_alloc_lt _ _ _ hgl).trans g1
        have HO2 := Lib.hid hown2
        have z0 : ∀ x, (wr.alloc x).frozen? ⟨w.heap.size + 1 + 1, k * 2, none⟩ = false := fun x => (hown2 x).frozenAt (k * 2)
        have z1 : ∀ x, (wr.alloc x).frozen? ⟨w.heap.size + 1 + 1, k * 2 + 1, none⟩ = false := fun x => (hown2 x).frozenAt (k * 2 + 1)
        have zz0 := hown.frozenAt (k * 2)
        have zz1 := hown.frozenAt (k * 2 + 1)
        have hxl := hown.1
        have HO := Lib.hid hown
        clear hown2 hown
        by_cases hs : l[d].ctors[m].args[k].index = -1
        · have qs := ieq_t hs
          have HA := Lib.hid (argOf_same (c := l[d].ctors[m]) (ix := ix) hs)
          clear hs
          go_wp2_with fail
          have s1 := (HO.out.stored (k * 2) (.int .i64 l[d].ctors[m].args[k].data)).1
          have s2 := (s1.stored (k * 2 + 1) (.int .i64 ix)).1
          have hrow2 := row_step hrow hlt hxl (u0 := l[d].ctors[m].args[k].data) (u1 := ix) (by rw [HA.out]) (by rw [HA.out]; exact HR.out)
          go_roundw
          case rel => exact ⟨k + 1, by omega, by go_num, _, s2.alloc _, hrow2, ((hb.setCell (by simp; omega) _).setCell (by simp; omega) _).alloc (by simp; omega) _⟩
          case measure => simp [intOf]; omega
        · have qs := ieq_f hs
          have HA := Lib.hid (argOf_other (c := l[d].ctors[m]) (ix := ix) hs)
          clear hs
          go_wp2_with fail
          have s1 := (HO.out.stored (k * 2) (.int .i64 l[d].ctors[m].args[k].data)).1
          have s2 := (s1.stored (k * 2 + 1) (.int .i64 l[d].ctors[m].args[k].index)).1
          have hrow2 := row_step hrow hlt hxl (u0 := l[d].ctors[m].args[k].data) (u1 := l[d].ctors[m].args[k].index) (by rw [HA.out]) (by rw [HA.out])
          go_roundw
          case rel => exact ⟨k + 1, by omega, by go_num, _, s2.alloc _, hrow2, ((hb.setCell (by simp; omega) _).setCell (by simp; omega) _).alloc (by simp; omega) _⟩
          case measure => simp [intOf]; omega
      · have he : k = l[d].ctors[m].args.length := by omega
        have HT : Hid (TyRow (argT l[d].ctors[m] ix) xs l[d].ctors[m].args.length) := by rw [← he]; exact hrow
        have HO := Lib.hid hown
        clear he hown hrow
        go_wp2_with fail
        go_ret
        exact ⟨_, rfl, ⟨xs, by rw [HL.out]; exact HO.out, by rw [HL.out]; exact HT.out⟩, hb⟩
  · have q := ieq_f ha
    have HR : Hid (l[d].ctors[m].index = resI l[d].ctors[m].index ix) := (if_neg ha).symm
    clear ha
    go_enter Try.func49, Try.ntmps49
    go_wp2_with (at_make; refine wpList_make_full _ rfl _ _ 29 rfl w.heap.size 33 i0 _ 2 Try.underlying29 hi hz0 hz1 _ _ _ _ l[d].ctors[m].args.length rfl rfl rfl rfl (by rw [hz2]; omega) (by unfold maxLen; omega) (by simp; omega) ?_; intro w1 hown0 hgr; have k1 : w1.cell? ⟨w.heap.size + 1, 1, none⟩ = some (.slice D1 l[d].ctors[m].args.length ep) := (World.cell?_of_block (a := ⟨w.heap.size + 1, 1, none⟩) (hgr.block (w.heap.size + 1) (by simp) (by simp))).trans (by simp [go_sem]))
    simp only [World.size_alloc] at hown0
    have hbw : Below w.heap.size w w1 := (((Below.refl _ _).alloc (Nat.le_refl _) _).alloc (by simp) _).grown hgr (by simp; omega) (fun k e => by cases e)
    clear hgr hi hz0 hz1 hz2 C1 E0 E1 E2 k1
    go_loopw [34] (fun i wr => ∃ k : Nat, k ≤ l[d].ctors[m].args.length ∧ i = .int .i64 k ∧ ∃ xs, wr.ownsRow w.heap.size 33 2 (.slice (some ⟨w.heap.size + 1 + 1, 0, none⟩) l[d].ctors[m].args.length l[d].ctors[m].args.length) l[d].ctors[m].args.length xs ∧ TyRow (argT l[d].ctors[m] ix) xs k ∧ Below w.heap.size w wr) (fun i _ => l[d].ctors[m].args.length - (intOf i).toNat)
    case atStart => exact ⟨0, by omega, rfl, _, hown0, TyRow.zero _ _, hbw⟩
    case round =>
      obtain ⟨k, hk, rfl, xs, hown, hrow, hb⟩ := hrel
      have hlw := hb.size
      clear hown0 hbw
      by_cases hlt : k < l[d].ctors[m].args.length
      · obtain ⟨b2, off2, rfl, hbB2, y0, y1⟩ := (HMM.out.below hb (Nat.le_refl _)).2 k hlt
        have hown2 : ∀ x, (wr.alloc x).ownsRow w.heap.size 33 2 (.slice (some ⟨w.heap.size + 1 + 1, 0, none⟩) l[d].ctors[m].args.length l[d].ctors[m].args.length) l[d].ctors[m].args.length xs := fun x => hown.alloc x
        have hgl := own_lt hown
        obtain ⟨v0, g0⟩ := own_cell hown (k * 2) (by omega)
        obtain ⟨v1, g1⟩ := own_cell hown (k * 2 + 1) (by omega)
        have f0 : ∀ x, (wr.alloc x).cell? ⟨w.heap.size + 1 + 1, k * 2, none⟩ = some v0 := fun x => (World.cell?_alloc_lt _ _ _ hgl).trans g0
        have f1 : ∀ x, (wr.alloc x).cell? ⟨w.heap.size + 1 + 1, k * 2 + 1, none⟩ = some v1 := fun x => (World.cell?_alloc_lt _ _ _ hgl).trans g1
        have HO2 := Lib.hid hown2
        have z0 : ∀ x, (wr.alloc x).frozen? ⟨w.heap.size + 1 + 1, k * 2, none⟩ = false := fun x => (hown2 x).frozenAt (k * 2)
        have z1 : ∀ x, (wr.alloc x).frozen? ⟨w.heap.size + 1 + 1, k * 2 + 1, none⟩ = false := fun x => (hown2 x).frozenAt (k * 2 + 1)
        have zz0 := hown.frozenAt (k * 2)
        have zz1 := hown.frozenAt (k * 2 + 1)
        have hxl := hown.1
        have HO := Lib.hid hown
        clear hown2 hown
        by_cases hs : l[d].ctors[m].args[k].index = -1
        · have qs := ieq_t hs
          have HA := Lib.hid (argOf_same (c := l[d].ctors[m]) (ix := ix) hs)
          clear hs
          go_wp2_with fail
          have s1 := (HO.out.stored (k * 2) (.int .i64 l[d].ctors[m].args[k].data)).1
          have s2 := (s1.stored (k * 2 + 1) (.int .i64 l[d].ctors[m].index)).1
          have hrow2 := row_step hrow hlt hxl (u0 := l[d].ctors[m].args[k].data) (u1 := l[d].ctors[m].index) (by rw [HA.out]) (by rw [HA.out]; exact HR.out)
          go_roundw
          case rel => exact ⟨k + 1, by omega, by go_num, _, s2.alloc _, hrow2, ((hb.setCell (by simp; omega) _).setCell (by simp; omega) _).alloc (by simp; omega) _⟩
          case measure => simp [intOf]; omega
        · have qs := ieq_f hs
          have HA := Lib.hid (argOf_other (c := l[d].ctors[m]) (ix := ix) hs)
          clear hs
          go_wp2_with fail
          have s1 := (HO.out.stored (k * 2) (.int .i64 l[d].ctors[m].args[k].data)).1
          have s2 := (s1.stored (k * 2 + 1) (.int .i64 l[d].ctors[m].args[k].index)).1
          have hrow2 := row_step hrow hlt hxl (u0 := l[d].ctors[m].args[k].data) (u1 := l[d].ctors[m].args[k].index) (by rw [HA.out]) (by rw [HA.out])
          go_roundw
          case rel => exact ⟨k + 1, by omega, by go_num, _, s2.alloc _, hrow2, ((hb.setCell (by simp; omega) _).setCell (by simp; omega) _).alloc (by simp; omega) _⟩
          case measure => simp [intOf]; omega
      · have he : k = l[d].ctors[m].args.length := by omega
        have HT : Hid (TyRow (argT l[d].ctors[m] ix) xs l[d].ctors[m].args.length) := by rw [← he]; exact hrow
        have HO := Lib.hid hown
        clear he hown hrow
        go_wp2_with fail
        go_ret
        exact ⟨_, rfl, ⟨xs, by rw [HL.out]; exact HO.out, by rw [HL.out]; exact HT.out⟩, hb⟩
end Go.Proofs.Ytholdmdkhbhokab
/-
  The types of the arguments of a constructor: the document's function. No statement is proved here.
-/
namespace Go.Proofs.Ytholdmdkhbhokab
open Go.RowKit
set_option maxRecDepth 100000
set_option linter.unusedVariables false

theorem cell_two_new (w : World) (x y : Value) (t : TypeId) : ∀ j u, [x, y][j]? = some u → (w.alloc (.cells #[x, y] t)).cell? ((⟨w.heap.size, 0, none⟩ : Addr).add j) = some u := by
  intro j u hj
  match j, hj with
  | 0, hj => simp at hj; subst hj; simp [Addr.add, go_sem]
  | 1, hj => simp at hj; subst hj; simp [Addr.add, go_sem]
theorem cell_two_more (w : World) (o : Obj) (x y : Value) (t : TypeId) : ∀ j u, [x, y][j]? = some u → ((w.alloc o).alloc (.cells #[x, y] t)).cell? ((⟨w.heap.size + 1, 0, none⟩ : Addr).add j) = some u := by
  intro j u hj
  match j, hj with
  | 0, hj => simp at hj; subst hj; simp [Addr.add, go_sem]
  | 1, hj => simp at hj; subst hj; simp [Addr.add, go_sem]
theorem own_keep {w w' : World} {lo : Nat} {e : TypeId} {size n : Nat} {v : Value} {xs : List Value} (h : w.ownsRow lo e size v n xs) (hk : ∀ b, b < w.heap.size → w'.heap[b]? = w.heap[b]?) : w'.ownsRow lo e size v n xs := by
  refine ⟨h.1, ?_⟩
  rcases h.2 with h0 | ⟨g, cap, cur, a1, a2, a3, a4⟩
  · exact .inl h0
  · exact .inr ⟨g, cap, cur, a1, a2, (hk g (heap_lt a3)).trans a3, a4⟩
theorem snoc_step {c : Ct} {ix : Int} {xs : List Value} {k : Nat} (h : TyRow (argT c ix) xs k) (hk : k < c.args.length) (hx : xs.length = k * 2) {u0 u1 : Int} (h0 : u0 = (argOf c ix c.args[k]).data) (h1 : u1 = (argOf c ix c.args[k]).index) :
    TyRow (argT c ix) (xs ++ [.int .i64 u0, .int .i64 u1]) (k + 1) := by
  have hk' : k < (argT c ix).length := by rw [argT_len]; exact hk
  have := h.snoc hk' hx
  rw [argT_get c ix k hk hk'] at this
  rw [h0, h1]
  exact this

theorem own_ne {w : World} {lo size n b : Nat} {e t : TypeId} {v : Value} {xs : List Value} {cs : Array Value} (h : w.ownsRow lo e size v n xs) (hc : w.heap[b]? = some (.cells cs t (0, 0))) (hne : e ≠ t) : some b ≠ v.ownBlock := fun he => by
  rcases h.2 with ⟨rfl, _⟩ | ⟨g, cap, cur, rfl, a2, a3, a4⟩
  · simp [Value.ownBlock] at he
  · have : b = g := by simpa [Value.ownBlock] using he
    subst this
    exact other_blk a3 hc hne rfl

set_option maxHeartbeats 1600000 in
theorem l1Args_data (A : Option Addr) (l : List Da) (cap d m : Nat) (ix : Int) (hd : d < l.length) (hm : m < l[d].ctors.length) (h3 : l[d].ctors[m].args.length ≤ 3) (w : World) (hr : RDas w w.heap.size A l) :
    Calls Try.prog 51 #[.slice A l.length cap, .agg #[.int .i64 d, .int .i64 ix], .int .i64 m] w fun e w' => ∃ v, e = .returned v ∧ OTys w' w.heap.size v (argT l[d].ctors[m] ix) (argT l[d].ctors[m] ix).length ∧ Below w.heap.size w w' := by
  obtain ⟨i0, hi, hz0, hz1, hz2⟩ := info_parts info34
  have hn := hr.1
  unfold maxLen at hn
  obtain ⟨b, off, rfl, hbB, A', cp, c0, c1, hszd, hmd⟩ := hr.2 d hd
  have hnc := hmd.1
  unfold maxLen at hnc
  obtain ⟨g, o, rfl, hgB, D1, ep, e0, e1, e2, hszm, hmm⟩ := hmd.2 m hm
  have HMM := Lib.hid hmm
  clear hr hmd hmm
  have hdI : (d : Int) < (l.length : Int) := by omega
  have hmI : (m : Int) < (l[d].ctors.length : Int) := by omega
  have hc2 : ∀ x y : Obj, ∀ p : Addr, p.block < w.heap.size → ((w.alloc x).alloc y).cell? p = w.cell? p := fun x y p hp => by
    rw [World.cell?_alloc_lt _ _ _ (by simp; omega), World.cell?_alloc_lt _ _ _ hp]
  have C1 : ∀ x y, ((w.alloc x).alloc y).cell? ⟨b, off + d * 2 + 1, none⟩ = some (.slice (some ⟨g, o, none⟩) l[d].ctors.length cp) := fun x y => (hc2 x y _ hbB).trans c1
  have E0 : ∀ x y, ((w.alloc x).alloc y).cell? ⟨g, o + m * 3, none⟩ = some (.string l[d].ctors[m].name) := fun x y => (hc2 x y _ hgB).trans e0
  have E1 : ∀ x y, ((w.alloc x).alloc y).cell? ⟨g, o + m * 3 + 1, none⟩ = some (.slice D1 l[d].ctors[m].args.length ep) := fun x y => (hc2 x y _ hgB).trans e1
  have E2 : ∀ x y, ((w.alloc x).alloc y).cell? ⟨g, o + m * 3 + 2, none⟩ = some (.int .i64 l[d].ctors[m].index) := fun x y => (hc2 x y _ hgB).trans e2
  clear c0 c1 e0 e1 e2 hc2
  have hL : (argT l[d].ctors[m] ix).length = l[d].ctors[m].args.length := argT_len _ _
  have HL := Lib.hid hL
  clear hL
  go_enter Try.func51, Try.ntmps51
  go_wp2_with fail
  clear C1 E0 E1 E2
  generalize hw0 : ((w.alloc (.cells #[.int .i64 d, .int .i64 ix] 33)).alloc (.cells #[] 33)).alloc (.cells #[.string l[d].ctors[m].name, .slice D1 l[d].ctors[m].args.length ep, .int .i64 l[d].ctors[m].index] 31) = w0
  have HX1 : Hid (w0.cell? ⟨w.heap.size, 1, none⟩ = some (.int .i64 ix)) := by unfold Hid; rw [← hw0]; simp [go_sem]
  have HH : Hid (w0.heap[w.heap.size + 1 + 1]? = some (.cells #[.string l[d].ctors[m].name, .slice D1 l[d].ctors[m].args.length ep, .int .i64 l[d].ctors[m].index] 31 (0, 0))) := by
    have h := heap_alloc_new ((w.alloc (.cells #[.int .i64 d, .int .i64 ix] 33)).alloc (.cells #[] 33)) (.cells #[.string l[d].ctors[m].name, .slice D1 l[d].ctors[m].args.length ep, .int .i64 l[d].ctors[m].index] 31)
    simp only [World.size_alloc] at h
    unfold Hid; rw [← hw0]; exact h
  have HS0 : Hid (w0.heap.size = w.heap.size + 3) := by unfold Hid; rw [← hw0]; simp
  have HK : Hid (Below w.heap.size w w0) := by rw [← hw0]; exact (((Below.refl _ _).alloc (Nat.le_refl _) _).alloc (by simp) _).alloc (by simp; omega) _
  have HO0 : Hid (w0.ownsRow (w.heap.size + 1) 33 2 (.slice (some ⟨w.heap.size + 1, 0, none⟩) 0 0) 0 []) := by
    unfold Hid
    rw [← hw0]
    have := World.ownsRow_lit (base := w.heap.size + 1) (e := 33) (size := 2) (w.alloc (.cells #[.int .i64 d, .int .i64 ix] 33)) #[] 0 (by simp) (by simp) rfl
    simpa using this.alloc _
  clear hw0
  go_loopw [7, 9] (fun v i wr => ∃ k : Nat, k ≤ l[d].ctors[m].args.length ∧ i = .int .i64 k ∧ ∃ xs, wr.ownsRow (w.heap.size + 1) 33 2 v k xs ∧ TyRow (argT l[d].ctors[m] ix) xs k ∧ wr.heap[w.heap.size + 1 + 1]? = w0.heap[w.heap.size + 1 + 1]? ∧ Below (w.heap.size + 1) w0 wr) (fun _ i _ => l[d].ctors[m].args.length - (intOf i).toNat)
  case atStart => exact ⟨0, by omega, rfl, _, HO0.out, TyRow.zero _ _, rfl, Below.refl _ _⟩
  case round =>
    obtain ⟨k, hk, rfl, xs, hown, hrow, hhc, hb⟩ := hrel
    have HHr : Hid (wr.heap[w.heap.size + 1 + 1]? = some (.cells #[.string l[d].ctors[m].name, .slice D1 l[d].ctors[m].args.length ep, .int .i64 l[d].ctors[m].index] 31 (0, 0))) := hhc.trans HH.out
    clear hhc HO0
    have hlw : w.heap.size + 3 ≤ wr.heap.size := by have := hb.size; have := HS0.out; omega
    have x1 : wr.cell? ⟨w.heap.size, 1, none⟩ = some (.int .i64 ix) := (hb.cell (p := ⟨w.heap.size, 1, none⟩) (by simp)).trans HX1.out
    have y0 : wr.cell? ⟨w.heap.size + 1 + 1, 0, none⟩ = some (.string l[d].ctors[m].name) := cell_of_blk HHr.out 0
    have y1 : wr.cell? ⟨w.heap.size + 1 + 1, 1, none⟩ = some (.slice D1 l[d].ctors[m].args.length ep) := cell_of_blk HHr.out 1
    have y2 : wr.cell? ⟨w.heap.size + 1 + 1, 2, none⟩ = some (.int .i64 l[d].ctors[m].index) := cell_of_blk HHr.out 2
    have HO := Lib.hid hown
    clear hown
    by_cases hlt : k < l[d].ctors[m].args.length
    · have HBw : Hid (Below w.heap.size w wr) := HK.out.trans (hb.mono (by omega))
      obtain ⟨b2, off2, rfl, hbB2, p0, p1⟩ := (HMM.out.below HBw.out (Nat.le_refl _)).2 k hlt
      have Y0 : ∀ x, (wr.alloc x).cell? ⟨w.heap.size + 1 + 1, 0, none⟩ = some (.string l[d].ctors[m].name) := fun x => (World.cell?_alloc_lt _ _ _ (by simp; omega)).trans y0
      have Y1 : ∀ x, (wr.alloc x).cell? ⟨w.heap.size + 1 + 1, 1, none⟩ = some (.slice (some ⟨b2, off2, none⟩) l[d].ctors[m].args.length ep) := fun x => (World.cell?_alloc_lt _ _ _ (by simp; omega)).trans y1
      have Y2 : ∀ x, (wr.alloc x).cell? ⟨w.heap.size + 1 + 1, 2, none⟩ = some (.int .i64 l[d].ctors[m].index) := fun x => (World.cell?_alloc_lt _ _ _ (by simp; omega)).trans y2
      have X1 : ∀ x, (wr.alloc x).cell? ⟨w.heap.size, 1, none⟩ = some (.int .i64 ix) := fun x => (World.cell?_alloc_lt _ _ _ (by simp; omega)).trans x1
      by_cases hs : l[d].ctors[m].args[k].index = -1
      · have qs := ieq_t hs
        have HA := Lib.hid (argOf_same (c := l[d].ctors[m]) (ix := ix) hs)
        clear hs
        go_wp2_with fail
        refine (result_any _ _ _ _ _ _ _).mono ?_
        rintro e w2 ⟨rfl, hb2⟩
        obtain ⟨hc, hfz⟩ := bcell hb2
        have hz : wr.heap.size < w2.heap.size := by have := hb2.size; simp at this; omega
        have HU : Hid (∀ bb, bb < wr.heap.size → (w2.setCell ⟨wr.heap.size, 1, none⟩ (.int .i64 (resI l[d].ctors[m].index ix))).heap[bb]? = wr.heap[bb]?) := fun bb h => by
          rw [Below.heap_setCell _ _ _ _ (by simp; omega), hb2.block bb (by simp; omega), Below.heap_alloc _ _ _ h]
        have HO2 := Lib.hid (own_keep HO.out HU.out)
        go_wp2_with (at_builtin; refine wpList_append_own _ rfl _ _ 29 rfl (w.heap.size + 1) 33 i0 (.agg #[.int .i64 0, .int .i64 0]) 2 16 Try.underlying29 hi hz0 hz1 hz2 rfl (by decide) _ _ _ rfl (HO2.out.alloc _) ⟨w2.heap.size, 0, none⟩ 1 1 [.int .i64 l[d].ctors[m].args[k].data, .int .i64 (resI l[d].ctors[m].index ix)] rfl rfl ?c1 ?c2 ?c3 ?c4 ?c5 ?_)
        case c1 =>
          intro j u hj
          have := cell_two_new (w2.setCell ⟨wr.heap.size, 1, none⟩ (.int .i64 (resI l[d].ctors[m].index ix))) _ _ 33 j u hj
          simpa using this
        case c2 => intro u hu; simp at hu; rcases hu with rfl | rfl <;> rfl
        case c3 => unfold maxLen; omega
        case c4 => omega
        case c5 => simp; omega
        intro v' w1 hown' hgrow hnn
        have hb3 : Below (w.heap.size + 1) w0 w1 := ((((hb.alloc (by omega) _).trans (hb2.mono (by simp; omega))).setCell (p := ⟨wr.heap.size, 1, none⟩) (by simp; omega) _).alloc (by simp; omega) _).grown hgrow (by simp; omega) (fun g' e => (HO2.out.lt g' e).1)
        have hc3 : w1.heap[w.heap.size + 1 + 1]? = w0.heap[w.heap.size + 1 + 1]? := by
          have q1 := (HU.out (w.heap.size + 1 + 1) (by omega)).trans HHr.out
          rw [hgrow.block (w.heap.size + 1 + 1) (by simp; omega) (own_ne HO2.out q1 (by decide)), Below.heap_alloc _ _ _ (by simp; omega), q1, HH.out]
        have hr3 := snoc_step hrow hlt HO.out.1 (u0 := l[d].ctors[m].args[k].data) (u1 := resI l[d].ctors[m].index ix) (by rw [HA.out]) (by rw [HA.out])
        have HO3 := Lib.hid hown'
        clear hown' hgrow hnn hc hfz hi hz0 hz1 hz2 Y0 Y1 Y2 X1
        go_wp2_with fail
        go_roundw
        case rel => exact ⟨k + 1, by omega, by go_num, _, HO3.out, hr3, hc3, hb3⟩
        case measure => simp [intOf]; omega
      · have qs := ieq_f hs
        have HA := Lib.hid (argOf_other (c := l[d].ctors[m]) (ix := ix) hs)
        clear hs
        go_wp2_with (at_builtin; refine wpList_append_own _ rfl _ _ 29 rfl (w.heap.size + 1) 33 i0 (.agg #[.int .i64 0, .int .i64 0]) 2 16 Try.underlying29 hi hz0 hz1 hz2 rfl (by decide) _ _ _ rfl ((HO.out.alloc _).alloc _) ⟨wr.heap.size + 1, 0, none⟩ 1 1 [.int .i64 l[d].ctors[m].args[k].data, .int .i64 l[d].ctors[m].args[k].index] rfl rfl ?d1 ?d2 ?d3 ?d4 ?d5 ?_)
        case d1 => exact cell_two_more _ _ _ _ _
        case d2 => intro u hu; simp at hu; rcases hu with rfl | rfl <;> rfl
        case d3 => unfold maxLen; omega
        case d4 => omega
        case d5 => simp; omega
        intro v' w1 hown' hgrow hnn
        have hb3 : Below (w.heap.size + 1) w0 w1 := ((hb.alloc (by omega) _).alloc (by simp; omega) _).grown hgrow (by simp; omega) (fun g' e => (HO.out.lt g' e).1)
        have hc3 : w1.heap[w.heap.size + 1 + 1]? = w0.heap[w.heap.size + 1 + 1]? := by
          rw [hgrow.block (w.heap.size + 1 + 1) (by simp; omega) (own_ne HO.out HHr.out (by decide)), Below.heap_alloc _ _ _ (by simp; omega), Below.heap_alloc _ _ _ (by omega), HHr.out, HH.out]
        have hr3 := snoc_step hrow hlt HO.out.1 (u0 := l[d].ctors[m].args[k].data) (u1 := l[d].ctors[m].args[k].index) (by rw [HA.out]) (by rw [HA.out])
        have HO3 := Lib.hid hown'
        clear hown' hgrow hnn hi hz0 hz1 hz2 Y0 Y1 Y2 X1
        go_wp2_with fail
        go_roundw
        case rel => exact ⟨k + 1, by omega, by go_num, _, HO3.out, hr3, hc3, hb3⟩
        case measure => simp [intOf]; omega
    · have he : k = l[d].ctors[m].args.length := by omega
      have HT : Hid (OTys wr (w.heap.size + 1) u7 (argT l[d].ctors[m] ix) (argT l[d].ctors[m] ix).length) := by unfold Hid; rw [HL.out, ← he]; exact ⟨xs, HO.out, hrow⟩
      have HBw : Hid (Below w.heap.size w wr) := HK.out.trans (hb.mono (by omega))
      clear he hrow
      go_wp2_with fail
      go_ret
      exact ⟨_, rfl, HT.out.lower (by omega), HBw.out⟩
end Go.Proofs.Ytholdmdkhbhokab
/-
  The types of the arguments of a constructor: both functions, whole; types that are marked and looked at again. No statement is proved here.
-/
namespace Go.Proofs.Ytholdmdkhbhokab
open Go.RowKit
set_option maxRecDepth 100000
set_option linter.unusedVariables false

theorem mem_ctL {cs : List Ct} {i x : Int} : ∀ n, x ∈ ctL cs i n → ∃ m : Nat, m < n ∧ x = m
  | n + 1, h => by
    have h' : x ∈ ctL cs i n ++ (if fitsB (cs.getD n default).index i then [(n : Int)] else []) := h
    rcases List.mem_append.1 h' with h1 | h1
    · obtain ⟨m, hm, e⟩ := mem_ctL n h1
      exact ⟨m, by omega, e⟩
    · split at h1
      · exact ⟨n, by omega, by simpa using h1⟩
      · simp at h1
theorem mem_ctR {l : List Da} {t : Ty} {x : Int} (h : x ∈ ctR l t) : TyOK l t ∧ ∃ (d m : Nat) (hd : d < l.length), t.data = d ∧ x = m ∧ m < l[d].ctors.length := by
  by_cases ht : TyOK l t
  · refine ⟨ht, ?_⟩
    rcases ty_cases ht with h1 | ⟨d, h1, hd⟩
    · rw [ctR_int h1] at h; simp at h
    · obtain ⟨td, ti⟩ := t
      simp only at h1
      subst h1
      rw [ctR_data ht hd] at h
      obtain ⟨m, hm, e⟩ := mem_ctL _ h
      exact ⟨d, m, hd, rfl, e, hm⟩
  · rw [ctR_no ht] at h; simp at h
theorem args_three {l : List Da} (h : WorldOK l) {d m : Nat} (hd : d < l.length) (hm : m < l[d].ctors.length) : l[d].ctors[m].args.length ≤ 3 := by
  have h1 := h.2.1 d hd hd
  by_cases h3 : l[d].ctors[m].args.length ≤ 3
  · exact h3
  · have h2 := (data_bad (n := l.length) (all_bad hm (ctor_args (n := l.length) h3).symm)).symm
    rw [h1] at h2; cases h2

/-- The types of the arguments of a constructor for a type. -/
noncomputable def agR (l : List Da) (t : Ty) (x : Int) : List Ty := if dec (x ∈ ctR l t) then argT ((l.getD t.data.toNat default).ctors.getD x.toNat default) t.index else []
theorem agR_no {l : List Da} {t : Ty} {x : Int} (h : ¬ x ∈ ctR l t) : agR l t x = [] := by unfold agR; rw [dec_f h]; rfl
theorem agR_yes {l : List Da} {d m : Nat} {i : Int} (h : (m : Int) ∈ ctR l ⟨d, i⟩) (hd : d < l.length) (hm : m < l[d].ctors.length) : agR l ⟨d, i⟩ m = argT l[d].ctors[m] i := by
  have e : l.getD d default = l[d] := by simp [List.getD, List.getElem?_eq_getElem hd]
  have e2 : l[d].ctors.getD m default = l[d].ctors[m] := by simp [List.getD, List.getElem?_eq_getElem hm]
  unfold agR
  rw [dec_t h]
  simp only [if_true, Int.toNat_natCast, e, e2]
theorem agR_len (l : List Da) (t : Ty) (x : Int) : (agR l t x).length ≤ 3 := by
  by_cases h : x ∈ ctR l t
  · obtain ⟨ht, d, m, hd, h1, rfl, hm⟩ := mem_ctR h
    obtain ⟨td, ti⟩ := t
    simp only at h1
    subst h1
    rw [agR_yes h hd hm, argT_len]
    exact args_three ht.1 hd hm
  · rw [agR_no h]; simp

theorem l1Args_all (A : Option Addr) (l : List Da) (cap : Nat) (t : Ty) (x : Int) (w : World) (hr : RDas w w.heap.size A l) (h : x ∈ ctR l t) :
    Calls Try.prog 51 #[.slice A l.length cap, .agg #[.int .i64 t.data, .int .i64 t.index], .int .i64 x] w fun e w' => ∃ v, e = .returned v ∧ OTys w' w.heap.size v (agR l t x) (agR l t x).length ∧ Below w.heap.size w w' := by
  obtain ⟨ht, d, m, hd, h1, rfl, hm⟩ := mem_ctR h
  obtain ⟨td, ti⟩ := t
  simp only at h1
  subst h1
  rw [agR_yes h hd hm]
  exact l1Args_data A l cap d m ti hd hm (args_three ht.1 hd hm) w hr
theorem argTypes_all (A : Option Addr) (l : List Da) (cap : Nat) (t : Ty) (x : Int) (w : World) (hr : RDas w w.heap.size A l) (h : x ∈ ctR l t) :
    Calls Try.prog 49 #[.slice A l.length cap, .agg #[.int .i64 t.data, .int .i64 t.index], .int .i64 x] w fun e w' => ∃ v, e = .returned v ∧ OTys w' w.heap.size v (agR l t x) (agR l t x).length ∧ Below w.heap.size w w' := by
  obtain ⟨ht, d, m, hd, h1, rfl, hm⟩ := mem_ctR h
  obtain ⟨td, ti⟩ := t
  simp only at h1
  subst h1
  rw [agR_yes h hd hm]
  exact argTypes_data A l cap d m ti hd hm (args_three ht.1 hd hm) w hr

theorem args_spec (A : Option Addr) (l : List Da) (cap : Nat) (t : Ty) (x : Int) (w : World) (hr : RDas w w.heap.size A l) :
    Calls Try.prog 23 #[.slice A l.length cap, .agg #[.int .i64 t.data, .int .i64 t.index], .int .i64 x] w fun e w' => ∃ v, e = .returned v ∧ OTys w' w.heap.size v (agR l t x) (agR l t x).length ∧ Below w.heap.size w w' := by
  have Hr := Lib.hid hr
  clear hr
  have hRl := ctR_len l t
  have hRm : (ctR l t).length ≤ maxLen := by unfold maxLen; omega
  go_enter Try.func23, Try.ntmps23
  go_wp2_with fail
  refine (ctors_spec _ _ _ t _ (Hr.out.keep (keep_one _) (by simp))).mono ?_
  rintro e w1 ⟨v0, rfl, ho0, hb⟩
  obtain ⟨A0, cap0, rfl, hr0⟩ := ho0.form hRm
  obtain ⟨hc, hfz⟩ := bcell hb
  have hb1 := below_one hb
  clear ho0 hb
  have Q := Lib.hid hr0
  clear hr0
  by_cases h : x ∈ ctR l t
  · have hq := dec_t h
    have HM := Lib.hid h
    clear h
    go_wp2_with fail
    refine (has_any _ _ _ _ _ Q.out).mono ?_
    rw [hq]
    rintro e w1' ⟨rfl, rfl⟩
    go_wp2_with fail
    refine (l1Args_all _ l _ t _ _ (Hr.out.keep (fun p hp => hb1.cell hp) hb1.size) HM.out).mono ?_
    rintro e w2 ⟨v, rfl, ho, hb2⟩
    have HO := Lib.hid (ho.lower hb1.size)
    have hb3 := hb1.trans (hb2.mono hb1.size)
    clear ho hb2
    go_wp2_with fail
    go_ret
    exact ⟨_, rfl, HO.out, hb3⟩
  · have hq := dec_f h
    have HN := Lib.hid (agR_no h)
    clear h
    have HE : Hid (∀ w1 : World, w.heap.size ≤ w1.heap.size → OTys (w1.alloc (.cells #[] 33)) w.heap.size (.slice (some ⟨w1.heap.size, 0, none⟩) 0 0) [] 0) := fun w1 hl => by
      have := World.ownsRow_lit (base := w.heap.size) (e := 33) (size := 2) w1 #[] 0 hl (by simp) rfl
      exact ⟨[], by simpa using this, TyRow.zero _ _⟩
    go_wp2_with fail
    refine (has_any _ _ _ _ _ Q.out).mono ?_
    rw [hq]
    rintro e w1' ⟨rfl, rfl⟩
    go_wp2_with fail
    go_ret
    exact ⟨_, rfl, by rw [HN.out]; exact HE.out _ hb1.size, hb1.alloc hb1.size _⟩
theorem args_impl (A : Option Addr) (l : List Da) (cap : Nat) (t : Ty) (x : Int) (w : World) (hr : RDas w w.heap.size A l) :
    Calls Try.prog 22 #[.slice A l.length cap, .agg #[.int .i64 t.data, .int .i64 t.index], .int .i64 x] w fun e w' => ∃ v, e = .returned v ∧ OTys w' w.heap.size v (agR l t x) (agR l t x).length ∧ Below w.heap.size w w' := by
  have Hr := Lib.hid hr
  clear hr
  have hRl := ctR_len l t
  have hRm : (ctR l t).length ≤ maxLen := by unfold maxLen; omega
  go_enter Try.func22, Try.ntmps22
  go_wp2_with fail
  refine (ctors_impl _ _ _ t _ (Hr.out.keep (keep_one _) (by simp))).mono ?_
  rintro e w1 ⟨v0, rfl, ho0, hb⟩
  obtain ⟨A0, cap0, rfl, hr0⟩ := ho0.form hRm
  obtain ⟨hc, hfz⟩ := bcell hb
  have hb1 := below_one hb
  clear ho0 hb
  have Q := Lib.hid hr0
  clear hr0
  by_cases h : x ∈ ctR l t
  · have hq := dec_t h
    have HM := Lib.hid h
    clear h
    go_wp2_with fail
    refine (contains_any _ _ _ _ _ Q.out).mono ?_
    rw [hq]
    rintro e w1' ⟨rfl, rfl⟩
    go_wp2_with fail
    refine (argTypes_all _ l _ t _ _ (Hr.out.keep (fun p hp => hb1.cell hp) hb1.size) HM.out).mono ?_
    rintro e w2 ⟨v, rfl, ho, hb2⟩
    have HO := Lib.hid (ho.lower hb1.size)
    have hb3 := hb1.trans (hb2.mono hb1.size)
    clear ho hb2
    go_wp2_with fail
    go_ret
    exact ⟨_, rfl, HO.out, hb3⟩
  · have hq := dec_f h
    have HN := Lib.hid (agR_no h)
    clear h
    go_wp2_with fail
    refine (contains_any _ _ _ _ _ Q.out).mono ?_
    rw [hq]
    rintro e w1' ⟨rfl, rfl⟩
    go_wp2_with fail
    go_ret
    exact ⟨_, rfl, by rw [HN.out]; exact ⟨[], World.ownsRow_nil _ _ _ _, TyRow.zero _ _⟩, hb1⟩

/-- A row of types whose first cells are marked. -/
def MarkedT (w : World) (lo : Nat) (v : Value) (n : Nat) (k : Int) (j : Nat) : Prop := ∃ xs, w.ownsRow lo 33 2 v n xs ∧ ∀ i, i < j * 2 → xs[i]? = some (.int .i64 (k + i))
/-- The marks lie there. -/
def RMkT (w : World) (A : Option Addr) (n : Nat) (k : Int) : Prop := ∀ j, j < n → ∃ b off, A = some ⟨b, off, none⟩ ∧ b < w.heap.size ∧ w.cell? ⟨b, off + j * 2, none⟩ = some (.int .i64 (k + 2 * j)) ∧ w.cell? ⟨b, off + j * 2 + 1, none⟩ = some (.int .i64 (k + 2 * j + 1))
theorem RMkT.at_ {w w' : World} {A : Option Addr} {n : Nat} {k : Int} (h : RMkT w A n k) (hb : Below w.heap.size w w') : RMkT w' A n k := fun j hj => by
  obtain ⟨b, off, e, hbl, h1, h2⟩ := h j hj
  exact ⟨b, off, e, Nat.lt_of_lt_of_le hbl hb.size, (hb.cell (p := ⟨b, off + j * 2, none⟩) hbl).trans h1, (hb.cell (p := ⟨b, off + j * 2 + 1, none⟩) hbl).trans h2⟩
theorem MarkedT.reads {w : World} {lo g n cap : Nat} {k : Int} (h : MarkedT w lo (.slice (some ⟨g, 0, none⟩) n cap) n k n) : RMkT w (some ⟨g, 0, none⟩) n k := fun j hj => by
  obtain ⟨xs, ho, hx⟩ := h
  refine ⟨g, 0, rfl, own_lt ho, ?_, ?_⟩
  · rw [Nat.zero_add, ho.cellAt (j * 2) (by omega), hx (j * 2) (by omega)]; congr 2; push_cast; omega
  · rw [Nat.zero_add, ho.cellAt (j * 2 + 1) (by omega), hx (j * 2 + 1) (by omega)]; congr 2; push_cast; omega

end Go.Proofs.Ytholdmdkhbhokab
/-
  The depth that a table of depths gives for a type and for a constructor: the document's functions. No statement is proved here.
-/
namespace Go.Proofs.Ytholdmdkhbhokab
open Go.RowKit
set_option maxRecDepth 100000
set_option linter.unusedVariables false

/-- The place of a data type with an index in a table. -/
def slotN (t : Ty) : Nat := (t.data * 4 + t.index).toNat
/-- The type of numbers, or a data type within n data types with an index for values. -/
def TyIn (n : Nat) (t : Ty) : Prop := t.data = -1 ∨ (0 ≤ t.data ∧ t.data < n ∧ 0 ≤ t.index ∧ t.index ≤ 3)
def dep (T : List Int) (t : Ty) : Int := if t.data = -1 then 1 else T.getD (slotN t) 0
theorem dep_int {T : List Int} {t : Ty} (h : t.data = -1) : dep T t = 1 := if_pos h
theorem dep_data {T : List Int} {t : Ty} (h : ¬ t.data = -1) (hs : slotN t < T.length) : dep T t = T[slotN t] := by
  unfold dep; rw [if_neg h]; simp [List.getD, List.getElem?_eq_getElem hs]

theorem slot_any (d i : Int) (w : World) (h0 : 0 ≤ d) (h1 : d ≤ 1048576) (h2 : 0 ≤ i) (h3 : i ≤ 3) :
    Calls Try.prog 82 #[.agg #[.int .i64 d, .int .i64 i]] w fun e w' => e = .returned (.int .i64 (d * 4 + i)) ∧ Below w.heap.size w w' := by
  have HB : Hid (∀ o : Obj, Below w.heap.size w (w.alloc o)) := fun o => (Below.refl _ _).alloc (Nat.le_refl _) _
  go_enter Try.func82, Try.ntmps82
  go_wp2_with fail
  go_ret
  exact ⟨rfl, HB.out _⟩

theorem depth_any (A : Option Addr) (T : List Int) (cap n : Nat) (t : Ty) (w : World) (hr : RInts w A T) (hn : T.length = n * 4) (hn4 : n ≤ 4) (ht : TyIn n t) :
    Calls Try.prog 53 #[.slice A T.length cap, .agg #[.int .i64 t.data, .int .i64 t.index]] w fun e w' => e = .returned (.int .i64 (dep T t)) ∧ Below w.heap.size w w' := by
  have Hr := Lib.hid hr
  have HN := Lib.hid hn
  clear hr hn
  have HB : Hid (∀ o : Obj, Below w.heap.size w (w.alloc o)) := fun o => (Below.refl _ _).alloc (Nat.le_refl _) _
  by_cases h : t.data = -1
  · have q := ieq_t h
    have H := Lib.hid (dep_int (T := T) h)
    clear h ht
    go_enter Try.func53, Try.ntmps53
    go_wp2_with fail
    go_ret
    exact ⟨ret_i64 H.out.symm, HB.out _⟩
  · obtain ⟨h1, h2, h3, h4⟩ := ht.resolve_left h
    have q := ieq_f h
    have hs : slotN t < T.length := by have := HN.out; unfold slotN; omega
    have H := Lib.hid (dep_data (T := T) h hs)
    have hsI : ((slotN t : Nat) : Int) = t.data * 4 + t.index := by unfold slotN; omega
    have HSI := Lib.hid hsI
    have hsl : (slotN t : Int) < (T.length : Int) := by omega
    clear h ht hsI
    go_enter Try.func53, Try.ntmps53
    go_wp2_with fail
    refine (slot_any _ _ _ h1 (by omega) h3 h4).mono ?_
    rw [← HSI.out]
    rintro e w1 ⟨rfl, hb⟩
    have hb1 := below_one hb
    obtain ⟨b, off, rfl, _, c0⟩ := (Hr.out.at_ hb1).2 (slotN t) hs
    clear hb
    go_wp2_with fail
    go_ret
    exact ⟨ret_i64 H.out.symm, hb1⟩

/-- The greatest depth of the first k arguments. -/
def maxTo (T : List Int) (l : List Ty) : Nat → Int
  | 0 => 0
  | k + 1 => if maxTo T l k < dep T (l.getD k default) then dep T (l.getD k default) else maxTo T l k
noncomputable def mostL (T : List Int) (l : List Ty) : Int := @ite _ (∃ a ∈ l, dep T a = 0) (Classical.propDecidable _) 0 (maxTo T l l.length + 1)

theorem most_no {T : List Int} {l : List Ty} {k : Nat} (hk : k < l.length) (h : dep T l[k] = 0) : 0 = mostL T l := by
  unfold mostL; rw [if_pos ⟨l[k], List.getElem_mem hk, h⟩]
theorem most_yes {T : List Int} {l : List Ty} (h : ∀ j (hj : j < l.length), ¬ dep T l[j] = 0) : maxTo T l l.length + 1 = mostL T l := by
  unfold mostL
  rw [if_neg]
  rintro ⟨a, ha, h0⟩
  obtain ⟨j, hj, rfl⟩ := List.getElem_of_mem ha
  exact h j hj h0
theorem maxTo_succ {T : List Int} {l : List Ty} {k : Nat} (hk : k < l.length) : maxTo T l (k + 1) = if maxTo T l k < dep T l[k] then dep T l[k] else maxTo T l k := by
  show (if maxTo T l k < dep T (l.getD k default) then dep T (l.getD k default) else maxTo T l k) = _
  have e : l.getD k default = l[k] := by simp [List.getD, List.getElem?_eq_getElem hk]
  rw [e]
def Known (T : List Int) (l : List Ty) (k : Nat) : Prop := ∀ j (hj : j < l.length), j < k → ¬ dep T l[j] = 0
theorem Known.zero (T : List Int) (l : List Ty) : Known T l 0 := fun j _ h => absurd h (by omega)
theorem Known.step {T : List Int} {l : List Ty} {k : Nat} (h : Known T l k) (hk : k < l.length) (e : ¬ dep T l[k] = 0) : Known T l (k + 1) := by
  intro j hj hjk
  by_cases e' : j = k
  · subst e'; exact e
  · exact h j hj (by omega)
theorem dep_bd {T : List Int} (hT : ∀ x ∈ T, 0 ≤ x ∧ x ≤ 5000) (t : Ty) : 0 ≤ dep T t ∧ dep T t ≤ 5000 := by
  unfold dep
  by_cases h : t.data = -1
  · rw [if_pos h]; omega
  · rw [if_neg h]
    by_cases hs : slotN t < T.length
    · simp only [List.getD, List.getElem?_eq_getElem hs, Option.getD_some]
      exact hT _ (List.getElem_mem hs)
    · simp [List.getD, List.getElem?_eq_none (Nat.le_of_not_lt hs)]
theorem maxTo_bd {T : List Int} (hT : ∀ x ∈ T, 0 ≤ x ∧ x ≤ 5000) (l : List Ty) : ∀ k, 0 ≤ maxTo T l k ∧ maxTo T l k ≤ 5000
  | 0 => by show 0 ≤ (0 : Int) ∧ (0 : Int) ≤ 5000; omega
  | k + 1 => by
    have h1 := maxTo_bd hT l k
    have h2 := dep_bd hT (l.getD k default)
    show 0 ≤ (if maxTo T l k < dep T (l.getD k default) then dep T (l.getD k default) else maxTo T l k) ∧ (if maxTo T l k < dep T (l.getD k default) then dep T (l.getD k default) else maxTo T l k) ≤ 5000
    split <;> omega

set_option maxHeartbeats 1200000 in
theorem most_any (A0 A : Option Addr) (l : List Da) (T : List Int) (cap0 cap d m : Nat) (ix : Int) (hd : d < l.length) (hm : m < l[d].ctors.length) (h3 : l[d].ctors[m].args.length ≤ 3) (w : World) (hr0 : RDas w w.heap.size A0 l) (hr : RInts w A T) (hn : T.length = l.length * 4) (hn4 : l.length ≤ 4)
    (hT : ∀ x ∈ T, 0 ≤ x ∧ x ≤ 5000) (hin : ∀ a ∈ argT l[d].ctors[m] ix, TyIn l.length a) :
    Calls Try.prog 83 #[.slice A0 l.length cap0, .slice A T.length cap, .agg #[.int .i64 d, .int .i64 ix], .int .i64 m] w fun e w' => e = .returned (.int .i64 (mostL T (argT l[d].ctors[m] ix))) ∧ Below w.heap.size w w' := by
  have Hr := Lib.hid hr
  have HN := Lib.hid hn
  have Hr0 := Lib.hid (hr0.keep (w' := w.alloc (.cells #[.int .i64 d, .int .i64 ix] 33)) (B' := (w.alloc (.cells #[.int .i64 d, .int .i64 ix] 33)).heap.size) (keep_one _) (by simp))
  have HI := Lib.hid hin
  have HT := Lib.hid hT
  clear hr hn hr0 hin hT
  have hLl : (argT l[d].ctors[m] ix).length ≤ 3 := by rw [argT_len]; exact h3
  have hLm : (argT l[d].ctors[m] ix).length ≤ maxLen := by unfold maxLen; omega
  go_enter Try.func83, Try.ntmps83
  go_wp2_with fail
  refine (l1Args_data _ l _ d m ix hd hm h3 _ Hr0.out).mono ?_
  rintro e w1 ⟨v, rfl, ho, hb⟩
  obtain ⟨A1, cap1, rfl, hr1⟩ := ho.form hLm
  have hb1 := below_one hb
  have H1 := Lib.hid hr1
  clear ho hb hr1 Hr0
  generalize hLL : argT l[d].ctors[m] ix = L at *
  have HLL := Lib.hid hLL
  clear hLL
  go_wp2_with fail
  go_loopw [10, 11] (fun q i wr => ∃ k : Nat, k ≤ L.length ∧ i = .int .i64 k ∧ q = .int .i64 (maxTo T L k) ∧ Known T L k ∧ Below w1.heap.size w1 wr) (fun _ i _ => L.length - (intOf i).toNat)
  case atStart => exact ⟨0, by omega, rfl, rfl, Known.zero _ _, Below.refl _ _⟩
  case round =>
    obtain ⟨k, hk, rfl, rfl, hkn, hb⟩ := hrel
    have HB : Hid (Below w.heap.size w wr) := hb1.trans (hb.mono hb1.size)
    have hmb := maxTo_bd HT.out L k
    by_cases hlt : k < L.length
    · obtain ⟨b, off, rfl, _, c0, c1⟩ := (H1.out.below hb (Nat.le_refl _)).2 k hlt
      have hdb := dep_bd HT.out L[k]
      have HTI := Lib.hid (HI.out L[k] (List.getElem_mem hlt))
      have HS := Lib.hid (maxTo_succ (T := T) hlt)
      by_cases h0 : dep T L[k] = 0
      · have q := ieq_t h0
        have HZ := Lib.hid (most_no hlt h0)
        clear h0
        go_wp2_with fail
        refine (depth_any _ _ _ l.length _ _ (Hr.out.at_ HB.out) HN.out hn4 HTI.out).mono ?_
        rintro e w2 ⟨rfl, hb2⟩
        go_wp2_with fail
        go_ret
        exact ⟨ret_i64 (by rw [HLL.out]; exact HZ.out), HB.out.trans (hb2.mono HB.out.size)⟩
      · have q := ieq_f h0
        have HK := Lib.hid (hkn.step hlt h0)
        clear h0 hkn
        by_cases hgt : maxTo T L k < dep T L[k]
        · have HM : Hid (maxTo T L (k + 1) = dep T L[k]) := by unfold Hid; rw [HS.out, if_pos hgt]
          go_wp2_with fail
          refine (depth_any _ _ _ l.length _ _ (Hr.out.at_ HB.out) HN.out hn4 HTI.out).mono ?_
          rintro e w2 ⟨rfl, hb2⟩
          go_wp2_with fail
          go_roundw
          case rel => exact ⟨k + 1, by omega, by go_num, by rw [HM.out], HK.out, hb.trans (hb2.mono hb.size)⟩
          case measure => simp [intOf]; omega
        · have HM : Hid (maxTo T L (k + 1) = maxTo T L k) := by unfold Hid; rw [HS.out, if_neg hgt]
          go_wp2_with fail
          refine (depth_any _ _ _ l.length _ _ (Hr.out.at_ HB.out) HN.out hn4 HTI.out).mono ?_
          rintro e w2 ⟨rfl, hb2⟩
          go_wp2_with fail
          go_roundw
          case rel => exact ⟨k + 1, by omega, by go_num, by rw [HM.out], HK.out, hb.trans (hb2.mono hb.size)⟩
          case measure => simp [intOf]; omega
    · have he : k = L.length := by omega
      have HY : Hid (maxTo T L L.length + 1 = mostL T L) := most_yes (fun j hj => hkn j hj (by omega))
      have HE := Lib.hid he
      clear he hkn
      go_wp2_with fail
      go_ret
      exact ⟨ret_i64 (by rw [HLL.out, ← HY.out, HE.out]), HB.out⟩
end Go.Proofs.Ytholdmdkhbhokab
/-
  Plain mathematics: a growing family of sets over a list comes to rest within as many steps as the list is long. No program is imported here.
-/
namespace Go.Proofs.Ytholdmdkhbhokab
section
variable {α : Type} (F : (α → Prop) → α → Prop)
/-- Those that are made within k rounds. -/
def Dk : Nat → α → Prop
  | 0 => fun _ => False
  | k + 1 => F (Dk k)
/-- The members of a list for which something holds, counted. -/
noncomputable def cnt (ts : List α) (P : α → Prop) : Nat := (ts.filter fun t => @decide (P t) (Classical.propDecidable _)).length
theorem cnt_le (ts : List α) (P : α → Prop) : cnt ts P ≤ ts.length := List.length_filter_le _ _
theorem cnt_mono : ∀ (ts : List α) (P Q : α → Prop), (∀ t ∈ ts, P t → Q t) → cnt ts P ≤ cnt ts Q
  | [], _, _, _ => Nat.le_refl _
  | t :: ts, P, Q, h => by
    have ih := cnt_mono ts P Q (fun x hx => h x (List.mem_cons_of_mem _ hx))
    unfold cnt at ih ⊢
    by_cases hp : P t
    · have hq := h t (List.mem_cons_self) hp
      rw [List.filter_cons_of_pos (by simpa using hp), List.filter_cons_of_pos (by simpa using hq)]
      simp only [List.length_cons]; omega
    · rw [List.filter_cons_of_neg (by simpa using hp)]
      by_cases hq : Q t
      · rw [List.filter_cons_of_pos (by simpa using hq)]; simp only [List.length_cons]; omega
      · rw [List.filter_cons_of_neg (by simpa using hq)]; exact ih
theorem cnt_lt : ∀ (ts : List α) (P Q : α → Prop), (∀ t ∈ ts, P t → Q t) → (∃ t ∈ ts, Q t ∧ ¬ P t) → cnt ts P + 1 ≤ cnt ts Q
  | [], _, _, _, ⟨t, ht, _⟩ => by cases ht
  | t :: ts, P, Q, h, ⟨x, hx, hq, hp⟩ => by
    have hm := cnt_mono ts P Q (fun y hy => h y (List.mem_cons_of_mem _ hy))
    by_cases ht : Q t ∧ ¬ P t
    · unfold cnt at hm ⊢
      rw [List.filter_cons_of_neg (by simpa using ht.2), List.filter_cons_of_pos (by simpa using ht.1)]
      simp only [List.length_cons]; omega
    · have hxt : x ∈ ts := by
        rcases List.mem_cons.1 hx with rfl | hx'
        · exact absurd ⟨hq, hp⟩ ht
        · exact hx'
      have ih := cnt_lt ts P Q (fun y hy => h y (List.mem_cons_of_mem _ hy)) ⟨x, hxt, hq, hp⟩
      unfold cnt at ih ⊢
      by_cases hp' : P t
      · have hq' := h t (List.mem_cons_self) hp'
        rw [List.filter_cons_of_pos (by simpa using hp'), List.filter_cons_of_pos (by simpa using hq')]
        simp only [List.length_cons]; omega
      · have hq' : ¬ Q t := fun e => ht ⟨e, hp'⟩
        rw [List.filter_cons_of_neg (by simpa using hp'), List.filter_cons_of_neg (by simpa using hq')]; exact ih

variable {F} {ts : List α} (hF : ∀ P Q : α → Prop, (∀ t ∈ ts, P t → Q t) → ∀ t ∈ ts, F P t → F Q t)
include hF
theorem Dk_step : ∀ k, ∀ t ∈ ts, Dk F k t → Dk F (k + 1) t
  | 0, _, _, h => h.elim
  | k + 1, t, ht, h => hF (Dk F k) (Dk F (k + 1)) (Dk_step k) t ht h
theorem Dk_le {j k : Nat} (h : j ≤ k) : ∀ t ∈ ts, Dk F j t → Dk F k t := by
  induction h with
  | refl => exact fun _ _ h => h
  | step _ ih => exact fun t ht h => Dk_step hF _ t ht (ih t ht h)
/-- Once a round makes nothing new, none does. -/
theorem Dk_rest {k : Nat} (h : ∀ t ∈ ts, Dk F (k + 1) t → Dk F k t) : ∀ j, k ≤ j → ∀ t ∈ ts, Dk F j t → Dk F k t := by
  intro j hj
  induction hj with
  | refl => exact fun _ _ h => h
  | step _ ih => exact fun t ht hd => h t ht (hF _ _ ih t ht hd)
/-- Whatever is made at all is made within as many rounds as there are members. -/
theorem Dk_bound {t : α} (ht : t ∈ ts) {j : Nat} (h : Dk F j t) : Dk F ts.length t := by
  by_cases hs : ∃ k, k ≤ ts.length ∧ ∀ t ∈ ts, Dk F (k + 1) t → Dk F k t
  · obtain ⟨k, hk, hr⟩ := hs
    by_cases hj : k ≤ j
    · exact Dk_le hF hk t ht (Dk_rest hF hr j hj t ht h)
    · exact Dk_le hF (by omega) t ht h
  · exfalso
    have hc : ∀ k, k ≤ ts.length + 1 → k ≤ cnt ts (Dk F k) := by
      intro k
      induction k with
      | zero => intro _; omega
      | succ k ih =>
        intro hk
        have h1 := ih (by omega)
        have h2 : ∃ t ∈ ts, Dk F (k + 1) t ∧ ¬ Dk F k t := by
          apply Classical.byContradiction
          intro hn
          apply hs
          refine ⟨k, by omega, fun t ht hd => ?_⟩
          apply Classical.byContradiction
          intro hnd
          exact hn ⟨t, ht, hd, hnd⟩
        have := cnt_lt ts (Dk F k) (Dk F (k + 1)) (Dk_step hF k) h2
        omega
    have h1 := hc (ts.length + 1) (by omega)
    have h2 := cnt_le ts (Dk F (ts.length + 1))
    omega
end
end Go.Proofs.Ytholdmdkhbhokab
/-
  What a table of depths says, and what one step does to it. No statement is proved here.
-/
namespace Go.Proofs.Ytholdmdkhbhokab
set_option linter.unusedVariables false

/-- A type is made if it is the type of numbers, or one of its constructors has arguments that are made. -/
def mkF (l : List Da) (P : Ty → Prop) (t : Ty) : Prop :=
  t.data = -1 ∨ ∃ (d : Nat) (hd : d < l.length) (m : Nat) (hm : m < l[d].ctors.length), t.data = d ∧ fitsB l[d].ctors[m].index t.index = true ∧ ∀ a ∈ argT l[d].ctors[m] t.index, P a
theorem mkF_mono {l : List Da} {P Q : Ty → Prop} (h : ∀ t, P t → Q t) (t : Ty) (hp : mkF l P t) : mkF l Q t := by
  rcases hp with h0 | ⟨d, hd, m, hm, h1, h2, h3⟩
  · exact .inl h0
  · exact .inr ⟨d, hd, m, hm, h1, h2, fun a ha => h a (h3 a ha)⟩
theorem Dk_up {l : List Da} : ∀ k t, Dk (mkF l) k t → Dk (mkF l) (k + 1) t
  | 0, _, h => h.elim
  | k + 1, t, h => mkF_mono (Dk_up k) t h
theorem Dk_up_le {l : List Da} {j k : Nat} (h : j ≤ k) : ∀ t, Dk (mkF l) j t → Dk (mkF l) k t := by
  induction h with
  | refl => exact fun _ h => h
  | step _ ih => exact fun t ht => Dk_up _ t (ih t ht)
/-- Each entry that isn't 0 is a depth of its type. -/
def Sound (l : List Da) (T : List Int) : Prop := ∀ t, TyIn l.length t → ¬ dep T t = 0 → 0 < dep T t ∧ Dk (mkF l) (dep T t).toNat t
/-- Every type that is made within k rounds has an entry of at most k. -/
def Full (l : List Da) (T : List Int) (k : Nat) (t : Ty) : Prop := Dk (mkF l) k t → ¬ dep T t = 0 ∧ dep T t ≤ k
/-- T' has entries where T has, and none is greater. -/
def Less (T T' : List Int) : Prop := ∀ t, ¬ dep T t = 0 → ¬ dep T' t = 0 ∧ dep T' t ≤ dep T t
theorem Less.refl (T : List Int) : Less T T := fun t h => ⟨h, Int.le_refl _⟩
theorem Full.less {l : List Da} {T T' : List Int} {k : Nat} {t : Ty} (h : Full l T k t) (hl : Less T T') : Full l T' k t := fun hd => by
  obtain ⟨h1, h2⟩ := h hd
  obtain ⟨h3, h4⟩ := hl t h1
  exact ⟨h3, by omega⟩
theorem maxTo_ge {T : List Int} {L : List Ty} : ∀ k, k ≤ L.length → ∀ j (hj : j < L.length), j < k → dep T L[j] ≤ maxTo T L k
  | k + 1, hk, j, hj, hjk => by
    rw [maxTo_succ (by omega)]
    by_cases e : j = k
    · subst e; split <;> omega
    · have h5 : dep T L[j] ≤ maxTo T L k := maxTo_ge k (by omega) j hj (by omega)
      split <;> omega
theorem maxTo_le {T : List Int} {L : List Ty} {b : Int} (h0 : 0 ≤ b) (h : ∀ j (hj : j < L.length), dep T L[j] ≤ b) : ∀ k, k ≤ L.length → maxTo T L k ≤ b
  | 0, _ => h0
  | k + 1, hk => by
    have h1 := maxTo_le h0 h k (by omega)
    have h2 := h k (by omega)
    rw [maxTo_succ (by omega)]
    split <;> omega
/-- What a constructor gives: nothing, or a depth of its type. -/
theorem most_sound {l : List Da} {T : List Int} {d m : Nat} {ix : Int} (hd : d < l.length) (hm : m < l[d].ctors.length) (hf : fitsB l[d].ctors[m].index ix = true) (hs : Sound l T) (hin : ∀ a ∈ argT l[d].ctors[m] ix, TyIn l.length a) (hb : ∀ x ∈ T, 0 ≤ x ∧ x ≤ 5000)
    (h : ¬ mostL T (argT l[d].ctors[m] ix) = 0) : 0 < mostL T (argT l[d].ctors[m] ix) ∧ Dk (mkF l) (mostL T (argT l[d].ctors[m] ix)).toNat ⟨d, ix⟩ := by
  by_cases hz : ∃ a ∈ argT l[d].ctors[m] ix, dep T a = 0
  · exact absurd (by unfold mostL; rw [if_pos hz]) h
  · have he : mostL T (argT l[d].ctors[m] ix) = maxTo T (argT l[d].ctors[m] ix) (argT l[d].ctors[m] ix).length + 1 := by unfold mostL; rw [if_neg hz]
    have hm0 := maxTo_bd hb (argT l[d].ctors[m] ix) (argT l[d].ctors[m] ix).length
    rw [he]
    refine ⟨by omega, ?_⟩
    rw [show (maxTo T (argT l[d].ctors[m] ix) (argT l[d].ctors[m] ix).length + 1).toNat = (maxTo T (argT l[d].ctors[m] ix) (argT l[d].ctors[m] ix).length).toNat + 1 by omega]
    have key : ∀ a ∈ argT l[d].ctors[m] ix, Dk (mkF l) (maxTo T (argT l[d].ctors[m] ix) (argT l[d].ctors[m] ix).length).toNat a := fun a ha => by
      obtain ⟨j, hj, rfl⟩ := List.getElem_of_mem ha
      have hnz : ¬ dep T (argT l[d].ctors[m] ix)[j] = 0 := fun e => hz ⟨_, ha, e⟩
      obtain ⟨h1, h2⟩ := hs _ (hin _ ha) hnz
      have h3 : dep T (argT l[d].ctors[m] ix)[j] ≤ maxTo T (argT l[d].ctors[m] ix) (argT l[d].ctors[m] ix).length := maxTo_ge _ (Nat.le_refl _) j hj hj
      exact Dk_up_le (by omega) _ h2
    exact .inr ⟨d, hd, m, hm, rfl, hf, key⟩
/-- .. and no more than one more than its arguments' depths. -/
theorem most_full {l : List Da} {T : List Int} {L : List Ty} {n : Nat} (hfull : ∀ a ∈ L, Full l T n a) (h : ∀ a ∈ L, Dk (mkF l) n a) : ¬ mostL T L = 0 ∧ mostL T L ≤ n + 1 := by
  have hz : ¬ ∃ a ∈ L, dep T a = 0 := fun ⟨a, ha, e⟩ => (hfull a ha (h a ha)).1 e
  have he : mostL T L = maxTo T L L.length + 1 := by unfold mostL; rw [if_neg hz]
  have hle := maxTo_le (T := T) (L := L) (b := n) (by omega) (fun j hj => (hfull _ (List.getElem_mem hj) (h _ (List.getElem_mem hj))).2) L.length (Nat.le_refl _)
  have hge : 0 ≤ maxTo T L L.length := by
    have : ∀ k, k ≤ L.length → 0 ≤ maxTo T L k := by
      intro k
      induction k with
      | zero => intro _; exact Int.le_refl 0
      | succ k ih =>
        intro hk
        have := ih (by omega)
        rw [maxTo_succ (by omega)]
        split <;> omega
    exact this _ (Nat.le_refl _)
  rw [he]
  omega

/-! One entry that is set. -/
theorem slot_inj {n : Nat} {t u : Ty} (ht : TyIn n t) (hu : TyIn n u) (h1 : ¬ t.data = -1) (h2 : ¬ u.data = -1) (h : slotN t = slotN u) : t = u := by
  obtain ⟨a, b⟩ := t
  obtain ⟨c, e⟩ := u
  have h3 := ht.resolve_left h1
  have h4 := hu.resolve_left h2
  unfold slotN at h
  simp only at *
  have : a = c := by omega
  have : b = e := by omega
  simp_all
theorem dep_set_same {T : List Int} {t : Ty} {v : Int} (h : ¬ t.data = -1) (hs : slotN t < T.length) : dep (T.set (slotN t) v) t = v := by
  rw [dep_data h (by simpa using hs), List.getElem_set_self]
theorem dep_set_other {T : List Int} {t : Ty} {s : Nat} {v : Int} (h : t.data = -1 ∨ ¬ slotN t = s) : dep (T.set s v) t = dep T t := by
  unfold dep
  by_cases hd : t.data = -1
  · rw [if_pos hd, if_pos hd]
  · rw [if_neg hd, if_neg hd]
    have hne := h.resolve_left hd
    simp only [List.getD]
    rw [List.getElem?_set_ne (by omega)]
theorem less_set {T : List Int} {s : Nat} {v : Int} (hs : s < T.length) (h0 : ¬ v = 0) (h : T[s] = 0 ∨ v ≤ T[s]) : Less T (T.set s v) := fun t ht => by
  by_cases e : t.data = -1 ∨ ¬ slotN t = s
  · rw [dep_set_other e]; exact ⟨ht, Int.le_refl _⟩
  · have e1 : ¬ t.data = -1 := fun h => e (.inl h)
    have e2 : slotN t = s := Classical.byContradiction fun h => e (.inr h)
    subst e2
    rw [dep_set_same e1 hs]
    rw [dep_data e1 hs] at ht ⊢
    exact ⟨h0, h.resolve_left ht⟩
theorem sound_set {l : List Da} {T : List Int} {t : Ty} {v : Int} (hT : T.length = l.length * 4) (hs : Sound l T) (ht : TyIn l.length t) (hd : ¬ t.data = -1) (hv : 0 < v) (hk : Dk (mkF l) v.toNat t) : Sound l (T.set (slotN t) v) := fun u hu h0 => by
  by_cases e : u.data = -1 ∨ ¬ slotN u = slotN t
  · rw [dep_set_other e] at h0 ⊢; exact hs u hu h0
  · have e1 : ¬ u.data = -1 := fun h => e (.inl h)
    have e2 : slotN u = slotN t := Classical.byContradiction fun h => e (.inr h)
    have e3 := slot_inj hu ht e1 hd e2
    subst e3
    have hsl : slotN u < T.length := by
      have h3 := hu.resolve_left e1
      unfold slotN; omega
    rw [dep_set_same e1 hsl]
    exact ⟨hv, hk⟩
end Go.Proofs.Ytholdmdkhbhokab
/-
  The depth that a table gives for a constructor of a valid type; the places of a table as types. No statement is proved here.
-/
namespace Go.Proofs.Ytholdmdkhbhokab
open Go.RowKit
set_option maxRecDepth 100000
set_option linter.unusedVariables false

theorem ctor_parts {n : Int} {c : Ct} (h : ctorB n c = true) : (0 ≤ c.index ∧ c.index ≤ 3) ∧ ∀ a ∈ c.args, argB n (-1) a = true := by
  refine ⟨?_, ?_⟩
  · by_cases h1 : 0 ≤ c.index ∧ c.index ≤ 3
    · exact h1
    · have := ctor_index (n := n) h1; rw [h] at this; cases this
  · intro a ha
    by_cases h2 : c.args.all (argB n (-1)) = true
    · exact List.all_eq_true.1 h2 a ha
    · have h3 : c.args.all (argB n (-1)) = false := by simpa using h2
      have := ctor_bad h3; rw [h] at this; cases this
theorem world_ctor {l : List Da} (h : WorldOK l) {d m : Nat} (hd : d < l.length) (hm : m < l[d].ctors.length) : ctorB l.length l[d].ctors[m] = true := by
  have h1 := h.2.1 d hd hd
  by_cases h2 : ctorB l.length l[d].ctors[m] = true
  · exact h2
  · have h3 : ctorB l.length l[d].ctors[m] = false := by simpa using h2
    have := data_bad (n := l.length) (all_bad hm h3); rw [h1] at this; cases this
theorem args_in {l : List Da} (h : WorldOK l) {d m : Nat} (hd : d < l.length) (hm : m < l[d].ctors.length) {ix : Int} (h0 : 0 ≤ ix) (h3 : ix ≤ 3) : ∀ a ∈ argT l[d].ctors[m] ix, TyIn l.length a := by
  intro a ha
  obtain ⟨hi, hargs⟩ := ctor_parts (world_ctor h hd hm)
  unfold argT at ha
  obtain ⟨b, hb, rfl⟩ := List.mem_map.1 ha
  have hB := hargs b hb
  by_cases hb1 : b.data = -1
  · left
    unfold argOf
    split <;> exact hb1
  · rw [argB_data hb1] at hB
    have hp := of_decide_eq_true hB
    right
    by_cases hs : b.index = -1
    · rw [argOf_same hs]
      unfold resI
      simp only
      split <;> omega
    · rw [argOf_other hs]
      omega

/-- The type of a place in the table. -/
def tyAt (s : Nat) : Ty := ⟨(s : Int) / 4, (s : Int) % 4⟩
theorem tyAt_slot (s : Nat) : slotN (tyAt s) = s := by unfold slotN tyAt; simp only; omega
theorem tyAt_data (s : Nat) : ¬ (tyAt s).data = -1 := by unfold tyAt; simp only; omega
theorem tyAt_in {n s : Nat} (h : s < n * 4) : TyIn n (tyAt s) := by right; unfold tyAt; simp only; omega
theorem tyAt_ok {l : List Da} (h : WorldOK l) {s : Nat} (hs : s < l.length * 4) : TyOK l (tyAt s) := by
  refine ⟨h, ?_⟩
  rw [argB_data (tyAt_data s)]
  exact decide_eq_true (by unfold tyAt; simp only; omega)
theorem in_tyAt {n : Nat} {t : Ty} (h : TyIn n t) (hd : ¬ t.data = -1) : t = tyAt (slotN t) ∧ slotN t < n * 4 := by
  obtain ⟨a, b⟩ := t
  have h1 := h.resolve_left hd
  unfold tyAt slotN
  simp only at *
  refine ⟨?_, by omega⟩
  have e1 : (((a * 4 + b).toNat : Nat) : Int) = a * 4 + b := by omega
  rw [e1]
  congr 1 <;> omega
theorem fits_of_mem {cs : List Ct} {i x : Int} : ∀ n, n ≤ cs.length → x ∈ ctL cs i n → ∃ (m : Nat) (hm : m < cs.length), x = m ∧ fitsB cs[m].index i = true
  | n + 1, hn, h => by
    have h' : x ∈ ctL cs i n ++ (if fitsB (cs.getD n default).index i then [(n : Int)] else []) := h
    have e : cs.getD n default = cs[n] := by simp [List.getD, List.getElem?_eq_getElem (show n < cs.length by omega)]
    rcases List.mem_append.1 h' with h1 | h1
    · exact fits_of_mem n (by omega) h1
    · rw [e] at h1
      split at h1
      · rename_i hf
        exact ⟨n, by omega, by simpa using h1, hf⟩
      · simp at h1
theorem mem_of_fits {cs : List Ct} {i : Int} {m : Nat} (hm : m < cs.length) (hf : fitsB cs[m].index i = true) : ∀ n, m < n → n ≤ cs.length → (m : Int) ∈ ctL cs i n
  | n + 1, h1, h2 => by
    by_cases e : m = n
    · subst e; rw [ctL_yes hm hf]; exact List.mem_append_right _ (by simp)
    · have := mem_of_fits hm hf n (by omega) (by omega)
      show (m : Int) ∈ ctL cs i n ++ _
      exact List.mem_append_left _ this
end Go.Proofs.Ytholdmdkhbhokab
/-
  What the three loops over a table keep, step by step. No statement is proved here.
-/
namespace Go.Proofs.Ytholdmdkhbhokab
set_option maxRecDepth 100000
set_option linter.unusedVariables false

/-- A constructor of a place has been looked at: if its arguments are made within n rounds, the entry is at most n + 1. -/
def Okc (l : List Da) (T : List Int) (n s : Nat) (x : Int) : Prop := ∀ (d : Nat) (hd : d < l.length) (m : Nat) (hm : m < l[d].ctors.length), (tyAt s).data = d → x = m →
  (∀ a ∈ argT l[d].ctors[m] (tyAt s).index, Dk (mkF l) n a) → ¬ dep T (tyAt s) = 0 ∧ dep T (tyAt s) ≤ n + 1
/-- After n passes, s places and i constructors. -/
structure St (l : List Da) (T : List Int) (n s i : Nat) : Prop where
  len : T.length = l.length * 4
  bd : ∀ x ∈ T, 0 ≤ x ∧ x ≤ 64 * n + 4 * s + i + 1
  sound : Sound l T
  full : ∀ k, k ≤ n → ∀ t, TyIn l.length t → Full l T k t
  row : ∀ a, a < s → Full l T (n + 1) (tyAt a)
  ctors : ∀ j, j < i → ∀ x, (ctR l (tyAt s))[j]? = some x → Okc l T n s x

theorem St.start (l : List Da) (T : List Int) (hl : T.length = l.length * 4) (h0 : ∀ x ∈ T, x = 0) : St l T 0 0 0 where
  len := hl
  bd := fun x hx => by have := h0 x hx; omega
  sound := fun t ht hd => by
    by_cases h : t.data = -1
    · rw [dep_int h]; exact ⟨by omega, .inl h⟩
    · have hs : slotN t < T.length := by rw [hl]; exact (in_tyAt ht h).2
      rw [dep_data h hs] at hd
      exact absurd (h0 _ (List.getElem_mem hs)) hd
  full := fun k hk t ht hd => by
    have : k = 0 := by omega
    subst this
    exact hd.elim
  row := fun a h => absurd h (by omega)
  ctors := fun j h => absurd h (by omega)

theorem Okc.less {l : List Da} {T T' : List Int} {n s : Nat} {x : Int} (h : Okc l T n s x) (hl : Less T T') : Okc l T' n s x := fun d hd m hm h1 h2 h3 => by
  obtain ⟨h4, h5⟩ := h d hd m hm h1 h2 h3
  obtain ⟨h6, h7⟩ := hl _ h4
  exact ⟨h6, by omega⟩

/-- One constructor more: the table as it was, or with the entry set. -/
theorem St.step {l : List Da} {T T' : List Int} {n s i : Nat} {d m : Nat} (h : St l T n s i) (hw : WorldOK l) (hs : s < l.length * 4) (hn : n ≤ 16) (hi : i ≤ 4)
    (hd : d < l.length) (hm : m < l[d].ctors.length) (hdt : (tyAt s).data = d) (hx : (ctR l (tyAt s))[i]? = some (m : Int)) (hf : fitsB l[d].ctors[m].index (tyAt s).index = true)
    (hT : (T' = T ∧ (mostL T (argT l[d].ctors[m] (tyAt s).index) = 0 ∨ (¬ dep T (tyAt s) = 0 ∧ dep T (tyAt s) ≤ mostL T (argT l[d].ctors[m] (tyAt s).index)))) ∨
      (T' = T.set s (mostL T (argT l[d].ctors[m] (tyAt s).index)) ∧ 0 < mostL T (argT l[d].ctors[m] (tyAt s).index) ∧ (dep T (tyAt s) = 0 ∨ mostL T (argT l[d].ctors[m] (tyAt s).index) < dep T (tyAt s)))) : St l T' n s (i + 1) := by
  have hl4 := hw.1
  have hsT : s < T.length := by rw [h.len]; exact hs
  have hix : 0 ≤ (tyAt s).index ∧ (tyAt s).index ≤ 3 := by unfold tyAt; simp only; omega
  have hin := args_in hw hd hm hix.1 hix.2
  have hb : ∀ x ∈ T, 0 ≤ x ∧ x ≤ 5000 := fun x hx => by have := h.bd x hx; omega
  have hds : dep T (tyAt s) = T[s] := by
    have e := dep_data (T := T) (tyAt_data s) (by rw [tyAt_slot]; exact hsT)
    rw [e]; congr 1; exact tyAt_slot s
  have hmb : mostL T (argT l[d].ctors[m] (tyAt s).index) ≤ 64 * n + 4 * s + i + 1 + 1 := by
    unfold mostL
    split
    · omega
    · have := maxTo_le (T := T) (L := argT l[d].ctors[m] (tyAt s).index) (b := 64 * n + 4 * s + i + 1) (by omega) (fun j hj => by
        unfold dep
        split
        · omega
        · by_cases hq : slotN (argT l[d].ctors[m] (tyAt s).index)[j] < T.length
          · simp only [List.getD, List.getElem?_eq_getElem hq, Option.getD_some]; exact (h.bd _ (List.getElem_mem hq)).2
          · simp only [List.getD, List.getElem?_eq_none (Nat.le_of_not_lt hq), Option.getD_none]; omega) _ (Nat.le_refl _)
      omega
  have hless : Less T T' := by
    rcases hT with ⟨rfl, _⟩ | ⟨rfl, h1, h2⟩
    · exact Less.refl _
    · refine less_set hsT (by omega) ?_
      rw [← hds]
      exact h2.imp id (fun h => by omega)
  have hnew : Okc l T' n s (m : Int) := fun d' hd' m' hm' e1 e2 hargs => by
    have : d' = d := by rw [hdt] at e1; omega
    subst this
    have : m' = m := by omega
    subst this
    obtain ⟨h1, h2⟩ := most_full (T := T) (n := n) (fun a ha => h.full n (Nat.le_refl _) a (hin a ha)) hargs
    rcases hT with ⟨rfl, h3 | ⟨h3, h4⟩⟩ | ⟨rfl, h3, h4⟩
    · exact absurd h3 h1
    · exact ⟨h3, by omega⟩
    · have e : dep (T.set s (mostL T (argT l[d'].ctors[m'] (tyAt s).index))) (tyAt s) = mostL T (argT l[d'].ctors[m'] (tyAt s).index) := by
        have := dep_set_same (T := T) (t := tyAt s) (v := mostL T (argT l[d'].ctors[m'] (tyAt s).index)) (tyAt_data s) (by rw [tyAt_slot]; exact hsT)
        rwa [tyAt_slot] at this
      rw [e]
      exact ⟨h1, h2⟩
  refine ⟨?_, ?_, ?_, ?_, ?_, ?_⟩
  · rcases hT with ⟨rfl, _⟩ | ⟨rfl, _⟩
    · exact h.len
    · simpa using h.len
  · intro x hx
    rcases hT with ⟨rfl, _⟩ | ⟨rfl, h1, _⟩
    · have := h.bd x hx; omega
    · rcases List.mem_or_eq_of_mem_set hx with h2 | rfl
      · have := h.bd x h2; omega
      · omega
  · rcases hT with ⟨rfl, _⟩ | ⟨rfl, h1, h2⟩
    · exact h.sound
    · have hk := (most_sound hd hm hf h.sound hin hb (by omega)).2
      have e : (⟨(d : Int), (tyAt s).index⟩ : Ty) = tyAt s := by rw [← hdt]
      rw [e] at hk
      have := sound_set h.len h.sound (tyAt_in hs) (tyAt_data s) h1 hk
      rwa [tyAt_slot] at this
  · exact fun k hk t ht => (h.full k hk t ht).less hless
  · exact fun a ha => (h.row a ha).less hless
  · intro j hj x hx'
    by_cases e : j = i
    · subst e
      rw [hx] at hx'
      cases hx'
      exact hnew
    · exact (h.ctors j (by omega) x hx').less hless
/-- One place more. -/
theorem St.place {l : List Da} {T : List Int} {n s i : Nat} (h : St l T n s i) (hw : WorldOK l) (hs : s < l.length * 4) (hi : (ctR l (tyAt s)).length ≤ i) (hi4 : i ≤ 4) : St l T n (s + 1) 0 where
  len := h.len
  bd := fun x hx => by have := h.bd x hx; omega
  sound := h.sound
  full := h.full
  row := fun a ha => by
    by_cases e : a = s
    · subst e
      intro hd
      rcases hd with h0 | ⟨d, hdl, m, hm, h1, h2, h3⟩
      · exact absurd h0 (tyAt_data a)
      · have hok := tyAt_ok hw hs
        have hmem : (m : Int) ∈ ctR l (tyAt a) := by
          have e2 : tyAt a = ⟨(d : Int), (tyAt a).index⟩ := by rw [← h1]
          rw [e2] at hok ⊢
          rw [ctR_data hok hdl]
          exact mem_of_fits hm h2 _ hm (Nat.le_refl _)
        obtain ⟨j, hj, e3⟩ := List.getElem_of_mem hmem
        have := h.ctors j (by omega) (m : Int) (by rw [List.getElem?_eq_getElem hj, e3]) d hdl m hm h1 rfl h3
        push_cast
        exact this
    · exact h.row a (by omega)
  ctors := fun j h => absurd h (by omega)
/-- One pass more. -/
theorem St.pass {l : List Da} {T : List Int} {n s : Nat} (h : St l T n s 0) (hl4 : l.length ≤ 4) (hs : s = l.length * 4) : St l T (n + 1) 0 0 where
  len := h.len
  bd := fun x hx => by have := h.bd x hx; push_cast; omega
  sound := h.sound
  full := fun k hk t ht => by
    by_cases e : k = n + 1
    · subst e
      by_cases hd : t.data = -1
      · intro _; rw [dep_int hd]; exact ⟨by omega, by push_cast; omega⟩
      · obtain ⟨e1, e2⟩ := in_tyAt ht hd
        rw [e1]
        exact h.row _ (by omega)
    · exact h.full k (by omega) t ht
  row := fun a h => absurd h (by omega)
  ctors := fun j h => absurd h (by omega)
end Go.Proofs.Ytholdmdkhbhokab
/-
  The least depth of a type; that a table of depths holds it after as many passes as there are types. No statement is proved here.
-/
namespace Go.Proofs.Ytholdmdkhbhokab
set_option maxRecDepth 100000
set_option linter.unusedVariables false

theorem least_of {P : Nat → Prop} {k : Nat} (h : P k) : ∃ n, n ≤ k ∧ P n ∧ ∀ j, j < n → ¬ P j := by
  induction k using Nat.strongRecOn with
  | ind k ih =>
    by_cases hs : ∃ j, j < k ∧ P j
    · obtain ⟨j, hj, hp⟩ := hs
      obtain ⟨n, h1, h2, h3⟩ := ih j hj hp
      exact ⟨n, by omega, h2, h3⟩
    · exact ⟨k, Nat.le_refl _, h, fun j hj hp => hs ⟨j, hj, hp⟩⟩

/-- n is the least depth of t, or 0 if t has no values. -/
def Ld (l : List Da) (t : Ty) (n : Int) : Prop := (n = 0 ∧ ∀ k, ¬ Dk (mkF l) k t) ∨ (0 < n ∧ Dk (mkF l) n.toNat t ∧ ∀ j, j < n.toNat → ¬ Dk (mkF l) j t)
theorem ld_exists (l : List Da) (t : Ty) : ∃ n, Ld l t n := by
  by_cases h : ∃ k, Dk (mkF l) k t
  · obtain ⟨k, hk⟩ := h
    obtain ⟨n, _, h2, h3⟩ := least_of (P := fun k => Dk (mkF l) k t) hk
    have hn : 0 < n := by
      rcases Nat.eq_zero_or_pos n with rfl | h
      · exact h2.elim
      · exact h
    exact ⟨(n : Int), .inr ⟨by omega, by rw [Int.toNat_natCast]; exact h2, fun j hj => h3 j (by omega)⟩⟩
  · exact ⟨0, .inl ⟨rfl, fun k hk => h ⟨k, hk⟩⟩⟩
theorem ld_unique {l : List Da} {t : Ty} {n m : Int} (h : Ld l t n) (h' : Ld l t m) : n = m := by
  rcases h with ⟨rfl, h1⟩ | ⟨h0, h1, h2⟩
  · rcases h' with ⟨rfl, _⟩ | ⟨_, h4, _⟩
    · rfl
    · exact absurd h4 (h1 _)
  · rcases h' with ⟨rfl, h3⟩ | ⟨h3, h4, h5⟩
    · exact absurd h1 (h3 _)
    · have a1 : ¬ n.toNat < m.toNat := fun h => h5 _ h h1
      have a2 : ¬ m.toNat < n.toNat := fun h => h2 _ h h4
      omega
noncomputable def ldep (l : List Da) (t : Ty) : Int := Classical.choose (ld_exists l t)
theorem ldep_is (l : List Da) (t : Ty) : Ld l t (ldep l t) := Classical.choose_spec (ld_exists l t)
theorem ldep_eq {l : List Da} {t : Ty} {n : Int} (h : Ld l t n) : n = ldep l t := ld_unique h (ldep_is l t)
theorem ldep_nonneg (l : List Da) (t : Ty) : 0 ≤ ldep l t := by
  rcases ldep_is l t with ⟨h, _⟩ | ⟨h, _⟩ <;> omega
theorem ldep_pos {l : List Da} {t : Ty} {k : Nat} (h : Dk (mkF l) k t) : 0 < ldep l t := by
  rcases ldep_is l t with ⟨_, h1⟩ | ⟨h1, _⟩
  · exact absurd h (h1 _)
  · exact h1
theorem ldep_int {l : List Da} {t : Ty} (h : t.data = -1) : (1 : Int) = ldep l t := by
  refine ldep_eq (.inr ⟨by omega, .inl h, fun j hj => ?_⟩)
  have : j = 0 := by omega
  subst this
  exact fun h => h

/-- The types of a world: that of numbers, and each data type with each index. -/
def tysN (n : Nat) : List Ty := ⟨-1, 0⟩ :: (List.range (n * 4)).map tyAt
theorem tysN_len (n : Nat) : (tysN n).length = n * 4 + 1 := by simp [tysN]
theorem mem_tys {n : Nat} {t : Ty} : t ∈ tysN n ↔ t = ⟨-1, 0⟩ ∨ (0 ≤ t.data ∧ t.data < n ∧ 0 ≤ t.index ∧ t.index ≤ 3) := by
  unfold tysN
  rw [List.mem_cons, List.mem_map]
  constructor
  · rintro (h | ⟨s, hs, rfl⟩)
    · exact .inl h
    · have := List.mem_range.1 hs
      right; unfold tyAt; simp only; omega
  · rintro (h | h)
    · exact .inl h
    · right
      have hin : TyIn n t := .inr h
      obtain ⟨e, hs⟩ := in_tyAt hin (by omega)
      exact ⟨slotN t, List.mem_range.2 hs, e.symm⟩
theorem tys_in {n : Nat} {t : Ty} (h : t ∈ tysN n) : TyIn n t := by
  rcases mem_tys.1 h with rfl | h
  · exact .inl rfl
  · exact .inr h
theorem tys_ix {n : Nat} {t : Ty} (h : t ∈ tysN n) : 0 ≤ t.index ∧ t.index ≤ 3 := by
  rcases mem_tys.1 h with rfl | h
  · exact ⟨Int.le_refl 0, by decide⟩
  · exact ⟨h.2.2.1, h.2.2.2⟩
theorem tys_bd {n : Nat} {t : Ty} (h : t ∈ tysN n) : -1 ≤ t.data ∧ t.data ≤ n := by
  rcases mem_tys.1 h with rfl | h
  · exact ⟨Int.le_refl _, by simp only; omega⟩
  · omega
theorem ok_tys {l : List Da} {t : Ty} (h : TyOK l t) : t ∈ tysN l.length := by
  obtain ⟨d, i⟩ := t
  have h2 := h.2
  by_cases h1 : d = -1
  · subst h1
    rw [argB_int rfl] at h2
    have : i = 0 := of_decide_eq_true h2
    subst this
    exact mem_tys.2 (.inl rfl)
  · rw [argB_data h1] at h2
    exact mem_tys.2 (.inr (of_decide_eq_true h2))
theorem tys_ok {l : List Da} {t : Ty} (hw : WorldOK l) (h : t ∈ tysN l.length) : TyOK l t := by
  refine ⟨hw, ?_⟩
  rcases mem_tys.1 h with rfl | h
  · rfl
  · rw [argB_data (by omega)]; exact decide_eq_true h
theorem args_tys {l : List Da} (h : WorldOK l) {d m : Nat} (hd : d < l.length) (hm : m < l[d].ctors.length) {ix : Int} (h0 : 0 ≤ ix) (h3 : ix ≤ 3) : ∀ a ∈ argT l[d].ctors[m] ix, a ∈ tysN l.length := by
  intro a ha
  obtain ⟨hi, hargs⟩ := ctor_parts (world_ctor h hd hm)
  have hin := args_in h hd hm h0 h3 a ha
  unfold argT at ha
  obtain ⟨b, hb, rfl⟩ := List.mem_map.1 ha
  have hB := hargs b hb
  by_cases hb1 : b.data = -1
  · rw [argB_int hb1] at hB
    have hb2 : b.index = 0 := of_decide_eq_true hB
    have e : argOf l[d].ctors[m] ix b = b := argOf_other (by omega)
    rw [e]
    refine mem_tys.2 (.inl ?_)
    obtain ⟨x, y⟩ := b
    simp only at hb1 hb2
    subst hb1 hb2
    rfl
  · refine mem_tys.2 (.inr ?_)
    refine hin.resolve_left ?_
    unfold argOf
    split <;> exact hb1
/-- What is made depends on the types of the world alone. -/
theorem mkF_tys {l : List Da} (h : WorldOK l) : ∀ P Q : Ty → Prop, (∀ t ∈ tysN l.length, P t → Q t) → ∀ t ∈ tysN l.length, mkF l P t → mkF l Q t := by
  intro P Q hPQ t ht hp
  rcases hp with h0 | ⟨d, hd, m, hm, h1, h2, h3⟩
  · exact .inl h0
  · exact .inr ⟨d, hd, m, hm, h1, h2, fun a ha => hPQ a (args_tys h hd hm (tys_ix ht).1 (tys_ix ht).2 a ha) (h3 a ha)⟩
/-- A table holds the least depths behind its last pass. -/
theorem dep_ldep {l : List Da} {T : List Int} (hw : WorldOK l) (h : St l T (l.length * 4 + 1) 0 0) {t : Ty} (ht : t ∈ tysN l.length) : dep T t = ldep l t := by
  have hin := tys_in ht
  have hb : ∀ j, Dk (mkF l) j t → Dk (mkF l) (l.length * 4 + 1) t := fun j hj => by
    have := Dk_bound (mkF_tys hw) ht hj
    rwa [tysN_len] at this
  by_cases h0 : dep T t = 0
  · rw [h0]
    refine ldep_eq (.inl ⟨rfl, fun k hk => ?_⟩)
    exact (h.full _ (Nat.le_refl _) t hin (hb k hk)).1 h0
  · obtain ⟨h1, h2⟩ := h.sound t hin h0
    refine ldep_eq (.inr ⟨h1, h2, fun j hj hd => ?_⟩)
    by_cases hj2 : j ≤ l.length * 4 + 1
    · have := (h.full j hj2 t hin hd).2
      omega
    · have := (h.full _ (Nat.le_refl _) t hin (hb j hd)).2
      omega
end Go.Proofs.Ytholdmdkhbhokab
/-
  What an argument of the laws reads as: lists of types, of constructors, of data types. No statement is proved here.
-/
namespace Go.Proofs.Ytholdmdkhbhokab
open Go.RowKit Go.Deep
open Go.ChangeShapes Go.WideShapes
set_option linter.unusedVariables false
set_option maxRecDepth 100000

section
variable {H : Type} {enc : TypeId × Value → H} {w : World} {spare : Nat → Bool} {held : Bool}

theorem field_at {e : TypeId} {fs : Array Field} {fuel : Nat} {cs : List Value} {x : DataW H × List MemPlace} (he : Try.prog.underlying e = some (.struct fs)) (hone : oneCellFields Try.prog fs = true) (hlen : cs.length = fs.size)
    (h : DataW.trod enc Try.prog w 0 spare held fuel e cs = some x) :
    ∃ m, ∀ (j : Nat) (f : Field), fs[j]? = some f → ∃ v y, cs[j]? = some v ∧ DataW.trod enc Try.prog w 0 spare held m f.type [v] = some y := by
  obtain ⟨ys, m, _, _, _, hyl, hf⟩ := DataW.trod_struct he h
  refine ⟨m, fun j f hj => ?_⟩
  obtain ⟨ho, hk⟩ := hone_of hone j f hj
  have hjl : j < fs.size := (Array.getElem?_eq_some_iff.1 hj).1
  have h1 := hf j f hj
  rw [ho, hk] at h1
  have hd : (cs.drop j).take 1 = [cs[j]'(by omega)] := by
    rw [List.drop_eq_getElem_cons (by omega)]; rfl
  rw [hd, List.getElem?_eq_getElem (by omega)] at h1
  exact ⟨_, _, List.getElem?_eq_getElem (by omega), h1⟩

theorem spot_of {w : World} {a : Addr} {v : Value} (h : w.cell? a = some v) : a.spot = none := by
  unfold World.cell? at h
  split at h
  · split at h
    · cases h
    · simpa using ‹¬ a.spot.isSome = true›
  · cases h

end
end Go.Proofs.Ytholdmdkhbhokab
/-
  The function FnExactWorldValid returns true for every list of data types, and the list reads behind the call as it read before. No condition.
-/
namespace Go.Proofs.Ytholdmdkhbhokab
open Go.RowKit Go.Deep
open Go.ChangeShapes Go.WideShapes Go.ChangeAt
set_option maxRecDepth 100000
set_option linter.unusedVariables false

theorem RDas.at_ {w W : World} {A : Option Addr} {l : List Da} (h : RDas w w.heap.size A l) (hb : Below w.heap.size w W) : RDas W W.heap.size A l := h.keep (fun p hp => hb.cell hp) hb.size
theorem below_then {w w1 w2 : World} (h : Below w.heap.size w w1) (h' : Below w1.heap.size w1 w2) : Below w.heap.size w w2 := h.trans (h'.mono h.size)

theorem wvOwn : ownKnob Try.prog.godebug = none := by kernel_rfl
theorem wvLaid : laidOutB Try.prog = true := by kernel_rfl

end Go.Proofs.Ytholdmdkhbhokab
/-
  A map from types to numbers that the call itself has made, as a function. No statement is proved here.
-/
namespace Go.Proofs.Ytholdmdkhbhokab
open Go.RowKit Go.Maps
set_option maxRecDepth 100000
set_option linter.unusedVariables false

def tv (t : Ty) : Value := .agg #[.int .i64 t.data, .int .i64 t.index]
theorem tv_inj {a b : Ty} (h : tv a = tv b) : a = b := by
  obtain ⟨x, y⟩ := a
  obtain ⟨z, u⟩ := b
  unfold tv at h
  simp only [Value.agg.injEq, Array.mk.injEq, List.cons.injEq, Value.int.injEq, true_and, and_true] at h
  obtain ⟨rfl, rfl⟩ := h
  rfl
theorem keyT : Keyed Try.prog 33 := Keyed.of_law (deep_law_gate wvLaid (of_decide_eq_true (by kernel_rfl)) (of_decide_eq_true (by kernel_rfl)) (by kernel_rfl) (by kernel_rfl))
noncomputable def keyL (t : Ty) : Lit := (keyOf Try.prog 33 (tv t)).getD (.bool false)
theorem key_some {t : Ty} (ht : t ∈ tysN 4) : (keyOf Try.prog 33 (tv t)).isSome = true := by
  obtain ⟨d, i⟩ := t
  rcases mem_tys.1 ht with h | ⟨h0, h1, h2, h3⟩
  · simp only [Ty.mk.injEq] at h
    obtain ⟨rfl, rfl⟩ := h
    kernel_rfl
  · simp only at h0 h1 h2 h3
    have hd : d = 0 ∨ d = 1 ∨ d = 2 ∨ d = 3 := by omega
    have hi : i = 0 ∨ i = 1 ∨ i = 2 ∨ i = 3 := by omega
    rcases hd with rfl | rfl | rfl | rfl <;> rcases hi with rfl | rfl | rfl | rfl <;> (show (keyOf Try.prog 33 (tv _)).isSome = true; kernel_rfl)
theorem key_of {t : Ty} (ht : t ∈ tysN 4) : keyOf Try.prog 33 (tv t) = some (keyL t) := by
  have := key_some ht
  unfold keyL
  cases h : keyOf Try.prog 33 (tv t)
  · rw [h] at this; cases this
  · rfl
theorem key_ne {t u : Ty} (ht : t ∈ tysN 4) (hu : u ∈ tysN 4) (h : t ≠ u) : keyL t ≠ keyL u := fun e => by
  have h1 := key_of ht
  have h2 := key_of hu
  rw [e] at h1
  exact h (tv_inj (keyT.inj h1 h2))
theorem key_is {t : Ty} (ht : t ∈ tysN 4) : WideAt.IsKeyLit (keyL t) := keyT.key (key_of ht)

/-- A map in block b, of at most n entries, that reads as F where S holds, and has no entry elsewhere. -/
def MapTy (w : World) (b n : Nat) (F : Ty → Int) (S : Ty → Prop) : Prop :=
  ∃ D : DataW Unit, w.ownsMap Try.prog 33 (plainElem Try.prog 3) b n D ∧ IsMap D ∧ ∀ t ∈ tysN 4, D.atKey (keyL t) (.lit (.int .i64 0)) = .lit (.int .i64 (if dec (S t) then F t else 0)) ∧ has D (keyL t) = dec (S t)
theorem zero3 (w : World) : (zeroValue 3).run Try.prog w = .ok (.int .i64 0) w := by kernel_rfl
theorem MapTy.made (w : World) (F : Ty → Int) : MapTy (w.alloc (.map #[] 0)) w.heap.size 0 F (fun _ => False) :=
  ⟨.map [], World.ownsMap_made _ _ _ _, ⟨[], rfl⟩, fun t _ => by rw [dec_f (fun h => h)]; exact ⟨rfl, rfl⟩⟩
theorem MapTy.lt {w : World} {b n : Nat} {F : Ty → Int} {S : Ty → Prop} (h : MapTy w b n F S) : b < w.heap.size := by
  obtain ⟨D, ho, _⟩ := h; exact ho.lt
theorem MapTy.keep {w w' : World} {b n n' : Nat} {F : Ty → Int} {S S' : Ty → Prop} (h : MapTy w b n F S) (hb : w'.heap[b]? = w.heap[b]?) (hn : n ≤ n') (hS : ∀ t ∈ tysN 4, (S t ↔ S' t)) : MapTy w' b n' F S' := by
  obtain ⟨D, ⟨es, clock, h1, h2, h3, h4⟩, hm, hat⟩ := h
  exact ⟨D, ⟨es, clock, hb.trans h1, h2, by omega, h4⟩, hm, fun t ht => by rw [← dec_congr (hS t ht)]; exact hat t ht⟩
theorem MapTy.below {w w' : World} {b n B : Nat} {F : Ty → Int} {S : Ty → Prop} (h : MapTy w b n F S) (hb : Below B w w') (hB : b < B) : MapTy w' b n F S :=
  h.keep (hb.block b hB) (Nat.le_refl _) (fun _ _ => Iff.rfl)
theorem MapTy.at_ {w w' : World} {b n : Nat} {F : Ty → Int} {S : Ty → Prop} (h : MapTy w b n F S) (hb : Below w.heap.size w w') : MapTy w' b n F S :=
  h.below hb h.lt
theorem MapTy.look {w : World} {b n : Nat} {F : Ty → Int} {S : Ty → Prop} (h : MapTy w b n F S) {t : Ty} (ht : t ∈ tysN 4) : (Instr.lookup 73 (.map (some b)) (.agg #[.int .i64 t.data, .int .i64 t.index]) false).run Try.prog w = .ok (.int .i64 (if dec (S t) then F t else 0)) w := by
  obtain ⟨D, ho, hm, hat⟩ := h
  obtain ⟨c, hrun, hc, _⟩ := ho.lookup_int keyT Try.underlying73 Try.underlying3 (zero3 w) (key_of ht)
  rw [(hat t ht).1] at hc
  injection hc with hc
  injection hc with _ hc
  unfold tv at hrun
  rw [hrun, hc]
theorem MapTy.look_ok {w : World} {b n : Nat} {F : Ty → Int} {S : Ty → Prop} (h : MapTy w b n F S) {t : Ty} (ht : t ∈ tysN 4) : (Instr.lookup 73 (.map (some b)) (.agg #[.int .i64 t.data, .int .i64 t.index]) true).run Try.prog w = .ok (.tuple #[.int .i64 (if dec (S t) then F t else 0), .bool (dec (S t))]) w := by
  obtain ⟨D, ho, hm, hat⟩ := h
  obtain ⟨v, ps, hrun, hv⟩ := ho.look_ok keyT Try.underlying73 (zero3 w) (plainElem_int Try.underlying3 (by decide)) (key_of ht)
  obtain ⟨c, rfl, hc, _⟩ := plainElem_int_inv Try.underlying3 hv
  simp only [Prod.mk.injEq] at hc
  have hc := hc.1
  rw [(hat t ht).1] at hc
  injection hc with hc
  injection hc with _ hc
  unfold tv at hrun
  rw [hrun, hc, (hat t ht).2]
theorem MapTy.put {w : World} {b n : Nat} {D : DataW Unit} {F : Ty → Int} {S : Ty → Prop} {t : Ty} (ht : t ∈ tysN 4) (ho : w.ownsMap Try.prog 33 (plainElem Try.prog 3) b n (D.put (keyL t) (.lit (.int .i64 (F t))))) (hm : IsMap D)
    (hat : ∀ t ∈ tysN 4, D.atKey (keyL t) (.lit (.int .i64 0)) = .lit (.int .i64 (if dec (S t) then F t else 0)) ∧ has D (keyL t) = dec (S t)) : MapTy w b n F (fun u => u = t ∨ S u) := by
  refine ⟨_, ho, hm.put _ _, fun u hu => ?_⟩
  by_cases e : u = t
  · subst e
    rw [atKey_put_same hm (key_is hu), has_put_same hm (key_is hu), dec_t (Or.inl rfl)]
    exact ⟨rfl, rfl⟩
  · rw [atKey_put_other (key_ne hu ht e), has_put_other (key_ne hu ht e), (hat u hu).1, (hat u hu).2, dec_congr (show S u ↔ (u = t ∨ S u) from ⟨Or.inr, fun h => h.resolve_left e⟩)]
    exact ⟨rfl, rfl⟩
end Go.Proofs.Ytholdmdkhbhokab
/-
  The least depth of a value with arguments of given types, read off the program's map of least depths. No statement is proved here.
-/
namespace Go.Proofs.Ytholdmdkhbhokab
open Go.RowKit
set_option maxRecDepth 100000
set_option linter.unusedVariables false

/-- A map of positive numbers, behind a pointer. -/
structure MP (w : World) (bp mb n : Nat) (F : Ty → Int) (S : Ty → Prop) : Prop where
  ptr : w.cell? ⟨bp, 0, none⟩ = some (.map (some mb))
  map : MapTy w mb n F S
  pos : ∀ t ∈ tysN 4, S t → 0 < F t
theorem MP.at_ {w w' : World} {bp mb n : Nat} {F : Ty → Int} {S : Ty → Prop} (h : MP w bp mb n F S) (hb : Below w.heap.size w w') : MP w' bp mb n F S :=
  ⟨(hb.cell (p := ⟨bp, 0, none⟩) (Go.block_lt_of_cell h.ptr)).trans h.ptr, h.map.at_ hb, h.pos⟩
theorem MP.alloc {w : World} {bp mb n : Nat} {F : Ty → Int} {S : Ty → Prop} (h : MP w bp mb n F S) (o : Obj) : MP (w.alloc o) bp mb n F S :=
  h.at_ ((Below.refl _ _).alloc (Nat.le_refl _) o)
def AllTo' (S : Ty → Prop) (L : List Ty) (k : Nat) : Prop := ∀ j (h : j < L.length), j < k → S L[j]
theorem AllTo'.zero (S : Ty → Prop) (L : List Ty) : AllTo' S L 0 := fun j _ h => absurd h (by omega)
theorem AllTo'.step {S : Ty → Prop} {L : List Ty} {k : Nat} (h : AllTo' S L k) (hk : k < L.length) (e : S L[k]) : AllTo' S L (k + 1) := by
  intro j hj hjk
  by_cases e' : j = k
  · subst e'; exact e
  · exact h j hj (by omega)
theorem AllTo'.all {S : Ty → Prop} {L : List Ty} {k : Nat} (h : AllTo' S L k) (hk : L.length ≤ k) : ∀ a ∈ L, S a := fun a ha => by
  obtain ⟨j, hj, rfl⟩ := List.getElem_of_mem ha
  exact h j hj (by omega)

/-- The greatest of the numbers of the first k types. -/
def mxT (F : Ty → Int) (L : List Ty) : Nat → Int
  | 0 => 0
  | k + 1 => max (mxT F L k) (F (L.getD k default))
theorem mxT_succ {F : Ty → Int} {L : List Ty} {k : Nat} (h : k < L.length) : mxT F L (k + 1) = max (mxT F L k) (F L[k]) := by
  show max _ (F (L.getD k default)) = _
  rw [List.getD_eq_getElem?_getD, List.getElem?_eq_getElem h]; rfl
/-- 0 if a type has no number, and otherwise 1 more than the greatest number. -/
noncomputable def dpR (F : Ty → Int) (S : Ty → Prop) (L : List Ty) : Int := if dec (∀ a ∈ L, S a) then mxT F L L.length + 1 else 0
theorem dpR_yes {F : Ty → Int} {S : Ty → Prop} {L : List Ty} (h : ∀ a ∈ L, S a) : dpR F S L = mxT F L L.length + 1 := by unfold dpR; rw [dec_t h]; rfl
theorem dpR_no {F : Ty → Int} {S : Ty → Prop} {L : List Ty} (h : ¬ ∀ a ∈ L, S a) : dpR F S L = 0 := by unfold dpR; rw [dec_f h]; rfl

set_option maxHeartbeats 1600000 in
theorem depA_any (A : Option Addr) (L : List Ty) (cap mb n : Nat) (F : Ty → Int) (S : Ty → Prop) (w : World) (hr : RTys w w.heap.size A L) (hL : ∀ a ∈ L, a ∈ tysN 4) (hm : MapTy w mb n F S) (hpos : ∀ t ∈ tysN 4, S t → 0 < F t ∧ F t ≤ 5000) :
    Calls Try.prog 111 #[.slice A L.length cap, .map (some mb)] w fun e w' => e = .returned (.int .i64 (dpR F S L)) ∧ Below w.heap.size w w' := by
  have hn := hr.1
  unfold maxLen at hn
  have HR := Lib.hid hr
  have HL := Lib.hid hL
  have HM := Lib.hid hm
  have HP := Lib.hid hpos
  clear hr hL hm hpos
  go_enter Try.func111, Try.ntmps111
  go_wp2_with fail
  go_loopw [5, 10] (fun g i wr => ∃ k : Nat, k ≤ L.length ∧ i = .int .i64 k ∧ ∃ q : Int, 0 ≤ q ∧ q ≤ 5000 ∧ g = .int .i64 q ∧ Hid (q = mxT F L k) ∧ Hid (AllTo' S L k) ∧ Below w.heap.size w wr) (fun _ i _ => L.length - (intOf i).toNat)
  case atStart => exact ⟨0, by omega, rfl, 0, by omega, by omega, rfl, rfl, AllTo'.zero _ _, Below.refl _ _⟩
  case round =>
    obtain ⟨k, hk, rfl, q, hq0, hq1, rfl, HQ, HA, hb⟩ := hrel
    by_cases hlt : k < L.length
    · have hi : (k : Int) < (L.length : Int) := by omega
      obtain ⟨b, off, rfl, hbB, c0, c1⟩ := (HR.out.below hb (Nat.le_refl _)).2 k hlt
      have ha4 := HL.out _ (List.getElem_mem hlt)
      have hmr := HM.out.at_ hb
      have HMX := Lib.hid (mxT_succ (F := F) hlt)
      have hb2 : ∀ o, Below w.heap.size w (wr.alloc o) := fun o => hb.alloc hb.size o
      have HB2 := Lib.hid hb2
      clear hb2
      by_cases hs : S L[k]
      · have hl : ∀ o : Obj, (Instr.lookup 73 (.map (some mb)) (.agg #[.int .i64 L[k].data, .int .i64 L[k].index]) false).run Try.prog (wr.alloc o) = .ok (.int .i64 (F L[k])) (wr.alloc o) := fun o => by
          have := (hmr.at_ ((Below.refl _ _).alloc (Nat.le_refl _) o)).look ha4
          rw [dec_t hs] at this
          exact this
        obtain ⟨hf0, hf1⟩ := HP.out _ ha4 hs
        have HA2 := Lib.hid (HA.out.step hlt hs)
        clear hs hmr ha4
        generalize hfa : F L[k] = f at hl hf0 hf1 HMX
        have q0 : (f == 0) = false := beq_eq_false_iff_ne.2 (by omega)
        clear hfa
        go_wp2_with fail
        go_roundw
        case rel => exact ⟨k + 1, by omega, by go_num, (if q < f then f else q), by split <;> omega, by split <;> omega, rfl, (by unfold Hid; rw [HMX.out, ← HQ.out]; split <;> omega), HA2.out, HB2.out _⟩
        case measure => simp [intOf]; omega
      · have hl : ∀ o : Obj, (Instr.lookup 73 (.map (some mb)) (.agg #[.int .i64 L[k].data, .int .i64 L[k].index]) false).run Try.prog (wr.alloc o) = .ok (.int .i64 0) (wr.alloc o) := fun o => by
          have := (hmr.at_ ((Below.refl _ _).alloc (Nat.le_refl _) o)).look ha4
          rw [dec_f hs] at this
          exact this
        have HN := Lib.hid (dpR_no (F := F) (S := S) (L := L) (fun h => hs (h _ (List.getElem_mem hlt))))
        clear hs hmr ha4
        go_wp2_with fail
        go_ret
        exact ⟨ret_i64 HN.out.symm, HB2.out _⟩
    · have he : k = L.length := by omega
      have HY := Lib.hid (dpR_yes (F := F) (HA.out.all (by omega)))
      have HE : Hid (q = mxT F L L.length) := by unfold Hid; rw [← he]; exact HQ.out
      clear he
      go_wp2_with fail
      go_ret
      exact ⟨ret_i64 (by rw [HY.out, HE.out]), hb⟩
end Go.Proofs.Ytholdmdkhbhokab
/-
  The table of depths: the document's function. No statement is proved here.
-/
namespace Go.Proofs.Ytholdmdkhbhokab
open Go.RowKit Go.Sort
set_option maxRecDepth 100000
set_option linter.unusedVariables false

theorem most_t (A0 A : Option Addr) (l : List Da) (T : List Int) (cap0 cap N : Nat) (t : Ty) (x : Int) (hNT : T.length = N) (hx : x ∈ ctR l t) (w : World) (hr0 : RDas w w.heap.size A0 l) (hr : RInts w A T) (hn : T.length = l.length * 4) (hT : ∀ x ∈ T, 0 ≤ x ∧ x ≤ 5000) (hix : 0 ≤ t.index ∧ t.index ≤ 3) :
    Calls Try.prog 83 #[.slice A0 l.length cap0, .slice A N cap, .agg #[.int .i64 t.data, .int .i64 t.index], .int .i64 x] w fun e w' => e = .returned (.int .i64 (mostL T (agR l t x))) ∧ Below w.heap.size w w' := by
  subst hNT
  obtain ⟨ht, d, m, hd, h1, rfl, hm⟩ := mem_ctR hx
  obtain ⟨td, ti⟩ := t
  simp only at h1 hix
  subst h1
  rw [agR_yes hx hd hm]
  exact most_any A0 A l T cap0 cap d m ti hd hm (args_three ht.1 hd hm) w hr0 hr hn ht.1.1 hT (args_in ht.1 hd hm hix.1 hix.2)

/-- A table of integers in the block B. -/
def Tab (w : World) (B N : Nat) (T : List Int) : Prop := w.ownsRow B 3 1 (.slice (some ⟨B, 0, none⟩) N N) N (T.map (Value.int .i64))
theorem Tab.cell_ {w : World} {B N : Nat} {T : List Int} (h : Tab w B N T) {s : Nat} (hs : s < N) (hl : s < T.length) : w.cell? ⟨B, s, none⟩ = some (.int .i64 T[s]) := by
  have h' : w.ownsRow B 3 1 (.slice (some ⟨B, 0, none⟩) N N) N (T.map (Value.int .i64)) := h
  rw [h'.cellAt s (by omega), List.getElem?_map, List.getElem?_eq_getElem hl]; rfl
theorem Tab.reads {w : World} {B N : Nat} {T : List Int} (h : Tab w B N T) (hl : T.length = N) (hm : N ≤ 100) : RInts w (some ⟨B, 0, none⟩) T :=
  ⟨by unfold maxLen; omega, fun k hk => ⟨B, 0, rfl, own_lt h, by rw [Nat.zero_add]; exact h.cell_ (by omega) hk⟩⟩
theorem Tab.below {w w' : World} {B N : Nat} {T : List Int} (h : Tab w B N T) (hb : Below w.heap.size w w') : Tab w' B N T := own_below h hb
theorem Tab.set {w : World} {B N s : Nat} {T : List Int} (h : Tab w B N T) (v : Int) : Tab (w.setCell ⟨B, s, none⟩ (.int .i64 v)) B N (T.set s v) := by
  have h2 := (World.ownsRow.stored h s (.int .i64 v)).1
  unfold Tab
  rw [List.map_set]
  exact h2
theorem OInts.form2 {w : World} {lo : Nat} {v : Value} {xs : List Int} (h : OInts w lo v xs) (hx : xs.length ≤ 4) : ∃ A cap, v = .slice A xs.length cap ∧ RInts w A xs ∧ ∀ b off, A = some ⟨b, off, none⟩ → lo ≤ b := by
  have hm : xs.length ≤ maxLen := by unfold maxLen; omega
  obtain ⟨A, cap, rfl, hr⟩ := h.form hm
  have h' : w.ownsRow lo 3 1 (.slice A xs.length cap) xs.length (xs.map (Value.int .i64)) := h
  refine ⟨A, cap, rfl, hr, fun b off e => ?_⟩
  rcases h'.2 with ⟨e1, _⟩ | ⟨g, cap', cur, e1, hb, _⟩
  · rw [e] at e1; simp at e1
  · rw [e] at e1; cases e1; exact hb

theorem ctor_of {l : List Da} {s : Nat} {x : Int} (h : x ∈ ctR l (tyAt s)) : ∃ (d : Nat) (hd : d < l.length) (m : Nat) (hm : m < l[d].ctors.length), (tyAt s).data = d ∧ x = m ∧ fitsB l[d].ctors[m].index (tyAt s).index = true ∧ agR l (tyAt s) x = argT l[d].ctors[m] (tyAt s).index := by
  obtain ⟨ht, d, m, hd, h1, h2, hm⟩ := mem_ctR h
  have e : tyAt s = ⟨(d : Int), (tyAt s).index⟩ := by rw [← h1]
  have h' := h
  have ht' := ht
  rw [e] at h' ht'
  rw [ctR_data ht' hd] at h'
  obtain ⟨m', hm', h3, h4⟩ := fits_of_mem _ (Nat.le_refl _) h'
  refine ⟨d, hd, m', hm', h1, h3, h4, ?_⟩
  rw [h3] at h ⊢
  rw [e] at h ⊢
  exact agR_yes h hd hm'
theorem St.step2 {l : List Da} {T T' : List Int} {n s i : Nat} {x : Int} (h : St l T n s i) (hw : WorldOK l) (hs : s < l.length * 4) (hn : n ≤ 16) (hi : i ≤ 4) (hx : (ctR l (tyAt s))[i]? = some x)
    (hT : (T' = T ∧ (mostL T (agR l (tyAt s) x) = 0 ∨ (¬ dep T (tyAt s) = 0 ∧ dep T (tyAt s) ≤ mostL T (agR l (tyAt s) x)))) ∨
      (T' = T.set s (mostL T (agR l (tyAt s) x)) ∧ 0 < mostL T (agR l (tyAt s) x) ∧ (dep T (tyAt s) = 0 ∨ mostL T (agR l (tyAt s) x) < dep T (tyAt s)))) : St l T' n s (i + 1) := by
  obtain ⟨d, hd, m, hm, h1, h2, h3, h4⟩ := ctor_of (List.mem_of_getElem? hx)
  rw [h4] at hT
  rw [h2] at hx
  exact h.step hw hs hn hi hd hm h1 hx h3 hT
theorem dep_at {T : List Int} {s : Nat} (hs : s < T.length) : dep T (tyAt s) = T[s] := by
  have e := dep_data (T := T) (tyAt_data s) (by rw [tyAt_slot]; exact hs)
  rw [e]; congr 1; exact tyAt_slot s
theorem most_nonneg {T : List Int} (hT : ∀ x ∈ T, 0 ≤ x ∧ x ≤ 5000) (L : List Ty) : 0 ≤ mostL T L := by
  have := maxTo_bd hT L L.length
  unfold mostL
  split <;> omega

theorem cell_far {w : World} {p a : Addr} {v : Value} (h : ¬ p.block = a.block) : (w.setCell p v).cell? a = w.cell? a :=
  World.cell?_setCell_other _ _ _ _ (fun e => h (by rw [e]))
theorem most_v (A0 A : Option Addr) (l : List Da) (T : List Int) (cap0 cap N : Nat) (t : Ty) (x V : Int) (hV : mostL T (agR l t x) = V) (hNT : T.length = N) (hx : x ∈ ctR l t) (w : World) (hr0 : RDas w w.heap.size A0 l) (hr : RInts w A T) (hn : T.length = l.length * 4) (hT : ∀ x ∈ T, 0 ≤ x ∧ x ≤ 5000) (hix : 0 ≤ t.index ∧ t.index ≤ 3) :
    Calls Try.prog 83 #[.slice A0 l.length cap0, .slice A N cap, .agg #[.int .i64 t.data, .int .i64 t.index], .int .i64 x] w fun e w' => e = .returned (.int .i64 V) ∧ Below w.heap.size w w' := by
  subst hV; exact most_t A0 A l T cap0 cap N t x hNT hx w hr0 hr hn hT hix

set_option maxHeartbeats 4000000 in
theorem table_any (A : Option Addr) (l : List Da) (cap : Nat) (w : World) (hr : RDas w w.heap.size A l) (hw : WorldOK l) :
    Calls Try.prog 54 #[.slice A l.length cap] w fun e w' => ∃ T, e = .returned (.slice (some ⟨w.heap.size, 0, none⟩) (l.length * 4) (l.length * 4)) ∧ Tab w' w.heap.size (l.length * 4) T ∧ St l T (l.length * 4 + 1) 0 0 ∧ Below w.heap.size w w' := by
  obtain ⟨i0, hi, hz0, hz1, hz2⟩ := info_parts info3
  have hl4 := hw.1
  have HW := Lib.hid hw
  have Hr := Lib.hid hr
  clear hr hw
  have eL : ((l.length * 4 : Nat) : Int) = (l.length : Int) * 4 := by push_cast; rfl
  go_enter Try.func54, Try.ntmps54
  go_wp2_with (at_make; refine wpList_make_full _ rfl _ _ 37 rfl w.heap.size 3 i0 _ 1 Try.underlying37 hi hz0 hz1 _ _ _ _ (l.length * 4) rfl rfl (by push_cast; rfl) (by push_cast; rfl) (by rw [hz2]; omega) (by unfold maxLen; omega) (Nat.le_refl _) ?_; intro w1 hown hgr)
  have hone : (madeCells (Value.int .i64 0).cells (l.length * 4 * 1)).toList = (List.replicate (l.length * 4) (0 : Int)).map (Value.int .i64) := by
    rw [Nat.mul_one, List.map_replicate]; exact toList_madeCells_one _ _
  have hT0 : Tab w1 w.heap.size (l.length * 4) (List.replicate (l.length * 4) 0) := by unfold Tab; rw [← hone]; exact hown
  have hb1 := below_of_grown hgr (Nat.le_refl w.heap.size)
  have hS0 : St l (List.replicate (l.length * 4) 0) 0 0 0 := St.start l _ (by simp) (fun x hx => (List.mem_replicate.1 hx).2)
  clear hown hgr hone hi hz0 hz1 hz2 eL
  go_loopw [4] (fun i wr => ∃ n : Nat, n ≤ l.length * 4 + 1 ∧ i = .int .i64 n ∧ ∃ T, Tab wr w.heap.size (l.length * 4) T ∧ St l T n 0 0 ∧ Below w.heap.size w wr) (fun i _ => l.length * 4 + 1 - (intOf i).toNat)
  case atStart => exact ⟨0, by omega, rfl, _, hT0, hS0, hb1⟩
  case round =>
    clear hT0 hS0 hb1
    obtain ⟨n, hn, rfl, T, hT, hS, hb⟩ := hrel
    by_cases hlt : n < l.length * 4 + 1
    · have hnI : (n : Int) ≤ (l.length : Int) * 4 := by omega
      go_wp2_with fail
      go_loopw [5] (fun i wr => ∃ s : Nat, s ≤ l.length * 4 ∧ i = .int .i64 s ∧ ∃ T, Tab wr w.heap.size (l.length * 4) T ∧ St l T n s 0 ∧ Below w.heap.size w wr) (fun i _ => l.length * 4 - (intOf i).toNat)
      case atStart => exact ⟨0, by omega, rfl, _, hT, hS, hb⟩
      case round =>
        clear hT hS hb
        obtain ⟨s, hs, rfl, T, hT, hS, hb⟩ := hrel
        have hlw := hb.size
        by_cases hst : s < l.length * 4
        · have hsI : (s : Int) < (l.length : Int) * 4 := by omega
          have hok := tyAt_ok HW.out hst
          have hRl := ctR_len l (tyAt s)
          have HT := Lib.hid hT
          have HS := Lib.hid hS
          clear hT hS
          go_wp2_with fail
          refine (l1Ctors_all _ l _ (tyAt s) _ (Hr.out.keep (fun p hp => (keep_one _ p (by omega)).trans (hb.cell hp)) (by simp; omega)) hok).mono ?_
          rintro e w2 ⟨v, rfl, ho, hb2⟩
          obtain ⟨A1, cap1, rfl, hr1, hA1⟩ := ho.form2 hRl
          have hb3 := hb.trans ((below_one hb2).mono hlw)
          have HT2 := Lib.hid (HT.out.below (below_one hb2))
          have HX2 := Lib.hid (⟨(hb2.cell (p := ⟨wr.heap.size, 0, none⟩) (by simp)).trans (by simp [go_sem]), (hb2.cell (p := ⟨wr.heap.size, 1, none⟩) (by simp)).trans (by simp [go_sem])⟩ : w2.cell? ⟨wr.heap.size, 0, none⟩ = some (.int .i64 ((s : Int) / 4)) ∧ w2.cell? ⟨wr.heap.size, 1, none⟩ = some (.int .i64 ((s : Int) % 4)))
          have HR2 := Lib.hid hr1
          have HA1 := Lib.hid hA1
          have hbx : w.heap.size < wr.heap.size := own_lt HT.out
          clear ho hr1 hA1 hb2 HT hb
          obtain ⟨wo, rfl⟩ : ∃ wo : World, wo = wr := ⟨_, rfl⟩
          go_wp2_with fail
          go_loopw [8] (fun i wi => ∃ j : Nat, j ≤ (ctR l (tyAt s)).length ∧ i = .int .i64 j ∧ ∃ T, Tab wi w.heap.size (l.length * 4) T ∧ St l T n s j ∧ RInts wi A1 (ctR l (tyAt s)) ∧ (wi.cell? ⟨wo.heap.size, 0, none⟩ = some (.int .i64 ((s : Int) / 4)) ∧ wi.cell? ⟨wo.heap.size, 1, none⟩ = some (.int .i64 ((s : Int) % 4))) ∧ Below w.heap.size w wi) (fun i _ => (ctR l (tyAt s)).length - (intOf i).toNat)
          case atStart => exact ⟨0, by omega, rfl, _, HT2.out, HS.out, HR2.out, HX2.out, hb3⟩
          case round =>
            clear HT2 HS HR2 HX2 hb3
            obtain ⟨j, hj, rfl, T, hT, hS, hR, ⟨q0, q1⟩, hb⟩ := hrel
            have hlw2 := hb.size
            by_cases hjt : j < (ctR l (tyAt s)).length
            · have hjI : (j : Int) < ((ctR l (tyAt s)).length : Int) := by omega
              have hx : (ctR l (tyAt s))[j]? = some (ctR l (tyAt s))[j] := List.getElem?_eq_getElem hjt
              have hxm : (ctR l (tyAt s))[j] ∈ ctR l (tyAt s) := List.getElem_mem hjt
              obtain ⟨bR, offR, hA1e, hbR, r0⟩ := hR.2 j hjt
              generalize (ctR l (tyAt s))[j] = x at hx hxm r0
              subst hA1e
              have hsT : s < T.length := by rw [hS.len]; exact hst
              have hTb : ∀ x ∈ T, 0 ≤ x ∧ x ≤ 5000 := fun x hx => by have := hS.bd x hx; omega
              have y0 := cell_regrown q0
              have y1 := cell_regrown q1
              have s0 := cell_regrown r0
              have hc := hT.cell_ hst hsT
              have hnn := most_nonneg hTb (agR l (tyAt s) x)
              have HS := Lib.hid hS
              have HL := Lib.hid hS.len
              have HTb := Lib.hid hTb
              have HT := Lib.hid hT
              have HRI := Lib.hid hR
              have HB := Lib.hid hb
              have HXM := Lib.hid hxm
              have HQ := Lib.hid (⟨q0, q1⟩ : wr.cell? ⟨wo.heap.size, 0, none⟩ = some (.int .i64 ((s : Int) / 4)) ∧ wr.cell? ⟨wo.heap.size, 1, none⟩ = some (.int .i64 ((s : Int) % 4)))
              have HK1 : Hid (∀ d os, RDas (grow (redrawn wr d) os) (grow (redrawn wr d) os).heap.size A l) := fun d os => Hr.out.keep (fun p hp => ((below_regrown wr d os).cell (by omega)).trans (hb.cell hp)) (by have := (below_regrown wr d os).size; omega)
              have HK2 : Hid (∀ d os, RInts (grow (redrawn wr d) os) (some ⟨w.heap.size, 0, none⟩) T) := fun d os => (hT.reads hS.len (by omega)).at_ (below_regrown wr d os)
              clear q0 q1 r0 hS hT hR hb hTb hxm
              generalize hV : mostL T (agR l (tyAt s) x) = V at hnn
              have HST : Hid (∀ T', (T' = T ∧ (V = 0 ∨ (¬ T[s] = 0 ∧ T[s] ≤ V))) ∨ (T' = T.set s V ∧ 0 < V ∧ (T[s] = 0 ∨ V < T[s])) → St l T' n s (j + 1)) := fun T' h => HS.out.step2 HW.out hst (by omega) (by omega) hx (by rw [dep_at hsT, hV]; exact h)
              have HV := Lib.hid hV
              clear hx hV HS
              go_wp2_with fail
              refine wp_region_quiet_below (by kernel_rfl) (by kernel_rfl) ?_
              repeat (quiet_step (exact Calls.regrown_of (most_v _ _ l T _ _ _ (tyAt s) x V HV.out HL.out HXM.out _ (HK1.out _ _) (HK2.out _ _) HL.out HTb.out (by unfold tyAt; simp only; omega))))
              refine wpQuiet_nil ?_
              intro w3 hw'
              have hb2 : Below wr.heap.size wr w3 := by obtain ⟨⟨dq, osq⟩, h⟩ := hw'; subst h; exact below_regrown wr dq osq
              clear hw' y0 y1 s0 HK1 HK2
              have HT3 := Lib.hid (HT.out.below hb2)
              have HR3 := Lib.hid (HRI.out.at_ hb2)
              have HQ3 := Lib.hid (⟨(hb2.cell (p := ⟨wo.heap.size, 0, none⟩) (block_lt_of_cell HQ.out.1)).trans HQ.out.1, (hb2.cell (p := ⟨wo.heap.size, 1, none⟩) (block_lt_of_cell HQ.out.2)).trans HQ.out.2⟩ : w3.cell? ⟨wo.heap.size, 0, none⟩ = some (.int .i64 ((s : Int) / 4)) ∧ w3.cell? ⟨wo.heap.size, 1, none⟩ = some (.int .i64 ((s : Int) % 4)))
              have HB3 := Lib.hid (HB.out.trans (hb2.mono HB.out.size))
              have hc3 : w3.cell? ⟨w.heap.size, s, none⟩ = some (.int .i64 T[s]) := HT3.out.cell_ hst hsT
              clear HT HRI HQ HB hc
              have hfz : w3.frozen? ⟨w.heap.size, s, none⟩ = false := World.ownsRow.frozenAt (show w3.ownsRow w.heap.size 3 1 (.slice (some ⟨w.heap.size, 0, none⟩) (l.length * 4) (l.length * 4)) (l.length * 4) (T.map (Value.int .i64)) from HT3.out) s
              have hbA : w.heap.size < bR := by have := HA1.out bR offR rfl; simp at this; omega
              by_cases hV0 : V = 0
              · have hV1 : ¬ 0 < V := by omega
                have HS' := Lib.hid (HST.out T (.inl ⟨rfl, .inl hV0⟩))
                clear HST
                go_wp2_with fail
                go_roundw
                case rel => exact ⟨j + 1, by omega, by go_num, T, HT3.out, HS'.out, HR3.out, HQ3.out, HB3.out⟩
                case measure => simp [intOf]; omega
              · have hV1 : 0 < V := by omega
                have HR4 : Hid (RInts (w3.setCell ⟨w.heap.size, s, none⟩ (.int .i64 V)) (some ⟨bR, offR, none⟩) (ctR l (tyAt s))) := ⟨HR3.out.1, fun k hk => by
                  obtain ⟨b', o', e, h1, h2⟩ := HR3.out.2 k hk
                  refine ⟨b', o', e, by simpa using h1, ?_⟩
                  cases e
                  exact (cell_far (by simp only; omega)).trans h2⟩
                have HQ4 : Hid ((w3.setCell ⟨w.heap.size, s, none⟩ (.int .i64 V)).cell? ⟨wo.heap.size, 0, none⟩ = some (.int .i64 ((s : Int) / 4)) ∧ (w3.setCell ⟨w.heap.size, s, none⟩ (.int .i64 V)).cell? ⟨wo.heap.size, 1, none⟩ = some (.int .i64 ((s : Int) % 4))) := ⟨(cell_far (by simp only; omega)).trans HQ3.out.1, (cell_far (by simp only; omega)).trans HQ3.out.2⟩
                have HB4 := Lib.hid (HB3.out.setCell (p := ⟨w.heap.size, s, none⟩) (Nat.le_refl _) (.int .i64 V))
                by_cases hz : T[s] = 0
                · have HS' := Lib.hid (HST.out (T.set s V) (.inr ⟨rfl, hV1, .inl hz⟩))
                  have q := ieq_t hz
                  clear HST
                  go_wp2_with fail
                  go_roundw
                  case rel => exact ⟨j + 1, by omega, by go_num, T.set s V, HT3.out.set V, HS'.out, HR4.out, HQ4.out, HB4.out⟩
                  case measure => simp [intOf]; omega
                · have q := ieq_f hz
                  by_cases hlt3 : V < T[s]
                  · have HS' := Lib.hid (HST.out (T.set s V) (.inr ⟨rfl, hV1, .inr hlt3⟩))
                    clear HST
                    go_wp2_with fail
                    go_roundw
                    case rel => exact ⟨j + 1, by omega, by go_num, T.set s V, HT3.out.set V, HS'.out, HR4.out, HQ4.out, HB4.out⟩
                    case measure => simp [intOf]; omega
                  · have HS' := Lib.hid (HST.out T (.inl ⟨rfl, .inr ⟨hz, by omega⟩⟩))
                    clear HST
                    go_wp2_with fail
                    go_roundw
                    case rel => exact ⟨j + 1, by omega, by go_num, T, HT3.out, HS'.out, HR3.out, HQ3.out, HB3.out⟩
                    case measure => simp [intOf]; omega
            · have hje : (ctR l (tyAt s)).length ≤ j := by omega
              have HS' := Lib.hid (hS.place HW.out hst hje (by omega))
              have hjI : ((ctR l (tyAt s)).length : Int) ≤ (j : Int) := by omega
              clear hS hje
              go_wp2_with fail
              go_roundw
              case rel => exact ⟨s + 1, by omega, by go_num, T, hT, HS'.out, hb⟩
              case measure => simp [intOf]; omega
        · have hse : s = l.length * 4 := by omega
          have HS' := Lib.hid (hS.pass hl4 hse)
          have hsI : (l.length : Int) * 4 ≤ (s : Int) := by omega
          clear hS hse
          go_wp2_with fail
          go_roundw
          case rel => exact ⟨n + 1, by omega, by go_num, T, hT, HS'.out, hb⟩
          case measure => simp [intOf]; omega
    · have he : n = l.length * 4 + 1 := by omega
      have HS : Hid (St l T (l.length * 4 + 1) 0 0) := by rw [← he]; exact hS
      have hnI : (l.length : Int) * 4 < (n : Int) := by omega
      clear he hS
      go_wp2_with fail
      go_ret
      exact ⟨T, rfl, hT, HS.out, hb⟩
end Go.Proofs.Ytholdmdkhbhokab
