/-
  The seven worlds that the document's draws begin with: no type of theirs that has values has a least depth above 2. No statement is proved here.
-/
import Derived.Test.YtbeejeialjfdnaaW05
import Derived.Test.YtbeejeialjfdnaaW00
import Derived.Deep.QuietTactic
import Derived.BigQuiet
import Derived.Outline
import Derived.Deep.RegionLawGrows
import Derived.Deep.RegionLaw
import Derived.Laws.AppendOwnNone
namespace Go.Proofs.Ytbeejeialjfdnaa
open Go.RowKit Go.Deep
set_option maxRecDepth 100000
set_option linter.unusedVariables false
/-- One of the seven. -/
def Seven (l : List Da) : Prop := ∃ k, ∃ h : k < texts.length, k < 7 ∧ l = outW texts[k]
def mkB (l : List Da) (S : Ty → Bool) (t : Ty) : Bool := decide (t.data = -1) || (List.range l.length).any fun d => decide (t.data = d) && (l.getD d default).ctors.any fun c => fitsB c.index t.index && (argT c t.index).all S
theorem mkB_iff {l : List Da} {S : Ty → Bool} {P : Ty → Prop} (h : ∀ a, S a = true ↔ P a) (t : Ty) : mkB l S t = true ↔ mkF l P t := by
  unfold mkB mkF
  rw [Bool.or_eq_true, decide_eq_true_eq, List.any_eq_true]
  constructor
  · rintro (h0 | ⟨d, hd, hx⟩)
    · exact .inl h0
    · have hd' := List.mem_range.1 hd
      rw [Bool.and_eq_true, decide_eq_true_eq, List.any_eq_true] at hx
      obtain ⟨h1, c, hc, h2⟩ := hx
      rw [getD_in hd'] at hc
      obtain ⟨m, hm, rfl⟩ := List.getElem_of_mem hc
      rw [Bool.and_eq_true, List.all_eq_true] at h2
      exact .inr ⟨d, hd', m, hm, h1, h2.1, fun a ha => (h a).1 (h2.2 a ha)⟩
  · rintro (h0 | ⟨d, hd, m, hm, h1, h2, h3⟩)
    · exact .inl h0
    · refine .inr ⟨d, List.mem_range.2 hd, ?_⟩
      rw [Bool.and_eq_true, decide_eq_true_eq, List.any_eq_true]
      refine ⟨h1, l[d].ctors[m], by rw [getD_in hd]; exact List.getElem_mem hm, ?_⟩
      rw [Bool.and_eq_true, List.all_eq_true]
      exact ⟨h2, fun a ha => (h a).2 (h3 a ha)⟩
def dkB (l : List Da) : Nat → Ty → Bool
  | 0 => fun _ => false
  | k + 1 => mkB l (dkB l k)
theorem dkB_iff (l : List Da) : ∀ k t, dkB l k t = true ↔ Dk (mkF l) k t
  | 0, t => by unfold dkB Dk; simp
  | k + 1, t => mkB_iff (dkB_iff l k) t
def restB (l : List Da) : Bool := (tysN l.length).all fun t => !dkB l 3 t || dkB l 2 t
theorem texts_rest : ((texts.take 7).all fun s => restB (outW s)) = true := by decide +kernel
theorem Seven.ok {l : List Da} (h : Seven l) : WorldOK l ∧ 0 < l.length ∧ restB l = true := by
  obtain ⟨k, hk, h7, rfl⟩ := h
  obtain ⟨_, hg, h0, _, _⟩ := text_good h7
  refine ⟨hg.2.1, h0, ?_⟩
  have h := texts_rest
  rw [List.all_eq_true] at h
  exact h _ (by rw [List.mem_take_iff_getElem]; exact ⟨k, by rw [texts_len]; omega, rfl⟩)
theorem Seven.dep {l : List Da} (h : Seven l) {t : Ty} (hi : Inh l t) : ldep l t ≤ 2 := by
  obtain ⟨hw, _, hr⟩ := h.ok
  obtain ⟨ht, k, hk⟩ := hi
  unfold restB at hr
  rw [List.all_eq_true] at hr
  have hs : ∀ t ∈ tysN l.length, Dk (mkF l) 3 t → Dk (mkF l) 2 t := fun t ht h3 => by
    have := hr t ht
    rw [(dkB_iff l 3 t).2 h3] at this
    exact (dkB_iff l 2 t).1 (by simpa using this)
  have h2 : Dk (mkF l) 2 t := by
    by_cases h2 : 2 ≤ k
    · exact Dk_rest (mkF_tys hw) hs k h2 t ht hk
    · exact Dk_up_le (by omega) t hk
  exact ldep_le h2
end Go.Proofs.Ytbeejeialjfdnaa
/-
  Rows of the call's own by their kinds alone: what remains true of them when a cell is overwritten by one of its kind. No statement is proved here.
-/
namespace Go.Proofs.Ytbeejeialjfdnaa
open Go.RowKit Go.Deep
set_option linter.unusedVariables false
section
variable {w w' : World} {lo N N' n : Nat} {v : Value}
theorem T33_not31 : ¬ T33 148 := by unfold T33; decide
theorem T31_not28 : ¬ T31 144 := by unfold T31; decide
end
end Go.Proofs.Ytbeejeialjfdnaa
/-
  A world out of its text: the document's function, the walk. No statement is proved here.
-/
namespace Go.Proofs.Ytbeejeialjfdnaa
open Go.RowKit Go.Deep
set_option maxRecDepth 100000
set_option linter.unusedVariables false
theorem OStrs.kept {w w' : World} {lo : Nat} {v u : Value} {L : List ByteArray} (h : OStrs w lo u L) (hg : w.grownBy w' v.ownBlock) (ha : Apart v u) : OStrs w' lo u L := by
  have h' : w.ownsRow lo 9 1 u L.length (L.map Value.string) := h
  exact h'.kept hg ha.ne
theorem OStrs.keepT {w w' : World} {lo : Nat} {T : TypeId → Prop} {u : Value} {L : List ByteArray} (h : OStrs w lo u L) (hk : KeepT lo T w w') (hT : T 9) : OStrs w' lo u L := by
  have h' : w.ownsRow lo 9 1 u L.length (L.map Value.string) := h
  exact row_keep h' hk hT
theorem OStrs.lt {w : World} {lo : Nat} {u : Value} {L : List ByteArray} (h : OStrs w lo u L) : ∀ g, u.ownBlock = some g → lo ≤ g ∧ g < w.heap.size := by
  have h' : w.ownsRow lo 9 1 u L.length (L.map Value.string) := h
  exact h'.lt
theorem OStrs.alloc {w : World} {lo : Nat} {u : Value} {L : List ByteArray} (h : OStrs w lo u L) (o : Obj) : OStrs (w.alloc o) lo u L := by
  have h' : w.ownsRow lo 9 1 u L.length (L.map Value.string) := h
  exact h'.alloc o
/-- What stands between the two loops. -/
def Named (w : World) (s : ByteArray) (wr : World) (v4 v5 v6 : Value) (k : Nat) : Prop :=
  k ≤ (cutB s 59).length ∧ k ≤ 5 ∧ TwoW ((cutB s 59).take k) ∧ OStrs wr w.heap.size v5 (((cutB s 59).take k).map nameW) ∧ OStrs wr w.heap.size v6 (cutB s 59) ∧ Apart v5 v6 ∧ ODas wr w.heap.size v4 [] ∧ Below w.heap.size w wr
theorem two_snoc {H : List ByteArray} {k : Nat} (h : TwoW (H.take k)) (hk : k < H.length) (e : (cutB H[k] 61).length = 2) : TwoW (H.take (k + 1)) := fun j hj => by
  have hj' : j < k + 1 := by simp at hj; omega
  rw [List.getElem_take]
  by_cases ej : j = k
  · subst ej; exact e
  · have := h j (by simp; omega)
    rw [List.getElem_take] at this
    exact this
theorem not_two {s : ByteArray} {k : Nat} (hs : ¬ s.size = 0) (hk : k < (cutB s 59).length) (h4 : k ≤ 4) (e : ¬ (cutB (cutB s 59)[k] 61).length = 2) : ¬ GoodW s := fun hg => by
  have h := hg.1
  unfold headsW at h
  rw [if_neg hs] at h
  have := h k (by simp; omega)
  rw [List.getElem_take] at this
  exact e this
theorem info31 : (Try.prog.info? 148).map (fun i => (i.zero, i.size, i.bytes)) = some (some (.agg #[.string ByteArray.empty, .slice none 0 0, .int .i64 0]), 3, 48) := by kernel_rfl
theorem info28 : (Try.prog.info? 144).map (fun i => (i.zero, i.size, i.bytes)) = some (some (.agg #[.string ByteArray.empty, .slice none 0 0]), 2, 40) := by kernel_rfl
theorem parseCtor_v (A : Option Addr) (l : List ByteArray) (cap : Nat) (s : ByteArray) (c : Ct) (hc : ctP l s = c) (w : World) (hr : RStrs w A l) (hs : s.size ≤ 1048576) :
    Calls Try.prog 137 #[.slice A l.length cap, .string s] w fun e w' => RetCt w w.heap.size e w' c := by
  subst hc; exact parseCtor_any A l cap s w hr hs
theorem parseCtor_n (A : Option Addr) (l : List ByteArray) (n cap : Nat) (hn : l.length = n) (s : ByteArray) (c : Ct) (hc : ctP l s = c) (w : World) (hr : RStrs w A l) (hs : s.size ≤ 1048576) :
    Calls Try.prog 137 #[.slice A n cap, .string s] w fun e w' => RetCt w w.heap.size e w' c := by
  subst hn; exact parseCtor_v A l cap s c hc w hr hs
theorem cell_three_new (w : World) (x y z : Value) (t : TypeId) : ∀ j u, [x, y, z][j]? = some u → (w.alloc (.cells #[x, y, z] t)).cell? ((⟨w.heap.size, 0, none⟩ : Addr).add j) = some u :=
  World.news_of_block (cs := #[x, y, z]) (heap_alloc_new w _)
theorem worldV_yes {A : Option Addr} {l : List Da} {cap : Nat} {w : World} (hr : RDas w w.heap.size A l) (h : WorldOK l) :
    Calls Try.prog 87 #[.slice A l.length cap] w fun e w' => e = .returned (.bool true) ∧ Below w.heap.size w w' := by rw [← dec_t h]; exact worldValid_spec A l cap w hr
theorem worldV_no {A : Option Addr} {l : List Da} {cap : Nat} {w : World} (hr : RDas w w.heap.size A l) (h : ¬ WorldOK l) :
    Calls Try.prog 87 #[.slice A l.length cap] w fun e w' => e = .returned (.bool false) ∧ Below w.heap.size w w' := by rw [← dec_f h]; exact worldValid_spec A l cap w hr
/-- A data type in block b. -/
def Box2 (w : World) (b : Nat) (n : ByteArray) (v : Value) : Prop := w.heap[b]? = some (.cells #[.string n, v] 144 (0, 0))
theorem Box2.c0 {w : World} {b : Nat} {n : ByteArray} {v : Value} (h : Box2 w b n v) : w.cell? ⟨b, 0, none⟩ = some (.string n) := cell_of_blk h 0
theorem Box2.c1 {w : World} {b : Nat} {n : ByteArray} {v : Value} (h : Box2 w b n v) : w.cell? ⟨b, 1, none⟩ = some v := cell_of_blk h 1
theorem Box2.fz {w : World} {b : Nat} {n : ByteArray} {v : Value} (h : Box2 w b n v) (o : Nat) : w.frozen? ⟨b, o, none⟩ = false := free_of_blk h o
theorem Box2.lt {w : World} {b : Nat} {n : ByteArray} {v : Value} (h : Box2 w b n v) : b < w.heap.size := heap_lt h
theorem Box2.set1 {w : World} {b : Nat} {n : ByteArray} {v : Value} (h : Box2 w b n v) (u : Value) : Box2 (w.setCell ⟨b, 1, none⟩ u) b n u := heap_setCell_same w b 1 _ _ u h
theorem Box2.keep {w w' : World} {b : Nat} {n : ByteArray} {v : Value} (h : Box2 w b n v) (hk : w'.heap[b]? = w.heap[b]?) : Box2 w' b n v := hk.trans h
theorem Box2.at_ {w w' : World} {b : Nat} {n : ByteArray} {v : Value} (h : Box2 w b n v) (hb : Below w.heap.size w w') : Box2 w' b n v := h.keep (hb.block b h.lt)
/-- What stands in the second loop. -/
def Made (w : World) (wr : World) (v4 v5 v6 : Value) (L H : List ByteArray) (j : Nat) : Prop :=
  OStrs wr w.heap.size v5 (H.map nameW) ∧ OStrs wr w.heap.size v6 L ∧ ODas wr w.heap.size v4 ((H.take j).map (daW (H.map nameW))) ∧ Below w.heap.size w wr
/-- What stands in the third loop, one data type being made in block b. -/
def Ctored (wr w3 : World) (b : Nat) (n : ByteArray) (v10 : Value) (C N : List ByteArray) (m : Nat) : Prop :=
  ∃ v, Box2 w3 b n v ∧ OCts w3 wr.heap.size v ((C.take m).map (ctP N)) ∧ OStrs w3 wr.heap.size v10 C ∧ Below wr.heap.size wr w3
set_option maxHeartbeats 4000000 in
theorem parseWorld_some (s : ByteArray) (w : World) (hs : s.size ≤ 1048576) (h0 : ¬ s.size = 0) : Calls Try.prog 113 #[.string s] w (RetW w s) := by
  obtain ⟨i9, hi9, hy0, hy1, hy2⟩ := info_parts info9
  obtain ⟨i31, hi31, hx0, hx1, hx2⟩ := info_parts info31
  obtain ⟨i28, hi28, hw0, hw1, hw2⟩ := info_parts info28
  have q0 := notEmpty_of h0
  have q0' := notEmpty_of' h0
  have HNT := Lib.hid (@not_two s · h0)
  have H0 := Lib.hid h0
  clear h0
  have HO0 : Hid (ODas ((w.alloc (.cells #[] 144)).alloc (.cells #[] 9)) w.heap.size (.slice (some ⟨w.heap.size, 0, none⟩) 0 0) []) := (ODas.lit w w.heap.size (Nat.le_refl _)).keepT (KeepT.alloc _ _ _ _)
  have HN0 : Hid (OStrs ((w.alloc (.cells #[] 144)).alloc (.cells #[] 9)) w.heap.size (.slice (some ⟨w.heap.size + 1, 0, none⟩) 0 0) []) := by
    have := OStrs.lit (w.alloc (.cells #[] 144)) w.heap.size (by simp)
    unfold Hid
    simpa using this
  have hb0 : Below w.heap.size w ((w.alloc (.cells #[] 144)).alloc (.cells #[] 9)) := ((Below.refl _ _).alloc (Nat.le_refl _) _).alloc (by simp) _
  have hLs := fun x (hx : x ∈ cutB s 59) => cutB_size hx
  have HLS : Hid (∀ x ∈ cutB s 59, x.size ≤ 1048576) := fun x hx => Nat.le_trans (hLs x hx) hs
  have hLl : (cutB s 59).length ≤ 1048577 := by have := cutB_len s 59; omega
  clear hLs
  go_enter Try.func113, Try.ntmps113
  go_wp2_with fail
  refine (cut_any s 59 _ hs).mono ?_
  rintro e w1 ⟨v6, rfl, ho6, hb1⟩
  have hbw := below_after hb0 hb1 hb0.size
  have HQ : Hid (Named w s w1 (.slice (some ⟨w.heap.size, 0, none⟩) 0 0) (.slice (some ⟨w.heap.size + 1, 0, none⟩) 0 0) v6 0) :=
    ⟨Nat.zero_le _, by omega, fun j hj => by simp at hj, by rw [List.take_zero]; exact HN0.out.at_ hb1, ho6.lower hb0.size, (fun g e1 e2 => by
      have := (ho6.lt g e2).1
      simp [Value.ownBlock] at e1
      simp at this
      omega), HO0.out.keepT (KeepT.below _ _ hb1), hbw⟩
  obtain ⟨A6, cap6, rfl, _⟩ := ho6.form (by unfold maxLen; omega)
  clear HO0 HN0 hb0 hb1 ho6 hbw
  generalize hL : cutB s 59 = L at HLS hLl HQ HNT
  go_wp2_with fail
  go_loopw [5, 7] (fun v i wr => ∃ k : Nat, i = .int .i64 k ∧ Named w s wr (.slice (some ⟨w.heap.size, 0, none⟩) 0 0) v (.slice A6 L.length cap6) k) (fun _ i _ => 5 - (intOf i).toNat)
  case atStart => exact ⟨0, rfl, HQ.out⟩
  case round =>
    clear HQ
    obtain ⟨k, rfl, hq⟩ := hrel
    have HQ := Lib.hid hq
    obtain ⟨hk, hk5, hTw, hoN, hoL, hAp, hoD, hbw⟩ := hq
    rw [hL] at hk hTw hoN hoL
    clear hTw hoN hoL hAp hoD
    by_cases hlt : k < L.length ∧ k ≤ 4
    · obtain ⟨hlt, hk4⟩ := hlt
      have hkI : (k : Int) < (L.length : Int) := by omega
      have hk4I : (k : Int) ≤ 4 := by omega
      obtain ⟨A, cp, e6, hr6⟩ := (by have := HQ.out.2.2.2.2.1; rw [hL] at this; exact this.form (by unfold maxLen; omega) : ∃ A cap, Value.slice A6 L.length cap6 = .slice A L.length cap ∧ RStrs wr A L)
      injection e6 with e6a e6b e6c
      subst e6a e6c
      obtain ⟨b, off, rfl, hbB, c0⟩ := hr6.2 k hlt
      have hLk := HLS.out L[k] (List.getElem_mem hlt)
      clear hr6
      go_wp2_with fail
      refine (cut_any _ 61 _ hLk).mono ?_
      rintro e w2 ⟨v8, rfl, ho8, hb2⟩
      have hbw2 := below_after hbw hb2 hbw.size
      obtain ⟨A8, cap8, rfl, hr8⟩ := ho8.form (by unfold maxLen; have := cutB_len L[k] 61; omega)
      by_cases h2 : (cutB L[k] 61).length = 2
      · have q1 : (((cutB L[k] 61).length : Int) == 2) = true := ieq_t (by omega)
        have q1' : (0 : Int) < ((cutB L[k] 61).length : Int) := by omega
        obtain ⟨b8, off8, rfl, hb8, p0⟩ := hr8.2 0 (by omega)
        rw [Nat.add_zero, ← nameW_at h2] at p0
        have HS1 := Lib.hid (take_map_succ nameW L hlt)
        have HT1 := Lib.hid (fun h => two_snoc h hlt h2)
        have hoN : OStrs w2 w.heap.size u5 ((L.take k).map nameW) := by have := HQ.out.2.2.2.1; rw [hL] at this; exact this.at_ hb2
        have HON := Lib.hid hoN
        have hnl : ((L.take k).map nameW).length ≤ 5 := by simp; omega
        have hz2 := hbw2.size
        clear h2 hr8 ho8 hoN
        generalize hM : (L.take k).map nameW = M at HON hnl HS1
        go_wp2_with (at_builtin; refine wpList_append_lies _ rfl _ _ 146 rfl w.heap.size 9 i9 (.string ByteArray.empty) 1 16 Try.underlying146 hi9 hy0 hy1 hy2 rfl (by decide) u5 M.length (M.map Value.string) rfl (HON.out.alloc _) ⟨w2.heap.size, 0, none⟩ 1 1 [.string (nameW L[k])] rfl rfl ?c1 ?c2 ?c3 ?c4 ?c5 ?c6 w2.heap.size.succ ?c7 ?_)
        case c1 => exact cell_one_one _ _ _
        case c2 => intro u hu; simp at hu; subst hu; rfl
        case c3 => omega
        case c4 => unfold maxLen; omega
        case c5 => omega
        case c6 => simp; omega
        case c7 => simp
        intro gg cap4 w4 hown4 hg4 hat4 hlt4
        have HN4 : Hid (Named w s w4 (.slice (some ⟨w.heap.size, 0, none⟩) 0 0) (.slice (some ⟨gg, 0, none⟩) (M.length + 1) cap4) (.slice (some ⟨b, off, none⟩) L.length cap6) (k + 1)) := by
          obtain ⟨g1, g2, g3, g4, g5, g6, g7, g8⟩ := HQ.out
          rw [hL] at g1 g3 g4 g5
          refine ⟨by rw [hL]; omega, by omega, by rw [hL]; exact HT1.out g3, ?_, ?_, ?_, ?_, ?_⟩
          · rw [hL, HS1.out]; exact OStrs.app hown4
          · rw [hL]; exact ((g5.at_ hb2).alloc _).kept hg4 g6
          · intro g e1 e2
            simp [Value.ownBlock] at e1 e2
            subst e1 e2
            rcases hat4 with h | h
            · exact g6 _ h (by simp [Value.ownBlock])
            · have := hb2.size; omega
          · exact (((g7.keepT (KeepT.below _ _ hb2)).keepT (KeepT.alloc _ _ _ _))).keepT (KeepT.grown (HON.out.alloc _) (by unfold T28; decide) hg4)
          · exact ((hbw2.alloc hbw2.size _).grown hg4 (by have := hbw2.size; simp; omega) (fun g e => (HON.out.lt g e).1))
        clear hown4 hg4 hat4 hlt4 HON HQ HS1 HT1 hb2 hbw2 hM p0 c0
        go_wp2_with fail
        go_roundw
        case rel => exact ⟨k + 1, by go_num, HN4.out⟩
        case measure => simp [intOf]; omega
      · have q1 : (((cutB L[k] 61).length : Int) == 2) = false := ieq_f (by omega)
        have HB := Lib.hid (retW_no (HNT.out k hlt hk4 h2) w2 hbw2)
        clear h2
        go_wp2_with fail
        go_ret2
        exact HB.out
    · have HH : Hid (L.take k = headsW s) := by
        unfold Hid headsW
        rw [if_neg H0.out, hL]
        by_cases h1 : k < L.length
        · have : k = 5 := by omega
          rw [this]
        · rw [List.take_of_length_le (by omega), List.take_of_length_le (by omega)]
      have HE : Hid (¬ ((k : Int) < (L.length : Int) ∧ (k : Int) ≤ 4)) := fun h => hlt ⟨by omega, by omega⟩
      have hHl : (headsW s).length ≤ 5 ∧ (headsW s).length ≤ L.length := by rw [← HH.out]; simp; omega
      have HHg : Hid (∀ j (h : j < (headsW s).length) (h' : j < L.length), (headsW s)[j] = L[j]) := fun j h h' => by
        have : ∀ (X : List ByteArray) (e : L.take k = X) (hx : j < X.length), X[j] = L[j] := fun X e hx => by subst e; exact List.getElem_take
        exact this _ HH.out h
      have HTW : Hid (TwoW (headsW s)) := by have := HQ.out.2.2.1; rw [hL, HH.out] at this; exact this
      have HM : Hid (Made w wr (.slice (some ⟨w.heap.size, 0, none⟩) 0 0) u5 (.slice A6 L.length cap6) L (headsW s) 0) := by
        obtain ⟨g1, g2, g3, g4, g5, g6, g7, g8⟩ := HQ.out
        rw [hL] at g4 g5
        rw [HH.out] at g4
        exact ⟨g4, g5, by rw [List.take_zero]; exact g7, g8⟩
      obtain ⟨A5, cap5, e5, _⟩ := HM.out.1.form (by simp; unfold maxLen; omega)
      have HW : Hid (outW s = outL (headsW s)) := rfl
      generalize hHH : headsW s = H at hHl HHg HTW HM HW e5
      have HHH := Lib.hid hHH
      have hNl : (H.map nameW).length = H.length := List.length_map _
      rw [hNl] at e5
      subst e5
      clear hHH HQ HH hL HNT hk
      obtain ⟨w0, rfl⟩ : ∃ wo : World, wo = wr := ⟨_, rfl⟩
      go_wp2_with fail
      all_goals
        go_loopw [4, 9] (fun v i wr => ∃ j : Nat, j ≤ H.length ∧ i = .int .i64 j ∧ Made w wr v (.slice A5 H.length cap5) (.slice A6 L.length cap6) L H j) (fun _ i _ => H.length - (intOf i).toNat)
        case atStart => exact ⟨0, by omega, rfl, HM.out⟩
        case round =>
          clear HM
          obtain ⟨j, hj, rfl, hm⟩ := hrel
          have HM := Lib.hid hm
          clear hm
          by_cases hjl : j < H.length
          · have hjI : (j : Int) < (H.length : Int) := by omega
            have hjL : (j : Int) < (L.length : Int) := by omega
            have hjL' : j < L.length := by omega
            have h2 : (cutB L[j] 61).length = 2 := by rw [← HHg.out j hjl hjL']; exact HTW.out j hjl
            have HBD := Lib.hid (bodyW_at h2)
            have hgl := HHg.out j hjl hjL'
            have hNj : (H.map nameW)[j]'(by rw [hNl]; exact hjl) = nameW L[j] := by rw [List.getElem_map, hgl]
            obtain ⟨A, cp, e6, hr6⟩ := HM.out.2.1.form (by unfold maxLen; omega)
            injection e6 with e6a e6b e6c
            subst e6a e6c
            obtain ⟨b, off, rfl, hbB, c0⟩ := hr6.2 j hjL'
            obtain ⟨A', cp', e5, hr5⟩ := HM.out.1.form (by rw [hNl]; unfold maxLen; omega)
            injection e5 with e5a e5b e5c
            subst e5a e5c
            obtain ⟨b5, off5, rfl, hbB5, d0⟩ := hr5.2 j (by rw [hNl]; exact hjl)
            rw [hNj] at d0
            have hbw := HM.out.2.2.2
            have hLk := HLS.out L[j] (List.getElem_mem hjL')
            have hbs : (bodyW L[j]).size ≤ 1048576 := Nat.le_trans (cutB_get_size _ _ _) hLk
            have hns : (nameW L[j]).size ≤ 1048576 := Nat.le_trans (cutB_get_size _ _ _) hLk
            have HR5 := Lib.hid hr5
            clear hr6 hr5 e5b e6b hgl hNj
            go_wp2_with fail
            refine (cut_any _ 61 _ hLk).mono ?_
            rintro e w2 ⟨v8, rfl, ho8, hb2⟩
            obtain ⟨A8, cap8, rfl, hr8⟩ := ho8.form (by unfold maxLen; omega)
            have q1' : (1 : Int) < ((cutB L[j] 61).length : Int) := by omega
            obtain ⟨b8, off8, rfl, hb8, p0⟩ := hr8.2 1 (by omega)
            rw [← bodyW_at h2] at p0
            clear hr8 ho8 HBD h2
            go_wp2_with fail
            refine (cut_any _ 124 _ hbs).mono ?_
            rintro e w3 ⟨v10, rfl, ho10, hb3⟩
            have hb3' := below_after hb2 hb3 hb2.size
            obtain ⟨A10, cap10, rfl, _⟩ := ho10.form (by unfold maxLen; have := cutB_len (bodyW L[j]) 124; omega)
            have d1 : w3.cell? ⟨b5, off5 + j, none⟩ = some (.string (nameW L[j])) := (hb3'.cell (p := ⟨b5, off5 + j, none⟩) hbB5).trans d0
            have hCl : (cutB (bodyW L[j]) 124).length ≤ 1048577 := by have := cutB_len (bodyW L[j]) 124; omega
            have HCS : Hid (∀ x ∈ cutB (bodyW L[j]) 124, x.size ≤ 1048576) := fun x hx => Nat.le_trans (cutB_size hx) hbs
            have HC0 : Hid (Ctored wr (w3.alloc (.cells #[.string (nameW L[j]), .slice none 0 0] 144)) w3.heap.size (nameW L[j]) (.slice A10 (cutB (bodyW L[j]) 124).length cap10) (cutB (bodyW L[j]) 124) (H.map nameW) 0) :=
              ⟨.slice none 0 0, heap_alloc_new w3 _, by rw [List.take_zero]; exact OCts.nil _ _, (ho10.lower hb2.size).alloc _, hb3'.alloc hb3'.size _⟩
            have HDA : Hid (daW (H.map nameW) L[j] = ⟨nameW L[j], ((cutB (bodyW L[j]) 124).take 5).map (ctP (H.map nameW))⟩) := rfl
            have hz3 := hb3'.size
            clear hb2 hb3 ho10 p0 c0 d0
            generalize hC : cutB (bodyW L[j]) 124 = C at hCl HCS HC0 HDA
            clear hC
            generalize hnm : nameW L[j] = nm at hns d1 HC0 HDA
            go_wp2_with fail
            obtain ⟨wo, rfl⟩ : ∃ wo : World, wo = wr := ⟨_, rfl⟩
            go_loopw [12] (fun i w4 => ∃ m : Nat, m ≤ C.length ∧ m ≤ 5 ∧ i = .int .i64 m ∧ Ctored wo w4 w3.heap.size nm (.slice A10 C.length cap10) C (H.map nameW) m) (fun i _ => 5 - (intOf i).toNat)
            case atStart => exact ⟨0, by omega, by omega, rfl, HC0.out⟩
            case round =>
              clear HC0
              obtain ⟨m, hm, hm5, rfl, hct⟩ := hrel
              obtain ⟨v, hbx, hoc, hos, hbr⟩ := hct
              have HBX := Lib.hid hbx
              have HOC := Lib.hid hoc
              have HOS := Lib.hid hos
              have HBR := Lib.hid hbr
              have hbz := hbx.lt
              clear hbx hoc hos hbr
              by_cases hlt1 : m < C.length ∧ m ≤ 4
              · obtain ⟨hm1, hm4⟩ := hlt1
                have hmI : (m : Int) < (C.length : Int) := by omega
                have hm4I : (m : Int) ≤ 4 := by omega
                obtain ⟨A, cp, e8, hr8⟩ := HOS.out.form (by unfold maxLen; omega)
                injection e8 with e8a e8b e8c
                subst e8a e8c
                obtain ⟨b7, off7, rfl, hbB7, g0⟩ := hr8.2 m hm1
                have hCm := HCS.out C[m] (List.getElem_mem hm1)
                have HTK := Lib.hid (take_map_succ (ctP (H.map nameW)) C hm1)
                have hsm := ctP_small (H.map nameW) C[m]
                generalize hT : ctP (H.map nameW) C[m] = T at HTK hsm
                have HT := Lib.hid hT
                have hLk5 : ((C.take m).map (ctP (H.map nameW))).length ≤ 5 := by simp; omega
                have hLke : ((C.take m).map (ctP (H.map nameW))).length = m := by simp; omega
                generalize (C.take m).map (ctP (H.map nameW)) = M at HTK HOC hLk5 hLke
                have HLE := Lib.hid hLke
                obtain ⟨xs, ho, hx⟩ := HOC.out
                have HO := Lib.hid ho
                have HX := Lib.hid hx
                have hLm : M.length + 1 ≤ maxLen := by unfold maxLen; omega
                have hLb : (M.length + 1) * 48 ≤ 140737488355328 := by omega
                have c1 := HBX.out.c1
                have HRl : Hid (RStrs wr (some ⟨b5, off5, none⟩) (H.map nameW)) := HR5.out.at_ (HBR.out.mono (Nat.le_refl _))
                clear hT ho hx hr8 HOC
                have HNL := Lib.hid hNl
                go_wp2_with fail
                go_region_law (first | (refine step_append_lies _ (by rfl) _ _ _ (by rfl) wo.heap.size 148 i31 _ 3 48 Try.underlying142 hi31 hx0 hx1 hx2 rfl (by omega) v M.length xs (by rfl) (HO5.out.alloc _) ⟨w5.heap.size, 0, none⟩ 1 1 [.string T.name, .slice AT T.args.length cT, .int .i64 T.index] (by rfl) (by rfl) (cell_three_new _ _ _ _ _) (by simp [Value.oneCell']) (by omega) hLm hLb (by simp; omega) (w5.heap.size + 1) (by simp) ?_; intro gg cap6 w6 hown6 hgrow6 hat6 hlt6; have HBX6 : Hid (Box2 w6 w3.heap.size nm v) := HBX5.out.keep ((hgrow6.block w3.heap.size (by simp; omega) (own_ne HO5.out HBX5.out (by decide))).trans (Below.heap_alloc _ _ _ (by omega))); have c6 := HBX6.out.c1; have f6 := HBX6.out.fz 1) | (go_simp; go_at_call 137; refine (parseCtor_n _ (H.map nameW) _ _ HNL.out _ T HT.out _ (HRl.out.at_ ((Below.refl _ _).drew)) hCm).mono ?_; rintro e w5 ⟨vT, rfl, hoT, hb5⟩; have hb5' : Below wr.heap.size wr w5 := ⟨hb5.os, hb5.tape, hb5.output, hb5.size, hb5.block⟩; have HO5 := Lib.hid (own_below HO.out hb5'); have HBX5 := Lib.hid (HBX.out.at_ hb5'); have hs5 := hb5'.size; have c5 := HBX5.out.c1; have c5a : ∀ o, (w5.alloc o).cell? ⟨w3.heap.size, 1, none⟩ = some v := fun o => (World.cell?_alloc_lt _ _ _ HBX5.out.lt).trans c5; have HOT := Lib.hid hoT; obtain ⟨AT, cT, rfl, _⟩ := hoT.form (by unfold maxLen; omega); clear hoT))
                all_goals
                  have hown7 : w6.ownsRow wo.heap.size 148 3 (.slice (some ⟨gg, 0, none⟩) (m + 1) cap6) (M.length + 1) (xs ++ [.string T.name, .slice AT T.args.length cT, .int .i64 T.index]) := by
                    have := hown6; rw [HLE.out] at this ⊢; exact this
                  have HC7 : Hid (Ctored wo (w6.setCell ⟨w3.heap.size, 1, none⟩ (.slice (some ⟨gg, 0, none⟩) (m + 1) cap6)) w3.heap.size nm (.slice (some ⟨b7, off7, none⟩) C.length cap10) C (H.map nameW) (m + 1)) := by
                    have hk1 : KeepT wo.heap.size T31 w6 (w6.setCell ⟨w3.heap.size, 1, none⟩ (.slice (some ⟨gg, 0, none⟩) (m + 1) cap6)) := KeepT.set HBX6.out T31_not28 _ _
                    have hk2 : KeepT wo.heap.size (fun t => t = 9) w6 (w6.setCell ⟨w3.heap.size, 1, none⟩ (.slice (some ⟨gg, 0, none⟩) (m + 1) cap6)) := KeepT.set HBX6.out (by decide) _ _
                    have hk3 : KeepT wo.heap.size (fun t => t = 9 ∨ t = 25) wr w6 := ((KeepT.below _ _ hb5').trans (KeepT.alloc _ _ _ _)).trans (KeepT.grown (HO5.out.alloc _) (by decide) hgrow6)
                    have hk4 : KeepT wo.heap.size T33 w5 w6 := (KeepT.alloc _ _ _ _).trans (KeepT.grown (HO5.out.alloc _) T33_not31 hgrow6)
                    refine ⟨_, HBX6.out.set1 _, ?_, ?_, ?_⟩
                    · rw [HTK.out]
                      exact (OCts.app (HX.out.keepT (hk3.less fun _ e => .inr e)) HO.out.1 (by unfold maxLen; omega) (by unfold maxLen; omega) ((HOT.out.lower (show wo.heap.size ≤ wr.drew.heap.size from HBR.out.size)).keepT hk4) hown7).keepT hk1
                    · exact (HOS.out.keepT hk3 (.inl rfl)).keepT hk2 rfl
                    · exact (((below_after HBR.out hb5' HBR.out.size).alloc (by have := HBR.out.size; omega) _).grown hgrow6 (by have := HBR.out.size; simp; omega) (fun g' e => by have := (HO5.out.lt g' e).1; omega)).setCell (by have := hz3; simp; omega) _
                  clear hown6 hown7 hgrow6 hat6 hlt6 hb5 hb5' HBX5 HO5 hs5 c5 c5a HBX6 c6 f6 HBX HOS HO HX HT HTK c1 g0 HOT HBR HRl
                  go_wp2_with fail
                  go_roundw
                  case rel => exact ⟨m + 1, by omega, by omega, by go_num, HC7.out⟩
                  case measure => simp [intOf]; omega
              · have hTk : C.take m = C.take 5 := by
                  by_cases h1 : m < C.length
                  · have : m = 5 := by omega
                    rw [this]
                  · rw [List.take_of_length_le (by omega), List.take_of_length_le (by omega)]
                have HXC : Hid (¬ ((m : Int) < (C.length : Int) ∧ (m : Int) ≤ 4)) := fun h => hlt1 ⟨by omega, by omega⟩
                rw [hTk] at HOC
                have hMl : ((C.take 5).map (ctP (H.map nameW))).length ≤ 5 := by simp; omega
                obtain ⟨A9, cap9, rfl, _⟩ := HOC.out.form (by unfold maxLen; omega)
                have HTK := Lib.hid (take_map_succ (daW (H.map nameW)) H hjl)
                rw [HHg.out j hjl hjL', HDA.out] at HTK
                have hD4 : ODas wr w.heap.size u4 ((H.take j).map (daW (H.map nameW))) := HM.out.2.2.1.keepT (KeepT.below _ _ (HBR.out.mono (Nat.le_refl _)))
                have HDl : ((H.take j).map (daW (H.map nameW))).length ≤ 5 := by simp; omega
                have HB0 := HM.out.2.2.2
                have hzo := HB0.size
                have hzr := HBR.out.size
                generalize hM : (C.take 5).map (ctP (H.map nameW)) = M at HOC hMl HTK HDA HBX
                generalize hDD : (H.take j).map (daW (H.map nameW)) = DD at HTK hD4 HDl
                obtain ⟨xs, ho, hx⟩ := hD4
                have HO := Lib.hid ho
                have HX := Lib.hid hx
                have HL1 : DD.length + 1 ≤ maxLen := by unfold maxLen; omega
                have c0 := HBX.out.c0
                have c1 := HBX.out.c1
                clear hTk hlt1 hM hDD ho hx HCS
                by_cases hm1 : m < C.length
                all_goals
                  first
                    | (have hmI : (m : Int) < (C.length : Int) := by omega
                       have hm4I : (4 : Int) < (m : Int) := by have := HXC.out; omega)
                    | (have hmI : (C.length : Int) ≤ (m : Int) := by omega)
                  go_wp2_with (at_builtin; refine wpList_append_lies _ rfl _ _ 23 rfl w.heap.size 144 i28 _ 2 40 Try.underlying23 hi28 hw0 hw1 hw2 rfl (by decide) u4 DD.length xs rfl (HO.out.alloc _) ⟨wr.heap.size, 0, none⟩ 1 1 [.string nm, .slice A9 M.length cap9] rfl rfl (cell_two_new _ _ _ _) (by simp [Value.oneCell']) (by omega) HL1 (by omega) (by simp; omega) wr.heap.size.succ (by simp) ?_)
                  intro gg capE w6 hown6 hg6 hat6 hlt6
                  have HM6 : Hid (Made w w6 (.slice (some ⟨gg, 0, none⟩) (DD.length + 1) capE) (.slice (some ⟨b5, off5, none⟩) H.length cap5) (.slice (some ⟨b, off, none⟩) L.length cap6) L H (j + 1)) := by
                    have hk1 : KeepT w.heap.size (fun t => t = 9 ∨ t = 148 ∨ t = 25) wr w6 := (KeepT.alloc _ _ _ _).trans (KeepT.grown (HO.out.alloc _) (by decide) hg6)
                    have hk2 : KeepT w.heap.size (fun t => t = 9 ∨ t = 148 ∨ t = 25) wo wr := KeepT.below _ _ (HBR.out.mono (Nat.le_refl _))
                    refine ⟨(HM.out.1.keepT hk2 (.inl rfl)).keepT hk1 (.inl rfl), (HM.out.2.1.keepT hk2 (.inl rfl)).keepT hk1 (.inl rfl), ?_, ?_⟩
                    · rw [HTK.out]
                      exact ODas.app (HX.out.keepT (hk1.less fun t e => e.elim (fun e => .inr (.inr e)) (fun e => .inr (.inl e)))) HO.out.1 (by simp only; unfold maxLen; omega) (by simp only; unfold maxLen; omega) ((HOC.out.lower hzo).keepT (hk1.less fun t e => e.elim (fun e => .inr (.inr e)) (fun e => .inr (.inl e)))) hown6
                    · exact ((HB0.trans (HBR.out.mono hzo)).alloc (by omega) _).grown hg6 (by simp; omega) (fun g e => (HO.out.lt g e).1)
                  clear hown6 hg6 hat6 hlt6 HO HX HOC HOS HM HBX HBR HB0 c0 c1
                  go_wp2_with fail
                  go_roundw
                  case rel => exact ⟨j + 1, by omega, by go_num, HM6.out⟩
                  case measure => simp [intOf]; omega
          · have hje : j = H.length := by omega
            have hjI : (H.length : Int) ≤ (j : Int) := by omega
            have HOUT : Hid (ODas wr w.heap.size u4 (outW s)) := by
              have := HM.out.2.2.1
              rw [hje, List.take_length] at this
              unfold Hid
              rw [HW.out]
              exact this
            have HGW : Hid (WorldOK (outW s) → wT (outW s) = s → GoodW s) := fun h1 h2 => ⟨by rw [HHH.out]; exact HTW.out, h1, h2⟩
            have hbw := HM.out.2.2.2
            have hol : (outW s).length ≤ 5 := by rw [HW.out]; unfold outL; simp; omega
            obtain ⟨A4, cap4, rfl, hrd⟩ := HOUT.out.form (by unfold maxLen; omega)
            have HRD := Lib.hid hrd
            clear hrd HM HW HTW hje
            generalize hO : outW s = O at HOUT HGW hol HRD
            have HOE := Lib.hid hO
            by_cases hwo : WorldOK O
            · have HY : Hid (∀ w' : World, RDas w' w'.heap.size A4 O → Calls Try.prog 87 #[.slice A4 O.length cap4] w' fun e w'' => e = .returned (.bool true) ∧ Below w'.heap.size w' w'') := fun w' h => worldV_yes h hwo
              have HWO := Lib.hid hwo
              by_cases he : wT O = s
              · have q := s_eq_t he
                have HGD := Lib.hid (HGW.out hwo he)
                clear hwo he hO
                go_wp2_with fail
                refine (HY.out _ HRD.out).mono ?_
                rintro e w2 ⟨rfl, hb2⟩
                have HRD2 : Hid (RDas w2 w2.heap.size A4 O) := HRD.out.keep (fun p hp => hb2.cell hp) hb2.size
                have hbw2 := below_after hbw hb2 hbw.size
                go_wp2_with fail
                refine (text_any _ _ _ _ HRD2.out HWO.out).mono ?_
                rintro e w3 ⟨rfl, hb3⟩
                have HF := Lib.hid (retW_yes HGD.out (.slice A4 O.length cap4) w3 (by rw [HOE.out]; exact HOUT.out.keepT ((KeepT.below _ _ hb2).trans (KeepT.below _ _ hb3))) (below_after hbw2 hb3 hbw2.size))
                go_wp2_with fail
                go_ret2
                exact HF.out
              · have q := s_eq_f he
                have HGD : Hid (¬ GoodW s) := fun h => he (by have := h.2.2; rw [hO] at this; exact this)
                clear hwo he hO
                go_wp2_with fail
                refine (HY.out _ HRD.out).mono ?_
                rintro e w2 ⟨rfl, hb2⟩
                have HRD2 : Hid (RDas w2 w2.heap.size A4 O) := HRD.out.keep (fun p hp => hb2.cell hp) hb2.size
                have hbw2 := below_after hbw hb2 hbw.size
                go_wp2_with fail
                refine (text_any _ _ _ _ HRD2.out HWO.out).mono ?_
                rintro e w3 ⟨rfl, hb3⟩
                have HF := Lib.hid (retW_no HGD.out w3 (below_after hbw2 hb3 hbw2.size))
                go_wp2_with fail
                go_ret2
                exact HF.out
            · have HGD : Hid (¬ GoodW s) := fun h => hwo (by have := h.2.1; rw [hO] at this; exact this)
              have HY : Hid (∀ w' : World, RDas w' w'.heap.size A4 O → Calls Try.prog 87 #[.slice A4 O.length cap4] w' fun e w'' => e = .returned (.bool false) ∧ Below w'.heap.size w' w'') := fun w' h => worldV_no h hwo
              clear hwo hO
              go_wp2_with fail
              refine (HY.out _ HRD.out).mono ?_
              rintro e w2 ⟨rfl, hb2⟩
              have HF := Lib.hid (retW_no HGD.out w2 (below_after hbw hb2 hbw.size))
              go_wp2_with fail
              go_ret2
              exact HF.out
end Go.Proofs.Ytbeejeialjfdnaa
/-
  A source of numbers: the document's reader of bytes. No statement is proved here.
-/
namespace Go.Proofs.Ytbeejeialjfdnaa
open Go.RowKit Go.Deep
set_option maxRecDepth 100000
set_option linter.unusedVariables false
/-- Bytes that read below block B. -/
def RBy (w : World) (B : Nat) (A : Option Addr) (m : Nat) : Prop := ∀ k, k < m → ∃ b off x, A = some ⟨b, off, none⟩ ∧ b < B ∧ w.cell? ⟨b, off + k, none⟩ = some (.int .u8 x) ∧ 0 ≤ x ∧ x ≤ 255
/-- The source in block rb, of which at most N numbers were drawn. -/
def RRd (w : World) (B rb N : Nat) : Prop := ∃ A m cap, ∃ p : Nat, w.heap[rb]? = some (.cells #[.slice A m cap, .int .i64 p] 137 (0, 0)) ∧ p ≤ N ∧ m ≤ 2000 ∧ B ≤ rb ∧ RBy w B A m
theorem RBy.below {w w' : World} {B : Nat} {A : Option Addr} {m : Nat} (h : RBy w B A m) (hb : Below B w w') : RBy w' B A m := fun k hk => by
  obtain ⟨b, off, x, e, hB, hc, hx⟩ := h k hk
  exact ⟨b, off, x, e, hB, (hb.cell (p := ⟨b, off + k, none⟩) hB).trans hc, hx⟩
theorem RRd.more {w : World} {B rb N N' : Nat} (h : RRd w B rb N) (hN : N ≤ N') : RRd w B rb N' := by
  obtain ⟨A, m, cap, p, h1, h2, h3, h4, h5⟩ := h
  exact ⟨A, m, cap, p, h1, by omega, h3, h4, h5⟩
theorem RRd.below {w w' : World} {B rb N : Nat} (h : RRd w B rb N) (hb : Below w.heap.size w w') : RRd w' B rb N := by
  obtain ⟨A, m, cap, p, h1, h2, h3, h4, h5⟩ := h
  exact ⟨A, m, cap, p, (hb.block rb (heap_lt h1)).trans h1, h2, h3, h4, h5.below (hb.mono (by have := heap_lt h1; omega))⟩
theorem RRd.lt {w : World} {B rb N : Nat} (h : RRd w B rb N) : rb < w.heap.size := by
  obtain ⟨A, m, cap, p, h1, _⟩ := h
  exact heap_lt h1
theorem RRd.ge {w : World} {B rb N : Nat} (h : RRd w B rb N) : B ≤ rb := by
  obtain ⟨A, m, cap, p, _, _, _, h4, _⟩ := h
  exact h4
/-- A number below n was drawn. -/
def Picked (w : World) (B rb N : Nat) (n : Int) (e : Ending) (w' : World) : Prop := ∃ k : Nat, e = .returned (.int .i64 k) ∧ (k = 0 ∨ (k : Int) < n) ∧ RRd w' B rb (N + 1) ∧ w.grownBy w' (some rb)
theorem picked_of {w : World} {B rb N p : Nat} {n k : Int} {A : Option Addr} {m cap : Nat} (h1 : w.heap[rb]? = some (.cells #[.slice A m cap, .int .i64 p] 137 (0, 0))) (hp : p ≤ N) (hm : m ≤ 2000) (hB : B ≤ rb) (hr : RBy w B A m) (hk : 0 ≤ k) (hn : k = 0 ∨ k < n) :
    Picked w B rb N n (.returned (.int .i64 k)) (w.setCell ⟨rb, 1, none⟩ (.int .i64 ((p : Int) + 1))) := by
  obtain ⟨k, rfl⟩ : ∃ q : Nat, k = q := ⟨k.toNat, by omega⟩
  refine ⟨k, rfl, by omega, ⟨A, m, cap, p + 1, ?_, by omega, hm, hB, ?_⟩, ?_⟩
  · rw [heap_setCell_same w rb 1 _ _ _ h1]; simp
  · exact hr.below (((Below.refl _ _).setCell (p := ⟨rb, 1, none⟩) hB _))
  · refine ⟨rfl, rfl, rfl, by simp [World.setCell], fun b hb hne => Below.heap_setCell _ _ _ _ (fun e => hne (by rw [e]))⟩
theorem Picked.drewN {w w' : World} {B rb N : Nat} {n : Int} {e : Ending} (h : Picked w B rb N n e w') (k : Nat) : Picked w B rb N n e (w'.drewN k) := by
  obtain ⟨q, h1, h2, ⟨A, m, cap, p, h3, h4, h5, h6, h7⟩, h8⟩ := h
  exact ⟨q, h1, h2, ⟨A, m, cap, p, h3, h4, h5, h6, h7⟩, h8.os, h8.tape, h8.output, h8.size, h8.block⟩
set_option maxHeartbeats 1600000 in
theorem pick_low (rb B N : Nat) (n : Int) (A : Option Addr) (m cap p : Nat) (w : World) (h1 : w.heap[rb]? = some (.cells #[.slice A m cap, .int .i64 p] 137 (0, 0))) (hp : p ≤ N) (hN : N ≤ 10000000) (hm : m ≤ 2000) (hB : B ≤ rb) (hr : RBy w B A m) (hn : n < 1) :
    Calls Try.prog 42 #[.pointer (some ⟨rb, 0, none⟩), .int .i64 n] w (Picked w B rb N n) := by
  have c0 : w.cell? ⟨rb, 0, none⟩ = some (.slice A m cap) := cell_of_blk h1 0
  have c1 : w.cell? ⟨rb, 1, none⟩ = some (.int .i64 p) := cell_of_blk h1 1
  have fz := free_of_blk h1
  have hpI : (p : Int) ≤ 10000000 := by omega
  have hp0 : (0 : Int) ≤ (p : Int) := by omega
  have HP := Lib.hid (picked_of (n := n) (k := 0) h1 hp hm hB hr (by omega) (.inl rfl))
  clear h1 hr
  go_enter Try.func42, Try.ntmps42
  go_wp2_with fail
  go_ret
  exact HP.out
set_option maxHeartbeats 1600000 in
theorem pick_none (rb B N : Nat) (n : Int) (A : Option Addr) (cap p : Nat) (w : World) (h1 : w.heap[rb]? = some (.cells #[.slice A 0 cap, .int .i64 p] 137 (0, 0))) (hp : p ≤ N) (hN : N ≤ 10000000) (hB : B ≤ rb) (hr : RBy w B A 0) (hn : 1 ≤ n) :
    Calls Try.prog 42 #[.pointer (some ⟨rb, 0, none⟩), .int .i64 n] w (Picked w B rb N n) := by
  have c0 : w.cell? ⟨rb, 0, none⟩ = some (.slice A 0 cap) := cell_of_blk h1 0
  have c1 : w.cell? ⟨rb, 1, none⟩ = some (.int .i64 p) := cell_of_blk h1 1
  have fz := free_of_blk h1
  have hpI : (p : Int) ≤ 10000000 := by omega
  have hp0 : (0 : Int) ≤ (p : Int) := by omega
  have HP := Lib.hid (picked_of (n := n) (k := 0) h1 hp (by omega) hB hr (by omega) (.inl rfl))
  clear h1 hr
  go_enter Try.func42, Try.ntmps42
  go_wp2_with fail
  go_ret
  exact HP.out
set_option maxHeartbeats 1600000 in
theorem pick_in (rb B N : Nat) (n : Int) (A : Option Addr) (m cap p : Nat) (w : World) (h1 : w.heap[rb]? = some (.cells #[.slice A m cap, .int .i64 p] 137 (0, 0))) (hp : p ≤ N) (hN : N ≤ 10000000) (hm : m ≤ 2000) (hB : B ≤ rb) (hr : RBy w B A m) (hn : 1 ≤ n) (hlt : p < m) :
    Calls Try.prog 42 #[.pointer (some ⟨rb, 0, none⟩), .int .i64 n] w (Picked w B rb N n) := by
  have c0 : w.cell? ⟨rb, 0, none⟩ = some (.slice A m cap) := cell_of_blk h1 0
  have c1 : w.cell? ⟨rb, 1, none⟩ = some (.int .i64 p) := cell_of_blk h1 1
  have fz := free_of_blk h1
  obtain ⟨b, off, x, rfl, hbB, cx, hx0, hx1⟩ := hr p hlt
  have hpI : (p : Int) ≤ 10000000 := by omega
  have hp0 : (0 : Int) ≤ (p : Int) := by omega
  have hltI : (p : Int) < (m : Int) := by omega
  have q : ((m : Int) == 0) = false := ieq_f (by omega)
  have q2 : (n == 0) = false := ieq_f (by omega)
  have hne : ¬ b = rb := by omega
  have HP := Lib.hid (picked_of (n := n) (k := x % n) h1 hp (by omega) hB hr (Int.emod_nonneg _ (by omega)) (.inr (Int.emod_lt_of_pos _ (by omega))))
  clear h1 hr
  go_enter Try.func42, Try.ntmps42
  go_wp2_with fail
  go_ret
  exact HP.out
theorem xor_any (X : Nat) (hX : X < 4294967296) : ∃ Z : Nat, bits .xor .i64 (X : Int) ((X : Int) / 64) = (Z : Int) := by
  refine ⟨X ^^^ X / 64, ?_⟩
  have d : ((X : Int) / 64) = ((X / 64 : Nat) : Int) := by omega
  rw [d]
  have hY : X / 64 < 4294967296 := by omega
  have hz : X ^^^ X / 64 < 2 ^ 32 := Nat.xor_lt_two_pow (by omega) (by omega)
  have h1 : (BitVec.ofInt 64 (X : Int)).toNat = X := by rw [BitVec.ofInt_natCast, BitVec.toNat_ofNat]; exact Nat.mod_eq_of_lt (by omega)
  have h2 : (BitVec.ofInt 64 ((X / 64 : Nat) : Int)).toNat = X / 64 := by rw [BitVec.ofInt_natCast, BitVec.toNat_ofNat]; exact Nat.mod_eq_of_lt (by omega)
  show IntKind.i64.wrap ((BitVec.ofInt 64 (X : Int) ^^^ BitVec.ofInt 64 ((X / 64 : Nat) : Int)).toNat : Int) = _
  rw [BitVec.toNat_xor, h1, h2]
  exact IntWalk.i64_in _ (by omega)
set_option maxHeartbeats 1600000 in
theorem pick_out (rb B N : Nat) (n : Int) (A : Option Addr) (m cap p : Nat) (w : World) (h1 : w.heap[rb]? = some (.cells #[.slice A m cap, .int .i64 p] 137 (0, 0))) (hp : p ≤ N) (hN : N ≤ 10000000) (hm : m ≤ 2000) (hB : B ≤ rb) (hr : RBy w B A m) (hn : 1 ≤ n) (hm0 : 1 ≤ m) (hlt : m ≤ p) :
    Calls Try.prog 42 #[.pointer (some ⟨rb, 0, none⟩), .int .i64 n] w (Picked w B rb N n) := by
  have c0 : w.cell? ⟨rb, 0, none⟩ = some (.slice A m cap) := cell_of_blk h1 0
  have c1 : w.cell? ⟨rb, 1, none⟩ = some (.int .i64 p) := cell_of_blk h1 1
  have fz := free_of_blk h1
  have hpI : (p : Int) ≤ 10000000 := by omega
  have hp0 : (0 : Int) ≤ (p : Int) := by omega
  have hm0I : (1 : Int) ≤ (m : Int) := by omega
  have hmI : (m : Int) ≤ 2000 := by omega
  have hltI : (m : Int) ≤ (p : Int) := by omega
  have hK1 := Nat.mod_lt p (show 0 < m by omega)
  have hK2 := Nat.mod_lt (p * 7 + 3) (show 0 < m by omega)
  have hQ := Nat.div_le_self p m
  have t1 : (p : Int).tmod m = ((p % m : Nat) : Int) := rfl
  have t2 : ((p : Int) * 7 + 3).tmod m = (((p * 7 + 3) % m : Nat) : Int) := by
    have : ((p : Int) * 7 + 3) = ((p * 7 + 3 : Nat) : Int) := by omega
    rw [this]; rfl
  have t3 : (p : Int) / (m : Int) = ((p / m : Nat) : Int) := rfl
  obtain ⟨b, off, x, rfl, hbB, cx, hx0, hx1⟩ := hr (p % m) hK1
  obtain ⟨b', off', y, e, hbB', cy, hy0, hy1⟩ := hr ((p * 7 + 3) % m) hK2
  injection e with e
  injection e with e1 e2
  subst e1 e2
  generalize p % m = k1 at hK1 t1 cx
  generalize (p * 7 + 3) % m = k2 at hK2 t2 cy
  generalize p / m = qq at hQ t3
  have q : ((m : Int) == 0) = false := ieq_f (by omega)
  have q2 : (n == 0) = false := ieq_f (by omega)
  have z1 : ¬ (m : Int) = 0 := by omega
  have z2 : ¬ m = 0 := by omega
  have hne : ¬ b = rb := by omega
  have HP : Hid (∀ k : Int, 0 ≤ k → k < n → Picked w B rb N n (.returned (.int .i64 k)) (w.setCell ⟨rb, 1, none⟩ (.int .i64 ((p : Int) + 1)))) := fun k hk0 hk => picked_of (n := n) (k := k) h1 hp (by omega) hB hr hk0 (.inr hk)
  have d0 : (w.setCell ⟨rb, 1, none⟩ (.int .i64 ((p : Int) + 1))).cell? ⟨rb, 0, none⟩ = some (.slice (some ⟨b, off, none⟩) m cap) := by rw [World.cell?_setCell_other _ _ _ _ (by simp)]; exact c0
  have dx : (w.setCell ⟨rb, 1, none⟩ (.int .i64 ((p : Int) + 1))).cell? ⟨b, off + k1, none⟩ = some (.int .u8 x) := by rw [World.cell?_setCell_other _ _ _ _ (fun e => hne (by injection e with e; exact e.symm))]; exact cx
  have dy : (w.setCell ⟨rb, 1, none⟩ (.int .i64 ((p : Int) + 1))).cell? ⟨b, off + k2, none⟩ = some (.int .u8 y) := by rw [World.cell?_setCell_other _ _ _ _ (fun e => hne (by injection e with e; exact e.symm))]; exact cy
  clear h1 hr cx cy
  have T1 := Lib.hid t1
  have T2 := Lib.hid t2
  have T3 := Lib.hid t3
  clear t1 t2 t3
  go_enter Try.func42, Try.ntmps42
  go_wp2_with fail
  generalize hw1 : w.setCell ⟨rb, 1, none⟩ (.int .i64 ((p : Int) + 1)) = w1 at d0 dx dy HP ⊢
  clear hw1 c0 c1
  have t1 := T1.out
  have t2 := T2.out
  have t3 := T3.out
  have u1 : IntKind.i64.wrap (x * 131) = x * 131 := IntWalk.i64_in _ (by omega)
  have u2 : IntKind.i64.wrap ((p : Int) * 7) = (p : Int) * 7 := IntWalk.i64_in _ (by omega)
  have u3 : IntKind.i64.wrap ((p : Int) * 7 + 3) = (p : Int) * 7 + 3 := IntWalk.i64_in _ (by omega)
  have u4 : IntKind.i64.wrap (y * 1117) = y * 1117 := IntWalk.i64_in _ (by omega)
  have u5 : IntKind.i64.wrap (x * 131 + y * 1117) = x * 131 + y * 1117 := IntWalk.i64_in _ (by omega)
  have u6 : IntKind.i64.wrap ((p : Int) * 29) = (p : Int) * 29 := IntWalk.i64_in _ (by omega)
  have u7 : IntKind.i64.wrap (x * 131 + y * 1117 + (p : Int) * 29) = x * 131 + y * 1117 + (p : Int) * 29 := IntWalk.i64_in _ (by omega)
  have u8 : IntKind.i64.wrap ((qq : Int) * 53) = (qq : Int) * 53 := IntWalk.i64_in _ (by omega)
  have u9 : IntKind.i64.wrap (x * 131 + y * 1117 + (p : Int) * 29 + (qq : Int) * 53) = x * 131 + y * 1117 + (p : Int) * 29 + (qq : Int) * 53 := IntWalk.i64_in _ (by omega)
  have k1I : (k1 : Int) < (m : Int) := by omega
  have k2I : (k2 : Int) < (m : Int) := by omega
  go_quiet (fail)
  obtain ⟨X, hX⟩ : ∃ X : Nat, x * 131 + y * 1117 + (p : Int) * 29 + (qq : Int) * 53 = X := ⟨(x * 131 + y * 1117 + (p : Int) * 29 + (qq : Int) * 53).toNat, by omega⟩
  have hXb : X < 4294967296 := by omega
  obtain ⟨Z, hZ⟩ := xor_any X hXb
  clear t1 t2 t3 u1 u2 u3 u4 u5 u6 u7 u8 u9
  rw [hX]
  have hXI : (X : Int) < 4294967296 := by omega
  have hX0 : (0 : Int) ≤ X := by omega
  clear hX
  go_wp2_with fail
  go_ret
  refine (HP.out _ ?_ ?_).drewN nq
  · exact Int.emod_nonneg _ (by omega)
  · exact Int.emod_lt_of_pos _ (by omega)
theorem pick_any (rb B N : Nat) (n : Int) (w : World) (h : RRd w B rb N) (hN : N ≤ 10000000) : Calls Try.prog 42 #[.pointer (some ⟨rb, 0, none⟩), .int .i64 n] w (Picked w B rb N n) := by
  obtain ⟨A, m, cap, p, h1, h2, h3, h4, h5⟩ := h
  by_cases hn : n < 1
  · exact pick_low rb B N n A m cap p w h1 h2 hN h3 h4 h5 hn
  · by_cases hm : m = 0
    · subst hm; exact pick_none rb B N n A cap p w h1 h2 hN h4 h5 (by omega)
    · by_cases hp : p < m
      · exact pick_in rb B N n A m cap p w h1 h2 hN h3 h4 h5 (by omega) hp
      · exact pick_out rb B N n A m cap p w h1 h2 hN h3 h4 h5 (by omega) (by omega) (by omega)

/-! One of a list. -/
def PickedI (w : World) (B rb N : Nat) (l : List Int) (e : Ending) (w' : World) : Prop := ∃ k, ∃ h : k < l.length, e = .returned (.int .i64 l[k]) ∧ RRd w' B rb (N + 1) ∧ w.grownBy w' (some rb)
set_option maxHeartbeats 800000 in
theorem num_any (rb B N : Nat) (l : List Int) (A : Option Addr) (cap : Nat) (w : World) (h : RRd w B rb N) (hN : N ≤ 10000000) (hl : 1 ≤ l.length) (hr : RInts w A l) (ha : ∀ b o, A = some ⟨b, o, none⟩ → b ≠ rb) :
    Calls Try.prog 76 #[.pointer (some ⟨rb, 0, none⟩), .slice A l.length cap] w (PickedI w B rb N l) := by
  have H := Lib.hid h
  have HR := Lib.hid hr
  have HA := Lib.hid ha
  have hm := hr.1
  unfold maxLen at hm
  clear h hr ha
  go_enter Try.func76, Try.ntmps76
  go_wp2_with fail
  refine (pick_any rb B N _ _ H.out hN).mono ?_
  rintro e w1 ⟨k, rfl, hk, hR, hg⟩
  have hkl : k < l.length := by omega
  have hkI : (k : Int) < (l.length : Int) := by omega
  obtain ⟨b, off, rfl, hb, hc⟩ := HR.out.2 k hkl
  have hc1 : w1.cell? ⟨b, off + k, none⟩ = some (.int .i64 l[k]) := hg.cell hc (fun e => HA.out b off rfl (by injection e))
  have HX : Hid (RRd w1 B rb (N + 1) ∧ w.grownBy w1 (some rb)) := ⟨hR, hg⟩
  clear hR hg hk hc
  go_wp2_with fail
  go_ret
  exact ⟨k, hkl, rfl, HX.out.1, HX.out.2⟩
/-- The source is opened. -/
def Opened (w : World) (B : Nat) (e : Ending) (w' : World) : Prop := e = .returned (.pointer (some ⟨w.heap.size, 0, none⟩)) ∧ RRd w' B w.heap.size 0 ∧ Below w.heap.size w w'
set_option maxHeartbeats 800000 in
theorem open_any (B n cap : Nat) (A : Option Addr) (w : World) (hn : n ≤ maxLen) (hc : n ≤ cap) (h : RBy w B A n) (hB : B ≤ w.heap.size) : Calls Try.prog 40 #[.slice A n cap] w (Opened w B) := by
  unfold maxLen at hn
  have H := Lib.hid h
  have HN : Hid (∀ (m c : Nat) (ho : m ≤ n) (hm : m ≤ 2000), Opened w B (.returned (.pointer (some ⟨w.heap.size, 0, none⟩))) (w.alloc (.cells #[.slice A m c, .int .i64 0] 137))) := fun m c ho hm =>
    ⟨rfl, ⟨A, m, c, 0, heap_alloc_new w _, Nat.le_refl _, hm, hB, (show RBy w B A m from fun k hk => h k (by omega)).below ((Below.refl _ _).alloc hB _)⟩, (Below.refl _ _).alloc (Nat.le_refl _) _⟩
  by_cases hl : n ≤ 2000
  · have hlI : (n : Int) ≤ 2000 := by omega
    clear h
    go_enter Try.func40, Try.ntmps40
    go_wp2_with fail
    go_ret
    exact HN.out _ _ (Nat.le_refl _) hl
  · have hlI : (2000 : Int) < (n : Int) := by omega
    obtain ⟨b, off, x, rfl, _⟩ := h 0 (by omega)
    clear h
    go_enter Try.func40, Try.ntmps40
    go_wp2_with fail
    go_ret
    exact HN.out _ _ (by omega) (by omega)
end Go.Proofs.Ytbeejeialjfdnaa
/-
  Worlds and types that are drawn: the document's functions. No statement is proved here.
-/
namespace Go.Proofs.Ytbeejeialjfdnaa
open Go.RowKit Go.Deep
set_option maxRecDepth 100000
set_option linter.unusedVariables false
theorem RStrs.lit (w : World) (cs : Array Value) (l : List ByteArray) (h : cs.toList = l.map Value.string) (hl : l.length ≤ maxLen) : RStrs (w.alloc (.cells cs 9)) (some ⟨w.heap.size, 0, none⟩) l :=
  ⟨hl, fun k hk => ⟨w.heap.size, 0, rfl, by simp, by
    rw [Nat.zero_add, cell_of_blk (heap_alloc_new w _)]
    rw [← Array.getElem?_toList, h, List.getElem?_map, List.getElem?_eq_getElem hk]; rfl⟩⟩
theorem RInts.lit (w : World) (cs : Array Value) (l : List Int) (h : cs.toList = l.map (Value.int .i64)) (hl : l.length ≤ maxLen) : RInts (w.alloc (.cells cs 3)) (some ⟨w.heap.size, 0, none⟩) l :=
  ⟨hl, fun k hk => ⟨w.heap.size, 0, rfl, by simp, by
    rw [Nat.zero_add, cell_of_blk (heap_alloc_new w _)]
    rw [← Array.getElem?_toList, h, List.getElem?_map, List.getElem?_eq_getElem hk]; rfl⟩⟩
theorem l1Texts_any (w : World) : Calls Try.prog 112 #[] w fun e w' => e = .returned (.slice (some ⟨w.heap.size, 0, none⟩) 8 8) ∧ RStrs w' (some ⟨w.heap.size, 0, none⟩) texts ∧ Below w.heap.size w w' := by
  have HB : Hid (∀ o : Obj, Below w.heap.size w (w.alloc o)) := fun o => (Below.refl _ _).alloc (Nat.le_refl _) _
  go_enter Try.func112, Try.ntmps112
  go_wp2_with fail
  go_ret
  exact ⟨rfl, RStrs.lit _ _ _ rfl (by rw [texts_len]; unfold maxLen; omega), HB.out _⟩
theorem grown_of_below {w w' : World} (h : Below w.heap.size w w') (row : Option Nat) : w.grownBy w' row := ⟨h.os, h.tape, h.output, h.size, fun k hk _ => h.block k hk⟩
/-- A type in block b. -/
def BoxT (w : World) (b : Nat) (t : Ty) : Prop := w.heap[b]? = some (.cells #[.int .i64 t.data, .int .i64 t.index] 25 (0, 0))
theorem BoxT.c0 {w : World} {b : Nat} {t : Ty} (h : BoxT w b t) : w.cell? ⟨b, 0, none⟩ = some (.int .i64 t.data) := cell_of_blk h 0
theorem BoxT.c1 {w : World} {b : Nat} {t : Ty} (h : BoxT w b t) : w.cell? ⟨b, 1, none⟩ = some (.int .i64 t.index) := cell_of_blk h 1
theorem BoxT.fz {w : World} {b : Nat} {t : Ty} (h : BoxT w b t) (o : Nat) : w.frozen? ⟨b, o, none⟩ = false := free_of_blk h o
theorem BoxT.lt {w : World} {b : Nat} {t : Ty} (h : BoxT w b t) : b < w.heap.size := heap_lt h
theorem BoxT.grown {w w' : World} {b rb : Nat} {t : Ty} (h : BoxT w b t) (hg : w.grownBy w' (some rb)) (hne : b ≠ rb) : BoxT w' b t := (hg.block b h.lt (fun e => hne (by injection e))).trans h
theorem BoxT.alloc {w : World} {b : Nat} {t : Ty} (h : BoxT w b t) (o : Obj) : BoxT (w.alloc o) b t := (Below.heap_alloc _ _ _ h.lt).trans h
theorem RRd.alloc {w : World} {B rb N : Nat} (h : RRd w B rb N) (o : Obj) : RRd (w.alloc o) B rb N := h.below ((Below.refl _ _).alloc (Nat.le_refl _) _)
theorem RRd.setCell {w : World} {B rb N : Nat} (h : RRd w B rb N) {b i : Nat} {u : Value} (hb : b ≠ rb) (hB : B ≤ b) : RRd (w.setCell ⟨b, i, none⟩ u) B rb N := by
  obtain ⟨A, m, cap, p, h1, h2, h3, h4, h5⟩ := h
  exact ⟨A, m, cap, p, (Below.heap_setCell _ _ _ _ (by simp only; omega)).trans h1, h2, h3, h4, h5.below ((Below.refl _ _).setCell (p := ⟨b, i, none⟩) hB _)⟩
end Go.Proofs.Ytbeejeialjfdnaa
/-
  A world that is sometimes made invalid: the document's function. No statement is proved here.
-/
namespace Go.Proofs.Ytbeejeialjfdnaa
open Go.RowKit Go.Deep
set_option maxRecDepth 100000
set_option linter.unusedVariables false
theorem RRd.drew {w : World} {B rb N : Nat} (h : RRd w B rb N) : RRd w.drew B rb N := h
theorem RStrs.drew {w : World} {A : Option Addr} {l : List ByteArray} (h : RStrs w A l) : RStrs w.drew A l := h
theorem RInts.drew {w : World} {A : Option Addr} {l : List Int} (h : RInts w A l) : RInts w.drew A l := h
theorem RStrs.lit2 (w : World) (cs : Array Value) (l : List ByteArray) (h : cs.toList = l.map Value.string) (hl : l.length ≤ maxLen) : RStrs (w.alloc (.cells cs 9)).drew (some ⟨w.heap.size, 0, none⟩) l := RStrs.lit w cs l h hl
theorem RInts.lit2 (w : World) (cs : Array Value) (l : List Int) (h : cs.toList = l.map (Value.int .i64)) (hl : l.length ≤ maxLen) : RInts (w.alloc (.cells cs 3)).drew (some ⟨w.heap.size, 0, none⟩) l := RInts.lit w cs l h hl
theorem RInts.alloc {w : World} {A : Option Addr} {l : List Int} (h : RInts w A l) (o : Obj) : RInts (w.alloc o) A l := h.at_ ((Below.refl _ _).alloc (Nat.le_refl _) _)
theorem num_n (rb B N n : Nat) (l : List Int) (hn : l.length = n) (A : Option Addr) (cap : Nat) (w : World) (h : RRd w B rb N) (hN : N ≤ 10000000) (hl : 1 ≤ l.length) (hr : RInts w A l) (ha : ∀ b o, A = some ⟨b, o, none⟩ → b ≠ rb) :
    Calls Try.prog 76 #[.pointer (some ⟨rb, 0, none⟩), .slice A n cap] w (PickedI w B rb N l) := by subst hn; exact num_any rb B N l A cap w h hN hl hr ha
end Go.Proofs.Ytbeejeialjfdnaa
/-
  What the statements draw: a world, a type, a number. No statement is proved here.
-/
namespace Go.Proofs.Ytbeejeialjfdnaa
open Go.RowKit Go.Deep
set_option maxRecDepth 100000
set_option linter.unusedVariables false
theorem Lies.lower {w : World} {lo lo' : Nat} {v : Value} {l : List Da} (h : Lies w lo v l) (hl : lo' ≤ lo) : Lies w lo' v l := by
  obtain ⟨A3, c3, e3, hrd⟩ := h
  exact ⟨A3, c3, e3, fun wx hs => hrd wx ⟨hs.1, fun b h1 hb => hs.2 b (Nat.le_trans hl h1) hb⟩⟩
theorem two_far {w : World} {b c i j o : Nat} {u x v : Value} (hne : b ≠ c) (h : w.cell? ⟨c, o, none⟩ = some v) : ((w.setCell ⟨b, i, none⟩ u).setCell ⟨b, j, none⟩ x).cell? ⟨c, o, none⟩ = some v :=
  (World.cell?_setCell_other _ _ _ _ (fun e => hne (by injection e))).trans ((World.cell?_setCell_other _ _ _ _ (fun e => hne (by injection e))).trans h)
end Go.Proofs.Ytbeejeialjfdnaa
