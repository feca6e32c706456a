/-
  A world out of its text: the document's function, the walk. No statement is proved here.
-/
import Derived.Test.YtakhobhmplneeaaY17
import Derived.Test.YtakhobhmplneeaaY18
namespace Go.Proofs.Ytakhobhmplneeaa
open Go.RowKit Go.Deep
set_option maxRecDepth 100000
set_option linter.unusedVariables false
theorem OStrs.kept {w w' : World} {lo : Nat} {v u : Value} {L : List ByteArray} (h : OStrs w lo u L) (hg : w.grownBy w' v.ownBlock) (ha : Apart v u) : OStrs w' lo u L := by
  have h' : w.ownsRow lo 9 1 u L.length (L.map Value.string) := h
  exact h'.kept hg ha.ne
theorem OStrs.keepT {w w' : World} {lo : Nat} {T : TypeId → Prop} {u : Value} {L : List ByteArray} (h : OStrs w lo u L) (hk : KeepT lo T w w') (hT : T 9) : OStrs w' lo u L := by
  have h' : w.ownsRow lo 9 1 u L.length (L.map Value.string) := h
  exact row_keep h' hk hT
theorem OStrs.lt {w : World} {lo : Nat} {u : Value} {L : List ByteArray} (h : OStrs w lo u L) : ∀ g, u.ownBlock = some g → lo ≤ g ∧ g < w.heap.size := by
  have h' : w.ownsRow lo 9 1 u L.length (L.map Value.string) := h
  exact h'.lt
theorem OStrs.alloc {w : World} {lo : Nat} {u : Value} {L : List ByteArray} (h : OStrs w lo u L) (o : Obj) : OStrs (w.alloc o) lo u L := by
  have h' : w.ownsRow lo 9 1 u L.length (L.map Value.string) := h
  exact h'.alloc o
/-- What stands between the two loops. -/
def Named (w : World) (s : ByteArray) (wr : World) (v4 v5 v6 : Value) (k : Nat) : Prop :=
  k ≤ (cutB s 59).length ∧ k ≤ 5 ∧ TwoW ((cutB s 59).take k) ∧ OStrs wr w.heap.size v5 (((cutB s 59).take k).map nameW) ∧ OStrs wr w.heap.size v6 (cutB s 59) ∧ Apart v5 v6 ∧ ODas wr w.heap.size v4 [] ∧ Below w.heap.size w wr
theorem two_snoc {H : List ByteArray} {k : Nat} (h : TwoW (H.take k)) (hk : k < H.length) (e : (cutB H[k] 61).length = 2) : TwoW (H.take (k + 1)) := fun j hj => by
  have hj' : j < k + 1 := by simp at hj; omega
  rw [List.getElem_take]
  by_cases ej : j = k
  · subst ej; exact e
  · have := h j (by simp; omega)
    rw [List.getElem_take] at this
    exact this
theorem not_two {s : ByteArray} {k : Nat} (hs : ¬ s.size = 0) (hk : k < (cutB s 59).length) (h4 : k ≤ 4) (e : ¬ (cutB (cutB s 59)[k] 61).length = 2) : ¬ GoodW s := fun hg => by
  have h := hg.1
  unfold headsW at h
  rw [if_neg hs] at h
  have := h k (by simp; omega)
  rw [List.getElem_take] at this
  exact e this
theorem info31 : (Try.prog.info? 105).map (fun i => (i.zero, i.size, i.bytes)) = some (some (.agg #[.string ByteArray.empty, .slice none 0 0, .int .i64 0]), 3, 48) := by kernel_rfl
theorem info28 : (Try.prog.info? 103).map (fun i => (i.zero, i.size, i.bytes)) = some (some (.agg #[.string ByteArray.empty, .slice none 0 0]), 2, 40) := by kernel_rfl
theorem parseCtor_v (A : Option Addr) (l : List ByteArray) (cap : Nat) (s : ByteArray) (c : Ct) (hc : ctP l s = c) (w : World) (hr : RStrs w A l) (hs : s.size ≤ 1048576) :
    Calls Try.prog 67 #[.slice A l.length cap, .string s] w fun e w' => RetCt w w.heap.size e w' c := by
  subst hc; exact parseCtor_any A l cap s w hr hs
theorem parseCtor_n (A : Option Addr) (l : List ByteArray) (n cap : Nat) (hn : l.length = n) (s : ByteArray) (c : Ct) (hc : ctP l s = c) (w : World) (hr : RStrs w A l) (hs : s.size ≤ 1048576) :
    Calls Try.prog 67 #[.slice A n cap, .string s] w fun e w' => RetCt w w.heap.size e w' c := by
  subst hn; exact parseCtor_v A l cap s c hc w hr hs
theorem cell_three_new (w : World) (x y z : Value) (t : TypeId) : ∀ j u, [x, y, z][j]? = some u → (w.alloc (.cells #[x, y, z] t)).cell? ((⟨w.heap.size, 0, none⟩ : Addr).add j) = some u :=
  World.news_of_block (cs := #[x, y, z]) (heap_alloc_new w _)
theorem worldV_yes {A : Option Addr} {l : List Da} {cap : Nat} {w : World} (hr : RDas w w.heap.size A l) (h : WorldOK l) :
    Calls Try.prog 52 #[.slice A l.length cap] w fun e w' => e = .returned (.bool true) ∧ Below w.heap.size w w' := by rw [← dec_t h]; exact worldValid_spec A l cap w hr
theorem worldV_no {A : Option Addr} {l : List Da} {cap : Nat} {w : World} (hr : RDas w w.heap.size A l) (h : ¬ WorldOK l) :
    Calls Try.prog 52 #[.slice A l.length cap] w fun e w' => e = .returned (.bool false) ∧ Below w.heap.size w w' := by rw [← dec_f h]; exact worldValid_spec A l cap w hr
/-- A data type in block b. -/
def Box2 (w : World) (b : Nat) (n : ByteArray) (v : Value) : Prop := w.heap[b]? = some (.cells #[.string n, v] 103 (0, 0))
theorem Box2.c0 {w : World} {b : Nat} {n : ByteArray} {v : Value} (h : Box2 w b n v) : w.cell? ⟨b, 0, none⟩ = some (.string n) := cell_of_blk h 0
theorem Box2.c1 {w : World} {b : Nat} {n : ByteArray} {v : Value} (h : Box2 w b n v) : w.cell? ⟨b, 1, none⟩ = some v := cell_of_blk h 1
theorem Box2.fz {w : World} {b : Nat} {n : ByteArray} {v : Value} (h : Box2 w b n v) (o : Nat) : w.frozen? ⟨b, o, none⟩ = false := free_of_blk h o
theorem Box2.lt {w : World} {b : Nat} {n : ByteArray} {v : Value} (h : Box2 w b n v) : b < w.heap.size := heap_lt h
theorem Box2.set1 {w : World} {b : Nat} {n : ByteArray} {v : Value} (h : Box2 w b n v) (u : Value) : Box2 (w.setCell ⟨b, 1, none⟩ u) b n u := heap_setCell_same w b 1 _ _ u h
theorem Box2.keep {w w' : World} {b : Nat} {n : ByteArray} {v : Value} (h : Box2 w b n v) (hk : w'.heap[b]? = w.heap[b]?) : Box2 w' b n v := hk.trans h
theorem Box2.at_ {w w' : World} {b : Nat} {n : ByteArray} {v : Value} (h : Box2 w b n v) (hb : Below w.heap.size w w') : Box2 w' b n v := h.keep (hb.block b h.lt)
/-- What stands in the second loop. -/
def Made (w : World) (wr : World) (v4 v5 v6 : Value) (L H : List ByteArray) (j : Nat) : Prop :=
  OStrs wr w.heap.size v5 (H.map nameW) ∧ OStrs wr w.heap.size v6 L ∧ ODas wr w.heap.size v4 ((H.take j).map (daW (H.map nameW))) ∧ Below w.heap.size w wr
/-- What stands in the third loop, one data type being made in block b. -/
def Ctored (wr w3 : World) (b : Nat) (n : ByteArray) (v10 : Value) (C N : List ByteArray) (m : Nat) : Prop :=
  ∃ v, Box2 w3 b n v ∧ OCts w3 wr.heap.size v ((C.take m).map (ctP N)) ∧ OStrs w3 wr.heap.size v10 C ∧ Below wr.heap.size wr w3
set_option maxHeartbeats 4000000 in
theorem parseWorld_some (s : ByteArray) (w : World) (hs : s.size ≤ 1048576) (h0 : ¬ s.size = 0) : Calls Try.prog 47 #[.string s] w (RetW w s) := by
  obtain ⟨i9, hi9, hy0, hy1, hy2⟩ := info_parts info9
  obtain ⟨i31, hi31, hx0, hx1, hx2⟩ := info_parts info31
  obtain ⟨i28, hi28, hw0, hw1, hw2⟩ := info_parts info28
  have q0 := notEmpty_of h0
  have q0' := notEmpty_of' h0
  have HNT := Lib.hid (@not_two s · h0)
  have H0 := Lib.hid h0
  clear h0
  have HO0 : Hid (ODas ((w.alloc (.cells #[] 103)).alloc (.cells #[] 9)) w.heap.size (.slice (some ⟨w.heap.size, 0, none⟩) 0 0) []) := (ODas.lit w w.heap.size (Nat.le_refl _)).keepT (KeepT.alloc _ _ _ _)
  have HN0 : Hid (OStrs ((w.alloc (.cells #[] 103)).alloc (.cells #[] 9)) w.heap.size (.slice (some ⟨w.heap.size + 1, 0, none⟩) 0 0) []) := by
    have := OStrs.lit (w.alloc (.cells #[] 103)) w.heap.size (by simp)
    unfold Hid
    simpa using this
  have hb0 : Below w.heap.size w ((w.alloc (.cells #[] 103)).alloc (.cells #[] 9)) := ((Below.refl _ _).alloc (Nat.le_refl _) _).alloc (by simp) _
  have hLs := fun x (hx : x ∈ cutB s 59) => cutB_size hx
  have HLS : Hid (∀ x ∈ cutB s 59, x.size ≤ 1048576) := fun x hx => Nat.le_trans (hLs x hx) hs
  have hLl : (cutB s 59).length ≤ 1048577 := by have := cutB_len s 59; omega
  clear hLs
  go_enter Try.func47, Try.ntmps47
  go_wp2_with fail
  refine (cut_any s 59 _ hs).mono ?_
  rintro e w1 ⟨v6, rfl, ho6, hb1⟩
  have hbw := below_after hb0 hb1 hb0.size
  have HQ : Hid (Named w s w1 (.slice (some ⟨w.heap.size, 0, none⟩) 0 0) (.slice (some ⟨w.heap.size + 1, 0, none⟩) 0 0) v6 0) :=
    ⟨Nat.zero_le _, by omega, fun j hj => by simp at hj, by rw [List.take_zero]; exact HN0.out.at_ hb1, ho6.lower hb0.size, (fun g e1 e2 => by
      have := (ho6.lt g e2).1
      simp [Value.ownBlock] at e1
      simp at this
      omega), HO0.out.keepT (KeepT.below _ _ hb1), hbw⟩
  obtain ⟨A6, cap6, rfl, _⟩ := ho6.form (by unfold maxLen; omega)
  clear HO0 HN0 hb0 hb1 ho6 hbw
  generalize hL : cutB s 59 = L at HLS hLl HQ HNT
  go_wp2_with fail
  go_loopw [5, 7] (fun v i wr => ∃ k : Nat, i = .int .i64 k ∧ Named w s wr (.slice (some ⟨w.heap.size, 0, none⟩) 0 0) v (.slice A6 L.length cap6) k) (fun _ i _ => 5 - (intOf i).toNat)
  case atStart => exact ⟨0, rfl, HQ.out⟩
  case round =>
    clear HQ
    obtain ⟨k, rfl, hq⟩ := hrel
    have HQ := Lib.hid hq
    obtain ⟨hk, hk5, hTw, hoN, hoL, hAp, hoD, hbw⟩ := hq
    rw [hL] at hk hTw hoN hoL
    clear hTw hoN hoL hAp hoD
    by_cases hlt : k < L.length ∧ k ≤ 4
    · obtain ⟨hlt, hk4⟩ := hlt
      have hkI : (k : Int) < (L.length : Int) := by omega
      have hk4I : (k : Int) ≤ 4 := by omega
      obtain ⟨A, cp, e6, hr6⟩ := (by have := HQ.out.2.2.2.2.1; rw [hL] at this; exact this.form (by unfold maxLen; omega) : ∃ A cap, Value.slice A6 L.length cap6 = .slice A L.length cap ∧ RStrs wr A L)
      injection e6 with e6a e6b e6c
      subst e6a e6c
      obtain ⟨b, off, rfl, hbB, c0⟩ := hr6.2 k hlt
      have hLk := HLS.out L[k] (List.getElem_mem hlt)
      clear hr6
      go_wp2_with fail
      refine (cut_any _ 61 _ hLk).mono ?_
      rintro e w2 ⟨v8, rfl, ho8, hb2⟩
      have hbw2 := below_after hbw hb2 hbw.size
      obtain ⟨A8, cap8, rfl, hr8⟩ := ho8.form (by unfold maxLen; have := cutB_len L[k] 61; omega)
      by_cases h2 : (cutB L[k] 61).length = 2
      · have q1 : (((cutB L[k] 61).length : Int) == 2) = true := ieq_t (by omega)
        have q1' : (0 : Int) < ((cutB L[k] 61).length : Int) := by omega
        obtain ⟨b8, off8, rfl, hb8, p0⟩ := hr8.2 0 (by omega)
        rw [Nat.add_zero, ← nameW_at h2] at p0
        have HS1 := Lib.hid (take_map_succ nameW L hlt)
        have HT1 := Lib.hid (fun h => two_snoc h hlt h2)
        have hoN : OStrs w2 w.heap.size u5 ((L.take k).map nameW) := by have := HQ.out.2.2.2.1; rw [hL] at this; exact this.at_ hb2
        have HON := Lib.hid hoN
        have hnl : ((L.take k).map nameW).length ≤ 5 := by simp; omega
        have hz2 := hbw2.size
        clear h2 hr8 ho8 hoN
        generalize hM : (L.take k).map nameW = M at HON hnl HS1
        go_wp2_with (at_builtin; refine wpList_append_lies _ rfl _ _ 82 rfl w.heap.size 9 i9 (.string ByteArray.empty) 1 16 Try.underlying82 hi9 hy0 hy1 hy2 rfl (by decide) u5 M.length (M.map Value.string) rfl (HON.out.alloc _) ⟨w2.heap.size, 0, none⟩ 1 1 [.string (nameW L[k])] rfl rfl ?c1 ?c2 ?c3 ?c4 ?c5 ?c6 w2.heap.size.succ ?c7 ?_)
        case c1 => exact cell_one_one _ _ _
        case c2 => intro u hu; simp at hu; subst hu; rfl
        case c3 => omega
        case c4 => unfold maxLen; omega
        case c5 => omega
        case c6 => simp; omega
        case c7 => simp
        intro gg cap4 w4 hown4 hg4 hat4 hlt4
        have HN4 : Hid (Named w s w4 (.slice (some ⟨w.heap.size, 0, none⟩) 0 0) (.slice (some ⟨gg, 0, none⟩) (M.length + 1) cap4) (.slice (some ⟨b, off, none⟩) L.length cap6) (k + 1)) := by
          obtain ⟨g1, g2, g3, g4, g5, g6, g7, g8⟩ := HQ.out
          rw [hL] at g1 g3 g4 g5
          refine ⟨by rw [hL]; omega, by omega, by rw [hL]; exact HT1.out g3, ?_, ?_, ?_, ?_, ?_⟩
          · rw [hL, HS1.out]; exact OStrs.app hown4
          · rw [hL]; exact ((g5.at_ hb2).alloc _).kept hg4 g6
          · intro g e1 e2
            simp [Value.ownBlock] at e1 e2
            subst e1 e2
            rcases hat4 with h | h
            · exact g6 _ h (by simp [Value.ownBlock])
            · have := hb2.size; omega
          · exact (((g7.keepT (KeepT.below _ _ hb2)).keepT (KeepT.alloc _ _ _ _))).keepT (KeepT.grown (HON.out.alloc _) (by unfold T28; decide) hg4)
          · exact ((hbw2.alloc hbw2.size _).grown hg4 (by have := hbw2.size; simp; omega) (fun g e => (HON.out.lt g e).1))
        clear hown4 hg4 hat4 hlt4 HON HQ HS1 HT1 hb2 hbw2 hM p0 c0
        go_wp2_with fail
        go_roundw
        case rel => exact ⟨k + 1, by go_num, HN4.out⟩
        case measure => simp [intOf]; omega
      · have q1 : (((cutB L[k] 61).length : Int) == 2) = false := ieq_f (by omega)
        have HB := Lib.hid (retW_no (HNT.out k hlt hk4 h2) w2 hbw2)
        clear h2
        go_wp2_with fail
        go_ret2
        exact HB.out
    · have HH : Hid (L.take k = headsW s) := by
        unfold Hid headsW
        rw [if_neg H0.out, hL]
        by_cases h1 : k < L.length
        · have : k = 5 := by omega
          rw [this]
        · rw [List.take_of_length_le (by omega), List.take_of_length_le (by omega)]
      have HE : Hid (¬ ((k : Int) < (L.length : Int) ∧ (k : Int) ≤ 4)) := fun h => hlt ⟨by omega, by omega⟩
      have hHl : (headsW s).length ≤ 5 ∧ (headsW s).length ≤ L.length := by rw [← HH.out]; simp; omega
      have HHg : Hid (∀ j (h : j < (headsW s).length) (h' : j < L.length), (headsW s)[j] = L[j]) := fun j h h' => by
        have : ∀ (X : List ByteArray) (e : L.take k = X) (hx : j < X.length), X[j] = L[j] := fun X e hx => by subst e; exact List.getElem_take
        exact this _ HH.out h
      have HTW : Hid (TwoW (headsW s)) := by have := HQ.out.2.2.1; rw [hL, HH.out] at this; exact this
      have HM : Hid (Made w wr (.slice (some ⟨w.heap.size, 0, none⟩) 0 0) u5 (.slice A6 L.length cap6) L (headsW s) 0) := by
        obtain ⟨g1, g2, g3, g4, g5, g6, g7, g8⟩ := HQ.out
        rw [hL] at g4 g5
        rw [HH.out] at g4
        exact ⟨g4, g5, by rw [List.take_zero]; exact g7, g8⟩
      obtain ⟨A5, cap5, e5, _⟩ := HM.out.1.form (by simp; unfold maxLen; omega)
      have HW : Hid (outW s = outL (headsW s)) := rfl
      generalize hHH : headsW s = H at hHl HHg HTW HM HW e5
      have HHH := Lib.hid hHH
      have hNl : (H.map nameW).length = H.length := List.length_map _
      rw [hNl] at e5
      subst e5
      clear hHH HQ HH hL HNT hk
      obtain ⟨w0, rfl⟩ : ∃ wo : World, wo = wr := ⟨_, rfl⟩
      go_wp2_with fail
      all_goals
        go_loopw [4, 9] (fun v i wr => ∃ j : Nat, j ≤ H.length ∧ i = .int .i64 j ∧ Made w wr v (.slice A5 H.length cap5) (.slice A6 L.length cap6) L H j) (fun _ i _ => H.length - (intOf i).toNat)
        case atStart => exact ⟨0, by omega, rfl, HM.out⟩
        case round =>
          clear HM
          obtain ⟨j, hj, rfl, hm⟩ := hrel
          have HM := Lib.hid hm
          clear hm
          by_cases hjl : j < H.length
          · have hjI : (j : Int) < (H.length : Int) := by omega
            have hjL : (j : Int) < (L.length : Int) := by omega
            have hjL' : j < L.length := by omega
            have h2 : (cutB L[j] 61).length = 2 := by rw [← HHg.out j hjl hjL']; exact HTW.out j hjl
            have HBD := Lib.hid (bodyW_at h2)
            have hgl := HHg.out j hjl hjL'
            have hNj : (H.map nameW)[j]'(by rw [hNl]; exact hjl) = nameW L[j] := by rw [List.getElem_map, hgl]
            obtain ⟨A, cp, e6, hr6⟩ := HM.out.2.1.form (by unfold maxLen; omega)
            injection e6 with e6a e6b e6c
            subst e6a e6c
            obtain ⟨b, off, rfl, hbB, c0⟩ := hr6.2 j hjL'
            obtain ⟨A', cp', e5, hr5⟩ := HM.out.1.form (by rw [hNl]; unfold maxLen; omega)
            injection e5 with e5a e5b e5c
            subst e5a e5c
            obtain ⟨b5, off5, rfl, hbB5, d0⟩ := hr5.2 j (by rw [hNl]; exact hjl)
            rw [hNj] at d0
            have hbw := HM.out.2.2.2
            have hLk := HLS.out L[j] (List.getElem_mem hjL')
            have hbs : (bodyW L[j]).size ≤ 1048576 := Nat.le_trans (cutB_get_size _ _ _) hLk
            have hns : (nameW L[j]).size ≤ 1048576 := Nat.le_trans (cutB_get_size _ _ _) hLk
            have HR5 := Lib.hid hr5
            clear hr6 hr5 e5b e6b hgl hNj
            go_wp2_with fail
            refine (cut_any _ 61 _ hLk).mono ?_
            rintro e w2 ⟨v8, rfl, ho8, hb2⟩
            obtain ⟨A8, cap8, rfl, hr8⟩ := ho8.form (by unfold maxLen; omega)
            have q1' : (1 : Int) < ((cutB L[j] 61).length : Int) := by omega
            obtain ⟨b8, off8, rfl, hb8, p0⟩ := hr8.2 1 (by omega)
            rw [← bodyW_at h2] at p0
            clear hr8 ho8 HBD h2
            go_wp2_with fail
            refine (cut_any _ 124 _ hbs).mono ?_
            rintro e w3 ⟨v10, rfl, ho10, hb3⟩
            have hb3' := below_after hb2 hb3 hb2.size
            obtain ⟨A10, cap10, rfl, _⟩ := ho10.form (by unfold maxLen; have := cutB_len (bodyW L[j]) 124; omega)
            have d1 : w3.cell? ⟨b5, off5 + j, none⟩ = some (.string (nameW L[j])) := (hb3'.cell (p := ⟨b5, off5 + j, none⟩) hbB5).trans d0
            have hCl : (cutB (bodyW L[j]) 124).length ≤ 1048577 := by have := cutB_len (bodyW L[j]) 124; omega
            have HCS : Hid (∀ x ∈ cutB (bodyW L[j]) 124, x.size ≤ 1048576) := fun x hx => Nat.le_trans (cutB_size hx) hbs
            have HC0 : Hid (Ctored wr (w3.alloc (.cells #[.string (nameW L[j]), .slice none 0 0] 103)) w3.heap.size (nameW L[j]) (.slice A10 (cutB (bodyW L[j]) 124).length cap10) (cutB (bodyW L[j]) 124) (H.map nameW) 0) :=
              ⟨.slice none 0 0, heap_alloc_new w3 _, by rw [List.take_zero]; exact OCts.nil _ _, (ho10.lower hb2.size).alloc _, hb3'.alloc hb3'.size _⟩
            have HDA : Hid (daW (H.map nameW) L[j] = ⟨nameW L[j], ((cutB (bodyW L[j]) 124).take 5).map (ctP (H.map nameW))⟩) := rfl
            have hz3 := hb3'.size
            clear hb2 hb3 ho10 p0 c0 d0
            generalize hC : cutB (bodyW L[j]) 124 = C at hCl HCS HC0 HDA
            clear hC
            generalize hnm : nameW L[j] = nm at hns d1 HC0 HDA
            go_wp2_with fail
            obtain ⟨wo, rfl⟩ : ∃ wo : World, wo = wr := ⟨_, rfl⟩
            go_loopw [12] (fun i w4 => ∃ m : Nat, m ≤ C.length ∧ m ≤ 5 ∧ i = .int .i64 m ∧ Ctored wo w4 w3.heap.size nm (.slice A10 C.length cap10) C (H.map nameW) m) (fun i _ => 5 - (intOf i).toNat)
            case atStart => exact ⟨0, by omega, by omega, rfl, HC0.out⟩
            case round =>
              clear HC0
              obtain ⟨m, hm, hm5, rfl, hct⟩ := hrel
              obtain ⟨v, hbx, hoc, hos, hbr⟩ := hct
              have HBX := Lib.hid hbx
              have HOC := Lib.hid hoc
              have HOS := Lib.hid hos
              have HBR := Lib.hid hbr
              have hbz := hbx.lt
              clear hbx hoc hos hbr
              by_cases hlt1 : m < C.length ∧ m ≤ 4
              · obtain ⟨hm1, hm4⟩ := hlt1
                have hmI : (m : Int) < (C.length : Int) := by omega
                have hm4I : (m : Int) ≤ 4 := by omega
                obtain ⟨A, cp, e8, hr8⟩ := HOS.out.form (by unfold maxLen; omega)
                injection e8 with e8a e8b e8c
                subst e8a e8c
                obtain ⟨b7, off7, rfl, hbB7, g0⟩ := hr8.2 m hm1
                have hCm := HCS.out C[m] (List.getElem_mem hm1)
                have HTK := Lib.hid (take_map_succ (ctP (H.map nameW)) C hm1)
                have hsm := ctP_small (H.map nameW) C[m]
                generalize hT : ctP (H.map nameW) C[m] = T at HTK hsm
                have HT := Lib.hid hT
                have hLk5 : ((C.take m).map (ctP (H.map nameW))).length ≤ 5 := by simp; omega
                have hLke : ((C.take m).map (ctP (H.map nameW))).length = m := by simp; omega
                generalize (C.take m).map (ctP (H.map nameW)) = M at HTK HOC hLk5 hLke
                have HLE := Lib.hid hLke
                obtain ⟨xs, ho, hx⟩ := HOC.out
                have HO := Lib.hid ho
                have HX := Lib.hid hx
                have hLm : M.length + 1 ≤ maxLen := by unfold maxLen; omega
                have hLb : (M.length + 1) * 48 ≤ 140737488355328 := by omega
                have c1 := HBX.out.c1
                have HRl : Hid (RStrs wr (some ⟨b5, off5, none⟩) (H.map nameW)) := HR5.out.at_ (HBR.out.mono (Nat.le_refl _))
                clear hT ho hx hr8 HOC
                have HNL := Lib.hid hNl
                go_wp2_with fail
                go_region_law (first | (refine step_append_lies _ (by rfl) _ _ _ (by rfl) wo.heap.size 105 i31 _ 3 48 Try.underlying101 hi31 hx0 hx1 hx2 rfl (by omega) v M.length xs (by rfl) (HO5.out.alloc _) ⟨w5.heap.size, 0, none⟩ 1 1 [.string T.name, .slice AT T.args.length cT, .int .i64 T.index] (by rfl) (by rfl) (cell_three_new _ _ _ _ _) (by simp [Value.oneCell']) (by omega) hLm hLb (by simp; omega) (w5.heap.size + 1) (by simp) ?_; intro gg cap6 w6 hown6 hgrow6 hat6 hlt6; have HBX6 : Hid (Box2 w6 w3.heap.size nm v) := HBX5.out.keep ((hgrow6.block w3.heap.size (by simp; omega) (own_ne HO5.out HBX5.out (by decide))).trans (Below.heap_alloc _ _ _ (by omega))); have c6 := HBX6.out.c1; have f6 := HBX6.out.fz 1) | (go_simp; go_at_call 67; refine (parseCtor_n _ (H.map nameW) _ _ HNL.out _ T HT.out _ (HRl.out.at_ ((Below.refl _ _).drew)) hCm).mono ?_; rintro e w5 ⟨vT, rfl, hoT, hb5⟩; have hb5' : Below wr.heap.size wr w5 := ⟨hb5.os, hb5.tape, hb5.output, hb5.size, hb5.block⟩; have HO5 := Lib.hid (own_below HO.out hb5'); have HBX5 := Lib.hid (HBX.out.at_ hb5'); have hs5 := hb5'.size; have c5 := HBX5.out.c1; have c5a : ∀ o, (w5.alloc o).cell? ⟨w3.heap.size, 1, none⟩ = some v := fun o => (World.cell?_alloc_lt _ _ _ HBX5.out.lt).trans c5; have HOT := Lib.hid hoT; obtain ⟨AT, cT, rfl, _⟩ := hoT.form (by unfold maxLen; omega); clear hoT))
                all_goals
                  have hown7 : w6.ownsRow wo.heap.size 105 3 (.slice (some ⟨gg, 0, none⟩) (m + 1) cap6) (M.length + 1) (xs ++ [.string T.name, .slice AT T.args.length cT, .int .i64 T.index]) := by
                    have := hown6; rw [HLE.out] at this ⊢; exact this
                  have HC7 : Hid (Ctored wo (w6.setCell ⟨w3.heap.size, 1, none⟩ (.slice (some ⟨gg, 0, none⟩) (m + 1) cap6)) w3.heap.size nm (.slice (some ⟨b7, off7, none⟩) C.length cap10) C (H.map nameW) (m + 1)) := by
                    have hk1 : KeepT wo.heap.size T31 w6 (w6.setCell ⟨w3.heap.size, 1, none⟩ (.slice (some ⟨gg, 0, none⟩) (m + 1) cap6)) := KeepT.set HBX6.out T31_not28 _ _
                    have hk2 : KeepT wo.heap.size (fun t => t = 9) w6 (w6.setCell ⟨w3.heap.size, 1, none⟩ (.slice (some ⟨gg, 0, none⟩) (m + 1) cap6)) := KeepT.set HBX6.out (by decide) _ _
                    have hk3 : KeepT wo.heap.size (fun t => t = 9 ∨ t = 25) wr w6 := ((KeepT.below _ _ hb5').trans (KeepT.alloc _ _ _ _)).trans (KeepT.grown (HO5.out.alloc _) (by decide) hgrow6)
                    have hk4 : KeepT wo.heap.size T33 w5 w6 := (KeepT.alloc _ _ _ _).trans (KeepT.grown (HO5.out.alloc _) T33_not31 hgrow6)
                    refine ⟨_, HBX6.out.set1 _, ?_, ?_, ?_⟩
                    · rw [HTK.out]
                      exact (OCts.app (HX.out.keepT (hk3.less fun _ e => .inr e)) HO.out.1 (by unfold maxLen; omega) (by unfold maxLen; omega) ((HOT.out.lower (show wo.heap.size ≤ wr.drew.heap.size from HBR.out.size)).keepT hk4) hown7).keepT hk1
                    · exact (HOS.out.keepT hk3 (.inl rfl)).keepT hk2 rfl
                    · exact (((below_after HBR.out hb5' HBR.out.size).alloc (by have := HBR.out.size; omega) _).grown hgrow6 (by have := HBR.out.size; simp; omega) (fun g' e => by have := (HO5.out.lt g' e).1; omega)).setCell (by have := hz3; simp; omega) _
                  clear hown6 hown7 hgrow6 hat6 hlt6 hb5 hb5' HBX5 HO5 hs5 c5 c5a HBX6 c6 f6 HBX HOS HO HX HT HTK c1 g0 HOT HBR HRl
                  go_wp2_with fail
                  go_roundw
                  case rel => exact ⟨m + 1, by omega, by omega, by go_num, HC7.out⟩
                  case measure => simp [intOf]; omega
              · have hTk : C.take m = C.take 5 := by
                  by_cases h1 : m < C.length
                  · have : m = 5 := by omega
                    rw [this]
                  · rw [List.take_of_length_le (by omega), List.take_of_length_le (by omega)]
                have HXC : Hid (¬ ((m : Int) < (C.length : Int) ∧ (m : Int) ≤ 4)) := fun h => hlt1 ⟨by omega, by omega⟩
                rw [hTk] at HOC
                have hMl : ((C.take 5).map (ctP (H.map nameW))).length ≤ 5 := by simp; omega
                obtain ⟨A9, cap9, rfl, _⟩ := HOC.out.form (by unfold maxLen; omega)
                have HTK := Lib.hid (take_map_succ (daW (H.map nameW)) H hjl)
                rw [HHg.out j hjl hjL', HDA.out] at HTK
                have hD4 : ODas wr w.heap.size u4 ((H.take j).map (daW (H.map nameW))) := HM.out.2.2.1.keepT (KeepT.below _ _ (HBR.out.mono (Nat.le_refl _)))
                have HDl : ((H.take j).map (daW (H.map nameW))).length ≤ 5 := by simp; omega
                have HB0 := HM.out.2.2.2
                have hzo := HB0.size
                have hzr := HBR.out.size
                generalize hM : (C.take 5).map (ctP (H.map nameW)) = M at HOC hMl HTK HDA HBX
                generalize hDD : (H.take j).map (daW (H.map nameW)) = DD at HTK hD4 HDl
                obtain ⟨xs, ho, hx⟩ := hD4
                have HO := Lib.hid ho
                have HX := Lib.hid hx
                have HL1 : DD.length + 1 ≤ maxLen := by unfold maxLen; omega
                have c0 := HBX.out.c0
                have c1 := HBX.out.c1
                clear hTk hlt1 hM hDD ho hx HCS
                by_cases hm1 : m < C.length
                all_goals
                  first
                    | (have hmI : (m : Int) < (C.length : Int) := by omega
                       have hm4I : (4 : Int) < (m : Int) := by have := HXC.out; omega)
                    | (have hmI : (C.length : Int) ≤ (m : Int) := by omega)
                  go_wp2_with (at_builtin; refine wpList_append_lies _ rfl _ _ 23 rfl w.heap.size 103 i28 _ 2 40 Try.underlying23 hi28 hw0 hw1 hw2 rfl (by decide) u4 DD.length xs rfl (HO.out.alloc _) ⟨wr.heap.size, 0, none⟩ 1 1 [.string nm, .slice A9 M.length cap9] rfl rfl (cell_two_new _ _ _ _) (by simp [Value.oneCell']) (by omega) HL1 (by omega) (by simp; omega) wr.heap.size.succ (by simp) ?_)
                  intro gg capE w6 hown6 hg6 hat6 hlt6
                  have HM6 : Hid (Made w w6 (.slice (some ⟨gg, 0, none⟩) (DD.length + 1) capE) (.slice (some ⟨b5, off5, none⟩) H.length cap5) (.slice (some ⟨b, off, none⟩) L.length cap6) L H (j + 1)) := by
                    have hk1 : KeepT w.heap.size (fun t => t = 9 ∨ t = 105 ∨ t = 25) wr w6 := (KeepT.alloc _ _ _ _).trans (KeepT.grown (HO.out.alloc _) (by decide) hg6)
                    have hk2 : KeepT w.heap.size (fun t => t = 9 ∨ t = 105 ∨ t = 25) wo wr := KeepT.below _ _ (HBR.out.mono (Nat.le_refl _))
                    refine ⟨(HM.out.1.keepT hk2 (.inl rfl)).keepT hk1 (.inl rfl), (HM.out.2.1.keepT hk2 (.inl rfl)).keepT hk1 (.inl rfl), ?_, ?_⟩
                    · rw [HTK.out]
                      exact ODas.app (HX.out.keepT (hk1.less fun t e => e.elim (fun e => .inr (.inr e)) (fun e => .inr (.inl e)))) HO.out.1 (by simp only; unfold maxLen; omega) (by simp only; unfold maxLen; omega) ((HOC.out.lower hzo).keepT (hk1.less fun t e => e.elim (fun e => .inr (.inr e)) (fun e => .inr (.inl e)))) hown6
                    · exact ((HB0.trans (HBR.out.mono hzo)).alloc (by omega) _).grown hg6 (by simp; omega) (fun g e => (HO.out.lt g e).1)
                  clear hown6 hg6 hat6 hlt6 HO HX HOC HOS HM HBX HBR HB0 c0 c1
                  go_wp2_with fail
                  go_roundw
                  case rel => exact ⟨j + 1, by omega, by go_num, HM6.out⟩
                  case measure => simp [intOf]; omega
          · have hje : j = H.length := by omega
            have hjI : (H.length : Int) ≤ (j : Int) := by omega
            have HOUT : Hid (ODas wr w.heap.size u4 (outW s)) := by
              have := HM.out.2.2.1
              rw [hje, List.take_length] at this
              unfold Hid
              rw [HW.out]
              exact this
            have HGW : Hid (WorldOK (outW s) → wT (outW s) = s → GoodW s) := fun h1 h2 => ⟨by rw [HHH.out]; exact HTW.out, h1, h2⟩
            have hbw := HM.out.2.2.2
            have hol : (outW s).length ≤ 5 := by rw [HW.out]; unfold outL; simp; omega
            obtain ⟨A4, cap4, rfl, hrd⟩ := HOUT.out.form (by unfold maxLen; omega)
            have HRD := Lib.hid hrd
            clear hrd HM HW HTW hje
            generalize hO : outW s = O at HOUT HGW hol HRD
            have HOE := Lib.hid hO
            by_cases hwo : WorldOK O
            · have HY : Hid (∀ w' : World, RDas w' w'.heap.size A4 O → Calls Try.prog 52 #[.slice A4 O.length cap4] w' fun e w'' => e = .returned (.bool true) ∧ Below w'.heap.size w' w'') := fun w' h => worldV_yes h hwo
              have HWO := Lib.hid hwo
              by_cases he : wT O = s
              · have q := s_eq_t he
                have HGD := Lib.hid (HGW.out hwo he)
                clear hwo he hO
                go_wp2_with fail
                refine (HY.out _ HRD.out).mono ?_
                rintro e w2 ⟨rfl, hb2⟩
                have HRD2 : Hid (RDas w2 w2.heap.size A4 O) := HRD.out.keep (fun p hp => hb2.cell hp) hb2.size
                have hbw2 := below_after hbw hb2 hbw.size
                go_wp2_with fail
                refine (text_any _ _ _ _ HRD2.out HWO.out).mono ?_
                rintro e w3 ⟨rfl, hb3⟩
                have HF := Lib.hid (retW_yes HGD.out (.slice A4 O.length cap4) w3 (by rw [HOE.out]; exact HOUT.out.keepT ((KeepT.below _ _ hb2).trans (KeepT.below _ _ hb3))) (below_after hbw2 hb3 hbw2.size))
                go_wp2_with fail
                go_ret2
                exact HF.out
              · have q := s_eq_f he
                have HGD : Hid (¬ GoodW s) := fun h => he (by have := h.2.2; rw [hO] at this; exact this)
                clear hwo he hO
                go_wp2_with fail
                refine (HY.out _ HRD.out).mono ?_
                rintro e w2 ⟨rfl, hb2⟩
                have HRD2 : Hid (RDas w2 w2.heap.size A4 O) := HRD.out.keep (fun p hp => hb2.cell hp) hb2.size
                have hbw2 := below_after hbw hb2 hbw.size
                go_wp2_with fail
                refine (text_any _ _ _ _ HRD2.out HWO.out).mono ?_
                rintro e w3 ⟨rfl, hb3⟩
                have HF := Lib.hid (retW_no HGD.out w3 (below_after hbw2 hb3 hbw2.size))
                go_wp2_with fail
                go_ret2
                exact HF.out
            · have HGD : Hid (¬ GoodW s) := fun h => hwo (by have := h.2.1; rw [hO] at this; exact this)
              have HY : Hid (∀ w' : World, RDas w' w'.heap.size A4 O → Calls Try.prog 52 #[.slice A4 O.length cap4] w' fun e w'' => e = .returned (.bool false) ∧ Below w'.heap.size w' w'') := fun w' h => worldV_no h hwo
              clear hwo hO
              go_wp2_with fail
              refine (HY.out _ HRD.out).mono ?_
              rintro e w2 ⟨rfl, hb2⟩
              have HF := Lib.hid (retW_no HGD.out w2 (below_after hbw hb2 hbw.size))
              go_wp2_with fail
              go_ret2
              exact HF.out
end Go.Proofs.Ytakhobhmplneeaa
