/-
  A pattern is copied and sometimes changed: the document's function. No statement is proved here.
-/
import Derived.Test.YteoopmogklpnoaaV30
import Derived.Test.YteoopmogklpnoaaV40
namespace Go.Proofs.Yteoopmogklpnoaa
open Go.RowKit Go.Sort Go.Deep
set_option maxRecDepth 100000
set_option linter.unusedVariables false
theorem RowG.up {d : Nat} {w : World} {og : Option Nat} {Z : Nat → Prop} {Q : Nat → Nat → Prop} {l : List Pt} {xs : List Value} (h : RowG d w og Z Q l xs) : RowG (d + 1) w og Z Q l xs := fun j hj => by
  obtain ⟨h1, A', cap, e0, e1, e2, e3, e4, e8, e9⟩ := h j hj
  exact ⟨h1, A', cap, e0, e1, e2, e3, e4, e8, e9.up⟩
/-- The row of a list in blocks of its own, as a list of cells. -/
theorem OPs.row {d : Nat} {w : World} {P : Nat → Prop} {A : Option Addr} {l : List Pt} (h : OPs (d + 1) w P A l) (hP : ∀ b, P b → b < w.heap.size) : ∃ (news : List Value) (Qa : Nat → Nat → Prop), news.length = l.length * 6 ∧ (0 < l.length → ∃ g0, A = some ⟨g0, 0, none⟩ ∧ g0 < w.heap.size ∧ P g0 ∧ ∀ j u, news[j]? = some u → w.cell? ⟨g0, j, none⟩ = some u) ∧ (∀ u ∈ news, u.oneCell' = true) ∧ ∀ og, (∀ b, P b → some b ≠ og) → RowG d w og P Qa l news := by
  obtain ⟨d', hd, hl, hp⟩ := h.parts
  obtain rfl : d = d' := Nat.succ.inj hd
  by_cases h0 : 0 < l.length
  · obtain ⟨g, cs, Q, e, hPg, hg, hq, hc⟩ := hp h0
    have hcs : l.length * 6 ≤ cs.size := by
      obtain ⟨_, _, _, _, _, _, _, e5, _⟩ := hc (l.length - 1) (by omega)
      obtain ⟨hlt, _⟩ := Array.getElem?_eq_some_iff.1 e5
      omega
    have hget : ∀ j, j < l.length * 6 → (cs.toList.take (l.length * 6))[j]? = cs[j]? := fun j hj => by rw [List.getElem?_take_of_lt hj, Array.getElem?_toList]
    have hlen : (cs.toList.take (l.length * 6)).length = l.length * 6 := by rw [List.length_take]; have : cs.toList.length = cs.size := Array.length_toList; omega
    refine ⟨cs.toList.take (l.length * 6), Q, hlen, fun _ => ⟨g, e, heap_lt hg, hPg, fun j u hj => ?_⟩, fun u hu => ?_, fun og hog j hj => ?_⟩
    · have hjl : j < l.length * 6 := by obtain ⟨hlt, _⟩ := List.getElem?_eq_some_iff.1 hj; rw [hlen] at hlt; exact hlt
      rw [hget j hjl] at hj
      rw [cell_of_blk hg]; exact hj
    · obtain ⟨j, hj, rfl⟩ := List.getElem_of_mem hu
      have hj6 : j < l.length * 6 := by omega
      have h1 := hget j hj6
      rw [List.getElem?_eq_getElem hj] at h1
      obtain ⟨A', cap, e0, e1, e2, e3, e4, e5, _⟩ := hc (j / 6) (by omega)
      rcases (show j % 6 = 0 ∨ j % 6 = 1 ∨ j % 6 = 2 ∨ j % 6 = 3 ∨ j % 6 = 4 ∨ j % 6 = 5 by omega) with r | r | r | r | r | r
      · rw [show j / 6 * 6 = j by omega] at e0; rw [← h1] at e0; injection e0 with e0; rw [e0]; rfl
      · rw [show j / 6 * 6 + 1 = j by omega] at e1; rw [← h1] at e1; injection e1 with e0; rw [e0]; rfl
      · rw [show j / 6 * 6 + 2 = j by omega] at e2; rw [← h1] at e2; injection e2 with e0; rw [e0]; rfl
      · rw [show j / 6 * 6 + 3 = j by omega] at e3; rw [← h1] at e3; injection e3 with e0; rw [e0]; rfl
      · rw [show j / 6 * 6 + 4 = j by omega] at e4; rw [← h1] at e4; injection e4 with e0; rw [e0]; rfl
      · rw [show j / 6 * 6 + 5 = j by omega] at e5; rw [← h1] at e5; injection e5 with e0; rw [e0]; rfl
    · obtain ⟨A', cap, e0, e1, e2, e3, e4, e5, e6⟩ := hc j hj
      exact ⟨fun b hb => ⟨(hq j b hj hb).1, hP b (hq j b hj hb).1, hog b (hq j b hj hb).1, fun i hi hij => (hq j b hj hb).2.2 i hi hij⟩, A', cap, (hget _ (by omega)).trans e0, (hget _ (by omega)).trans e1, (hget _ (by omega)).trans e2, (hget _ (by omega)).trans e3, (hget _ (by omega)).trans e4, (hget _ (by omega)).trans e5, e6⟩
  · exact ⟨[], fun _ _ => False, by simp; omega, fun h => absurd h h0, fun u hu => by simp at hu, fun og _ j hj => absurd hj (by omega)⟩
theorem OPs.set0 {d : Nat} {w : World} {P : Nat → Prop} {g : Nat} {x : Pt} {l : List Pt} (h : OPs (d + 2) w P (some ⟨g, 0, none⟩) (x :: l)) :
    (∃ (y0 y1 y2 y3 y4 : Int) (s : Value) (cs : Array Value), w.heap[g]? = some (.cells cs 50 (0, 0)) ∧ cs[0]? = some (.int .i64 y0) ∧ cs[1]? = some (.int .i64 y1) ∧ cs[2]? = some (.int .i64 y2) ∧ cs[3]? = some (.int .i64 y3) ∧ cs[4]? = some (.int .i64 y4) ∧ cs[5]? = some s) ∧
    OPs (d + 2) ((((((w.setCell ⟨g, 0, none⟩ (.int .i64 2)).setCell ⟨g, 1, none⟩ (.int .i64 0)).setCell ⟨g, 2, none⟩ (.int .i64 0)).setCell ⟨g, 3, none⟩ (.int .i64 0)).setCell ⟨g, 4, none⟩ (.int .i64 0)).setCell ⟨g, 5, none⟩ (.slice none 0 0)) P (some ⟨g, 0, none⟩) (.mk 2 0 0 0 0 [] :: l) := by
  obtain ⟨d', hd, hl, hp⟩ := h.parts
  obtain rfl : d + 1 = d' := Nat.succ.inj hd
  obtain ⟨g', cs, Q, e, hPg, hg, hq, hc⟩ := hp (by simp)
  injection e with e
  injection e with e _ _
  subst e
  obtain ⟨A0, cap0, e0, e1, e2, e3, e4, e5, _⟩ := hc 0 (by simp)
  have h6 : 5 < cs.size := by
    obtain ⟨hlt, _⟩ := Array.getElem?_eq_some_iff.1 e5
    omega
  refine ⟨⟨_, _, _, _, _, _, cs, hg, e0, e1, e2, e3, e4, e5⟩, ?_⟩
  have hG := heap_setCell_same _ g 5 _ _ (.slice none 0 0) (heap_setCell_same _ g 4 _ _ (.int .i64 0) (heap_setCell_same _ g 3 _ _ (.int .i64 0) (heap_setCell_same _ g 2 _ _ (.int .i64 0) (heap_setCell_same _ g 1 _ _ (.int .i64 0) (heap_setCell_same _ g 0 _ _ (.int .i64 2) hg)))))
  have hf := Fr.six w g (.int .i64 2) (.int .i64 0) (.int .i64 0) (.int .i64 0) (.int .i64 0) (.slice none 0 0)
  refine OPs.mk hl (fun _ => ⟨g, _, fun k b => k ≠ 0 ∧ Q k b, rfl, hPg, hG, fun k b hk hb => ⟨(hq k b hk hb.2).1, (hq k b hk hb.2).2.1, fun j hj hne hqj => (hq k b hk hb.2).2.2 j hj hne hqj.2⟩, fun k hk => ?_⟩)
  by_cases hk0 : k = 0
  · subst hk0
    refine ⟨none, 0, ?_, ?_, ?_, ?_, ?_, ?_, OPs.nil _ _ _ _⟩ <;> simp [Array.getElem?_setIfInBounds, Pt.op, Pt.ctor, Pt.n, Pt.m, Pt.var, Pt.kids] <;> first | omega | (intro hc0; rw [hc0] at h6; simp at h6)
  · obtain ⟨A', cap, f0, f1, f2, f3, f4, f5, f6⟩ := hc k hk
    have hk1 : 1 ≤ k := by omega
    have hx : ∀ i, 6 ≤ i → ((((((cs.setIfInBounds 0 (.int .i64 2)).setIfInBounds 1 (.int .i64 0)).setIfInBounds 2 (.int .i64 0)).setIfInBounds 3 (.int .i64 0)).setIfInBounds 4 (.int .i64 0)).setIfInBounds 5 (.slice none 0 0))[i]? = cs[i]? := fun i hi => by
      rw [Array.getElem?_setIfInBounds_ne (by omega), Array.getElem?_setIfInBounds_ne (by omega), Array.getElem?_setIfInBounds_ne (by omega), Array.getElem?_setIfInBounds_ne (by omega), Array.getElem?_setIfInBounds_ne (by omega), Array.getElem?_setIfInBounds_ne (by omega)]
    have el : (Pt.mk 2 0 0 0 0 [] :: l)[k] = (x :: l)[k] := by
      obtain ⟨m, rfl⟩ : ∃ m, k = m + 1 := ⟨k - 1, by omega⟩
      rfl
    rw [el]
    exact ⟨A', cap, (hx _ (by omega)).trans f0, (hx _ (by omega)).trans f1, (hx _ (by omega)).trans f2, (hx _ (by omega)).trans f3, (hx _ (by omega)).trans f4, (hx _ (by omega)).trans f5, (f6.fr _ hf (fun b hb e => (hq k b hk hb).2.1 e)).wide _ (fun b hb => ⟨hk0, hb⟩)⟩
def PmQ (d : Nat) (P : Nat → Prop) (p : Pt) (B rb N : Nat) (w : World) (e : Ending) (w' : World) : Prop := ∃ (v : Pt) (A : Option Addr) (c : Nat), e = .returned (.agg #[.int .i64 v.op, .int .i64 v.ctor, .int .i64 v.n, .int .i64 v.m, .int .i64 v.var, .slice A v.kids.length c]) ∧ wP v ≤ wP p + 1 ∧ OPs (d + 2) w' (fun b => (P b ∨ w.heap.size ≤ b) ∧ b < w'.heap.size) A v.kids ∧ RRd w' B rb (N + 2) ∧ Fr (fun b => b = rb) w w'
theorem PmQ.mk {d : Nat} {P : Nat → Prop} {p v : Pt} {B rb N : Nat} {w wz : World} {A : Option Addr} {c : Nat} (hf : Fr (fun b => b = rb) w wz) (hR : RRd wz B rb (N + 2)) (ho : OPs (d + 2) wz (fun b => (P b ∨ w.heap.size + 3 ≤ b) ∧ b < wz.heap.size) A v.kids) (hl : w.heap.size + 1 < wz.heap.size) (hrb : rb < w.heap.size) (hP : B ≤ rb ∧ ∀ b, P b → b < w.heap.size) (hw : wP v ≤ wP p + 1) :
    PmQ d P p B rb N w (.returned (.agg #[.int .i64 v.op, .int .i64 v.ctor, .int .i64 v.n, .int .i64 v.m, .int .i64 v.var, .slice A v.kids.length c])) ((((((wz.setCell ⟨w.heap.size + 1, 0, none⟩ (.int .i64 v.op)).setCell ⟨w.heap.size + 1, 1, none⟩ (.int .i64 v.ctor)).setCell ⟨w.heap.size + 1, 2, none⟩ (.int .i64 v.n)).setCell ⟨w.heap.size + 1, 3, none⟩ (.int .i64 v.m)).setCell ⟨w.heap.size + 1, 4, none⟩ (.int .i64 v.var)).setCell ⟨w.heap.size + 1, 5, none⟩ (.slice A v.kids.length c)) :=
  ⟨v, A, c, rfl, hw, (ho.fr _ (Fr.six _ _ _ _ _ _ _ _) (fun b hb e => by rcases hb.1 with h | h; (have := hP.2 b h; omega); omega)).wide _ (fun b hb => ⟨hb.1.elim .inl (fun h => .inr (by omega)), by have := hb.2; simpa [World.setCell] using this⟩), hR.fr (Fr.six _ _ _ _ _ _ _ _) (fun b hb => by omega), hf.put6 (by omega) _ _ _ _ _ _⟩
theorem PmQ.mk' {d : Nat} {P : Nat → Prop} {p v : Pt} {B rb N n : Nat} {w wz : World} {A : Option Addr} {c : Nat} (hn : v.kids.length = n) (hf : Fr (fun b => b = rb) w wz) (hR : RRd wz B rb (N + 2)) (ho : OPs (d + 2) wz (fun b => (P b ∨ w.heap.size + 3 ≤ b) ∧ b < wz.heap.size) A v.kids) (hl : w.heap.size + 1 < wz.heap.size) (hrb : rb < w.heap.size) (hP : B ≤ rb ∧ ∀ b, P b → b < w.heap.size) (hw : wP v ≤ wP p + 1) :
    PmQ d P p B rb N w (.returned (.agg #[.int .i64 v.op, .int .i64 v.ctor, .int .i64 v.n, .int .i64 v.m, .int .i64 v.var, .slice A n c])) ((((((wz.setCell ⟨w.heap.size + 1, 0, none⟩ (.int .i64 v.op)).setCell ⟨w.heap.size + 1, 1, none⟩ (.int .i64 v.ctor)).setCell ⟨w.heap.size + 1, 2, none⟩ (.int .i64 v.n)).setCell ⟨w.heap.size + 1, 3, none⟩ (.int .i64 v.m)).setCell ⟨w.heap.size + 1, 4, none⟩ (.int .i64 v.var)).setCell ⟨w.heap.size + 1, 5, none⟩ (.slice A n c)) := by
  subst hn
  exact PmQ.mk hf hR ho hl hrb hP hw
set_option maxHeartbeats 16000000 in
theorem pm_any (d : Nat) (p : Pt) (A : Option Addr) (cap : Nat) (P : Nat → Prop) (B rb N : Nat) (w : World) (hO : OPs (d + 1) w P A p.kids) (hP : ∀ b, P b → b < w.heap.size ∧ b ≠ rb) (hR : RRd w B rb N) (hN : N ≤ 80000) (hk : p.kids.length ≤ 100000) :
    Calls Try.prog 69 #[.pointer (some ⟨rb, 0, none⟩), .agg #[.int .i64 p.op, .int .i64 p.ctor, .int .i64 p.n, .int .i64 p.m, .int .i64 p.var, .slice A p.kids.length cap]] w (PmQ d P p B rb N w) := by
  obtain ⟨i0, hi0, hz0, hz1, hz2⟩ := info_parts infoOP
  have hrl := hR.lt
  have hrg := hR.ge
  have HRL : Hid (rb < w.heap.size ∧ (B ≤ rb ∧ ∀ b, P b → b < w.heap.size)) := ⟨hrl, hrg, fun b h => (hP b h).1⟩
  have HPB : Hid (∀ b, (P b ∨ w.heap.size + 3 ≤ b) → b ≠ rb ∧ b ≠ w.heap.size + 1 ∧ b ≠ w.heap.size + 2) := fun b h => by
    rcases h with h | h
    · have := hP b h; omega
    · omega
  have HN := Lib.hid hN
  obtain ⟨news, Qa, hl6, hcl, h1c, hrow⟩ := hO.row (fun b h => (hP b h).1)
  generalize hwa : (((w.alloc (.cells #[.int .i64 p.op, .int .i64 p.ctor, .int .i64 p.n, .int .i64 p.m, .int .i64 p.var, .slice A p.kids.length cap] 50)).alloc (.cells #[.int .i64 0, .int .i64 0, .int .i64 0, .int .i64 0, .int .i64 0, .slice none 0 0] 50)).alloc (.cells #[.int .i64 p.op, .int .i64 p.ctor, .int .i64 p.n, .int .i64 p.m, .int .i64 p.var, .slice A p.kids.length cap] 50)).alloc (.cells #[] 50) = wa
  have hba : Below w.heap.size w wa := by rw [← hwa]; exact ((((Below.refl _ _).alloc (Nat.le_refl _) _).alloc (by simp) _).alloc (by simp <;> omega) _).alloc (by simp <;> omega) _
  have HZa : Hid (wa.heap[w.heap.size + 1]? = some (.cells #[.int .i64 0, .int .i64 0, .int .i64 0, .int .i64 0, .int .i64 0, .slice none 0 0] 50 (0, 0))) := by
    have h := heap_alloc_new (w.alloc (.cells #[.int .i64 p.op, .int .i64 p.ctor, .int .i64 p.n, .int .i64 p.m, .int .i64 p.var, .slice A p.kids.length cap] 50)) (.cells #[.int .i64 0, .int .i64 0, .int .i64 0, .int .i64 0, .int .i64 0, .slice none 0 0] 50)
    rw [World.size_alloc] at h
    unfold Hid; rw [← hwa]
    exact (Below.heap_alloc _ _ _ (by simp <;> omega)).trans ((Below.heap_alloc _ _ _ (by simp)).trans h)
  have HGa : Hid (wa.heap[w.heap.size + 2]? = some (.cells #[.int .i64 p.op, .int .i64 p.ctor, .int .i64 p.n, .int .i64 p.m, .int .i64 p.var, .slice A p.kids.length cap] 50 (0, 0))) := by
    have h := heap_alloc_new ((w.alloc (.cells #[.int .i64 p.op, .int .i64 p.ctor, .int .i64 p.n, .int .i64 p.m, .int .i64 p.var, .slice A p.kids.length cap] 50)).alloc (.cells #[.int .i64 0, .int .i64 0, .int .i64 0, .int .i64 0, .int .i64 0, .slice none 0 0] 50)) (.cells #[.int .i64 p.op, .int .i64 p.ctor, .int .i64 p.n, .int .i64 p.m, .int .i64 p.var, .slice A p.kids.length cap] 50)
    rw [World.size_alloc, World.size_alloc] at h
    unfold Hid; rw [← hwa]
    exact (Below.heap_alloc _ _ _ (by simp)).trans h
  have HSa : Hid (wa.heap.size = w.heap.size + 4) := by unfold Hid; rw [← hwa]; simp
  have HOa : Hid (wa.ownsRow (w.heap.size + 3) 50 6 (.slice (some ⟨w.heap.size + 3, 0, none⟩) 0 0) 0 []) := by
    have h := World.ownsRow_lit (base := w.heap.size + 3) (e := 50) (size := 6) (((w.alloc (.cells #[.int .i64 p.op, .int .i64 p.ctor, .int .i64 p.n, .int .i64 p.m, .int .i64 p.var, .slice A p.kids.length cap] 50)).alloc (.cells #[.int .i64 0, .int .i64 0, .int .i64 0, .int .i64 0, .int .i64 0, .slice none 0 0] 50)).alloc (.cells #[.int .i64 p.op, .int .i64 p.ctor, .int .i64 p.n, .int .i64 p.m, .int .i64 p.var, .slice A p.kids.length cap] 50)) #[] 0 (by simp) (by simp) rfl
    unfold Hid; rw [← hwa]
    simpa using h
  have HPa : Hid (wa.heap[w.heap.size]? = some (.cells #[.int .i64 p.op, .int .i64 p.ctor, .int .i64 p.n, .int .i64 p.m, .int .i64 p.var, .slice A p.kids.length cap] 50 (0, 0))) := by
    unfold Hid; rw [← hwa]
    exact (Below.heap_alloc _ _ _ (by simp <;> omega)).trans ((Below.heap_alloc _ _ _ (by simp <;> omega)).trans ((Below.heap_alloc _ _ _ (by simp)).trans (heap_alloc_new w _)))
  have HRa := Lib.hid (hR.below (hba.mono (Nat.le_refl _)))
  have HFa : Hid (Fr (fun b => b = rb) w wa) := Fr.below hba
  have HC1 : Hid (0 < p.kids.length → ∃ ad, A = some ad ∧ ∀ j u, news[j]? = some u → wa.cell? (ad.add j) = some u) := fun h0 => by
    obtain ⟨g0, e, hg0, _, hc⟩ := hcl h0
    refine ⟨_, e, fun j u hj => ?_⟩
    have h := (hba.cell (p := ⟨g0, 0 + j, none⟩) hg0).trans (show w.cell? ⟨g0, 0 + j, none⟩ = some u by rw [Nat.zero_add]; exact hc j u hj)
    by_cases hj0 : j = 0
    · subst hj0; simpa [Addr.add] using h
    · simpa [Addr.add, hj0] using h
  have HC2 := Lib.hid h1c
  have HC3 : Hid (0 + p.kids.length ≤ maxLen) := by unfold Hid maxLen; omega
  have HC4 : Hid ((0 + p.kids.length) * 64 ≤ 140737488355328) := by unfold Hid; omega
  have HC5 : Hid (w.heap.size + 3 ≤ wa.heap.size) := by have := HSa.out; unfold Hid; omega
  have HL6 := Lib.hid hl6
  have HROW := Lib.hid hrow
  have HWA := Lib.hid hwa
  have hgp := HPa.out
  obtain ⟨b0, b1, b2, b3, b4, b5, _⟩ := cellsP hgp
  clear hO hP hR hN hcl h1c hrow hwa hba hl6 hgp
  go_enter Try.func69, Try.ntmps69
  go_wp2_with (at_builtin; rw [HWA.out]; refine wpList_append_own_any rfl _ _ 48 rfl (w.heap.size + 3) 50 i0 (.agg #[.int .i64 0, .int .i64 0, .int .i64 0, .int .i64 0, .int .i64 0, .slice none 0 0]) 6 64 Try.underlying48 hi0 hz0 hz1 hz2 rfl (by decide) (.slice (some ⟨w.heap.size + 3, 0, none⟩) 0 0) 0 [] rfl HOa.out A p.kids.length cap news rfl HL6.out HC1.out HC2.out HC3.out HC4.out HC5.out ?_)
  intro v' w2 hown hgr hat
  obtain ⟨A2, c2, rfl, hnb⟩ := own_form hown
  have HSZ2 : Hid (wa.heap.size ≤ w2.heap.size) := hgr.size
  have hsa := HSa.out
  have hG2 : w2.heap[w.heap.size + 2]? = some (.cells #[.int .i64 p.op, .int .i64 p.ctor, .int .i64 p.n, .int .i64 p.m, .int .i64 p.var, .slice A p.kids.length cap] 50 (0, 0)) := (hgr.block _ (by omega) (fun e => by injection e with e; simp only at e; omega)).trans HGa.out
  have hZ2 : w2.heap[w.heap.size + 1]? = some (.cells #[.int .i64 0, .int .i64 0, .int .i64 0, .int .i64 0, .int .i64 0, .slice none 0 0] 50 (0, 0)) := (hgr.block _ (by omega) (fun e => by injection e with e; simp only at e; omega)).trans HZa.out
  have hfa2 : Fr (fun b => b = rb) w w2 := HFa.out.andThen (Fr.grown (P := fun b => w.heap.size + 3 ≤ b) hgr (fun b e => by injection e with e; simp only at e; omega)) (fun y hy e => by omega)
  have hRa2 : RRd w2 B rb N := HRa.out.fr (Fr.grown (P := fun b => w.heap.size + 3 ≤ b) hgr (fun b e => by injection e with e; simp only at e; omega)) (fun b hb => by omega)
  have hG3 : (w2.setCell ⟨w.heap.size + 2, 5, none⟩ (.slice A2 p.kids.length c2)).heap[w.heap.size + 2]? = some (.cells #[.int .i64 p.op, .int .i64 p.ctor, .int .i64 p.n, .int .i64 p.m, .int .i64 p.var, .slice A2 p.kids.length c2] 50 (0, 0)) := (heap_setCell_same w2 _ 5 _ _ _ hG2).trans rfl
  have hfs3 : Fr (fun b => b = w.heap.size + 2) w2 (w2.setCell ⟨w.heap.size + 2, 5, none⟩ (.slice A2 p.kids.length c2)) := Fr.set _ _ _ _ rfl
  obtain ⟨u0, u1, u2, u3, u4, u5, u6, u7, u8, u9, u10, u11⟩ := cellsP hG2
  have HNB := Lib.hid hnb
  have HF3 : Hid (Fr (fun b => b = rb) w (w2.setCell ⟨w.heap.size + 2, 5, none⟩ (.slice A2 p.kids.length c2))) := hfa2.andThen hfs3 (fun y hy e => by omega)
  have HR3 : Hid (RRd (w2.setCell ⟨w.heap.size + 2, 5, none⟩ (.slice A2 p.kids.length c2)) B rb N) := hRa2.fr hfs3 (fun b hb => by omega)
  have HZ3 : Hid ((w2.setCell ⟨w.heap.size + 2, 5, none⟩ (.slice A2 p.kids.length c2)).heap[w.heap.size + 1]? = some (.cells #[.int .i64 0, .int .i64 0, .int .i64 0, .int .i64 0, .int .i64 0, .slice none 0 0] 50 (0, 0))) := hfs3.block hZ2 (by omega)
  have HG3 := Lib.hid hG3
  have HOW3 : Hid ((w2.setCell ⟨w.heap.size + 2, 5, none⟩ (.slice A2 p.kids.length c2)).ownsRow (w.heap.size + 3) 50 6 (.slice A2 p.kids.length c2) p.kids.length news) := own_at hown (fun b e => Below.heap_setCell _ _ _ _ (by have := (hnb b e).1; simp only; omega))
  have HRW3 : Hid (RowG (d + 1) (w2.setCell ⟨w.heap.size + 2, 5, none⟩ (.slice A2 p.kids.length c2)) (Value.slice A2 p.kids.length c2).ownBlock P Qa p.kids news) := ((HROW.out (Value.slice A2 p.kids.length c2).ownBlock (fun b hb e => by have := HRL.out.2.2 b hb; have := (hnb b e.symm).1; omega)).fr HF3.out (fun b hb he hlt => ⟨fun e => by have := HPB.out b (.inl hb); omega, he⟩)).up
  clear hown hgr hat hG2 hZ2 hfa2 hRa2 hG3 hfs3 b0 b1 b2 b3 b4 b5
  go_wp2_with fail
  generalize (w2.setCell ⟨w.heap.size + 2, 5, none⟩ (.slice A2 p.kids.length c2)) = wc at HF3 HR3 HZ3 HG3 HOW3 HRW3 ⊢
  refine (pick_any rb B N 30 _ HR3.out (by have := HN.out; omega)).mono ?_
  rintro e wp ⟨k3', rfl, hk3, hRp, hgp⟩
  have hfp : Fr (fun b => b = rb) wc wp := Fr.grown hgp (fun b e => by injection e)
  have HFp : Hid (Fr (fun b => b = rb) w wp) := HF3.out.trans hfp
  have HRp := Lib.hid hRp
  have HGp : Hid (wp.heap[w.heap.size + 2]? = some (.cells #[.int .i64 p.op, .int .i64 p.ctor, .int .i64 p.n, .int .i64 p.m, .int .i64 p.var, .slice A2 p.kids.length c2] 50 (0, 0))) := hfp.block HG3.out (by omega)
  have HZp : Hid (wp.heap[w.heap.size + 1]? = some (.cells #[.int .i64 0, .int .i64 0, .int .i64 0, .int .i64 0, .int .i64 0, .slice none 0 0] 50 (0, 0))) := hfp.block HZ3.out (by omega)
  have HOWp : Hid (wp.ownsRow (w.heap.size + 3) 50 6 (.slice A2 p.kids.length c2) p.kids.length news) := own_at HOW3.out (fun b e => by
    obtain ⟨_, _, _, hob⟩ := own_form HOW3.out
    exact hfp.2.2.2.2 b (hob b e).2 (by have := (hob b e).1; omega))
  have HRWp : Hid (RowG (d + 1) wp (Value.slice A2 p.kids.length c2).ownBlock P Qa p.kids news) := HRW3.out.fr hfp (fun b hb he hlt => ⟨fun e => by have := HPB.out b (.inl hb); omega, he⟩)
  have HOp : Hid (OPs (d + 2) wp (fun b => (P b ∨ w.heap.size + 3 ≤ b) ∧ b < wp.heap.size) A2 p.kids) := by
    obtain ⟨A', c', e, h⟩ := OPs.of_rowG HOWp.out HRWp.out (by omega)
    injection e with e1
    subst e1
    exact h
  have hlo1 : w.heap.size + 1 < wp.heap.size := heap_lt HZp.out
  clear hRp hgp hfp HF3 HR3 HZ3 HG3 HOW3 HRW3 hk3 u0 u1 u2 u3 u4 u5 u6 u7 u8 u9 u10 u11
  by_cases h0 : k3' = 0
  · have q0 : ((k3' : Int) == 0) = true := ieq_t (by omega)
    clear h0
    clear hlo1
    go_wp2_with fail
    refine (num_n rb B (N + 1) 5 [0, 7, 1, 2, 5] rfl _ 5 _ (HRp.out.alloc _) (by have := HN.out; omega) (by decide) (RInts.lit _ _ _ rfl (by decide)) (fun b o e => by injection e with e; injection e with e; have := HFp.out.size; have := HRL.out.1; omega)).mono ?_
    rintro e w5 ⟨j5, hj5, rfl, hR5, hg5⟩
    generalize ([0, 7, 1, 2, 5] : List Int)[j5] = x
    have hf5 : Fr (fun b => b = rb) wp w5 := (Fr.below ((Below.refl _ wp).alloc (Nat.le_refl _) _)).trans (Fr.grown hg5 (fun b e => by injection e))
    have hG5 := hf5.block HGp.out (by have := HRL.out.1; omega)
    have hZ5 := hf5.block HZp.out (by have := HRL.out.1; omega)
    have hO5 : OPs (d + 2) w5 (fun b => (P b ∨ w.heap.size + 3 ≤ b) ∧ b < w5.heap.size) A2 p.kids := (HOp.out.fr _ hf5 (fun b hb e => by have := HPB.out b hb.1; omega)).wide _ (fun b hb => ⟨hb.1, Nat.lt_of_lt_of_le hb.2 hf5.size⟩)
    have hsz5 := hf5.size
    obtain ⟨k0, k1, k2, k3, k4, k5, k6, k7, k8, k9, k10, k11⟩ := cellsP hZ5
    obtain ⟨u0, u1, u2, u3, u4, u5, u6, u7, u8, u9, u10, u11⟩ := cellsP hG5
    have hfs : Fr (fun b => b = w.heap.size + 2) w5 (w5.setCell ⟨w.heap.size + 2, 0, none⟩ (.int .i64 x)) := Fr.set _ _ _ _ rfl
    have hFF : Fr (fun b => b = rb) w (w5.setCell ⟨w.heap.size + 2, 0, none⟩ (.int .i64 x)) := (HFp.out.trans hf5).andThen hfs (fun y hy e => by omega)
    have hOO : OPs (d + 2) (w5.setCell ⟨w.heap.size + 2, 0, none⟩ (.int .i64 x)) (fun b => (P b ∨ w.heap.size + 3 ≤ b) ∧ b < (w5.setCell ⟨w.heap.size + 2, 0, none⟩ (.int .i64 x)).heap.size) A2 p.kids := (hO5.fr _ hfs (fun b hb e => by have := HPB.out b hb.1; omega)).wide _ (fun b hb => ⟨hb.1, Nat.lt_of_lt_of_le hb.2 hfs.size⟩)
    have hRR : RRd (w5.setCell ⟨w.heap.size + 2, 0, none⟩ (.int .i64 x)) B rb (N + 2) := hR5.fr hfs (fun b hb => by have := HRL.out; omega)
    have hlo1 : w.heap.size + 1 < (w5.setCell ⟨w.heap.size + 2, 0, none⟩ (.int .i64 x)).heap.size := Nat.lt_of_lt_of_le (heap_lt hZ5) hfs.size
    clear hR5 hg5 hf5 hG5 hZ5 hO5 hj5
    have HFIN := PmQ.mk (N := N) (p := p) (v := .mk (x) (p.ctor) (p.n) (p.m) (p.var) p.kids) (A := A2) (c := c2) (hFF) (hRR) (hOO) hlo1 HRL.out.1 HRL.out.2 (by rw [wP, wP_kids p]; omega)
    go_wp2_with fail
    exact bodyPost_ret (v := .agg #[.int .i64 (x), .int .i64 (p.ctor), .int .i64 (p.n), .int .i64 (p.m), .int .i64 (p.var), .slice A2 p.kids.length c2]) (by simp [results, Try.results69, go_sem, k0, k1, k2, k3, k4, k5]) rfl HFIN
  by_cases h1 : k3' = 1
  · have q0 : ((k3' : Int) == 0) = false := ieq_f (by omega)
    have q1 : ((k3' : Int) == 1) = true := ieq_t (by omega)
    clear h1
    clear hlo1
    go_wp2_with fail
    refine (num_n rb B (N + 1) 3 [6, -1, 1] rfl _ 3 _ (HRp.out.alloc _) (by have := HN.out; omega) (by decide) (RInts.lit _ _ _ rfl (by decide)) (fun b o e => by injection e with e; injection e with e; have := HFp.out.size; have := HRL.out.1; omega)).mono ?_
    rintro e w5 ⟨j5, hj5, rfl, hR5, hg5⟩
    generalize ([6, -1, 1] : List Int)[j5] = x
    have hf5 : Fr (fun b => b = rb) wp w5 := (Fr.below ((Below.refl _ wp).alloc (Nat.le_refl _) _)).trans (Fr.grown hg5 (fun b e => by injection e))
    have hG5 := hf5.block HGp.out (by have := HRL.out.1; omega)
    have hZ5 := hf5.block HZp.out (by have := HRL.out.1; omega)
    have hO5 : OPs (d + 2) w5 (fun b => (P b ∨ w.heap.size + 3 ≤ b) ∧ b < w5.heap.size) A2 p.kids := (HOp.out.fr _ hf5 (fun b hb e => by have := HPB.out b hb.1; omega)).wide _ (fun b hb => ⟨hb.1, Nat.lt_of_lt_of_le hb.2 hf5.size⟩)
    have hsz5 := hf5.size
    obtain ⟨k0, k1, k2, k3, k4, k5, k6, k7, k8, k9, k10, k11⟩ := cellsP hZ5
    obtain ⟨u0, u1, u2, u3, u4, u5, u6, u7, u8, u9, u10, u11⟩ := cellsP hG5
    have hfs : Fr (fun b => b = w.heap.size + 2) w5 (w5.setCell ⟨w.heap.size + 2, 4, none⟩ (.int .i64 x)) := Fr.set _ _ _ _ rfl
    have hFF : Fr (fun b => b = rb) w (w5.setCell ⟨w.heap.size + 2, 4, none⟩ (.int .i64 x)) := (HFp.out.trans hf5).andThen hfs (fun y hy e => by omega)
    have hOO : OPs (d + 2) (w5.setCell ⟨w.heap.size + 2, 4, none⟩ (.int .i64 x)) (fun b => (P b ∨ w.heap.size + 3 ≤ b) ∧ b < (w5.setCell ⟨w.heap.size + 2, 4, none⟩ (.int .i64 x)).heap.size) A2 p.kids := (hO5.fr _ hfs (fun b hb e => by have := HPB.out b hb.1; omega)).wide _ (fun b hb => ⟨hb.1, Nat.lt_of_lt_of_le hb.2 hfs.size⟩)
    have hRR : RRd (w5.setCell ⟨w.heap.size + 2, 4, none⟩ (.int .i64 x)) B rb (N + 2) := hR5.fr hfs (fun b hb => by have := HRL.out; omega)
    have hlo1 : w.heap.size + 1 < (w5.setCell ⟨w.heap.size + 2, 4, none⟩ (.int .i64 x)).heap.size := Nat.lt_of_lt_of_le (heap_lt hZ5) hfs.size
    clear hR5 hg5 hf5 hG5 hZ5 hO5 hj5
    have HFIN := PmQ.mk (N := N) (p := p) (v := .mk (p.op) (p.ctor) (p.n) (p.m) (x) p.kids) (A := A2) (c := c2) (hFF) (hRR) (hOO) hlo1 HRL.out.1 HRL.out.2 (by rw [wP, wP_kids p]; omega)
    go_wp2_with fail
    exact bodyPost_ret (v := .agg #[.int .i64 (p.op), .int .i64 (p.ctor), .int .i64 (p.n), .int .i64 (p.m), .int .i64 (x), .slice A2 p.kids.length c2]) (by simp [results, Try.results69, go_sem, k0, k1, k2, k3, k4, k5]) rfl HFIN
  by_cases h2 : k3' = 2
  · have q0 : ((k3' : Int) == 0) = false := ieq_f (by omega)
    have q1 : ((k3' : Int) == 1) = false := ieq_f (by omega)
    have q2 : ((k3' : Int) == 2) = true := ieq_t (by omega)
    clear h2
    clear hlo1
    go_wp2_with fail
    refine (num_n rb B (N + 1) 3 [9, -1, 1] rfl _ 3 _ (HRp.out.alloc _) (by have := HN.out; omega) (by decide) (RInts.lit _ _ _ rfl (by decide)) (fun b o e => by injection e with e; injection e with e; have := HFp.out.size; have := HRL.out.1; omega)).mono ?_
    rintro e w5 ⟨j5, hj5, rfl, hR5, hg5⟩
    generalize ([9, -1, 1] : List Int)[j5] = x
    have hf5 : Fr (fun b => b = rb) wp w5 := (Fr.below ((Below.refl _ wp).alloc (Nat.le_refl _) _)).trans (Fr.grown hg5 (fun b e => by injection e))
    have hG5 := hf5.block HGp.out (by have := HRL.out.1; omega)
    have hZ5 := hf5.block HZp.out (by have := HRL.out.1; omega)
    have hO5 : OPs (d + 2) w5 (fun b => (P b ∨ w.heap.size + 3 ≤ b) ∧ b < w5.heap.size) A2 p.kids := (HOp.out.fr _ hf5 (fun b hb e => by have := HPB.out b hb.1; omega)).wide _ (fun b hb => ⟨hb.1, Nat.lt_of_lt_of_le hb.2 hf5.size⟩)
    have hsz5 := hf5.size
    obtain ⟨k0, k1, k2, k3, k4, k5, k6, k7, k8, k9, k10, k11⟩ := cellsP hZ5
    obtain ⟨u0, u1, u2, u3, u4, u5, u6, u7, u8, u9, u10, u11⟩ := cellsP hG5
    have hfs : Fr (fun b => b = w.heap.size + 2) w5 (w5.setCell ⟨w.heap.size + 2, 1, none⟩ (.int .i64 x)) := Fr.set _ _ _ _ rfl
    have hFF : Fr (fun b => b = rb) w (w5.setCell ⟨w.heap.size + 2, 1, none⟩ (.int .i64 x)) := (HFp.out.trans hf5).andThen hfs (fun y hy e => by omega)
    have hOO : OPs (d + 2) (w5.setCell ⟨w.heap.size + 2, 1, none⟩ (.int .i64 x)) (fun b => (P b ∨ w.heap.size + 3 ≤ b) ∧ b < (w5.setCell ⟨w.heap.size + 2, 1, none⟩ (.int .i64 x)).heap.size) A2 p.kids := (hO5.fr _ hfs (fun b hb e => by have := HPB.out b hb.1; omega)).wide _ (fun b hb => ⟨hb.1, Nat.lt_of_lt_of_le hb.2 hfs.size⟩)
    have hRR : RRd (w5.setCell ⟨w.heap.size + 2, 1, none⟩ (.int .i64 x)) B rb (N + 2) := hR5.fr hfs (fun b hb => by have := HRL.out; omega)
    have hlo1 : w.heap.size + 1 < (w5.setCell ⟨w.heap.size + 2, 1, none⟩ (.int .i64 x)).heap.size := Nat.lt_of_lt_of_le (heap_lt hZ5) hfs.size
    clear hR5 hg5 hf5 hG5 hZ5 hO5 hj5
    have HFIN := PmQ.mk (N := N) (p := p) (v := .mk (p.op) (x) (p.n) (p.m) (p.var) p.kids) (A := A2) (c := c2) (hFF) (hRR) (hOO) hlo1 HRL.out.1 HRL.out.2 (by rw [wP, wP_kids p]; omega)
    go_wp2_with fail
    exact bodyPost_ret (v := .agg #[.int .i64 (p.op), .int .i64 (x), .int .i64 (p.n), .int .i64 (p.m), .int .i64 (p.var), .slice A2 p.kids.length c2]) (by simp [results, Try.results69, go_sem, k0, k1, k2, k3, k4, k5]) rfl HFIN
  by_cases h3 : k3' = 3
  · have q0 : ((k3' : Int) == 0) = false := ieq_f (by omega)
    have q1 : ((k3' : Int) == 1) = false := ieq_f (by omega)
    have q2 : ((k3' : Int) == 2) = false := ieq_f (by omega)
    have q3 : ((k3' : Int) == 3) = true := ieq_t (by omega)
    clear h3
    clear hlo1
    have hG5 := HGp.out
    obtain ⟨u0, u1, u2, u3, u4, u5, _⟩ := cellsP hG5
    have HD1 := Lib.hid (cell_six_new wp (.int .i64 2) (.int .i64 0) (.int .i64 0) (.int .i64 0) (.int .i64 0) (.slice none 0 0) 50)
    have HD1' : Hid (0 < 1 → ∃ ad, (some ⟨wp.heap.size, 0, none⟩ : Option Addr) = some ad ∧ ∀ j u, ([.int .i64 2, .int .i64 0, .int .i64 0, .int .i64 0, .int .i64 0, .slice none 0 0] : List Value)[j]? = some u → (wp.alloc (.cells #[.int .i64 2, .int .i64 0, .int .i64 0, .int .i64 0, .int .i64 0, .slice none 0 0] 50)).cell? (ad.add j) = some u) := fun _ => ⟨_, rfl, HD1.out⟩
    have HD2 : Hid (∀ u ∈ ([.int .i64 2, .int .i64 0, .int .i64 0, .int .i64 0, .int .i64 0, .slice none 0 0] : List Value), u.oneCell' = true) := by intro u hu; simp at hu; rcases hu with rfl | rfl | rfl <;> rfl
    have HD3 : Hid (p.kids.length + 1 ≤ maxLen) := by unfold Hid maxLen; omega
    have HD4 : Hid ((p.kids.length + 1) * 64 ≤ 140737488355328) := by unfold Hid; omega
    have HD5 : Hid (w.heap.size + 3 ≤ (wp.alloc (.cells #[.int .i64 2, .int .i64 0, .int .i64 0, .int .i64 0, .int .i64 0, .slice none 0 0] 50)).heap.size) := by have := HFp.out.size; obtain ⟨_, _, _, hob⟩ := own_form HOWp.out; have := heap_lt HGp.out; unfold Hid; rw [World.size_alloc]; omega
    go_wp2_with (at_builtin; refine wpList_append_own_any rfl _ _ 48 rfl (w.heap.size + 3) 50 i0 (.agg #[.int .i64 0, .int .i64 0, .int .i64 0, .int .i64 0, .int .i64 0, .slice none 0 0]) 6 64 Try.underlying48 hi0 hz0 hz1 hz2 rfl (by decide) (.slice A2 p.kids.length c2) p.kids.length news rfl (HOWp.out.alloc _) (some ⟨wp.heap.size, 0, none⟩) 1 1 [.int .i64 2, .int .i64 0, .int .i64 0, .int .i64 0, .int .i64 0, .slice none 0 0] rfl rfl HD1'.out HD2.out HD3.out HD4.out HD5.out ?_)
    intro v5 w5 hown5 hgr5 hat5
    obtain ⟨A3, c3, rfl, hnb5⟩ := own_form hown5
    obtain ⟨_, _, _, hob⟩ := own_form HOWp.out
    have hgrf : Fr (fun b => w.heap.size + 3 ≤ b) wp w5 := (Fr.below ((Below.refl _ wp).alloc (Nat.le_refl _) _)).trans (Fr.grown hgr5 (fun b e => (hob b e.symm).1))
    have hr1 : RowG (d + 1) w5 (Value.slice A3 (p.kids.length + 1) c3).ownBlock P Qa p.kids news := HRWp.out.fr hgrf (fun b hb he hlt => ⟨fun e => by have := HRL.out.2.2 b hb; omega, fun e => by have := HRL.out.2.2 b hb; have := (hnb5 b e.symm).1; omega⟩)
    have hr2 := hr1.snoc (v := .mk 2 0 0 0 0 []) (K := fun _ => False) (A' := none) (cap := 0) (by have := HOWp.out.1; omega) (fun b h => h.elim) (OPs.nil _ _ _ _) rfl
    have hll : (p.kids ++ [Pt.mk 2 0 0 0 0 []]).length = p.kids.length + 1 := by simp
    have hO5 : OPs (d + 2) w5 (fun b => (P b ∨ w.heap.size + 3 ≤ b) ∧ b < w5.heap.size) A3 (p.kids ++ [Pt.mk 2 0 0 0 0 []]) := by
      obtain ⟨A', c', e, h⟩ := OPs.of_rowG (v := .slice A3 (p.kids.length + 1) c3) (l := p.kids ++ [Pt.mk 2 0 0 0 0 []]) (by rw [hll]; exact hown5) hr2 (by rw [hll]; omega)
      injection e with e1
      subst e1
      exact h
    have hf5 : Fr (fun b => b = rb) w w5 := HFp.out.andThen hgrf (fun y hy e => by omega)
    have hR5 : RRd w5 B rb (N + 1) := HRp.out.fr hgrf (fun b hb => by have := HRL.out; omega)
    have hG6 := hgrf.block HGp.out (by omega)
    have hZ5 := hgrf.block HZp.out (by omega)
    have hfs : Fr (fun b => b = w.heap.size + 2) w5 (w5.setCell ⟨w.heap.size + 2, 5, none⟩ (.slice A3 (p.kids.length + 1) c3)) := Fr.set _ _ _ _ rfl
    have hFF : Fr (fun b => b = rb) w (w5.setCell ⟨w.heap.size + 2, 5, none⟩ (.slice A3 (p.kids.length + 1) c3)) := hf5.andThen hfs (fun y hy e => by omega)
    have hOO : OPs (d + 2) (w5.setCell ⟨w.heap.size + 2, 5, none⟩ (.slice A3 (p.kids.length + 1) c3)) (fun b => (P b ∨ w.heap.size + 3 ≤ b) ∧ b < (w5.setCell ⟨w.heap.size + 2, 5, none⟩ (.slice A3 (p.kids.length + 1) c3)).heap.size) A3 (p.kids ++ [Pt.mk 2 0 0 0 0 []]) := (hO5.fr _ hfs (fun b hb e => by have := HPB.out b hb.1; omega)).wide _ (fun b hb => ⟨hb.1, Nat.lt_of_lt_of_le hb.2 hfs.size⟩)
    have hRR : RRd (w5.setCell ⟨w.heap.size + 2, 5, none⟩ (.slice A3 (p.kids.length + 1) c3)) B rb (N + 2) := (hR5.fr hfs (fun b hb => by have := HRL.out; omega)).more (by omega)
    have hlo1 : w.heap.size + 1 < (w5.setCell ⟨w.heap.size + 2, 5, none⟩ (.slice A3 (p.kids.length + 1) c3)).heap.size := Nat.lt_of_lt_of_le (heap_lt hZ5) hfs.size
    obtain ⟨k0, k1, k2, k3, k4, k5, k6, k7, k8, k9, k10, k11⟩ := cellsP hZ5
    clear u0 u1 u2 u3 u4 u5
    obtain ⟨u0, u1, u2, u3, u4, u5, u6, u7, u8, u9, u10, u11⟩ := cellsP hG6
    have HFIN := PmQ.mk' (N := N) (p := p) (v := .mk p.op p.ctor p.n p.m p.var (p.kids ++ [Pt.mk 2 0 0 0 0 []])) (A := A3) (c := c3) hll hFF hRR hOO hlo1 HRL.out.1 HRL.out.2 (by rw [wP, wPs_snoc, wP_kids p, wP, wPs]; omega)
    clear hown5 hgr5 hat5 hr1 hr2 hO5 hf5 hR5 hG6 hZ5 hfs hFF hOO hRR
    go_wp2_with fail
    exact bodyPost_ret (v := .agg #[.int .i64 p.op, .int .i64 p.ctor, .int .i64 p.n, .int .i64 p.m, .int .i64 p.var, .slice A3 (p.kids.length + 1) c3]) (by simp [results, Try.results69, go_sem, k0, k1, k2, k3, k4, k5]) rfl HFIN
  by_cases h4 : k3' = 4
  · have q0 : ((k3' : Int) == 0) = false := ieq_f (by omega)
    have q1 : ((k3' : Int) == 1) = false := ieq_f (by omega)
    have q2 : ((k3' : Int) == 2) = false := ieq_f (by omega)
    have q3 : ((k3' : Int) == 3) = false := ieq_f (by omega)
    have q4 : ((k3' : Int) == 4) = true := ieq_t (by omega)
    clear h4
    have hZ5 := HZp.out
    have hG5 := HGp.out
    obtain ⟨k0, k1, k2, k3, k4, k5, k6, k7, k8, k9, k10, k11⟩ := cellsP hZ5
    obtain ⟨u0, u1, u2, u3, u4, u5, u6, u7, u8, u9, u10, u11⟩ := cellsP hG5
    by_cases hl0 : 0 < p.kids.length
    · have hl0I : (0 : Int) < (p.kids.length : Int) := by omega
      obtain ⟨gk, rfl, hgk⟩ : ∃ gk, A2 = some ⟨gk, 0, none⟩ ∧ w.heap.size + 3 ≤ gk := by
        rcases HOWp.out.2 with ⟨e, h0⟩ | ⟨g, cap', cur, e, hb, _⟩
        · omega
        · injection e with e1; exact ⟨g, e1, hb⟩
      have hOk := HOp.out
      obtain ⟨x, l', hxl⟩ : ∃ x l', p.kids = x :: l' := by
        cases hpk : p.kids with
        | nil => rw [hpk] at hl0; exact absurd hl0 (by simp)
        | cons x l' => exact ⟨x, l', rfl⟩
      rw [hxl] at hOk
      obtain ⟨⟨y0, y1, y2, y3, y4, sy, cs, hcs, c0, c1, c2', c3, c4, c5⟩, hO6⟩ := hOk.set0
      have z0 : wp.cell? ⟨gk, 0, none⟩ = some (.int .i64 y0) := (cell_of_blk hcs 0).trans c0
      have z1 : wp.cell? ⟨gk, 1, none⟩ = some (.int .i64 y1) := (cell_of_blk hcs 1).trans c1
      have z2 : wp.cell? ⟨gk, 2, none⟩ = some (.int .i64 y2) := (cell_of_blk hcs 2).trans c2'
      have z3 : wp.cell? ⟨gk, 3, none⟩ = some (.int .i64 y3) := (cell_of_blk hcs 3).trans c3
      have z4 : wp.cell? ⟨gk, 4, none⟩ = some (.int .i64 y4) := (cell_of_blk hcs 4).trans c4
      have z5 : wp.cell? ⟨gk, 5, none⟩ = some sy := (cell_of_blk hcs 5).trans c5
      have fz := free_of_blk hcs
      have f0 := fz 0
      have f1 := fz 1
      have f2 := fz 2
      have f3 := fz 3
      have f4 := fz 4
      have f5 := fz 5
      have hfs := Fr.six wp gk (.int .i64 2) (.int .i64 0) (.int .i64 0) (.int .i64 0) (.int .i64 0) (.slice none 0 0)
      have hne1 : gk ≠ w.heap.size + 2 := by omega
      have hne2 : gk ≠ w.heap.size + 1 := by omega
      have hF6 := HFp.out.andThen hfs (fun y hy e => by omega)
      have hR6 : RRd ((((((wp.setCell ⟨gk, 0, none⟩ (.int .i64 2)).setCell ⟨gk, 1, none⟩ (.int .i64 0)).setCell ⟨gk, 2, none⟩ (.int .i64 0)).setCell ⟨gk, 3, none⟩ (.int .i64 0)).setCell ⟨gk, 4, none⟩ (.int .i64 0)).setCell ⟨gk, 5, none⟩ (.slice none 0 0)) B rb (N + 2) := (HRp.out.fr hfs (fun b hb => by have := HRL.out; omega)).more (by omega)
      have hO7 := hO6.wide (P' := fun b => (P b ∨ w.heap.size + 3 ≤ b) ∧ b < ((((((wp.setCell ⟨gk, 0, none⟩ (.int .i64 2)).setCell ⟨gk, 1, none⟩ (.int .i64 0)).setCell ⟨gk, 2, none⟩ (.int .i64 0)).setCell ⟨gk, 3, none⟩ (.int .i64 0)).setCell ⟨gk, 4, none⟩ (.int .i64 0)).setCell ⟨gk, 5, none⟩ (.slice none 0 0)).heap.size) _ (fun b hb => ⟨hb.1, Nat.lt_of_lt_of_le hb.2 hfs.size⟩)
      have hlo2 : w.heap.size + 1 < ((((((wp.setCell ⟨gk, 0, none⟩ (.int .i64 2)).setCell ⟨gk, 1, none⟩ (.int .i64 0)).setCell ⟨gk, 2, none⟩ (.int .i64 0)).setCell ⟨gk, 3, none⟩ (.int .i64 0)).setCell ⟨gk, 4, none⟩ (.int .i64 0)).setCell ⟨gk, 5, none⟩ (.slice none 0 0)).heap.size := Nat.lt_of_lt_of_le hlo1 hfs.size
      have hll : (Pt.mk 2 0 0 0 0 [] :: l').length = p.kids.length := by rw [hxl]; rfl
      have HFIN := PmQ.mk' (N := N) (p := p) (v := .mk p.op p.ctor p.n p.m p.var (.mk 2 0 0 0 0 [] :: l')) (A := some ⟨gk, 0, none⟩) (c := c2) hll hF6 hR6 hO7 hlo2 HRL.out.1 HRL.out.2 (by rw [wP, wPs, wP, wPs, wP_kids p, hxl, wPs]; omega)
      clear hOk hO6 hcs c0 c1 c2' c3 c4 c5 fz hfs hF6 hR6 hO7 hxl hll
      go_wp2_with fail
      exact bodyPost_ret (v := .agg #[.int .i64 p.op, .int .i64 p.ctor, .int .i64 p.n, .int .i64 p.m, .int .i64 p.var, .slice (some ⟨gk, 0, none⟩) p.kids.length c2]) (by simp [results, Try.results69, go_sem, k0, k1, k2, k3, k4, k5]) rfl HFIN
    · have hl0I : (p.kids.length : Int) ≤ 0 := by omega
      have HFIN := PmQ.mk (N := N) (p := p) (v := .mk (p.op) (p.ctor) (p.n) (p.m) (p.var) p.kids) (A := A2) (c := c2) (HFp.out) (HRp.out.more (by omega)) (HOp.out) hlo1 HRL.out.1 HRL.out.2 (by rw [wP, wP_kids p]; omega)
      go_wp2_with fail
      exact bodyPost_ret (v := .agg #[.int .i64 (p.op), .int .i64 (p.ctor), .int .i64 (p.n), .int .i64 (p.m), .int .i64 (p.var), .slice A2 p.kids.length c2]) (by simp [results, Try.results69, go_sem, k0, k1, k2, k3, k4, k5]) rfl HFIN
  by_cases h5 : k3' = 5
  · have q0 : ((k3' : Int) == 0) = false := ieq_f (by omega)
    have q1 : ((k3' : Int) == 1) = false := ieq_f (by omega)
    have q2 : ((k3' : Int) == 2) = false := ieq_f (by omega)
    have q3 : ((k3' : Int) == 3) = false := ieq_f (by omega)
    have q4 : ((k3' : Int) == 4) = false := ieq_f (by omega)
    have q5 : ((k3' : Int) == 5) = true := ieq_t (by omega)
    clear h5
    clear hlo1
    go_wp2_with fail
    refine (num_n rb B (N + 1) 3 [10, -1, 5] rfl _ 3 _ (HRp.out.alloc _) (by have := HN.out; omega) (by decide) (RInts.lit _ _ _ rfl (by decide)) (fun b o e => by injection e with e; injection e with e; have := HFp.out.size; have := HRL.out.1; omega)).mono ?_
    rintro e w5 ⟨j5, hj5, rfl, hR5, hg5⟩
    generalize ([10, -1, 5] : List Int)[j5] = x
    have hf5 : Fr (fun b => b = rb) wp w5 := (Fr.below ((Below.refl _ wp).alloc (Nat.le_refl _) _)).trans (Fr.grown hg5 (fun b e => by injection e))
    have hG5 := hf5.block HGp.out (by have := HRL.out.1; omega)
    have hZ5 := hf5.block HZp.out (by have := HRL.out.1; omega)
    have hO5 : OPs (d + 2) w5 (fun b => (P b ∨ w.heap.size + 3 ≤ b) ∧ b < w5.heap.size) A2 p.kids := (HOp.out.fr _ hf5 (fun b hb e => by have := HPB.out b hb.1; omega)).wide _ (fun b hb => ⟨hb.1, Nat.lt_of_lt_of_le hb.2 hf5.size⟩)
    have hsz5 := hf5.size
    obtain ⟨k0, k1, k2, k3, k4, k5, k6, k7, k8, k9, k10, k11⟩ := cellsP hZ5
    obtain ⟨u0, u1, u2, u3, u4, u5, u6, u7, u8, u9, u10, u11⟩ := cellsP hG5
    have hfs : Fr (fun b => b = w.heap.size + 2) w5 (w5.setCell ⟨w.heap.size + 2, 2, none⟩ (.int .i64 x)) := Fr.set _ _ _ _ rfl
    have hFF : Fr (fun b => b = rb) w (w5.setCell ⟨w.heap.size + 2, 2, none⟩ (.int .i64 x)) := (HFp.out.trans hf5).andThen hfs (fun y hy e => by omega)
    have hOO : OPs (d + 2) (w5.setCell ⟨w.heap.size + 2, 2, none⟩ (.int .i64 x)) (fun b => (P b ∨ w.heap.size + 3 ≤ b) ∧ b < (w5.setCell ⟨w.heap.size + 2, 2, none⟩ (.int .i64 x)).heap.size) A2 p.kids := (hO5.fr _ hfs (fun b hb e => by have := HPB.out b hb.1; omega)).wide _ (fun b hb => ⟨hb.1, Nat.lt_of_lt_of_le hb.2 hfs.size⟩)
    have hRR : RRd (w5.setCell ⟨w.heap.size + 2, 2, none⟩ (.int .i64 x)) B rb (N + 2) := hR5.fr hfs (fun b hb => by have := HRL.out; omega)
    have hlo1 : w.heap.size + 1 < (w5.setCell ⟨w.heap.size + 2, 2, none⟩ (.int .i64 x)).heap.size := Nat.lt_of_lt_of_le (heap_lt hZ5) hfs.size
    clear hR5 hg5 hf5 hG5 hZ5 hO5 hj5
    have HFIN := PmQ.mk (N := N) (p := p) (v := .mk (p.op) (p.ctor) (x) (p.m) (p.var) p.kids) (A := A2) (c := c2) (hFF) (hRR) (hOO) hlo1 HRL.out.1 HRL.out.2 (by rw [wP, wP_kids p]; omega)
    go_wp2_with fail
    exact bodyPost_ret (v := .agg #[.int .i64 (p.op), .int .i64 (p.ctor), .int .i64 (x), .int .i64 (p.m), .int .i64 (p.var), .slice A2 p.kids.length c2]) (by simp [results, Try.results69, go_sem, k0, k1, k2, k3, k4, k5]) rfl HFIN
  have q0 : ((k3' : Int) == 0) = false := ieq_f (by omega)
  have q1 : ((k3' : Int) == 1) = false := ieq_f (by omega)
  have q2 : ((k3' : Int) == 2) = false := ieq_f (by omega)
  have q3 : ((k3' : Int) == 3) = false := ieq_f (by omega)
  have q4 : ((k3' : Int) == 4) = false := ieq_f (by omega)
  have q5 : ((k3' : Int) == 5) = false := ieq_f (by omega)
  have hZ5 := HZp.out
  have hG5 := HGp.out
  obtain ⟨k0, k1, k2, k3, k4, k5, k6, k7, k8, k9, k10, k11⟩ := cellsP hZ5
  obtain ⟨u0, u1, u2, u3, u4, u5, u6, u7, u8, u9, u10, u11⟩ := cellsP hG5
  have HFIN := PmQ.mk (N := N) (p := p) (v := .mk (p.op) (p.ctor) (p.n) (p.m) (p.var) p.kids) (A := A2) (c := c2) (HFp.out) (HRp.out.more (by omega)) (HOp.out) hlo1 HRL.out.1 HRL.out.2 (by rw [wP, wP_kids p]; omega)
  go_wp2_with fail
  exact bodyPost_ret (v := .agg #[.int .i64 (p.op), .int .i64 (p.ctor), .int .i64 (p.n), .int .i64 (p.m), .int .i64 (p.var), .slice A2 p.kids.length c2]) (by simp [results, Try.results69, go_sem, k0, k1, k2, k3, k4, k5]) rfl HFIN
end Go.Proofs.Yteoopmogklpnoaa
