/-
  Copies of lists of clauses in blocks of their own. No statement is proved here.
-/
import Derived.Test.YthdnfnmglhifmaaU04
import Derived.Test.YthdnfnmglhifmaaU02
import Derived.Test.YthdnfnmglhifmaaU03
import Derived.Deep.Strs
namespace Go.Proofs.Ythdnfnmglhifmaa
open Go.RowKit Go.Sort
set_option maxRecDepth 100000
set_option linter.unusedVariables false
set_option maxHeartbeats 3200000 in
theorem toCO_any (d : Nat) (A : Option Addr) (l : List Cn) (cap : Nat) (w : World) (hr : RCs d w w.heap.size A l) (hn : wCs l ≤ 1048576) :
    Calls Try.prog 36 #[.slice A l.length cap] w fun e w' => ∃ A2, e = .returned (.slice A2 l.length l.length) ∧ OCs (d + 1) w' (Nw w w') A2 l ∧ Below w.heap.size w w' := by
  obtain ⟨i0, hi, hz0, hz1, hz2⟩ := info_parts infoCn
  have Hr := Lib.hid hr
  have HSum : Hid (wCs l = l.length + (l.map wC).sum) := rfl
  have hl : l.length ≤ 1048576 := by have := HSum.out; omega
  clear hr
  go_enter Try.func36, Try.ntmps36
  go_wp2_with (at_make; refine wpList_make_full _ rfl _ _ 72 rfl w.heap.size 102 i0 _ 9 Try.underlying72 hi hz0 hz1 _ _ _ _ l.length rfl rfl rfl rfl (by rw [hz2]; omega) (by unfold maxLen; omega) (Nat.le_refl _) ?_; intro w1 hown hgr)
  go_loopw [4] (fun i wr => ∃ k : Nat, k ≤ l.length ∧ i = .int .i64 k ∧ ∃ xs Q, wr.ownsRow w.heap.size 102 9 (.slice (some ⟨w.heap.size, 0, none⟩) l.length l.length) l.length xs ∧ RowC (d + 1) wr w.heap.size (some w.heap.size) Q l xs k ∧ Below w.heap.size w wr) (fun i _ => l.length - (intOf i).toNat)
  case atStart => exact ⟨0, by omega, rfl, _, fun _ _ => False, hown, RowC.zero _ _ _ _ _ _ _, below_of_grown hgr (Nat.le_refl _)⟩
  case round =>
    obtain ⟨k, hk, rfl, xs, Q, hown, hrow, hb⟩ := hrel
    clear hgr hi hz0 hz1 hz2
    by_cases hlt : k < l.length
    · obtain ⟨b, off, rfl, hbB, A', cp, c0, c1, c2, c3, c4, c5, c6, c7, c8, hm⟩ := (Hr.out.below hb (Nat.le_refl _)).2 k hlt
      have ha : wPs l[k].pat.kids ≤ 1048576 := by
        have h1 := sum_take_succ wC l k hlt
        have h2 := sum_take_le wC l (k + 1)
        have h3 : wC l[k] = wPs l[k].pat.kids := rfl
        have h4 := HSum.out
        omega
      have Hm := Lib.hid (hm.keep (fun _ _ => rfl) hb.size)
      have hwl : w.heap.size < wr.heap.size := own_lt hown
      have HROW := Lib.hid hrow
      clear hm hrow
      go_wp2_with (go_at_call 75; refine (toC_any d _ _ _ _ _ _ _ _ _ _ _ _ Hm.out ha).mono ?_; rintro e w2 ⟨A2, rfl, hf, hb2⟩; have hown2 := own_below hown hb2; obtain ⟨v0, f0⟩ := own_cell hown2 (k * 9) (by omega); have g0 := hown2.frozenAt (k * 9); obtain ⟨v1, f1⟩ := own_cell hown2 (k * 9 + 1) (by omega); have g1 := hown2.frozenAt (k * 9 + 1); obtain ⟨v2, f2⟩ := own_cell hown2 (k * 9 + 2) (by omega); have g2 := hown2.frozenAt (k * 9 + 2); obtain ⟨v3, f3⟩ := own_cell hown2 (k * 9 + 3) (by omega); have g3 := hown2.frozenAt (k * 9 + 3); obtain ⟨v4, f4⟩ := own_cell hown2 (k * 9 + 4) (by omega); have g4 := hown2.frozenAt (k * 9 + 4); obtain ⟨v5, f5⟩ := own_cell hown2 (k * 9 + 5) (by omega); have g5 := hown2.frozenAt (k * 9 + 5); obtain ⟨v6, f6⟩ := own_cell hown2 (k * 9 + 6) (by omega); have g6 := hown2.frozenAt (k * 9 + 6); obtain ⟨v7, f7⟩ := own_cell hown2 (k * 9 + 7) (by omega); have g7 := hown2.frozenAt (k * 9 + 7); obtain ⟨v8, f8⟩ := own_cell hown2 (k * 9 + 8) (by omega); have g8 := hown2.frozenAt (k * 9 + 8); skip)
      have hx := hown2.1
      have s1 := (hown2.stored (k * 9) (.int .i64 l[k].pat.op)).1
      have s2 := (s1.stored (k * 9 + 1) (.int .i64 l[k].pat.ctor)).1
      have s3 := (s2.stored (k * 9 + 2) (.int .i64 l[k].pat.n)).1
      have s4 := (s3.stored (k * 9 + 3) (.int .i64 l[k].pat.m)).1
      have s5 := (s4.stored (k * 9 + 4) (.int .i64 l[k].pat.var)).1
      have s6 := (s5.stored (k * 9 + 5) (.slice A2 l[k].pat.kids.length l[k].pat.kids.length)).1
      have s7 := (s6.stored (k * 9 + 6) (.int .i64 l[k].g0)).1
      have s8 := (s7.stored (k * 9 + 7) (.int .i64 l[k].g1)).1
      have s9 := (s8.stored (k * 9 + 8) (.int .i64 l[k].g2)).1
      have hrow2 := HROW.out.more (xs' := (((((((((xs.set (k * 9) (.int .i64 l[k].pat.op)).set (k * 9 + 1) (.int .i64 l[k].pat.ctor)).set (k * 9 + 2) (.int .i64 l[k].pat.n)).set (k * 9 + 3) (.int .i64 l[k].pat.m)).set (k * 9 + 4) (.int .i64 l[k].pat.var)).set (k * 9 + 5) (.slice A2 l[k].pat.kids.length l[k].pat.kids.length)).set (k * 9 + 6) (.int .i64 l[k].g0)).set (k * 9 + 7) (.int .i64 l[k].g1)).set (k * 9 + 8) (.int .i64 l[k].g2))) hb2 hlt (by omega) (fun g e => by injection e with e; omega) hf (fun j c hj hc => by rw [List.getElem?_set_ne (by omega), List.getElem?_set_ne (by omega), List.getElem?_set_ne (by omega), List.getElem?_set_ne (by omega), List.getElem?_set_ne (by omega), List.getElem?_set_ne (by omega), List.getElem?_set_ne (by omega), List.getElem?_set_ne (by omega), List.getElem?_set_ne (by omega)]) (by rw [List.getElem?_set_ne (by omega), List.getElem?_set_ne (by omega), List.getElem?_set_ne (by omega), List.getElem?_set_ne (by omega), List.getElem?_set_ne (by omega), List.getElem?_set_ne (by omega), List.getElem?_set_ne (by omega), List.getElem?_set_ne (by omega), List.getElem?_set_self (by first | omega | (simp <;> omega))]) (by rw [List.getElem?_set_ne (by omega), List.getElem?_set_ne (by omega), List.getElem?_set_ne (by omega), List.getElem?_set_ne (by omega), List.getElem?_set_ne (by omega), List.getElem?_set_ne (by omega), List.getElem?_set_ne (by omega), List.getElem?_set_self (by first | omega | (simp <;> omega))]) (by rw [List.getElem?_set_ne (by omega), List.getElem?_set_ne (by omega), List.getElem?_set_ne (by omega), List.getElem?_set_ne (by omega), List.getElem?_set_ne (by omega), List.getElem?_set_ne (by omega), List.getElem?_set_self (by first | omega | (simp <;> omega))]) (by rw [List.getElem?_set_ne (by omega), List.getElem?_set_ne (by omega), List.getElem?_set_ne (by omega), List.getElem?_set_ne (by omega), List.getElem?_set_ne (by omega), List.getElem?_set_self (by first | omega | (simp <;> omega))]) (by rw [List.getElem?_set_ne (by omega), List.getElem?_set_ne (by omega), List.getElem?_set_ne (by omega), List.getElem?_set_ne (by omega), List.getElem?_set_self (by first | omega | (simp <;> omega))]) (by rw [List.getElem?_set_ne (by omega), List.getElem?_set_ne (by omega), List.getElem?_set_ne (by omega), List.getElem?_set_self (by first | omega | (simp <;> omega))]) (by rw [List.getElem?_set_ne (by omega), List.getElem?_set_ne (by omega), List.getElem?_set_self (by first | omega | (simp <;> omega))]) (by rw [List.getElem?_set_ne (by omega), List.getElem?_set_self (by first | omega | (simp <;> omega))]) (by rw [List.getElem?_set_self (by first | omega | (simp <;> omega))])
      have hrow3 := hrow2.fr (w' := (((((((((w2.setCell ⟨w.heap.size, k * 9, none⟩ (.int .i64 l[k].pat.op)).setCell ⟨w.heap.size, k * 9 + 1, none⟩ (.int .i64 l[k].pat.ctor)).setCell ⟨w.heap.size, k * 9 + 2, none⟩ (.int .i64 l[k].pat.n)).setCell ⟨w.heap.size, k * 9 + 3, none⟩ (.int .i64 l[k].pat.m)).setCell ⟨w.heap.size, k * 9 + 4, none⟩ (.int .i64 l[k].pat.var)).setCell ⟨w.heap.size, k * 9 + 5, none⟩ (.slice A2 l[k].pat.kids.length l[k].pat.kids.length)).setCell ⟨w.heap.size, k * 9 + 6, none⟩ (.int .i64 l[k].g0)).setCell ⟨w.heap.size, k * 9 + 7, none⟩ (.int .i64 l[k].g1)).setCell ⟨w.heap.size, k * 9 + 8, none⟩ (.int .i64 l[k].g2))) (P' := fun b => b = w.heap.size) (((((((((Fr.set (P := fun b => b = w.heap.size) _ _ _ _ rfl).trans (Fr.set (P := fun b => b = w.heap.size) _ _ _ _ rfl)).trans (Fr.set (P := fun b => b = w.heap.size) _ _ _ _ rfl)).trans (Fr.set (P := fun b => b = w.heap.size) _ _ _ _ rfl)).trans (Fr.set (P := fun b => b = w.heap.size) _ _ _ _ rfl)).trans (Fr.set (P := fun b => b = w.heap.size) _ _ _ _ rfl)).trans (Fr.set (P := fun b => b = w.heap.size) _ _ _ _ rfl)).trans (Fr.set (P := fun b => b = w.heap.size) _ _ _ _ rfl)).trans (Fr.set (P := fun b => b = w.heap.size) _ _ _ _ rfl)) (fun b _ hb' _ e => hb' (by rw [e]))
      go_roundw
      case rel => exact ⟨k + 1, by omega, by go_num, _, _, s9, hrow3, ((((((((((hb.trans (hb2.mono hb.size)).setCell (Nat.le_refl _) _).setCell (Nat.le_refl _) _).setCell (Nat.le_refl _) _).setCell (Nat.le_refl _) _).setCell (Nat.le_refl _) _).setCell (Nat.le_refl _) _).setCell (Nat.le_refl _) _).setCell (Nat.le_refl _) _).setCell (Nat.le_refl _) _)⟩
      case measure => simp [intOf]; omega
    · go_wp2_with fail
      go_ret
      have he : k = l.length := by omega
      obtain ⟨A2, c2, e2, ho⟩ := OCs.of_row hown (he ▸ hrow) hl
      injection e2 with e3 e4 e5
      subst e3
      exact ⟨_, rfl, ho, hb⟩
end Go.Proofs.Ythdnfnmglhifmaa
/-
  ClauseValid of the program and of the document. No statement is proved here.
-/
namespace Go.Proofs.Ythdnfnmglhifmaa
open Go.RowKit Go.Sort Go.Deep
set_option maxRecDepth 100000
set_option linter.unusedVariables false
def CBx (w : World) (b : Nat) (p : Pt) (s : Value) (g0 g1 g2 : Int) : Prop := PBx w b p s ∧ w.cell? ⟨b, 6, none⟩ = some (.int .i64 g0) ∧ w.cell? ⟨b, 7, none⟩ = some (.int .i64 g1) ∧ w.cell? ⟨b, 8, none⟩ = some (.int .i64 g2)
theorem CBx.keep {w w' : World} {b : Nat} {p : Pt} {s : Value} {g0 g1 g2 : Int} (h : CBx w b p s g0 g1 g2) (hk : w'.heap[b]? = w.heap[b]?) : CBx w' b p s g0 g1 g2 :=
  ⟨h.1.keep hk, (World.cell?_of_block (a := ⟨b, 6, none⟩) hk).trans h.2.1, (World.cell?_of_block (a := ⟨b, 7, none⟩) hk).trans h.2.2.1, (World.cell?_of_block (a := ⟨b, 8, none⟩) hk).trans h.2.2.2⟩
theorem CBx.at_ {w w' : World} {b : Nat} {p : Pt} {s : Value} {g0 g1 g2 : Int} (h : CBx w b p s g0 g1 g2) (hb : Below w.heap.size w w') : CBx w' b p s g0 g1 g2 := h.keep (hb.block b (Go.block_lt_of_cell h.1.1))
end Go.Proofs.Ythdnfnmglhifmaa
/-
  ClausesSame of the program. No statement is proved here.
-/
namespace Go.Proofs.Ythdnfnmglhifmaa
open Go.RowKit Go.Sort Go.Deep
set_option maxRecDepth 100000
set_option linter.unusedVariables false
set_option maxHeartbeats 3200000 in
theorem clauseSame_any (d e : Nat) (A B : Option Addr) (x y : Cn) (ca cb : Nat) (P Q : Nat → Prop) (w : World) (hx : OPs d w P A x.pat.kids) (hy : OPs e w Q B y.pat.kids) (hP : ∀ b, P b → b < w.heap.size) (hQ : ∀ b, Q b → b < w.heap.size) (hN : wP x.pat ≤ 1048576) :
    Calls Try.prog 77 #[.agg #[.int .i64 x.pat.op, .int .i64 x.pat.ctor, .int .i64 x.pat.n, .int .i64 x.pat.m, .int .i64 x.pat.var, .slice A x.pat.kids.length ca, .int .i64 x.g0, .int .i64 x.g1, .int .i64 x.g2], .agg #[.int .i64 y.pat.op, .int .i64 y.pat.ctor, .int .i64 y.pat.n, .int .i64 y.pat.m, .int .i64 y.pat.var, .slice B y.pat.kids.length cb, .int .i64 y.g0, .int .i64 y.g1, .int .i64 y.g2]] w fun e' w' => e' = .returned (.bool (dec (x = y))) ∧ Below w.heap.size w w' := by
  generalize hw0 : (w.alloc (.cells #[.int .i64 x.pat.op, .int .i64 x.pat.ctor, .int .i64 x.pat.n, .int .i64 x.pat.m, .int .i64 x.pat.var, .slice A x.pat.kids.length ca, .int .i64 x.g0, .int .i64 x.g1, .int .i64 x.g2] 102)).alloc (.cells #[.int .i64 y.pat.op, .int .i64 y.pat.ctor, .int .i64 y.pat.n, .int .i64 y.pat.m, .int .i64 y.pat.var, .slice B y.pat.kids.length cb, .int .i64 y.g0, .int .i64 y.g1, .int .i64 y.g2] 102) = w0
  have hb0 : Below w.heap.size w w0 := by rw [← hw0]; exact ((Below.refl _ _).alloc (Nat.le_refl _) _).alloc (by simp) _
  have HX : Hid (CBx w0 w.heap.size x.pat (.slice A x.pat.kids.length ca) x.g0 x.g1 x.g2) := by rw [← hw0]; exact ⟨⟨by simp [go_sem], by simp [go_sem], by simp [go_sem], by simp [go_sem], by simp [go_sem], by simp [go_sem]⟩, by simp [go_sem], by simp [go_sem], by simp [go_sem]⟩
  have HY : Hid (CBx w0 (w.heap.size + 1) y.pat (.slice B y.pat.kids.length cb) y.g0 y.g1 y.g2) := by rw [← hw0]; exact ⟨⟨by simp [go_sem], by simp [go_sem], by simp [go_sem], by simp [go_sem], by simp [go_sem], by simp [go_sem]⟩, by simp [go_sem], by simp [go_sem], by simp [go_sem]⟩
  have HPS : Hid (Calls Try.prog 32 #[.agg #[.int .i64 x.pat.op, .int .i64 x.pat.ctor, .int .i64 x.pat.n, .int .i64 x.pat.m, .int .i64 x.pat.var, .slice A x.pat.kids.length ca], .agg #[.int .i64 y.pat.op, .int .i64 y.pat.ctor, .int .i64 y.pat.n, .int .i64 y.pat.m, .int .i64 y.pat.var, .slice B y.pat.kids.length cb]] w0 fun e w' => e = .returned (.bool (dec (x.pat = y.pat))) ∧ Below w0.heap.size w0 w') := ps_impl A B x.pat y.pat ca cb d e P Q w0 (hx.fr _ (Fr.below (P := fun _ => False) hb0) (fun _ _ h => h)) (hy.fr _ (Fr.below (P := fun _ => False) hb0) (fun _ _ h => h)) (fun b h => Nat.lt_of_lt_of_le (hP b h) hb0.size) (fun b h => Nat.lt_of_lt_of_le (hQ b h) hb0.size) hN
  have HW := Lib.hid hw0
  clear hw0 hx hy hP hQ hN
  obtain ⟨⟨x0, x1, x2, x3, x4, x5⟩, x6, x7, x8⟩ := HX.out
  obtain ⟨⟨y0, y1, y2, y3, y4, y5⟩, y6, y7, y8⟩ := HY.out
  have gd := guardGd
  have hq := fun w => eqGd2 x.g0 x.g1 x.g2 y.g0 y.g1 y.g2 w
  by_cases hg : x.g0 = y.g0 ∧ x.g1 = y.g1 ∧ x.g2 = y.g2
  · rw [decide_eq_true hg] at hq
    have HE : Hid (dec (x.pat = y.pat) = dec (x = y)) := dec_congr ⟨fun h => cn_eq h hg, fun h => by rw [h]⟩
    clear hg
    go_enter Try.func77, Try.ntmps77
    go_wp2_with (go_at_call 32; (try rw [HW.out]); (with_reducible refine HPS.out.mono ?_); rw [HE.out]; rintro e1 w1 ⟨rfl, hb1⟩; have hb1w := below_aft hb0 hb1 hb0.size)
    go_ret
    exact ⟨rfl, hb1w⟩
  · rw [decide_eq_false hg] at hq
    have HE : Hid (dec (x = y) = false) := dec_f (fun h => hg (by subst h; exact ⟨rfl, rfl, rfl⟩))
    clear hg
    go_enter Try.func77, Try.ntmps77
    go_wp2_with fail
    go_ret
    exact ⟨ret_bool HE.out.symm, by first | (rw [HW.out]; exact hb0) | exact hb0⟩
theorem OCs.at_k {d : Nat} {w : World} {P : Nat → Prop} {A : Option Addr} {l : List Cn} (h : OCs d w P A l) {k : Nat} (hk : k < l.length) : ∃ g A' cap Q, A = some ⟨g, 0, none⟩ ∧ g < w.heap.size ∧ (∀ b, Q b → P b) ∧ OPs d w Q A' l[k].pat.kids ∧ w.cell? ⟨g, k * 9, none⟩ = some (.int .i64 l[k].pat.op) ∧ w.cell? ⟨g, k * 9 + 1, none⟩ = some (.int .i64 l[k].pat.ctor) ∧ w.cell? ⟨g, k * 9 + 2, none⟩ = some (.int .i64 l[k].pat.n) ∧ w.cell? ⟨g, k * 9 + 3, none⟩ = some (.int .i64 l[k].pat.m) ∧ w.cell? ⟨g, k * 9 + 4, none⟩ = some (.int .i64 l[k].pat.var) ∧ w.cell? ⟨g, k * 9 + 5, none⟩ = some (.slice A' l[k].pat.kids.length cap) ∧ w.cell? ⟨g, k * 9 + 6, none⟩ = some (.int .i64 l[k].g0) ∧ w.cell? ⟨g, k * 9 + 7, none⟩ = some (.int .i64 l[k].g1) ∧ w.cell? ⟨g, k * 9 + 8, none⟩ = some (.int .i64 l[k].g2) := by
  obtain ⟨g, cs, Q, e, hg, hh, hq, hc⟩ := h.2 (by omega)
  obtain ⟨A', cap, e0, e1, e2, e3, e4, e5, e6, e7, e8, e9⟩ := hc k hk
  exact ⟨g, A', cap, Q k, e, heap_lt hh, fun b hb => (hq k b hk hb).1, e9, (cell_of_blk hh _).trans e0, (cell_of_blk hh _).trans e1, (cell_of_blk hh _).trans e2, (cell_of_blk hh _).trans e3, (cell_of_blk hh _).trans e4, (cell_of_blk hh _).trans e5, (cell_of_blk hh _).trans e6, (cell_of_blk hh _).trans e7, (cell_of_blk hh _).trans e8⟩
set_option maxHeartbeats 3200000 in
theorem csm_impl (A B : Option Addr) (l m : List Cn) (ca cb d e : Nat) (P Q : Nat → Prop) (w : World) (ha : OCs d w P A l) (hb0 : OCs e w Q B m) (hP : ∀ b, P b → b < w.heap.size) (hQ : ∀ b, Q b → b < w.heap.size) (hN : wCs l ≤ 1048576) :
    Calls Try.prog 76 #[.slice A l.length ca, .slice B m.length cb, .func (.func 77) #[] #[]] w fun e w' => e = .returned (.bool (dec (l = m))) ∧ Below w.heap.size w w' := by
  have hn := ha.1
  have hn' := hb0.1
  unfold maxLen at hn hn'
  have HA := Lib.hid ha
  have HB := Lib.hid hb0
  have HP := Lib.hid hP
  have HQ := Lib.hid hQ
  have HNN : Hid (∀ k (h : k < l.length), wP l[k].pat ≤ 1048576) := fun k h => by
    have h1 := sum_take_succ wC l k h
    have h2 := sum_take_le wC l (k + 1)
    have h3 : wC l[k] = wPs l[k].pat.kids := rfl
    have h4 : wCs l = l.length + (l.map wC).sum := rfl
    rw [wP_kids]; omega
  clear ha hb0 hP hQ hN
  by_cases hl : (l.length : Int) = (m.length : Int)
  · have u0 := ine_f hl
    have hll : l.length = m.length := by omega
    have HL := Lib.hid hll
    clear hl
    go_enter Try.func76, Try.ntmps76
    go_wp2_with fail
    go_loopw [17] (fun i wr => ∃ k : Nat, k ≤ l.length ∧ i = .int .i64 k ∧ Hid (AllE l m k) ∧ Below w.heap.size w wr) (fun i _ => l.length - (intOf i).toNat)
    case atStart => exact ⟨0, by omega, rfl, AllE.zero, Below.refl _ _⟩
    case round =>
      obtain ⟨k, hk, rfl, hq, hb⟩ := hrel
      by_cases hlt : k < l.length
      · have hltb : k < m.length := by rw [← HL.out]; exact hlt
        obtain ⟨g, A', cp, Qa, rfl, hg1, hqa, hoa, c0, c1, c2, c3, c4, c5, c6, c7, c8⟩ := (HA.out.later_ hb).at_k hlt
        obtain ⟨g2, A2', cp2, Qb, rfl, hg2, hqb, hob, e0, e1, e2, e3, e4, e5, e6, e7, e8⟩ := (HB.out.later_ hb).at_k hltb
        have hkI : (k : Int) < (l.length : Int) := by omega
        have hkI2 : (k : Int) < (m.length : Int) := by omega
        have hsb := hb.size
        obtain ⟨wy, hwy⟩ : ∃ wy, wy = (wr.alloc (.cells #[.int .i64 l[k].pat.op, .int .i64 l[k].pat.ctor, .int .i64 l[k].pat.n, .int .i64 l[k].pat.m, .int .i64 l[k].pat.var, .slice A' l[k].pat.kids.length cp, .int .i64 l[k].g0, .int .i64 l[k].g1, .int .i64 l[k].g2] 102)).alloc (.cells #[.int .i64 m[k].pat.op, .int .i64 m[k].pat.ctor, .int .i64 m[k].pat.n, .int .i64 m[k].pat.m, .int .i64 m[k].pat.var, .slice A2' m[k].pat.kids.length cp2, .int .i64 m[k].g0, .int .i64 m[k].g1, .int .i64 m[k].g2] 102) := ⟨_, rfl⟩
        have hby : Below wr.heap.size wr wy := by rw [hwy]; exact ((Below.refl _ _).alloc (Nat.le_refl _) _).alloc (by simp) _
        have HCS : Hid (Calls Try.prog 77 #[.agg #[.int .i64 l[k].pat.op, .int .i64 l[k].pat.ctor, .int .i64 l[k].pat.n, .int .i64 l[k].pat.m, .int .i64 l[k].pat.var, .slice A' l[k].pat.kids.length cp, .int .i64 l[k].g0, .int .i64 l[k].g1, .int .i64 l[k].g2], .agg #[.int .i64 m[k].pat.op, .int .i64 m[k].pat.ctor, .int .i64 m[k].pat.n, .int .i64 m[k].pat.m, .int .i64 m[k].pat.var, .slice A2' m[k].pat.kids.length cp2, .int .i64 m[k].g0, .int .i64 m[k].g1, .int .i64 m[k].g2]] wy fun e' w' => e' = .returned (.bool (dec (l[k] = m[k]))) ∧ Below wy.heap.size wy w') := clauseSame_any d e A' A2' l[k] m[k] cp cp2 Qa Qb wy (hoa.fr _ (Fr.below (P := fun _ => False) hby) (fun _ _ h => h)) (hob.fr _ (Fr.below (P := fun _ => False) hby) (fun _ _ h => h)) (fun b h => Nat.lt_of_lt_of_le (HP.out b (hqa b h)) (by have := hby.size; omega)) (fun b h => Nat.lt_of_lt_of_le (HQ.out b (hqb b h)) (by have := hby.size; omega)) (HNN.out k hlt)
        have HWY := Lib.hid hwy
        have hbwy := below_aft hb hby hb.size
        clear hwy hoa hob hqa hqb hll
        by_cases hs : l[k] = m[k]
        · have HD : Hid (dec (l[k] = m[k]) = true) := dec_t hs
          have HN := Lib.hid (hq.out.step hlt hltb hs)
          clear hs hq
          go_wp2_with fail
          rw [← HWY.out]
          refine HCS.out.mono ?_
          rw [HD.out]
          rintro e9 w1 ⟨rfl, hb1⟩
          have hb2 := below_aft hbwy hb1 hbwy.size
          go_wp2_with fail
          go_roundw
          case rel => exact ⟨k + 1, by omega, by go_num, HN, hb2⟩
          case measure => simp [intOf]; omega
        · have HD : Hid (dec (l[k] = m[k]) = false) := dec_f hs
          have HN : Hid (dec (l = m) = false) := dec_f (fun h => hs (by subst h; rfl))
          clear hs hq
          go_wp2_with fail
          rw [← HWY.out]
          refine HCS.out.mono ?_
          rw [HD.out]
          rintro e9 w1 ⟨rfl, hb1⟩
          have hb2 := below_aft hbwy hb1 hbwy.size
          go_wp2_with fail
          go_ret
          exact ⟨ret_bool HN.out.symm, hb2⟩
      · have HN : Hid (dec (l = m) = true) := dec_t (AllE.all (fun j h h' hj => hq.out j h h' (by omega)) HL.out)
        clear hq
        go_wp2_with fail
        go_ret
        exact ⟨ret_bool HN.out.symm, hb⟩
  · have u0 := ine_t hl
    have HN : Hid (dec (l = m) = false) := dec_f (fun h => hl (by rw [h]))
    clear hl
    go_enter Try.func76, Try.ntmps76
    go_wp2_with fail
    go_ret
    exact ⟨ret_bool HN.out.symm, Below.refl _ _⟩
theorem csm_any (A B : Option Addr) (l m : List Cn) (ca cb d e : Nat) (P Q : Nat → Prop) (w : World) (ha : OCs d w P A l) (hb0 : OCs e w Q B m) (hP : ∀ b, P b → b < w.heap.size) (hQ : ∀ b, Q b → b < w.heap.size) (hN : wCs l ≤ 1048576) :
    Calls Try.prog 37 #[.slice A l.length ca, .slice B m.length cb] w fun e w' => e = .returned (.bool (dec (l = m))) ∧ Below w.heap.size w w' := by
  have HC := Lib.hid (csm_impl A B l m ca cb d e P Q w ha hb0 hP hQ hN)
  clear ha hb0 hP hQ hN
  go_enter Try.func37, Try.ntmps37
  go_wp2_with (go_at_call 76; refine HC.out.mono ?_; rintro e1 w1 ⟨rfl, hb1⟩)
  go_ret
  exact ⟨rfl, hb1⟩
end Go.Proofs.Ythdnfnmglhifmaa
/-
  Comparison of lists of clauses, where both sides read as the same. No statement is proved here.
-/
namespace Go.Proofs.Ythdnfnmglhifmaa
open Go.RowKit Go.Sort
set_option maxRecDepth 100000
set_option linter.unusedVariables false
set_option maxHeartbeats 1600000 in
theorem eqCs_same (d : Nat) (A A' : Option Addr) (l : List Cn) (cap cap' : Nat) (w : World) (hr : RCs d w w.heap.size A l) (hr' : RCs d w w.heap.size A' l) :
    Calls Try.prog 38 #[.slice A l.length cap, .slice A' l.length cap'] w fun e w' => e = .returned (.bool true) ∧ Below w.heap.size w w' := by
  have hn := hr.1
  unfold maxLen at hn
  have Hr := Lib.hid hr
  have Hr' := Lib.hid hr'
  clear hr hr'
  go_enter Try.func38, Try.ntmps38
  go_wp2_with fail
  go_loopw [5] (fun i wr => ∃ k : Nat, k ≤ l.length ∧ i = .int .i64 k ∧ Below w.heap.size w wr) (fun i _ => l.length - (intOf i).toNat)
  case atStart => exact ⟨0, by omega, rfl, Below.refl _ _⟩
  case round =>
    obtain ⟨k, hk, rfl, hb⟩ := hrel
    by_cases hlt : k < l.length
    · obtain ⟨b, off, rfl, hbB, B1, cp, c0, c1, c2, c3, c4, c5, c6, c7, c8, hm⟩ := (Hr.out.below hb (Nat.le_refl _)).2 k hlt
      obtain ⟨b', off', rfl, hbB', B2, cp', c0q, c1q, c2q, c3q, c4q, c5q, c6q, c7q, c8q, hm'⟩ := (Hr'.out.below hb (Nat.le_refl _)).2 k hlt
      have d0 := cell_regrown c0
      have d0q := cell_regrown c0q
      have d1 := cell_regrown c1
      have d1q := cell_regrown c1q
      have d2 := cell_regrown c2
      have d2q := cell_regrown c2q
      have d3 := cell_regrown c3
      have d3q := cell_regrown c3q
      have d4 := cell_regrown c4
      have d4q := cell_regrown c4q
      have d5 := cell_regrown c5
      have d5q := cell_regrown c5q
      have d6 := cell_regrown c6
      have d6q := cell_regrown c6q
      have d7 := cell_regrown c7
      have d7q := cell_regrown c7q
      have d8 := cell_regrown c8
      have d8q := cell_regrown c8q
      have Hm := Lib.hid hm
      have Hm' := Lib.hid hm'
      clear c0 c0q c1 c1q c2 c2q c3 c3q c4 c4q c5 c5q c6 c6q c7 c7q c8 c8q hm hm'
      have hi : (k : Int) < (l.length : Int) := by omega
      go_wp2_with fail
      refine wp_region_quiet_below (by kernel_rfl) (by kernel_rfl) ?_
      repeat (quiet_step (exact Calls.regrown_of (eqC_same d _ _ _ _ _ _ _ _ _ _ _ _ _ _ (Hm.out.keep (fun p hp => (below_regrown wr _ _).cell (Nat.lt_of_lt_of_le hp hb.size)) (Nat.le_trans hb.size (below_regrown wr _ _).size)) (Hm'.out.keep (fun p hp => (below_regrown wr _ _).cell (Nat.lt_of_lt_of_le hp hb.size)) (Nat.le_trans hb.size (below_regrown wr _ _).size)))))
      refine wpQuiet_nil ?_
      intro _ hw'
      obtain ⟨⟨dq, osq⟩, hw''⟩ := hw'
      subst hw''
      have hb2 := hb.trans ((below_regrown wr dq osq).mono hb.size)
      clear d0 d0q d1 d1q d2 d2q d3 d3q d4 d4q d5 d5q d6 d6q d7 d7q d8 d8q
      go_wp2_with fail
      go_roundw
      case rel => exact ⟨k + 1, by omega, by go_num, hb2⟩
      case measure => simp [intOf]; omega
    · go_wp2_with fail
      go_ret
      exact ⟨rfl, hb⟩
end Go.Proofs.Ythdnfnmglhifmaa
/-
  The law FnExactClausesSame walked. No statement is proved here.
-/
namespace Go.Proofs.Ythdnfnmglhifmaa
open Go.RowKit Go.Sort Go.Deep
set_option maxRecDepth 100000
set_option linter.unusedVariables false
set_option maxHeartbeats 8000000 in
theorem csm_law (A B : Option Addr) (l m : List Cn) (ca cb d : Nat) (w : World) (hr : RCs d w w.heap.size A l) (hq : RCs d w w.heap.size B m) :
    Calls Try.prog 9 #[.slice A l.length ca, .slice B m.length cb] w fun e w' => e = .returned (.bool true) ∧ Below w.heap.size w w' := by
  have HR := Lib.hid hr
  have HQ := Lib.hid hq
  clear hr hq
  by_cases h1 : (wCs l : Int) ≤ 1048576
  · have H1 := Lib.hid (left_ok h1)
    by_cases h2 : (wCs m : Int) ≤ 1048576 - (wCs l : Int)
    · have H2 := Lib.hid (left_ok h2)
      have HNL : Hid (wCs l ≤ 1048576) := by unfold Hid; omega
      have HNM : Hid (wCs m ≤ 1048576) := by unfold Hid; omega
      have HSP : Hid (∀ (E1 E2 : Option Addr) (c1 c2 : Nat) (W : World), RCs d W W.heap.size E1 l → RCs d W W.heap.size E2 m → Calls Try.prog 35 #[.slice E1 l.length c1, .slice E2 m.length c2] W fun e w' => e = .returned (.bool (dec (l = m))) ∧ Below W.heap.size W w') := fun E1 E2 c1 c2 W h h' => csm_spec d d E1 E2 l m c1 c2 W h h'
      have HIM : Hid (∀ (E1 E2 : Option Addr) (c1 c2 : Nat) (P1 P2 : Nat → Prop) (W : World), OCs (d + 1) W P1 E1 l → OCs (d + 1) W P2 E2 m → (∀ b, P1 b → b < W.heap.size) → (∀ b, P2 b → b < W.heap.size) → Calls Try.prog 37 #[.slice E1 l.length c1, .slice E2 m.length c2] W fun e w' => e = .returned (.bool (dec (l = m))) ∧ Below W.heap.size W w') := fun E1 E2 c1 c2 P1 P2 W h h' h1 h2 => csm_any E1 E2 l m c1 c2 (d + 1) (d + 1) P1 P2 W h h' h1 h2 HNL.out
      generalize dec (l = m) = bb at HSP HIM
      have hbb : (bb != bb) = false := by simp
      go_enter Try.func9, Try.ntmps9
      go_wp2_with (first
        | (go_at_call 34; refine (szCs_any d _ m _ _ w1 (HQ.out.at_ hb1) (by omega) (by omega)).mono ?_; rw [H2.out]; rintro e2 w2 ⟨rfl, hb2⟩; have hb2w := below_aft hb1 hb2 hb1.size)
        | (go_at_call 34; refine (szCs_any d _ l _ _ _ HR.out (by omega) (by omega)).mono ?_; rw [H1.out]; rintro e1 w1 ⟨rfl, hb1⟩)
        | (go_at_call 36; refine (toCO_any d B m cb w12 (HQ.out.at_ hb12w) HNM.out).mono ?_; rintro e13 w13 ⟨A13, rfl, ho13, hb13⟩; have hb13w := below_aft hb12w hb13 hb12w.size; have R13 := Lib.hid (OCs.reads ho13); have Q13 := Lib.hid ((OCs.reads O8.out).at_ (below_aft hb9 (below_aft hb10 (below_aft hb12 hb13 hb12.size) hb10.size) hb9.size)); clear ho13)
        | (go_at_call 36; refine (toCO_any d A l ca w9 (HR.out.at_ hb9w) HNL.out).mono ?_; rintro e10 w10 ⟨A10, rfl, ho10, hb10⟩; have hb10w := below_aft hb9w hb10 hb9w.size; have R10 := Lib.hid (OCs.reads ho10); have Q10 := Lib.hid ((OCs.reads O7.out).at_ (below_aft hb8 (below_aft hb9 hb10 hb9.size) hb8.size)); clear ho10)
        | (go_at_call 36; refine (toCO_any d B m cb w7 (HQ.out.at_ hb7w) HNM.out).mono ?_; rintro e8 w8 ⟨A8, rfl, ho8, hb8⟩; have hb8w := below_aft hb7w hb8 hb7w.size; have O8 := Lib.hid ho8; have hs8 := hb8.size; have O78 := Lib.hid (O7.out.later_ hb8); clear ho8)
        | (go_at_call 36; refine (toCO_any d A l ca w5 (HR.out.at_ hb5w) HNL.out).mono ?_; rintro e7 w7 ⟨A7, rfl, ho7, hb7⟩; have hb7w := below_aft hb5w hb7 hb5w.size; have O7 := Lib.hid ho7; have hs7 := hb7.size; clear ho7)
        | (go_at_call 36; refine (toCO_any d B m cb w3 (HQ.out.at_ hb3w) HNM.out).mono ?_; rintro e4 w4 ⟨A4, rfl, ho4, hb4⟩; have hb4w := below_aft hb3w hb4 hb3w.size; have R4 := Lib.hid (OCs.reads ho4); have R34 := Lib.hid (R3.out.at_ hb4); clear ho4)
        | (go_at_call 36; refine (toCO_any d A l ca w2 (HR.out.at_ hb2w) HNL.out).mono ?_; rintro e3 w3 ⟨A3, rfl, ho3, hb3⟩; have hb3w := below_aft hb2w hb3 hb2w.size; have R3 := Lib.hid (OCs.reads ho3); clear ho3)
        | (go_at_call 35; refine (HSP.out _ _ _ _ w4 R34.out R4.out).mono ?_; rintro e5 w5 ⟨rfl, hb5⟩; have hb5w := below_aft hb4w hb5 hb4w.size)
        | (go_at_call 37; refine (HIM.out _ _ _ _ _ _ w8 O78.out O8.out (fun b h => by have := h.2; omega) (fun b h => h.2)).mono ?_; rintro e9 w9 ⟨rfl, hb9⟩; have hb9w := below_aft hb8w hb9 hb8w.size)
        | (go_at_call 38; refine (eqCs_same d _ _ m _ _ w13 Q13.out R13.out).mono ?_; rintro e14 w14 ⟨rfl, hb14⟩; have hb14w := below_aft hb13w hb14 hb13w.size)
        | (go_at_call 38; refine (eqCs_same d _ _ l _ _ w10 Q10.out R10.out).mono ?_; rintro e12 w12 ⟨rfl, hb12⟩; have hb12w := below_aft hb10w hb12 hb10w.size))
      go_ret
      exact ⟨rfl, hb14w⟩
    · have H2 := Lib.hid (left_no h2)
      go_enter Try.func9, Try.ntmps9
      go_wp2_with (first | (go_at_call 34; refine (szCs_any d _ m _ _ w1 (HQ.out.at_ hb1) (by omega) (by omega)).mono ?_; rw [H2.out]; rintro e2 w2 ⟨rfl, hb2⟩; have hb2w := below_aft hb1 hb2 hb1.size) | (go_at_call 34; refine (szCs_any d _ l _ _ _ HR.out (by omega) (by omega)).mono ?_; rw [H1.out]; rintro e1 w1 ⟨rfl, hb1⟩))
      go_ret
      exact ⟨rfl, hb2w⟩
  · have H1 := Lib.hid (left_no h1)
    go_enter Try.func9, Try.ntmps9
    go_wp2_with (go_at_call 34; refine (szCs_any d _ l _ _ _ HR.out (by omega) (by omega)).mono ?_; rw [H1.out]; rintro e1 w1 ⟨rfl, hb1⟩)
    go_ret
    exact ⟨rfl, hb1⟩
end Go.Proofs.Ythdnfnmglhifmaa
/-
  An argument that is a list of clauses. No statement is proved here.
-/
namespace Go.Proofs.Ythdnfnmglhifmaa
open Go.RowKit Go.Deep
open Go.ChangeShapes Go.WideShapes
set_option maxRecDepth 100000
set_option linter.unusedVariables false
section
variable {H : Type} {enc : TypeId × Value → H} {w : World} {spare : Nat → Bool} {held : Bool}
theorem open_cns {v : Value} {d : DataW H} {ps : List MemPlace} {b0 : Nat} {r : Reach} (hv : Value.okWide Try.prog w r b0 69 v) (h : DataW.Trod enc Try.prog w 0 spare held 69 v d ps) : ∃ A l cap, v = .slice A (List.length l) cap ∧ ∃ d, RCs d w w.heap.size A l := by
  obtain ⟨a0, ln0, cap0, rfl⟩ := okWide_slice Try.underlying69 hv
  clear hv
  obtain ⟨fuel, h⟩ := h
  replace h : DataW.trod enc Try.prog w 0 spare held fuel 69 [.slice a0 ln0 cap0] = some (d, ps) := h
  generalize Value.slice a0 ln0 cap0 = v at h ⊢
  rcases DataW.trod_slice Try.underlying69 h with ⟨hcs, _⟩ | ⟨a, len, cap, elems, rest, n, hfu, hcs, hx, hb, hl, hm, hlen, hel, _, _⟩
  · obtain rfl : v = .slice none 0 0 := by simpa using hcs
    exact ⟨none, [], 0, rfl, 0, RCs.nil⟩
  · obtain rfl : v = .slice (some a) len cap := by simpa using hcs
    have h9 : Try.prog.cellsOf 130 = 9 := by kernel_rfl
    have hone : ∀ i, i < len → ∃ (t : Cn), ∃ A c d, w.cell? ((a.add (i * 9)).add 0) = some (.int .i64 t.pat.op) ∧ w.cell? ((a.add (i * 9)).add 1) = some (.int .i64 t.pat.ctor) ∧ w.cell? ((a.add (i * 9)).add 2) = some (.int .i64 t.pat.n) ∧ w.cell? ((a.add (i * 9)).add 3) = some (.int .i64 t.pat.m) ∧ w.cell? ((a.add (i * 9)).add 4) = some (.int .i64 t.pat.var) ∧ w.cell? ((a.add (i * 9)).add 5) = some (.slice A t.pat.kids.length c) ∧ w.cell? ((a.add (i * 9)).add 6) = some (.int .i64 t.g0) ∧ w.cell? ((a.add (i * 9)).add 7) = some (.int .i64 t.g1) ∧ w.cell? ((a.add (i * 9)).add 8) = some (.int .i64 t.g2) ∧ RPs d w w.heap.size A t.pat.kids := by
      intro i hi
      have h1 := hel i hi
      rw [List.getElem?_eq_getElem (by omega)] at h1
      obtain ⟨cs', q1, q2⟩ := Option.bind_eq_some_iff.1 h1
      obtain ⟨_, hl9, hat⟩ := World.cells?_some q1
      rw [h9] at hl9 hat
      obtain ⟨v0, v1, v2, v3, v4, v5, v6, v7, v8, rfl⟩ : ∃ v0 v1 v2 v3 v4 v5 v6 v7 v8, cs' = [v0, v1, v2, v3, v4, v5, v6, v7, v8] := by
        match cs', hl9 with
        | [v0, v1, v2, v3, v4, v5, v6, v7, v8], _ => exact ⟨v0, v1, v2, v3, v4, v5, v6, v7, v8, rfl⟩
      obtain ⟨ya, yb, n9, _, _, ha, hb9⟩ := trod_struct2 Try.underlying130 q2
      have h6 : Try.prog.cellsOf 64 = 6 := by kernel_rfl
      have h3 : Try.prog.cellsOf 128 = 3 := by kernel_rfl
      replace ha : DataW.trod enc Try.prog w 0 spare held n9 64 ((([v0, v1, v2, v3, v4, v5, v6, v7, v8] : List Value).drop 0).take (Try.prog.cellsOf 64)) = some ya := ha
      replace hb9 : DataW.trod enc Try.prog w 0 spare held n9 128 ((([v0, v1, v2, v3, v4, v5, v6, v7, v8] : List Value).drop 6).take (Try.prog.cellsOf 128)) = some yb := hb9
      rw [h6] at ha
      rw [h3] at hb9
      replace ha : DataW.trod enc Try.prog w 0 spare held n9 64 [v0, v1, v2, v3, v4, v5] = some ya := ha
      replace hb9 : DataW.trod enc Try.prog w 0 spare held n9 128 [v6, v7, v8] = some yb := hb9
      obtain ⟨m, _, hatp⟩ := field_atn Try.underlying64 (by kernel_rfl) rfl ha
      obtain ⟨k, _, hbt⟩ := field_atn Try.underlying128 (by kernel_rfl) rfl hb9
      obtain ⟨_, y0, e0, t0⟩ := hatp 0 _ rfl
      obtain ⟨_, y1, e1, t1⟩ := hatp 1 _ rfl
      obtain ⟨_, y2, e2, t2⟩ := hatp 2 _ rfl
      obtain ⟨_, y3, e3, t3⟩ := hatp 3 _ rfl
      obtain ⟨_, y4, e4, t4⟩ := hatp 4 _ rfl
      obtain ⟨_, y5, e5, t5⟩ := hatp 5 _ rfl
      obtain ⟨_, y6, e6, t6⟩ := hbt 0 _ rfl
      obtain ⟨_, y7, e7, t7⟩ := hbt 1 _ rfl
      obtain ⟨_, y8, e8, t8⟩ := hbt 2 _ rfl
      obtain rfl := Option.some.inj e0
      obtain rfl := Option.some.inj e1
      obtain rfl := Option.some.inj e2
      obtain rfl := Option.some.inj e3
      obtain rfl := Option.some.inj e4
      obtain rfl := Option.some.inj e5
      obtain rfl := Option.some.inj e6
      obtain rfl := Option.some.inj e7
      obtain rfl := Option.some.inj e8
      obtain ⟨z0, p0, _, _⟩ := DataW.trod_int Try.underlying3 t0
      obtain ⟨z1, p1, _, _⟩ := DataW.trod_int Try.underlying3 t1
      obtain ⟨z2, p2, _, _⟩ := DataW.trod_int Try.underlying3 t2
      obtain ⟨z3, p3, _, _⟩ := DataW.trod_int Try.underlying3 t3
      obtain ⟨z4, p4, _, _⟩ := DataW.trod_int Try.underlying3 t4
      obtain ⟨z6, p6, _, _⟩ := DataW.trod_int Try.underlying3 t6
      obtain ⟨z7, p7, _, _⟩ := DataW.trod_int Try.underlying3 t7
      obtain ⟨z8, p8, _, _⟩ := DataW.trod_int Try.underlying3 t8
      obtain ⟨A, l, cp, p5, d, hr⟩ := openPs_of m t5
      simp only [List.cons.injEq, and_true] at p0 p1 p2 p3 p4 p6 p7 p8
      subst p0 p1 p2 p3 p4 p5 p6 p7 p8
      exact ⟨⟨.mk z0 z1 z2 z3 z4 l, z6, z7, z8⟩, A, cp, d, hat 0 (by omega), hat 1 (by omega), hat 2 (by omega), hat 3 (by omega), hat 4 (by omega), hat 5 (by omega), hat 6 (by omega), hat 7 (by omega), hat 8 (by omega), hr⟩
    obtain ⟨f, hf⟩ := choose_lt (α := Cn) (n := len) (p := fun i t => ∃ A c d, w.cell? ((a.add (i * 9)).add 0) = some (.int .i64 t.pat.op) ∧ w.cell? ((a.add (i * 9)).add 1) = some (.int .i64 t.pat.ctor) ∧ w.cell? ((a.add (i * 9)).add 2) = some (.int .i64 t.pat.n) ∧ w.cell? ((a.add (i * 9)).add 3) = some (.int .i64 t.pat.m) ∧ w.cell? ((a.add (i * 9)).add 4) = some (.int .i64 t.pat.var) ∧ w.cell? ((a.add (i * 9)).add 5) = some (.slice A t.pat.kids.length c) ∧ w.cell? ((a.add (i * 9)).add 6) = some (.int .i64 t.g0) ∧ w.cell? ((a.add (i * 9)).add 7) = some (.int .i64 t.g1) ∧ w.cell? ((a.add (i * 9)).add 8) = some (.int .i64 t.g2) ∧ RPs d w w.heap.size A t.pat.kids) hone
    by_cases hz : len = 0
    · subst hz
      exact ⟨some a, [], cap, rfl, 0, RCs.nil⟩
    · have hsp : a.spot = none := by
        obtain ⟨A, c, d, c0, _⟩ := hf 0 (by omega)
        exact spot_of (w := w) (a := a) (by simpa [Addr.add] using c0)
      obtain ⟨b, off, sp⟩ := a
      simp only at hsp
      subst hsp
      obtain ⟨D, hD⟩ := deep_all (P := fun i d => RCn d w w.heap.size b (off + i * 9) (f i)) (fun i d d' hd h => h.more hd) len (fun i hi => by
        obtain ⟨A, c, d, c0, c1, c2, c3, c4, c5, c6, c7, c8, h5⟩ := hf i hi
        simp only [Addr.add_lit, Nat.add_zero] at c0 c1 c2 c3 c4 c5 c6 c7 c8
        exact ⟨d, A, c, by simpa using c0, by simpa using c1, by simpa using c2, by simpa using c3, by simpa using c4, by simpa using c5, by simpa using c6, by simpa using c7, by simpa using c8, h5⟩)
      refine ⟨some ⟨b, off, none⟩, (List.range len).map f, cap, by simp, D, by simp; omega, fun k hk => ?_⟩
      have hk' : k < len := by simpa using hk
      have hbl : b < w.heap.size := by
        obtain ⟨A, c, d, c0, _⟩ := hf k hk'
        simp only [Addr.add_lit, Nat.add_zero] at c0
        exact block_lt_of_cell c0
      exact ⟨b, off, rfl, hbl, by simpa using hD k hk'⟩
end
end Go.Proofs.Ythdnfnmglhifmaa
