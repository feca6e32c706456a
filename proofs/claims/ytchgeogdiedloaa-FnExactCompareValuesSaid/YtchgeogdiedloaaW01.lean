/-
  The worklist of pairs of lists of the program's CompareValues: what holds of it, as far as equality goes. No statement is proved here.
-/
import Derived.Test.YtchgeogdiedloaaW00
import Derived.Deep.RegionHeld3
import Derived.Deep.DeepCutAuto
import Derived.BigRegion
namespace Go.Proofs.Ytchgeogdiedloaa
open Go.RowKit Go.Sort Go.Deep
set_option maxRecDepth 100000
set_option linter.unusedVariables false
/-- The least number that has a property. -/
noncomputable def lstV (P : Nat → Prop) : Nat := @dite _ (∃ n, P n ∧ ∀ m, P m → n ≤ m) (Classical.propDecidable _) (fun h => Classical.choose h) (fun _ => 0)
theorem leastV_ex (P : Nat → Prop) : ∀ n, P n → ∃ n, P n ∧ ∀ m, P m → n ≤ m := by
  intro n
  induction n using Nat.strongRecOn with
  | ind n ih =>
    intro h
    by_cases e : ∃ m, m < n ∧ P m
    · obtain ⟨m, hm, hp⟩ := e; exact ih m hm hp
    · exact ⟨n, h, fun m hm => by
        by_cases hl : m < n
        · exact absurd ⟨m, hl, hm⟩ e
        · omega⟩
theorem lstV_spec {P : Nat → Prop} {n : Nat} (h : P n) : P (lstV P) ∧ ∀ m, P m → lstV P ≤ m := by
  have hx := leastV_ex P n h
  unfold lstV
  rw [dif_pos hx]
  exact Classical.choose_spec hx
theorem OVc.addr {d : Nat} {w : World} {P : Nat → Prop} {A : Option Addr} {l : List Vl} (h : OVc d w P A l) (hl : 0 < l.length) : ∃ g, A = some ⟨g, 0, none⟩ ∧ P g ∧ ∃ c, w.heap[g]? = some (.cells c 29 (0, 0)) := by
  obtain ⟨d', rfl, _, hp⟩ := h.parts
  obtain ⟨g, cs, Q, e, hg, hh, _⟩ := hp hl
  exact ⟨g, e, hg, cs, hh⟩
def LyV (w : World) (m : Nat) (a : Option Addr) : Prop := ∀ x, a = some x → x.block < w.heap.size ∧ x.block ≠ m ∧ ∃ c t, w.heap[x.block]? = some (.cells c t (0, 0))
theorem LyV.lies {w w' : World} {m : Nat} {a : Option Addr} (h : LyV w m a) (hf : Fr (fun b => b = m) w w') : LiesPV w' a := fun x hx => by
  obtain ⟨h1, h2, c, t, h3⟩ := h x hx
  exact ⟨c, t, hf.block h3 h2⟩
theorem kA_nil0 (A : Option Addr) : kA A 0 = none := rfl
theorem kA_pos0 {A : Option Addr} {n : Nat} (h : 0 < n) : kA A n = A := if_neg (by omega)
theorem OVc.ly {d : Nat} {w : World} {P : Nat → Prop} {A : Option Addr} {l : List Vl} {m : Nat} (h : OVc d w P A l) (hm : ∀ b, P b → b < w.heap.size ∧ b ≠ m) : LyV w m (kA A l.length) := fun x hx => by
  by_cases h0 : l.length = 0
  · rw [h0, kA_nil0] at hx; cases hx
  · obtain ⟨g, rfl, hg, c, hh⟩ := h.addr (by omega)
    rw [kA_pos0 (by omega)] at hx
    cases hx
    exact ⟨(hm g hg).1, (hm g hg).2, c, _, hh⟩
/-- The rest of a list, from some place of its row on; the parts of its elements in blocks of P, each in its own. -/
def SfV (d : Nat) (w : World) (m : Nat) (P : Nat → Prop) (A : Option Addr) (l : List Vl) : Prop := l.length ≤ maxLen ∧ (∀ b, P b → b < w.heap.size ∧ b ≠ m) ∧ (0 < l.length → ∃ (g off : Nat) (Q : Nat → Nat → Prop), A = some ⟨g, off, none⟩ ∧ g < w.heap.size ∧ g ≠ m ∧ (∀ k b, k < l.length → Q k b → P b ∧ ∀ j, j < l.length → j ≠ k → ¬ Q j b) ∧ ∀ k (h : k < l.length), ∃ A' cap, w.cell? ⟨g, off + k * 3, none⟩ = some (.int .i64 l[k].ctor) ∧ w.cell? ⟨g, off + k * 3 + 1, none⟩ = some (.int .i64 l[k].n) ∧ w.cell? ⟨g, off + k * 3 + 2, none⟩ = some (.slice A' l[k].kids.length cap) ∧ (l[k].kids.length ≤ cap ∧ cap ≤ maxLen) ∧ OVc d w (Q k) A' l[k].kids)
theorem OVc.sf {d m : Nat} {w : World} {P : Nat → Prop} {A : Option Addr} {l : List Vl} (h : OVc (d + 1) w P A l) (hm : ∀ b, P b → b < w.heap.size ∧ b ≠ m) : SfV d w m (fun b => P b ∧ ∀ a, A = some a → b ≠ a.block) A l := by
  obtain ⟨h1, h2⟩ := h
  refine ⟨h1, fun b hb => hm b hb.1, fun hl => ?_⟩
  obtain ⟨g, cs, Q, rfl, hg, hh, hq, hc⟩ := h2 hl
  refine ⟨g, 0, Q, rfl, (hm g hg).1, (hm g hg).2, fun k b hk hb => ⟨⟨(hq k b hk hb).1, fun a ha => by cases ha; exact (hq k b hk hb).2.1⟩, (hq k b hk hb).2.2⟩, fun k hk => ?_⟩
  obtain ⟨A', cap, e0, e1, e2, e9⟩ := hc k hk
  exact ⟨A', cap, by rw [Nat.zero_add]; exact (cell_of_blk hh _).trans e0, by rw [Nat.zero_add]; exact (cell_of_blk hh _).trans e1, by rw [Nat.zero_add]; exact (cell_of_blk hh _).trans e2.1, e2.2, e9⟩
/-- The first element, and what is behind it. -/
theorem SfV.cut {d m : Nat} {w : World} {P : Nat → Prop} {A : Option Addr} {u : Vl} {l : List Vl} (h : SfV d w m P A (u :: l)) : ∃ (g off : Nat) (A' : Option Addr) (cap : Nat) (Q R : Nat → Prop), A = some ⟨g, off, none⟩ ∧ g < w.heap.size ∧ g ≠ m ∧ w.cell? ⟨g, off, none⟩ = some (.int .i64 u.ctor) ∧ w.cell? ⟨g, off + 1, none⟩ = some (.int .i64 u.n) ∧ w.cell? ⟨g, off + 2, none⟩ = some (.slice A' u.kids.length cap) ∧ (u.kids.length ≤ cap ∧ cap ≤ maxLen) ∧ OVc d w Q A' u.kids ∧ SfV d w m R (some ⟨g, off + 3, none⟩) l ∧ (∀ b, Q b → P b) ∧ (∀ b, R b → P b) ∧ ∀ b, Q b → ¬ R b := by
  obtain ⟨h1, h2, h3⟩ := h
  obtain ⟨g, off, Q, rfl, hg, hgm, hq, hc⟩ := h3 (by simp)
  obtain ⟨A', cap, e0, e1, e2, e3, e9⟩ := hc 0 (by simp)
  simp only [List.getElem_cons_zero, Nat.zero_mul, Nat.add_zero] at e0 e1 e2 e3 e9
  refine ⟨g, off, A', cap, Q 0, fun b => P b ∧ ¬ Q 0 b, rfl, hg, hgm, e0, e1, e2, e3, e9, ⟨by simp at h1; omega, fun b hb => h2 b hb.1, fun hl => ⟨g, off + 3, fun k => Q (k + 1), rfl, hg, hgm, fun k b hk hb => ?_, fun k hk => ?_⟩⟩, fun b hb => (hq 0 b (by simp) hb).1, fun b hb => hb.1, fun b hb hr => hr.2 hb⟩
  · have hx := hq (k + 1) b (by simpa using hk) hb
    exact ⟨⟨hx.1, hx.2 0 (by simp) (by omega)⟩, fun j hj hjk => hx.2 (j + 1) (by simpa using hj) (by omega)⟩
  · obtain ⟨B, c, f0, f1, f2, f3, f9⟩ := hc (k + 1) (by simpa using hk)
    simp only [List.getElem_cons_succ] at f0 f1 f2 f3 f9
    rw [show off + (k + 1) * 3 = off + 3 + k * 3 by omega] at f0 f1 f2
    exact ⟨B, c, f0, f1, f2, f3, f9⟩
theorem SfV.empty {d m : Nat} {w : World} {P : Nat → Prop} (A : Option Addr) (h : ∀ b, P b → b < w.heap.size ∧ b ≠ m) : SfV d w m P A [] := ⟨Nat.zero_le _, h, fun h => absurd h (Nat.lt_irrefl 0)⟩
structure EnV where
  A : Option Addr
  la : List Vl
  ca : Nat
  B : Option Addr
  lb : List Vl
  cb : Nat
  d : Nat
  P : Nat → Prop
  e : Nat
  Q : Nat → Prop
def EnV.ok (w : World) (m : Nat) (x : EnV) : Prop := SfV x.d w m x.P x.A x.la ∧ SfV x.e w m x.Q x.B x.lb ∧ x.la.length ≤ x.ca ∧ x.lb.length ≤ x.cb ∧ x.ca ≤ maxLen ∧ x.cb ≤ maxLen
def kyV (A : Option Addr) (n : Nat) (B : Option Addr) (m : Nat) : KyV := ⟨kA A n, n, kA B m, m⟩
theorem mem_last {α : Type} {l : List α} {x y : α} (hy : y ∈ l ++ [x]) : y ∈ l ∨ y = x := (List.mem_append.1 hy).imp id List.mem_singleton.1
theorem in_last {α : Type} {l : List α} {x : α} : x ∈ l ++ [x] := List.mem_append.2 (.inr (List.mem_singleton.2 rfl))
theorem in_front {α : Type} {l : List α} {x y : α} (h : y ∈ l) : y ∈ l ++ [x] := List.mem_append.2 (.inl h)
def muV (W : List EnV) : Nat := (W.map (fun x => 1 + 2 * wVs x.la)).sum
theorem muV_app (W : List EnV) (x : EnV) : muV (W ++ [x]) = muV W + (1 + 2 * wVs x.la) := by unfold muV; simp
theorem muV_len (W : List EnV) : W.length ≤ muV W := by
  induction W with
  | nil => exact Nat.zero_le _
  | cons x W ih => unfold muV at ih ⊢; rw [List.map_cons, List.sum_cons, List.length_cons]; omega
/-- The worklist in memory: a row of the call's own. -/
def OpnV (w : World) (lo : Nat) (u : Value) (W : List EnV) : Prop := ∃ xs, w.ownsRow lo 40 2 u W.length xs ∧ ∀ j (h : j < W.length), xs[j * 2]? = some (.slice W[j].A W[j].la.length W[j].ca) ∧ xs[j * 2 + 1]? = some (.slice W[j].B W[j].lb.length W[j].cb)
theorem OpnV.top {w : World} {lo : Nat} {u : Value} {W : List EnV} {x : EnV} (h : OpnV w lo u (W ++ [x])) : ∃ g cap, u = .slice (some ⟨g, 0, none⟩) (W.length + 1) cap ∧ lo ≤ g ∧ g < w.heap.size ∧ W.length + 1 ≤ cap ∧ cap ≤ maxLen ∧ w.cell? ⟨g, W.length * 2, none⟩ = some (.slice x.A x.la.length x.ca) ∧ w.cell? ⟨g, W.length * 2 + 1, none⟩ = some (.slice x.B x.lb.length x.cb) ∧ w.frozen? ⟨g, W.length * 2, none⟩ = false ∧ w.frozen? ⟨g, W.length * 2 + 1, none⟩ = false ∧ OpnV w lo (.slice (some ⟨g, 0, none⟩) W.length cap) W ∧
    ∀ (w5 w' : World) (A B : Option Addr) (la lb : List Vl) (ca cb dd ee : Nat) (P Q : Nat → Prop), w5.heap[g]? = w.heap[g]? → w'.heap[g]? = ((w5.setCell ⟨g, W.length * 2, none⟩ (.slice A la.length ca)).setCell ⟨g, W.length * 2 + 1, none⟩ (.slice B lb.length cb)).heap[g]? → OpnV w' lo u (W ++ [⟨A, la, ca, B, lb, cb, dd, P, ee, Q⟩]) := by
  obtain ⟨xs, ho, hx⟩ := h
  have hl : (W ++ [x]).length = W.length + 1 := by simp
  have h1 := hx W.length (by omega)
  rw [List.getElem_append_right (Nat.le_refl _)] at h1
  simp only [Nat.sub_self, List.getElem_cons_zero] at h1
  rcases ho.2 with ⟨_, h0⟩ | ⟨g, cap, cur, rfl, hg, hh, hn, hcm, hcs, htake⟩
  · rw [hl] at h0; cases h0
  · have hat : ∀ i, i < (W.length + 1) * 2 → cur[i]? = xs[i]? := fun i hi => by
      rw [← htake, List.getElem?_take_of_lt (by rw [hl]; exact hi), Array.getElem?_toList]
    rw [hl] at hn htake
    refine ⟨g, cap, by rw [hl], hg, heap_lt hh, by omega, hcm, ?_, ?_, frozen_of_row w g _ cur _ hh, frozen_of_row w g _ cur _ hh, ⟨xs.take (W.length * 2), ⟨by rw [List.length_take, ho.1, hl]; omega, .inr ⟨g, cap, cur, rfl, hg, hh, by omega, hcm, hcs, ?_⟩⟩, fun j hj => ?_⟩, fun w5 w' A B la lb ca cb dd ee P Q hw5 hw' => ?_⟩
    · rw [cell_of_blk hh, hat _ (by omega)]; exact h1.1
    · rw [cell_of_blk hh, hat _ (by omega)]; exact h1.2
    · rw [← htake, List.take_take, Nat.min_eq_left (by omega)]
    · have h2 := hx j (by omega)
      rw [List.getElem_append_left hj] at h2
      exact ⟨by rw [List.getElem?_take_of_lt (by omega)]; exact h2.1, by rw [List.getElem?_take_of_lt (by omega)]; exact h2.2⟩
    · rw [heap_setCell_same _ g _ _ _ _ (heap_setCell_same _ g _ _ _ _ (hw5.trans hh))] at hw'
      have hcl : (cur.setIfInBounds (W.length * 2) (.slice A la.length ca)).setIfInBounds (W.length * 2 + 1) (.slice B lb.length cb) = (cur.setIfInBounds (W.length * 2) (.slice A la.length ca)).setIfInBounds (W.length * 2 + 1) (.slice B lb.length cb) := rfl
      refine ⟨((xs.set (W.length * 2) (.slice A la.length ca)).set (W.length * 2 + 1) (.slice B lb.length cb)), ⟨by simp [ho.1], .inr ⟨g, cap, _, by simp, hg, hw', by simpa using hn, hcm, by simpa using hcs, ?_⟩⟩, fun j hj => ?_⟩
      · rw [← htake]
        simp [List.take_set]
      · have hj' : j < W.length + 1 := by simpa using hj
        have hxl : xs.length = (W.length + 1) * 2 := by rw [ho.1, hl]
        by_cases e : j < W.length
        · rw [List.getElem_append_left e]
          have h2 := hx j (by omega)
          rw [List.getElem_append_left e] at h2
          exact ⟨by rw [List.getElem?_set_ne (by omega), List.getElem?_set_ne (by omega)]; exact h2.1, by rw [List.getElem?_set_ne (by omega), List.getElem?_set_ne (by omega)]; exact h2.2⟩
        · have e' : j = W.length := by omega
          subst e'
          rw [List.getElem_append_right (Nat.le_refl _)]
          simp only [Nat.sub_self, List.getElem_cons_zero]
          exact ⟨by rw [List.getElem?_set_ne (by omega), List.getElem?_set_self (by omega)], by rw [List.getElem?_set_self (by simp; omega)]⟩
theorem OpnV.keep {w w' : World} {lo : Nat} {u : Value} {W : List EnV} (h : OpnV w lo u W) (hk : ∀ b, lo ≤ b → b < w.heap.size → w'.heap[b]? = w.heap[b]?) : OpnV w' lo u W := by
  obtain ⟨xs, ho, hx⟩ := h
  exact ⟨xs, own_at ho (fun b e => hk b (by obtain ⟨_, _, _, h⟩ := own_form ho; exact (h b e).1) (by obtain ⟨_, _, _, h⟩ := own_form ho; exact (h b e).2)), hx⟩
theorem OpnV.below {w w' : World} {lo : Nat} {u : Value} {W : List EnV} (h : OpnV w lo u W) (hb : Below w.heap.size w w') : OpnV w' lo u W := h.keep (fun b _ hb' => hb.block b hb')
theorem OpnV.nil_form {w : World} {lo : Nat} {u : Value} (h : OpnV w lo u []) : ∃ A c, u = .slice A 0 c := by
  obtain ⟨xs, ho, _⟩ := h
  obtain ⟨A, c, e, _⟩ := own_form ho
  exact ⟨A, c, e⟩
theorem OpnV.push {w' : World} {lo : Nat} {v' : Value} {W : List EnV} {x : EnV} {xs : List Value} (hl : xs.length = W.length * 2) (hx : ∀ j (h : j < W.length), xs[j * 2]? = some (.slice W[j].A W[j].la.length W[j].ca) ∧ xs[j * 2 + 1]? = some (.slice W[j].B W[j].lb.length W[j].cb)) (ho : w'.ownsRow lo 40 2 v' (W.length + 1) (xs ++ [.slice x.A x.la.length x.ca, .slice x.B x.lb.length x.cb])) : OpnV w' lo v' (W ++ [x]) := by
  refine ⟨_, by simpa using ho, fun j hj => ?_⟩
  have hj' : j < W.length + 1 := by simpa using hj
  by_cases e : j < W.length
  · rw [List.getElem_append_left e]
    exact ⟨by rw [List.getElem?_append_left (by omega)]; exact (hx j e).1, by rw [List.getElem?_append_left (by omega)]; exact (hx j e).2⟩
  · have e' : j = W.length := by omega
    subst e'
    rw [List.getElem_append_right (Nat.le_refl _)]
    simp only [Nat.sub_self, List.getElem_cons_zero]
    exact ⟨by rw [List.getElem?_append_right (by omega), hl, Nat.sub_self]; rfl, by rw [List.getElem?_append_right (by omega), hl, Nat.add_sub_cancel_left]; rfl⟩
theorem Fr.rowV {m : Nat} {w wr w' : World} {row : Option Nat} (h : Fr (fun b => b = m) w wr) (hg : wr.grownBy w' row) (hlo : ∀ b, row = some b → w.heap.size ≤ b) : Fr (fun b => b = m) w w' :=
  ⟨hg.os.trans h.1, hg.tape.trans h.2.1, hg.output.trans h.2.2.1, Nat.le_trans h.size hg.size, fun b hb hn => (hg.block b (Nat.lt_of_lt_of_le hb h.size) (by intro e; have := hlo b e.symm; omega)).trans (h.2.2.2.2 b hb hn)⟩
theorem Fr.nextV {m : Nat} {w wr w' : World} (h : Fr (fun b => b = m) w wr) (hb : Below wr.heap.size wr w') : Fr (fun b => b = m) w w' := h.trans (Fr.below hb)
theorem last_orV {α : Type} (l : List α) : l = [] ∨ ∃ L b, l = L ++ [b] := by
  rcases List.eq_nil_or_concat l with h | ⟨L, b, h⟩
  · exact .inl h
  · exact .inr ⟨L, b, by rw [h]; simp⟩
theorem Fr.cellV {P : Nat → Prop} {w w' : World} (h : Fr P w w') {a : Addr} (hb : a.block < w.heap.size) (hp : ¬ P a.block) : w'.cell? a = w.cell? a := World.cell?_of_block (h.2.2.2.2 a.block hb hp)
theorem keyOfV_own {d : Nat} {w0 : World} {P : Nat → Prop} {A : Option Addr} {l : List Vl} (h : OVc d w0 P A l) (cap : Nat) (w : World) :
    Calls Try.prog 17 #[.slice A l.length cap] w fun e w' => e = .returned (.agg #[.pointer (kA A l.length), .int .i64 l.length]) ∧ Below w.heap.size w w' := by
  by_cases h0 : 0 < l.length
  · obtain ⟨g, rfl, _, _⟩ := h.addr h0
    rw [kA_pos0 h0]
    obtain ⟨d', rfl, hl, _⟩ := h.parts
    exact keyOfV_any g l.length cap w hl h0
  · have e : l.length = 0 := by omega
    rw [e]
    exact keyOfV_nil A cap w
end Go.Proofs.Ytchgeogdiedloaa
/-
  cmp.Compare and cmp.Or at int. No statement is proved here.
-/
namespace Go.Proofs.Ytchgeogdiedloaa
open Go.RowKit Go.Sort Go.Deep
set_option maxRecDepth 100000
set_option linter.unusedVariables false
def cmpI (a b : Int) : Int := if a < b then -1 else if b < a then 1 else 0
theorem cmpI_lt {a b : Int} (h : a < b) : cmpI a b = -1 := if_pos h
theorem cmpI_gt {a b : Int} (h : b < a) : cmpI a b = 1 := by unfold cmpI; rw [if_neg (by omega), if_pos h]
theorem cmpI_eq {a b : Int} (h : a = b) : cmpI a b = 0 := by unfold cmpI; rw [if_neg (by omega), if_neg (by omega)]
theorem cmpI_ne {a b : Int} (h : ¬ a = b) : ¬ cmpI a b = 0 := by
  unfold cmpI
  by_cases h1 : a < b
  · rw [if_pos h1]; omega
  · rw [if_neg h1, if_pos (by omega)]; omega
theorem nan_any (a : Int) (w : World) : Calls Try.prog 20 #[.int .i64 a] w fun e w' => e = .returned (.bool false) ∧ w' = w := by
  have h : (a != a) = false := by simp
  go_enter Try.func20, Try.ntmps20
  go_wp2_with fail
  go_ret
  exact ⟨rfl, rfl⟩
set_option maxHeartbeats 1600000 in
theorem cmp_any (a b : Int) (w : World) : Calls Try.prog 15 #[.int .i64 a, .int .i64 b] w fun e w' => e = .returned (.int .i64 (cmpI a b)) ∧ w' = w := by
  by_cases h : a < b
  · have HE := Lib.hid (cmpI_lt h)
    go_enter Try.func15, Try.ntmps15
    go_wp2_with (go_at_call 20; refine (nan_any _ _).mono ?_; rintro e1 w1 ⟨rfl, rfl⟩)
    go_ret
    exact ⟨ret_i64 HE.out.symm, rfl⟩
  · by_cases h' : b < a
    · have HE := Lib.hid (cmpI_gt h')
      have q1 : decide (a < b) = false := decide_eq_false h
      clear h
      go_enter Try.func15, Try.ntmps15
      go_wp2_with (go_at_call 20; refine (nan_any _ _).mono ?_; rintro e1 w1 ⟨rfl, rfl⟩)
      go_ret
      exact ⟨ret_i64 HE.out.symm, rfl⟩
    · have HE := Lib.hid (cmpI_eq (show a = b by omega))
      have q1 : decide (a < b) = false := decide_eq_false h
      have q2 : decide (b < a) = false := decide_eq_false h'
      clear h h'
      go_enter Try.func15, Try.ntmps15
      go_wp2_with (go_at_call 20; refine (nan_any _ _).mono ?_; rintro e1 w1 ⟨rfl, rfl⟩)
      go_ret
      exact ⟨ret_i64 HE.out.symm, rfl⟩
def orI (a b : Int) : Int := if a = 0 then b else a
theorem orI_zero {a b : Int} : orI a b = 0 ↔ a = 0 ∧ b = 0 := by
  unfold orI
  by_cases h : a = 0
  · rw [if_pos h]; exact ⟨fun h' => ⟨h, h'⟩, fun h' => h'.2⟩
  · rw [if_neg h]; exact ⟨fun h' => absurd h' h, fun h' => h'.1⟩
set_option maxHeartbeats 1600000 in
theorem or_any (g : Nat) (a b : Int) (c : Nat) (w : World) (h0 : w.cell? ⟨g, 0, none⟩ = some (.int .i64 a)) (h1 : w.cell? ⟨g, 1, none⟩ = some (.int .i64 b)) : Calls Try.prog 16 #[.slice (some ⟨g, 0, none⟩) 2 c] w fun e w' => e = .returned (.int .i64 (orI a b)) ∧ w' = w := by
  go_enter Try.func16, Try.ntmps16
  go_wp2_with fail
  go_loopw [8] (fun i wr => ∃ k : Nat, k ≤ 2 ∧ i = .int .i64 k ∧ Hid ((0 < k → a = 0) ∧ (1 < k → b = 0)) ∧ wr = w) (fun i _ => 2 - (intOf i).toNat)
  case atStart => exact ⟨0, by omega, rfl, ⟨fun h => by omega, fun h => by omega⟩, rfl⟩
  case round =>
    obtain ⟨k, hk, rfl, HZ, rfl⟩ := hrel
    by_cases hlt : k < 2
    · have hkI : (k : Int) < 2 := by omega
      obtain ⟨v, hc, hv⟩ : ∃ v : Int, wr.cell? ⟨g, k, none⟩ = some (.int .i64 v) ∧ ((k = 0 ∧ v = a) ∨ (k = 1 ∧ v = b)) := by
        by_cases e : k = 0
        · subst e; exact ⟨a, h0, .inl ⟨rfl, rfl⟩⟩
        · have e : k = 1 := by omega
          subst e; exact ⟨b, h1, .inr ⟨rfl, rfl⟩⟩
      have HV := Lib.hid hv
      clear hv
      by_cases hz : v = 0
      · have u : (v != 0) = false := by simp [hz]
        have HN : Hid ((0 < k + 1 → a = 0) ∧ (1 < k + 1 → b = 0)) := by
          rcases HV.out with ⟨e, h⟩ | ⟨e, h⟩
          · exact ⟨fun _ => by omega, fun h' => by omega⟩
          · exact ⟨fun _ => HZ.out.1 (by omega), fun _ => by omega⟩
        clear hz
        go_wp2_with fail
        go_roundw
        case rel => exact ⟨k + 1, by omega, by go_num, HN, by first | rfl | trivial⟩
        case measure => simp [intOf]; omega
      · have u : (v != 0) = true := by simp [hz]
        have HE : Hid (orI a b = v) := by
          rcases HV.out with ⟨e, h⟩ | ⟨e, h⟩
          · unfold Hid; rw [h]; exact if_neg (by omega)
          · unfold Hid; rw [h]; exact if_pos (HZ.out.1 (by omega))
        clear hz
        go_wp2_with fail
        go_ret
        exact ⟨ret_i64 HE.out.symm, rfl⟩
    · have e2 : k = 2 := by omega
      have HE : Hid (orI a b = 0) := orI_zero.2 ⟨HZ.out.1 (by omega), HZ.out.2 (by omega)⟩
      subst e2
      go_wp2_with fail
      go_ret
      exact ⟨ret_i64 HE.out.symm, rfl⟩
end Go.Proofs.Ytchgeogdiedloaa
/-
  The order of values, and the worklist of CompareValues: what holds of it. No statement is proved here.
-/
namespace Go.Proofs.Ytchgeogdiedloaa
open Go.RowKit Go.Sort Go.Deep
set_option maxRecDepth 100000
set_option linter.unusedVariables false
theorem orI_z (b : Int) : orI 0 b = b := rfl
theorem orI_n {a : Int} (h : ¬ a = 0) (b : Int) : orI a b = a := if_neg h
theorem orI_0 (a : Int) : orI a 0 = a := by
  by_cases h : a = 0
  · subst h; rfl
  · exact orI_n h 0
theorem orI_assoc (a b c : Int) : orI (orI a b) c = orI a (orI b c) := by
  by_cases h : a = 0
  · subst h; rfl
  · rw [orI_n h, orI_n h, orI_n h]
mutual
/-- The order of two values: -1, 0 or 1. -/
def cmV : Vl → Vl → Int | .mk c n ks, w => orI (cmpI c w.ctor) (orI (cmpI n w.n) (cmL ks w.kids))
def cmL : List Vl → List Vl → Int | [], m => cmpI 0 m.length | u :: us, m => match m with | [] => cmpI ((us.length : Int) + 1) 0 | v :: vs => orI (cmV u v) (cmL us vs)
end
theorem cmV_eq (u v : Vl) : cmV u v = orI (cmpI u.ctor v.ctor) (orI (cmpI u.n v.n) (cmL u.kids v.kids)) := by cases u; rw [cmV]; rfl
theorem cmL_nil (m : List Vl) : cmL [] m = cmpI 0 m.length := by rw [cmL]
theorem cmL_nil2 (l : List Vl) : cmL l [] = cmpI l.length 0 := by
  cases l with
  | nil => rw [cmL]; rfl
  | cons u us => rw [cmL]; simp
theorem cmL_cons (u v : Vl) (us vs : List Vl) : cmL (u :: us) (v :: vs) = orI (cmV u v) (cmL us vs) := by rw [cmL]
theorem cmL_end {l m : List Vl} (h : l = [] ∨ m = []) : cmL l m = cmpI l.length m.length := by
  rcases h with rfl | rfl
  · exact cmL_nil m
  · exact cmL_nil2 l
/-- The order that a worklist stands for: its last pair counts first. -/
def cmW (W : List EnV) : Int := W.foldl (fun acc x => orI (cmL x.la x.lb) acc) 0
theorem cmW_app (W : List EnV) (x : EnV) : cmW (W ++ [x]) = orI (cmL x.la x.lb) (cmW W) := by unfold cmW; rw [List.foldl_append]; rfl
structure InvC (p q : Vl) (w : World) (m : Nat) (W : List EnV) (S : List KyV) : Prop where
  goal : cmV p q = cmW W
  ok : ∀ x ∈ W, x.ok w m
  apart : W.Pairwise (fun x y => ∀ b, x.P b → ¬ y.P b)
  met : ∀ x ∈ W, ∀ k ∈ S, ∀ a, k.a = some a → ¬ x.P a.block
  one : ∀ k ∈ S, k.a = none → k.b = none ∨ ∃ W' x, W = W' ++ [x] ∧ x.la = [] ∧ ¬ x.lb = []
  lies : ∀ k ∈ S, LyV w m k.a ∧ LyV w m k.b
theorem InvC.top {p q : Vl} {w : World} {m : Nat} {W : List EnV} {x : EnV} {S : List KyV} (h : InvC p q w m (W ++ [x]) S) (hx : ¬ (x.la = [] ∧ ¬ x.lb = [])) : ∀ k ∈ S, k.a = none → k.b = none := fun k hk h1 => by
  rcases h.one k hk h1 with h2 | ⟨W', y, e, h2, h3⟩
  · exact h2
  · obtain ⟨_, e2⟩ := List.append_inj' e rfl
    injection e2 with e2
    subst e2
    exact absurd ⟨h2, h3⟩ hx
theorem InvC.ends {p q : Vl} {w : World} {m : Nat} {W : List EnV} {x : EnV} {S : List KyV} (h : InvC p q w m (W ++ [x]) S) (he : x.la = [] ∨ x.lb = []) (hne : ¬ cmpI x.la.length x.lb.length = 0) : cmpI x.la.length x.lb.length = cmV p q := by
  rw [h.goal, cmW_app, cmL_end he, orI_n hne]
theorem InvC.pop {p q : Vl} {w : World} {m : Nat} {W : List EnV} {x : EnV} {S : List KyV} (h : InvC p q w m (W ++ [x]) S) (ha : x.la = []) (hb : x.lb = []) : InvC p q w m W S := by
  refine ⟨?_, fun y hy => h.ok y (in_front hy), (List.pairwise_append.1 h.apart).1, fun y hy => h.met y (in_front hy), fun k hk h1 => .inl (h.top (fun h2 => h2.2 hb) k hk h1), h.lies⟩
  rw [h.goal, cmW_app, ha, hb, cmL_nil]; rfl
section
variable {p q : Vl} {w : World} {m d e : Nat} {W : List EnV} {x : EnV} {S : List KyV} {u v : Vl} {la lb : List Vl} {A B A2 B2 : Option Addr} {Q R QB RB : Nat → Prop} {ca cb : Nat}
theorem InvC.first (h : InvC p q w m (W ++ [x]) S) (ha : x.la = u :: la) (hb : x.lb = v :: lb) : cmV p q = orI (orI (cmpI u.ctor v.ctor) (cmpI u.n v.n)) (orI (cmL u.kids v.kids) (orI (cmL la lb) (cmW W))) := by
  rw [h.goal, cmW_app, ha, hb, cmL_cons, cmV_eq]
  simp only [orI_assoc]
theorem InvC.step0 (h : InvC p q w m (W ++ [x]) S) (ha : x.la = u :: la) (hb : x.lb = v :: lb) (hf : u.ctor = v.ctor ∧ u.n = v.n) : cmV p q = orI (cmL u.kids v.kids) (orI (cmL la lb) (cmW W)) := by
  rw [h.first ha hb, cmpI_eq hf.1, cmpI_eq hf.2]; rfl
/-- The first of the top pair have been compared, and their parts were met before. -/
theorem InvC.skip (h : InvC p q w m (W ++ [x]) S) (ha : x.la = u :: la) (hb : x.lb = v :: lb) (hf : u.ctor = v.ctor ∧ u.n = v.n) (ho : OVc d w Q A2 u.kids) (hob : OVc e w QB B2 v.kids) (hQ : ∀ b, Q b → x.P b) (hR : ∀ b, R b → x.P b) (hm : kyV A2 u.kids.length B2 v.kids.length ∈ S)
    (hok : EnV.ok w m ⟨A, la, ca, B, lb, cb, x.d, R, x.e, RB⟩) : InvC p q w m (W ++ [⟨A, la, ca, B, lb, cb, x.d, R, x.e, RB⟩]) S := by
  have hg := h.step0 ha hb hf
  have htop := h.top (fun h2 => by rw [ha] at h2; cases h2.1)
  have ha0 : u.kids = [] := by
    by_cases e0 : 0 < u.kids.length
    · obtain ⟨g, rfl, hg, _⟩ := ho.addr e0
      exact absurd (hQ g hg) (h.met x in_last _ hm ⟨g, 0, none⟩ (kA_pos0 e0))
    · exact List.eq_nil_of_length_eq_zero (by omega)
  refine ⟨?_, fun y hy => ?_, ?_, fun y hy => ?_, fun k hk h1 => ?_, h.lies⟩
  · have hbn : kA B2 v.kids.length = none := htop _ hm (by show kA A2 u.kids.length = none; rw [ha0]; rfl)
    have hb0 : v.kids = [] := by
      by_cases e0 : 0 < v.kids.length
      · obtain ⟨g, rfl, hg, _⟩ := hob.addr e0
        rw [kA_pos0 e0] at hbn; cases hbn
      · exact List.eq_nil_of_length_eq_zero (by omega)
    rw [hg, cmW_app, ha0, hb0, cmL_nil]; rfl
  · rcases mem_last hy with hy | rfl
    · exact h.ok y (in_front hy)
    · exact hok
  · obtain ⟨h1, _, h3⟩ := List.pairwise_append.1 h.apart
    exact List.pairwise_append.2 ⟨h1, List.pairwise_singleton _ _, fun y hy z hz b hb hzb => by rw [List.mem_singleton.1 hz] at hzb; exact h3 y hy x (List.mem_singleton.2 rfl) b hb (hR b hzb)⟩
  · rcases mem_last hy with hy | rfl
    · exact h.met y (in_front hy)
    · exact fun k hk a h1 h2 => h.met x in_last k hk a h1 (hR _ h2)
  · exact .inl (htop k hk h1)
/-- The first of the top pair have been compared, and their parts wait. -/
theorem InvC.push {cA cB : Nat} {d' e' : Nat} (h : InvC p q w m (W ++ [x]) S) (ha : x.la = u :: la) (hb : x.lb = v :: lb) (hf : u.ctor = v.ctor ∧ u.n = v.n) (ho : OVc (d' + 1) w Q A2 u.kids) (hob : OVc (e' + 1) w QB B2 v.kids) (hQ : ∀ b, Q b → x.P b) (hR : ∀ b, R b → x.P b) (hQR : ∀ b, Q b → ¬ R b) (hQB : ∀ b, QB b → b < w.heap.size ∧ b ≠ m)
    (hok : EnV.ok w m ⟨A, la, ca, B, lb, cb, x.d, R, x.e, RB⟩) (hc1 : u.kids.length ≤ cA) (hc2 : v.kids.length ≤ cB) (hc3 : cA ≤ maxLen) (hc4 : cB ≤ maxLen) : InvC p q w m (W ++ [⟨A, la, ca, B, lb, cb, x.d, R, x.e, RB⟩] ++ [⟨A2, u.kids, cA, B2, v.kids, cB, d', fun b => Q b ∧ ∀ a, A2 = some a → b ≠ a.block, e', fun b => QB b ∧ ∀ a, B2 = some a → b ≠ a.block⟩]) (S ++ [kyV A2 u.kids.length B2 v.kids.length]) := by
  have hg := h.step0 ha hb hf
  have htop := h.top (fun h2 => by rw [ha] at h2; cases h2.1)
  have hxo := (h.ok x in_last).1.2.1
  have hka : ∀ a, (kyV A2 u.kids.length B2 v.kids.length).a = some a → A2 = some a ∧ Q a.block := fun a h1 => by
    have h1 : kA A2 u.kids.length = some a := h1
    by_cases e0 : 0 < u.kids.length
    · obtain ⟨g, rfl, hg, _⟩ := ho.addr e0
      rw [kA_pos0 e0] at h1
      cases h1
      exact ⟨rfl, hg⟩
    · rw [show u.kids.length = 0 by omega, kA_nil0] at h1; cases h1
  have hap := List.pairwise_append.1 h.apart
  refine ⟨?_, fun y hy => ?_, ?_, fun y hy k hk a h1 => ?_, fun k hk h1 => ?_, fun k hk => ?_⟩
  · rw [hg, cmW_app, cmW_app]
  · rcases mem_last hy with hy | rfl
    · rcases mem_last hy with hy | rfl
      · exact h.ok y (in_front hy)
      · exact hok
    · exact ⟨ho.sf (fun b hb => hxo b (hQ b hb)), hob.sf hQB, hc1, hc2, hc3, hc4⟩
  · refine List.pairwise_append.2 ⟨List.pairwise_append.2 ⟨hap.1, List.pairwise_singleton _ _, fun y hy z hz b hb' hzb => ?_⟩, List.pairwise_singleton _ _, fun y hy z hz b hb' hzb => ?_⟩
    · rw [List.mem_singleton.1 hz] at hzb
      exact hap.2.2 y hy x (List.mem_singleton.2 rfl) b hb' (hR b hzb)
    · rw [List.mem_singleton.1 hz] at hzb
      rcases mem_last hy with hy | rfl
      · exact hap.2.2 y hy x (List.mem_singleton.2 rfl) b hb' (hQ b hzb.1)
      · exact hQR b hzb.1 hb'
  · rcases mem_last hy with hy | rfl
    · rcases mem_last hy with hy | rfl
      · rcases mem_last hk with hk | rfl
        · exact h.met y (in_front hy) k hk a h1
        · exact fun h2 => hap.2.2 y hy x (List.mem_singleton.2 rfl) _ h2 (hQ _ (hka a h1).2)
      · rcases mem_last hk with hk | rfl
        · exact fun h2 => h.met x in_last k hk a h1 (hR _ h2)
        · exact fun h2 => hQR _ (hka a h1).2 h2
    · rcases mem_last hk with hk | rfl
      · exact fun h2 => h.met x in_last k hk a h1 (hQ _ h2.1)
      · exact fun h2 => h2.2 a (hka a h1).1 rfl
  · rcases mem_last hk with hk | rfl
    · exact .inl (htop k hk h1)
    · by_cases e0 : v.kids = []
      · exact .inl (by show kA B2 v.kids.length = none; rw [e0]; rfl)
      · refine .inr ⟨_, _, rfl, ?_, e0⟩
        show u.kids = []
        have h1 : kA A2 u.kids.length = none := h1
        by_cases e1 : 0 < u.kids.length
        · obtain ⟨g, rfl, hg, _⟩ := ho.addr e1
          rw [kA_pos0 e1] at h1; cases h1
        · exact List.eq_nil_of_length_eq_zero (by omega)
  · rcases mem_last hk with hk | rfl
    · exact h.lies k hk
    · exact ⟨ho.ly (fun b hb' => hxo b (hQ b hb')), hob.ly hQB⟩
end
end Go.Proofs.Ytchgeogdiedloaa
/-
  What the walk of CompareValues of the program needs. No statement is proved here.
-/
namespace Go.Proofs.Ytchgeogdiedloaa
open Go.RowKit Go.Sort Go.Deep
set_option maxRecDepth 100000
set_option linter.unusedVariables false
theorem wp_mapUpdate_kyV {w : World} {ops : Array Oper} {rest : List Oper} {o : Oper} {a : Act} {Q : Exit → Act → World → Prop}
    (hg : o.guard = none) (m x v : Operand) (hop : o.op = Op.mapUpdate 38 m x v) (b : Nat) (S : List KyV) (k : KyV)
    (hm : a.eval m = .map (some b)) (hS : MapKyV w b S) (hk : LiesKV w k) (hl : ∀ k' ∈ S, LiesKV w k') (hn : ¬ k ∈ S) (hx : a.eval x = k.v) (hv : a.eval v = .bool true)
    (hK : ∀ w', MapKyV w' b (S ++ [k]) → w.grownBy w' (some b) → wpList Try.prog ops Q rest (a.put o.dst undef) w') :
    wpList Try.prog ops Q (o :: rest) a w := by
  refine wpList_plain hg fun K' hK' => ?_
  obtain ⟨w', hrun, r1, r2⟩ := hS.put hk hl hn
  unfold Oper.wp
  simp [execOp, hop, hm, hx, hv, hrun, Result.andThen]
  exact hK' _ _ (hK w' r1 r2)
theorem infoPairV : (Try.prog.info? 40).map (fun i => (i.zero, i.size, i.bytes)) = some (some (.agg #[.slice none 0 0, .slice none 0 0]), 2, 48) := by kernel_rfl
theorem SfV.single {d m : Nat} {w : World} {P : Nat → Prop} {D : Option Addr} {c L : Nat} {p : Vl} (h : OVc d w P D p.kids) (hc : p.kids.length ≤ c ∧ c ≤ maxLen) (hL : w.heap[L]? = some (.cells #[.int .i64 p.ctor, .int .i64 p.n, .slice D p.kids.length c] 29 (0, 0))) (hP : ∀ b, P b → b < w.heap.size ∧ b ≠ m) (hm : L ≠ m) : SfV d w m P (some ⟨L, 0, none⟩) [p] := by
  refine ⟨by unfold maxLen; simp, hP, fun _ => ⟨L, 0, fun _ => P, rfl, heap_lt hL, hm, fun k b hk hb => ⟨hb, fun j hj hjk => ?_⟩, fun k hk => ?_⟩⟩
  · simp at hk hj; omega
  · have : k = 0 := by simp at hk; omega
    subst this
    exact ⟨D, c, (cell_of_blk hL _).trans rfl, (cell_of_blk hL _).trans rfl, (cell_of_blk hL _).trans rfl, hc, h⟩
def ZbKV (w : World) (g : Nat) : Prop := w.heap[g]? = some (.cells #[.pointer none, .int .i64 0, .pointer none, .int .i64 0] 48 (0, 0))
theorem heap_newV (w : World) (o : Obj) : (w.alloc o).heap[w.heap.size]? = some o := by show (w.heap.push o)[w.heap.size]? = _; simp
theorem ZbKV.new (w : World) : ZbKV (w.alloc (.cells #[.pointer none, .int .i64 0, .pointer none, .int .i64 0] 48)) w.heap.size := heap_newV _ _
theorem ZbKV.at_ {w w' : World} {g : Nat} (h : ZbKV w g) (hb : Below w.heap.size w w') : ZbKV w' g := (hb.block g (heap_lt h)).trans h
theorem ZbKV.cells {w : World} {g : Nat} (h : ZbKV w g) : w.cell? ⟨g, 0, none⟩ = some (.pointer none) ∧ w.cell? ⟨g, 1, none⟩ = some (.int .i64 0) ∧ w.cell? ⟨g, 2, none⟩ = some (.pointer none) ∧ w.cell? ⟨g, 3, none⟩ = some (.int .i64 0) ∧ w.frozen? ⟨g, 0, none⟩ = false ∧ w.frozen? ⟨g, 1, none⟩ = false ∧ w.frozen? ⟨g, 2, none⟩ = false ∧ w.frozen? ⟨g, 3, none⟩ = false :=
  ⟨(cell_of_blk h 0).trans rfl, (cell_of_blk h 1).trans rfl, (cell_of_blk h 2).trans rfl, (cell_of_blk h 3).trans rfl, frozen_of_row w g 0 _ 48 h, frozen_of_row w g 1 _ 48 h, frozen_of_row w g 2 _ 48 h, frozen_of_row w g 3 _ 48 h⟩
def StKV (w1 : World) (g : Nat) (k : KyV) (wx : World) : Prop := w1.heap.size ≤ g ∧ Below w1.heap.size w1 wx ∧ wx.heap[g]? = some (.cells #[.pointer k.a, .int .i64 k.n, .pointer k.b, .int .i64 k.m] 48 (0, 0))
theorem StKV.new {w1 w3 : World} {a b : Option Addr} {n m : Nat} (hb : Below w1.heap.size w1 w3) : StKV w1 w3.heap.size ⟨a, n, b, m⟩ (w3.alloc (.cells #[.pointer a, .int .i64 n, .pointer b, .int .i64 m] 48)) := ⟨hb.size, hb.alloc hb.size _, heap_newV _ _⟩
theorem StKV.set {w1 w3 : World} {g : Nat} {a b : Option Addr} {n m : Nat} (hb : Below w1.heap.size w1 w3) (hz : ZbKV w3 g) (hg : w1.heap.size ≤ g) : StKV w1 g ⟨a, n, b, m⟩ ((((w3.setCell ⟨g, 0, none⟩ (.pointer a)).setCell ⟨g, 1, none⟩ (.int .i64 n)).setCell ⟨g, 2, none⟩ (.pointer b)).setCell ⟨g, 3, none⟩ (.int .i64 m)) :=
  ⟨hg, (((hb.setCell hg _).setCell hg _).setCell hg _).setCell hg _, heap_setCell_same _ g _ _ _ _ (heap_setCell_same _ g _ _ _ _ (heap_setCell_same _ g _ _ _ _ (heap_setCell_same _ g _ _ _ _ hz)))⟩
theorem StKV.cells {w1 wx : World} {g : Nat} {k : KyV} (h : StKV w1 g k wx) : wx.cell? ⟨g, 0, none⟩ = some (.pointer k.a) ∧ wx.cell? ⟨g, 1, none⟩ = some (.int .i64 k.n) ∧ wx.cell? ⟨g, 2, none⟩ = some (.pointer k.b) ∧ wx.cell? ⟨g, 3, none⟩ = some (.int .i64 k.m) :=
  ⟨(cell_of_blk h.2.2 0).trans rfl, (cell_of_blk h.2.2 1).trans rfl, (cell_of_blk h.2.2 2).trans rfl, (cell_of_blk h.2.2 3).trans rfl⟩
theorem below_set4V {w1 w3 : World} {g : Nat} (hb : Below w1.heap.size w1 w3) (hg : w1.heap.size ≤ g) (a b c d : Value) : Below w1.heap.size w1 ((((w3.setCell ⟨g, 0, none⟩ a).setCell ⟨g, 1, none⟩ b).setCell ⟨g, 2, none⟩ c).setCell ⟨g, 3, none⟩ d) := (((hb.setCell hg _).setCell hg _).setCell hg _).setCell hg _
/-- Two values that stand in blocks of their own. -/
def TwoV (w1 : World) (g g2 : Nat) (u v : Vl) (A B : Option Addr) (ca cb : Nat) (wx : World) : Prop := w1.heap.size ≤ g ∧ w1.heap.size ≤ g2 ∧ Below w1.heap.size w1 wx ∧ wx.heap[g]? = some (.cells #[.int .i64 u.ctor, .int .i64 u.n, .slice A u.kids.length ca] 29 (0, 0)) ∧ wx.heap[g2]? = some (.cells #[.int .i64 v.ctor, .int .i64 v.n, .slice B v.kids.length cb] 29 (0, 0))
theorem TwoV.new1 (w1 : World) (u v : Vl) (A B : Option Addr) (ca cb : Nat) : TwoV w1 w1.heap.size (w1.heap.size + 1) u v A B ca cb (((w1.alloc (.cells #[.int .i64 u.ctor, .int .i64 u.n, .slice A u.kids.length ca] 29)).alloc (.cells #[.int .i64 v.ctor, .int .i64 v.n, .slice B v.kids.length cb] 29)).drew) := by
  refine ⟨Nat.le_refl _, by omega, (((Below.refl _ _).alloc (Nat.le_refl _) _).alloc (by simp) _).drew, (Below.heap_alloc _ _ _ (by simp)).trans (heap_newV _ _), ?_⟩
  have h := heap_newV (w1.alloc (.cells #[.int .i64 u.ctor, .int .i64 u.n, .slice A u.kids.length ca] 29)) (.cells #[.int .i64 v.ctor, .int .i64 v.n, .slice B v.kids.length cb] 29)
  rw [World.size_alloc] at h
  exact h
theorem TwoV.new2 (w1 : World) (u v : Vl) (A B : Option Addr) (ca cb : Nat) : TwoV w1 (w1.heap.size + 1) w1.heap.size u v A B ca cb (((w1.alloc (.cells #[.int .i64 v.ctor, .int .i64 v.n, .slice B v.kids.length cb] 29)).alloc (.cells #[.int .i64 u.ctor, .int .i64 u.n, .slice A u.kids.length ca] 29)).drew) := by
  refine ⟨by omega, Nat.le_refl _, (((Below.refl _ _).alloc (Nat.le_refl _) _).alloc (by simp) _).drew, ?_, (Below.heap_alloc _ _ _ (by simp)).trans (heap_newV _ _)⟩
  have h := heap_newV (w1.alloc (.cells #[.int .i64 v.ctor, .int .i64 v.n, .slice B v.kids.length cb] 29)) (.cells #[.int .i64 u.ctor, .int .i64 u.n, .slice A u.kids.length ca] 29)
  rw [World.size_alloc] at h
  exact h
theorem or_row (a b : Int) (w : World) : Calls Try.prog 16 #[.slice (some ⟨w.heap.size, 0, none⟩) 2 2] ((w.alloc (.cells #[.int .i64 a, .int .i64 b] 3)).drew) fun e w' => e = .returned (.int .i64 (orI a b)) ∧ w' = (w.alloc (.cells #[.int .i64 a, .int .i64 b] 3)).drew := or_any _ _ _ _ _ ((cell_of_blk (heap_newV w (.cells #[.int .i64 a, .int .i64 b] 3)) 0).trans rfl) ((cell_of_blk (heap_newV w (.cells #[.int .i64 a, .int .i64 b] 3)) 1).trans rfl)
def RsV (wc : World) (g i gA offA gB offB : Nat) (la lb : List Vl) (wx : World) : Prop := ∃ A3 B3 c3 c4, (A3 = some ⟨gA, offA + 3, none⟩ ∨ la = []) ∧ (B3 = some ⟨gB, offB + 3, none⟩ ∨ lb = []) ∧ (la.length ≤ c3 ∧ c3 ≤ maxLen) ∧ (lb.length ≤ c4 ∧ c4 ≤ maxLen) ∧ wx.heap[g]? = ((wc.setCell ⟨g, i, none⟩ (.slice A3 la.length c3)).setCell ⟨g, i + 1, none⟩ (.slice B3 lb.length c4)).heap[g]? ∧ Fr (fun b => b = g) wc wx
theorem RsV.mk {wc : World} {g i gA offA gB offB : Nat} {la lb : List Vl} {A3 B3 : Option Addr} {c3 c4 : Nat} (hA : A3 = some ⟨gA, offA + 3, none⟩ ∨ la = []) (hB : B3 = some ⟨gB, offB + 3, none⟩ ∨ lb = []) (hc : la.length ≤ c3 ∧ c3 ≤ maxLen) (hd : lb.length ≤ c4 ∧ c4 ≤ maxLen) : RsV wc g i gA offA gB offB la lb (((wc.setCell ⟨g, i, none⟩ (.slice A3 la.length c3)).setCell ⟨g, i + 1, none⟩ (.slice B3 lb.length c4)).drew) :=
  ⟨A3, B3, c3, c4, hA, hB, hc, hd, rfl, ((Fr.set (P := fun b => b = g) _ _ _ _ rfl).trans (Fr.set (P := fun b => b = g) _ _ _ _ rfl)).trans (Fr.below (Below.refl _ _).drew)⟩
theorem Fr.highV {m g : Nat} {w wr w' : World} (h : Fr (fun b => b = m) w wr) (hg : Fr (fun b => b = g) wr w') (hlo : w.heap.size ≤ g) : Fr (fun b => b = m) w w' :=
  ⟨hg.1.trans h.1, hg.2.1.trans h.2.1, hg.2.2.1.trans h.2.2.1, Nat.le_trans h.size hg.size, fun b hb hn => (hg.2.2.2.2 b (Nat.lt_of_lt_of_le hb h.size) (by omega)).trans (h.2.2.2.2 b hb hn)⟩
theorem SfV.at_ {d m : Nat} {w : World} {P : Nat → Prop} {A A3 : Option Addr} {l : List Vl} (h : SfV d w m P A l) (hA : A3 = A ∨ l = []) : SfV d w m P A3 l := by
  rcases hA with rfl | rfl
  · exact h
  · exact SfV.empty _ h.2.1
theorem TwoV.cells {w1 wx : World} {g g2 : Nat} {u v : Vl} {A B : Option Addr} {ca cb : Nat} (h : TwoV w1 g g2 u v A B ca cb wx) : wx.cell? ⟨g, 0, none⟩ = some (.int .i64 u.ctor) ∧ wx.cell? ⟨g, 1, none⟩ = some (.int .i64 u.n) ∧ wx.cell? ⟨g, 2, none⟩ = some (.slice A u.kids.length ca) ∧ wx.cell? ⟨g2, 0, none⟩ = some (.int .i64 v.ctor) ∧ wx.cell? ⟨g2, 1, none⟩ = some (.int .i64 v.n) ∧ wx.cell? ⟨g2, 2, none⟩ = some (.slice B v.kids.length cb) :=
  ⟨(cell_of_blk h.2.2.2.1 0).trans rfl, (cell_of_blk h.2.2.2.1 1).trans rfl, (cell_of_blk h.2.2.2.1 2).trans rfl, (cell_of_blk h.2.2.2.2 0).trans rfl, (cell_of_blk h.2.2.2.2 1).trans rfl, (cell_of_blk h.2.2.2.2 2).trans rfl⟩
end Go.Proofs.Ytchgeogdiedloaa
