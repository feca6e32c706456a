/-
  The worklist of pairs of lists of the program's CompareValues: what holds of it, as far as equality goes. No statement is proved here.
-/
import Derived.Test.YtakhobhmplneeaaY32
import Derived.Test.YtakhobhmplneeaaY22
import Derived.Test.YtakhobhmplneeaaY01
import Derived.Test.YtakhobhmplneeaaY09
namespace Go.Proofs.Ytakhobhmplneeaa
open Go.RowKit Go.Sort Go.Deep
set_option maxRecDepth 100000
set_option linter.unusedVariables false
/-- The least number that has a property. -/
noncomputable def lstV (P : Nat → Prop) : Nat := @dite _ (∃ n, P n ∧ ∀ m, P m → n ≤ m) (Classical.propDecidable _) (fun h => Classical.choose h) (fun _ => 0)
theorem leastV_ex (P : Nat → Prop) : ∀ n, P n → ∃ n, P n ∧ ∀ m, P m → n ≤ m := by
  intro n
  induction n using Nat.strongRecOn with
  | ind n ih =>
    intro h
    by_cases e : ∃ m, m < n ∧ P m
    · obtain ⟨m, hm, hp⟩ := e; exact ih m hm hp
    · exact ⟨n, h, fun m hm => by
        by_cases hl : m < n
        · exact absurd ⟨m, hl, hm⟩ e
        · omega⟩
theorem lstV_spec {P : Nat → Prop} {n : Nat} (h : P n) : P (lstV P) ∧ ∀ m, P m → lstV P ≤ m := by
  have hx := leastV_ex P n h
  unfold lstV
  rw [dif_pos hx]
  exact Classical.choose_spec hx
theorem OVc.addr {d : Nat} {w : World} {P : Nat → Prop} {A : Option Addr} {l : List Vl} (h : OVc d w P A l) (hl : 0 < l.length) : ∃ g, A = some ⟨g, 0, none⟩ ∧ P g ∧ ∃ c, w.heap[g]? = some (.cells c 28 (0, 0)) := by
  obtain ⟨d', rfl, _, hp⟩ := h.parts
  obtain ⟨g, cs, Q, e, hg, hh, _⟩ := hp hl
  exact ⟨g, e, hg, cs, hh⟩
def LyV (w : World) (m : Nat) (a : Option Addr) : Prop := ∀ x, a = some x → x.block < w.heap.size ∧ x.block ≠ m ∧ ∃ c t, w.heap[x.block]? = some (.cells c t (0, 0))
theorem LyV.lies {w w' : World} {m : Nat} {a : Option Addr} (h : LyV w m a) (hf : Fr (fun b => b = m) w w') : LiesPV w' a := fun x hx => by
  obtain ⟨h1, h2, c, t, h3⟩ := h x hx
  exact ⟨c, t, hf.block h3 h2⟩
theorem kA_nil0 (A : Option Addr) : kA A 0 = none := rfl
theorem kA_pos0 {A : Option Addr} {n : Nat} (h : 0 < n) : kA A n = A := if_neg (by omega)
theorem OVc.ly {d : Nat} {w : World} {P : Nat → Prop} {A : Option Addr} {l : List Vl} {m : Nat} (h : OVc d w P A l) (hm : ∀ b, P b → b < w.heap.size ∧ b ≠ m) : LyV w m (kA A l.length) := fun x hx => by
  by_cases h0 : l.length = 0
  · rw [h0, kA_nil0] at hx; cases hx
  · obtain ⟨g, rfl, hg, c, hh⟩ := h.addr (by omega)
    rw [kA_pos0 (by omega)] at hx
    cases hx
    exact ⟨(hm g hg).1, (hm g hg).2, c, _, hh⟩
/-- The rest of a list, from some place of its row on; the parts of its elements in blocks of P, each in its own. -/
def SfV (d : Nat) (w : World) (m : Nat) (P : Nat → Prop) (A : Option Addr) (l : List Vl) : Prop := l.length ≤ maxLen ∧ (∀ b, P b → b < w.heap.size ∧ b ≠ m) ∧ (0 < l.length → ∃ (g off : Nat) (Q : Nat → Nat → Prop), A = some ⟨g, off, none⟩ ∧ g < w.heap.size ∧ g ≠ m ∧ (∀ k b, k < l.length → Q k b → P b ∧ ∀ j, j < l.length → j ≠ k → ¬ Q j b) ∧ ∀ k (h : k < l.length), ∃ A' cap, w.cell? ⟨g, off + k * 3, none⟩ = some (.int .i64 l[k].ctor) ∧ w.cell? ⟨g, off + k * 3 + 1, none⟩ = some (.int .i64 l[k].n) ∧ w.cell? ⟨g, off + k * 3 + 2, none⟩ = some (.slice A' l[k].kids.length cap) ∧ (l[k].kids.length ≤ cap ∧ cap ≤ maxLen) ∧ OVc d w (Q k) A' l[k].kids)
theorem OVc.sf {d m : Nat} {w : World} {P : Nat → Prop} {A : Option Addr} {l : List Vl} (h : OVc (d + 1) w P A l) (hm : ∀ b, P b → b < w.heap.size ∧ b ≠ m) : SfV d w m (fun b => P b ∧ ∀ a, A = some a → b ≠ a.block) A l := by
  obtain ⟨h1, h2⟩ := h
  refine ⟨h1, fun b hb => hm b hb.1, fun hl => ?_⟩
  obtain ⟨g, cs, Q, rfl, hg, hh, hq, hc⟩ := h2 hl
  refine ⟨g, 0, Q, rfl, (hm g hg).1, (hm g hg).2, fun k b hk hb => ⟨⟨(hq k b hk hb).1, fun a ha => by cases ha; exact (hq k b hk hb).2.1⟩, (hq k b hk hb).2.2⟩, fun k hk => ?_⟩
  obtain ⟨A', cap, e0, e1, e2, e9⟩ := hc k hk
  exact ⟨A', cap, by rw [Nat.zero_add]; exact (cell_of_blk hh _).trans e0, by rw [Nat.zero_add]; exact (cell_of_blk hh _).trans e1, by rw [Nat.zero_add]; exact (cell_of_blk hh _).trans e2.1, e2.2, e9⟩
/-- The first element, and what is behind it. -/
theorem SfV.cut {d m : Nat} {w : World} {P : Nat → Prop} {A : Option Addr} {u : Vl} {l : List Vl} (h : SfV d w m P A (u :: l)) : ∃ (g off : Nat) (A' : Option Addr) (cap : Nat) (Q R : Nat → Prop), A = some ⟨g, off, none⟩ ∧ g < w.heap.size ∧ g ≠ m ∧ w.cell? ⟨g, off, none⟩ = some (.int .i64 u.ctor) ∧ w.cell? ⟨g, off + 1, none⟩ = some (.int .i64 u.n) ∧ w.cell? ⟨g, off + 2, none⟩ = some (.slice A' u.kids.length cap) ∧ (u.kids.length ≤ cap ∧ cap ≤ maxLen) ∧ OVc d w Q A' u.kids ∧ SfV d w m R (some ⟨g, off + 3, none⟩) l ∧ (∀ b, Q b → P b) ∧ (∀ b, R b → P b) ∧ ∀ b, Q b → ¬ R b := by
  obtain ⟨h1, h2, h3⟩ := h
  obtain ⟨g, off, Q, rfl, hg, hgm, hq, hc⟩ := h3 (by simp)
  obtain ⟨A', cap, e0, e1, e2, e3, e9⟩ := hc 0 (by simp)
  simp only [List.getElem_cons_zero, Nat.zero_mul, Nat.add_zero] at e0 e1 e2 e3 e9
  refine ⟨g, off, A', cap, Q 0, fun b => P b ∧ ¬ Q 0 b, rfl, hg, hgm, e0, e1, e2, e3, e9, ⟨by simp at h1; omega, fun b hb => h2 b hb.1, fun hl => ⟨g, off + 3, fun k => Q (k + 1), rfl, hg, hgm, fun k b hk hb => ?_, fun k hk => ?_⟩⟩, fun b hb => (hq 0 b (by simp) hb).1, fun b hb => hb.1, fun b hb hr => hr.2 hb⟩
  · have hx := hq (k + 1) b (by simpa using hk) hb
    exact ⟨⟨hx.1, hx.2 0 (by simp) (by omega)⟩, fun j hj hjk => hx.2 (j + 1) (by simpa using hj) (by omega)⟩
  · obtain ⟨B, c, f0, f1, f2, f3, f9⟩ := hc (k + 1) (by simpa using hk)
    simp only [List.getElem_cons_succ] at f0 f1 f2 f3 f9
    rw [show off + (k + 1) * 3 = off + 3 + k * 3 by omega] at f0 f1 f2
    exact ⟨B, c, f0, f1, f2, f3, f9⟩
theorem SfV.empty {d m : Nat} {w : World} {P : Nat → Prop} (A : Option Addr) (h : ∀ b, P b → b < w.heap.size ∧ b ≠ m) : SfV d w m P A [] := ⟨Nat.zero_le _, h, fun h => absurd h (Nat.lt_irrefl 0)⟩
structure EnV where
  A : Option Addr
  la : List Vl
  ca : Nat
  B : Option Addr
  lb : List Vl
  cb : Nat
  d : Nat
  P : Nat → Prop
  e : Nat
  Q : Nat → Prop
def EnV.ok (w : World) (m : Nat) (x : EnV) : Prop := SfV x.d w m x.P x.A x.la ∧ SfV x.e w m x.Q x.B x.lb ∧ x.la.length ≤ x.ca ∧ x.lb.length ≤ x.cb ∧ x.ca ≤ maxLen ∧ x.cb ≤ maxLen
def kyV (A : Option Addr) (n : Nat) (B : Option Addr) (m : Nat) : KyV := ⟨kA A n, n, kA B m, m⟩
structure InvV (p q : Vl) (w : World) (m : Nat) (W : List EnV) (S : List KyV) : Prop where
  goal : p = q ↔ ∀ x ∈ W, x.la = x.lb
  ok : ∀ x ∈ W, x.ok w m
  apart : W.Pairwise (fun x y => ∀ b, x.P b → ¬ y.P b)
  met : ∀ x ∈ W, ∀ k ∈ S, ∀ a, k.a = some a → ¬ x.P a.block
  one : ∀ k ∈ S, k.a = none → k.b = none ∨ ∃ x ∈ W, x.la = [] ∧ ¬ x.lb = []
  lies : ∀ k ∈ S, LyV w m k.a ∧ LyV w m k.b
theorem vl_eq {u v : Vl} : u = v ↔ u.ctor = v.ctor ∧ u.n = v.n ∧ u.kids = v.kids := by
  constructor
  · rintro rfl; exact ⟨rfl, rfl, rfl⟩
  · rintro ⟨h0, h1, h2⟩
    cases u; cases v
    simp only [Vl.ctor, Vl.n, Vl.kids] at h0 h1 h2
    subst h0 h1 h2; rfl
theorem mem_last {α : Type} {l : List α} {x y : α} (hy : y ∈ l ++ [x]) : y ∈ l ∨ y = x := (List.mem_append.1 hy).imp id List.mem_singleton.1
theorem in_last {α : Type} {l : List α} {x : α} : x ∈ l ++ [x] := List.mem_append.2 (.inr (List.mem_singleton.2 rfl))
theorem in_front {α : Type} {l : List α} {x y : α} (h : y ∈ l) : y ∈ l ++ [x] := List.mem_append.2 (.inl h)
theorem InvV.pop {p q : Vl} {w : World} {m : Nat} {W : List EnV} {x : EnV} {S : List KyV} (h : InvV p q w m (W ++ [x]) S) (ha : x.la = []) (hb : x.lb = []) : InvV p q w m W S := by
  refine ⟨?_, fun y hy => h.ok y (in_front hy), (List.pairwise_append.1 h.apart).1, fun y hy => h.met y (in_front hy), fun k hk h1 => ?_, h.lies⟩
  · rw [h.goal]
    refine ⟨fun hh y hy => hh y (in_front hy), fun hh y hy => ?_⟩
    rcases mem_last hy with hy | rfl
    · exact hh y hy
    · rw [ha, hb]
  · rcases h.one k hk h1 with h2 | ⟨y, hy, h2, h3⟩
    · exact .inl h2
    · rcases mem_last hy with hy | rfl
      · exact .inr ⟨y, hy, h2, h3⟩
      · exact absurd hb h3
section
variable {p q : Vl} {w : World} {m d e : Nat} {W : List EnV} {x : EnV} {S : List KyV} {u v : Vl} {la lb : List Vl} {A B A2 B2 : Option Addr} {Q R QB RB : Nat → Prop} {ca cb : Nat}
theorem InvV.step0 (h : InvV p q w m (W ++ [x]) S) (ha : x.la = u :: la) (hb : x.lb = v :: lb) (hf : u.ctor = v.ctor ∧ u.n = v.n) : p = q ↔ (∀ y ∈ W, y.la = y.lb) ∧ la = lb ∧ u.kids = v.kids := by
  rw [h.goal]
  constructor
  · intro hh
    have hx := hh x in_last
    rw [ha, hb] at hx
    injection hx with h1 h2
    exact ⟨fun y hy => hh y (in_front hy), h2, by rw [h1]⟩
  · rintro ⟨h1, h2, h3⟩ y hy
    rcases mem_last hy with hy | rfl
    · exact h1 y hy
    · rw [ha, hb, vl_eq.2 ⟨hf.1, hf.2, h3⟩, h2]
/-- The first of the top pair have been compared, and their parts were met before. -/
theorem InvV.skip (h : InvV p q w m (W ++ [x]) S) (ha : x.la = u :: la) (hb : x.lb = v :: lb) (hf : u.ctor = v.ctor ∧ u.n = v.n) (ho : OVc d w Q A2 u.kids) (hob : OVc e w QB B2 v.kids) (hQ : ∀ b, Q b → x.P b) (hR : ∀ b, R b → x.P b) (hm : kyV A2 u.kids.length B2 v.kids.length ∈ S)
    (hok : EnV.ok w m ⟨A, la, ca, B, lb, cb, x.d, R, x.e, RB⟩) : InvV p q w m (W ++ [⟨A, la, ca, B, lb, cb, x.d, R, x.e, RB⟩]) S := by
  have hg := h.step0 ha hb hf
  have ha0 : u.kids = [] := by
    by_cases e0 : 0 < u.kids.length
    · obtain ⟨g, rfl, hg, _⟩ := ho.addr e0
      exact absurd (hQ g hg) (h.met x in_last _ hm ⟨g, 0, none⟩ (kA_pos0 e0))
    · exact List.eq_nil_of_length_eq_zero (by omega)
  refine ⟨?_, fun y hy => ?_, ?_, fun y hy => ?_, fun k hk h1 => ?_, h.lies⟩
  · rw [hg]
    rcases h.one _ hm (by show kA A2 u.kids.length = none; rw [ha0]; rfl) with hbn | ⟨y, hy, h1, h2⟩
    · have hb0 : v.kids = [] := by
        by_cases e0 : 0 < v.kids.length
        · obtain ⟨g, rfl, hg, _⟩ := hob.addr e0
          have hbn' : kA (some ⟨g, 0, none⟩) v.kids.length = none := hbn
          rw [kA_pos0 e0] at hbn'; cases hbn'
        · exact List.eq_nil_of_length_eq_zero (by omega)
      constructor
      · rintro ⟨h1, h2, _⟩ y hy
        rcases mem_last hy with hy | rfl
        · exact h1 y hy
        · exact h2
      · intro hh
        exact ⟨fun y hy => hh y (in_front hy), hh _ in_last, by rw [ha0, hb0]⟩
    · have hyW : y ∈ W := by
        rcases mem_last hy with hy | rfl
        · exact hy
        · rw [ha] at h1; cases h1
      constructor
      · rintro ⟨h3, _⟩; exact absurd ((h3 y hyW).symm.trans h1) h2
      · intro hh; exact absurd ((hh y (in_front hyW)).symm.trans h1) h2
  · rcases mem_last hy with hy | rfl
    · exact h.ok y (in_front hy)
    · exact hok
  · obtain ⟨h1, _, h3⟩ := List.pairwise_append.1 h.apart
    exact List.pairwise_append.2 ⟨h1, List.pairwise_singleton _ _, fun y hy z hz b hb hzb => by rw [List.mem_singleton.1 hz] at hzb; exact h3 y hy x (List.mem_singleton.2 rfl) b hb (hR b hzb)⟩
  · rcases mem_last hy with hy | rfl
    · exact h.met y (in_front hy)
    · exact fun k hk a h1 h2 => h.met x in_last k hk a h1 (hR _ h2)
  · rcases h.one k hk h1 with h2 | ⟨y, hy, h2, h3⟩
    · exact .inl h2
    · rcases mem_last hy with hy | rfl
      · exact .inr ⟨y, in_front hy, h2, h3⟩
      · rw [ha] at h2; cases h2
/-- The first of the top pair have been compared, and their parts wait. -/
theorem InvV.push {cA cB : Nat} {d' e' : Nat} (h : InvV p q w m (W ++ [x]) S) (ha : x.la = u :: la) (hb : x.lb = v :: lb) (hf : u.ctor = v.ctor ∧ u.n = v.n) (ho : OVc (d' + 1) w Q A2 u.kids) (hob : OVc (e' + 1) w QB B2 v.kids) (hQ : ∀ b, Q b → x.P b) (hR : ∀ b, R b → x.P b) (hQR : ∀ b, Q b → ¬ R b) (hQB : ∀ b, QB b → b < w.heap.size ∧ b ≠ m)
    (hok : EnV.ok w m ⟨A, la, ca, B, lb, cb, x.d, R, x.e, RB⟩) (hc1 : u.kids.length ≤ cA) (hc2 : v.kids.length ≤ cB) (hc3 : cA ≤ maxLen) (hc4 : cB ≤ maxLen) : InvV p q w m (W ++ [⟨A, la, ca, B, lb, cb, x.d, R, x.e, RB⟩] ++ [⟨A2, u.kids, cA, B2, v.kids, cB, d', fun b => Q b ∧ ∀ a, A2 = some a → b ≠ a.block, e', fun b => QB b ∧ ∀ a, B2 = some a → b ≠ a.block⟩]) (S ++ [kyV A2 u.kids.length B2 v.kids.length]) := by
  have hg := h.step0 ha hb hf
  have hxo := (h.ok x in_last).1.2.1
  have hka : ∀ a, (kyV A2 u.kids.length B2 v.kids.length).a = some a → A2 = some a ∧ Q a.block := fun a h1 => by
    have h1 : kA A2 u.kids.length = some a := h1
    by_cases e0 : 0 < u.kids.length
    · obtain ⟨g, rfl, hg, _⟩ := ho.addr e0
      rw [kA_pos0 e0] at h1
      cases h1
      exact ⟨rfl, hg⟩
    · rw [show u.kids.length = 0 by omega, kA_nil0] at h1; cases h1
  have hap := List.pairwise_append.1 h.apart
  refine ⟨?_, fun y hy => ?_, ?_, fun y hy k hk a h1 => ?_, fun k hk h1 => ?_, fun k hk => ?_⟩
  · rw [hg]
    constructor
    · rintro ⟨h1, h2, h3⟩ y hy
      rcases mem_last hy with hy | rfl
      · rcases mem_last hy with hy | rfl
        · exact h1 y hy
        · exact h2
      · exact h3
    · intro hh
      exact ⟨fun y hy => hh y (in_front (in_front hy)), hh _ (in_front in_last), hh _ in_last⟩
  · rcases mem_last hy with hy | rfl
    · rcases mem_last hy with hy | rfl
      · exact h.ok y (in_front hy)
      · exact hok
    · exact ⟨ho.sf (fun b hb => hxo b (hQ b hb)), hob.sf hQB, hc1, hc2, hc3, hc4⟩
  · refine List.pairwise_append.2 ⟨List.pairwise_append.2 ⟨hap.1, List.pairwise_singleton _ _, fun y hy z hz b hb' hzb => ?_⟩, List.pairwise_singleton _ _, fun y hy z hz b hb' hzb => ?_⟩
    · rw [List.mem_singleton.1 hz] at hzb
      exact hap.2.2 y hy x (List.mem_singleton.2 rfl) b hb' (hR b hzb)
    · rw [List.mem_singleton.1 hz] at hzb
      rcases mem_last hy with hy | rfl
      · exact hap.2.2 y hy x (List.mem_singleton.2 rfl) b hb' (hQ b hzb.1)
      · exact hQR b hzb.1 hb'
  · rcases mem_last hy with hy | rfl
    · rcases mem_last hy with hy | rfl
      · rcases mem_last hk with hk | rfl
        · exact h.met y (in_front hy) k hk a h1
        · exact fun h2 => hap.2.2 y hy x (List.mem_singleton.2 rfl) _ h2 (hQ _ (hka a h1).2)
      · rcases mem_last hk with hk | rfl
        · exact fun h2 => h.met x in_last k hk a h1 (hR _ h2)
        · exact fun h2 => hQR _ (hka a h1).2 h2
    · rcases mem_last hk with hk | rfl
      · exact fun h2 => h.met x in_last k hk a h1 (hQ _ h2.1)
      · exact fun h2 => h2.2 a (hka a h1).1 rfl
  · rcases mem_last hk with hk | rfl
    · rcases h.one k hk h1 with h2 | ⟨y, hy, h2, h3⟩
      · exact .inl h2
      · rcases mem_last hy with hy | rfl
        · exact .inr ⟨y, in_front (in_front hy), h2, h3⟩
        · rw [ha] at h2; cases h2
    · by_cases e0 : v.kids = []
      · exact .inl (by show kA B2 v.kids.length = none; rw [e0]; rfl)
      · refine .inr ⟨_, in_last, ?_, e0⟩
        show u.kids = []
        have h1 : kA A2 u.kids.length = none := h1
        by_cases e1 : 0 < u.kids.length
        · obtain ⟨g, rfl, hg, _⟩ := ho.addr e1
          rw [kA_pos0 e1] at h1; cases h1
        · exact List.eq_nil_of_length_eq_zero (by omega)
  · rcases mem_last hk with hk | rfl
    · exact h.lies k hk
    · exact ⟨ho.ly (fun b hb' => hxo b (hQ b hb')), hob.ly hQB⟩
end
def muV (W : List EnV) : Nat := (W.map (fun x => 1 + 2 * wVs x.la)).sum
theorem muV_app (W : List EnV) (x : EnV) : muV (W ++ [x]) = muV W + (1 + 2 * wVs x.la) := by unfold muV; simp
theorem muV_len (W : List EnV) : W.length ≤ muV W := by
  induction W with
  | nil => exact Nat.zero_le _
  | cons x W ih => unfold muV at ih ⊢; rw [List.map_cons, List.sum_cons, List.length_cons]; omega
/-- The worklist in memory: a row of the call's own. -/
def OpnV (w : World) (lo : Nat) (u : Value) (W : List EnV) : Prop := ∃ xs, w.ownsRow lo 67 2 u W.length xs ∧ ∀ j (h : j < W.length), xs[j * 2]? = some (.slice W[j].A W[j].la.length W[j].ca) ∧ xs[j * 2 + 1]? = some (.slice W[j].B W[j].lb.length W[j].cb)
theorem OpnV.top {w : World} {lo : Nat} {u : Value} {W : List EnV} {x : EnV} (h : OpnV w lo u (W ++ [x])) : ∃ g cap, u = .slice (some ⟨g, 0, none⟩) (W.length + 1) cap ∧ lo ≤ g ∧ g < w.heap.size ∧ W.length + 1 ≤ cap ∧ cap ≤ maxLen ∧ w.cell? ⟨g, W.length * 2, none⟩ = some (.slice x.A x.la.length x.ca) ∧ w.cell? ⟨g, W.length * 2 + 1, none⟩ = some (.slice x.B x.lb.length x.cb) ∧ w.frozen? ⟨g, W.length * 2, none⟩ = false ∧ w.frozen? ⟨g, W.length * 2 + 1, none⟩ = false ∧ OpnV w lo (.slice (some ⟨g, 0, none⟩) W.length cap) W ∧
    ∀ (w5 w' : World) (A B : Option Addr) (la lb : List Vl) (ca cb dd ee : Nat) (P Q : Nat → Prop), w5.heap[g]? = w.heap[g]? → w'.heap[g]? = ((w5.setCell ⟨g, W.length * 2, none⟩ (.slice A la.length ca)).setCell ⟨g, W.length * 2 + 1, none⟩ (.slice B lb.length cb)).heap[g]? → OpnV w' lo u (W ++ [⟨A, la, ca, B, lb, cb, dd, P, ee, Q⟩]) := by
  obtain ⟨xs, ho, hx⟩ := h
  have hl : (W ++ [x]).length = W.length + 1 := by simp
  have h1 := hx W.length (by omega)
  rw [List.getElem_append_right (Nat.le_refl _)] at h1
  simp only [Nat.sub_self, List.getElem_cons_zero] at h1
  rcases ho.2 with ⟨_, h0⟩ | ⟨g, cap, cur, rfl, hg, hh, hn, hcm, hcs, htake⟩
  · rw [hl] at h0; cases h0
  · have hat : ∀ i, i < (W.length + 1) * 2 → cur[i]? = xs[i]? := fun i hi => by
      rw [← htake, List.getElem?_take_of_lt (by rw [hl]; exact hi), Array.getElem?_toList]
    rw [hl] at hn htake
    refine ⟨g, cap, by rw [hl], hg, heap_lt hh, by omega, hcm, ?_, ?_, frozen_of_row w g _ cur _ hh, frozen_of_row w g _ cur _ hh, ⟨xs.take (W.length * 2), ⟨by rw [List.length_take, ho.1, hl]; omega, .inr ⟨g, cap, cur, rfl, hg, hh, by omega, hcm, hcs, ?_⟩⟩, fun j hj => ?_⟩, fun w5 w' A B la lb ca cb dd ee P Q hw5 hw' => ?_⟩
    · rw [cell_of_blk hh, hat _ (by omega)]; exact h1.1
    · rw [cell_of_blk hh, hat _ (by omega)]; exact h1.2
    · rw [← htake, List.take_take, Nat.min_eq_left (by omega)]
    · have h2 := hx j (by omega)
      rw [List.getElem_append_left hj] at h2
      exact ⟨by rw [List.getElem?_take_of_lt (by omega)]; exact h2.1, by rw [List.getElem?_take_of_lt (by omega)]; exact h2.2⟩
    · rw [heap_setCell_same _ g _ _ _ _ (heap_setCell_same _ g _ _ _ _ (hw5.trans hh))] at hw'
      have hcl : (cur.setIfInBounds (W.length * 2) (.slice A la.length ca)).setIfInBounds (W.length * 2 + 1) (.slice B lb.length cb) = (cur.setIfInBounds (W.length * 2) (.slice A la.length ca)).setIfInBounds (W.length * 2 + 1) (.slice B lb.length cb) := rfl
      refine ⟨((xs.set (W.length * 2) (.slice A la.length ca)).set (W.length * 2 + 1) (.slice B lb.length cb)), ⟨by simp [ho.1], .inr ⟨g, cap, _, by simp, hg, hw', by simpa using hn, hcm, by simpa using hcs, ?_⟩⟩, fun j hj => ?_⟩
      · rw [← htake]
        simp [List.take_set]
      · have hj' : j < W.length + 1 := by simpa using hj
        have hxl : xs.length = (W.length + 1) * 2 := by rw [ho.1, hl]
        by_cases e : j < W.length
        · rw [List.getElem_append_left e]
          have h2 := hx j (by omega)
          rw [List.getElem_append_left e] at h2
          exact ⟨by rw [List.getElem?_set_ne (by omega), List.getElem?_set_ne (by omega)]; exact h2.1, by rw [List.getElem?_set_ne (by omega), List.getElem?_set_ne (by omega)]; exact h2.2⟩
        · have e' : j = W.length := by omega
          subst e'
          rw [List.getElem_append_right (Nat.le_refl _)]
          simp only [Nat.sub_self, List.getElem_cons_zero]
          exact ⟨by rw [List.getElem?_set_ne (by omega), List.getElem?_set_self (by omega)], by rw [List.getElem?_set_self (by simp; omega)]⟩
theorem OpnV.keep {w w' : World} {lo : Nat} {u : Value} {W : List EnV} (h : OpnV w lo u W) (hk : ∀ b, lo ≤ b → b < w.heap.size → w'.heap[b]? = w.heap[b]?) : OpnV w' lo u W := by
  obtain ⟨xs, ho, hx⟩ := h
  exact ⟨xs, own_at ho (fun b e => hk b (by obtain ⟨_, _, _, h⟩ := own_form ho; exact (h b e).1) (by obtain ⟨_, _, _, h⟩ := own_form ho; exact (h b e).2)), hx⟩
theorem OpnV.below {w w' : World} {lo : Nat} {u : Value} {W : List EnV} (h : OpnV w lo u W) (hb : Below w.heap.size w w') : OpnV w' lo u W := h.keep (fun b _ hb' => hb.block b hb')
theorem OpnV.nil_form {w : World} {lo : Nat} {u : Value} (h : OpnV w lo u []) : ∃ A c, u = .slice A 0 c := by
  obtain ⟨xs, ho, _⟩ := h
  obtain ⟨A, c, e, _⟩ := own_form ho
  exact ⟨A, c, e⟩
theorem OpnV.push {w' : World} {lo : Nat} {v' : Value} {W : List EnV} {x : EnV} {xs : List Value} (hl : xs.length = W.length * 2) (hx : ∀ j (h : j < W.length), xs[j * 2]? = some (.slice W[j].A W[j].la.length W[j].ca) ∧ xs[j * 2 + 1]? = some (.slice W[j].B W[j].lb.length W[j].cb)) (ho : w'.ownsRow lo 67 2 v' (W.length + 1) (xs ++ [.slice x.A x.la.length x.ca, .slice x.B x.lb.length x.cb])) : OpnV w' lo v' (W ++ [x]) := by
  refine ⟨_, by simpa using ho, fun j hj => ?_⟩
  have hj' : j < W.length + 1 := by simpa using hj
  by_cases e : j < W.length
  · rw [List.getElem_append_left e]
    exact ⟨by rw [List.getElem?_append_left (by omega)]; exact (hx j e).1, by rw [List.getElem?_append_left (by omega)]; exact (hx j e).2⟩
  · have e' : j = W.length := by omega
    subst e'
    rw [List.getElem_append_right (Nat.le_refl _)]
    simp only [Nat.sub_self, List.getElem_cons_zero]
    exact ⟨by rw [List.getElem?_append_right (by omega), hl, Nat.sub_self]; rfl, by rw [List.getElem?_append_right (by omega), hl, Nat.add_sub_cancel_left]; rfl⟩
theorem Fr.rowV {m : Nat} {w wr w' : World} {row : Option Nat} (h : Fr (fun b => b = m) w wr) (hg : wr.grownBy w' row) (hlo : ∀ b, row = some b → w.heap.size ≤ b) : Fr (fun b => b = m) w w' :=
  ⟨hg.os.trans h.1, hg.tape.trans h.2.1, hg.output.trans h.2.2.1, Nat.le_trans h.size hg.size, fun b hb hn => (hg.block b (Nat.lt_of_lt_of_le hb h.size) (by intro e; have := hlo b e.symm; omega)).trans (h.2.2.2.2 b hb hn)⟩
theorem Fr.nextV {m : Nat} {w wr w' : World} (h : Fr (fun b => b = m) w wr) (hb : Below wr.heap.size wr w') : Fr (fun b => b = m) w w' := h.trans (Fr.below hb)
theorem last_orV {α : Type} (l : List α) : l = [] ∨ ∃ L b, l = L ++ [b] := by
  rcases List.eq_nil_or_concat l with h | ⟨L, b, h⟩
  · exact .inl h
  · exact .inr ⟨L, b, by rw [h]; simp⟩
theorem Fr.cellV {P : Nat → Prop} {w w' : World} (h : Fr P w w') {a : Addr} (hb : a.block < w.heap.size) (hp : ¬ P a.block) : w'.cell? a = w.cell? a := World.cell?_of_block (h.2.2.2.2 a.block hb hp)
theorem keyOfV_own {d : Nat} {w0 : World} {P : Nat → Prop} {A : Option Addr} {l : List Vl} (h : OVc d w0 P A l) (cap : Nat) (w : World) :
    Calls Try.prog 41 #[.slice A l.length cap] w fun e w' => e = .returned (.agg #[.pointer (kA A l.length), .int .i64 l.length]) ∧ Below w.heap.size w w' := by
  by_cases h0 : 0 < l.length
  · obtain ⟨g, rfl, _, _⟩ := h.addr h0
    rw [kA_pos0 h0]
    obtain ⟨d', rfl, hl, _⟩ := h.parts
    exact keyOfV_any g l.length cap w hl h0
  · have e : l.length = 0 := by omega
    rw [e]
    exact keyOfV_nil A cap w
end Go.Proofs.Ytakhobhmplneeaa
