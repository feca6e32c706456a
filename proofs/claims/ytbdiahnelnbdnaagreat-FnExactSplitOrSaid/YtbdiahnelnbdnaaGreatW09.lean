/-
  firstChoices of the program: the ways to choose parts. No statement is proved here.
-/
import Derived.Test.YtbdiahnelnbdnaaGreatW06
import Derived.Test.YtbdiahnelnbdnaaGreatW07
import Derived.Test.YtbdiahnelnbdnaaGreatW08
namespace Go.Proofs.YtbdiahnelnbdnaaGreat
open Go.RowKit Go.Sort Go.Deep Go.Shelf
set_option maxRecDepth 100000
set_option linter.unusedVariables false
attribute [local go_sem] Oper.semAt_some
theorem pr_any {X : World → Nat → Prop} {K : Nat} (hOX : OwnX X K) (d : Nat) (Pin : Nat → Prop) (n₀ : Nat) : ∀ Ls, PrIn X K d Pin n₀ Ls
  | [] => pr_nil X K d Pin n₀
  | l0 :: Ls => pr_cons hOX d Pin n₀ l0 Ls (pr_any hOX d Pin n₀ Ls)
theorem infoLP : (Tryz.prog.info? 30).map (fun i => (i.zero, i.size, i.bytes)) = some (some (.slice none 0 0), 1, 24) := by kernel_rfl
/-- The row of lists while it is made. -/
def RowL (d B lo : Nat) (w : World) (v : Value) (Ks : List (List Pt)) (ys : List Value) (k : Nat) : Prop := ∀ j (h : j < Ks.length), j < k → ∃ A c, ys[j]? = some (.slice A Ks[j].length c) ∧ QPs d w (FcP B lo v w) A Ks[j]
theorem RowL.zero {d B lo : Nat} {w : World} {v : Value} {Ks : List (List Pt)} {ys : List Value} : RowL d B lo w v Ks ys 0 := fun j _ h => absurd h (by omega)
theorem RowL.step {d B lo : Nat} {w w2 w5 : World} {v v5 : Value} {Ks : List (List Pt)} {ys : List Value} {k c2 : Nat} {A2 : Option Addr} {o : Obj} (h : RowL d B lo w v Ks ys k) (hk : k < Ks.length) (hy : ys.length = k) (hv : ∀ b, v.ownBlock = some b → lo ≤ b ∧ b < w.heap.size) (hBl : B ≤ lo) (hlo : lo ≤ w.heap.size) (hb : Below w.heap.size w w2)
    (hq : QPs d w2 (fun b => (b < B ∨ w.heap.size ≤ b) ∧ b < w2.heap.size) A2 Ks[k]) (hg : (w2.alloc o).grownBy w5 v.ownBlock) (hat : v5.ownBlock = v.ownBlock ∨ v5.ownBlock = some (w2.alloc o).heap.size) :
    RowL d B lo w5 v5 Ks (ys ++ [.slice A2 Ks[k].length c2]) (k + 1) := by
  have hs2 := hb.size
  have hs5 := hg.size
  rw [World.size_alloc] at hs5 hat
  have key : ∀ b, b < w2.heap.size → some b ≠ v.ownBlock → w5.heap[b]? = w2.heap[b]? ∧ some b ≠ v5.ownBlock := fun b hb1 hne => ⟨(hg.block b (by rw [World.size_alloc]; omega) hne).trans (Below.heap_alloc _ _ _ hb1), fun e => by
    rcases hat with h | h
    · rw [h] at e; exact hne e
    · rw [h] at e; injection e with e; omega⟩
  intro j hj hjk
  by_cases e : j = k
  · subst e
    refine ⟨A2, c2, by rw [List.getElem?_append_right (by omega), hy, Nat.sub_self]; rfl, hq.keep (fun q u hqp hu => ?_) (fun b hbp => ?_)⟩
    · have hne : some q.block ≠ v.ownBlock := fun e => by have := hv _ e.symm; rcases hqp.1 with h | h <;> omega
      exact (World.cell?_of_block (key q.block hqp.2 hne).1).trans hu
    · have hne : some b ≠ v.ownBlock := fun e => by have := hv _ e.symm; rcases hbp.1 with h | h <;> omega
      exact ⟨hbp.1.imp id (fun h => by omega), by have := hbp.2; omega, (key b hbp.2 hne).2⟩
  · obtain ⟨A, c, h1, h2⟩ := h j hj (by omega)
    refine ⟨A, c, by rw [List.getElem?_append_left (by omega)]; exact h1, h2.keep (fun q u hqp hu => ?_) (fun b hbp => ?_)⟩
    · have hl : q.block < w2.heap.size := by have := hqp.2.1; omega
      exact (World.cell?_of_block (key q.block hl hqp.2.2).1).trans ((hb.cell hqp.2.1).trans hu)
    · have hl : b < w2.heap.size := by have := hbp.2.1; omega
      exact ⟨hbp.1, by have := hbp.2.1; omega, (key b hl hbp.2.2).2⟩
theorem LsQ.of_row {d B lo : Nat} {w : World} {v : Value} {Ks : List (List Pt)} {ys : List Value} (h : w.ownsRow lo 30 1 v Ks.length ys) (hr : RowL d B lo w v Ks ys Ks.length) (hl : Ks.length ≤ maxLen) : ∃ A c, v = .slice A Ks.length c ∧ Ks.length ≤ c ∧ c ≤ maxLen ∧ LsQ d w (fun b => (b < B ∨ lo ≤ b) ∧ b < w.heap.size) A Ks := by
  rcases h.2 with ⟨h', h0⟩ | ⟨g, cap, cur, h', hb, hgb, hnc, hcm, hcs, htake⟩
  · exact ⟨none, 0, by rw [h0]; exact h', by omega, by unfold maxLen; omega, hl, fun i hi => absurd hi (by omega)⟩
  · refine ⟨_, cap, h', hnc, hcm, hl, fun i hi => ⟨g, 0, rfl, ⟨.inr hb, heap_lt hgb⟩, ?_⟩⟩
    obtain ⟨A, c, h1, h2⟩ := hr i hi hi
    refine ⟨A, c, ?_, h2.keep (fun _ _ _ h => h) (fun b hb => ⟨hb.1, hb.2.1⟩)⟩
    rw [Nat.zero_add, cell_of_blk hgb, ← h1, ← htake, List.getElem?_take_of_lt (by omega), Array.getElem?_toList]
theorem heap_set {w : World} {g i : Nat} {cs : Array Value} {t : TypeId} (h : w.heap[g]? = some (.cells cs t (0, 0))) (u : Value) : (w.setCell ⟨g, i, none⟩ u).heap[g]? = some (.cells (cs.setIfInBounds i u) t (0, 0)) := by
  obtain ⟨hlt, hk⟩ := Array.getElem?_eq_some_iff.1 h
  show (w.heap.modify g _)[g]? = _
  rw [Array.getElem?_eq_getElem (by rw [Array.size_modify]; exact hlt), Array.getElem_modify_self, hk]
  rfl
/-- The blocks that the loop's body writes. -/
def XF (b1 b7 : Nat) (W : World) (b : Nat) : Prop := b = b1 ∨ b = b7 ∨ ∃ v, W.cell? ⟨b7, 0, none⟩ = some v ∧ v.ownBlock = some b
theorem XF_own {b1 b7 K : Nat} (h7 : b7 < K) : OwnX (XF b1 b7) K := fun W W' row hK hg hr b hb => by
  rcases hb with h | h | ⟨v, h1, h2⟩
  · exact .inl h
  · exact .inr (.inl h)
  · refine .inr (.inr ⟨v, ?_, h2⟩)
    rw [← h1]; exact (World.cell?_of_block (a := ⟨b7, 0, none⟩) (hg.block b7 (by omega) (fun e => by have := (hr b7 e.symm).1; omega))).symm
def mkP (p : Pt) (kk : List Pt) : Pt := .mk p.op p.ctor p.n p.m p.var kk
def FcB (B lo b1 b7 : Nat) (v : Value) (W : World) (b : Nat) : Prop := FcP B lo v W b ∧ b ≠ b1 ∧ b ≠ b7
/-- What the loop over the ways has made. -/
structure LstV (d B b1 b7 n3 : Nat) (p : Pt) (Ls : List (List Pt)) (w : World) (v : Value) (pre : List Yx) (W : World) : Prop where
  box1 : ∃ A n c, W.heap[b1]? = some (.cells #[.int .i64 p.op, .int .i64 p.ctor, .int .i64 p.n, .int .i64 p.m, .int .i64 p.var, .slice A n c] 38 (0, 0))
  box7 : Boxed W b7 30 v
  row : ∃ xs, W.ownsRow n3 38 6 v pre.length xs ∧ RowQ (d + 1) W (FcB B w.heap.size b1 b7 v W) (pre.map (fun x => mkP p x.l)) xs
  below : Below w.heap.size w W
  pre : pre.map Yx.l <+: prods Ls
theorem LstV.own {d B b1 b7 n3 K : Nat} {p : Pt} {Ls : List (List Pt)} {w : World} {v : Value} (hw : w.heap.size ≤ K) (h1 : b1 < K) (h7 : b7 < K) : OwnFrom K (fun pre W => LstV d B b1 b7 n3 p Ls w v pre W) := fun pre V V' row h hg hr => by
  obtain ⟨⟨A, n, c, hb1⟩, hb7, ⟨xs, ho, hq⟩, hbel, hpre⟩ := h
  have hne : ∀ b, b < K → some b ≠ row := fun b hb e => by have := (hr b e.symm).1; omega
  refine ⟨⟨A, n, c, (hg.block b1 (heap_lt hb1) (hne b1 h1)).trans hb1⟩, hb7.kept hg (hne b7 h7), ⟨xs, row_kept ho hg (fun r e => (hr r e).2), hq.keep (fun q u _ hu => cell_kept hu hg (fun r e => (hr r e).2)) (fun b hb => ⟨⟨hb.1.1, by have := hb.1.2.1; have := hg.size; omega, hb.1.2.2⟩, hb.2⟩)⟩, hbel.grown hg hbel.size (fun k e => by have := (hr k e).1; omega), hpre⟩
theorem LstV.fin {d B b1 b7 n3 : Nat} {p : Pt} {w : World} {v : Value} {pre : List Yx} {W : World} (h : LstV d B b1 b7 n3 p (p.kids.map spP) w v pre W) (h3 : w.heap.size ≤ n3) (hs : spP p = ((prods (p.kids.map spP)).take 401).map (fun kk => .mk p.op p.ctor p.n p.m p.var kk)) (he : pre.map Yx.l = (prods (p.kids.map spP)).take 401) : FcQ (d + 1) B p w (.returned v) W := by
  obtain ⟨xs, ho, hq⟩ := h.row
  have e1 : spP p = pre.map (fun x => mkP p x.l) := by rw [hs, ← he, List.map_map]; rfl
  have e2 : (spP p).length = pre.length := by rw [e1, List.length_map]
  exact ⟨v, xs, rfl, by rw [e2]; exact ⟨ho.1, ho.2.imp id (fun ⟨g, cap, cur, a1, a2, a3⟩ => ⟨g, cap, cur, a1, by omega, a3⟩)⟩, by rw [e1]; exact hq.keep (fun _ _ _ h => h) (fun b hb => hb.1), h.below⟩
theorem put_last {w : World} {lo g n c : Nat} {xs : List Value} {z0 z1 z2 z3 z4 z5 : Value} (h : w.ownsRow lo 38 6 (.slice (some ⟨g, 0, none⟩) (n + 1) c) (n + 1) (xs ++ [z0, z1, z2, z3, z4, z5])) (hl : xs.length = n * 6) (u0 u1 u2 u3 u4 u5 : Value) :
    ((((((w.setCell ⟨g, n * 6, none⟩ u0).setCell ⟨g, n * 6 + 1, none⟩ u1).setCell ⟨g, n * 6 + 2, none⟩ u2).setCell ⟨g, n * 6 + 3, none⟩ u3).setCell ⟨g, n * 6 + 4, none⟩ u4).setCell ⟨g, n * 6 + 5, none⟩ u5).ownsRow lo 38 6 (.slice (some ⟨g, 0, none⟩) (n + 1) c) (n + 1) (xs ++ [u0, u1, u2, u3, u4, u5]) ∧
    w.grownBy ((((((w.setCell ⟨g, n * 6, none⟩ u0).setCell ⟨g, n * 6 + 1, none⟩ u1).setCell ⟨g, n * 6 + 2, none⟩ u2).setCell ⟨g, n * 6 + 3, none⟩ u3).setCell ⟨g, n * 6 + 4, none⟩ u4).setCell ⟨g, n * 6 + 5, none⟩ u5) (some g) := by
  obtain ⟨a0, b0⟩ := h.stored (n * 6) u0
  obtain ⟨a1, b1⟩ := a0.stored (n * 6 + 1) u1
  obtain ⟨a2, b2⟩ := a1.stored (n * 6 + 2) u2
  obtain ⟨a3, b3⟩ := a2.stored (n * 6 + 3) u3
  obtain ⟨a4, b4⟩ := a3.stored (n * 6 + 4) u4
  obtain ⟨a5, b5⟩ := a4.stored (n * 6 + 5) u5
  refine ⟨?_, ((((b0.trans b1).trans b2).trans b3).trans b4).trans b5⟩
  have e : ((((((xs ++ [z0, z1, z2, z3, z4, z5]).set (n * 6) u0).set (n * 6 + 1) u1).set (n * 6 + 2) u2).set (n * 6 + 3) u3).set (n * 6 + 4) u4).set (n * 6 + 5) u5 = xs ++ [u0, u1, u2, u3, u4, u5] := by
    rw [← hl]
    simp
  rw [e] at a5
  exact a5
theorem put_endA {w5 : World} {lo g5 n c5 b7 : Nat} {v : Value} {xs : List Value} {z0 z1 z2 z3 z4 z5 : Value} (h : w5.ownsRow lo 38 6 (.slice (some ⟨g5, 0, none⟩) (n + 1) c5) (n + 1) (xs ++ [z0, z1, z2, z3, z4, z5])) (hl : xs.length = n * 6) (hb : Boxed w5 b7 30 v) (hne : ¬ g5 = b7) (u0 u1 u2 u3 u4 u5 : Value) :
    Boxed (((((((((w5).setCell ⟨g5, n * 6, none⟩ u0).setCell ⟨g5, n * 6 + 1, none⟩ u1).setCell ⟨g5, n * 6 + 2, none⟩ u2).setCell ⟨g5, n * 6 + 3, none⟩ u3).setCell ⟨g5, n * 6 + 4, none⟩ u4).setCell ⟨g5, n * 6 + 5, none⟩ u5)).setCell ⟨b7, 0, none⟩ (.slice (some ⟨g5, 0, none⟩) (n + 1) c5)) b7 30 (.slice (some ⟨g5, 0, none⟩) (n + 1) c5) ∧ (((((((((w5).setCell ⟨g5, n * 6, none⟩ u0).setCell ⟨g5, n * 6 + 1, none⟩ u1).setCell ⟨g5, n * 6 + 2, none⟩ u2).setCell ⟨g5, n * 6 + 3, none⟩ u3).setCell ⟨g5, n * 6 + 4, none⟩ u4).setCell ⟨g5, n * 6 + 5, none⟩ u5)).setCell ⟨b7, 0, none⟩ (.slice (some ⟨g5, 0, none⟩) (n + 1) c5)).ownsRow lo 38 6 (.slice (some ⟨g5, 0, none⟩) (n + 1) c5) (n + 1) (xs ++ [u0, u1, u2, u3, u4, u5]) ∧ w5.heap.size ≤ (((((((((w5).setCell ⟨g5, n * 6, none⟩ u0).setCell ⟨g5, n * 6 + 1, none⟩ u1).setCell ⟨g5, n * 6 + 2, none⟩ u2).setCell ⟨g5, n * 6 + 3, none⟩ u3).setCell ⟨g5, n * 6 + 4, none⟩ u4).setCell ⟨g5, n * 6 + 5, none⟩ u5)).setCell ⟨b7, 0, none⟩ (.slice (some ⟨g5, 0, none⟩) (n + 1) c5)).heap.size ∧ ((((((((((w5).setCell ⟨g5, n * 6, none⟩ u0).setCell ⟨g5, n * 6 + 1, none⟩ u1).setCell ⟨g5, n * 6 + 2, none⟩ u2).setCell ⟨g5, n * 6 + 3, none⟩ u3).setCell ⟨g5, n * 6 + 4, none⟩ u4).setCell ⟨g5, n * 6 + 5, none⟩ u5)).setCell ⟨b7, 0, none⟩ (.slice (some ⟨g5, 0, none⟩) (n + 1) c5)).os = w5.os ∧ (((((((((w5).setCell ⟨g5, n * 6, none⟩ u0).setCell ⟨g5, n * 6 + 1, none⟩ u1).setCell ⟨g5, n * 6 + 2, none⟩ u2).setCell ⟨g5, n * 6 + 3, none⟩ u3).setCell ⟨g5, n * 6 + 4, none⟩ u4).setCell ⟨g5, n * 6 + 5, none⟩ u5)).setCell ⟨b7, 0, none⟩ (.slice (some ⟨g5, 0, none⟩) (n + 1) c5)).tape = w5.tape ∧ (((((((((w5).setCell ⟨g5, n * 6, none⟩ u0).setCell ⟨g5, n * 6 + 1, none⟩ u1).setCell ⟨g5, n * 6 + 2, none⟩ u2).setCell ⟨g5, n * 6 + 3, none⟩ u3).setCell ⟨g5, n * 6 + 4, none⟩ u4).setCell ⟨g5, n * 6 + 5, none⟩ u5)).setCell ⟨b7, 0, none⟩ (.slice (some ⟨g5, 0, none⟩) (n + 1) c5)).output = w5.output) ∧ ∀ k, k < w5.heap.size → k ≠ g5 → k ≠ b7 → (((((((((w5).setCell ⟨g5, n * 6, none⟩ u0).setCell ⟨g5, n * 6 + 1, none⟩ u1).setCell ⟨g5, n * 6 + 2, none⟩ u2).setCell ⟨g5, n * 6 + 3, none⟩ u3).setCell ⟨g5, n * 6 + 4, none⟩ u4).setCell ⟨g5, n * 6 + 5, none⟩ u5)).setCell ⟨b7, 0, none⟩ (.slice (some ⟨g5, 0, none⟩) (n + 1) c5)).heap[k]? = w5.heap[k]? := by
  obtain ⟨h1, h2⟩ := put_last h hl u0 u1 u2 u3 u4 u5
  generalize (((((((w5).setCell ⟨g5, n * 6, none⟩ u0).setCell ⟨g5, n * 6 + 1, none⟩ u1).setCell ⟨g5, n * 6 + 2, none⟩ u2).setCell ⟨g5, n * 6 + 3, none⟩ u3).setCell ⟨g5, n * 6 + 4, none⟩ u4).setCell ⟨g5, n * 6 + 5, none⟩ u5) = w6 at h1 h2 ⊢
  have hbx := (hb.kept h2 (by intro e; injection e with e; omega)).set (.slice (some ⟨g5, 0, none⟩) (n + 1) c5)
  have hg := grownBy_setCell' w6 b7 (.slice (some ⟨g5, 0, none⟩) (n + 1) c5)
  exact ⟨hbx, h1.kept hg (.inr (fun e => hne (Option.some.inj e))), Nat.le_trans h2.size hg.size, ⟨hg.os.trans h2.os, hg.tape.trans h2.tape, hg.output.trans h2.output⟩, fun k hk h3 h4 => (hg.block k (Nat.lt_of_lt_of_le hk h2.size) (fun e => by injection e with e; exact h4 e)).trans (h2.block k hk (fun e => by injection e with e; exact h3 e))⟩
theorem put_endC {w5 : World} {lo g5 n c5 b7 : Nat} {v : Value} {xs : List Value} {z0 z1 z2 z3 z4 z5 : Value} (h : w5.ownsRow lo 38 6 (.slice (some ⟨g5, 0, none⟩) (n + 1) c5) (n + 1) (xs ++ [z0, z1, z2, z3, z4, z5])) (hl : xs.length = n * 6) (hb : Boxed w5 b7 30 v) (hne : ¬ g5 = b7) (u0 u1 u2 u3 u4 u5 : Value) :
    Boxed (((((((((w5).setCell ⟨b7, 0, none⟩ (.slice (some ⟨g5, 0, none⟩) (n + 1) c5))).setCell ⟨g5, n * 6, none⟩ u0).setCell ⟨g5, n * 6 + 1, none⟩ u1).setCell ⟨g5, n * 6 + 2, none⟩ u2).setCell ⟨g5, n * 6 + 3, none⟩ u3).setCell ⟨g5, n * 6 + 4, none⟩ u4).setCell ⟨g5, n * 6 + 5, none⟩ u5) b7 30 (.slice (some ⟨g5, 0, none⟩) (n + 1) c5) ∧ (((((((((w5).setCell ⟨b7, 0, none⟩ (.slice (some ⟨g5, 0, none⟩) (n + 1) c5))).setCell ⟨g5, n * 6, none⟩ u0).setCell ⟨g5, n * 6 + 1, none⟩ u1).setCell ⟨g5, n * 6 + 2, none⟩ u2).setCell ⟨g5, n * 6 + 3, none⟩ u3).setCell ⟨g5, n * 6 + 4, none⟩ u4).setCell ⟨g5, n * 6 + 5, none⟩ u5).ownsRow lo 38 6 (.slice (some ⟨g5, 0, none⟩) (n + 1) c5) (n + 1) (xs ++ [u0, u1, u2, u3, u4, u5]) ∧ w5.heap.size ≤ (((((((((w5).setCell ⟨b7, 0, none⟩ (.slice (some ⟨g5, 0, none⟩) (n + 1) c5))).setCell ⟨g5, n * 6, none⟩ u0).setCell ⟨g5, n * 6 + 1, none⟩ u1).setCell ⟨g5, n * 6 + 2, none⟩ u2).setCell ⟨g5, n * 6 + 3, none⟩ u3).setCell ⟨g5, n * 6 + 4, none⟩ u4).setCell ⟨g5, n * 6 + 5, none⟩ u5).heap.size ∧ ((((((((((w5).setCell ⟨b7, 0, none⟩ (.slice (some ⟨g5, 0, none⟩) (n + 1) c5))).setCell ⟨g5, n * 6, none⟩ u0).setCell ⟨g5, n * 6 + 1, none⟩ u1).setCell ⟨g5, n * 6 + 2, none⟩ u2).setCell ⟨g5, n * 6 + 3, none⟩ u3).setCell ⟨g5, n * 6 + 4, none⟩ u4).setCell ⟨g5, n * 6 + 5, none⟩ u5).os = w5.os ∧ (((((((((w5).setCell ⟨b7, 0, none⟩ (.slice (some ⟨g5, 0, none⟩) (n + 1) c5))).setCell ⟨g5, n * 6, none⟩ u0).setCell ⟨g5, n * 6 + 1, none⟩ u1).setCell ⟨g5, n * 6 + 2, none⟩ u2).setCell ⟨g5, n * 6 + 3, none⟩ u3).setCell ⟨g5, n * 6 + 4, none⟩ u4).setCell ⟨g5, n * 6 + 5, none⟩ u5).tape = w5.tape ∧ (((((((((w5).setCell ⟨b7, 0, none⟩ (.slice (some ⟨g5, 0, none⟩) (n + 1) c5))).setCell ⟨g5, n * 6, none⟩ u0).setCell ⟨g5, n * 6 + 1, none⟩ u1).setCell ⟨g5, n * 6 + 2, none⟩ u2).setCell ⟨g5, n * 6 + 3, none⟩ u3).setCell ⟨g5, n * 6 + 4, none⟩ u4).setCell ⟨g5, n * 6 + 5, none⟩ u5).output = w5.output) ∧ ∀ k, k < w5.heap.size → k ≠ g5 → k ≠ b7 → (((((((((w5).setCell ⟨b7, 0, none⟩ (.slice (some ⟨g5, 0, none⟩) (n + 1) c5))).setCell ⟨g5, n * 6, none⟩ u0).setCell ⟨g5, n * 6 + 1, none⟩ u1).setCell ⟨g5, n * 6 + 2, none⟩ u2).setCell ⟨g5, n * 6 + 3, none⟩ u3).setCell ⟨g5, n * 6 + 4, none⟩ u4).setCell ⟨g5, n * 6 + 5, none⟩ u5).heap[k]? = w5.heap[k]? := by
  have hg := grownBy_setCell' w5 b7 (.slice (some ⟨g5, 0, none⟩) (n + 1) c5)
  have hbx := hb.set (.slice (some ⟨g5, 0, none⟩) (n + 1) c5)
  have h' := h.kept hg (.inr (fun e => hne (Option.some.inj e)))
  generalize w5.setCell ⟨b7, 0, none⟩ (.slice (some ⟨g5, 0, none⟩) (n + 1) c5) = w6 at hg hbx h' ⊢
  obtain ⟨h1, h2⟩ := put_last h' hl u0 u1 u2 u3 u4 u5
  generalize (((((((w6).setCell ⟨g5, n * 6, none⟩ u0).setCell ⟨g5, n * 6 + 1, none⟩ u1).setCell ⟨g5, n * 6 + 2, none⟩ u2).setCell ⟨g5, n * 6 + 3, none⟩ u3).setCell ⟨g5, n * 6 + 4, none⟩ u4).setCell ⟨g5, n * 6 + 5, none⟩ u5) = w7 at h1 h2 ⊢
  exact ⟨hbx.kept h2 (by intro e; injection e with e; omega), h1, Nat.le_trans hg.size h2.size, ⟨h2.os.trans hg.os, h2.tape.trans hg.tape, h2.output.trans hg.output⟩, fun k hk h3 h4 => (h2.block k (Nat.lt_of_lt_of_le hk hg.size) (fun e => by injection e with e; exact h3 e)).trans (hg.block k hk (fun e => by injection e with e; exact h4 e))⟩
theorem lst_next {d B b1 b7 n3 g5 c5 n₀ : Nat} {p : Pt} {Ls : List (List Pt)} {w Wb W' : World} {v : Value} {pre : List Yx} {y : Yx} {Pin : Nat → Prop} {xs ys : List Value} (hls : LstV d B b1 b7 n3 p Ls w v pre Wb) (hown : Wb.ownsRow n3 38 6 v pre.length xs) (hrow : RowQ (d + 1) Wb (FcB B w.heap.size b1 b7 v Wb) (pre.map (fun x => mkP p x.l)) xs)
    (hn3 : w.heap.size ≤ n3 ∧ w.heap.size ≤ b1 ∧ w.heap.size ≤ b7 ∧ w.heap.size ≤ n₀) (hyl : y.l.length ≤ 100)
    (hall : ∀ k, k < Wb.heap.size → k ≠ b1 → k ≠ b7 → some k ≠ v.ownBlock → W'.heap[k]? = Wb.heap[k]?) (hsb : Wb.heap.size ≤ W'.heap.size) (hos : W'.os = Wb.os ∧ W'.tape = Wb.tape ∧ W'.output = Wb.output)
    (hat : v.ownBlock = some g5 ∨ (Wb.heap.size ≤ g5 ∧ g5 < W'.heap.size)) (hb1 : W'.heap[b1]? = some (.cells #[.int .i64 p.op, .int .i64 p.ctor, .int .i64 p.n, .int .i64 p.m, .int .i64 p.var, .slice y.A y.l.length y.cap] 38 (0, 0)))
    (hbx : Boxed W' b7 30 (.slice (some ⟨g5, 0, none⟩) (pre.length + 1) c5)) (hor : W'.ownsRow n3 38 6 (.slice (some ⟨g5, 0, none⟩) (pre.length + 1) c5) (pre.length + 1) (xs ++ [.int .i64 p.op, .int .i64 p.ctor, .int .i64 p.n, .int .i64 p.m, .int .i64 p.var, .slice y.A y.l.length y.cap]))
    (hgp : pre.map Yx.l ++ [y.l] <+: prods Ls) (hyo : Wb.ownsRow n₀ 38 6 (.slice y.A y.l.length y.cap) y.l.length ys) (hyx : ∀ g, (Value.slice y.A y.l.length y.cap).ownBlock = some g → ¬ XF b1 b7 Wb g) (hyr : RowQ d Wb Pin y.l ys) (hPF : ∀ b, Pin b → FcB B w.heap.size b1 b7 v Wb b) :
    KpX (XF b1 b7) n3 Wb W' ∧ LstV d B b1 b7 n3 p Ls w (.slice (some ⟨g5, 0, none⟩) (pre.length + 1) c5) (pre ++ [y]) W' := by
  have hb7 := hls.box7
  have hvb : ∀ b, v.ownBlock = some b → n3 ≤ b ∧ b < Wb.heap.size := by obtain ⟨_, _, rfl, h⟩ := own_form hown; exact h
  have hcellsB : ∀ k o, Wb.heap[k]? = some o → o.isCells = false → k ≠ b1 ∧ k ≠ b7 ∧ some k ≠ v.ownBlock := fun k o ho hoc => by
    obtain ⟨A0', n0', c0', hbb⟩ := hls.box1
    refine ⟨fun e => ?_, fun e => ?_, fun e => ?_⟩
    · subst e; rw [hbb] at ho; cases ho; cases hoc
    · subst e; rw [show Wb.heap[k]? = _ from hb7] at ho; cases ho; cases hoc
    · rcases hown.2 with ⟨h', _⟩ | ⟨g, cap, cur, h', _, hgb, _⟩
      · rw [h'] at e; cases e
      · rw [h'] at e; injection e with e; subst e; rw [hgb] at ho; cases ho; cases hoc
  have hob : ∀ b, XF b1 b7 Wb b ↔ b = b1 ∨ b = b7 ∨ v.ownBlock = some b := fun b => by
    unfold XF
    rw [hb7.cell]
    exact ⟨fun h => h.imp id (fun h => h.imp id (fun ⟨v, e, h⟩ => by cases e; exact h)), fun h => h.imp id (fun h => h.imp id (fun h => ⟨_, rfl, h⟩))⟩
  have hFB : ∀ b, FcB B w.heap.size b1 b7 v Wb b → W'.heap[b]? = Wb.heap[b]? ∧ FcB B w.heap.size b1 b7 (.slice (some ⟨g5, 0, none⟩) (pre.length + 1) c5) W' b := fun b hb => by
    refine ⟨hall b hb.1.2.1 hb.2.1 hb.2.2 hb.1.2.2, ⟨hb.1.1, by have := hb.1.2.1; omega, fun e => ?_⟩, hb.2⟩
    injection e with e
    rcases hat with h | h
    · exact hb.1.2.2 (by rw [h, e])
    · have := hb.1.2.1
      have e : b = g5 := e
      omega
  refine ⟨⟨hsb, fun k o ho _ hx => ?_, fun k o _ ho hoc => ?_, fun b hb => ?_⟩, ⟨⟨y.A, y.l.length, y.cap, hb1⟩, hbx, ⟨_, by rw [List.length_append]; exact hor, ?_⟩, ?_, ?_⟩⟩
  · have hx' := fun h => hx ((hob k).2 h)
    exact (hall k (Array.getElem?_eq_some_iff.1 ho).1 (fun e => hx' (.inl e)) (fun e => hx' (.inr (.inl e))) (fun e => hx' (.inr (.inr e.symm)))).trans ho
  · obtain ⟨h1, h7, hv⟩ := hcellsB k o ho hoc
    exact (hall k (Array.getElem?_eq_some_iff.1 ho).1 h1 h7 hv).trans ho
  · rcases hb with h | h | ⟨u, e, h⟩
    · exact .inl (.inl h)
    · exact .inl (.inr (.inl h))
    · rw [hbx.cell] at e; cases e
      injection h with h
      have h : g5 = b := h
      rcases hat with h2 | h2
      · exact .inl ((hob b).2 (.inr (.inr (by rw [h2, h]))))
      · exact .inr ⟨by omega, by omega⟩
  · rw [List.map_append]
    refine (hrow.keep (fun q u hq hu => ?_) (fun b hb => (hFB b hb).2)).app ?_
    · exact (World.cell?_of_block (hFB _ hq).1).trans hu
    · obtain ⟨A', c', e', hq⟩ := (hyr.keep (fun _ _ _ h => h) hPF).reads hyo (fun g e => by
        have hx := hyx g e
        have hx' := fun h => hx ((hob g).2 h)
        obtain ⟨_, _, _, hyb⟩ := own_form hyo
        have hl := hyb g e
        exact ⟨⟨.inr (by omega), hl.2, fun e2 => hx' (.inr (.inr e2.symm))⟩, fun e2 => hx' (.inl e2), fun e2 => hx' (.inr (.inl e2))⟩) (by unfold maxLen; omega)
      cases e'
      exact RowQ.one (v := mkP p y.l) (cap := y.cap) (hq.keep (fun q u hq hu => (World.cell?_of_block (hFB _ hq).1).trans hu) (fun b hb => (hFB b hb).2))
  · exact hls.below.trans ⟨hos.1, hos.2.1, hos.2.2, hsb, fun k hk => by
      by_cases e : k < Wb.heap.size
      · exact hall k e (by omega) (by omega) (fun e => by have := (hvb k e.symm).1; omega)
      · exact absurd hls.below.size (by omega)⟩
  · rw [List.map_append]; exact hgp
set_option maxHeartbeats 8000000 in
theorem fc_not (d : Nat) (ih : ∀ d', d = d' + 1 → FcC d') (B : Nat) (D : Option Addr) (ep : Nat) (p : Pt) (w : World) (hok : okQ p = true) (hp : RPs d w B D p.kids) (hB : B ≤ w.heap.size) (hN : wP p ≤ 100) (h5 : ¬ p.op = 5) :
    Calls Tryz.prog 26 #[.agg #[.int .i64 p.op, .int .i64 p.ctor, .int .i64 p.n, .int .i64 p.m, .int .i64 p.var, .slice D p.kids.length ep]] w (FcQ (d + 1) B p w) := by
  have hkl : p.kids.length ≤ 100 := by have h1 := wP_kids p; have h2 := wPs_sum p.kids; omega
  have hml : p.kids.length ≤ maxLen := hp.1
  unfold maxLen at hml
  have HP := Lib.hid hp
  have HOK := Lib.hid hok
  have IH := Lib.hid ih
  have HSP := Lib.hid (spP_not p h5)
  have u1 : (p.op == 5) = false := ieq_f h5
  have hw1 : ∃ w1, w1 = w.alloc (.cells #[.int .i64 p.op, .int .i64 p.ctor, .int .i64 p.n, .int .i64 p.m, .int .i64 p.var, .slice D p.kids.length ep] 38) := ⟨_, rfl⟩
  obtain ⟨w1, hw1⟩ := hw1
  have hb1 : Below w.heap.size w w1 := by rw [hw1]; exact (Below.refl _ _).alloc (Nat.le_refl _) _
  have hs1 : w1.heap.size = w.heap.size + 1 := by rw [hw1]; simp
  have HBK : Hid (w1.heap[w.heap.size]? = some (.cells #[.int .i64 p.op, .int .i64 p.ctor, .int .i64 p.n, .int .i64 p.m, .int .i64 p.var, .slice D p.kids.length ep] 38 (0, 0))) := by unfold Hid; rw [hw1]; exact heap_alloc_new _ _
  have HB1 := Lib.hid hb1
  have HS1 := Lib.hid hs1
  have HW1 : Hid (w.alloc (.cells #[.int .i64 p.op, .int .i64 p.ctor, .int .i64 p.n, .int .i64 p.m, .int .i64 p.var, .slice D p.kids.length ep] 38) = w1) := hw1.symm
  obtain ⟨i0, hi0, hz0, hz1, hz2⟩ := info_parts infoLP
  have hd : ∀ k : Nat, (Fence.wide.depth.isSome = true → 1 ≤ k) := fun k h => by simp [Fence.wide] at h
  clear hp hok ih h5 hb1 hs1 hw1
  refine callsIn_wide.1 (callsIn_of_wp_marks (n := 0) Tryz.func26 rfl trivial ?_ rfl)
  simp only [Tryz.ntmps26, List.size_toArray, List.length_cons, List.length_nil, Nat.reduceAdd, Nat.reduceSub, Array.replicate_succ, Array.replicate_zero, List.push_toArray, List.append_toArray, List.nil_append, List.cons_append]
  gi_wp2
  rw [HW1.out]
  gi_loopw [4, 31] (fun l i wr => ∃ (k : Nat) (ys : List Value), k ≤ p.kids.length ∧ i = .int .i64 k ∧ Hid (wr.ownsRow w1.heap.size 30 1 l k ys ∧ RowL (d + 1) B w1.heap.size wr l (p.kids.map spP) ys k) ∧ Hid (Below w1.heap.size w1 wr)) (fun _ i _ => p.kids.length - (intOf i).toNat)
  case atStart => exact ⟨0, [], by omega, rfl, ⟨World.ownsRow_nil _ _ _ _, RowL.zero⟩, Below.refl _ _⟩
  case round =>
    obtain ⟨k, ys, hk, rfl, HR, HB⟩ := hrel
    by_cases hlt : k < p.kids.length
    · have hkI : (k : Int) < (p.kids.length : Int) := by omega
      obtain ⟨b0, o0, rfl, hb0, hvk⟩ := (HP.out.below HB1.out hB).2 k hlt
      obtain ⟨d', hd', A1, c1, p0, p1, p2, p3, p4, p5, hkd⟩ := hvk.parts
      have hbw : b0 < w1.heap.size := by have := HS1.out; omega
      have hc : ∀ (o : Nat) (v : Value), w1.cell? ⟨b0, o, none⟩ = some v → wr.cell? ⟨b0, o, none⟩ = some v := fun o v hv => (HB.out.cell (p := ⟨b0, o, none⟩) hbw).trans hv
      have q0 := hc _ _ p0
      have q1 := hc _ _ p1
      have q2 := hc _ _ p2
      have q3 := hc _ _ p3
      have q4 := hc _ _ p4
      have q5 := hc _ _ p5
      have hok0 := okQs_all (okQ_kids p HOK.out) p.kids[k] (List.getElem_mem _)
      have hwr := HB.out.size
      have hwk := wP_kid p k hlt
      obtain ⟨AL, cL, rfl, hfl⟩ := own_form HR.out.1
      have HFL := Lib.hid hfl
      have hw2 : ∃ w2, w2 = wr.alloc (.cells #[.int .i64 p.kids[k].op, .int .i64 p.kids[k].ctor, .int .i64 p.kids[k].n, .int .i64 p.kids[k].m, .int .i64 p.kids[k].var, .slice A1 p.kids[k].kids.length c1] 38) := ⟨_, rfl⟩
      obtain ⟨w2, hw2⟩ := hw2
      have hb2 : Below wr.heap.size wr w2 := by rw [hw2]; exact (Below.refl _ _).alloc (Nat.le_refl _) _
      have hs2 : wr.heap.size ≤ w2.heap.size := hb2.size
      have HB2 := Lib.hid hb2
      have HW2 : Hid (wr.alloc (.cells #[.int .i64 p.kids[k].op, .int .i64 p.kids[k].ctor, .int .i64 p.kids[k].n, .int .i64 p.kids[k].m, .int .i64 p.kids[k].var, .slice A1 p.kids[k].kids.length c1] 38) = w2) := hw2.symm
      have HCL : Hid (Calls Tryz.prog 26 #[.agg #[.int .i64 p.kids[k].op, .int .i64 p.kids[k].ctor, .int .i64 p.kids[k].n, .int .i64 p.kids[k].m, .int .i64 p.kids[k].var, .slice A1 p.kids[k].kids.length c1]] (wr.alloc (.cells #[.int .i64 p.kids[k].op, .int .i64 p.kids[k].ctor, .int .i64 p.kids[k].n, .int .i64 p.kids[k].m, .int .i64 p.kids[k].var, .slice A1 p.kids[k].kids.length c1] 38)) (FcQ (d' + 1) B p.kids[k] w2)) := by
        unfold Hid; rw [HW2.out]
        exact IH.out d' hd' B A1 c1 p.kids[k] w2 hok0 ((hkd.below HB.out (by have := HS1.out; omega)).below hb2 (by have := HS1.out; omega)) (by have := HS1.out; omega) (by omega)
      have HDD := Lib.hid hd'
      have hlk := spP_le p.kids[k]
      clear p0 p1 p2 p3 p4 p5 hkd hc hok0 hfl hb2 hw2 hvk hd'
      gi_wp2_with (first
        | (gi_at_builtin; refine listIn_append_own rfl _ _ 65 rfl w1.heap.size 30 i0 (.slice none 0 0) 1 24 Tryz.underlying65 hi0 hz0 hz1 hz2 rfl (by decide) _ k ys rfl (HR2.out.alloc _) (some ⟨w3.heap.size, 0, none⟩) 1 1 [.slice A3 (spP p.kids[k]).length c3] rfl (fun h => by cases h) rfl (fun ad e j u hu => by cases e; exact cell_one_new _ _ _ j u hu) (by intro u hu; rw [List.mem_singleton.1 hu]; rfl) (by unfold maxLen; omega) (by omega) (by simp; omega) ?_; intro v5 w5 hown5 hgr5 hat5; have HOW5 := Lib.hid hown5; have HGR5 := Lib.hid hgr5; have HAT5 := Lib.hid hat5; clear hown5 hgr5 hat5)
        | (refine ⟨trivial, rfl, ?_⟩; gi_at_call 26; refine (callsIn_wide.2 HCL.out).mono ?_; rintro e3 w3 ⟨v3, xs3, rfl, ho3, hr3, hb3⟩; obtain ⟨A3, c3, rfl, hf3⟩ := own_form ho3; have HO3 := Lib.hid ho3; have HR3 := Lib.hid hr3; have HB3 := Lib.hid hb3; have HF3 := Lib.hid hf3; have hs3 := hb3.size; have HR2 : Hid (w3.ownsRow w1.heap.size 30 1 (.slice AL k cL) k ys) := own_at HR.out.1 (fun b e => ((hb3.mono hs2).block b (HFL.out b e).2).trans (HB2.out.block b (HFL.out b e).2)); clear ho3 hr3 hb3 hf3))
      have HRL : Hid (RowL (d + 1) B w1.heap.size w5 v5 (p.kids.map spP) (ys ++ [.slice A3 (spP p.kids[k]).length c3]) (k + 1)) := by
        have hwide := HR3.out.keep (P' := fun b => (b < B ∨ wr.heap.size ≤ b) ∧ b < w3.heap.size) (fun _ _ _ h => h) (fun b h => ⟨h.1.imp id (fun h => by omega), h.2.1⟩)
        obtain ⟨A', c', e', hq⟩ := hwide.reads HO3.out (fun g e => ⟨.inr (by have := (HF3.out g e).1; omega), (HF3.out g e).2⟩) (by unfold maxLen; omega)
        cases e'
        have hq2 : QPs (d + 1) w3 (fun b => (b < B ∨ wr.heap.size ≤ b) ∧ b < w3.heap.size) A3 ((p.kids.map spP)[k]'(by simpa using hlt)) := by rw [List.getElem_map]; exact hq.more (by have := HDD.out; omega)
        have hyl : ys.length = k := by have := HR.out.1.1; omega
        have h := RowL.step (c2 := c3) HR.out.2 (by simpa using hlt) hyl HFL.out (by have := HS1.out; omega) hwr (HB2.out.trans (HB3.out.mono (by omega))) hq2 HGR5.out HAT5.out
        unfold Hid
        simpa using h
      have HB5 : Hid (Below w1.heap.size w1 w5) := (HB.out.trans ((HB2.out.mono hwr).trans (HB3.out.mono (by omega)))).trans (((Below.refl _ w3).alloc (by omega) _).grown HGR5.out (by simp; omega) (fun j e => (HFL.out j e).1))
      refine ⟨⟨k + 1, _, by omega, rfl, ⟨HOW5.out, HRL.out⟩, HB5.out⟩, ?_⟩
      simp [intOf]; omega
    · have hke : k = p.kids.length := by omega
      have hkI : ¬ (k : Int) < (p.kids.length : Int) := by omega
      have hwr := HB.out.size
      have hb7 : Below wr.heap.size wr (wr.alloc (.cells #[.slice none 0 0] 30)) := (Below.refl _ _).alloc (Nat.le_refl _) _
      have HB7 := Lib.hid hb7
      obtain ⟨AL, cL, rfl, hfl⟩ := own_form HR.out.1
      have HFL := Lib.hid hfl
      clear hb7 hfl
      gi_wp2_with (refine ⟨trivial, rfl, ?_⟩; gi_at_call 38; refine (callsIn_wide.2 (prod_made _ _ _ _)).mono ?_; rintro e w3 ⟨rfl, hB3, hs4, hbl3, hbe3⟩; have HB33 := Lib.hid hB3; have HL33 := Lib.hid hbl3; have HE33 := Lib.hid hbe3; clear hB3 hbl3 hbe3)
      have hs1a : w1.heap.size ≤ w.heap.size + 1 := Nat.le_of_eq HS1.out
      have hs1b : w.heap.size + 1 ≤ w1.heap.size := Nat.le_of_eq HS1.out.symm
      have hw3a : w3.heap.size ≤ wr.heap.size + 3 := by rw [hs4, World.size_alloc]; omega
      have hw3b : wr.heap.size + 3 ≤ w3.heap.size := by rw [hs4, World.size_alloc]; omega
      have hbw3 : Below wr.heap.size wr w3 := HB7.out.trans (HB33.out.mono (by simp))
      have HB73 : Hid (Boxed w3 wr.heap.size 30 (.slice none 0 0)) := (Boxed.new wr _ _).kept (grown_of_below HB33.out) (by simp)
      have HBL3 : Hid (Boxed w3 (wr.heap.size + 1) 65 (.slice AL p.kids.length cL)) := by have h := HL33.out; unfold Hid; simpa using h
      have HBE3 : Hid (Boxed w3 (wr.heap.size + 1 + 1) 91 (.func (.func 51) #[] #[])) := by have h := HE33.out; unfold Hid; simpa using h
      have HBK3 : Hid (w3.heap[w.heap.size]? = some (.cells #[.int .i64 p.op, .int .i64 p.ctor, .int .i64 p.n, .int .i64 p.m, .int .i64 p.var, .slice D p.kids.length ep] 38 (0, 0))) := (hbw3.block _ (by omega)).trans ((HB.out.block _ (by omega)).trans HBK.out)
      have HWW3 : Hid (Below w.heap.size w w3) := HB1.out.trans ((HB.out.mono (by omega)).trans (hbw3.mono (by omega)))
      have HX3 : Hid (∀ b, XF w.heap.size wr.heap.size w3 b → b = w.heap.size ∨ b = wr.heap.size) := fun b h => by
        rcases h with h | h | ⟨v, h1, h2⟩
        · exact .inl h
        · exact .inr h
        · rw [HB73.out.cell] at h1; cases h1; cases h2
      have hLs : (p.kids.map spP).length = p.kids.length := List.length_map ..
      obtain ⟨A', c', e', hcl, hcm, hlsq⟩ := LsQ.of_row (Ks := p.kids.map spP) (by rw [hLs, ← hke]; exact HR.out.1) (by rw [hLs, ← hke]; exact HR.out.2) (by rw [hLs]; unfold maxLen; omega)
      rw [hLs] at e' hcl
      cases e'
      have HLQ : Hid (LsQ (d + 1) w3 (fun b => (b < B ∨ w1.heap.size ≤ b) ∧ b < wr.heap.size) AL (p.kids.map spP)) := hlsq.keep (fun q v hq hv => (hbw3.cell hq.2).trans hv) (fun _ h => h)
      have HCC := Lib.hid (And.intro hcl hcm)
      have HOX := Lib.hid (XF_own (b1 := w.heap.size) (b7 := wr.heap.size) (K := wr.heap.size + 3) (by omega))
      have HLN := Lib.hid hLs
      have HPIN : Hid (∀ (V : World), Below w3.heap.size w3 V → ∀ b, ((b < B ∨ w1.heap.size ≤ b) ∧ b < wr.heap.size) → b < V.heap.size ∧ ¬ XF w.heap.size wr.heap.size V b) := fun V hV b hb => ⟨by have := hV.size; omega, fun h => by
        have h2 := HX3.out b (HOX.out w3 V none (by omega) (grown_of_below hV) (fun _ e => by cases e) b h)
        rcases h2 with h2 | h2 <;> omega⟩
      have HSEQ : Hid (SeqG Tryz.prog 52 #[.pointer (some ⟨wr.heap.size + 1, 0, none⟩), .pointer (some ⟨wr.heap.size + 1 + 1, 0, none⟩)] encY (GdP (XF w.heap.size wr.heap.size) (wr.heap.size + 3) d (fun b => (b < B ∨ w1.heap.size ≤ b) ∧ b < wr.heap.size) wr.heap.size (p.kids.map spP)) (XF w.heap.size wr.heap.size) (fun xs => xs.map Yx.l = prods (p.kids.map spP)) (fun _ => True) w3) := fun l' J' Jx' V hV hJ' hJx' hY' h0' m' => by
        have hxV : ∀ b, XF w.heap.size wr.heap.size V b → b = w.heap.size ∨ b = wr.heap.size := fun b h => HX3.out b (HOX.out w3 V none (by omega) (grown_of_below hV) (fun _ e => by cases e) b h)
        have hvs := hV.size
        refine (pr_any HOX.out d (fun b => (b < B ∨ w1.heap.size ≤ b) ∧ b < wr.heap.size) wr.heap.size (p.kids.map spP) (wr.heap.size + 1) (wr.heap.size + 1 + 1) AL cL l' J' Jx' V m' (by rw [HLN.out]; exact HBL3.out.kept (grown_of_below hV) (by simp)) (fun h => by rcases hxV _ h with h | h <;> omega) (HBE3.out.kept (grown_of_below hV) (by simp)) (fun h => by rcases hxV _ h with h | h <;> omega) (HPIN.out V hV) (HLQ.out.keep (fun q v hq hv => (hV.cell (by have := hq.2; omega)).trans hv) (fun _ h => h)) (by rw [HLN.out]; exact HCC.out.1) HCC.out.2 (by rw [HLN.out]; omega) (fun b h => by rcases hxV _ h with h | h <;> omega) (by omega) (by omega) hJ' hJx' hY' h0').mono (fun e W' h => ⟨h.1, h.2.imp id (fun ⟨pre, hp⟩ => ⟨pre, trivial, hp⟩)⟩)
      clear hs4 HL33 HE33 HB33 hlsq hcl hcm hLs HBL3 HBE3 HB HR hbw3 HLQ
      refine wp_rangeG (K := wr.heap.size + 3) HOX.out (by omega) rfl (enters_of Tryz.func52 (by kernel_rfl) rfl) HSEQ.out (Below.refl _ _) (fun _ => rfl) (fun pre x => gdP_own HOX.out (by omega) pre x)
        (fun pre W' => pre.length ≤ 400 ∧ ∃ v, LstV d B w.heap.size wr.heap.size w3.heap.size p (p.kids.map spP) w v pre W')
        (fun c pre W' => c = .exit 2 ∧ pre.length = 401 ∧ ∃ v, LstV d B w.heap.size wr.heap.size w3.heap.size p (p.kids.map spP) w v pre W')
        (fun pre V V' row h hg hr => by obtain ⟨h1, v, h2⟩ := h; exact ⟨h1, v, LstV.own (by omega) (by omega) (by omega) pre V V' row h2 hg hr⟩)
        (fun c pre V V' row h hg hr => by obtain ⟨h0, h1, v, h2⟩ := h; exact ⟨h0, h1, v, LstV.own (by omega) (by omega) (by omega) pre V V' row h2 hg hr⟩)
        ⟨by simp, .slice none 0 0, ⟨⟨D, _, ep, HBK3.out⟩, HB73.out, ⟨[], World.ownsRow_nil _ _ _ _, RowQ.nil _ _ _⟩, HWW3.out, List.nil_prefix⟩⟩
        (fun y => { tmps := #[.agg #[.int .i64 p.op, .int .i64 p.ctor, .int .i64 p.n, .int .i64 p.m, .int .i64 p.var, .slice D p.kids.length ep], .pointer (some ⟨w.heap.size, 0, none⟩), .slice none 0 0, undef, .slice AL p.kids.length cL, undef, u6, .pointer (some ⟨wr.heap.size, 0, none⟩), .slice y.A y.l.length y.cap, .pointer (some ⟨w.heap.size, 0, none⟩), .int .i64 p.op, .bool false, undef, undef, undef, undef, undef, undef, undef, undef, undef, undef, undef, undef, undef, undef, undef, undef, .pointer (some ⟨w.heap.size, 5, none⟩), .slice D p.kids.length ep, .int .i64 (p.kids.length : Nat), .int .i64 (p.kids.length : Nat), .bool false, u33, u34, u35, u36, u37, u38, u39, u40, .slice AL p.kids.length cL, .func (.func 52) #[] #[.pointer (some ⟨wr.heap.size + 1, 0, none⟩), .pointer (some ⟨wr.heap.size + 1 + 1, 0, none⟩)], .slice y.A y.l.length y.cap, undef, undef, undef, undef, undef, undef, undef, undef, undef, undef, undef, undef], defers := [] }) ?assign ?body ?done ?stop _
      case assign =>
        intro m' l' x V K' hK'
        unfold encY
        gi_wp2
        exact hK'
      case done =>
        rintro D' ys V hD hS ⟨h1, v, h2⟩ hDK
        have h3 := h2.box7.cell
        have HV := Lib.hid h2
        have HSS := Lib.hid hS
        clear hS h2
        gi_wp2
        refine leaves_marks (T := fun W' => LstV d B w.heap.size wr.heap.size w3.heap.size p (p.kids.map spP) w v ys W') (B := w3.heap.size) (fun _ V V' row h hg hr => LstV.own (by omega) (by omega) (by omega) ys V V' row h hg hr) (fun _ => results_tmp rfl _ _ _) (fun W' h => h.fin (by omega) HSP.out ?_) [D'] _ (by simp) (fun E hE => by rw [List.mem_singleton.1 hE]; exact ⟨hD, hDK⟩) HV.out
        rw [HSS.out, List.take_of_length_le]
        have : (ys.map Yx.l).length ≤ 401 := by rw [List.length_map]; omega
        rw [HSS.out] at this; exact this
      case stop =>
        rintro n' D' c pre V hD _ ⟨rfl, h1, v, h2⟩ hDK
        have h3 := h2.box7.cell
        have HV := Lib.hid h2
        have HL1 := Lib.hid h1
        clear h2 h1
        gi_wp2
        refine leaves_marks (T := fun W' => LstV d B w.heap.size wr.heap.size w3.heap.size p (p.kids.map spP) w v pre W') (B := w3.heap.size) (fun _ V V' row h hg hr => LstV.own (by omega) (by omega) (by omega) pre V V' row h hg hr) (fun _ => results_tmp rfl _ _ _) (fun W' h => h.fin (by omega) HSP.out ?_) [D'] _ (by simp) (fun E hE => by rw [List.mem_singleton.1 hE]; exact ⟨hD, hDK⟩) HV.out
        obtain ⟨r, hr⟩ := HV.out.pre
        rw [← hr, List.take_left' (by rw [List.length_map]; exact HL1.out)]
      case body =>
        rintro m2 l2 pre y Wb hsz ⟨hpl, v, hls⟩ ⟨hKb, hgp, ys, hyo, hyx, hyr⟩
        obtain ⟨A0, n0, c0, hb1⟩ := hls.box1
        have hb7 := hls.box7
        obtain ⟨xs, hown, hrow⟩ := hls.row
        obtain ⟨Av, cv, rfl, hvb⟩ := own_form hown
        obtain ⟨i0, hi0, hz0, hz1, hz2⟩ := info_parts infoOP
        have hlb1 := heap_lt hb1
        have hlb7 := hb7.lt
        have k5 := (cell_of_blk hb1 5).trans rfl
        have fz5 := frozen_of_row Wb w.heap.size 5 _ 38 hb1
        have hWc : ∃ Wc, Wc = Wb.setCell ⟨w.heap.size, 5, none⟩ (.slice y.A y.l.length y.cap) := ⟨_, rfl⟩
        obtain ⟨Wc, hWc⟩ := hWc
        have hgc : Wb.grownBy Wc (some w.heap.size) := by rw [hWc]; exact ⟨rfl, rfl, rfl, by simp [World.setCell], fun k hk hne => Below.heap_setCell _ _ _ k (fun e => hne (by rw [e]))⟩
        have hsc : Wc.heap.size = Wb.heap.size := by rw [hWc]; simp [World.setCell]
        have hc1 : Wc.heap[w.heap.size]? = some (.cells #[.int .i64 p.op, .int .i64 p.ctor, .int .i64 p.n, .int .i64 p.m, .int .i64 p.var, .slice y.A y.l.length y.cap] 38 (0, 0)) := by rw [hWc]; exact heap_set hb1 _
        have hc7 : Boxed Wc wr.heap.size 30 (.slice Av pre.length cv) := hb7.kept hgc (by intro e; injection e with e; omega)
        have hownc : Wc.ownsRow w3.heap.size 38 6 (.slice Av pre.length cv) pre.length xs := own_at hown (fun b e => hgc.block b (hvb b e).2 (fun e2 => by injection e2 with e2; have := (hvb b e).1; omega))
        have HWC : Hid (Wb.setCell ⟨w.heap.size, 5, none⟩ (.slice y.A y.l.length y.cap) = Wc) := hWc.symm
        have HGC := Lib.hid hgc
        have HC1 := Lib.hid hc1
        have HC7 := Lib.hid hc7
        have HOC := Lib.hid hownc
        have HOB := Lib.hid hown
        have HVB := Lib.hid hvb
        have HLS := Lib.hid hls
        have HRW := Lib.hid hrow
        have HB7 := Lib.hid hb7
        have HSC := Lib.hid hsc
        have HGP := Lib.hid hgp
        have HYO := Lib.hid hyo
        have HYX := Lib.hid hyx
        have HYR := Lib.hid hyr
        have hscI : Wb.heap.size ≤ Wc.heap.size := by omega
        have hyl : y.l.length ≤ 100 := by
          have h := prods_len (hgp.subset (List.mem_append_right _ (List.mem_singleton.2 rfl)))
          rw [List.length_map] at h; omega
        clear hWc hgc hsc hc1 hc7 hownc hvb hls hrow hb7 hgp hyo hyx hyr hb1 hown
        gi_wp2
        rw [HWC.out]
        refine region_of_any (by kernel_rfl) (fun _ _ h => h) (by kernel_rfl) ?_
        have HS0 : Hid (Wc.drew.heap[w.heap.size]? = Wc.heap[w.heap.size]? ∧ Wc.drew.heap[wr.heap.size]? = Wc.heap[wr.heap.size]?) := ⟨rfl, rfl⟩
        refine Tz.any (S := fun w' => w'.heap[w.heap.size]? = Wc.heap[w.heap.size]? ∧ w'.heap[wr.heap.size]? = Wc.heap[wr.heap.size]?) (z := 4) _ _ _ _ ?_
        refine Tz.take_ (i := 0) (d := some 46) (v := .slice Av pre.length cv) (ls' := #[true, false, false, false, false, false, false, false]) rfl rfl (by kernel_rfl) (by kernel_rfl) (by kernel_rfl) (by kernel_rfl) (fun _ _ _ h => h) HS0.out (Or.inl ⟨by rfl, fun wq hSw => ?_⟩) (by kernel_rfl) ?_
        · have s7 := (World.cell?_of_block (a := ⟨wr.heap.size, 0, none⟩) hSw.2).trans HC7.out.cell
          go_simp
        simp only [Act.put, List.setIfInBounds_toArray, List.set_cons_zero, List.set_cons_succ]
        refine Tz.take_ (i := 1) (d := some 47) (v := .agg #[.int .i64 p.op, .int .i64 p.ctor, .int .i64 p.n, .int .i64 p.m, .int .i64 p.var, .slice y.A y.l.length y.cap]) (ls' := #[true, true, false, false, false, false, false, false]) rfl rfl (by kernel_rfl) (by kernel_rfl) (by kernel_rfl) (by kernel_rfl) (fun _ _ _ h => h) HS0.out (Or.inl ⟨by rfl, fun wq hSw => ?_⟩) (by kernel_rfl) ?_
        · have s0 := (World.cell?_of_block (a := ⟨w.heap.size, 0, none⟩) hSw.1).trans ((cell_of_blk HC1.out 0).trans rfl)
          have s1 := (World.cell?_of_block (a := ⟨w.heap.size, 1, none⟩) hSw.1).trans ((cell_of_blk HC1.out 1).trans rfl)
          have s2 := (World.cell?_of_block (a := ⟨w.heap.size, 2, none⟩) hSw.1).trans ((cell_of_blk HC1.out 2).trans rfl)
          have s3 := (World.cell?_of_block (a := ⟨w.heap.size, 3, none⟩) hSw.1).trans ((cell_of_blk HC1.out 3).trans rfl)
          have s4 := (World.cell?_of_block (a := ⟨w.heap.size, 4, none⟩) hSw.1).trans ((cell_of_blk HC1.out 4).trans rfl)
          have s5 := (World.cell?_of_block (a := ⟨w.heap.size, 5, none⟩) hSw.1).trans ((cell_of_blk HC1.out 5).trans rfl)
          go_simp
        simp only [Act.put, List.setIfInBounds_toArray, List.set_cons_zero, List.set_cons_succ]
        refine Tz.take_ (i := 2) (d := some 48) (v := .int .i64 (pre.length : Nat)) (ls' := #[true, true, true, false, false, false, false, false]) rfl rfl (by kernel_rfl) (by kernel_rfl) (by kernel_rfl) (by kernel_rfl) (fun _ _ _ h => h) HS0.out (Or.inl ⟨by rfl, fun wq hSw => ?_⟩) (by kernel_rfl) ?_
        · go_simp
        simp only [Act.put, List.setIfInBounds_toArray, List.set_cons_zero, List.set_cons_succ]
        obtain ⟨wd, hwd⟩ : ∃ wd, wd = Wc.drew := ⟨_, rfl⟩
        have hsd : wd.heap.size = Wc.heap.size := by rw [hwd]; rfl
        have HOD : Hid (wd.ownsRow w3.heap.size 38 6 (.slice Av pre.length cv) pre.length xs) := by unfold Hid; rw [hwd]; exact HOC.out.drew
        have HGD : Hid (Wc.grownBy wd none) := by unfold Hid; rw [hwd]; exact ⟨rfl, rfl, rfl, Nat.le_refl _, fun _ _ _ => rfl⟩
        have hsd2 : Wc.heap.size ≤ wd.heap.size := by omega
        have hsd3 : wd.heap.size ≤ Wc.heap.size := by omega
        rw [← hwd]
        clear hwd HS0 hsd
        have HGA : Hid (Wc.grownBy (wd.alloc (.cells #[.int .i64 0, .int .i64 0, .int .i64 0, .int .i64 0, .int .i64 0, .slice none 0 0] 38)) none) := HGD.out.trans (World.grownBy_alloc _ _ none)
        refine Tz.all (rs := [3]) (by kernel_rfl) (by decide) (List.forall_mem_cons.2 ⟨?_, fun _ h => nomatch h⟩)
        refine Tz.step rfl (by rfl) ?_
        intro K hK
        go_simp
        refine hK _ _ (fun _ _ => ⟨HGA.out.block _ (by omega) (by simp), HGA.out.block _ (by omega) (by simp)⟩) ?_
        clear hK K
        refine Tz.all (rs := [4]) (by kernel_rfl) (by decide) (List.forall_mem_cons.2 ⟨?_, fun _ h => nomatch h⟩)
        refine Tz.step rfl (by rfl) ?_
        intro K hK
        refine wp_append_own (.tmp 46) (.tmp 49) 30 (by rfl) w3.heap.size 38 i0 (.agg #[.int .i64 0, .int .i64 0, .int .i64 0, .int .i64 0, .int .i64 0, .slice none 0 0]) 6 64 Tryz.underlying30 hi0 hz0 hz1 hz2 (by rfl) (by decide) (.slice Av pre.length cv) pre.length xs (by rfl) (HOD.out.alloc _) ⟨wd.heap.size, 0, none⟩ 1 1 [.int .i64 0, .int .i64 0, .int .i64 0, .int .i64 0, .int .i64 0, .slice none 0 0] (by rfl) rfl (cell_six_new _ _ _ _ _ _ _ _) (by intro u hu; simp at hu; rcases hu with rfl | rfl <;> rfl) (by unfold maxLen; omega) (by omega) (by simp; omega) ?_
        intro v5 w5 hown5 hgr5 hat5
        obtain ⟨g5, c5, rfl⟩ := ownsRow_succ hown5
        have hat : (Value.slice Av pre.length cv).ownBlock = some g5 ∨ g5 = wd.heap.size + 1 := by
          rcases hat5 with h | h
          · exact .inl h.symm
          · injection h with h; exact .inr (by rw [World.size_alloc] at h; omega) 
        have HAT := Lib.hid hat
        have HG5 := Lib.hid hgr5
        have HO5 := Lib.hid hown5
        have hs5 := hgr5.size
        rw [World.size_alloc] at hs5
        have hlx : xs.length = pre.length * 6 := HOC.out.1
        have hg5l : w3.heap.size ≤ g5 := by
          rcases hat with h | h
          · exact (HVB.out g5 h).1
          · omega
        have hg5s : g5 < w5.heap.size := by
          have h := own_form hown5
          obtain ⟨_, _, e, h⟩ := h
          exact (h g5 rfl).2
        have HGB : Hid (∀ k, k < Wb.heap.size → some k ≠ (Value.slice Av pre.length cv).ownBlock → w5.heap[k]? = Wc.heap[k]?) := fun k hk hne => (HG5.out.block k (by rw [World.size_alloc]; omega) hne).trans (HGA.out.block k (by omega) (by simp))
        have hnv : ∀ k, k < w3.heap.size → some k ≠ (Value.slice Av pre.length cv).ownBlock := fun k hk e => by have := (HVB.out k e.symm).1; omega
        have HNV := Lib.hid hnv
        obtain ⟨v0, z0⟩ := own_cell hown5 (pre.length * 6) (by omega)
        obtain ⟨v1, z1⟩ := own_cell hown5 (pre.length * 6 + 1) (by omega)
        obtain ⟨v2, z2⟩ := own_cell hown5 (pre.length * 6 + 2) (by omega)
        obtain ⟨v3, z3⟩ := own_cell hown5 (pre.length * 6 + 3) (by omega)
        obtain ⟨v4, z4⟩ := own_cell hown5 (pre.length * 6 + 4) (by omega)
        obtain ⟨v5, z5⟩ := own_cell hown5 (pre.length * 6 + 5) (by omega)
        have f0 := hown5.frozenAt (pre.length * 6)
        have f1 := hown5.frozenAt (pre.length * 6 + 1)
        have f2 := hown5.frozenAt (pre.length * 6 + 2)
        have f3 := hown5.frozenAt (pre.length * 6 + 3)
        have f4 := hown5.frozenAt (pre.length * 6 + 4)
        have f5 := hown5.frozenAt (pre.length * 6 + 5)
        have hix : (pre.length : Int) < (pre.length : Int) + 1 := by omega
        clear hown5 hgr5 hat5 hat hnv
        have hne7 : ¬ g5 = wr.heap.size := by omega
        have hne1 : ¬ g5 = w.heap.size := by omega
        have hb75 : Boxed w5 wr.heap.size 30 (.slice Av pre.length cv) := (HGB.out _ (by omega) (HNV.out _ (by omega))).trans HC7.out
        have HB75 := Lib.hid hb75
        have c7 := hb75.cell
        have fz7 := hb75.frozen
        have HFIN : Hid (∀ (W' : World), Boxed W' wr.heap.size 30 (.slice (some ⟨g5, 0, none⟩) (pre.length + 1) c5) ∧ W'.ownsRow w3.heap.size 38 6 (.slice (some ⟨g5, 0, none⟩) (pre.length + 1) c5) (pre.length + 1) (xs ++ [.int .i64 p.op, .int .i64 p.ctor, .int .i64 p.n, .int .i64 p.m, .int .i64 p.var, .slice y.A y.l.length y.cap]) ∧ w5.heap.size ≤ W'.heap.size ∧ (W'.os = w5.os ∧ W'.tape = w5.tape ∧ W'.output = w5.output) ∧ (∀ k, k < w5.heap.size → k ≠ g5 → k ≠ wr.heap.size → W'.heap[k]? = w5.heap[k]?) →
            KpX (XF w.heap.size wr.heap.size) w3.heap.size Wb W' ∧ LstV d B w.heap.size wr.heap.size w3.heap.size p (p.kids.map spP) w (.slice (some ⟨g5, 0, none⟩) (pre.length + 1) c5) (pre ++ [y]) W') := fun W' ⟨hbx, hor, hsz', hos, hsame⟩ => by
          have hsw : Wb.heap.size ≤ w5.heap.size := by omega
          have hb5 : w5.os = Wb.os ∧ w5.tape = Wb.tape ∧ w5.output = Wb.output := ⟨HG5.out.os.trans (HGA.out.os.trans HGC.out.os), HG5.out.tape.trans (HGA.out.tape.trans HGC.out.tape), HG5.out.output.trans (HGA.out.output.trans HGC.out.output)⟩
          refine lst_next HLS.out HOB.out HRW.out ⟨by omega, by omega, by omega, by omega⟩ hyl (fun k hk h1 h7 hv => ?_) (Nat.le_trans hsw hsz') ⟨hos.1.trans hb5.1, hos.2.1.trans hb5.2.1, hos.2.2.trans hb5.2.2⟩ (HAT.out.imp id (fun h => ⟨by omega, by omega⟩)) ?_ hbx hor HGP.out HYO.out HYX.out HYR.out (fun b hb => ⟨⟨hb.1.imp id (fun h => by omega), by have := hb.2; omega, fun e => by have := (HVB.out b e.symm).1; have := hb.2; omega⟩, by have := hb.1; omega, by have := hb.2; omega⟩)
          · have hg : k ≠ g5 := fun e => by
              rcases HAT.out with h | h
              · rw [e] at hv; exact hv h.symm
              · omega
            rw [hsame k (by omega) hg h7, HGB.out k hk hv]
            exact HGC.out.block k hk (fun e => by injection e with e; omega)
          · rw [hsame _ (by omega) (by omega) (by omega), HGB.out _ hlb1 (HNV.out _ (by omega))]; exact HC1.out
        have HEA := Lib.hid (put_endA HO5.out hlx HB75.out hne7 (.int .i64 p.op) (.int .i64 p.ctor) (.int .i64 p.n) (.int .i64 p.m) (.int .i64 p.var) (.slice y.A y.l.length y.cap))
        have HEC := Lib.hid (put_endC HO5.out hlx HB75.out hne7 (.int .i64 p.op) (.int .i64 p.ctor) (.int .i64 p.n) (.int .i64 p.m) (.int .i64 p.var) (.slice y.A y.l.length y.cap))
        clear hb75
        refine hK _ _ (fun h => absurd rfl h) ?_
        clear hK K
        refine Tz.all (rs := [5, 7]) (by kernel_rfl) (by decide) (List.forall_mem_cons.2 ⟨?_, List.forall_mem_cons.2 ⟨?_, fun _ h => nomatch h⟩⟩)
        · refine Tz.step rfl (by rfl) ?_
          intro K hK
          go_simp
          refine hK _ _ (fun _ h => absurd h (by decide)) ?_
          clear hK K
          refine Tz.all (rs := [6, 7]) (by kernel_rfl) (by decide) (List.forall_mem_cons.2 ⟨?_, List.forall_mem_cons.2 ⟨?_, fun _ h => nomatch h⟩⟩)
          · refine Tz.step rfl (by rfl) ?_
            intro K hK
            go_simp
            refine hK _ _ (fun _ h => absurd h (by decide)) ?_
            clear hK K
            refine Tz.all (rs := [7]) (by kernel_rfl) (by decide) (List.forall_mem_cons.2 ⟨?_, fun _ h => nomatch h⟩)
            refine Tz.step rfl (by rfl) ?_
            intro K hK
            go_simp
            refine hK _ _ (fun _ h => absurd h (by decide)) ?_
            clear hK K
            refine Tz.done (by kernel_rfl) ?_ _
            have hend := HEA.out
            generalize (((((((((w5).setCell ⟨g5, pre.length * 6, none⟩ (.int .i64 p.op)).setCell ⟨g5, pre.length * 6 + 1, none⟩ (.int .i64 p.ctor)).setCell ⟨g5, pre.length * 6 + 2, none⟩ (.int .i64 p.n)).setCell ⟨g5, pre.length * 6 + 3, none⟩ (.int .i64 p.m)).setCell ⟨g5, pre.length * 6 + 4, none⟩ (.int .i64 p.var)).setCell ⟨g5, pre.length * 6 + 5, none⟩ (.slice y.A y.l.length y.cap))).setCell ⟨wr.heap.size, 0, none⟩ (.slice (some ⟨g5, 0, none⟩) (pre.length + 1) c5)) = W' at hend ⊢
            obtain ⟨hkp, hlv⟩ := HFIN.out W' hend
            have hbx := hend.1
            have HKP := Lib.hid hkp
            have HLV := Lib.hid hlv
            clear hend hkp hlv c7 fz7 z0 z1 z2 z3 z4 z5 f0 f1 f2 f3 f4 f5
            have c77 := hbx.cell
            by_cases hgt : 400 < pre.length + 1
            · have hgI : (400 : Int) < (pre.length : Int) + 1 := by omega
              gi_wp2
              exact ⟨⟨HKP.out.size, HKP.out.rest⟩, rfl, by rw [List.length_append]; simp; omega, _, HLV.out⟩
            · have hgI : ¬ (400 : Int) < (pre.length : Int) + 1 := by omega
              gi_wp2
              exact ⟨HKP.out, by rw [List.length_append]; simp; omega, _, HLV.out⟩
          · refine Tz.step rfl (by rfl) ?_
            intro K hK
            go_simp
            refine hK _ _ (fun _ h => absurd h (by decide)) ?_
            clear hK K
            refine Tz.all (rs := [6]) (by kernel_rfl) (by decide) (List.forall_mem_cons.2 ⟨?_, fun _ h => nomatch h⟩)
            refine Tz.step rfl (by rfl) ?_
            intro K hK
            go_simp
            refine hK _ _ (fun _ h => absurd h (by decide)) ?_
            clear hK K
            refine Tz.done (by kernel_rfl) ?_ _
            have hend := HEC.out
            generalize (((((((((w5).setCell ⟨wr.heap.size, 0, none⟩ (.slice (some ⟨g5, 0, none⟩) (pre.length + 1) c5))).setCell ⟨g5, pre.length * 6, none⟩ (.int .i64 p.op)).setCell ⟨g5, pre.length * 6 + 1, none⟩ (.int .i64 p.ctor)).setCell ⟨g5, pre.length * 6 + 2, none⟩ (.int .i64 p.n)).setCell ⟨g5, pre.length * 6 + 3, none⟩ (.int .i64 p.m)).setCell ⟨g5, pre.length * 6 + 4, none⟩ (.int .i64 p.var)).setCell ⟨g5, pre.length * 6 + 5, none⟩ (.slice y.A y.l.length y.cap)) = W' at hend ⊢
            obtain ⟨hkp, hlv⟩ := HFIN.out W' hend
            have hbx := hend.1
            have HKP := Lib.hid hkp
            have HLV := Lib.hid hlv
            clear hend hkp hlv c7 fz7 z0 z1 z2 z3 z4 z5 f0 f1 f2 f3 f4 f5
            have c77 := hbx.cell
            by_cases hgt : 400 < pre.length + 1
            · have hgI : (400 : Int) < (pre.length : Int) + 1 := by omega
              gi_wp2
              exact ⟨⟨HKP.out.size, HKP.out.rest⟩, rfl, by rw [List.length_append]; simp; omega, _, HLV.out⟩
            · have hgI : ¬ (400 : Int) < (pre.length : Int) + 1 := by omega
              gi_wp2
              exact ⟨HKP.out, by rw [List.length_append]; simp; omega, _, HLV.out⟩
        · refine Tz.step rfl (by rfl) ?_
          intro K hK
          go_simp
          refine hK _ _ (fun _ h => absurd h (by decide)) ?_
          clear hK K
          refine Tz.all (rs := [5]) (by kernel_rfl) (by decide) (List.forall_mem_cons.2 ⟨?_, fun _ h => nomatch h⟩)
          refine Tz.step rfl (by rfl) ?_
          intro K hK
          go_simp
          refine hK _ _ (fun _ h => absurd h (by decide)) ?_
          clear hK K
          refine Tz.all (rs := [6]) (by kernel_rfl) (by decide) (List.forall_mem_cons.2 ⟨?_, fun _ h => nomatch h⟩)
          refine Tz.step rfl (by rfl) ?_
          intro K hK
          go_simp
          refine hK _ _ (fun _ h => absurd h (by decide)) ?_
          clear hK K
          refine Tz.done (by kernel_rfl) ?_ _
          have hend := HEC.out
          generalize (((((((((w5).setCell ⟨wr.heap.size, 0, none⟩ (.slice (some ⟨g5, 0, none⟩) (pre.length + 1) c5))).setCell ⟨g5, pre.length * 6, none⟩ (.int .i64 p.op)).setCell ⟨g5, pre.length * 6 + 1, none⟩ (.int .i64 p.ctor)).setCell ⟨g5, pre.length * 6 + 2, none⟩ (.int .i64 p.n)).setCell ⟨g5, pre.length * 6 + 3, none⟩ (.int .i64 p.m)).setCell ⟨g5, pre.length * 6 + 4, none⟩ (.int .i64 p.var)).setCell ⟨g5, pre.length * 6 + 5, none⟩ (.slice y.A y.l.length y.cap)) = W' at hend ⊢
          obtain ⟨hkp, hlv⟩ := HFIN.out W' hend
          have hbx := hend.1
          have HKP := Lib.hid hkp
          have HLV := Lib.hid hlv
          clear hend hkp hlv c7 fz7 z0 z1 z2 z3 z4 z5 f0 f1 f2 f3 f4 f5
          have c77 := hbx.cell
          by_cases hgt : 400 < pre.length + 1
          · have hgI : (400 : Int) < (pre.length : Int) + 1 := by omega
            gi_wp2
            exact ⟨⟨HKP.out.size, HKP.out.rest⟩, rfl, by rw [List.length_append]; simp; omega, _, HLV.out⟩
          · have hgI : ¬ (400 : Int) < (pre.length : Int) + 1 := by omega
            gi_wp2
            exact ⟨HKP.out, by rw [List.length_append]; simp; omega, _, HLV.out⟩
end Go.Proofs.YtbdiahnelnbdnaaGreat
