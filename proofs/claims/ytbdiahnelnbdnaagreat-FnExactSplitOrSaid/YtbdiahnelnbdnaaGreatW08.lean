/-
  A Pt node that is made part by part. No statement is proved here.
-/
import Derived.Test.YtbdiahnelnbdnaaGreatW01
import Derived.Test.YtbdiahnelnbdnaaGreatW04
import Derived.Test.YtbdiahnelnbdnaaGreatW05
import Derived.Test.YtbdiahnelnbdnaaGreatW00
import Derived.Test.YtbdiahnelnbdnaaGreatW06
import Derived.OrdersHeld
import Derived.Deep.RegionHeld3
namespace Go.Proofs.YtbdiahnelnbdnaaGreat
open Go.RowKit
set_option maxRecDepth 100000
set_option linter.unusedVariables false
theorem RowP.move {d : Nat} {w w' : World} {lo : Nat} {og og' : Option Nat} {Q : Nat → Nat → Prop} {l : List Pt} {xs : List Value} {k : Nat} {P' : Nat → Prop} (h : RowP d w lo og Q l xs k) (hf : Fr P' w w') (hp : ∀ b, lo ≤ b → some b ≠ og → b < w.heap.size → ¬ P' b ∧ some b ≠ og') : RowP d w' lo og' Q l xs k := fun j hj hjk => by
  obtain ⟨h1, A', cap, e0, e1, e2, e3, e4, e8, e9⟩ := h j hj hjk
  refine ⟨fun b hb => ?_, A', cap, e0, e1, e2, e3, e4, e8, e9.fr d hf (fun b hb => ?_)⟩
  · obtain ⟨a1, a2, a3, a4⟩ := h1 b hb
    exact ⟨a1, Nat.lt_of_lt_of_le a2 hf.size, (hp b a1 a3 a2).2, a4⟩
  · obtain ⟨a1, a2, a3, a4⟩ := h1 b hb
    exact (hp b a1 a3 a2).1
/-- A node in block g of which k parts are made; whatever was there when it was begun stays. -/
def BldP (d : Nat) (w0 wr : World) (g : Nat) (x0 x1 x2 x3 x4 : Int) (l : List Pt) (k : Nat) : Prop := g < w0.heap.size ∧ Fr (fun b => b = g) w0 wr ∧ ∃ A c ys Q, wr.heap[g]? = some (.cells #[.int .i64 x0, .int .i64 x1, .int .i64 x2, .int .i64 x3, .int .i64 x4, .slice A k c] 38 (0, 0)) ∧ wr.ownsRow w0.heap.size 38 6 (.slice A k c) k ys ∧ RowP d wr w0.heap.size (Value.slice A k c).ownBlock Q l ys k
theorem BldP.zero {d : Nat} {w0 : World} {g : Nat} {x0 x1 x2 x3 x4 : Int} {l : List Pt} (h : w0.heap[g]? = some (.cells #[.int .i64 x0, .int .i64 x1, .int .i64 x2, .int .i64 x3, .int .i64 x4, .slice none 0 0] 38 (0, 0))) : BldP d w0 w0 g x0 x1 x2 x3 x4 l 0 :=
  ⟨heap_lt h, Fr.refl _ _, none, 0, [], fun _ _ => False, h, World.ownsRow_nil _ _ _ _, RowP.zero _ _ _ _ _ _ _⟩
theorem BldP.below {d : Nat} {w0 wr w1 : World} {g : Nat} {x0 x1 x2 x3 x4 : Int} {l : List Pt} {k : Nat} (h : BldP d w0 wr g x0 x1 x2 x3 x4 l k) (hb : Below wr.heap.size wr w1) : BldP d w0 w1 g x0 x1 x2 x3 x4 l k := by
  obtain ⟨hgl, hf, A, c, ys, Q, hg, ho, hrow⟩ := h
  refine ⟨hgl, hf.trans (Fr.below hb), A, c, ys, Q, (hb.block g (heap_lt hg)).trans hg, own_at ho (fun b e => hb.block b ?_), hrow.fr (P' := fun _ => False) (Fr.below hb) (fun _ _ _ _ h => h)⟩
  obtain ⟨_, _, _, h2⟩ := own_form ho
  exact (h2 b e).2
theorem BldP.step {d : Nat} {w0 wr w2 w4 : World} {g : Nat} {x0 x1 x2 x3 x4 : Int} {l : List Pt} {k c c2 : Nat} {A A2 : Option Addr} {ys : List Value} {Q : Nat → Nat → Prop} {v' : Value} {box : Obj}
    (hgl : g < w0.heap.size) (hf : Fr (fun b => b = g) w0 wr) (hg : wr.heap[g]? = some (.cells #[.int .i64 x0, .int .i64 x1, .int .i64 x2, .int .i64 x3, .int .i64 x4, .slice A k c] 38 (0, 0))) (ho : wr.ownsRow w0.heap.size 38 6 (.slice A k c) k ys) (hrow : RowP d wr w0.heap.size (Value.slice A k c).ownBlock Q l ys k)
    (hk : k < l.length) (hb : Below wr.heap.size wr w2) (hkid : OPs d w2 (Nw wr w2) A2 l[k].kids) (hown : w4.ownsRow w0.heap.size 38 6 v' (k + 1) (ys ++ [.int .i64 l[k].op, .int .i64 l[k].ctor, .int .i64 l[k].n, .int .i64 l[k].m, .int .i64 l[k].var, .slice A2 l[k].kids.length c2])) (hgr : (w2.alloc box).grownBy w4 (Value.slice A k c).ownBlock)
    (hat : v'.ownBlock = (Value.slice A k c).ownBlock ∨ v'.ownBlock = some (w2.alloc box).heap.size) :
    ∃ A' c', v' = .slice A' (k + 1) c' ∧ w4.heap[g]? = some (.cells #[.int .i64 x0, .int .i64 x1, .int .i64 x2, .int .i64 x3, .int .i64 x4, .slice A k c] 38 (0, 0)) ∧ BldP d w0 (w4.setCell ⟨g, 5, none⟩ v') g x0 x1 x2 x3 x4 l (k + 1) := by
  have hys := ho.1
  obtain ⟨_, _, _, hob⟩ := own_form ho
  obtain ⟨A', c', hv, hnb⟩ := own_form hown
  have hgw := heap_lt hg
  have hb2 := hb.size
  have hz : (w2.alloc box).heap.size = w2.heap.size + 1 := by simp
  have hng : ¬ some g = (Value.slice A k c).ownBlock := fun e => by have := (hob g e.symm).1; omega
  have hg4 : w4.heap[g]? = some (.cells #[.int .i64 x0, .int .i64 x1, .int .i64 x2, .int .i64 x3, .int .i64 x4, .slice A k c] 38 (0, 0)) := by
    rw [hgr.block g (by omega) hng, Below.heap_alloc _ _ _ (by omega), hb.block g hgw]; exact hg
  have hF : Fr (fun b => some b = (Value.slice A k c).ownBlock ∨ b = g) w2 (w4.setCell ⟨g, 5, none⟩ v') :=
    ((Fr.below ((Below.refl _ w2).alloc (Nat.le_refl _) box)).trans (Fr.grown hgr (fun b e => .inl e))).trans (Fr.set _ _ _ _ (.inr rfl))
  have hr2 := hrow.more (xs' := ys ++ [.int .i64 l[k].op, .int .i64 l[k].ctor, .int .i64 l[k].n, .int .i64 l[k].m, .int .i64 l[k].var, .slice A2 l[k].kids.length c2]) hb hk hf.size (fun b e => (hob b e).2) hkid (fun j i hj hi => List.getElem?_append_left (by omega)) (by rw [List.getElem?_append_right (by omega), show k * 6 - ys.length = 0 by omega]; rfl) (by rw [List.getElem?_append_right (by omega), show k * 6 + 1 - ys.length = 1 by omega]; rfl) (by rw [List.getElem?_append_right (by omega), show k * 6 + 2 - ys.length = 2 by omega]; rfl) (by rw [List.getElem?_append_right (by omega), show k * 6 + 3 - ys.length = 3 by omega]; rfl) (by rw [List.getElem?_append_right (by omega), show k * 6 + 4 - ys.length = 4 by omega]; rfl) (by rw [List.getElem?_append_right (by omega), show k * 6 + 5 - ys.length = 5 by omega]; rfl)
  have hr3 := hr2.move (og' := v'.ownBlock) hF (fun b h1 h2 h3 => ⟨fun h => by
    rcases h with h | h
    · exact h2 h
    · omega, fun e => by
    rcases hat with h | h
    · exact h2 (e.trans h)
    · rw [h] at e; injection e with e; omega⟩)
  have hF0 : Fr (fun b => b = g) w0 (w4.setCell ⟨g, 5, none⟩ v') := by
    refine ⟨?_, ?_, ?_, ?_, fun b hb0 hne => ?_⟩
    · exact hF.1.trans (hb.os.trans hf.1)
    · exact hF.2.1.trans (hb.tape.trans hf.2.1)
    · exact hF.2.2.1.trans (hb.output.trans hf.2.2.1)
    · exact Nat.le_trans hf.size (Nat.le_trans hb2 hF.size)
    · have h0 := hf.size
      rw [hF.2.2.2.2 b (by omega) (fun h => by
        rcases h with h | h
        · have := (hob b h.symm).1; omega
        · exact hne h), hb.block b (by omega)]
      exact hf.2.2.2.2 b hb0 hne
  refine ⟨A', c', hv, hg4, ?_⟩
  subst hv
  refine ⟨hgl, hF0, A', c', _, _, ?_, own_at hown (fun b e => ?_), hr3⟩
  · have := heap_setCell_same w4 g 5 _ _ (.slice A' (k + 1) c') hg4
    rw [this]
    rfl
  · exact Below.heap_setCell _ _ _ _ (fun h => by have := (hnb b e).1; simp only at h; omega)
theorem BldP.all {d : Nat} {w0 wr : World} {g : Nat} {x0 x1 x2 x3 x4 : Int} {l : List Pt} {k : Nat} (h : BldP d w0 wr g x0 x1 x2 x3 x4 l k) (hk : k = l.length) (hn : l.length ≤ 1048576) :
    ∃ A c, wr.heap[g]? = some (.cells #[.int .i64 x0, .int .i64 x1, .int .i64 x2, .int .i64 x3, .int .i64 x4, .slice A l.length c] 38 (0, 0)) ∧ OPs (d + 1) wr (Nw w0 wr) A l ∧ Fr (fun b => b = g) w0 wr := by
  subst hk
  obtain ⟨_, hf, A, c, ys, Q, hg, ho, hrow⟩ := h
  obtain ⟨A', c', e, hO⟩ := OPs.of_row ho hrow hn
  injection e with e1 e2 e3
  subst e1
  exact ⟨A, c, hg, hO, hf⟩
/-- A struct that has been made and not yet been written. -/
def ZbP (w : World) (g : Nat) : Prop := w.heap[g]? = some (.cells #[.int .i64 0, .int .i64 0, .int .i64 0, .int .i64 0, .int .i64 0, .slice none 0 0] 38 (0, 0))
theorem ZbP.new (w : World) : ZbP (w.alloc (.cells #[.int .i64 0, .int .i64 0, .int .i64 0, .int .i64 0, .int .i64 0, .slice none 0 0] 38)) w.heap.size := heap_alloc_new _ _
theorem ZbP.at_ {w w' : World} {g : Nat} (h : ZbP w g) (hb : Below w.heap.size w w') : ZbP w' g := (hb.block g (heap_lt h)).trans h
theorem ZbP.cells {w : World} {g : Nat} (h : ZbP w g) : w.cell? ⟨g, 0, none⟩ = some (.int .i64 0) ∧ w.cell? ⟨g, 1, none⟩ = some (.int .i64 0) ∧ w.cell? ⟨g, 2, none⟩ = some (.int .i64 0) ∧ w.cell? ⟨g, 3, none⟩ = some (.int .i64 0) ∧ w.cell? ⟨g, 4, none⟩ = some (.int .i64 0) ∧ w.cell? ⟨g, 5, none⟩ = some (.slice none 0 0) ∧ w.frozen? ⟨g, 0, none⟩ = false ∧ w.frozen? ⟨g, 1, none⟩ = false ∧ w.frozen? ⟨g, 2, none⟩ = false ∧ w.frozen? ⟨g, 3, none⟩ = false ∧ w.frozen? ⟨g, 4, none⟩ = false ∧ w.frozen? ⟨g, 5, none⟩ = false :=
  ⟨(cell_of_blk h 0).trans rfl, (cell_of_blk h 1).trans rfl, (cell_of_blk h 2).trans rfl, (cell_of_blk h 3).trans rfl, (cell_of_blk h 4).trans rfl, (cell_of_blk h 5).trans rfl, frozen_of_row w g 0 _ 38 h, frozen_of_row w g 1 _ 38 h, frozen_of_row w g 2 _ 38 h, frozen_of_row w g 3 _ 38 h, frozen_of_row w g 4 _ 38 h, frozen_of_row w g 5 _ 38 h⟩
end Go.Proofs.YtbdiahnelnbdnaaGreat
/-
  The pattern that only one value matches: the document's function. No statement is proved here.
-/
namespace Go.Proofs.YtbdiahnelnbdnaaGreat
open Go.RowKit Go.Sort Go.Deep
set_option maxRecDepth 100000
set_option linter.unusedVariables false
theorem cell_six_new (w : World) (a b c d e f : Value) (t : TypeId) : ∀ j u, [a, b, c, d, e, f][j]? = some u → (w.alloc (.cells #[a, b, c, d, e, f] t)).cell? ((⟨w.heap.size, 0, none⟩ : Addr).add j) = some u := by
  intro j u hj
  match j, hj with
  | 0, hj => simp at hj; subst hj; simp [Addr.add, go_sem]
  | 1, hj => simp at hj; subst hj; simp [Addr.add, go_sem]
  | 2, hj => simp at hj; subst hj; simp [Addr.add, go_sem]
  | 3, hj => simp at hj; subst hj; simp [Addr.add, go_sem]
  | 4, hj => simp at hj; subst hj; simp [Addr.add, go_sem]
  | 5, hj => simp at hj; subst hj; simp [Addr.add, go_sem]
end Go.Proofs.YtbdiahnelnbdnaaGreat
/-
  A region in which one operation waits for some others: a condition on the world that holds until that one has come up. No statement is proved here.
-/
namespace Go.Proofs.YtbdiahnelnbdnaaGreat
open Go
set_option linter.unusedVariables false
section
variable {P : Program} {ops : Array Oper} {Q : Exit → Act → World → Prop} {md : Region.Mode} {S : World → Prop} {z : Nat}
/-- Whatever comes up next, the condition holds behind it, unless it is number z; and so on. -/
def Tz (P : Program) (md : Region.Mode) (ops : Array Oper) (Q : Exit → Act → World → Prop) (S : World → Prop) (z : Nat) : Nat → Array Bool → Act → World → Prop
  | 0, ls, a, w => Region.ready md ops ls = [] ∧ Q .normal a w
  | n + 1, ls, a, w => (Region.ready md ops ls = [] → Q .normal a w) ∧ ∀ i ∈ Region.ready md ops ls, wpOp P ops Q i (fun b v => (i ≠ z → ls.getD z true = false → S v) ∧ Tz P md ops Q S z n (ls.setIfInBounds i true) b v) a w
theorem Tz.any : ∀ (n : Nat) (ls : Array Bool) (a : Act) (w : World), Tz P md ops Q S z n ls a w → wpAny P md ops Q n ls a w
  | 0, _, _, _, h => h
  | n + 1, ls, a, w, h => ⟨h.1, fun i hi => wpOp_mono (fun b v hv => Tz.any n _ b v hv.2) (h.2 i hi)⟩
/-- Does number z wait for number i? -/
def waitZ (md : Region.Mode) (ops : Array Oper) (z i : Nat) : Bool := match ops[z]? with
  | some o => o.after.any fun e => Region.binds md e && e.on == i
  | none => true
theorem waitz_not {i : Nat} {ls : Array Bool} (h : waitZ md ops z i = true) (hi : i ∈ Region.ready md ops ls) : ¬ z ∈ Region.ready md ops ls := fun hz => by
  obtain ⟨_, o, ho, hall⟩ := mem_ready.1 hz
  obtain ⟨hun, oi, hoi, _⟩ := mem_ready.1 hi
  unfold waitZ at h
  rw [ho] at h
  simp only at h
  obtain ⟨e, he, hb⟩ := Array.any_eq_true'.1 h
  simp only [Bool.and_eq_true, beq_iff_eq] at hb
  have h1 := hall e he hb.1
  rw [hb.2] at h1
  rcases Nat.lt_or_ge i ls.size with hlt | hge
  · simp [hlt] at hun h1; rw [hun] at h1; cases h1
  · simp [Array.getElem?_eq_none hge] at h1
theorem Tz.first {i : Nat} {oi : Oper} {v : Value} (hi : ops[i]? = some oi) (hs : Region.noSelect ops = true) (hQ : ∀ c a w, Q (.panic c) (a.put oi.dst v) w → Q (.panic c) a w) (hw : waitZ md ops z i = true) :
    ∀ (n : Nat) (ls : Array Bool) (a : Act) (w : World), (∀ j oj, ops[j]? = some oj → j ≠ i → ls.getD j true = false → (∀ e ∈ oj.after, Region.binds md e = true → e.on ≠ i) → oi.apart ops oj = true) →
      i ∈ Region.ready md ops ls → i ≠ z → ls.getD z true = false → YieldsIf P ops S oi v a → S w → Tz P md ops Q S z n (ls.setIfInBounds i true) (a.put oi.dst v) w → Tz P md ops Q S z (n + 1) ls a w := by
  intro n
  have hsel := Region.noSelect_spec hs
  induction n with
  | zero =>
    intro ls a w _ hr hz hlz hy hS H
    refine ⟨fun h => (by rw [h] at hr; cases hr), fun j hj => ?_⟩
    by_cases e : j = i
    · subst e; exact hy.wpOp hi hS ⟨fun _ _ => hS, H⟩
    · have := ready_mono hj e
      rw [H.1] at this
      cases this
  | succ n ih =>
    intro ls a w hfree hr hz hlz hy hS H
    refine ⟨fun h => (by rw [h] at hr; cases hr), fun j hj => ?_⟩
    by_cases e : j = i
    · subst e; exact hy.wpOp hi hS ⟨fun _ _ => hS, H⟩
    · have hjz : j ≠ z := fun ez => waitz_not hw hr (ez ▸ hj)
      have h1 := H.2 j (ready_mono hj e)
      obtain ⟨hun, oj, hoj, hall⟩ := mem_ready.1 hj
      have hno : ∀ d ∈ oj.after, Region.binds md d = true → d.on ≠ i := fun d hd hb heq => by
        have h2 := hall d hd hb
        have h3 := (mem_ready.1 hr).1
        rw [heq] at h2
        rcases Nat.lt_or_ge i ls.size with hlt | hge
        · simp [hlt] at h3 h2; rw [h3] at h2; cases h2
        · simp [Array.getElem?_eq_none hge] at h2
      have h2 := wpOp_putIf hoj (hfree j oj hoj e hun hno) (fun cs b => hsel i oi cs b hi) (fun cs b => hsel j oj cs b hoj) hQ hy h1
      have hlz' : (ls.setIfInBounds i true).getD z true = false := by rw [getD_set_ne true hz]; exact hlz
      refine wpOp_mono (fun b v h3 => ⟨fun _ _ => h3.2.1 hjz hlz', ih (ls.setIfInBounds j true) b v ?_ (ready_mono hr (Ne.symm e)) hz (by rw [getD_set_ne true hjz]; exact hlz) h3.1 (h3.2.1 hjz hlz') ?_⟩) h2
      · intro k ok hk hki huk hnk
        refine hfree k ok hk hki ?_ hnk
        by_cases ek : j = k
        · subst ek; exact hun
        · rw [getD_set_ne true ek] at huk; exact huk
      · rw [Array.setIfInBounds_comm _ _ e]
        exact h3.2.2
theorem Tz.take {i : Nat} {oi : Oper} {v : Value} {n : Nat} {ls : Array Bool} {a : Act} {w : World} (hi : ops[i]? = some oi) (hs : Region.noSelect ops = true) (hf : Region.free md ops ls i = true)
    (hr : (Region.ready md ops ls).contains i = true) (hw : (waitZ md ops z i && i != z && !ls.getD z true) = true) (hQ : ∀ c a w, Q (.panic c) (a.put oi.dst v) w → Q (.panic c) a w) (hS : S w) (hy : YieldsIf P ops S oi v a)
    (h : Tz P md ops Q S z n (ls.setIfInBounds i true) (a.put oi.dst v) w) : Tz P md ops Q S z (n + 1) ls a w := by
  rw [Bool.and_eq_true, Bool.and_eq_true, bne_iff_ne] at hw
  exact Tz.first hi hs hQ hw.1.1 n ls a w (Region.free_spec hi hf) (by simpa using hr) hw.1.2 (by simpa using hw.2) hy hS h
theorem Tz.take_ {i : Nat} {oi : Oper} {d : Option Tmp} {v : Value} {n : Nat} {ls ls' : Array Bool} {a : Act} {w : World} (hi : ops[i]? = some oi) (hd : ops[i]?.map (fun o => o.dst) = some d) (hs : Region.noSelect ops = true) (hf : Region.free md ops ls i = true)
    (hr : (Region.ready md ops ls).contains i = true) (hw : (waitZ md ops z i && i != z && !ls.getD z true) = true) (hQ : ∀ c a w, Q (.panic c) (a.put d v) w → Q (.panic c) a w) (hS : S w) (hy : YieldsIf P ops S oi v a) (hl : ls.setIfInBounds i true = ls')
    (h : Tz P md ops Q S z n ls' (a.put d v) w) : Tz P md ops Q S z (n + 1) ls a w := by
  have e : oi.dst = d := by rw [hi] at hd; injection hd
  subst e hl
  exact Tz.take hi hs hf hr hw hQ hS hy h
/-- One operation comes up. -/
theorem Tz.step {i : Nat} {o : Oper} {n : Nat} {ls : Array Bool} {a : Act} {w : World} (ho : ops[i]? = some o) (hw : Region.wanted o (yielded ops a.tmps) = true)
    (h : ∀ K : Act → World → Prop, (∀ b v, (i ≠ z → ls.getD z true = false → S v) → Tz P md ops Q S z n (ls.setIfInBounds i true) b v → K b v) → o.wp P a w K Q) :
    wpOp P ops Q i (fun b v => (i ≠ z → ls.getD z true = false → S v) ∧ Tz P md ops Q S z n (ls.setIfInBounds i true) b v) a w := by
  unfold wpOp
  simp only [ho, hw, if_true]
  exact .inl (h _ fun b v h1 h2 => ⟨h1, h2⟩)
theorem Tz.all {rs : List Nat} {n : Nat} {ls : Array Bool} {a : Act} {w : World} (hr : Region.ready md ops ls = rs) (hne : rs ≠ [])
    (h : ∀ i ∈ rs, wpOp P ops Q i (fun b v => (i ≠ z → ls.getD z true = false → S v) ∧ Tz P md ops Q S z n (ls.setIfInBounds i true) b v) a w) : Tz P md ops Q S z (n + 1) ls a w :=
  ⟨fun h0 => absurd (hr ▸ h0) hne, hr ▸ h⟩
theorem Tz.done {ls : Array Bool} {a : Act} {w : World} (hr : Region.ready md ops ls = []) (h : Q .normal a w) : ∀ n, Tz P md ops Q S z n ls a w
  | 0 => ⟨hr, h⟩
  | _ + 1 => ⟨fun _ => h, by rw [hr]; simp⟩
theorem Tz.start {id : Nat} {a : Act} {w : World} (hm : P.follows .mixedOrders = true) (h : Tz P .any ops Q S z ops.size (Array.replicate ops.size false) a w.drew) : (Code.region id ops true).wp P Q a w :=
  wp_region_any hm (Tz.any _ _ _ _ h)
end
end Go.Proofs.YtbdiahnelnbdnaaGreat
