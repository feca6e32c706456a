/-
  A region whose last operation waits for all others: a condition on the world that holds until that one comes up. No statement is proved here.
-/
import Derived.Test.YtnfjjabeobcenaaU09
import Derived.Test.YtnfjjabeobcenaaU01
import Derived.OrdersHeld
import Derived.Deep.RegionHeld3
namespace Go.Proofs.Ytnfjjabeobcenaa
open Go
set_option linter.unusedVariables false
section
variable {P : Program} {ops : Array Oper} {Q : Exit → Act → World → Prop} {md : Region.Mode} {S : World → Prop} {z : Nat}
/-- Whatever comes up next, the condition holds behind it, unless it is number z; and so on. -/
def Till (P : Program) (md : Region.Mode) (ops : Array Oper) (Q : Exit → Act → World → Prop) (S : World → Prop) (z : Nat) : Nat → Array Bool → Act → World → Prop
  | 0, ls, a, w => Region.ready md ops ls = [] ∧ Q .normal a w
  | n + 1, ls, a, w => (Region.ready md ops ls = [] → Q .normal a w) ∧ ∀ i ∈ Region.ready md ops ls, wpOp P ops Q i (fun b v => (i ≠ z → S v) ∧ Till P md ops Q S z n (ls.setIfInBounds i true) b v) a w
theorem Till.any : ∀ (n : Nat) (ls : Array Bool) (a : Act) (w : World), Till P md ops Q S z n ls a w → wpAny P md ops Q n ls a w
  | 0, _, _, _, h => h
  | n + 1, ls, a, w, h => ⟨h.1, fun i hi => wpOp_mono (fun b v hv => Till.any n _ b v hv.2) (h.2 i hi)⟩
/-- Does number z wait for number i? -/
def waitB (md : Region.Mode) (ops : Array Oper) (z i : Nat) : Bool := match ops[z]? with
  | some o => o.after.any fun e => Region.binds md e && e.on == i
  | none => true
theorem wait_not {i : Nat} {ls : Array Bool} (h : waitB md ops z i = true) (hi : i ∈ Region.ready md ops ls) : ¬ z ∈ Region.ready md ops ls := fun hz => by
  obtain ⟨_, o, ho, hall⟩ := mem_ready.1 hz
  obtain ⟨hun, oi, hoi, _⟩ := mem_ready.1 hi
  unfold waitB at h
  rw [ho] at h
  simp only at h
  obtain ⟨e, he, hb⟩ := Array.any_eq_true'.1 h
  simp only [Bool.and_eq_true, beq_iff_eq] at hb
  have h1 := hall e he hb.1
  rw [hb.2] at h1
  rcases Nat.lt_or_ge i ls.size with hlt | hge
  · simp [hlt] at hun h1; rw [hun] at h1; cases h1
  · simp [Array.getElem?_eq_none hge] at h1
theorem Till.first {i : Nat} {oi : Oper} {v : Value} (hi : ops[i]? = some oi) (hs : Region.noSelect ops = true) (hQ : ∀ c a w, Q (.panic c) (a.put oi.dst v) w → Q (.panic c) a w) (hw : waitB md ops z i = true) :
    ∀ (n : Nat) (ls : Array Bool) (a : Act) (w : World), (∀ j oj, ops[j]? = some oj → j ≠ i → ls.getD j true = false → (∀ e ∈ oj.after, Region.binds md e = true → e.on ≠ i) → oi.apart ops oj = true) →
      i ∈ Region.ready md ops ls → i ≠ z → YieldsIf P ops S oi v a → S w → Till P md ops Q S z n (ls.setIfInBounds i true) (a.put oi.dst v) w → Till P md ops Q S z (n + 1) ls a w := by
  intro n
  have hsel := Region.noSelect_spec hs
  induction n with
  | zero =>
    intro ls a w _ hr hz hy hS H
    refine ⟨fun h => (by rw [h] at hr; cases hr), fun j hj => ?_⟩
    by_cases e : j = i
    · subst e; exact hy.wpOp hi hS ⟨fun _ => hS, H⟩
    · have := ready_mono hj e
      rw [H.1] at this
      cases this
  | succ n ih =>
    intro ls a w hfree hr hz hy hS H
    refine ⟨fun h => (by rw [h] at hr; cases hr), fun j hj => ?_⟩
    by_cases e : j = i
    · subst e; exact hy.wpOp hi hS ⟨fun _ => hS, H⟩
    · have hjz : j ≠ z := fun ez => wait_not hw hr (ez ▸ hj)
      have h1 := H.2 j (ready_mono hj e)
      obtain ⟨hun, oj, hoj, hall⟩ := mem_ready.1 hj
      have hno : ∀ d ∈ oj.after, Region.binds md d = true → d.on ≠ i := fun d hd hb heq => by
        have h2 := hall d hd hb
        have h3 := (mem_ready.1 hr).1
        rw [heq] at h2
        rcases Nat.lt_or_ge i ls.size with hlt | hge
        · simp [hlt] at h3 h2; rw [h3] at h2; cases h2
        · simp [Array.getElem?_eq_none hge] at h2
      have h2 := wpOp_putIf hoj (hfree j oj hoj e hun hno) (fun cs b => hsel i oi cs b hi) (fun cs b => hsel j oj cs b hoj) hQ hy h1
      refine wpOp_mono (fun b v h3 => ⟨fun _ => h3.2.1 hjz, ih (ls.setIfInBounds j true) b v ?_ (ready_mono hr (Ne.symm e)) hz h3.1 (h3.2.1 hjz) ?_⟩) h2
      · intro k ok hk hki huk hnk
        refine hfree k ok hk hki ?_ hnk
        by_cases ek : j = k
        · subst ek; exact hun
        · rw [getD_set_ne true ek] at huk; exact huk
      · rw [Array.setIfInBounds_comm _ _ e]
        exact h3.2.2
theorem Till.take {i : Nat} {oi : Oper} {v : Value} {n : Nat} {ls : Array Bool} {a : Act} {w : World} (hi : ops[i]? = some oi) (hs : Region.noSelect ops = true) (hf : Region.free md ops ls i = true)
    (hr : (Region.ready md ops ls).contains i = true) (hw : (waitB md ops z i && i != z) = true) (hQ : ∀ c a w, Q (.panic c) (a.put oi.dst v) w → Q (.panic c) a w) (hS : S w) (hy : YieldsIf P ops S oi v a)
    (h : Till P md ops Q S z n (ls.setIfInBounds i true) (a.put oi.dst v) w) : Till P md ops Q S z (n + 1) ls a w := by
  rw [Bool.and_eq_true, bne_iff_ne] at hw
  exact Till.first hi hs hQ hw.1 n ls a w (Region.free_spec hi hf) (by simpa using hr) hw.2 hy hS h
theorem Till.take_ {i : Nat} {oi : Oper} {d : Option Tmp} {v : Value} {n : Nat} {ls ls' : Array Bool} {a : Act} {w : World} (hi : ops[i]? = some oi) (hd : ops[i]?.map (fun o => o.dst) = some d) (hs : Region.noSelect ops = true) (hf : Region.free md ops ls i = true)
    (hr : (Region.ready md ops ls).contains i = true) (hw : (waitB md ops z i && i != z) = true) (hQ : ∀ c a w, Q (.panic c) (a.put d v) w → Q (.panic c) a w) (hS : S w) (hy : YieldsIf P ops S oi v a) (hl : ls.setIfInBounds i true = ls')
    (h : Till P md ops Q S z n ls' (a.put d v) w) : Till P md ops Q S z (n + 1) ls a w := by
  have e : oi.dst = d := by rw [hi] at hd; injection hd
  subst e hl
  exact Till.take hi hs hf hr hw hQ hS hy h
/-- One operation comes up. -/
theorem Till.step {i : Nat} {o : Oper} {n : Nat} {ls : Array Bool} {a : Act} {w : World} (ho : ops[i]? = some o) (hw : Region.wanted o (yielded ops a.tmps) = true)
    (h : ∀ K : Act → World → Prop, (∀ b v, (i ≠ z → S v) → Till P md ops Q S z n (ls.setIfInBounds i true) b v → K b v) → o.wp P a w K Q) :
    wpOp P ops Q i (fun b v => (i ≠ z → S v) ∧ Till P md ops Q S z n (ls.setIfInBounds i true) b v) a w := by
  unfold wpOp
  simp only [ho, hw, if_true]
  exact .inl (h _ fun b v h1 h2 => ⟨h1, h2⟩)
theorem Till.all {rs : List Nat} {n : Nat} {ls : Array Bool} {a : Act} {w : World} (hr : Region.ready md ops ls = rs) (hne : rs ≠ [])
    (h : ∀ i ∈ rs, wpOp P ops Q i (fun b v => (i ≠ z → S v) ∧ Till P md ops Q S z n (ls.setIfInBounds i true) b v) a w) : Till P md ops Q S z (n + 1) ls a w :=
  ⟨fun h0 => absurd (hr ▸ h0) hne, hr ▸ h⟩
theorem Till.done {ls : Array Bool} {a : Act} {w : World} (hr : Region.ready md ops ls = []) (h : Q .normal a w) : ∀ n, Till P md ops Q S z n ls a w
  | 0 => ⟨hr, h⟩
  | _ + 1 => ⟨fun _ => h, by rw [hr]; simp⟩
theorem Till.start {id : Nat} {a : Act} {w : World} (hm : P.follows .mixedOrders = true) (h : Till P .any ops Q S z ops.size (Array.replicate ops.size false) a w.drew) : (Code.region id ops true).wp P Q a w :=
  wp_region_any hm (Till.any _ _ _ _ h)
end
end Go.Proofs.Ytnfjjabeobcenaa
/-
  A Vl node that is made part by part. No statement is proved here.
-/
namespace Go.Proofs.Ytnfjjabeobcenaa
open Go.RowKit
set_option maxRecDepth 100000
set_option linter.unusedVariables false
theorem RowV.move {d : Nat} {w w' : World} {lo : Nat} {og og' : Option Nat} {Q : Nat → Nat → Prop} {l : List Vl} {xs : List Value} {k : Nat} {P' : Nat → Prop} (h : RowV d w lo og Q l xs k) (hf : Fr P' w w') (hp : ∀ b, lo ≤ b → some b ≠ og → b < w.heap.size → ¬ P' b ∧ some b ≠ og') : RowV d w' lo og' Q l xs k := fun j hj hjk => by
  obtain ⟨h1, A', cap, e0, e1, e8, e9⟩ := h j hj hjk
  refine ⟨fun b hb => ?_, A', cap, e0, e1, e8, e9.fr d hf (fun b hb => ?_)⟩
  · obtain ⟨a1, a2, a3, a4⟩ := h1 b hb
    exact ⟨a1, Nat.lt_of_lt_of_le a2 hf.size, (hp b a1 a3 a2).2, a4⟩
  · obtain ⟨a1, a2, a3, a4⟩ := h1 b hb
    exact (hp b a1 a3 a2).1
/-- A node in block g of which k parts are made; whatever was there when it was begun stays. -/
def BldV (d : Nat) (w0 wr : World) (g : Nat) (x0 x1 : Int) (l : List Vl) (k : Nat) : Prop := g < w0.heap.size ∧ Fr (fun b => b = g) w0 wr ∧ ∃ A c ys Q, wr.heap[g]? = some (.cells #[.int .i64 x0, .int .i64 x1, .slice A k c] 37 (0, 0)) ∧ wr.ownsRow w0.heap.size 37 3 (.slice A k c) k ys ∧ RowV d wr w0.heap.size (Value.slice A k c).ownBlock Q l ys k
theorem BldV.zero {d : Nat} {w0 : World} {g : Nat} {x0 x1 : Int} {l : List Vl} (h : w0.heap[g]? = some (.cells #[.int .i64 x0, .int .i64 x1, .slice none 0 0] 37 (0, 0))) : BldV d w0 w0 g x0 x1 l 0 :=
  ⟨heap_lt h, Fr.refl _ _, none, 0, [], fun _ _ => False, h, World.ownsRow_nil _ _ _ _, RowV.zero _ _ _ _ _ _ _⟩
theorem BldV.below {d : Nat} {w0 wr w1 : World} {g : Nat} {x0 x1 : Int} {l : List Vl} {k : Nat} (h : BldV d w0 wr g x0 x1 l k) (hb : Below wr.heap.size wr w1) : BldV d w0 w1 g x0 x1 l k := by
  obtain ⟨hgl, hf, A, c, ys, Q, hg, ho, hrow⟩ := h
  refine ⟨hgl, hf.trans (Fr.below hb), A, c, ys, Q, (hb.block g (heap_lt hg)).trans hg, own_at ho (fun b e => hb.block b ?_), hrow.fr (P' := fun _ => False) (Fr.below hb) (fun _ _ _ _ h => h)⟩
  obtain ⟨_, _, _, h2⟩ := own_form ho
  exact (h2 b e).2
theorem BldV.step {d : Nat} {w0 wr w2 w4 : World} {g : Nat} {x0 x1 : Int} {l : List Vl} {k c c2 : Nat} {A A2 : Option Addr} {ys : List Value} {Q : Nat → Nat → Prop} {v' : Value} {box : Obj}
    (hgl : g < w0.heap.size) (hf : Fr (fun b => b = g) w0 wr) (hg : wr.heap[g]? = some (.cells #[.int .i64 x0, .int .i64 x1, .slice A k c] 37 (0, 0))) (ho : wr.ownsRow w0.heap.size 37 3 (.slice A k c) k ys) (hrow : RowV d wr w0.heap.size (Value.slice A k c).ownBlock Q l ys k)
    (hk : k < l.length) (hb : Below wr.heap.size wr w2) (hkid : OVs d w2 (Nw wr w2) A2 l[k].kids) (hown : w4.ownsRow w0.heap.size 37 3 v' (k + 1) (ys ++ [.int .i64 l[k].ctor, .int .i64 l[k].n, .slice A2 l[k].kids.length c2])) (hgr : (w2.alloc box).grownBy w4 (Value.slice A k c).ownBlock)
    (hat : v'.ownBlock = (Value.slice A k c).ownBlock ∨ v'.ownBlock = some (w2.alloc box).heap.size) :
    ∃ A' c', v' = .slice A' (k + 1) c' ∧ w4.heap[g]? = some (.cells #[.int .i64 x0, .int .i64 x1, .slice A k c] 37 (0, 0)) ∧ BldV d w0 (w4.setCell ⟨g, 2, none⟩ v') g x0 x1 l (k + 1) := by
  have hys := ho.1
  obtain ⟨_, _, _, hob⟩ := own_form ho
  obtain ⟨A', c', hv, hnb⟩ := own_form hown
  have hgw := heap_lt hg
  have hb2 := hb.size
  have hz : (w2.alloc box).heap.size = w2.heap.size + 1 := by simp
  have hng : ¬ some g = (Value.slice A k c).ownBlock := fun e => by have := (hob g e.symm).1; omega
  have hg4 : w4.heap[g]? = some (.cells #[.int .i64 x0, .int .i64 x1, .slice A k c] 37 (0, 0)) := by
    rw [hgr.block g (by omega) hng, Below.heap_alloc _ _ _ (by omega), hb.block g hgw]; exact hg
  have hF : Fr (fun b => some b = (Value.slice A k c).ownBlock ∨ b = g) w2 (w4.setCell ⟨g, 2, none⟩ v') :=
    ((Fr.below ((Below.refl _ w2).alloc (Nat.le_refl _) box)).trans (Fr.grown hgr (fun b e => .inl e))).trans (Fr.set _ _ _ _ (.inr rfl))
  have hr2 := hrow.more (xs' := ys ++ [.int .i64 l[k].ctor, .int .i64 l[k].n, .slice A2 l[k].kids.length c2]) hb hk hf.size (fun b e => (hob b e).2) hkid (fun j i hj hi => List.getElem?_append_left (by omega)) (by rw [List.getElem?_append_right (by omega), show k * 3 - ys.length = 0 by omega]; rfl) (by rw [List.getElem?_append_right (by omega), show k * 3 + 1 - ys.length = 1 by omega]; rfl) (by rw [List.getElem?_append_right (by omega), show k * 3 + 2 - ys.length = 2 by omega]; rfl)
  have hr3 := hr2.move (og' := v'.ownBlock) hF (fun b h1 h2 h3 => ⟨fun h => by
    rcases h with h | h
    · exact h2 h
    · omega, fun e => by
    rcases hat with h | h
    · exact h2 (e.trans h)
    · rw [h] at e; injection e with e; omega⟩)
  have hF0 : Fr (fun b => b = g) w0 (w4.setCell ⟨g, 2, none⟩ v') := by
    refine ⟨?_, ?_, ?_, ?_, fun b hb0 hne => ?_⟩
    · exact hF.1.trans (hb.os.trans hf.1)
    · exact hF.2.1.trans (hb.tape.trans hf.2.1)
    · exact hF.2.2.1.trans (hb.output.trans hf.2.2.1)
    · exact Nat.le_trans hf.size (Nat.le_trans hb2 hF.size)
    · have h0 := hf.size
      rw [hF.2.2.2.2 b (by omega) (fun h => by
        rcases h with h | h
        · have := (hob b h.symm).1; omega
        · exact hne h), hb.block b (by omega)]
      exact hf.2.2.2.2 b hb0 hne
  refine ⟨A', c', hv, hg4, ?_⟩
  subst hv
  refine ⟨hgl, hF0, A', c', _, _, ?_, own_at hown (fun b e => ?_), hr3⟩
  · have := heap_setCell_same w4 g 2 _ _ (.slice A' (k + 1) c') hg4
    rw [this]
    rfl
  · exact Below.heap_setCell _ _ _ _ (fun h => by have := (hnb b e).1; simp only at h; omega)
theorem BldV.all {d : Nat} {w0 wr : World} {g : Nat} {x0 x1 : Int} {l : List Vl} {k : Nat} (h : BldV d w0 wr g x0 x1 l k) (hk : k = l.length) (hn : l.length ≤ 1048576) :
    ∃ A c, wr.heap[g]? = some (.cells #[.int .i64 x0, .int .i64 x1, .slice A l.length c] 37 (0, 0)) ∧ OVs (d + 1) wr (Nw w0 wr) A l ∧ Fr (fun b => b = g) w0 wr := by
  subst hk
  obtain ⟨_, hf, A, c, ys, Q, hg, ho, hrow⟩ := h
  obtain ⟨A', c', e, hO⟩ := OVs.of_row ho hrow hn
  injection e with e1 e2 e3
  subst e1
  exact ⟨A, c, hg, hO, hf⟩
/-- A tree that has been stored in a struct of the call's own, in block g; what was there when the region began stays. -/
def StV (d : Nat) (w1 : World) (g : Nat) (v : Vl) (B : Option Addr) (c : Nat) (wx : World) : Prop := w1.heap.size ≤ g ∧ Below w1.heap.size w1 wx ∧ wx.heap[g]? = some (.cells #[.int .i64 v.ctor, .int .i64 v.n, .slice B v.kids.length c] 37 (0, 0)) ∧ OVs d wx (fun b => w1.heap.size ≤ b ∧ b < wx.heap.size ∧ b ≠ g) B v.kids
theorem StV.new {d : Nat} {w1 w3 : World} {v : Vl} {B : Option Addr} {c : Nat} {P : Nat → Prop} (hb : Below w1.heap.size w1 w3) (ho : OVs d w3 P B v.kids) (hP : ∀ b, P b → w1.heap.size ≤ b ∧ b < w3.heap.size) :
    StV d w1 w3.heap.size v B c (w3.alloc (.cells #[.int .i64 v.ctor, .int .i64 v.n, .slice B v.kids.length c] 37)) :=
  ⟨hb.size, hb.alloc hb.size _, heap_alloc_new _ _, (ho.fr _ (Fr.below (P := fun _ => False) ((Below.refl _ _).alloc (Nat.le_refl _) _)) (fun _ _ h => h)).wide _ (fun b h => ⟨(hP b h).1, by have := (hP b h).2; simp; omega, by have := (hP b h).2; omega⟩)⟩
theorem StV.set {d : Nat} {w1 w3 : World} {g : Nat} {v : Vl} {B : Option Addr} {c : Nat} {P : Nat → Prop} (hb : Below w1.heap.size w1 w3) (hz : w3.heap[g]? = some (.cells #[.int .i64 0, .int .i64 0, .slice none 0 0] 37 (0, 0))) (hg : w1.heap.size ≤ g) (ho : OVs d w3 P B v.kids) (hP : ∀ b, P b → w1.heap.size ≤ b ∧ b < w3.heap.size ∧ b ≠ g) :
    StV d w1 g v B c (((w3.setCell ⟨g, 0, none⟩ (.int .i64 v.ctor)).setCell ⟨g, 1, none⟩ (.int .i64 v.n)).setCell ⟨g, 2, none⟩ (.slice B v.kids.length c)) := by
  refine ⟨hg, ?_, ?_, (ho.fr _ (P' := fun b => b = g) (((Fr.set (P := fun b => b = g) _ _ _ _ rfl).trans (Fr.set _ _ _ _ rfl)).trans (Fr.set _ _ _ _ rfl)) (fun b h e => (hP b h).2.2 e)).wide _ (fun b h => ⟨(hP b h).1, by have := (hP b h).2.1; simpa [World.setCell] using this, (hP b h).2.2⟩)⟩
  · exact (((hb).setCell hg _).setCell hg _).setCell hg _
  · refine (heap_setCell_same _ g 2 _ _ _ (heap_setCell_same _ g 1 _ _ _ (heap_setCell_same _ g 0 _ _ _ (hz)))).trans rfl
theorem StV.later {d : Nat} {w1 wx wy : World} {g : Nat} {v : Vl} {B : Option Addr} {c : Nat} (h : StV d w1 g v B c wx) (hb : Below wx.heap.size wx wy) : StV d w1 g v B c wy :=
  ⟨h.1, h.2.1.trans (hb.mono h.2.1.size), (hb.block g (heap_lt h.2.2.1)).trans h.2.2.1, (h.2.2.2.fr _ (Fr.below (P := fun _ => False) hb) (fun _ _ h => h)).wide _ (fun b h => ⟨h.1, Nat.lt_of_lt_of_le h.2.1 hb.size, h.2.2⟩)⟩
theorem StV.cells {d : Nat} {w1 wx : World} {g : Nat} {v : Vl} {B : Option Addr} {c : Nat} (h : StV d w1 g v B c wx) : wx.cell? ⟨g, 0, none⟩ = some (.int .i64 v.ctor) ∧ wx.cell? ⟨g, 1, none⟩ = some (.int .i64 v.n) ∧ wx.cell? ⟨g, 2, none⟩ = some (.slice B v.kids.length c) :=
  ⟨(cell_of_blk h.2.2.1 0).trans rfl, (cell_of_blk h.2.2.1 1).trans rfl, (cell_of_blk h.2.2.1 2).trans rfl⟩
/-- A struct that has been made and not yet been written. -/
def ZbV (w : World) (g : Nat) : Prop := w.heap[g]? = some (.cells #[.int .i64 0, .int .i64 0, .slice none 0 0] 37 (0, 0))
theorem ZbV.new (w : World) : ZbV (w.alloc (.cells #[.int .i64 0, .int .i64 0, .slice none 0 0] 37)) w.heap.size := heap_alloc_new _ _
theorem ZbV.at_ {w w' : World} {g : Nat} (h : ZbV w g) (hb : Below w.heap.size w w') : ZbV w' g := (hb.block g (heap_lt h)).trans h
theorem ZbV.cells {w : World} {g : Nat} (h : ZbV w g) : w.cell? ⟨g, 0, none⟩ = some (.int .i64 0) ∧ w.cell? ⟨g, 1, none⟩ = some (.int .i64 0) ∧ w.cell? ⟨g, 2, none⟩ = some (.slice none 0 0) ∧ w.frozen? ⟨g, 0, none⟩ = false ∧ w.frozen? ⟨g, 1, none⟩ = false ∧ w.frozen? ⟨g, 2, none⟩ = false :=
  ⟨(cell_of_blk h 0).trans rfl, (cell_of_blk h 1).trans rfl, (cell_of_blk h 2).trans rfl, frozen_of_row w g 0 _ 37 h, frozen_of_row w g 1 _ 37 h, frozen_of_row w g 2 _ 37 h⟩
end Go.Proofs.Ytnfjjabeobcenaa
/-
  Vl trees copied into blocks of their own: no part has a block of another part. No statement is proved here.
-/
namespace Go.Proofs.Ytnfjjabeobcenaa
open Go.RowKit
set_option maxRecDepth 100000
set_option linter.unusedVariables false
theorem infoOV : (Try.prog.info? 37).map (fun i => (i.zero, i.size, i.bytes)) = some (some (.agg #[.int .i64 0, .int .i64 0, .slice none 0 0]), 3, 40) := by kernel_rfl
def ToVO (d : Nat) : Prop := ∀ (A : Option Addr) (l : List Vl) (cap : Nat) (w : World), RVs d w w.heap.size A l → wVs l ≤ 1048576 →
  Calls Try.prog 34 #[.slice A l.length cap] w fun e w' => ∃ A2, e = .returned (.slice A2 l.length l.length) ∧ OVs (d + 1) w' (Nw w w') A2 l ∧ Below w.heap.size w w'
theorem toVO_of {d : Nat} (ih : ToVO d) (A : Option Addr) (l : List Vl) (cap : Nat) (x0 x1 : Int) (w : World) (hr : RVs d w w.heap.size A l) (hn : wVs l ≤ 1048576) :
    Calls Try.prog 12 #[.agg #[.int .i64 x0, .int .i64 x1, .slice A l.length cap]] w fun e w' => ∃ A2, e = .returned (.agg #[.int .i64 x0, .int .i64 x1, .slice A2 l.length l.length]) ∧ OVs (d + 1) w' (Nw w w') A2 l ∧ Below w.heap.size w w' := by
  have Hr := Lib.hid hr
  have IH := Lib.hid ih
  clear hr ih
  go_enter Try.func12, Try.ntmps12
  go_wp2_with (go_at_call 34; refine (IH.out _ _ _ _ (by exact Hr.out.keep (fun p hp => by rw [World.cell?_alloc_lt _ _ _ (by simp <;> omega), World.cell?_alloc_lt _ _ _ (by simp <;> omega), World.cell?_alloc_lt _ _ _ hp]) (by simp <;> omega)) hn).mono ?_; rintro e w1 ⟨A2, rfl, hf, hb⟩; obtain ⟨hc, hfz⟩ := bcell hb; have hz : w.heap.size + 2 < w1.heap.size := by have := hb.size; simp at this; omega)
  refine bodyPost_ret (v := .agg #[.int .i64 x0, .int .i64 x1, .slice A2 l.length l.length]) (by simp [results, Try.results12, go_sem, hc]) rfl ⟨A2, rfl, ?_, ?_⟩
  · refine (hf.fr _ (P' := fun b => b < w.heap.size + 3) ?_ (fun b hq => by have := hq.1; simp only [World.size_alloc] at this; omega)).wide _ (fun b hq => ⟨by have := hq.1; simp only [World.size_alloc] at this; omega, by have h2 := hq.2; simpa [World.setCell] using h2⟩)
    refine Fr.trans ?_ (Fr.set _ _ _ _ (by simp <;> omega))
    refine Fr.trans ?_ (Fr.set _ _ _ _ (by simp <;> omega))
    refine Fr.trans ?_ (Fr.set _ _ _ _ (by simp <;> omega))
    refine Fr.trans ?_ (Fr.set _ _ _ _ (by simp <;> omega))
    exact Fr.refl _ _
  · skip
    refine Below.setCell ?_ (by simp <;> omega) _
    refine Below.setCell ?_ (by simp <;> omega) _
    refine Below.setCell ?_ (by simp <;> omega) _
    refine Below.setCell ?_ (by simp <;> omega) _
    refine Below.trans ?_ (hb.mono (by simp <;> omega))
    refine Below.alloc (Below.alloc (Below.alloc (Below.refl _ _) ?_ _) ?_ _) ?_ _ <;> simp <;> omega
set_option maxHeartbeats 1600000 in
theorem toVOs_of (d : Nat) (ih : ∀ d', d = d' + 1 → ToVO d') : ToVO d := by
  intro A l cap w hr hn
  obtain ⟨i0, hi, hz0, hz1, hz2⟩ := info_parts infoOV
  have Hr := Lib.hid hr
  have IH := Lib.hid ih
  have HSum := Lib.hid (wVs_sum l)
  have hl : l.length ≤ 1048576 := by have := wVs_sum l; omega
  clear hr ih
  go_enter Try.func34, Try.ntmps34
  go_wp2_with (at_make; refine wpList_make_full _ rfl _ _ 35 rfl w.heap.size 37 i0 _ 3 Try.underlying35 hi hz0 hz1 _ _ _ _ l.length rfl rfl rfl rfl (by rw [hz2]; omega) (by unfold maxLen; omega) (Nat.le_refl _) ?_; intro w1 hown hgr)
  go_loopw [4] (fun i wr => ∃ k : Nat, k ≤ l.length ∧ i = .int .i64 k ∧ ∃ xs Q, wr.ownsRow w.heap.size 37 3 (.slice (some ⟨w.heap.size, 0, none⟩) l.length l.length) l.length xs ∧ RowV d wr w.heap.size (some w.heap.size) Q l xs k ∧ Below w.heap.size w wr) (fun i _ => l.length - (intOf i).toNat)
  case atStart => exact ⟨0, by omega, rfl, _, fun _ _ => False, hown, RowV.zero _ _ _ _ _ _ _, below_of_grown hgr (Nat.le_refl _)⟩
  case round =>
    obtain ⟨k, hk, rfl, xs, Q, hown, hrow, hb⟩ := hrel
    clear hgr hi hz0 hz1 hz2
    by_cases hlt : k < l.length
    · obtain ⟨b, off, rfl, hbB, hv⟩ := (Hr.out.below hb (Nat.le_refl _)).2 k hlt
      obtain ⟨d', hd, A', cp, c0, c1, c2, hm⟩ := hv.parts
      have ha : wVs l[k].kids ≤ 1048576 := by
        have h1 := sum_take_succ wV l k hlt
        have h2 := sum_take_le wV l (k + 1)
        have h3 := wV_kids l[k]
        have h4 := HSum.out
        omega
      have IHd := Lib.hid (IH.out d' hd)
      have Hm := Lib.hid (hm.keep (fun _ _ => rfl) hb.size)
      have HD := Lib.hid hd
      have hwl : w.heap.size < wr.heap.size := own_lt hown
      have HROW := Lib.hid hrow
      clear hm hv hd hrow
      go_wp2_with (go_at_call 12; refine (toVO_of IHd.out _ _ _ _ _ _ Hm.out ha).mono ?_; rintro e w2 ⟨A2, rfl, hf, hb2⟩; have hown2 := own_below hown hb2; obtain ⟨v0, f0⟩ := own_cell hown2 (k * 3) (by omega); obtain ⟨v1, f1⟩ := own_cell hown2 (k * 3 + 1) (by omega); obtain ⟨v2, f2⟩ := own_cell hown2 (k * 3 + 2) (by omega); have g0 := hown2.frozenAt (k * 3); have g1 := hown2.frozenAt (k * 3 + 1); have g2 := hown2.frozenAt (k * 3 + 2); skip)
      have hx := hown2.1
      have s1 := (hown2.stored (k * 3) (.int .i64 l[k].ctor)).1
      have s2 := (s1.stored (k * 3 + 1) (.int .i64 l[k].n)).1
      have s3 := (s2.stored (k * 3 + 2) (.slice A2 l[k].kids.length l[k].kids.length)).1
      have hf2 : OVs d w2 (Nw wr w2) A2 l[k].kids := by rw [HD.out]; exact hf
      have hrow2 := HROW.out.more (xs' := (((xs.set (k * 3) (.int .i64 l[k].ctor)).set (k * 3 + 1) (.int .i64 l[k].n)).set (k * 3 + 2) (.slice A2 l[k].kids.length l[k].kids.length))) hb2 hlt (by omega) (fun g e => by injection e with e; omega) hf2 (fun j c hj hc => by rw [List.getElem?_set_ne (by omega), List.getElem?_set_ne (by omega), List.getElem?_set_ne (by omega)]) (by rw [List.getElem?_set_ne (by omega), List.getElem?_set_ne (by omega), List.getElem?_set_self (by first | omega | (simp <;> omega))]) (by rw [List.getElem?_set_ne (by omega), List.getElem?_set_self (by first | omega | (simp <;> omega))]) (by rw [List.getElem?_set_self (by first | omega | (simp <;> omega))])
      have hrow3 := hrow2.fr (w' := (((w2.setCell ⟨w.heap.size, k * 3, none⟩ (.int .i64 l[k].ctor)).setCell ⟨w.heap.size, k * 3 + 1, none⟩ (.int .i64 l[k].n)).setCell ⟨w.heap.size, k * 3 + 2, none⟩ (.slice A2 l[k].kids.length l[k].kids.length))) (P' := fun b => b = w.heap.size) (((Fr.set (P := fun b => b = w.heap.size) _ _ _ _ rfl).trans (Fr.set (P := fun b => b = w.heap.size) _ _ _ _ rfl)).trans (Fr.set (P := fun b => b = w.heap.size) _ _ _ _ rfl)) (fun b _ hb' _ e => hb' (by rw [e]))
      go_roundw
      case rel => exact ⟨k + 1, by omega, by go_num, _, _, s3, hrow3, (((hb.trans (hb2.mono hb.size)).setCell (Nat.le_refl _) _).setCell (Nat.le_refl _) _).setCell (Nat.le_refl _) _⟩
      case measure => simp [intOf]; omega
    · go_wp2_with fail
      go_ret
      have he : k = l.length := by omega
      obtain ⟨A2, c2, e2, ho⟩ := OVs.of_row hown (he ▸ hrow) hl
      injection e2 with e3 e4 e5
      subst e3
      exact ⟨_, rfl, ho, hb⟩
theorem toVOs_any : ∀ d, ToVO d
  | 0 => toVOs_of 0 (fun _ h => by omega)
  | d + 1 => toVOs_of (d + 1) (fun d' h => (Nat.succ.inj h) ▸ toVOs_any d)
theorem toVO_any (d : Nat) (A : Option Addr) (l : List Vl) (cap : Nat) (x0 x1 : Int) (w : World) (hr : RVs d w w.heap.size A l) (hn : wVs l ≤ 1048576) :
    Calls Try.prog 12 #[.agg #[.int .i64 x0, .int .i64 x1, .slice A l.length cap]] w fun e w' => ∃ A2, e = .returned (.agg #[.int .i64 x0, .int .i64 x1, .slice A2 l.length l.length]) ∧ OVs (d + 1) w' (Nw w w') A2 l ∧ Below w.heap.size w w' := toVO_of (toVOs_any d) A l cap x0 x1 w hr hn
end Go.Proofs.Ytnfjjabeobcenaa
