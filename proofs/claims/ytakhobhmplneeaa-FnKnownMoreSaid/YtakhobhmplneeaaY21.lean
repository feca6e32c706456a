/-
  A value that is made part by part while a source of numbers turns. No statement is proved here.
-/
import Derived.Test.YtakhobhmplneeaaY01
import Derived.Test.YtakhobhmplneeaaY18
import Derived.Test.YtakhobhmplneeaaY20
import Derived.Test.YtakhobhmplneeaaY00
namespace Go.Proofs.Ytakhobhmplneeaa
open Go.RowKit
set_option maxRecDepth 100000
set_option linter.unusedVariables false
theorem RowVc.list {d : Nat} {w : World} {lo : Nat} {og : Option Nat} {Q : Nat → Nat → Prop} {l l' : List Vl} {xs : List Value} {k : Nat} (h : RowVc d w lo og Q l xs k) (hk : k ≤ l.length) (he : ∀ j, j < k → l'[j]? = l[j]?) : RowVc d w lo og Q l' xs k := fun j hj hjk => by
  have e : l'[j] = l[j]'(by omega) := by
    have := he j hjk
    rw [List.getElem?_eq_getElem hj, List.getElem?_eq_getElem (by omega)] at this
    injection this
  rw [e]
  exact h j (by omega) hjk
/-- One part more, while blocks of F turn. -/
theorem RowVc.moreF {d : Nat} {w w' : World} {lo : Nat} {og : Option Nat} {Q : Nat → Nat → Prop} {l : List Vl} {xs xs' : List Value} {k cap : Nat} {A' : Option Addr} {F : Nat → Prop} (h : RowVc d w lo og Q l xs k) (hf : Fr F w w') (hF : ∀ b, lo ≤ b → ¬ F b) (hk : k < l.length) (hlo : lo ≤ w.heap.size) (hog : ∀ g, og = some g → g < w.heap.size)
    (ho : OVc d w' (Nw w w') A' l[k].kids) (hx : ∀ j c, j < k → c < 3 → xs'[j * 3 + c]? = xs[j * 3 + c]?) (e0 : xs'[k * 3]? = some (.int .i64 l[k].ctor)) (e1 : xs'[k * 3 + 1]? = some (.int .i64 l[k].n)) (e8 : xs'[k * 3 + 2]? = some (.slice A' l[k].kids.length cap) ∧ l[k].kids.length ≤ cap ∧ cap ≤ maxLen) :
    RowVc d w' lo og (fun i => if i = k then Nw w w' else Q i) l xs' (k + 1) := by
  have h' := h.fr (P' := F) hf (fun b hl _ _ => hF b hl)
  intro j hj hjk
  by_cases e : j = k
  · subst e
    refine ⟨fun b hq => ?_, A', cap, e0, e1, e8, ?_⟩
    · replace hq : (if j = j then Nw w w' else Q j) b := hq
      rw [if_pos rfl] at hq
      refine ⟨Nat.le_trans hlo hq.1, hq.2, fun e => ?_, fun i hi hij hqi => ?_⟩
      · have := hog b e.symm; have := hq.1; omega
      · replace hqi : (if i = j then Nw w w' else Q i) b := hqi
        rw [if_neg hij] at hqi
        have := ((h i (by omega) (by omega)).1 b hqi).2.1
        have := hq.1
        omega
    · show OVc d w' (if j = j then Nw w w' else Q j) A' l[j].kids
      rw [if_pos rfl]; exact ho
  · obtain ⟨h1, A2, c2, f0, f1, f8, f9⟩ := h' j hj (by omega)
    refine ⟨fun b hq => ?_, A2, c2, (hx j 0 (by omega) (by omega)).trans f0, (hx j 1 (by omega) (by omega)).trans f1, ⟨(hx j 2 (by omega) (by omega)).trans f8.1, f8.2⟩, ?_⟩
    · replace hq : (if j = k then Nw w w' else Q j) b := hq
      rw [if_neg e] at hq
      obtain ⟨a1, a2, a3, a4⟩ := h1 b hq
      refine ⟨a1, a2, a3, fun i hi hij hqi => ?_⟩
      replace hqi : (if i = k then Nw w w' else Q i) b := hqi
      by_cases e2 : i = k
      · rw [if_pos e2] at hqi
        have := ((h j hj (by omega)).1 b hq).2.1
        have := hqi.1
        omega
      · rw [if_neg e2] at hqi
        exact a4 i (by omega) hij hqi
    · show OVc d w' (if j = k then Nw w w' else Q j) A2 l[j].kids
      rw [if_neg e]; exact f9
theorem RowVc.move {d : Nat} {w w' : World} {lo : Nat} {og og' : Option Nat} {Q : Nat → Nat → Prop} {l : List Vl} {xs : List Value} {k : Nat} {P' : Nat → Prop} (h : RowVc d w lo og Q l xs k) (hf : Fr P' w w') (hp : ∀ b, lo ≤ b → some b ≠ og → b < w.heap.size → ¬ P' b ∧ some b ≠ og') : RowVc d w' lo og' Q l xs k := fun j hj hjk => by
  obtain ⟨h1, A', cap, e0, e1, e8, e9⟩ := h j hj hjk
  refine ⟨fun b hb => ?_, A', cap, e0, e1, e8, e9.fr d hf (fun b hb => ?_)⟩
  · obtain ⟨a1, a2, a3, a4⟩ := h1 b hb
    exact ⟨a1, Nat.lt_of_lt_of_le a2 hf.size, (hp b a1 a3 a2).2, a4⟩
  · obtain ⟨a1, a2, a3, a4⟩ := h1 b hb
    exact (hp b a1 a3 a2).1
theorem own_cap {w : World} {base : Nat} {e : TypeId} {size n c : Nat} {A : Option Addr} {xs : List Value} (h : w.ownsRow base e size (.slice A n c) n xs) : n ≤ c ∧ c ≤ maxLen := by
  rcases h.2 with ⟨h1, h2⟩ | ⟨g, cap, cur, h1, hb, hg, hnc, hcm, _⟩
  · injection h1 with _ _ e3
    subst e3
    exact ⟨by omega, by unfold maxLen; omega⟩
  · injection h1 with _ _ e3
    subst e3
    exact ⟨hnc, hcm⟩
/-- A node in block g whose parts so far are l; the source lies in block rb. -/
def BldD (d : Nat) (w0 wr : World) (g rb : Nat) (x0 x1 : Int) (l : List Vl) : Prop := g < w0.heap.size ∧ rb < w0.heap.size ∧ g ≠ rb ∧ Fr (fun b => b = g ∨ b = rb) w0 wr ∧ ∃ A c ys Q, wr.heap[g]? = some (.cells #[.int .i64 x0, .int .i64 x1, .slice A l.length c] 28 (0, 0)) ∧ wr.ownsRow w0.heap.size 28 3 (.slice A l.length c) l.length ys ∧ RowVc d wr w0.heap.size (Value.slice A l.length c).ownBlock Q l ys l.length
theorem BldD.zero {d : Nat} {w0 : World} {g rb : Nat} {x0 x1 : Int} (h : w0.heap[g]? = some (.cells #[.int .i64 x0, .int .i64 x1, .slice none 0 0] 28 (0, 0))) (hrb : rb < w0.heap.size) (hne : g ≠ rb) : BldD d w0 w0 g rb x0 x1 [] :=
  ⟨heap_lt h, hrb, hne, Fr.refl _ _, none, 0, [], fun _ _ => False, h, World.ownsRow_nil _ _ _ _, RowVc.zero _ _ _ _ _ _ _⟩
theorem BldD.step {d : Nat} {w0 wr w2 w4 : World} {g rb : Nat} {x0 x1 : Int} {l : List Vl} {v : Vl} {c c2 : Nat} {A A2 : Option Addr} {ys : List Value} {Q : Nat → Nat → Prop} {v' : Value} {box : Obj}
    (hgl : g < w0.heap.size) (hrb : rb < w0.heap.size) (hne : g ≠ rb) (hf : Fr (fun b => b = g ∨ b = rb) w0 wr) (hg : wr.heap[g]? = some (.cells #[.int .i64 x0, .int .i64 x1, .slice A l.length c] 28 (0, 0))) (ho : wr.ownsRow w0.heap.size 28 3 (.slice A l.length c) l.length ys) (hrow : RowVc d wr w0.heap.size (Value.slice A l.length c).ownBlock Q l ys l.length)
    (hb : Fr (fun b => b = rb) wr w2) (hkid : OVc d w2 (Nw wr w2) A2 v.kids) (hc2 : v.kids.length ≤ c2 ∧ c2 ≤ maxLen) (hown : w4.ownsRow w0.heap.size 28 3 v' (l.length + 1) (ys ++ [.int .i64 v.ctor, .int .i64 v.n, .slice A2 v.kids.length c2])) (hgr : (w2.alloc box).grownBy w4 (Value.slice A l.length c).ownBlock)
    (hat : v'.ownBlock = (Value.slice A l.length c).ownBlock ∨ v'.ownBlock = some (w2.alloc box).heap.size) :
    ∃ A' c', v' = .slice A' (l.length + 1) c' ∧ w4.heap[g]? = some (.cells #[.int .i64 x0, .int .i64 x1, .slice A l.length c] 28 (0, 0)) ∧ BldD d w0 (w4.setCell ⟨g, 2, none⟩ v') g rb x0 x1 (l ++ [v]) := by
  have hys := ho.1
  obtain ⟨_, _, _, hob⟩ := own_form ho
  obtain ⟨A', c', hv, hnb⟩ := own_form hown
  have hgw := heap_lt hg
  have hb2 := hb.size
  have hz : (w2.alloc box).heap.size = w2.heap.size + 1 := by simp
  have hng : ¬ some g = (Value.slice A l.length c).ownBlock := fun e => by have := (hob g e.symm).1; omega
  have hg4 : w4.heap[g]? = some (.cells #[.int .i64 x0, .int .i64 x1, .slice A l.length c] 28 (0, 0)) := by
    rw [hgr.block g (by omega) hng, Below.heap_alloc _ _ _ (by omega), hb.2.2.2.2 g hgw hne]; exact hg
  have hF : Fr (fun b => some b = (Value.slice A l.length c).ownBlock ∨ b = g) w2 (w4.setCell ⟨g, 2, none⟩ v') :=
    ((Fr.below ((Below.refl _ w2).alloc (Nat.le_refl _) box)).trans (Fr.grown hgr (fun b e => .inl e))).trans (Fr.set _ _ _ _ (.inr rfl))
  have hel : (l ++ [v])[l.length]'(by simp) = v := by simp
  have hr1 : RowVc d wr w0.heap.size (Value.slice A l.length c).ownBlock Q (l ++ [v]) ys l.length := hrow.list (Nat.le_refl _) (fun j hj => List.getElem?_append_left hj)
  have hr2 := hr1.moreF (xs' := ys ++ [.int .i64 v.ctor, .int .i64 v.n, .slice A2 v.kids.length c2]) hb (fun b h1 h2 => by omega) (by simp) hf.size (fun b e => (hob b e).2) (by rw [hel]; exact hkid) (fun j i hj hi => List.getElem?_append_left (by omega)) (by rw [hel, List.getElem?_append_right (by omega), show l.length * 3 - ys.length = 0 by omega]; rfl) (by rw [hel, List.getElem?_append_right (by omega), show l.length * 3 + 1 - ys.length = 1 by omega]; rfl) (by rw [hel, List.getElem?_append_right (by omega), show l.length * 3 + 2 - ys.length = 2 by omega]; exact ⟨rfl, hc2⟩)
  have hr3 := hr2.move (og' := v'.ownBlock) hF (fun b h1 h2 h3 => ⟨fun h => by
    rcases h with h | h
    · exact h2 h
    · omega, fun e => by
    rcases hat with h | h
    · exact h2 (e.trans h)
    · rw [h] at e; injection e with e; omega⟩)
  have hF0 : Fr (fun b => b = g ∨ b = rb) w0 (w4.setCell ⟨g, 2, none⟩ v') := by
    refine ⟨?_, ?_, ?_, ?_, fun b hb0 hne' => ?_⟩
    · exact hF.1.trans (hb.1.trans hf.1)
    · exact hF.2.1.trans (hb.2.1.trans hf.2.1)
    · exact hF.2.2.1.trans (hb.2.2.1.trans hf.2.2.1)
    · exact Nat.le_trans hf.size (Nat.le_trans hb2 hF.size)
    · have h0 := hf.size
      rw [hF.2.2.2.2 b (by omega) (fun h => by
        rcases h with h | h
        · have := (hob b h.symm).1; omega
        · exact hne' (.inl h)), hb.2.2.2.2 b (by omega) (fun h => hne' (.inr h))]
      exact hf.2.2.2.2 b hb0 hne'
  refine ⟨A', c', hv, hg4, ?_⟩
  subst hv
  have hll : (l ++ [v]).length = l.length + 1 := by simp
  refine ⟨hgl, hrb, hne, hF0, A', c', ys ++ [.int .i64 v.ctor, .int .i64 v.n, .slice A2 v.kids.length c2], (fun i => if i = l.length then Nw wr w2 else Q i), ?_, ?_, ?_⟩
  · have := heap_setCell_same w4 g 2 _ _ (.slice A' (l.length + 1) c') hg4
    rw [this, hll]
    rfl
  · rw [hll]
    exact own_at hown (fun b e => Below.heap_setCell _ _ _ _ (fun h => by have := (hnb b e).1; simp only at h; omega))
  · rw [hll]; exact hr3
theorem BldD.all {d : Nat} {w0 wr : World} {g rb : Nat} {x0 x1 : Int} {l : List Vl} (h : BldD d w0 wr g rb x0 x1 l) (hn : l.length ≤ 1048576) :
    ∃ A c, wr.heap[g]? = some (.cells #[.int .i64 x0, .int .i64 x1, .slice A l.length c] 28 (0, 0)) ∧ (l.length ≤ c ∧ c ≤ maxLen) ∧ OVc (d + 1) wr (Nw w0 wr) A l ∧ Fr (fun b => b = g ∨ b = rb) w0 wr := by
  obtain ⟨_, _, _, hf, A, c, ys, Q, hg, ho, hrow⟩ := h
  have hc := own_cap ho
  obtain ⟨A', c', e, hO⟩ := OVc.of_row ho hrow hn
  injection e with e1 e2 e3
  subst e1
  exact ⟨A, c, hg, hc, hO, hf⟩
/-- What a value's drawing reads lies from block lo on. -/
def Rob (w : World) (lo : Nat) (A : Option Addr) (l : List Da) (A2 : Option Addr) (T : List Int) : Prop := ∀ w', Stays lo w w' → RDas w' w'.heap.size A l ∧ RInts w' A2 T
theorem Rob.at_ {w w' : World} {lo : Nat} {A A2 : Option Addr} {l : List Da} {T : List Int} (h : Rob w lo A l A2 T) (hs : Stays lo w w') : Rob w' lo A l A2 T := fun w2 h2 => h w2 (hs.trans h2)
theorem Stays.fr {lo rb : Nat} {w w' : World} (h : Fr (fun b => b = rb) w w') (hl : rb < lo) : Stays lo w w' := ⟨h.size, fun b hb hlt => h.2.2.2.2 b hlt (by omega)⟩
/-- How many numbers a value of n levels draws at most. -/
def pk : Nat → Nat
  | 0 => 0
  | n + 1 => 1 + 3 * pk n
theorem fit_w {l : List Da} : ∀ n {t : Ty} {v : Vl}, fitV l n t v = true → 2 + wV v ≤ 2 * 3 ^ n
  | 0, _, _, h => by rw [fit_zero] at h; cases h
  | n + 1, t, v, h => by
    have hp : 2 * 3 ^ (n + 1) = 3 * (2 * 3 ^ n) := by rw [Nat.pow_succ]; omega
    have h3 : 1 ≤ 3 ^ n := Nat.one_le_pow _ _ (by omega)
    by_cases ht : t.data = -1
    · rw [fit_int ht] at h
      simp only [Bool.and_eq_true, decide_eq_true_eq] at h
      rw [wV_kids, List.eq_nil_of_length_eq_zero h.2.2.2, wVs]
      omega
    · have hn : v.n = 0 := Classical.byContradiction fun hc => by rw [fit_n ht hc] at h; cases h
      have hc : v.ctor ∈ ctR l t := Classical.byContradiction fun hc => by rw [fit_ctor ht hc] at h; cases h
      have hl : v.kids.length = (agR l t v.ctor).length := Classical.byContradiction fun hc => by rw [fit_len ht hc] at h; cases h
      rw [fit_go ht hn hc hl] at h
      have ha := agR_len l t v.ctor
      have hk : ∀ j (hj : j < v.kids.length), 2 + wV v.kids[j] ≤ 2 * 3 ^ n := fun j hj => by
        have := upto_get h (by omega : j < _)
        rw [kidV_at (by omega) hj] at this
        exact fit_w n this
      rw [wV_kids, wVs_sum]
      generalize v.kids = ks at hl hk ⊢
      obtain ⟨E, hE⟩ : ∃ E, E = 2 * 3 ^ n := ⟨_, rfl⟩
      rw [hp]
      rw [← hE] at hk ⊢
      have hE2 : 2 ≤ E := by omega
      have hs : ∀ L : List Vl, (∀ x ∈ L, 2 + wV x ≤ E) → (L.map wV).sum + 2 * L.length ≤ L.length * E := fun L => by
        induction L with
        | nil => intro _; simp
        | cons a L ih =>
          intro h
          have h1 := h a (List.mem_cons_self)
          have h2 := ih (fun x hx => h x (List.mem_cons_of_mem _ hx))
          simp only [List.map_cons, List.sum_cons, List.length_cons, Nat.add_mul, Nat.one_mul]
          omega
      have h1 := hs ks (fun x hx => by obtain ⟨j, hj, rfl⟩ := List.getElem_of_mem hx; exact hk j hj)
      rcases (show ks.length = 0 ∨ ks.length = 1 ∨ ks.length = 2 ∨ ks.length = 3 by omega) with e | e | e | e <;> rw [e] at h1 ⊢ <;> omega
end Go.Proofs.Ytakhobhmplneeaa
/-
  Vl trees copied into blocks of their own: no part has a block of another part. No statement is proved here.
-/
namespace Go.Proofs.Ytakhobhmplneeaa
open Go.RowKit
set_option maxRecDepth 100000
set_option linter.unusedVariables false
theorem infoOV : (Try.prog.info? 28).map (fun i => (i.zero, i.size, i.bytes)) = some (some (.agg #[.int .i64 0, .int .i64 0, .slice none 0 0]), 3, 40) := by kernel_rfl
end Go.Proofs.Ytakhobhmplneeaa
