/-
  A row of bindings of the call's own, sorted in its place. No statement is proved here.
-/
import Derived.Test.YthecfkdilbfimaaGreatN05
import Derived.Test.YthecfkdilbfimaaGreatN01
import Derived.Test.YthecfkdilbfimaaGreatN04
import Derived.Test.YthecfkdilbfimaaGreatH05
namespace Go.Proofs.YthecfkdilbfimaaGreat
open Go.RowKit Go.Sort Go.Deep Go.Lib Go.Shelf
set_option maxRecDepth 100000
set_option linter.unusedVariables false

theorem put_block {w : World} {g n : Nat} {cur : Array Value} {e : TypeId} {F : Array Value} {os : Array Obj} (hg : w.heap[g]? = some (.cells cur e (0, 0))) (hF : F.size ≤ cur.size) : ∃ cur', (grow (putRow id (Sort.ahead w n) g 0 F) os).heap[g]? = some (.cells cur' e (0, 0)) ∧ cur'.size = cur.size ∧ ∀ t, t < F.size → cur'[t]? = some F[t]! := by
  have h1 : (putRow id (Sort.ahead w n) g 0 F).heap[g]? = some (.cells (putCells id 0 F cur) e (0, 0)) := by simp [putRow, mapBlock, Array.getElem?_modify, hg, onCells]
  refine ⟨putCells id 0 F cur, ?_, by simp [putCells], fun t ht => ?_⟩
  · show (_ ++ os)[g]? = _
    rw [Array.getElem?_append_left (heap_lt h1)]
    exact h1
  · simp only [putCells, Array.getElem?_mapIdx]
    rw [Array.getElem?_eq_getElem (by omega), Option.map_some, if_pos ⟨by omega, by omega⟩]
    rfl
theorem put_below {w : World} {g n lo : Nat} {F : Array Value} {os : Array Obj} (hlo : lo ≤ g) (hgl : g < w.heap.size) : RowKit.Below lo w (grow (putRow id (Sort.ahead w n) g 0 F) os) := by
  have hs : (putRow id (Sort.ahead w n) g 0 F).heap.size = w.heap.size := by simp [putRow, mapBlock]
  refine ⟨rfl, rfl, rfl, ?_, fun k hk => ?_⟩
  · show w.heap.size ≤ (_ ++ os).size
    rw [Array.size_append, hs]; omega
  · show (_ ++ os)[k]? = _
    rw [Array.getElem?_append_left (by rw [hs]; omega)]
    have : ¬ g = k := by omega
    simp [putRow, mapBlock, Array.getElem?_modify, this]
theorem get_bang {α : Type} [Inhabited α] (d : Array α) (i : Nat) (h : i < d.size) : d[i]! = d[i] := getElem!_pos d i h
theorem encX_at (x : Bx4) : (encX x)[0]! = .int .i64 x.1.var ∧ (encX x)[1]! = .int .i64 x.1.val.ctor ∧ (encX x)[2]! = .int .i64 x.1.val.n ∧ (encX x)[3]! = .slice x.2.1 x.1.val.kids.length x.2.2 := ⟨rfl, rfl, rfl, rfl⟩
theorem flat_at (d : Array Bx4) (j c : Nat) (hj : j < d.size) (hc : c < 4) : (flatK encX 4 d)[j * 4 + c]! = (encX d[j])[c]! := by
  rw [get_flatK encX 4 d (j * 4 + c) (by omega), show (j * 4 + c) / 4 = j by omega, show (j * 4 + c) % 4 = c by omega, get_bang d j hj]
theorem flat_some (d : Array Bx4) (j c : Nat) (hj : j < d.size) (hc : c < 4) : (flatK encX 4 d).toList[j * 4 + c]? = some (encX d[j])[c]! := by
  have hs := size_flatK encX 4 d
  rw [← flat_at d j c hj hc, get_bang _ _ (by omega), Array.getElem?_toList, Array.getElem?_eq_getElem (by omega)]
theorem sort_own {e lo B : Nat} {u : Value} {L : List Bn} {w : World} (ho : OBr e w lo B u L) (hB : B ≤ lo) (hL : L.length ≤ 12) (h0 : 0 < L.length) (hn : (vsB L).Nodup) (hr : ∀ b ∈ L, 0 ≤ b.var ∧ b.var ≤ 5) :
    Calls Tryz.prog 87 #[u, .func (.func 88) #[] #[]] w fun E w' => E = .returned (.tuple #[]) ∧ OBr e w' lo B u (sortB L 6) ∧ RowKit.Below lo w w' ∧ (sortB L 6).length = L.length := by
  obtain ⟨xs, hown, hrow⟩ := ho
  rcases hown.2 with ⟨_, h⟩ | ⟨g, cap, cur, rfl, hbg, hg, hnc, hcm, hcs, htake⟩
  · omega
  have hex : ∀ j : Fin L.length, ∃ q : Option Addr × Nat, xs[j.1 * 4]? = some (.int .i64 L[j.1].var) ∧ xs[j.1 * 4 + 1]? = some (.int .i64 L[j.1].val.ctor) ∧ xs[j.1 * 4 + 2]? = some (.int .i64 L[j.1].val.n) ∧ xs[j.1 * 4 + 3]? = some (.slice q.1 L[j.1].val.kids.length q.2) ∧ RVs e w B q.1 L[j.1].val.kids := fun j => by
    obtain ⟨A', c, h⟩ := hrow j.1 j.2
    exact ⟨(A', c), h⟩
  obtain ⟨q, hq⟩ := Classical.axiomOfChoice hex
  obtain ⟨d, hd⟩ : ∃ d : Array Bx4, d = Array.ofFn (fun j : Fin L.length => (L[j.1], q j)) := ⟨_, rfl⟩
  have hds : d.size = L.length := by rw [hd]; simp
  have hdj : ∀ j (h : j < d.size), d[j] = (L[j]'(by omega), q ⟨j, by omega⟩) := fun j h => by subst hd; simp
  have hat : ∀ i, i < L.length * 4 → cur[i]? = xs[i]? := fun i hi => by rw [← htake, List.getElem?_take_of_lt hi, Array.getElem?_toList]
  have hH : HoldsK encX 4 w g 0 d := by
    intro t ht
    rw [size_flatK] at ht
    refine ⟨?_, frozen_of_row w g (0 + t) _ 128 hg⟩
    rw [Nat.zero_add, cell_of_blk hg, hat t (by omega)]
    have hj : t / 4 < d.size := by omega
    obtain ⟨e0, e1, e2, e3, _⟩ := hq ⟨t / 4, by omega⟩
    have hc : t % 4 = 0 ∨ t % 4 = 1 ∨ t % 4 = 2 ∨ t % 4 = 3 := by omega
    have hf := flat_at d (t / 4) (t % 4) hj (by omega)
    rw [show t / 4 * 4 + t % 4 = t by omega, hdj _ hj] at hf
    rw [hf]
    rcases hc with hc | hc | hc | hc
    · rw [hc]; rw [show t / 4 * 4 = t by omega] at e0; exact e0
    · rw [hc]; rw [show t / 4 * 4 + 1 = t by omega] at e1; exact e1
    · rw [hc]; rw [show t / 4 * 4 + 2 = t by omega] at e2; exact e2
    · rw [hc]; rw [show t / 4 * 4 + 3 = t by omega] at e3; exact e3
  have hcall := sortX g cap d w hH (heap_lt hg) (by omega)
  rw [hds] at hcall
  refine hcall.mono ?_
  rintro E w' ⟨rfl, d', n, os, ⟨hs', _, hperm⟩, hsort, rfl⟩
  have hs2 : d'.size = L.length := by omega
  have hp : d'.toList.Perm d.toList := by
    rw [← hds] at hperm
    have a1 : d'.extract 0 d.size = d' := by rw [← hs']; simp
    have a2 : d.extract 0 d.size = d := by simp
    rw [a1, a2] at hperm
    exact hperm
  have hdL : d.toList.map (·.1) = L := by
    apply List.ext_getElem
    · simp [hds]
    · intro i h1 h2
      have hi : i < d.size := by omega
      simp [hdj i hi]
  have hpL : (d'.toList.map (·.1)).Perm L := by rw [← hdL]; exact hp.map _
  have hRV : ∀ x ∈ d'.toList, RVs e w B x.2.1 x.1.val.kids := fun x hx => by
    have hx2 := hp.mem_iff.1 hx
    obtain ⟨j, hj, rfl⟩ := List.mem_iff_getElem.1 hx2
    have hj' : j < d.size := by simpa using hj
    rw [Array.getElem_toList, hdj j hj']
    exact (hq ⟨j, by omega⟩).2.2.2.2
  have hasc : Asc (d'.toList.map (·.1)) := by
    unfold Asc
    rw [List.pairwise_iff_getElem]
    intro i j hi hj hij
    have hi' : i < d'.size := by simpa using hi
    have hj' : j < d'.size := by simpa using hj
    have h1 := hsort i j (Nat.zero_le _) hij (by omega)
    rw [ltX, get_bang d' j hj', get_bang d' i hi'] at h1
    have := of_decide_eq_false h1
    simp only [List.getElem_map, Array.getElem_toList]
    omega
  have hS := sort_is hpL hn hasc hr
  have hlen : (sortB L 6).length = L.length := by rw [← hS]; simp [hs2]
  have hF : (flatK encX 4 d').size = L.length * 4 := by rw [size_flatK, hs2]
  obtain ⟨cur', hg', hcs', hat'⟩ := put_block (n := n) (os := os) (F := flatK encX 4 d') hg (by rw [hF, hcs]; exact Nat.mul_le_mul_right _ hnc)
  have hbw : RowKit.Below lo w (sortWorldK encX 4 w g 0 n d' os) := put_below hbg (heap_lt hg)
  refine ⟨rfl, ⟨(flatK encX 4 d').toList, ⟨?_, .inr ⟨g, cap, cur', ?_, hbg, hg', by omega, hcm, by rw [hcs', hcs], ?_⟩⟩, ?_⟩, hbw, hlen⟩
  · rw [Array.length_toList, hF, hlen]
  · rw [hlen]
  · rw [hlen]
    apply List.ext_getElem?
    intro i
    by_cases hi : i < L.length * 4
    · rw [List.getElem?_take_of_lt hi, Array.getElem?_toList, hat' i (by omega), Array.getElem?_toList, Array.getElem?_eq_getElem (by omega), get_bang _ _ (by omega)]
    · rw [List.getElem?_eq_none (by rw [List.length_take]; omega), List.getElem?_eq_none (by rw [Array.length_toList, hF]; omega)]
  · rw [← hS]
    intro j hj
    have hj' : j < d'.size := by simpa using hj
    refine ⟨d'[j].2.1, d'[j].2.2, ?_, ?_, ?_, ?_, ?_⟩
    · rw [← Nat.add_zero (j * 4), flat_some d' j 0 hj' (by decide), (encX_at _).1]; simp
    · rw [flat_some d' j 1 hj' (by decide), (encX_at _).2.1]; simp
    · rw [flat_some d' j 2 hj' (by decide), (encX_at _).2.2.1]; simp
    · rw [flat_some d' j 3 hj' (by decide), (encX_at _).2.2.2]; simp
    · have := hRV d'[j] (Array.getElem_mem_toList hj')
      simp only [List.getElem_map, Array.getElem_toList]
      exact this.keep (fun q hq => hbw.cell (p := q) (by omega)) (Nat.le_refl _)
end Go.Proofs.YthecfkdilbfimaaGreat
namespace Go.Proofs.YthecfkdilbfimaaGreat
open Go.RowKit Go.Sort Go.Deep
set_option maxRecDepth 100000
set_option linter.unusedVariables false

def CpRow (e : Nat) (wr : World) (lo B g cap : Nat) (S : List Bn) (k : Nat) : Prop := ∃ xs Q, wr.ownsRow lo 128 4 (.slice (some ⟨g, 0, none⟩) S.length cap) S.length xs ∧ RowB (e + 1) wr lo (some g) Q S xs k ∧ ∀ j (h : j < S.length), k ≤ j → ∃ A' c, xs[j * 4]? = some (.int .i64 S[j].var) ∧ xs[j * 4 + 1]? = some (.int .i64 S[j].val.ctor) ∧ xs[j * 4 + 2]? = some (.int .i64 S[j].val.n) ∧ xs[j * 4 + 3]? = some (.slice A' S[j].val.kids.length c) ∧ RVs e wr B A' S[j].val.kids
theorem CpRow.zero {e : Nat} {wr : World} {lo B g cap : Nat} {S : List Bn} (h : OBr e wr lo B (.slice (some ⟨g, 0, none⟩) S.length cap) S) : CpRow e wr lo B g cap S 0 := by
  obtain ⟨xs, ho, hx⟩ := h
  exact ⟨xs, fun _ _ => False, ho, RowB.zero _ _ _ _ _ _ _, fun j hj _ => hx j hj⟩
theorem CpRow.block {e : Nat} {wr : World} {lo B g cap : Nat} {S : List Bn} {k : Nat} (h : CpRow e wr lo B g cap S k) : ∃ cur, lo ≤ g ∧ g < wr.heap.size ∧ wr.heap[g]? = some (.cells cur 128 (0, 0)) := by
  obtain ⟨xs, Q, ho, _, _⟩ := h
  rcases ho.2 with ⟨h', _⟩ | ⟨g', cap', cur, h', hb, hg, _⟩
  · cases h'
  · cases h'; exact ⟨cur, hb, heap_lt hg, hg⟩
theorem CpRow.at_ {e : Nat} {wr : World} {lo B g cap : Nat} {S : List Bn} {k : Nat} (h : CpRow e wr lo B g cap S k) (hk : k < S.length) : ∃ A' c, wr.cell? ⟨g, k * 4 + 1, none⟩ = some (.int .i64 S[k].val.ctor) ∧ wr.cell? ⟨g, k * 4 + 2, none⟩ = some (.int .i64 S[k].val.n) ∧ wr.cell? ⟨g, k * 4 + 3, none⟩ = some (.slice A' S[k].val.kids.length c) ∧ RVs e wr B A' S[k].val.kids := by
  obtain ⟨xs, Q, ho, _, hr⟩ := h
  obtain ⟨A', c, e0, e1, e2, e3, hv⟩ := hr k hk (Nat.le_refl _)
  have hl := ho.1
  exact ⟨A', c, (ho.cellAt _ (by omega)).trans e1, (ho.cellAt _ (by omega)).trans e2, (ho.cellAt _ (by omega)).trans e3, hv⟩
theorem CpRow.step {e : Nat} {wr w2 : World} {lo B g cap : Nat} {S : List Bn} {k c2 : Nat} {A2 : Option Addr} (h : CpRow e wr lo B g cap S k) (hk : k < S.length) (hB : B ≤ lo) (hb : RowKit.Below wr.heap.size wr w2) (hov : OVs (e + 1) w2 (Nw wr w2) A2 S[k].val.kids) :
    CpRow e (((w2.setCell ⟨g, k * 4 + 1, none⟩ (.int .i64 S[k].val.ctor)).setCell ⟨g, k * 4 + 2, none⟩ (.int .i64 S[k].val.n)).setCell ⟨g, k * 4 + 3, none⟩ (.slice A2 S[k].val.kids.length c2)) lo B g cap S (k + 1) := by
  obtain ⟨xs, Q, ho, hrow, hrest⟩ := h
  rcases ho.2 with ⟨h', _⟩ | ⟨g', cap', cur, h', hbg, hg, hnc, hcm, hcs, htake⟩
  · cases h'
  cases h'
  have hgl := heap_lt hg
  have hl := ho.1
  have hg2 : w2.heap[g]? = some (.cells cur 128 (0, 0)) := (hb.block g hgl).trans hg
  have hg5 := heap_setCell_same _ g (k * 4 + 3) _ _ (.slice A2 S[k].val.kids.length c2) (heap_setCell_same _ g (k * 4 + 2) _ _ (.int .i64 S[k].val.n) (heap_setCell_same w2 g (k * 4 + 1) _ _ (.int .i64 S[k].val.ctor) hg2))
  generalize hcur : ((cur.setIfInBounds (k * 4 + 1) (.int .i64 S[k].val.ctor)).setIfInBounds (k * 4 + 2) (.int .i64 S[k].val.n)).setIfInBounds (k * 4 + 3) (.slice A2 S[k].val.kids.length c2) = cur5 at hg5
  generalize hw5 : (((w2.setCell ⟨g, k * 4 + 1, none⟩ (.int .i64 S[k].val.ctor)).setCell ⟨g, k * 4 + 2, none⟩ (.int .i64 S[k].val.n)).setCell ⟨g, k * 4 + 3, none⟩ (.slice A2 S[k].val.kids.length c2)) = w5 at hg5
  have hcs5 : cur5.size = cap * 4 := by rw [← hcur]; simp [hcs]
  have hle : S.length * 4 ≤ cur.size := by rw [hcs]; exact Nat.mul_le_mul_right _ hnc
  have hat : ∀ i, i < S.length * 4 → cur[i]? = xs[i]? := fun i hi => by rw [← htake, List.getElem?_take_of_lt hi, Array.getElem?_toList]
  have hat5 : ∀ i, i < S.length * 4 → (cur5.toList.take (S.length * 4))[i]? = cur5[i]? := fun i hi => by rw [List.getElem?_take_of_lt hi, Array.getElem?_toList]
  have hoth : ∀ i, i < S.length * 4 → i ≠ k * 4 + 1 → i ≠ k * 4 + 2 → i ≠ k * 4 + 3 → (cur5.toList.take (S.length * 4))[i]? = xs[i]? := fun i hi h1 h2 h3 => by
    rw [hat5 i hi, ← hcur, Array.getElem?_setIfInBounds_ne (Ne.symm h3), Array.getElem?_setIfInBounds_ne (Ne.symm h2), Array.getElem?_setIfInBounds_ne (Ne.symm h1), hat i hi]
  obtain ⟨A0, c0, e0, e1, e2, e3, _⟩ := hrest k hk (Nat.le_refl _)
  have hF : Fr (fun b => b = g) w2 w5 := by rw [← hw5]; exact ((Fr.set (P := fun b => b = g) _ _ _ _ rfl).trans (Fr.set _ _ _ _ rfl)).trans (Fr.set _ _ _ _ rfl)
  have hr2 := hrow.more (xs' := cur5.toList.take (S.length * 4)) (cap := c2) (A' := A2) hb hk (by omega) (fun b e => by cases e; exact hgl) hov (fun j c hj hc => hoth _ (by omega) (by omega) (by omega) (by omega))
    ((hoth _ (by omega) (by omega) (by omega) (by omega)).trans e0)
    (by rw [hat5 _ (by omega), ← hcur, Array.getElem?_setIfInBounds_ne (by omega), Array.getElem?_setIfInBounds_ne (by omega), Array.getElem?_setIfInBounds_self_of_lt (by omega)])
    (by rw [hat5 _ (by omega), ← hcur, Array.getElem?_setIfInBounds_ne (by omega), Array.getElem?_setIfInBounds_self_of_lt (by simp; omega)])
    (by rw [hat5 _ (by omega), ← hcur, Array.getElem?_setIfInBounds_self_of_lt (by simp; omega)])
  have hr5 := hr2.fr hF (fun b _ h2 _ h => h2 (by rw [h]))
  have hs5 : w2.heap.size ≤ w5.heap.size := hF.size
  have hk5 : ∀ q : Addr, q.block < B → w5.cell? q = wr.cell? q := fun q hq => by
    rw [World.cell?_of_block (a := q) (hF.2.2.2.2 q.block (by have := hb.size; omega) (by omega)), hb.cell (p := q) (by omega)]
  refine ⟨_, _, ⟨?_, .inr ⟨g, cap, cur5, rfl, hbg, hg5, hnc, hcm, hcs5, rfl⟩⟩, hr5, fun j hj hkj => ?_⟩
  · have hl5 : cur5.toList.length = cap * 4 := by rw [Array.length_toList]; exact hcs5
    rw [List.length_take, hl5]; omega
  · obtain ⟨A', c, f0, f1, f2, f3, hv⟩ := hrest j hj (by omega)
    exact ⟨A', c, (hoth _ (by omega) (by omega) (by omega) (by omega)).trans f0, (hoth _ (by omega) (by omega) (by omega) (by omega)).trans f1, (hoth _ (by omega) (by omega) (by omega) (by omega)).trans f2, (hoth _ (by omega) (by omega) (by omega) (by omega)).trans f3, hv.keep hk5 (Nat.le_refl _)⟩
theorem CpRow.all {e : Nat} {wr : World} {lo B g cap : Nat} {S : List Bn} (h : CpRow e wr lo B g cap S S.length) (hn : S.length ≤ 1048576) : OBs (e + 1) wr (fun b => lo ≤ b ∧ b < wr.heap.size) (some ⟨g, 0, none⟩) S := by
  obtain ⟨xs, Q, ho, hrow, _⟩ := h
  obtain ⟨A, c, e1, hO⟩ := OBs.of_row ho hrow hn
  cases e1
  exact hO
end Go.Proofs.YthecfkdilbfimaaGreat
namespace Go.Proofs.YthecfkdilbfimaaGreat
open Go.RowKit Go.Sort Go.Deep
set_option maxRecDepth 100000
set_option linter.unusedVariables false

def CiS (d : Nat) : Prop := ∀ (A : Option Addr) (l : List Vl) (cap : Nat) (w : World), RVs d w w.heap.size A l → wVs l ≤ 1048576 →
  Calls Tryz.prog 138 #[.slice A l.length cap] w fun e w' => ∃ A2 c, e = .returned (.slice A2 l.length c) ∧ OVs (d + 1) w' (Nw w w') A2 l ∧ Below w.heap.size w w'
set_option maxHeartbeats 1600000 in
theorem ciV_of (d : Nat) (ih : CiS d) (D : Option Addr) (ep : Nat) (v : Vl) (w : World) (hv : RVs d w w.heap.size D v.kids) (hn : wV v ≤ 1048576) : Calls Tryz.prog 90 #[.agg #[.int .i64 v.ctor, .int .i64 v.n, .slice D v.kids.length ep]] w (CpQ d v w) := by
  have HV := Lib.hid hv
  have IH := Lib.hid ih
  have hnk : wVs v.kids ≤ 1048576 := by rw [← wV_kids]; exact hn
  clear hv ih
  generalize hwx : (w.alloc (.cells #[.int .i64 v.ctor, .int .i64 v.n, .slice D v.kids.length ep] 51)).alloc (.cells #[.int .i64 0, .int .i64 0, .slice none 0 0] 51) = wx
  have hbx : Below w.heap.size w wx := by rw [← hwx]; exact ((Below.refl _ _).alloc (Nat.le_refl _) _).alloc (by simp) _
  have HXB : Hid (wx.heap[w.heap.size]? = some (.cells #[.int .i64 v.ctor, .int .i64 v.n, .slice D v.kids.length ep] 51 (0, 0))) := by
    have h := heap_alloc_new w (.cells #[.int .i64 v.ctor, .int .i64 v.n, .slice D v.kids.length ep] 51)
    unfold Hid; rw [← hwx, Below.heap_alloc _ _ _ (by simp)]; exact h
  have HXR : Hid (ZbV wx (w.heap.size + 1)) := by
    have h := ZbV.new (w.alloc (.cells #[.int .i64 v.ctor, .int .i64 v.n, .slice D v.kids.length ep] 51))
    simp only [World.size_alloc] at h
    unfold Hid; rw [← hwx]; exact h
  have hsx : wx.heap.size = w.heap.size + 2 := by rw [← hwx]; simp
  have hsx1 : w.heap.size + 2 ≤ wx.heap.size := by omega
  have HWX := Lib.hid hwx
  clear hwx hsx
  go_enter Tryz.func90, Tryz.ntmps90
  go_wp2_with fail
  rw [HWX.out]
  refine (IH.out D v.kids ep wx (HV.out.at_ hbx) hnk).mono ?_
  rintro e w1 ⟨A2, c, rfl, ho, hb1⟩
  have hbw1 := below_aft hbx hb1 hbx.size
  have HO := Lib.hid ho
  have hg : w1.heap[w.heap.size]? = some (.cells #[.int .i64 v.ctor, .int .i64 v.n, .slice D v.kids.length ep] 51 (0, 0)) := (hb1.block _ (heap_lt HXB.out)).trans HXB.out
  have hr : w1.heap[w.heap.size + 1]? = some (.cells #[.int .i64 0, .int .i64 0, .slice none 0 0] 51 (0, 0)) := HXR.out.at_ hb1
  have b0 := (cell_of_blk hg 0).trans rfl
  have b1 := (cell_of_blk hg 1).trans rfl
  have b2 := (cell_of_blk hg 2).trans rfl
  have e2 := frozen_of_row w1 w.heap.size 2 _ 51 hg
  have r0 := (cell_of_blk hr 0).trans rfl
  have r1 := (cell_of_blk hr 1).trans rfl
  have r2 := (cell_of_blk hr 2).trans rfl
  have f0 := frozen_of_row w1 (w.heap.size + 1) 0 _ 51 hr
  have f1 := frozen_of_row w1 (w.heap.size + 1) 1 _ 51 hr
  have f2 := frozen_of_row w1 (w.heap.size + 1) 2 _ 51 hr
  clear ho hg hr
  go_wp2_with fail
  refine bodyPost_ret (v := .agg #[.int .i64 v.ctor, .int .i64 v.n, .slice A2 v.kids.length c]) (by simp [results, Tryz.results90, go_sem, r0, r1, r2]) rfl ⟨A2, c, rfl, ?_, ?_⟩
  · have hF : Fr (fun b => b < w.heap.size + 2) w1 ((((w1.setCell ⟨w.heap.size, 2, none⟩ (.slice A2 v.kids.length c)).setCell ⟨w.heap.size + 1, 0, none⟩ (.int .i64 v.ctor)).setCell ⟨w.heap.size + 1, 1, none⟩ (.int .i64 v.n)).setCell ⟨w.heap.size + 1, 2, none⟩ (.slice A2 v.kids.length c)) := (((Fr.set _ _ _ _ (by omega)).trans (Fr.set _ _ _ _ (by omega))).trans (Fr.set _ _ _ _ (by omega))).trans (Fr.set _ _ _ _ (by omega))
    exact (HO.out.fr _ hF (fun b hq e => by have := hq.1; omega)).wide _ (fun b hq => ⟨by have := hq.1; omega, by have h2 := hq.2; simpa [World.setCell] using h2⟩)
  · refine Below.setCell (Below.setCell (Below.setCell (Below.setCell hbw1 ?_ _) ?_ _) ?_ _) ?_ _ <;> (simp <;> omega)
set_option maxHeartbeats 4000000 in
theorem ciS_of (d : Nat) (ih : ∀ d', d = d' + 1 → CiS d') : CiS d := by
  intro A l cap w hr hn
  obtain ⟨i0, hi, hz0, hz1, hz2⟩ := info_parts infoOV
  have Hr := Lib.hid hr
  have IH := Lib.hid ih
  have HSum := Lib.hid (wVs_sum l)
  have hl : l.length ≤ 1048576 := by have := wVs_sum l; omega
  clear hr ih
  by_cases h0 : l.length = 0
  · have hl0 : l = [] := List.eq_nil_of_length_eq_zero h0
    subst hl0
    go_enter Tryz.func138, Tryz.ntmps138
    go_wp2_with fail
    go_ret
    exact ⟨none, 0, rfl, OVs.nil _ _ _ _, Below.refl _ _⟩
  have q0 : ((l.length : Int) == 0) = false := beq_eq_false_iff_ne.2 (by omega)
  clear h0
  go_enter Tryz.func138, Tryz.ntmps138
  go_wp2_with (at_make; refine wpList_make_full _ rfl _ _ 49 rfl w.heap.size 51 i0 _ 3 Tryz.underlying49 hi hz0 hz1 _ _ _ _ l.length rfl rfl rfl rfl (by rw [hz2]; omega) (by unfold maxLen; omega) (Nat.le_refl _) ?_; intro w1 hown hgr)
  go_loopw [14] (fun i wr => ∃ k : Nat, k ≤ l.length ∧ i = .int .i64 k ∧ ∃ xs Q, wr.ownsRow w.heap.size 51 3 (.slice (some ⟨w.heap.size, 0, none⟩) l.length l.length) l.length xs ∧ RowV d wr w.heap.size (some w.heap.size) Q l xs k ∧ Below w.heap.size w wr) (fun i _ => l.length - (intOf i).toNat)
  case atStart => exact ⟨0, by omega, rfl, _, fun _ _ => False, hown, RowV.zero _ _ _ _ _ _ _, below_of_grown hgr (Nat.le_refl _)⟩
  case round =>
    obtain ⟨k, hk, rfl, xs, Q, hown, hrow, hb⟩ := hrel
    clear hgr hi hz0 hz1 hz2
    by_cases hlt : k < l.length
    · have hkI : (k : Int) < (l.length : Int) := by omega
      obtain ⟨b, off, rfl, hbB, hv⟩ := (Hr.out.below hb (Nat.le_refl _)).2 k hlt
      obtain ⟨d', hd, A', cp, c0, c1, c2, hm⟩ := hv.parts
      have ha : wV l[k] ≤ 1048576 := by
        have h1 := sum_take_succ wV l k hlt
        have h2 := sum_take_le wV l (k + 1)
        have h4 := HSum.out
        omega
      obtain ⟨wb, hwb⟩ : ∃ wb, wb = wr.alloc (.cells #[.int .i64 l[k].ctor, .int .i64 l[k].n, .slice A' l[k].kids.length cp] 51) := ⟨_, rfl⟩
      have hbb : Below wr.heap.size wr wb := by rw [hwb]; exact (Below.refl _ _).alloc (Nat.le_refl _) _
      have HXB : Hid (VBx wb wr.heap.size l[k].ctor l[k].n (.slice A' l[k].kids.length cp)) := by rw [hwb]; exact ⟨by simp [go_sem], by simp [go_sem], by simp [go_sem]⟩
      have HD := Lib.hid hd
      have hwl : w.heap.size < wr.heap.size := own_lt hown
      have HCI := Lib.hid (ciV_of d' (IH.out d' hd) A' cp l[k] wb (hm.keep (fun p hp => hbb.cell (p := p) (Nat.lt_of_lt_of_le hp hb.size)) (Nat.le_trans hb.size hbb.size)) ha)
      have hownb := own_below hown hbb
      have HROW := Lib.hid hrow
      have HWB := Lib.hid hwb
      obtain ⟨u0, u1, u2⟩ := HXB.out
      clear hm hv hd hrow hwb
      go_wp2_with fail
      rw [← HWB.out]
      refine HCI.out.mono ?_
      rintro e w2 ⟨A2, c2', rfl, hf, hb2'⟩
      have hb2 := below_aft hbb hb2' hbb.size
      have hown2 := own_below hownb hb2'
      obtain ⟨v0, f0⟩ := own_cell hown2 (k * 3) (by omega)
      obtain ⟨v1, f1⟩ := own_cell hown2 (k * 3 + 1) (by omega)
      obtain ⟨v2, f2⟩ := own_cell hown2 (k * 3 + 2) (by omega)
      have g0 := hown2.frozenAt (k * 3)
      have g1 := hown2.frozenAt (k * 3 + 1)
      have g2 := hown2.frozenAt (k * 3 + 2)
      have hsb := hbb.size
      clear u0 u1 u2 c0 c1 c2
      go_wp2_with fail
      have hx := hown2.1
      have s1 := (hown2.stored (k * 3) (.int .i64 l[k].ctor)).1
      have s2 := (s1.stored (k * 3 + 1) (.int .i64 l[k].n)).1
      have s3 := (s2.stored (k * 3 + 2) (.slice A2 l[k].kids.length c2')).1
      have hf2 : OVs d w2 (Nw wr w2) A2 l[k].kids := by rw [HD.out]; exact hf.wide _ (fun b h => ⟨Nat.le_trans hsb h.1, h.2⟩)
      have hrow2 := HROW.out.more (xs' := (((xs.set (k * 3) (.int .i64 l[k].ctor)).set (k * 3 + 1) (.int .i64 l[k].n)).set (k * 3 + 2) (.slice A2 l[k].kids.length c2'))) hb2 hlt (by omega) (fun g e => by injection e with e; omega) hf2 (fun j c hj hc => by rw [List.getElem?_set_ne (by omega), List.getElem?_set_ne (by omega), List.getElem?_set_ne (by omega)]) (by rw [List.getElem?_set_ne (by omega), List.getElem?_set_ne (by omega), List.getElem?_set_self (by first | omega | (simp <;> omega))]) (by rw [List.getElem?_set_ne (by omega), List.getElem?_set_self (by first | omega | (simp <;> omega))]) (by rw [List.getElem?_set_self (by first | omega | (simp <;> omega))])
      have hrow3 := hrow2.fr (w' := (((w2.setCell ⟨w.heap.size, k * 3, none⟩ (.int .i64 l[k].ctor)).setCell ⟨w.heap.size, k * 3 + 1, none⟩ (.int .i64 l[k].n)).setCell ⟨w.heap.size, k * 3 + 2, none⟩ (.slice A2 l[k].kids.length c2'))) (P' := fun b => b = w.heap.size) (((Fr.set (P := fun b => b = w.heap.size) _ _ _ _ rfl).trans (Fr.set (P := fun b => b = w.heap.size) _ _ _ _ rfl)).trans (Fr.set (P := fun b => b = w.heap.size) _ _ _ _ rfl)) (fun b _ hb' _ e => hb' (by rw [e]))
      go_roundw
      case rel => exact ⟨k + 1, by omega, by go_num, _, _, s3, hrow3, (((hb.trans (hb2.mono hb.size)).setCell (Nat.le_refl _) _).setCell (Nat.le_refl _) _).setCell (Nat.le_refl _) _⟩
      case measure => simp [intOf]; omega
    · have hkI : (l.length : Int) ≤ (k : Int) := by omega
      go_wp2_with fail
      go_ret
      have he : k = l.length := by omega
      obtain ⟨A2, c2, e2, ho⟩ := OVs.of_row hown (he ▸ hrow) hl
      injection e2 with e3 e4 e5
      subst e3
      exact ⟨_, _, rfl, ho, hb⟩
theorem ciS_any : ∀ d, CiS d
  | 0 => ciS_of 0 (fun _ h => by omega)
  | d + 1 => ciS_of (d + 1) (fun d' h => (Nat.succ.inj h) ▸ ciS_any d)
theorem copyV_any (d : Nat) (D : Option Addr) (ep : Nat) (v : Vl) (w : World) (hv : RVs d w w.heap.size D v.kids) (hn : wV v ≤ 1048576) : Calls Tryz.prog 90 #[.agg #[.int .i64 v.ctor, .int .i64 v.n, .slice D v.kids.length ep]] w (CpQ d v w) := ciV_of d (ciS_any d) D ep v w hv hn
end Go.Proofs.YthecfkdilbfimaaGreat
