/-
  One node of a list in BarePattern. No statement is proved here.
-/
import Derived.Test.YtbdiahnelnbdnaaW04
import Derived.Test.YtbdiahnelnbdnaaW00
import Derived.Test.YtbdiahnelnbdnaaW01
namespace Go.Proofs.Ytbdiahnelnbdnaa
open Go.RowKit
set_option maxRecDepth 100000
set_option linter.unusedVariables false
theorem drop_wP (qs : List Pt) (k : Nat) (h : k < qs.length) : ((qs.drop k).map (fun q => wPs q.kids)).sum = wPs qs[k].kids + ((qs.drop (k + 1)).map (fun q => wPs q.kids)).sum := by rw [List.drop_eq_getElem_cons h, List.map_cons, List.sum_cons]
theorem take_wP (qs : List Pt) (k : Nat) (h : k < qs.length) : ((qs.take (k + 1)).map (fun q => wPs q.kids)).sum = ((qs.take k).map (fun q => wPs q.kids)).sum + wPs qs[k].kids := by rw [← List.take_append_getElem h, List.map_append, List.sum_append]; simp
theorem Jt.In.lt {o : Nat} {wr : World} {x : Jt} (h : x.In o wr) : x.it.g < wr.heap.size := by
  obtain ⟨⟨xs, h1, _⟩, _⟩ := h
  obtain ⟨_, _, ev, hl⟩ := own_form h1
  exact (hl x.it.g rfl).2
theorem MapKv.lt {w : World} {b : Nat} {S : List Kv} (h : MapKv w b S) : b < w.heap.size := by obtain ⟨_, _, h1, _⟩ := h; exact heap_lt h1
theorem BwC.skip {o bm g0 D M : Nat} {p : Pt} {u : Value} {N : Nat} {x : Jt} {k : Nat} {V0 V1 : List Jt} {gc : Nat → Nat} {S : List Kv} {F : Nat → Prop} {w0 wr w' : World} {xs : List Value} (h : BwC o bm g0 D M p u N x k V0 V1 gc S F w0 wr) (hk : k < x.qs.length) (h0 : ¬ 0 < x.qs[k].kids.length)
    (hf : Fr (fun b => b = x.it.g) wr w') (hX : RowX wr x gc xs k) (hx : w'.ownsRow o 28 6 x.v x.it.l.length (xs.set (k * 6 + 5) (.slice none 0 0))) : BwC o bm g0 D M p u N x (k + 1) V0 V1 gc S F w0 w' := by
  obtain ⟨hql, hbq, hxs⟩ := hX
  have hk' : k < x.it.l.length := by omega
  obtain ⟨_, _, _, hob⟩ := own_form h.row
  have hwk : wPs x.qs[k].kids = 0 := by rw [List.length_eq_zero_iff.1 (show x.qs[k].kids.length = 0 by omega)]; rfl
  have hkx : xs.length = x.it.l.length * 6 := by have := hx.1; rwa [List.length_set] at this
  refine ⟨h.below.trans (hf.to (Nat.le_of_lt (Nat.lt_of_le_of_lt h.bmi.1 h.map.lt)) (fun b hb e => by have := h.xg.1; have e : b = x.it.g := e; omega)), h.map.keep (hf.2.2.2.2 _ h.map.lt (fun e => h.xg.2.1 e.symm)), fun key hkey => ?_, own_at h.row (fun b e => hf.2.2.2.2 b (hob b e).2 (fun e' => h.xg.2.2.1 (by rw [← e']; exact e))), fun y hy => ?_, h.apart, fun y hy j hj hj' => h.later y hy j (by omega) hj', h.sets, h.bmi, fun b hb => ⟨(h.fin b hb).1, Nat.lt_of_lt_of_le (h.fin b hb).2.1 hf.size, (h.fin b hb).2.2⟩, h.xg, h.comp.keep (fun b hb => hf.2.2.2.2 b (h.fin b hb).2.1 (fun e => h.xg.2.2.2 (by have e : b = x.it.g := e; rw [← e]; exact hb))), ⟨_, hx, ⟨hql, hbq, fun j hj => ?_⟩⟩, fun j hj hjk h0' => ?_, fun i j hi hj hik hjk h0' h0'' e => ?_, fun j hj hjk h0' => ?_, ?_, ?_⟩
  · obtain ⟨a1, g, a2, a3, a4, a5⟩ := h.keys key hkey
    refine ⟨fun y hy => ?_, g, a2, a3, a4, fun j hj hj' => a5 j (by omega) hj'⟩
    obtain ⟨c, t, e1⟩ := a1 y hy
    exact ⟨c, t, hf.block e1 (fun e => by rw [a2] at hy; cases hy; have := h.xg.1; have e : g = x.it.g := e; omega)⟩
  · obtain ⟨a1, a2, a3, a4, a5, a6⟩ := h.items y hy
    exact ⟨a1.keep hf (fun b e => by have e : b = x.it.g := e; rw [e]; exact h.xg.1) a6, a2, a3, a4, a5, a6⟩
  · obtain ⟨e0, e1, e2, e3, e4, A, c, e5, hA, hO⟩ := hxs j hj
    by_cases e : j = k
    · subst e
      refine ⟨by rw [List.getElem?_set_ne (by omega)]; exact e0, by rw [List.getElem?_set_ne (by omega)]; exact e1, by rw [List.getElem?_set_ne (by omega)]; exact e2, by rw [List.getElem?_set_ne (by omega)]; exact e3, by rw [List.getElem?_set_ne (by omega)]; exact e4, none, 0, ?_, fun _ h1 => absurd h1 h0, fun h1 => absurd h1 (by omega)⟩
      rw [List.getElem?_set_self (by omega), show x.qs[j].kids.length = 0 by omega]
    · refine ⟨by rw [List.getElem?_set_ne (by omega)]; exact e0, by rw [List.getElem?_set_ne (by omega)]; exact e1, by rw [List.getElem?_set_ne (by omega)]; exact e2, by rw [List.getElem?_set_ne (by omega)]; exact e3, by rw [List.getElem?_set_ne (by omega)]; exact e4, A, c, by rw [List.getElem?_set_ne (by omega)]; exact e5, fun h1 => hA (by omega), fun h1 => (hO (by omega)).fr _ hf (fun b hb e' => ?_)⟩
      have h1 := h.sets.2.1 b (h.sets.1 j b (by omega) hb).1
      have h2 := h.xg.1
      have e' : b = x.it.g := e'
      omega
  · exact h.kids j hj (by by_cases e : j = k; subst e; exact absurd h0' h0; omega) h0'
  · exact h.inj i j hi hj (by by_cases e : i = k; subst e; exact absurd h0' h0; omega) (by by_cases e : j = k; subst e; exact absurd h0'' h0; omega) h0' h0'' e
  · exact h.new j hj (by by_cases e : j = k; subst e; exact absurd h0' h0; omega) h0'
  · have := h.weight; rw [drop_wP x.qs k hk] at this; omega
  · have := h.small; rw [take_wP x.qs k hk]; omega
theorem BwC.push {o bm g0 D M : Nat} {p : Pt} {u u' : Value} {N : Nat} {x c : Jt} {k gE nk cp : Nat} {V0 V1 : List Jt} {gc : Nat → Nat} {S : List Kv} {F : Nat → Prop} {w0 wr w' : World} {xs : List Value} (h : BwC o bm g0 D M p u N x k V0 V1 gc S F w0 wr) (hk : k < x.qs.length) (h0 : 0 < x.qs[k].kids.length)
    (hf : Fr (fun b => b = bm ∨ u.ownBlock = some b ∨ b = x.it.g) wr w') (hm : MapKv w' bm (S ++ [Kv.mk (some ⟨gE, 0, none⟩) nk])) (hgE : x.Q k gE) (hlE : LiesKv w' (Kv.mk (some ⟨gE, 0, none⟩) nk))
    (hc : c.In o w') (hcg : wr.heap.size ≤ c.it.g) (hcl : c.it.l = x.qs[k].kids) (hcd : c.it.d + 1 = x.it.d) (hcP : ∀ b, c.P b → x.Q k b ∧ b ≠ gE) (hcK : c.K + x.qs[k].kids.length ≤ wPs x.qs[k].kids)
    (hrow : w'.ownsRow o 26 1 u' ((V0 ++ V1).length + 1) ((V0 ++ V1).map Jt.v ++ [c.v])) (hat : u'.ownBlock = u.ownBlock ∨ ∃ nb, u'.ownBlock = some nb ∧ wr.heap.size ≤ nb ∧ nb ≠ c.it.g)
    (hX : RowX wr x gc xs k) (hx : w'.ownsRow o 28 6 x.v x.it.l.length (xs.set (k * 6 + 5) (.slice (some ⟨c.it.g, 0, none⟩) x.qs[k].kids.length cp))) : BwC o bm g0 D M p u' (N + x.qs[k].kids.length) x (k + 1) V0 (V1 ++ [c]) (fun j => if j = k then c.it.g else gc j) (S ++ [Kv.mk (some ⟨gE, 0, none⟩) nk]) F w0 w' := by
  obtain ⟨hql, hbq, hxs⟩ := hX
  have hk' : k < x.it.l.length := by omega
  obtain ⟨_, _, _, hob⟩ := own_form h.row
  have hkx : xs.length = x.it.l.length * 6 := by have := hx.1; rwa [List.length_set] at this
  have hP : ∀ b, (b = bm ∨ u.ownBlock = some b ∨ b = x.it.g) → o ≤ b := fun b hb => by
    rcases hb with e | e | e
    · rw [e]; exact h.bmi.1
    · exact (hob b e).1
    · rw [e]; exact h.xg.1
  have hu' : ∀ b, b < wr.heap.size → u.ownBlock ≠ some b → u'.ownBlock ≠ some b := fun b hb hne e => by
    rcases hat with h1 | ⟨nb, h1, h2, _⟩
    · rw [h1] at e; exact hne e
    · rw [h1] at e; injection e with e; omega
  have hxlt : x.it.g < wr.heap.size := by
    obtain ⟨xs0, r1, _⟩ := h.xrow
    obtain ⟨_, _, ev, hl⟩ := own_form r1
    exact (hl x.it.g rfl).2
  have hgo : gE < o := h.sets.2.1 gE (h.sets.1 k gE hk' hgE).1
  have hmem : ∀ y, y ∈ V0 ++ (V1 ++ [c]) → y ∈ V0 ++ V1 ∨ y = c := fun y hy => by
    rw [← List.append_assoc] at hy
    rcases List.mem_append.1 hy with hy | hy
    · exact .inl hy
    · exact .inr (List.mem_singleton.1 hy)
  have hlt : ∀ y ∈ V0 ++ V1, y.it.g < wr.heap.size := fun y hy => (h.items y hy).1.lt
  have hows : c.v = .slice (some ⟨c.it.g, 0, none⟩) x.qs[k].kids.length x.qs[k].kids.length := by unfold Jt.v; rw [hcl]
  refine ⟨h.below.trans (hf.to (Nat.le_of_lt (Nat.lt_of_le_of_lt h.bmi.1 h.map.lt)) (fun b hb e => by have := hP b e; omega)), hm, fun key hkey => ?_, by rw [← List.append_assoc, List.length_append, List.map_append]; exact hrow, fun y hy => ?_, ?_, fun y hy j hj hj' b hb hq => ?_, h.sets, ⟨h.bmi.1, hu' _ h.map.lt h.bmi.2.1, h.bmi.2.2⟩, fun b hb => ⟨(h.fin b hb).1, Nat.lt_of_lt_of_le (h.fin b hb).2.1 hf.size, hu' _ (h.fin b hb).2.1 (h.fin b hb).2.2⟩, ⟨h.xg.1, h.xg.2.1, hu' _ hxlt h.xg.2.2.1, h.xg.2.2.2⟩, h.comp.keep (fun b hb => hf.2.2.2.2 b (h.fin b hb).2.1 (fun e => ?_)), ⟨_, hx, ⟨hql, hbq, fun j hj => ?_⟩⟩, fun j hj hjk h0' => ?_, fun i j hi hj hik hjk h0' h0'' e => ?_, fun j hj hjk h0' y hy => ?_, ?_, ?_⟩
  · rcases List.mem_append.1 hkey with hkey | hkey
    · obtain ⟨a1, g, a2, a3, a4, a5⟩ := h.keys key hkey
      refine ⟨fun y hy => ?_, g, a2, a3, fun y hy => ?_, fun j hj hj' => a5 j (by omega) hj'⟩
      · obtain ⟨c', t, e1⟩ := a1 y hy
        exact ⟨c', t, hf.block e1 (fun e => by rw [a2] at hy; cases hy; have := hP g e; omega)⟩
      · rcases hmem y hy with hy | rfl
        · exact a4 y hy
        · exact fun e => a5 k (Nat.le_refl _) hk' (hcP g e).1
    · rw [List.mem_singleton.1 hkey]
      refine ⟨hlE, gE, rfl, hgo, fun y hy => ?_, fun j hj hj' hq => (h.sets.1 k gE hk' hgE).2 j hj' (by omega) hq⟩
      rcases hmem y hy with hy | rfl
      · exact fun e => h.later y hy k (Nat.le_refl _) hk' gE e hgE
      · exact fun e => (hcP gE e).2 rfl
  · rcases hmem y hy with hy | rfl
    · obtain ⟨a1, a2, a3, a4, a5, a6⟩ := h.items y hy
      exact ⟨a1.keep hf hP (fun e => by rcases e with e | e | e; exact a3 e; exact a4 e; exact a6 e), a2, a3, hu' _ (hlt y hy) a4, a5, a6⟩
    · refine ⟨hc, by have := h.map.lt; have := h.bmi.1; omega, by have := h.map.lt; omega, fun e => ?_, fun e => by have := (h.fin _ e).2.1; omega, by omega⟩
      rcases hat with h1 | ⟨nb, h1, h2, h3⟩
      · rw [h1] at e; have := (hob _ e).2; omega
      · rw [h1] at e; injection e with e; exact h3 e
  · rw [← List.append_assoc]
    refine List.pairwise_append.2 ⟨h.apart, List.pairwise_singleton _ _, fun y hy z hz => ?_⟩
    rw [List.mem_singleton.1 hz]
    exact ⟨by have := hlt y hy; omega, fun b hb hb' => h.later y hy k (Nat.le_refl _) hk' b hb (hcP b hb').1⟩
  · rcases hmem y hy with hy | rfl
    · exact h.later y hy j (by omega) hj' b hb hq
    · exact (h.sets.1 k b hk' (hcP b hb).1).2 j hj' (by omega) hq
  · rcases e with e | e | e
    · rw [e] at hb; exact h.bmi.2.2 hb
    · exact (h.fin b hb).2.2 e
    · rw [e] at hb; exact h.xg.2.2.2 hb
  · obtain ⟨e0, e1, e2, e3, e4, A, c', e5, hA, hO⟩ := hxs j hj
    by_cases e : j = k
    · subst e
      refine ⟨by rw [List.getElem?_set_ne (by omega)]; exact e0, by rw [List.getElem?_set_ne (by omega)]; exact e1, by rw [List.getElem?_set_ne (by omega)]; exact e2, by rw [List.getElem?_set_ne (by omega)]; exact e3, by rw [List.getElem?_set_ne (by omega)]; exact e4, _, _, List.getElem?_set_self (by omega), fun _ _ => by simp, fun h1 => absurd h1 (by omega)⟩
    · refine ⟨by rw [List.getElem?_set_ne (by omega)]; exact e0, by rw [List.getElem?_set_ne (by omega)]; exact e1, by rw [List.getElem?_set_ne (by omega)]; exact e2, by rw [List.getElem?_set_ne (by omega)]; exact e3, by rw [List.getElem?_set_ne (by omega)]; exact e4, A, c', by rw [List.getElem?_set_ne (by omega)]; exact e5, fun h1 h2 => by have := hA (by omega) h2; simpa [e] using this, fun h1 => (hO (by omega)).fr _ hf (fun b hb e' => ?_)⟩
      have h1 := h.sets.2.1 b (h.sets.1 j b (by omega) hb).1
      have h2 := hP b e'
      omega
  · by_cases e : j = k
    · subst e
      exact ⟨c, List.mem_append.2 (.inr (List.mem_singleton.2 rfl)), by rw [if_pos rfl], hcl, hcd⟩
    · obtain ⟨y, hy, r⟩ := h.kids j hj (by omega) h0'
      exact ⟨y, List.mem_append.2 (.inl hy), by rw [if_neg e]; exact r⟩
  · have hlow : ∀ j (hj : j < x.qs.length), j < k → 0 < x.qs[j].kids.length → gc j < wr.heap.size := fun j hj hjk h1 => by
      obtain ⟨y, hy, r, _⟩ := h.kids j hj hjk h1
      rw [← r]; exact hlt y (List.mem_append.2 (.inr hy))
    by_cases ei : i = k <;> by_cases ej : j = k
    · omega
    · rw [if_pos ei, if_neg ej] at e
      have := hlow j hj (by omega) h0''; omega
    · rw [if_neg ei, if_pos ej] at e
      have := hlow i hi (by omega) h0'; omega
    · rw [if_neg ei, if_neg ej] at e
      exact h.inj i j hi hj (by omega) (by omega) h0' h0'' e
  · by_cases e : j = k
    · rw [if_pos e]; have := hlt y (List.mem_append.2 (.inl hy)); omega
    · rw [if_neg e]; exact h.new j hj (by omega) h0' y hy
  · have := h.weight
    rw [drop_wP x.qs k hk] at this
    rw [List.map_append, List.sum_append]
    have : ([c].map Jt.K).sum = c.K := by simp
    omega
  · have := h.small
    rw [take_wP x.qs k hk, List.map_append, List.sum_append]
    have : ([c].map (fun y => 1 + y.K)).sum = 1 + c.K := by simp
    omega
end Go.Proofs.Ytbdiahnelnbdnaa
/-
  The functions that count how much Pt trees hold. No statement is proved here.
-/
namespace Go.Proofs.Ytbdiahnelnbdnaa
open Go.RowKit
set_option maxRecDepth 100000
set_option linter.unusedVariables false
def SzP (d : Nat) : Prop := ∀ (A : Option Addr) (l : List Pt) (cap : Nat) (q : Int) (w : World), RPs d w w.heap.size A l → 0 ≤ q → q ≤ 1048576 →
  Calls Try.prog 11 #[.slice A l.length cap, .int .i64 q] w fun e w' => e = .returned (.int .i64 (left q (wPs l))) ∧ Below w.heap.size w w'
theorem szP_of {d : Nat} (ih : SzP d) (A : Option Addr) (l : List Pt) (cap : Nat) (x0 x1 x2 x3 x4 q : Int) (w : World) (hr : RPs d w w.heap.size A l) (h0 : 0 ≤ q) (h1 : q ≤ 1048576) :
    Calls Try.prog 4 #[.agg #[.int .i64 x0, .int .i64 x1, .int .i64 x2, .int .i64 x3, .int .i64 x4, .slice A l.length cap], .int .i64 q] w fun e w' => e = .returned (.int .i64 (left q (wPs l))) ∧ Below w.heap.size w w' := by
  have Hr := Lib.hid hr
  have IH := Lib.hid ih
  clear hr ih
  by_cases hc2 : (wPs l : Int) ≤ q
  · have H2 := Lib.hid (left_ok hc2)
    go_enter Try.func4, Try.ntmps4
    go_wp2_with (go_at_call 11; refine (IH.out _ _ _ _ _ (by exact Hr.out.keep (fun p hp => World.cell?_alloc_lt _ _ _ hp) (by simp)) h0 h1).mono ?_; rw [H2.out]; rintro e w' ⟨rfl, hb⟩)
    go_ret
    exact ⟨ret_i64 (by rw [H2.out]), ((Below.refl _ _).alloc (Nat.le_refl _) _).trans (hb.mono (by simp))⟩
  · have H2 := Lib.hid (left_no hc2)
    go_enter Try.func4, Try.ntmps4
    go_wp2_with (go_at_call 11; refine (IH.out _ _ _ _ _ (by exact Hr.out.keep (fun p hp => World.cell?_alloc_lt _ _ _ hp) (by simp)) h0 h1).mono ?_; rw [H2.out]; rintro e w' ⟨rfl, hb⟩)
    go_ret
    exact ⟨ret_i64 (by rw [H2.out]), ((Below.refl _ _).alloc (Nat.le_refl _) _).trans (hb.mono (by simp))⟩
set_option maxHeartbeats 800000 in
theorem szPs_of (d : Nat) (ih : ∀ d', d = d' + 1 → SzP d') : SzP d := by
  intro A l cap q0 w hr h0 h1
  have hn := hr.1
  unfold maxLen at hn
  have Hr := Lib.hid hr
  have IH := Lib.hid ih
  have HSum := Lib.hid (wPs_sum l)
  clear hr ih
  by_cases hc : (l.length : Int) ≤ q0
  · go_enter Try.func11, Try.ntmps11
    go_wp2_with fail
    go_loopw [1, 5] (fun t i wr => ∃ k : Nat, k ≤ l.length ∧ i = .int .i64 k ∧ ∃ q : Int, 0 ≤ q ∧ q ≤ 1048576 ∧ t = .int .i64 q ∧ Hid (q = q0 - (l.length + ((l.take k).map wP).sum : Nat)) ∧ Below w.heap.size w wr) (fun _ i _ => l.length - (intOf i).toNat)
    case atStart => exact ⟨0, by omega, rfl, _, by omega, by omega, rfl, by unfold Hid; simp, Below.refl _ _⟩
    case round =>
      obtain ⟨k, hk, rfl, q, hq0, hq1, rfl, HQ, hb⟩ := hrel
      by_cases hlt : k < l.length
      · obtain ⟨b, off, rfl, hbB, hv⟩ := (Hr.out.below hb (Nat.le_refl _)).2 k hlt
        obtain ⟨d', hd, A', cp, c0, c1, c2, c3, c4, c5, hm⟩ := hv.parts
        have HS := Lib.hid (sum_take_succ wP l k hlt)
        have HL := Lib.hid (sum_take_le wP l (k + 1))
        have HW := Lib.hid (wP_kids l[k])
        have Hm := Lib.hid (hm.keep (fun _ _ => rfl) hb.size)
        have IHd := Lib.hid (IH.out d' hd)
        clear hm hv hd
        by_cases hc2 : (wPs l[k].kids : Int) ≤ q
        · have H2 := Lib.hid (left_ok hc2)
          go_wp2_with (go_at_call 4; refine (szP_of IHd.out _ _ _ _ _ _ _ _ _ _ Hm.out (by omega) (by omega)).mono ?_; rw [H2.out]; rintro e w' ⟨rfl, hb'⟩)
          have hb2 := hb.trans (hb'.mono hb.size)
          go_roundw
          case rel => exact ⟨k + 1, by omega, by go_num, _, by omega, by omega, rfl, by unfold Hid; rw [HS.out, HW.out, HQ.out]; omega, hb2⟩
          case measure => simp [intOf]; omega
        · have H2 := Lib.hid (left_no hc2)
          have H := Lib.hid (left_no (l := q0) (n := wPs l) (by rw [HSum.out]; rw [HQ.out] at hc2; rw [HS.out, HW.out] at HL; have := HL.out; omega))
          go_wp2_with (go_at_call 4; refine (szP_of IHd.out _ _ _ _ _ _ _ _ _ _ Hm.out (by omega) (by omega)).mono ?_; rw [H2.out]; rintro e w' ⟨rfl, hb'⟩)
          have hb2 := hb.trans (hb'.mono hb.size)
          go_ret
          exact ⟨ret_i64 (by rw [H.out]), hb2⟩
      · go_wp2_with fail
        go_ret
        refine ⟨ret_i64 ?_, hb⟩
        have h2 := HQ.out
        rw [List.take_of_length_le (by omega), ← HSum.out] at h2
        rw [left_ok (by omega)]
        exact h2
  · have H := Lib.hid (left_no (l := q0) (n := wPs l) (by rw [HSum.out]; omega))
    go_enter Try.func11, Try.ntmps11
    go_wp2_with fail
    go_ret
    exact ⟨ret_i64 (by rw [H.out]), Below.refl _ _⟩
theorem szPs_any : ∀ d, SzP d
  | 0 => szPs_of 0 (fun _ h => by omega)
  | d + 1 => szPs_of (d + 1) (fun d' h => (Nat.succ.inj h) ▸ szPs_any d)
theorem szP_any (d : Nat) (A : Option Addr) (l : List Pt) (cap : Nat) (x0 x1 x2 x3 x4 q : Int) (w : World) (hr : RPs d w w.heap.size A l) (h0 : 0 ≤ q) (h1 : q ≤ 1048576) :
    Calls Try.prog 4 #[.agg #[.int .i64 x0, .int .i64 x1, .int .i64 x2, .int .i64 x3, .int .i64 x4, .slice A l.length cap], .int .i64 q] w fun e w' => e = .returned (.int .i64 (left q (wPs l))) ∧ Below w.heap.size w w' := szP_of (szPs_any d) A l cap x0 x1 x2 x3 x4 q w hr h0 h1
end Go.Proofs.Ytbdiahnelnbdnaa
/-
  The functions that compare Pt trees, where both sides read as the same. No statement is proved here.
-/
namespace Go.Proofs.Ytbdiahnelnbdnaa
open Go.RowKit Go.Sort
set_option maxRecDepth 100000
set_option linter.unusedVariables false
def EqP (d : Nat) : Prop := ∀ (A A' : Option Addr) (l : List Pt) (cap cap' : Nat) (w : World), RPs d w w.heap.size A l → RPs d w w.heap.size A' l →
  Calls Try.prog 16 #[.slice A l.length cap, .slice A' l.length cap'] w fun e w' => e = .returned (.bool true) ∧ Below w.heap.size w w'
theorem eqP_of {d : Nat} (ih : EqP d) (A A' : Option Addr) (l : List Pt) (cap cap' : Nat) (x0 x1 x2 x3 x4 : Int) (w : World) (hr : RPs d w w.heap.size A l) (hr' : RPs d w w.heap.size A' l) :
    Calls Try.prog 8 #[.agg #[.int .i64 x0, .int .i64 x1, .int .i64 x2, .int .i64 x3, .int .i64 x4, .slice A l.length cap], .agg #[.int .i64 x0, .int .i64 x1, .int .i64 x2, .int .i64 x3, .int .i64 x4, .slice A' l.length cap']] w fun e w' => e = .returned (.bool true) ∧ Below w.heap.size w w' := by
  have Hr := Lib.hid hr
  have Hr' := Lib.hid hr'
  have IH := Lib.hid ih
  clear hr hr' ih
  go_enter Try.func8, Try.ntmps8
  go_wp2_with (go_at_call 16; refine (IH.out _ _ _ _ _ _ (by exact Hr.out.keep (keep_two _ _) (by simp; omega)) (by exact Hr'.out.keep (keep_two _ _) (by simp; omega))).mono ?_; rintro e w1 ⟨rfl, hb⟩; obtain ⟨hc, hfz⟩ := bcell hb)
  go_ret
  exact ⟨rfl, below_two hb⟩
set_option maxHeartbeats 1600000 in
theorem eqPs_of (d : Nat) (ih : ∀ d', d = d' + 1 → EqP d') : EqP d := by
  intro A A' l cap cap' w hr hr'
  have hn := hr.1
  unfold maxLen at hn
  have Hr := Lib.hid hr
  have Hr' := Lib.hid hr'
  have IH := Lib.hid ih
  clear hr hr' ih
  go_enter Try.func16, Try.ntmps16
  go_wp2_with fail
  go_loopw [5] (fun i wr => ∃ k : Nat, k ≤ l.length ∧ i = .int .i64 k ∧ Below w.heap.size w wr) (fun i _ => l.length - (intOf i).toNat)
  case atStart => exact ⟨0, by omega, rfl, Below.refl _ _⟩
  case round =>
    obtain ⟨k, hk, rfl, hb⟩ := hrel
    by_cases hlt : k < l.length
    · obtain ⟨b, off, rfl, hbB, hv⟩ := (Hr.out.below hb (Nat.le_refl _)).2 k hlt
      obtain ⟨d', hd, B1, cp, c0, c1, c2, c3, c4, c5, hm⟩ := hv.parts
      obtain ⟨b', off', rfl, hbB', hv'⟩ := (Hr'.out.below hb (Nat.le_refl _)).2 k hlt
      obtain ⟨d'', hd', B2, cp', c0', c1', c2', c3', c4', c5', hm'⟩ := hv'.parts
      obtain rfl : d'' = d' := by omega
      have d0 := cell_regrown c0
      have d1 := cell_regrown c1
      have d2 := cell_regrown c2
      have d3 := cell_regrown c3
      have d4 := cell_regrown c4
      have d5 := cell_regrown c5
      have d0' := cell_regrown c0'
      have d1' := cell_regrown c1'
      have d2' := cell_regrown c2'
      have d3' := cell_regrown c3'
      have d4' := cell_regrown c4'
      have d5' := cell_regrown c5'
      have Hm := Lib.hid hm
      have Hm' := Lib.hid hm'
      have IHd := Lib.hid (IH.out d'' hd)
      clear c0 c1 c2 c3 c4 c5 c0' c1' c2' c3' c4' c5' hm hm' hv hv' hd hd'
      have hi : (k : Int) < (l.length : Int) := by omega
      go_wp2_with fail
      refine wp_region_quiet_below (by kernel_rfl) (by kernel_rfl) ?_
      repeat (quiet_step (exact Calls.regrown_of (eqP_of IHd.out _ _ _ _ _ _ _ _ _ _ _ (Hm.out.keep (fun p hp => (below_regrown wr _ _).cell (Nat.lt_of_lt_of_le hp hb.size)) (Nat.le_trans hb.size (below_regrown wr _ _).size)) (Hm'.out.keep (fun p hp => (below_regrown wr _ _).cell (Nat.lt_of_lt_of_le hp hb.size)) (Nat.le_trans hb.size (below_regrown wr _ _).size)))))
      refine wpQuiet_nil ?_
      intro _ hw'
      obtain ⟨⟨dq, osq⟩, hw''⟩ := hw'
      subst hw''
      have hb2 := hb.trans ((below_regrown wr dq osq).mono hb.size)
      clear d0 d1 d2 d3 d4 d5 d0' d1' d2' d3' d4' d5'
      go_wp2_with fail
      go_roundw
      case rel => exact ⟨k + 1, by omega, by go_num, hb2⟩
      case measure => simp [intOf]; omega
    · go_wp2_with fail
      go_ret
      exact ⟨rfl, hb⟩
theorem eqPs_any : ∀ d, EqP d
  | 0 => eqPs_of 0 (fun _ h => by omega)
  | d + 1 => eqPs_of (d + 1) (fun d' h => (Nat.succ.inj h) ▸ eqPs_any d)
theorem eqP_same (d : Nat) (A A' : Option Addr) (l : List Pt) (cap cap' : Nat) (x0 x1 x2 x3 x4 : Int) (w : World) (hr : RPs d w w.heap.size A l) (hr' : RPs d w w.heap.size A' l) :
    Calls Try.prog 8 #[.agg #[.int .i64 x0, .int .i64 x1, .int .i64 x2, .int .i64 x3, .int .i64 x4, .slice A l.length cap], .agg #[.int .i64 x0, .int .i64 x1, .int .i64 x2, .int .i64 x3, .int .i64 x4, .slice A' l.length cap']] w fun e w' => e = .returned (.bool true) ∧ Below w.heap.size w w' := eqP_of (eqPs_any d) A A' l cap cap' x0 x1 x2 x3 x4 w hr hr'
end Go.Proofs.Ytbdiahnelnbdnaa
/-
  Pt trees that are marked where they lie, and looked at again. No statement is proved here.
-/
namespace Go.Proofs.Ytbdiahnelnbdnaa
open Go.RowKit
set_option maxRecDepth 100000
set_option linter.unusedVariables false
mutual
/-- The tree that marking leaves. -/
def numP : Int → Pt → Pt | k, .mk _ _ _ _ _ ks => .mk k (k + 1) (k + 2) (k + 3) (k + 4) (numPs (k + 5) ks)
def numPs : Int → List Pt → List Pt | _, [] => [] | k, v :: vs => numP k v :: numPs (k + 5 * ((1 + wP v : Nat) : Int)) vs
end
theorem numP_kids (k : Int) (v : Pt) : (numP k v).kids = numPs (k + 5) v.kids := by cases v; rw [numP]; rfl
theorem numP_op (k : Int) (v : Pt) : (numP k v).op = k := by cases v; rw [numP]; rfl
theorem numP_ctor (k : Int) (v : Pt) : (numP k v).ctor = k + 1 := by cases v; rw [numP]; rfl
theorem numP_n (k : Int) (v : Pt) : (numP k v).n = k + 2 := by cases v; rw [numP]; rfl
theorem numP_m (k : Int) (v : Pt) : (numP k v).m = k + 3 := by cases v; rw [numP]; rfl
theorem numP_var (k : Int) (v : Pt) : (numP k v).var = k + 4 := by cases v; rw [numP]; rfl
theorem numPs_len : ∀ (k : Int) (l : List Pt), (numPs k l).length = l.length
  | _, [] => by rw [numPs]
  | k, v :: vs => by rw [numPs, List.length_cons, numPs_len, List.length_cons]
theorem numPs_at : ∀ (k : Int) (l : List Pt) (j : Nat) (h : j < (numPs k l).length) (h' : j < l.length), (numPs k l)[j] = numP (k + 5 * ((j + ((l.take j).map wP).sum : Nat) : Int)) l[j]
  | _, [], j, _, h' => absurd h' (Nat.not_lt_zero _)
  | k, v :: vs, 0, h, h' => by
    simp only [numPs, List.getElem_cons_zero, List.take_zero, List.map_nil, List.sum_nil]
    congr 1
    omega
  | k, v :: vs, j + 1, h, h' => by
    have h2 : j < (numPs (k + 5 * ((1 + wP v : Nat) : Int)) vs).length := by rw [numPs_len]; simpa using h'
    simp only [numPs, List.getElem_cons_succ]
    rw [numPs_at _ vs j h2 (by simpa using h')]
    congr 1
    simp only [List.take_succ_cons, List.map_cons, List.sum_cons]
    omega
/-- Marked up to the element j. -/
def HalfP (d : Nat) (P : Nat → Prop) (A : Option Addr) (l : List Pt) (k : Int) (j : Nat) (w wr : World) : Prop := Fr P w wr ∧ ∃ m : List Pt, m.length = l.length ∧ (∀ i (h : i < m.length) (h' : i < (numPs k l).length), i < j → m[i] = (numPs k l)[i]) ∧ (∀ i (h : i < m.length) (h' : i < l.length), j ≤ i → m[i] = l[i]) ∧ OPs (d + 1) wr P A m
theorem HalfP.zero {d : Nat} {P : Nat → Prop} {A : Option Addr} {l : List Pt} {k : Int} {w : World} (h : OPs (d + 1) w P A l) : HalfP d P A l k 0 w w := ⟨Fr.refl _ _, l, rfl, fun _ _ _ h => absurd h (Nat.not_lt_zero _), fun _ _ _ _ => rfl, h⟩
theorem HalfP.all {d : Nat} {P : Nat → Prop} {A : Option Addr} {l : List Pt} {k : Int} {j : Nat} {w wr : World} (h : HalfP d P A l k j w wr) (hj : l.length ≤ j) : OPs (d + 1) wr P A (numPs k l) := by
  obtain ⟨_, m, hm, h1, _, h3⟩ := h
  have e : m = numPs k l := List.ext_getElem (by rw [hm, numPs_len]) (fun i a b => h1 i a b (by omega))
  rw [← e]; exact h3
theorem HalfP.at_ {d : Nat} {P : Nat → Prop} {A : Option Addr} {l : List Pt} {k S : Int} {j : Nat} {w wr : World} (h : HalfP d P A l k j w wr) (hj : j < l.length) (hS : S = 5 * ((j + ((l.take j).map wP).sum : Nat) : Int)) :
    ∃ (g : Nat) (cs : Array Value) (Q : Nat → Prop) (A' : Option Addr) (cap : Nat), A = some ⟨g, 0, none⟩ ∧ wr.heap[g]? = some (.cells cs 28 (0, 0)) ∧ cs[j * 6]? = some (.int .i64 l[j].op) ∧ cs[j * 6 + 1]? = some (.int .i64 l[j].ctor) ∧ cs[j * 6 + 2]? = some (.int .i64 l[j].n) ∧ cs[j * 6 + 3]? = some (.int .i64 l[j].m) ∧ cs[j * 6 + 4]? = some (.int .i64 l[j].var) ∧ cs[j * 6 + 5]? = some (.slice A' l[j].kids.length cap) ∧ OPs d wr Q A' l[j].kids ∧ ¬ Q g ∧
      ∀ (w3 : World) (cs3 : Array Value), w3.heap[g]? = some (.cells cs3 28 (0, 0)) → (∀ i c, i ≠ j → c < 6 → cs3[i * 6 + c]? = cs[i * 6 + c]?) → cs3[j * 6]? = some (.int .i64 (k + S)) → cs3[j * 6 + 1]? = some (.int .i64 (k + S + 1)) → cs3[j * 6 + 2]? = some (.int .i64 (k + S + 2)) → cs3[j * 6 + 3]? = some (.int .i64 (k + S + 3)) → cs3[j * 6 + 4]? = some (.int .i64 (k + S + 4)) → cs3[j * 6 + 5]? = some (.slice A' l[j].kids.length cap) → OPs d w3 Q A' (numPs (k + S + 5) l[j].kids) → Fr (fun b => Q b ∨ b = g) wr w3 → HalfP d P A l k (j + 1) w w3 := by
  obtain ⟨hf, m, hm, h1, h2, h3⟩ := h
  obtain ⟨hl, hp⟩ := h3
  obtain ⟨g, cs, Q, rfl, hg, hh, hq, hc⟩ := hp (by omega)
  have hc' := hc
  obtain ⟨A', cap, e0, e1, e2, e3, e4, e8, e9⟩ := hc j (by omega)
  have hmj : m[j]'(by omega) = l[j] := h2 j (by omega) hj (Nat.le_refl _)
  simp only [hmj] at e0 e1 e2 e3 e4 e8 e9
  refine ⟨g, cs, Q j, A', cap, rfl, hh, e0, e1, e2, e3, e4, e8, e9, fun hqg => (hq j g (by omega) hqg).2.1 rfl, ?_⟩
  intro w3 cs3 hg3 hsame f0 f1 f2 f3 f4 f8 ho3 hf3
  have hnj : (numPs k l)[j]'(by rw [numPs_len]; exact hj) = numP (k + S) l[j] := by rw [numPs_at _ _ _ _ hj, hS]
  refine ⟨hf.trans (hf3.wide (fun b hb => ?_)), m.set j (numP (k + S) l[j]), by simp [hm], fun i h h' hij => ?_, fun i h h' hij => ?_, by simpa using hl, fun _ => ⟨g, cs3, Q, rfl, hg, hg3, fun i b hi hb => ?_, fun i hi => ?_⟩⟩
  · rcases hb with hb | hb
    · exact (hq j b (by omega) hb).1
    · rw [hb]; exact hg
  · by_cases e : i = j
    · subst e
      simp only [List.getElem_set_self]
      exact hnj.symm
    · rw [List.getElem_set_ne (by omega)]
      exact h1 i (by simpa using h) h' (by omega)
  · rw [List.getElem_set_ne (by omega)]
    exact h2 i (by simpa using h) h' (by omega)
  · simp only [List.length_set] at hi
    obtain ⟨a1, a2, a3⟩ := hq i b hi hb
    exact ⟨a1, a2, fun i' hi' => a3 i' (by simpa using hi')⟩
  · simp only [List.length_set] at hi
    by_cases e : i = j
    · subst e
      simp only [List.getElem_set_self, numP_op, numP_ctor, numP_n, numP_m, numP_var, numP_kids, numPs_len]
      exact ⟨A', cap, f0, f1, f2, f3, f4, f8, ho3⟩
    · rw [List.getElem_set_ne (by omega)]
      obtain ⟨A2, c2, q0, q1, q2, q3, q4, q8, q9⟩ := hc' i hi
      refine ⟨A2, c2, (hsame i 0 e (by omega)).trans q0, (hsame i 1 e (by omega)).trans q1, (hsame i 2 e (by omega)).trans q2, (hsame i 3 e (by omega)).trans q3, (hsame i 4 e (by omega)).trans q4, (hsame i 5 e (by omega)).trans q8, q9.fr d hf3 (fun b hb => ?_)⟩
      rintro (hb' | hb')
      · exact (hq i b hi hb).2.2 j (by omega) (by omega) hb'
      · exact (hq i b hi hb).2.1 hb'
def MkP (d : Nat) : Prop := ∀ (P : Nat → Prop) (A : Option Addr) (l : List Pt) (cap : Nat) (k : Int) (w : World), OPs d w P A l → wPs l ≤ 1048576 → 0 ≤ k → k + 5 * (wPs l : Int) ≤ 16777216 →
  Calls Try.prog 17 #[.slice A l.length cap, .int .i64 k] w fun e w' => e = .returned (.int .i64 (k + 5 * (wPs l : Nat))) ∧ OPs d w' P A (numPs k l) ∧ Fr P w w'
set_option maxHeartbeats 1600000 in
theorem mkP_of (d : Nat) (ih : ∀ d', d = d' + 1 → MkP d') : MkP d := by
  intro P A l cap k w hr hn h0 h1
  obtain ⟨d', hd, _⟩ := hr.parts
  have IH := Lib.hid (ih d' hd)
  subst hd
  have HSum := Lib.hid (wPs_sum l)
  have hlb : l.length ≤ 1048576 := by have := wPs_sum l; omega
  have HZ := Lib.hid (HalfP.zero (k := k) hr)
  clear hr ih
  go_enter Try.func17, Try.ntmps17
  go_wp2_with fail
  go_loopw [1, 5] (fun q i wr => ∃ j : Nat, j ≤ l.length ∧ i = .int .i64 j ∧ ∃ S : Nat, q = .int .i64 (k + S) ∧ Hid ((S : Int) = 5 * ((j + ((l.take j).map wP).sum : Nat) : Int)) ∧ Hid (HalfP d' P A l k j w wr)) (fun _ i _ => l.length - (intOf i).toNat)
  case atStart => exact ⟨0, by omega, rfl, 0, by simp, by unfold Hid; simp, HZ⟩
  case round =>
    obtain ⟨j, hj, rfl, S, rfl, HS, HH⟩ := hrel
    clear HZ
    by_cases hlt : j < l.length
    · have HT := Lib.hid (sum_take_succ wP l j hlt)
      have HL := Lib.hid (sum_take_le wP l (j + 1))
      have hwk : wP l[j] = wPs l[j].kids := wP_kids l[j]
      have hSb : k + (S : Int) + 5 * (1 + (wPs l[j].kids : Int)) ≤ 16777216 ∧ wPs l[j].kids ≤ 1048576 := by
        have a1 := HT.out; have a2 := HL.out; have a3 := HSum.out; have a4 := HS.out; omega
      have HWK := Lib.hid hwk
      obtain ⟨hSb, hwb⟩ := hSb
      clear hwk
      obtain ⟨g, cs, Q, A', cp, rfl, hg, e0, e1, e2, e3, e4, e8, ho, hQg, hnext⟩ := HH.out.at_ hlt HS.out
      have c0 := (cell_of_blk hg (j * 6)).trans e0
      have c1 := (cell_of_blk hg (j * 6 + 1)).trans e1
      have c2 := (cell_of_blk hg (j * 6 + 2)).trans e2
      have c3 := (cell_of_blk hg (j * 6 + 3)).trans e3
      have c4 := (cell_of_blk hg (j * 6 + 4)).trans e4
      have c8 := (cell_of_blk hg (j * 6 + 5)).trans e8
      have z0 := frozen_of_row wr g (j * 6) cs 28 hg
      have z1 := frozen_of_row wr g (j * 6 + 1) cs 28 hg
      have z2 := frozen_of_row wr g (j * 6 + 2) cs 28 hg
      have z3 := frozen_of_row wr g (j * 6 + 3) cs 28 hg
      have z4 := frozen_of_row wr g (j * 6 + 4) cs 28 hg
      obtain ⟨w2, hw2⟩ : ∃ w2, w2 = (((((wr.setCell ⟨g, j * 6, none⟩ (.int .i64 (k + S))).setCell ⟨g, j * 6 + 1, none⟩ (.int .i64 (k + S + 1))).setCell ⟨g, j * 6 + 2, none⟩ (.int .i64 (k + S + 1 + 1))).setCell ⟨g, j * 6 + 3, none⟩ (.int .i64 (k + S + 1 + 1 + 1))).setCell ⟨g, j * 6 + 4, none⟩ (.int .i64 (k + S + 1 + 1 + 1 + 1))) := ⟨_, rfl⟩
      have F2 : Fr (fun b => b = g) wr w2 := by rw [hw2]; exact (((((Fr.set (P := fun b => b = g) _ _ _ _ rfl).trans (Fr.set _ _ _ _ rfl)).trans (Fr.set _ _ _ _ rfl)).trans (Fr.set _ _ _ _ rfl)).trans (Fr.set _ _ _ _ rfl))
      have G2 : Hid (w2.heap[g]? = some (.cells (((((cs.setIfInBounds (j * 6) (.int .i64 (k + S))).setIfInBounds (j * 6 + 1) (.int .i64 (k + S + 1))).setIfInBounds (j * 6 + 2) (.int .i64 (k + S + 1 + 1))).setIfInBounds (j * 6 + 3) (.int .i64 (k + S + 1 + 1 + 1))).setIfInBounds (j * 6 + 4) (.int .i64 (k + S + 1 + 1 + 1 + 1))) 28 (0, 0))) := by
        rw [hw2]
        unfold Hid
        refine heap_setCell_same _ g _ _ _ _ ?_
        refine heap_setCell_same _ g _ _ _ _ ?_
        refine heap_setCell_same _ g _ _ _ _ ?_
        refine heap_setCell_same _ g _ _ _ _ ?_
        refine heap_setCell_same _ g _ _ _ _ ?_
        exact hg
      have O2 := Lib.hid (ho.fr _ F2 (fun b hb e => hQg (e ▸ hb)))
      have HF2 := Lib.hid F2
      have HQg := Lib.hid hQg
      have HN := Lib.hid hnext
      have HW2 := Lib.hid hw2
      clear hw2 F2 hQg hnext ho
      go_wp2_with fail
      rw [← HW2.out]
      refine (IH.out Q A' l[j].kids cp _ w2 O2.out hwb (by omega) (by omega)).mono ?_
      rintro e w3 ⟨rfl, ho3, hf3⟩
      have hk2 : k + S + 1 + 1 + 1 + 1 + 1 = k + S + 5 := by omega
      have ho3' : OPs d' w3 Q A' (numPs (k + S + 5) l[j].kids) := by rw [← hk2]; exact ho3
      have HH3 : Hid (HalfP d' P (some ⟨g, 0, none⟩) l k (j + 1) w w3) := by
        refine HN.out w3 _ (hf3.block G2.out HQg.out) (fun i c hi hc => ?_) ?_ ?_ ?_ ?_ ?_ ?_ ho3' ((HF2.out.wide (fun b hb => .inr hb)).trans (hf3.wide (fun b hb => .inl hb)))
        · have h1 : i * 6 + c ≠ j * 6 ∧ i * 6 + c ≠ j * 6 + 1 ∧ i * 6 + c ≠ j * 6 + 2 ∧ i * 6 + c ≠ j * 6 + 3 ∧ i * 6 + c ≠ j * 6 + 4 := by omega
          simp only [Array.getElem?_setIfInBounds_ne (Ne.symm h1.1), Array.getElem?_setIfInBounds_ne (Ne.symm h1.2.1), Array.getElem?_setIfInBounds_ne (Ne.symm h1.2.2.1), Array.getElem?_setIfInBounds_ne (Ne.symm h1.2.2.2.1), Array.getElem?_setIfInBounds_ne (Ne.symm h1.2.2.2.2)]
        · have hz : j * 6 + 5 < cs.size := (Array.getElem?_eq_some_iff.1 e8).1
          simp [show j * 6 < cs.size by omega]
        · have hz : j * 6 + 5 < cs.size := (Array.getElem?_eq_some_iff.1 e8).1
          simp [show j * 6 + 1 < cs.size by omega]
        · have hz : j * 6 + 5 < cs.size := (Array.getElem?_eq_some_iff.1 e8).1
          simp [show j * 6 + 2 < cs.size by omega] <;> omega
        · have hz : j * 6 + 5 < cs.size := (Array.getElem?_eq_some_iff.1 e8).1
          simp [show j * 6 + 3 < cs.size by omega] <;> omega
        · have hz : j * 6 + 5 < cs.size := (Array.getElem?_eq_some_iff.1 e8).1
          simp [show j * 6 + 4 < cs.size by omega] <;> omega
        · simpa using e8
      clear c0 c1 c2 c3 c4 c8 z0 z1 z2 z3 z4
      go_wp2_with fail
      go_roundw
      case rel => exact ⟨j + 1, by omega, by go_num, S + 5 * (1 + wPs l[j].kids), by congr 1; push_cast; omega, by unfold Hid; have a1 := HT.out; have a2 := HS.out; have a3 := HWK.out; omega, HH3⟩
      case measure => simp [intOf]; omega
    · have HE : Hid ((S : Int) = 5 * (wPs l : Int)) := by unfold Hid; rw [HS.out, HSum.out, List.take_of_length_le (by omega), show j = l.length by omega]
      have HA := Lib.hid (HH.out.all (by omega))
      go_wp2_with fail
      go_ret
      exact ⟨ret_i64 (by rw [HE.out]), HA.out, HH.out.1⟩
theorem mkP_any : ∀ d, MkP d
  | 0 => mkP_of 0 (fun _ h => by omega)
  | d + 1 => mkP_of (d + 1) (fun d' h => (Nat.succ.inj h) ▸ mkP_any d)
theorem markP_any (d : Nat) (P : Nat → Prop) (A : Option Addr) (l : List Pt) (cap : Nat) (x0 x1 x2 x3 x4 k : Int) (w : World) (hr : OPs d w P A l) (hP : ∀ b, P b → b < w.heap.size) (hn : wPs l ≤ 1048576) (h0 : 0 ≤ k) (h1 : k + 5 * (wPs l : Int) ≤ 16777216) :
    Calls Try.prog 9 #[.agg #[.int .i64 x0, .int .i64 x1, .int .i64 x2, .int .i64 x3, .int .i64 x4, .slice A l.length cap], .int .i64 k] w fun e w' => e = .returned (.int .i64 (k + 5 * (wPs l : Nat))) ∧ OPs d w' P A (numPs k l) ∧ Fr P w w' := by
  have Hr := Lib.hid (hr.fr _ (Fr.below (P := fun _ => False) ((Below.refl _ w).alloc (Nat.le_refl _) (.cells #[.int .i64 x0, .int .i64 x1, .int .i64 x2, .int .i64 x3, .int .i64 x4, .slice A l.length cap] 28))) (fun _ _ h => h))
  clear hr
  go_enter Try.func9, Try.ntmps9
  go_wp2_with (go_at_call 17; refine (mkP_any _ P _ _ _ _ _ Hr.out hn h0 h1).mono ?_; rintro e w1 ⟨rfl, ho, hf⟩)
  go_ret
  exact ⟨rfl, ho, (Fr.below ((Below.refl _ _).alloc (Nat.le_refl _) _)).trans hf⟩
end Go.Proofs.Ytbdiahnelnbdnaa
