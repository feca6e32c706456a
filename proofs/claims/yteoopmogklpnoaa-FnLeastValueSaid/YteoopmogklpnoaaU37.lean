/-
  What the statements draw: a world, a type, a number. No statement is proved here.
-/
import Derived.Test.YteoopmogklpnoaaU36
import Derived.Test.YteoopmogklpnoaaU20
import Derived.Test.YteoopmogklpnoaaU19
import Derived.Test.YteoopmogklpnoaaU29
import Derived.Test.YteoopmogklpnoaaU18
namespace Go.Proofs.Yteoopmogklpnoaa
open Go.RowKit Go.Deep
set_option maxRecDepth 100000
set_option linter.unusedVariables false
def GotWT (w : World) (e : Ending) (w' : World) : Prop := ∃ v l, ∃ t : Ty, e = .returned (.tuple #[v, .agg #[.int .i64 t.data, .int .i64 t.index]]) ∧ Lies w' w.heap.size v l ∧ 0 < l.length ∧ Below w.heap.size w w'
theorem Lies.lower {w : World} {lo lo' : Nat} {v : Value} {l : List Da} (h : Lies w lo v l) (hl : lo' ≤ lo) : Lies w lo' v l := by
  obtain ⟨A3, c3, e3, hrd⟩ := h
  exact ⟨A3, c3, e3, fun wx hs => hrd wx ⟨hs.1, fun b h1 hb => hs.2 b (Nat.le_trans hl h1) hb⟩⟩
theorem below_grown {a w w' : World} {B rb : Nat} (h : Below B a w) (hg : w.grownBy w' (some rb)) (hB : B ≤ w.heap.size) (hr : B ≤ rb) : Below B a w' := h.grown hg hB (fun k e => by injection e with e; omega)
theorem two_far {w : World} {b c i j o : Nat} {u x v : Value} (hne : b ≠ c) (h : w.cell? ⟨c, o, none⟩ = some v) : ((w.setCell ⟨b, i, none⟩ u).setCell ⟨b, j, none⟩ x).cell? ⟨c, o, none⟩ = some v :=
  (World.cell?_setCell_other _ _ _ _ (fun e => hne (by injection e))).trans ((World.cell?_setCell_other _ _ _ _ (fun e => hne (by injection e))).trans h)
set_option maxHeartbeats 1600000 in
theorem l1Two_any (n cap : Nat) (A : Option Addr) (w : World) (hn : n ≤ maxLen) (hc : n ≤ cap) (h : RBy w w.heap.size A n) : Calls Try.prog 58 #[.slice A n cap] w (GotWT w) := by
  have HC := Lib.hid hc
  have HNM := Lib.hid hn
  have H0 : Hid (RBy (w.alloc (.cells #[.int .i64 0, .int .i64 0] 25)) w.heap.size A n) := h.below ((Below.refl _ _).alloc (Nat.le_refl _) _)
  have HT0 : Hid (BoxT (w.alloc (.cells #[.int .i64 0, .int .i64 0] 25)) w.heap.size ⟨0, 0⟩) := heap_alloc_new w _
  have HB0 : Hid (Below w.heap.size w (w.alloc (.cells #[.int .i64 0, .int .i64 0] 25))) := (Below.refl _ _).alloc (Nat.le_refl _) _
  clear h hc hn
  go_enter Try.func58, Try.ntmps58
  go_wp2_with fail
  refine (open_any w.heap.size n cap A _ HNM.out HC.out H0.out (by simp)).mono ?_
  rintro e w1 ⟨rfl, hR, hb⟩
  have HR1 := Lib.hid hR
  have HB1 := Lib.hid (below_after HB0.out hb HB0.out.size)
  have HT1 : Hid (BoxT w1 w.heap.size ⟨0, 0⟩) := (hb.block _ (by simp)).trans HT0.out
  have hrw : (w.alloc (.cells #[.int .i64 0, .int .i64 0] 25)).heap.size = w.heap.size + 1 := by simp
  rw [hrw] at HR1
  have hz1 : w.heap.size + 1 < w1.heap.size := HR1.out.lt
  clear hR hb HB0 HT0 H0
  go_wp2_with fail
  refine (l1World_any _ _ _ _ HR1.out (by omega)).mono ?_
  rintro e w2 ⟨v, l, rfl, ho, hl, hs, hR, hg⟩
  have hx := ho.x hs
  obtain ⟨A2, c2, rfl⟩ := hx.form
  have HX := Lib.hid hx
  have HR2 := Lib.hid hR
  have HB2 := Lib.hid (below_grown HB1.out hg HB1.out.size (by omega))
  have HT2 := Lib.hid (HT1.out.grown hg (by omega))
  have hz2 := hg.size
  have hll : l.length ≤ 4 := hs.1
  clear hx hR hg ho HT1
  go_wp2_with fail
  refine (l1Some_any _ _ _ _ _ _ _ HR2.out (by omega) (by unfold maxLen; omega)).mono ?_
  rintro e w3 ⟨t, rfl, hR, hg⟩
  have HR3 := Lib.hid hR
  have HB3 := Lib.hid (below_grown HB2.out hg HB2.out.size (by omega))
  have HT3 := Lib.hid (HT2.out.grown hg (by omega))
  have HX3 : Hid (XDas w3 w1.heap.size 4 (.slice A2 l.length c2) l.length) := HX.out.keepT ((Stays.grown hg hz1).keepT _) (Nat.le_refl _)
  have hz3 := hg.size
  have HTB : Hid (BoxT (w3.alloc (.cells #[.int .i64 t.data, .int .i64 t.index] 25)) w3.heap.size t) := heap_alloc_new w3 _
  have HRa : Hid (RRd (w3.alloc (.cells #[.int .i64 t.data, .int .i64 t.index] 25)) w.heap.size (w.heap.size + 1) 5) := HR3.out.alloc _
  have HBa : Hid (Below w.heap.size w (w3.alloc (.cells #[.int .i64 t.data, .int .i64 t.index] 25))) := HB3.out.alloc HB3.out.size _
  have HTa : Hid (BoxT (w3.alloc (.cells #[.int .i64 t.data, .int .i64 t.index] 25)) w.heap.size ⟨0, 0⟩) := HT3.out.alloc _
  have HXa : Hid (XDas (w3.alloc (.cells #[.int .i64 t.data, .int .i64 t.index] 25)) w1.heap.size 4 (.slice A2 l.length c2) l.length) := HX3.out.keepT (KeepT.alloc _ _ _ _) (Nat.le_refl _)
  have hza : (w3.alloc (.cells #[.int .i64 t.data, .int .i64 t.index] 25)).heap.size = w3.heap.size + 1 := by simp
  clear hR hg HT2 HX HX3 HT3 HB3 HR3
  go_wp2_with fail
  generalize (w3.alloc (.cells #[.int .i64 t.data, .int .i64 t.index] 25)) = wa at HTB HRa HBa HTa HXa hza ⊢
  have s0 := HTB.out.c0
  have s1 := HTB.out.c1
  have HL : Hid (w.heap.size < w3.heap.size ∧ w.heap.size + 1 < w3.heap.size) := ⟨by omega, by omega⟩
  have hl0' : w.heap.size ≠ w3.heap.size := by omega
  have HM : Hid (Calls Try.prog 44 #[.pointer (some ⟨w.heap.size + 1, 0, none⟩), .slice A2 l.length c2] wa.drew (Muted wa.drew w.heap.size (w.heap.size + 1) 9 5)) := l1Mutate_any A2 w.heap.size (w.heap.size + 1) 5 w1.heap.size 4 l.length c2 wa.drew (HXa.out.keepT (KeepT.below _ _ ((Below.refl _ _).drew)) (Nat.le_refl _)) (by omega) hl HRa.out.drew (by omega)
  go_region_held3 (fun w' => w'.cell? ⟨w3.heap.size, 0, none⟩ = some (.int .i64 t.data) ∧ w'.cell? ⟨w3.heap.size, 1, none⟩ = some (.int .i64 t.index)) (first | exact ⟨s0, s1⟩ | exact ⟨p0, p1⟩ | exact ⟨two_far hl0' p0, two_far hl0' p1⟩ | go_keep) (first | (go_at_call 44; (with_reducible refine (HM.out).mono ?_); rintro e w4 ⟨v3, n3, rfl, hx3, hn3, hR4, hg4'⟩; have hg4 := grown_drew hg4'; have HT4 := Lib.hid (HTB.out.grown hg4 (by omega)); have HU4 := Lib.hid (HTa.out.grown hg4 (by omega)); have p0 := HT4.out.c0; have p1 := HT4.out.c1; have q0 := HU4.out.c0; have q1 := HU4.out.c1; have qf := HU4.out.fz))
  all_goals
    obtain ⟨L, hL, hli, _⟩ := hx3.lies (by unfold maxLen; omega)
    have HF : Hid (GotWT w (.returned (.tuple #[v3, .agg #[.int .i64 t.data, .int .i64 t.index]])) ((w4.setCell ⟨w.heap.size, 0, none⟩ (.int .i64 t.data)).setCell ⟨w.heap.size, 1, none⟩ (.int .i64 t.index))) := by
      have hzw : wa.drew.heap.size = w3.heap.size + 1 := hza
      have hs : Stays wa.drew.heap.size w4 ((w4.setCell ⟨w.heap.size, 0, none⟩ (.int .i64 t.data)).setCell ⟨w.heap.size, 1, none⟩ (.int .i64 t.index)) :=
        ⟨by simp [World.setCell], fun b hb _ => (Below.heap_setCell _ _ _ _ (by simp only; omega)).trans (Below.heap_setCell _ _ _ _ (by simp only; omega))⟩
      exact ⟨v3, L, t, rfl, (hli.at_ hs).lower (by omega), by omega, ((below_grown HBa.out hg4 HBa.out.size (by omega)).setCell (Nat.le_refl _) _).setCell (Nat.le_refl _) _⟩
    have HU5 : Hid (BoxT ((w4.setCell ⟨w.heap.size, 0, none⟩ (.int .i64 t.data)).setCell ⟨w.heap.size, 1, none⟩ (.int .i64 t.index)) w.heap.size t) := heap_setCell_same _ _ 1 _ _ _ (heap_setCell_same _ _ 0 _ _ _ HU4.out)
    generalize hwf : ((w4.setCell ⟨w.heap.size, 0, none⟩ (.int .i64 t.data)).setCell ⟨w.heap.size, 1, none⟩ (.int .i64 t.index)) = wf at HF HU5 ⊢
    have r0 := HU5.out.c0
    have r1 := HU5.out.c1
    clear hx3 hR4 hg4' hg4 hli
    go_wp2_with fail
    exact bodyPost_ret (v := .tuple #[v3, .agg #[.int .i64 t.data, .int .i64 t.index]]) (by simp [results, Try.results58, go_sem, r0, r1]) rfl HF.out
end Go.Proofs.Yteoopmogklpnoaa
/-
  A value that is made part by part while a source of numbers turns. No statement is proved here.
-/
namespace Go.Proofs.Yteoopmogklpnoaa
open Go.RowKit
set_option maxRecDepth 100000
set_option linter.unusedVariables false
theorem RowVc.list {d : Nat} {w : World} {lo : Nat} {og : Option Nat} {Q : Nat → Nat → Prop} {l l' : List Vl} {xs : List Value} {k : Nat} (h : RowVc d w lo og Q l xs k) (hk : k ≤ l.length) (he : ∀ j, j < k → l'[j]? = l[j]?) : RowVc d w lo og Q l' xs k := fun j hj hjk => by
  have e : l'[j] = l[j]'(by omega) := by
    have := he j hjk
    rw [List.getElem?_eq_getElem hj, List.getElem?_eq_getElem (by omega)] at this
    injection this
  rw [e]
  exact h j (by omega) hjk
theorem RowVc.move {d : Nat} {w w' : World} {lo : Nat} {og og' : Option Nat} {Q : Nat → Nat → Prop} {l : List Vl} {xs : List Value} {k : Nat} {P' : Nat → Prop} (h : RowVc d w lo og Q l xs k) (hf : Fr P' w w') (hp : ∀ b, lo ≤ b → some b ≠ og → b < w.heap.size → ¬ P' b ∧ some b ≠ og') : RowVc d w' lo og' Q l xs k := fun j hj hjk => by
  obtain ⟨h1, A', cap, e0, e1, e8, e9⟩ := h j hj hjk
  refine ⟨fun b hb => ?_, A', cap, e0, e1, e8, e9.fr d hf (fun b hb => ?_)⟩
  · obtain ⟨a1, a2, a3, a4⟩ := h1 b hb
    exact ⟨a1, Nat.lt_of_lt_of_le a2 hf.size, (hp b a1 a3 a2).2, a4⟩
  · obtain ⟨a1, a2, a3, a4⟩ := h1 b hb
    exact (hp b a1 a3 a2).1
theorem own_cap {w : World} {base : Nat} {e : TypeId} {size n c : Nat} {A : Option Addr} {xs : List Value} (h : w.ownsRow base e size (.slice A n c) n xs) : n ≤ c ∧ c ≤ maxLen := by
  rcases h.2 with ⟨h1, h2⟩ | ⟨g, cap, cur, h1, hb, hg, hnc, hcm, _⟩
  · injection h1 with _ _ e3
    subst e3
    exact ⟨by omega, by unfold maxLen; omega⟩
  · injection h1 with _ _ e3
    subst e3
    exact ⟨hnc, hcm⟩
theorem Stays.fr {lo rb : Nat} {w w' : World} (h : Fr (fun b => b = rb) w w') (hl : rb < lo) : Stays lo w w' := ⟨h.size, fun b hb hlt => h.2.2.2.2 b hlt (by omega)⟩
end Go.Proofs.Yteoopmogklpnoaa
/-
  A value that is made part by part, with room. No statement is proved here.
-/
namespace Go.Proofs.Yteoopmogklpnoaa
open Go.RowKit Go.Sort Go.Deep
set_option maxRecDepth 100000
set_option linter.unusedVariables false
/-- A list of parts in blocks of its own, and its room. -/
def OVk (d : Nat) (w : World) (P : Nat → Prop) (A : Option Addr) (c : Nat) (l : List Vl) : Prop := (l.length ≤ c ∧ c ≤ maxLen) ∧ OVc d w P A l
theorem OVk.nil (d : Nat) (w : World) (P : Nat → Prop) (A : Option Addr) : OVk (d + 1) w P A 0 [] := ⟨⟨Nat.le_refl _, by unfold maxLen; omega⟩, OVc.nil d w P A⟩
theorem OVk.wide (d : Nat) {w : World} {P P' : Nat → Prop} {A : Option Addr} {c : Nat} {l : List Vl} (h : OVk d w P A c l) (hp : ∀ b, P b → P' b) : OVk d w P' A c l := ⟨h.1, OVc.wide d h.2 hp⟩
theorem OVk.fr (d : Nat) {w w' : World} {P P' : Nat → Prop} {A : Option Addr} {c : Nat} {l : List Vl} (h : OVk d w P A c l) (hf : Fr P' w w') (hp : ∀ b, P b → ¬ P' b) : OVk d w' P A c l := ⟨h.1, OVc.fr d h.2 hf hp⟩
theorem OVk.reads (d : Nat) {w : World} {P : Nat → Prop} {A : Option Addr} {c : Nat} {l : List Vl} (h : OVk (d + 1) w P A c l) : RVs d w w.heap.size A l := OVc.reads d h.2
/-- A node in block g of which k parts are made; whatever was there when it was begun stays. -/
def BldVc (d : Nat) (w0 wr : World) (g : Nat) (x0 x1 : Int) (l : List Vl) (k : Nat) : Prop := g < w0.heap.size ∧ Fr (fun b => b = g) w0 wr ∧ ∃ A c ys Q, wr.heap[g]? = some (.cells #[.int .i64 x0, .int .i64 x1, .slice A k c] 28 (0, 0)) ∧ wr.ownsRow w0.heap.size 28 3 (.slice A k c) k ys ∧ RowVc d wr w0.heap.size (Value.slice A k c).ownBlock Q l ys k
theorem BldVc.zero {d : Nat} {w0 : World} {g : Nat} {x0 x1 : Int} {l : List Vl} (h : w0.heap[g]? = some (.cells #[.int .i64 x0, .int .i64 x1, .slice none 0 0] 28 (0, 0))) : BldVc d w0 w0 g x0 x1 l 0 :=
  ⟨heap_lt h, Fr.refl _ _, none, 0, [], fun _ _ => False, h, World.ownsRow_nil _ _ _ _, RowVc.zero _ _ _ _ _ _ _⟩
theorem BldVc.below {d : Nat} {w0 wr w1 : World} {g : Nat} {x0 x1 : Int} {l : List Vl} {k : Nat} (h : BldVc d w0 wr g x0 x1 l k) (hb : Below wr.heap.size wr w1) : BldVc d w0 w1 g x0 x1 l k := by
  obtain ⟨hgl, hf, A, c, ys, Q, hg, ho, hrow⟩ := h
  refine ⟨hgl, hf.trans (Fr.below hb), A, c, ys, Q, (hb.block g (heap_lt hg)).trans hg, own_at ho (fun b e => hb.block b ?_), hrow.fr (P' := fun _ => False) (Fr.below hb) (fun _ _ _ _ h => h)⟩
  obtain ⟨_, _, _, h2⟩ := own_form ho
  exact (h2 b e).2
theorem BldVc.step {d : Nat} {w0 wr w2 w4 : World} {g : Nat} {x0 x1 : Int} {l : List Vl} {k c c2 : Nat} {A A2 : Option Addr} {ys : List Value} {Q : Nat → Nat → Prop} {v' : Value} {box : Obj}
    (hgl : g < w0.heap.size) (hf : Fr (fun b => b = g) w0 wr) (hg : wr.heap[g]? = some (.cells #[.int .i64 x0, .int .i64 x1, .slice A k c] 28 (0, 0))) (ho : wr.ownsRow w0.heap.size 28 3 (.slice A k c) k ys) (hrow : RowVc d wr w0.heap.size (Value.slice A k c).ownBlock Q l ys k)
    (hk : k < l.length) (hb : Below wr.heap.size wr w2) (hkid : OVk d w2 (Nw wr w2) A2 c2 l[k].kids) (hown : w4.ownsRow w0.heap.size 28 3 v' (k + 1) (ys ++ [.int .i64 l[k].ctor, .int .i64 l[k].n, .slice A2 l[k].kids.length c2])) (hgr : (w2.alloc box).grownBy w4 (Value.slice A k c).ownBlock)
    (hat : v'.ownBlock = (Value.slice A k c).ownBlock ∨ v'.ownBlock = some (w2.alloc box).heap.size) :
    ∃ A' c', v' = .slice A' (k + 1) c' ∧ w4.heap[g]? = some (.cells #[.int .i64 x0, .int .i64 x1, .slice A k c] 28 (0, 0)) ∧ BldVc d w0 (w4.setCell ⟨g, 2, none⟩ v') g x0 x1 l (k + 1) := by
  have hys := ho.1
  obtain ⟨_, _, _, hob⟩ := own_form ho
  obtain ⟨A', c', hv, hnb⟩ := own_form hown
  have hgw := heap_lt hg
  have hb2 := hb.size
  have hz : (w2.alloc box).heap.size = w2.heap.size + 1 := by simp
  have hng : ¬ some g = (Value.slice A k c).ownBlock := fun e => by have := (hob g e.symm).1; omega
  have hg4 : w4.heap[g]? = some (.cells #[.int .i64 x0, .int .i64 x1, .slice A k c] 28 (0, 0)) := by
    rw [hgr.block g (by omega) hng, Below.heap_alloc _ _ _ (by omega), hb.block g hgw]; exact hg
  have hF : Fr (fun b => some b = (Value.slice A k c).ownBlock ∨ b = g) w2 (w4.setCell ⟨g, 2, none⟩ v') :=
    ((Fr.below ((Below.refl _ w2).alloc (Nat.le_refl _) box)).trans (Fr.grown hgr (fun b e => .inl e))).trans (Fr.set _ _ _ _ (.inr rfl))
  have hr2 := hrow.more (xs' := ys ++ [.int .i64 l[k].ctor, .int .i64 l[k].n, .slice A2 l[k].kids.length c2]) hb hk hf.size (fun b e => (hob b e).2) hkid.2 (fun j i hj hi => List.getElem?_append_left (by omega)) (by rw [List.getElem?_append_right (by omega), show k * 3 - ys.length = 0 by omega]; rfl) (by rw [List.getElem?_append_right (by omega), show k * 3 + 1 - ys.length = 1 by omega]; rfl) ⟨by rw [List.getElem?_append_right (by omega), show k * 3 + 2 - ys.length = 2 by omega]; rfl, hkid.1⟩
  have hr3 := hr2.move (og' := v'.ownBlock) hF (fun b h1 h2 h3 => ⟨fun h => by
    rcases h with h | h
    · exact h2 h
    · omega, fun e => by
    rcases hat with h | h
    · exact h2 (e.trans h)
    · rw [h] at e; injection e with e; omega⟩)
  have hF0 : Fr (fun b => b = g) w0 (w4.setCell ⟨g, 2, none⟩ v') := by
    refine ⟨?_, ?_, ?_, ?_, fun b hb0 hne => ?_⟩
    · exact hF.1.trans (hb.os.trans hf.1)
    · exact hF.2.1.trans (hb.tape.trans hf.2.1)
    · exact hF.2.2.1.trans (hb.output.trans hf.2.2.1)
    · exact Nat.le_trans hf.size (Nat.le_trans hb2 hF.size)
    · have h0 := hf.size
      rw [hF.2.2.2.2 b (by omega) (fun h => by
        rcases h with h | h
        · have := (hob b h.symm).1; omega
        · exact hne h), hb.block b (by omega)]
      exact hf.2.2.2.2 b hb0 hne
  refine ⟨A', c', hv, hg4, ?_⟩
  subst hv
  refine ⟨hgl, hF0, A', c', _, _, ?_, own_at hown (fun b e => ?_), hr3⟩
  · have := heap_setCell_same w4 g 2 _ _ (.slice A' (k + 1) c') hg4
    rw [this]
    rfl
  · exact Below.heap_setCell _ _ _ _ (fun h => by have := (hnb b e).1; simp only at h; omega)
theorem BldVc.all {d : Nat} {w0 wr : World} {g : Nat} {x0 x1 : Int} {l : List Vl} {k : Nat} (h : BldVc d w0 wr g x0 x1 l k) (hk : k = l.length) (hn : l.length ≤ 1048576) :
    ∃ A c, wr.heap[g]? = some (.cells #[.int .i64 x0, .int .i64 x1, .slice A l.length c] 28 (0, 0)) ∧ OVk (d + 1) wr (Nw w0 wr) A c l ∧ Fr (fun b => b = g) w0 wr := by
  subst hk
  obtain ⟨_, hf, A, c, ys, Q, hg, ho, hrow⟩ := h
  obtain ⟨A', c', e, hO⟩ := OVc.of_row ho hrow hn
  injection e with e1 e2 e3
  subst e1
  exact ⟨A, c, hg, ⟨own_cap ho, hO⟩, hf⟩
/-- A tree that has been stored in a struct of the call's own, in block g; what was there when the region began stays. -/
def StVc (d : Nat) (w1 : World) (g : Nat) (v : Vl) (B : Option Addr) (c : Nat) (wx : World) : Prop := w1.heap.size ≤ g ∧ Below w1.heap.size w1 wx ∧ wx.heap[g]? = some (.cells #[.int .i64 v.ctor, .int .i64 v.n, .slice B v.kids.length c] 28 (0, 0)) ∧ OVk d wx (fun b => w1.heap.size ≤ b ∧ b < wx.heap.size ∧ b ≠ g) B c v.kids
theorem StVc.new {d : Nat} {w1 w3 : World} {v : Vl} {B : Option Addr} {c : Nat} {P : Nat → Prop} (hb : Below w1.heap.size w1 w3) (ho : OVk d w3 P B c v.kids) (hP : ∀ b, P b → w1.heap.size ≤ b ∧ b < w3.heap.size) :
    StVc d w1 w3.heap.size v B c (w3.alloc (.cells #[.int .i64 v.ctor, .int .i64 v.n, .slice B v.kids.length c] 28)) :=
  ⟨hb.size, hb.alloc hb.size _, heap_alloc_new _ _, (ho.fr _ (Fr.below (P := fun _ => False) ((Below.refl _ _).alloc (Nat.le_refl _) _)) (fun _ _ h => h)).wide _ (fun b h => ⟨(hP b h).1, by have := (hP b h).2; simp; omega, by have := (hP b h).2; omega⟩)⟩
theorem StVc.set {d : Nat} {w1 w3 : World} {g : Nat} {v : Vl} {B : Option Addr} {c : Nat} {P : Nat → Prop} (hb : Below w1.heap.size w1 w3) (hz : w3.heap[g]? = some (.cells #[.int .i64 0, .int .i64 0, .slice none 0 0] 28 (0, 0))) (hg : w1.heap.size ≤ g) (ho : OVk d w3 P B c v.kids) (hP : ∀ b, P b → w1.heap.size ≤ b ∧ b < w3.heap.size ∧ b ≠ g) :
    StVc d w1 g v B c (((w3.setCell ⟨g, 0, none⟩ (.int .i64 v.ctor)).setCell ⟨g, 1, none⟩ (.int .i64 v.n)).setCell ⟨g, 2, none⟩ (.slice B v.kids.length c)) := by
  refine ⟨hg, ?_, ?_, (ho.fr _ (P' := fun b => b = g) (((Fr.set (P := fun b => b = g) _ _ _ _ rfl).trans (Fr.set _ _ _ _ rfl)).trans (Fr.set _ _ _ _ rfl)) (fun b h e => (hP b h).2.2 e)).wide _ (fun b h => ⟨(hP b h).1, by have := (hP b h).2.1; simpa [World.setCell] using this, (hP b h).2.2⟩)⟩
  · exact (((hb).setCell hg _).setCell hg _).setCell hg _
  · refine (heap_setCell_same _ g 2 _ _ _ (heap_setCell_same _ g 1 _ _ _ (heap_setCell_same _ g 0 _ _ _ (hz)))).trans rfl
theorem StVc.later {d : Nat} {w1 wx wy : World} {g : Nat} {v : Vl} {B : Option Addr} {c : Nat} (h : StVc d w1 g v B c wx) (hb : Below wx.heap.size wx wy) : StVc d w1 g v B c wy :=
  ⟨h.1, h.2.1.trans (hb.mono h.2.1.size), (hb.block g (heap_lt h.2.2.1)).trans h.2.2.1, (h.2.2.2.fr _ (Fr.below (P := fun _ => False) hb) (fun _ _ h => h)).wide _ (fun b h => ⟨h.1, Nat.lt_of_lt_of_le h.2.1 hb.size, h.2.2⟩)⟩
theorem StVc.cells {d : Nat} {w1 wx : World} {g : Nat} {v : Vl} {B : Option Addr} {c : Nat} (h : StVc d w1 g v B c wx) : wx.cell? ⟨g, 0, none⟩ = some (.int .i64 v.ctor) ∧ wx.cell? ⟨g, 1, none⟩ = some (.int .i64 v.n) ∧ wx.cell? ⟨g, 2, none⟩ = some (.slice B v.kids.length c) :=
  ⟨(cell_of_blk h.2.2.1 0).trans rfl, (cell_of_blk h.2.2.1 1).trans rfl, (cell_of_blk h.2.2.1 2).trans rfl⟩
end Go.Proofs.Yteoopmogklpnoaa
