/-
  Types, constructors and data types that are marked where they lie. No statement is proved here.
-/
import Derived.Test.YtbdiahnelnbdnaaGreatW00
import Derived.Test.YtbdiahnelnbdnaaGreatRows
import Derived.WalkKit
import Derived.WalkSpells
import Derived.ProofKit
import Derived.Lib.Hide
import Derived.BigQuiet
import Derived.Deep.QuietTactic
namespace Go.Proofs.YtbdiahnelnbdnaaGreat
open Go.RowKit
set_option maxRecDepth 100000
set_option linter.unusedVariables false
/-- Two values of one kind: two integers, two strings, or one value. -/
def Alike (v v' : Value) : Prop := v = v' ∨ (∃ x y, v = .int .i64 x ∧ v' = .int .i64 y) ∨ (∃ s s', v = .string s ∧ v' = .string s')
theorem Alike.trans {a b c : Value} (h : Alike a b) (h' : Alike b c) : Alike a c := by
  rcases h with rfl | ⟨x, y, rfl, rfl⟩ | ⟨s, t, rfl, rfl⟩
  · exact h'
  · rcases h' with rfl | ⟨x', y', e, rfl⟩ | ⟨s, t, e, _⟩
    · exact .inr (.inl ⟨_, _, rfl, rfl⟩)
    · exact .inr (.inl ⟨_, _, rfl, rfl⟩)
    · cases e
  · rcases h' with rfl | ⟨x', y', e, _⟩ | ⟨s', t', e, rfl⟩
    · exact .inr (.inr ⟨_, _, rfl, rfl⟩)
    · cases e
    · exact .inr (.inr ⟨_, _, rfl, rfl⟩)
/-- Nothing below lo and nothing from hi on has turned; the cells of other blocks are of the kinds that they were. -/
def Kept (lo hi : Nat) (w w' : World) : Prop := Below lo w w' ∧ (∀ b, hi ≤ b → b < w.heap.size → w'.heap[b]? = w.heap[b]?) ∧ ∀ (g : Nat) (cs : Array Value) (t : TypeId), w.heap[g]? = some (.cells cs t (0, 0)) → ∃ cs' : Array Value, w'.heap[g]? = some (.cells cs' t (0, 0)) ∧ cs'.size = cs.size ∧ ∀ (i : Nat) (v : Value), cs[i]? = some v → ∃ v', cs'[i]? = some v' ∧ Alike v v'
theorem Kept.refl (lo hi : Nat) (w : World) : Kept lo hi w w := ⟨Below.refl _ _, fun _ _ _ => rfl, fun g cs t h => ⟨cs, h, rfl, fun i v hv => ⟨v, hv, .inl rfl⟩⟩⟩
theorem Kept.trans {lo hi : Nat} {a b c : World} (h : Kept lo hi a b) (h' : Kept lo hi b c) : Kept lo hi a c :=
  ⟨h.1.trans h'.1, fun x hx hl => (h'.2.1 x hx (Nat.lt_of_lt_of_le hl h.1.size)).trans (h.2.1 x hx hl), fun g cs t hg => by
    obtain ⟨cs1, e1, s1, q1⟩ := h.2.2 g cs t hg
    obtain ⟨cs2, e2, s2, q2⟩ := h'.2.2 g cs1 t e1
    refine ⟨cs2, e2, by omega, fun i v hv => ?_⟩
    obtain ⟨v1, f1, a1⟩ := q1 i v hv
    obtain ⟨v2, f2, a2⟩ := q2 i v1 f1
    exact ⟨v2, f2, a1.trans a2⟩⟩
theorem Kept.below {lo hi : Nat} {w w' : World} (h : Below w.heap.size w w') (hlo : lo ≤ w.heap.size) : Kept lo hi w w' :=
  ⟨h.mono hlo, fun x _ hl => h.block x hl, fun g cs t hg => ⟨cs, (h.block g (heap_lt hg)).trans hg, rfl, fun i v hv => ⟨v, hv, .inl rfl⟩⟩⟩
theorem Kept.set {lo hi g i : Nat} {w : World} {cs : Array Value} {t : TypeId} {v u : Value} (hg : w.heap[g]? = some (.cells cs t (0, 0))) (hlo : lo ≤ g ∧ g < hi) (hv : cs[i]? = some v) (ha : Alike v u) : Kept lo hi w (w.setCell ⟨g, i, none⟩ u) := by
  refine ⟨(Below.refl _ _).setCell hlo.1 _, fun x hx _ => Below.heap_setCell w ⟨g, i, none⟩ u x (by have := hlo.2; simp; omega), fun b ds s hb => ?_⟩
  by_cases e : b = g
  · subst e
    rw [hg] at hb
    injection hb with hb
    injection hb with e1 e2
    subst e1 e2
    refine ⟨cs.setIfInBounds i u, heap_setCell_same w b i cs t u hg, by simp, fun j x hx => ?_⟩
    have hjl : j < cs.size := (Array.getElem?_eq_some_iff.1 hx).1
    by_cases e : j = i
    · subst e
      rw [hv] at hx
      cases hx
      exact ⟨u, by simp [hjl], ha⟩
    · exact ⟨x, by rw [Array.getElem?_setIfInBounds_ne (by omega)]; exact hx, .inl rfl⟩
  · exact ⟨ds, (Below.heap_setCell w ⟨g, i, none⟩ u b e).trans hb, rfl, fun j x hx => ⟨x, hx, .inl rfl⟩⟩
/-- Shapes: blocks of the call's own that hold types, constructors, data types, whatever these are. -/
def STys (w : World) (lo hi : Nat) (A : Option Addr) (n : Nat) : Prop := 0 < n → ∃ g cs, A = some ⟨g, 0, none⟩ ∧ (lo ≤ g ∧ g < hi) ∧ w.heap[g]? = some (.cells cs 35 (0, 0)) ∧ ∀ i, i < n * 2 → ∃ x, cs[i]? = some (.int .i64 x)
def SCts (w : World) (lo hi : Nat) (A : Option Addr) (l : List Ct) : Prop := 0 < l.length → ∃ g cs, A = some ⟨g, 0, none⟩ ∧ (lo ≤ g ∧ g < hi) ∧ w.heap[g]? = some (.cells cs 79 (0, 0)) ∧
  ∀ k (h : k < l.length), ∃ s A' cap x, cs[k * 3]? = some (.string s) ∧ cs[k * 3 + 1]? = some (.slice A' l[k].args.length cap) ∧ cs[k * 3 + 2]? = some (.int .i64 x) ∧ STys w lo hi A' l[k].args.length
def SDas (w : World) (lo hi : Nat) (A : Option Addr) (l : List Da) : Prop := 0 < l.length → ∃ g cs, A = some ⟨g, 0, none⟩ ∧ (lo ≤ g ∧ g < hi) ∧ w.heap[g]? = some (.cells cs 57 (0, 0)) ∧
  ∀ k (h : k < l.length), ∃ s A' cap, cs[k * 2]? = some (.string s) ∧ cs[k * 2 + 1]? = some (.slice A' l[k].ctors.length cap) ∧ SCts w lo hi A' l[k].ctors
theorem alike_int {x : Int} {v : Value} (h : Alike (.int .i64 x) v) : ∃ y, v = .int .i64 y := by
  rcases h with rfl | ⟨a, b, _, rfl⟩ | ⟨s, t, e, _⟩
  · exact ⟨_, rfl⟩
  · exact ⟨_, rfl⟩
  · cases e
theorem alike_str {s : ByteArray} {v : Value} (h : Alike (.string s) v) : ∃ y, v = .string y := by
  rcases h with rfl | ⟨a, b, e, _⟩ | ⟨s, t, _, rfl⟩
  · exact ⟨_, rfl⟩
  · cases e
  · exact ⟨_, rfl⟩
theorem alike_slice {A : Option Addr} {n c : Nat} {v : Value} (h : Alike (.slice A n c) v) : v = .slice A n c := by
  rcases h with rfl | ⟨a, b, e, _⟩ | ⟨s, t, e, _⟩
  · rfl
  · cases e
  · cases e
theorem STys.kept {w w' : World} {lo hi : Nat} {A : Option Addr} {n : Nat} (h : STys w lo hi A n) (hk : Kept lo hi w w') : STys w' lo hi A n := fun hn => by
  obtain ⟨g, cs, e, hl, hg, hc⟩ := h hn
  obtain ⟨cs', hg', hs, hq⟩ := hk.2.2 g cs 35 hg
  refine ⟨g, cs', e, hl, hg', fun i hi => ?_⟩
  obtain ⟨x, hx⟩ := hc i hi
  obtain ⟨v', hv', ha⟩ := hq i _ hx
  obtain ⟨y, rfl⟩ := alike_int ha
  exact ⟨y, hv'⟩
theorem SCts.kept {w w' : World} {lo hi : Nat} {A : Option Addr} {l : List Ct} (h : SCts w lo hi A l) (hk : Kept lo hi w w') : SCts w' lo hi A l := fun hn => by
  obtain ⟨g, cs, e, hl, hg, hc⟩ := h hn
  obtain ⟨cs', hg', hs, hq⟩ := hk.2.2 g cs 79 hg
  refine ⟨g, cs', e, hl, hg', fun k hkl => ?_⟩
  obtain ⟨s, A', cap, x, e0, e1, e2, e3⟩ := hc k hkl
  obtain ⟨v0, f0, a0⟩ := hq _ _ e0
  obtain ⟨v1, f1, a1⟩ := hq _ _ e1
  obtain ⟨v2, f2, a2⟩ := hq _ _ e2
  obtain ⟨s', rfl⟩ := alike_str a0
  obtain ⟨y, rfl⟩ := alike_int a2
  rw [alike_slice a1] at f1
  exact ⟨s', A', cap, y, f0, f1, f2, e3.kept hk⟩
theorem SDas.kept {w w' : World} {lo hi : Nat} {A : Option Addr} {l : List Da} (h : SDas w lo hi A l) (hk : Kept lo hi w w') : SDas w' lo hi A l := fun hn => by
  obtain ⟨g, cs, e, hl, hg, hc⟩ := h hn
  obtain ⟨cs', hg', hs, hq⟩ := hk.2.2 g cs 57 hg
  refine ⟨g, cs', e, hl, hg', fun k hkl => ?_⟩
  obtain ⟨s, A', cap, e0, e1, e3⟩ := hc k hkl
  obtain ⟨v0, f0, a0⟩ := hq _ _ e0
  obtain ⟨v1, f1, a1⟩ := hq _ _ e1
  obtain ⟨s', rfl⟩ := alike_str a0
  rw [alike_slice a1] at f1
  exact ⟨s', A', cap, f0, f1, e3.kept hk⟩
theorem FTys.shape {w : World} {lo g : Nat} {l : List Ty} (h : FTys w lo g l) : STys w lo w.heap.size (some ⟨g, 0, none⟩) l.length := fun _ => by
  obtain ⟨h1, h2, cs, h3, h4, h5⟩ := h
  refine ⟨g, cs, rfl, ⟨h1, heap_lt h3⟩, h3, fun i hi => ?_⟩
  obtain ⟨a, b⟩ := h5 (i / 2) (by omega)
  rcases (show i = i / 2 * 2 ∨ i = i / 2 * 2 + 1 by omega) with e | e
  · rw [e]; exact ⟨_, a⟩
  · rw [e]; exact ⟨_, b⟩
theorem FCts.shape {w : World} {lo g : Nat} {l : List Ct} (h : FCts w lo g l) : SCts w lo w.heap.size (some ⟨g, 0, none⟩) l := fun _ => by
  obtain ⟨h1, h2, cs, h3, h4, h5⟩ := h
  refine ⟨g, cs, rfl, ⟨h1, heap_lt h3⟩, h3, fun k hk => ?_⟩
  obtain ⟨g', e0, e1, e2, e3, e4⟩ := h5 k hk
  exact ⟨_, _, _, _, e0, e1, e2, e4.shape⟩
theorem FDas.shape {w : World} {lo g : Nat} {l : List Da} (h : FDas w lo g l) : SDas w lo w.heap.size (some ⟨g, 0, none⟩) l := fun _ => by
  obtain ⟨h1, h2, cs, h3, h4, h5⟩ := h
  refine ⟨g, cs, rfl, ⟨h1, heap_lt h3⟩, h3, fun k hk => ?_⟩
  obtain ⟨g', e0, e1, e3, e4⟩ := h5 k hk
  exact ⟨_, _, _, e0, e1, e4.shape⟩
set_option maxHeartbeats 800000 in
theorem markTypeS_any (A : Option Addr) (n cap lo hi : Nat) (k : Int) (w : World) (hn : n ≤ 1048576) (h0 : 0 ≤ k) (h1 : k ≤ 4194304) (hr : STys w lo hi A n) :
    Calls Tryz.prog 41 #[.slice A n cap, .int .i64 k] w fun e w' => e = .returned (.int .i64 (k + 2 * n)) ∧ Kept lo hi w w' := by
  have Hr := Lib.hid hr
  clear hr
  go_enter Tryz.func41, Tryz.ntmps41
  go_wp2_with fail
  go_loopw [1, 5] (fun q i wr => ∃ j : Nat, j ≤ n ∧ i = .int .i64 j ∧ q = .int .i64 (k + 2 * j) ∧ Kept lo hi w wr) (fun _ i _ => n - (intOf i).toNat)
  case atStart => exact ⟨0, by omega, rfl, by simp, Kept.refl _ _ _⟩
  case round =>
    obtain ⟨j, hj, rfl, rfl, hk⟩ := hrel
    have HK := Lib.hid hk
    clear hk
    by_cases hlt : j < n
    · obtain ⟨g, cs, rfl, hlo, hg, hc⟩ := (Hr.out.kept HK.out) (by omega)
      obtain ⟨x0, e0⟩ := hc (j * 2) (by omega)
      obtain ⟨x1, e1⟩ := hc (j * 2 + 1) (by omega)
      have c0 : wr.cell? ⟨g, j * 2, none⟩ = some (.int .i64 x0) := (cell_of_blk hg _).trans e0
      have c1 : wr.cell? ⟨g, j * 2 + 1, none⟩ = some (.int .i64 x1) := (cell_of_blk hg _).trans e1
      have z0 := frozen_of_row wr g (j * 2) cs 35 hg
      have z1 := frozen_of_row wr g (j * 2 + 1) cs 35 hg
      have K1 : Hid (Kept lo hi wr (wr.setCell ⟨g, j * 2, none⟩ (.int .i64 (k + 2 * j)))) := Kept.set hg hlo e0 (.inr (.inl ⟨_, _, rfl, rfl⟩))
      obtain ⟨cs', hg', hs', hq⟩ := K1.out.2.2 g cs 35 hg
      obtain ⟨v1, f1, a1⟩ := hq _ _ e1
      obtain ⟨y1, rfl⟩ := alike_int a1
      have K2 : Hid (Kept lo hi wr ((wr.setCell ⟨g, j * 2, none⟩ (.int .i64 (k + 2 * j))).setCell ⟨g, j * 2 + 1, none⟩ (.int .i64 (k + 2 * j + 1)))) := K1.out.trans (Kept.set hg' hlo f1 (.inr (.inl ⟨_, _, rfl, rfl⟩)))
      clear hg hc e0 e1 hg' hs' hq f1 a1
      go_wp2_with fail
      go_roundw
      case rel => exact ⟨j + 1, by omega, by go_num, by congr 1; push_cast; omega, HK.out.trans K2.out⟩
      case measure => simp [intOf]; omega
    · have he : j = n := by omega
      have HE := Lib.hid he
      clear he
      go_wp2_with fail
      go_ret
      exact ⟨ret_i64 (by rw [HE.out]), HK.out⟩
def mC (c : Ct) : Nat := 2 + 2 * c.args.length
def mD (d : Da) : Nat := 1 + (d.ctors.map mC).sum
set_option maxHeartbeats 1600000 in
theorem markCtorS_any (A : Option Addr) (l : List Ct) (cap lo hi : Nat) (k : Int) (w : World) (hlo : lo ≤ w.heap.size) (hn : l.length ≤ 1048576) (ha : ∀ i (h : i < l.length), l[i].args.length ≤ 1048576) (h0 : 1 ≤ k) (h1 : k + ((l.map mC).sum : Nat) ≤ 4194304) (hr : SCts w lo hi A l) :
    Calls Tryz.prog 30 #[.slice A l.length cap, .int .i64 k] w fun e w' => e = .returned (.int .i64 (k + ((l.map mC).sum : Nat))) ∧ Kept lo hi w w' := by
  have Hr := Lib.hid hr
  have HA := Lib.hid ha
  clear hr ha
  go_enter Tryz.func30, Tryz.ntmps30
  go_wp2_with fail
  go_loopw [1, 5] (fun q i wr => ∃ j : Nat, j ≤ l.length ∧ i = .int .i64 j ∧ ∃ S : Nat, q = .int .i64 (k + S) ∧ Hid (S = ((l.take j).map mC).sum) ∧ Kept lo hi w wr) (fun _ i _ => l.length - (intOf i).toNat)
  case atStart => exact ⟨0, by omega, rfl, 0, by simp, by unfold Hid; simp, Kept.refl _ _ _⟩
  case round =>
    obtain ⟨j, hj, rfl, S, rfl, HS, hk⟩ := hrel
    have HK := Lib.hid hk
    have hlw : lo ≤ wr.heap.size := Nat.le_trans hlo hk.1.size
    clear hk
    by_cases hlt : j < l.length
    · have HT := Lib.hid (sum_take_succ mC l j hlt)
      have HL := Lib.hid (sum_take_le mC l (j + 1))
      have HM : Hid (mC l[j] = 2 + 2 * l[j].args.length) := rfl
      have hma := HA.out j hlt
      have hSb : k + (S : Int) + (2 + 2 * l[j].args.length) ≤ 4194304 := by
        have a1 := HT.out; have a2 := HL.out; have a3 := HM.out; have a4 := HS.out; omega
      obtain ⟨g, cs, rfl, hgl, hg, hc⟩ := (Hr.out.kept HK.out) (by omega)
      have hgw := heap_lt hg
      clear hg hc
      have hSh : ∀ W, Kept lo hi w W → ∃ (cs : Array Value) (s : ByteArray) (A' : Option Addr) (cp : Nat) (x : Int), W.heap[g]? = some (.cells cs 79 (0, 0)) ∧ cs[j * 3]? = some (.string s) ∧ cs[j * 3 + 1]? = some (.slice A' l[j].args.length cp) ∧ cs[j * 3 + 2]? = some (.int .i64 x) ∧ STys W lo hi A' l[j].args.length := fun W hW => by
        obtain ⟨g', cs', e, _, hg', hc'⟩ := (Hr.out.kept hW) (by omega)
        cases e
        obtain ⟨s, A', cp, x, e0, e1, e2, e3⟩ := hc' j hlt
        exact ⟨cs', s, A', cp, x, hg', e0, e1, e2, e3⟩
      have HSh := Lib.hid hSh
      clear hSh
      go_wp2_with fail
      refine (markText_any _ _ (by omega) (by omega)).mono ?_
      rintro e w1 ⟨s1, rfl, _, hb1⟩
      have K1 := Lib.hid (HK.out.trans (Kept.below hb1 hlw))
      obtain ⟨cs1, s0, A1, cp1, x1, hg1, e0, e1, e2, hty⟩ := HSh.out w1 K1.out
      have c0 := (cell_of_blk hg1 (j * 3)).trans e0
      have c1 := (cell_of_blk hg1 (j * 3 + 1)).trans e1
      have z0 := frozen_of_row w1 g (j * 3) cs1 79 hg1
      have K2 : Hid (Kept lo hi w1 (w1.setCell ⟨g, j * 3, none⟩ (.string s1))) := Kept.set hg1 hgl e0 (.inr (.inr ⟨_, _, rfl, rfl⟩))
      have HTy := Lib.hid (hty.kept K2.out)
      clear hg1 e0 e1 e2 hty hb1
      go_wp2_with fail
      refine (markTypeS_any _ _ _ lo hi _ _ hma (by omega) (by omega) HTy.out).mono ?_
      rintro e w2 ⟨rfl, hk3⟩
      have K3 := Lib.hid ((K1.out.trans K2.out).trans hk3)
      clear hk3 c0 c1 z0
      obtain ⟨cs2, s2, A2, cp2, x2, hg2, e0, e1, e2, hty⟩ := HSh.out w2 K3.out
      have c2 := (cell_of_blk hg2 (j * 3 + 2)).trans e2
      have z2 := frozen_of_row w2 g (j * 3 + 2) cs2 79 hg2
      have K4 : Hid (∀ y, Kept lo hi w (w2.setCell ⟨g, j * 3 + 2, none⟩ (.int .i64 y))) := fun y => K3.out.trans (Kept.set hg2 hgl e2 (.inr (.inl ⟨_, _, rfl, rfl⟩)))
      clear hg2 e0 e1 e2 hty
      go_wp2_with fail
      go_roundw
      case rel => exact ⟨j + 1, by omega, by go_num, S + (2 + 2 * l[j].args.length), by congr 1; push_cast; omega, by unfold Hid; rw [HT.out, HM.out, HS.out], K4.out _⟩
      case measure => simp [intOf]; omega
    · go_wp2_with fail
      go_ret
      exact ⟨ret_i64 (by rw [HS.out, List.take_of_length_le (by omega)]), HK.out⟩
end Go.Proofs.YtbdiahnelnbdnaaGreat
/-
  Worlds that differ only in some blocks. No statement is proved here.
-/
namespace Go.Proofs.YtbdiahnelnbdnaaGreat
open Go.RowKit
set_option maxRecDepth 100000
set_option linter.unusedVariables false
/-- Only blocks of P have turned, and blocks that are new. -/
def Fr (P : Nat → Prop) (w w' : World) : Prop := w'.os = w.os ∧ w'.tape = w.tape ∧ w'.output = w.output ∧ w.heap.size ≤ w'.heap.size ∧ ∀ b, b < w.heap.size → ¬ P b → w'.heap[b]? = w.heap[b]?
theorem Fr.refl (P : Nat → Prop) (w : World) : Fr P w w := ⟨rfl, rfl, rfl, Nat.le_refl _, fun _ _ _ => rfl⟩
theorem Fr.size {P : Nat → Prop} {w w' : World} (h : Fr P w w') : w.heap.size ≤ w'.heap.size := h.2.2.2.1
theorem Fr.trans {P : Nat → Prop} {a b c : World} (h : Fr P a b) (h' : Fr P b c) : Fr P a c :=
  ⟨h'.1.trans h.1, h'.2.1.trans h.2.1, h'.2.2.1.trans h.2.2.1, Nat.le_trans h.size h'.size, fun x hx hp => (h'.2.2.2.2 x (Nat.lt_of_lt_of_le hx h.size) hp).trans (h.2.2.2.2 x hx hp)⟩
theorem Fr.wide {P P' : Nat → Prop} {w w' : World} (h : Fr P w w') (hp : ∀ b, P b → P' b) : Fr P' w w' :=
  ⟨h.1, h.2.1, h.2.2.1, h.size, fun x hx hq => h.2.2.2.2 x hx (fun h' => hq (hp x h'))⟩
theorem Fr.block {P : Nat → Prop} {w w' : World} (h : Fr P w w') {b : Nat} {o : Obj} (hb : w.heap[b]? = some o) (hp : ¬ P b) : w'.heap[b]? = some o := (h.2.2.2.2 b (heap_lt hb) hp).trans hb
theorem Fr.below {P : Nat → Prop} {w w' : World} (h : Below w.heap.size w w') : Fr P w w' := ⟨h.os, h.tape, h.output, h.size, fun b hb _ => h.block b hb⟩
theorem Fr.to {P : Nat → Prop} {w w' : World} {B : Nat} (h : Fr P w w') (hB : B ≤ w.heap.size) (hp : ∀ b, b < B → ¬ P b) : Below B w w' :=
  ⟨h.1, h.2.1, h.2.2.1, h.size, fun b hb => h.2.2.2.2 b (Nat.lt_of_lt_of_le hb hB) (hp b hb)⟩
theorem Fr.set {P : Nat → Prop} (w : World) (g i : Nat) (u : Value) (hp : P g) : Fr P w (w.setCell ⟨g, i, none⟩ u) := by
  have h := (Below.refl 0 w).setCell (p := ⟨g, i, none⟩) (Nat.zero_le _) u
  exact ⟨h.os, h.tape, h.output, h.size, fun b _ hb => Below.heap_setCell w ⟨g, i, none⟩ u b (fun e => hb (e ▸ hp))⟩
theorem Fr.grown {P : Nat → Prop} {w w' : World} {row : Option Nat} (h : w.grownBy w' row) (hp : ∀ b, some b = row → P b) : Fr P w w' :=
  ⟨h.os, h.tape, h.output, h.size, fun b hb hq => h.block b hb (fun e => hq (hp b e))⟩
theorem Fr.kept {lo hi : Nat} {w w' : World} (h : Kept lo hi w w') : Fr (fun b => lo ≤ b ∧ b < hi) w w' := by
  refine ⟨h.1.os, h.1.tape, h.1.output, h.1.size, fun b hb hq => ?_⟩
  by_cases e : b < lo
  · exact h.1.block b e
  · exact h.2.1 b (by have : ¬ b < hi := fun h' => hq ⟨by omega, h'⟩; omega) hb
/-- The blocks that are new between two worlds. -/
def Nw (w w' : World) : Nat → Prop := fun b => w.heap.size ≤ b ∧ b < w'.heap.size
end Go.Proofs.YtbdiahnelnbdnaaGreat
/-
  Patterns as plain trees, and as they lie in memory. No statement is proved here.
-/
namespace Go.Proofs.YtbdiahnelnbdnaaGreat
open Go.RowKit
set_option linter.unusedVariables false
inductive Pt where
  | mk (op ctor n m var : Int) (kids : List Pt)
instance : Inhabited Pt := ⟨.mk 0 0 0 0 0 []⟩
def Pt.op : Pt → Int | .mk x _ _ _ _ _ => x
def Pt.ctor : Pt → Int | .mk _ x _ _ _ _ => x
def Pt.n : Pt → Int | .mk _ _ x _ _ _ => x
def Pt.m : Pt → Int | .mk _ _ _ x _ _ => x
def Pt.var : Pt → Int | .mk _ _ _ _ x _ => x
def Pt.kids : Pt → List Pt | .mk _ _ _ _ _ ks => ks
mutual
/-- How many nodes lie below a node. -/
def wP : Pt → Nat | .mk _ _ _ _ _ ks => wPs ks
def wPs : List Pt → Nat | [] => 0 | v :: vs => 1 + wP v + wPs vs
end
theorem wP_kids (v : Pt) : wP v = wPs v.kids := by cases v; rw [wP]; rfl
theorem wPs_sum : ∀ l : List Pt, wPs l = l.length + (l.map wP).sum
  | [] => by rw [wPs]; rfl
  | v :: vs => by rw [wPs, wPs_sum vs]; simp only [List.length_cons, List.map_cons, List.sum_cons]; omega
/-- A tree in 6 cells, its parts in blocks below B; at most d levels. -/
def RPl : Nat → World → Nat → Nat → Nat → Pt → Prop
  | 0, _, _, _, _, _ => False
  | d + 1, w, B, b, o, v => ∃ A cap, w.cell? ⟨b, o, none⟩ = some (.int .i64 v.op) ∧ w.cell? ⟨b, o + 1, none⟩ = some (.int .i64 v.ctor) ∧ w.cell? ⟨b, o + 2, none⟩ = some (.int .i64 v.n) ∧ w.cell? ⟨b, o + 3, none⟩ = some (.int .i64 v.m) ∧ w.cell? ⟨b, o + 4, none⟩ = some (.int .i64 v.var) ∧ w.cell? ⟨b, o + 5, none⟩ = some (.slice A v.kids.length cap) ∧ v.kids.length ≤ maxLen ∧ ∀ k (h : k < v.kids.length), ∃ b' off, A = some ⟨b', off, none⟩ ∧ b' < B ∧ RPl d w B b' (off + k * 6) v.kids[k]
def RPs (d : Nat) (w : World) (B : Nat) (A : Option Addr) (l : List Pt) : Prop := l.length ≤ maxLen ∧ ∀ k (h : k < l.length), ∃ b off, A = some ⟨b, off, none⟩ ∧ b < B ∧ RPl d w B b (off + k * 6) l[k]
section
variable {w w' : World} {B B' : Nat} {A : Option Addr}
theorem RPl.parts {d b o : Nat} {v : Pt} (h : RPl d w B b o v) : ∃ d', d = d' + 1 ∧ ∃ A cap, w.cell? ⟨b, o, none⟩ = some (.int .i64 v.op) ∧ w.cell? ⟨b, o + 1, none⟩ = some (.int .i64 v.ctor) ∧ w.cell? ⟨b, o + 2, none⟩ = some (.int .i64 v.n) ∧ w.cell? ⟨b, o + 3, none⟩ = some (.int .i64 v.m) ∧ w.cell? ⟨b, o + 4, none⟩ = some (.int .i64 v.var) ∧ w.cell? ⟨b, o + 5, none⟩ = some (.slice A v.kids.length cap) ∧ RPs d' w B A v.kids := by
  cases d with
  | zero => exact h.elim
  | succ d =>
    obtain ⟨A, cap, h0, h1, h2, h3, h4, h5, h8, h9⟩ := h
    exact ⟨d, rfl, A, cap, h0, h1, h2, h3, h4, h5, h8, h9⟩
theorem RPl.keep : ∀ (d : Nat) {b o : Nat} {v : Pt}, RPl d w B b o v → b < B → (∀ p : Addr, p.block < B → w'.cell? p = w.cell? p) → B ≤ B' → RPl d w' B' b o v
  | 0, _, _, _, h, _, _, _ => h.elim
  | d + 1, _, _, _, ⟨A, cap, h0, h1, h2, h3, h4, h5, h8, h9⟩, hb, hk, hB => ⟨A, cap, (hk _ hb).trans h0, (hk _ hb).trans h1, (hk _ hb).trans h2, (hk _ hb).trans h3, (hk _ hb).trans h4, (hk _ hb).trans h5, h8, fun k hk' => by
    obtain ⟨b', off, e, hb', hv⟩ := h9 k hk'
    exact ⟨b', off, e, by omega, RPl.keep d hv hb' hk hB⟩⟩
theorem RPs.keep {d : Nat} {l : List Pt} (h : RPs d w B A l) (hk : ∀ p : Addr, p.block < B → w'.cell? p = w.cell? p) (hB : B ≤ B') : RPs d w' B' A l :=
  ⟨h.1, fun k hk' => by
    obtain ⟨b, off, e, hb, hv⟩ := h.2 k hk'
    exact ⟨b, off, e, by omega, hv.keep d hb hk hB⟩⟩
theorem RPs.below {d B0 : Nat} {l : List Pt} (h : RPs d w B A l) (hb : Below B0 w w') (hB : B ≤ B0) : RPs d w' B A l := h.keep (fun _ hp => hb.cell (Nat.lt_of_lt_of_le hp hB)) (Nat.le_refl _)
theorem RPs.at_ {d : Nat} {l : List Pt} (h : RPs d w w.heap.size A l) (hb : Below w.heap.size w w') : RPs d w' w'.heap.size A l := h.keep (fun _ hp => hb.cell hp) hb.size
theorem RPs.nil {d : Nat} : RPs d w B A [] := ⟨Nat.zero_le _, fun k h => absurd h (Nat.not_lt_zero _)⟩
theorem RPl.up : ∀ (d : Nat) {b o : Nat} {v : Pt}, RPl d w B b o v → RPl (d + 1) w B b o v
  | 0, _, _, _, h => h.elim
  | d + 1, _, _, _, ⟨A, cap, h0, h1, h2, h3, h4, h5, h8, h9⟩ => ⟨A, cap, h0, h1, h2, h3, h4, h5, h8, fun k hk' => by
    obtain ⟨b', off, e, hb', hv⟩ := h9 k hk'
    exact ⟨b', off, e, hb', RPl.up d hv⟩⟩
theorem RPl.more {d d' b o : Nat} {v : Pt} (h : RPl d w B b o v) (hd : d ≤ d') : RPl d' w B b o v := by
  obtain ⟨e, rfl⟩ := Nat.exists_eq_add_of_le hd
  clear hd
  induction e with
  | zero => exact h
  | succ e ih => exact RPl.up _ ih
theorem RPs.more {d d' : Nat} {l : List Pt} (h : RPs d w B A l) (hd : d ≤ d') : RPs d' w B A l :=
  ⟨h.1, fun k hk => by obtain ⟨b, off, e, hb, hv⟩ := h.2 k hk; exact ⟨b, off, e, hb, hv.more hd⟩⟩
end
end Go.Proofs.YtbdiahnelnbdnaaGreat
/-
  Pt trees in blocks of their own: no part has a block of another part. No statement is proved here.
-/
namespace Go.Proofs.YtbdiahnelnbdnaaGreat
open Go.RowKit
set_option maxRecDepth 100000
set_option linter.unusedVariables false
/-- Trees in blocks of P; no part has a block of another part. -/
def OPs : Nat → World → (Nat → Prop) → Option Addr → List Pt → Prop
  | 0, _, _, _, _ => False
  | d + 1, w, P, A, l => l.length ≤ maxLen ∧ (0 < l.length → ∃ (g : Nat) (cs : Array Value) (Q : Nat → Nat → Prop), A = some ⟨g, 0, none⟩ ∧ P g ∧ w.heap[g]? = some (.cells cs 38 (0, 0)) ∧ (∀ k b, k < l.length → Q k b → P b ∧ b ≠ g ∧ ∀ j, j < l.length → j ≠ k → ¬ Q j b) ∧ ∀ k (h : k < l.length), ∃ A' cap, cs[k * 6]? = some (.int .i64 l[k].op) ∧ cs[k * 6 + 1]? = some (.int .i64 l[k].ctor) ∧ cs[k * 6 + 2]? = some (.int .i64 l[k].n) ∧ cs[k * 6 + 3]? = some (.int .i64 l[k].m) ∧ cs[k * 6 + 4]? = some (.int .i64 l[k].var) ∧ cs[k * 6 + 5]? = some (.slice A' l[k].kids.length cap) ∧ OPs d w (Q k) A' l[k].kids)
def OPp (d : Nat) (w : World) (P : Nat → Prop) (g : Nat) (cs : Array Value) (Q : Nat → Nat → Prop) (l : List Pt) : Prop := P g ∧ w.heap[g]? = some (.cells cs 38 (0, 0)) ∧ (∀ k b, k < l.length → Q k b → P b ∧ b ≠ g ∧ ∀ j, j < l.length → j ≠ k → ¬ Q j b) ∧ ∀ k (h : k < l.length), ∃ A' cap, cs[k * 6]? = some (.int .i64 l[k].op) ∧ cs[k * 6 + 1]? = some (.int .i64 l[k].ctor) ∧ cs[k * 6 + 2]? = some (.int .i64 l[k].n) ∧ cs[k * 6 + 3]? = some (.int .i64 l[k].m) ∧ cs[k * 6 + 4]? = some (.int .i64 l[k].var) ∧ cs[k * 6 + 5]? = some (.slice A' l[k].kids.length cap) ∧ OPs d w (Q k) A' l[k].kids
theorem OPs.parts {d : Nat} {w : World} {P : Nat → Prop} {A : Option Addr} {l : List Pt} (h : OPs d w P A l) : ∃ d', d = d' + 1 ∧ l.length ≤ maxLen ∧ (0 < l.length → ∃ g cs Q, A = some ⟨g, 0, none⟩ ∧ OPp d' w P g cs Q l) := by
  cases d with
  | zero => exact h.elim
  | succ d => exact ⟨d, rfl, h⟩
theorem OPs.mk {d : Nat} {w : World} {P : Nat → Prop} {A : Option Addr} {l : List Pt} (hl : l.length ≤ maxLen) (h : 0 < l.length → ∃ g cs Q, A = some ⟨g, 0, none⟩ ∧ OPp d w P g cs Q l) : OPs (d + 1) w P A l := ⟨hl, h⟩
theorem OPs.nil (d : Nat) (w : World) (P : Nat → Prop) (A : Option Addr) : OPs (d + 1) w P A [] := ⟨Nat.zero_le _, fun h => absurd h (Nat.not_lt_zero _)⟩
theorem OPs.wide : ∀ (d : Nat) {w : World} {P P' : Nat → Prop} {A : Option Addr} {l : List Pt}, OPs d w P A l → (∀ b, P b → P' b) → OPs d w P' A l
  | 0, _, _, _, _, _, h, _ => h.elim
  | d + 1, _, _, _, _, _, ⟨h1, h2⟩, hp => ⟨h1, fun hl => by
    obtain ⟨g, cs, Q, e, hg, hh, hq, hc⟩ := h2 hl
    exact ⟨g, cs, Q, e, hp g hg, hh, fun k b hk hb => ⟨hp b (hq k b hk hb).1, (hq k b hk hb).2⟩, hc⟩⟩
theorem OPs.fr : ∀ (d : Nat) {w w' : World} {P P' : Nat → Prop} {A : Option Addr} {l : List Pt}, OPs d w P A l → Fr P' w w' → (∀ b, P b → ¬ P' b) → OPs d w' P A l
  | 0, _, _, _, _, _, _, h, _, _ => h.elim
  | d + 1, _, _, _, _, _, _, ⟨h1, h2⟩, hf, hp => ⟨h1, fun hl => by
    obtain ⟨g, cs, Q, e, hg, hh, hq, hc⟩ := h2 hl
    refine ⟨g, cs, Q, e, hg, hf.block hh (hp g hg), hq, fun k hk => ?_⟩
    obtain ⟨A', cap, e0, e1, e2, e3, e4, e8, e9⟩ := hc k hk
    exact ⟨A', cap, e0, e1, e2, e3, e4, e8, OPs.fr d e9 hf (fun b hb => hp b (hq k b hk hb).1)⟩⟩
theorem OPs.up : ∀ (d : Nat) {w : World} {P : Nat → Prop} {A : Option Addr} {l : List Pt}, OPs d w P A l → OPs (d + 1) w P A l
  | 0, _, _, _, _, h => h.elim
  | d + 1, _, _, _, _, ⟨h1, h2⟩ => ⟨h1, fun hl => by
    obtain ⟨g, cs, Q, e, hg, hh, hq, hc⟩ := h2 hl
    refine ⟨g, cs, Q, e, hg, hh, hq, fun k hk => ?_⟩
    obtain ⟨A', cap, e0, e1, e2, e3, e4, e8, e9⟩ := hc k hk
    exact ⟨A', cap, e0, e1, e2, e3, e4, e8, OPs.up d e9⟩⟩
theorem OPs.more {d d' : Nat} {w : World} {P : Nat → Prop} {A : Option Addr} {l : List Pt} (h : OPs d w P A l) (hd : d ≤ d') : OPs d' w P A l := by
  obtain ⟨e, rfl⟩ := Nat.exists_eq_add_of_le hd
  clear hd
  induction e with
  | zero => exact h
  | succ e ih => exact OPs.up _ ih
theorem OPs.reads : ∀ (d : Nat) {w : World} {P : Nat → Prop} {A : Option Addr} {l : List Pt}, OPs (d + 1) w P A l → RPs d w w.heap.size A l
  | d, w, P, A, l, ⟨h1, h2⟩ => ⟨h1, fun k hk => by
    obtain ⟨g, cs, Q, e, hg, hh, hq, hc⟩ := h2 (by omega)
    obtain ⟨A', cap, e0, e1, e2, e3, e4, e8, e9⟩ := hc k hk
    refine ⟨g, 0, e, heap_lt hh, ?_⟩
    cases d with
    | zero => exact e9.elim
    | succ d =>
      obtain ⟨q1, q2⟩ := OPs.reads d e9
      exact ⟨A', cap, by rw [cell_of_blk hh, Nat.zero_add]; exact e0, by rw [cell_of_blk hh, Nat.zero_add]; exact e1, by rw [cell_of_blk hh, Nat.zero_add]; exact e2, by rw [cell_of_blk hh, Nat.zero_add]; exact e3, by rw [cell_of_blk hh, Nat.zero_add]; exact e4, by rw [cell_of_blk hh, Nat.zero_add]; exact e8, q1, q2⟩⟩
/-- The row of a list while it is made: k parts are there, each with blocks of its own, from lo on. -/
def RowP (d : Nat) (w : World) (lo : Nat) (og : Option Nat) (Q : Nat → Nat → Prop) (l : List Pt) (xs : List Value) (k : Nat) : Prop := ∀ j (h : j < l.length), j < k → (∀ b, Q j b → lo ≤ b ∧ b < w.heap.size ∧ some b ≠ og ∧ ∀ i, i < k → i ≠ j → ¬ Q i b) ∧ ∃ A' cap, xs[j * 6]? = some (.int .i64 l[j].op) ∧ xs[j * 6 + 1]? = some (.int .i64 l[j].ctor) ∧ xs[j * 6 + 2]? = some (.int .i64 l[j].n) ∧ xs[j * 6 + 3]? = some (.int .i64 l[j].m) ∧ xs[j * 6 + 4]? = some (.int .i64 l[j].var) ∧ xs[j * 6 + 5]? = some (.slice A' l[j].kids.length cap) ∧ OPs d w (Q j) A' l[j].kids
theorem RowP.zero (d : Nat) (w : World) (lo : Nat) (og : Option Nat) (Q : Nat → Nat → Prop) (l : List Pt) (xs : List Value) : RowP d w lo og Q l xs 0 := fun j _ h => absurd h (by omega)
theorem RowP.fr {d : Nat} {w w' : World} {lo : Nat} {og : Option Nat} {Q : Nat → Nat → Prop} {l : List Pt} {xs : List Value} {k : Nat} {P' : Nat → Prop} (h : RowP d w lo og Q l xs k) (hf : Fr P' w w') (hp : ∀ b, lo ≤ b → some b ≠ og → b < w.heap.size → ¬ P' b) : RowP d w' lo og Q l xs k := fun j hj hjk => by
  obtain ⟨h1, A', cap, e0, e1, e2, e3, e4, e8, e9⟩ := h j hj hjk
  refine ⟨fun b hb => ?_, A', cap, e0, e1, e2, e3, e4, e8, e9.fr d hf (fun b hb => ?_)⟩
  · obtain ⟨a1, a2, a3, a4⟩ := h1 b hb
    exact ⟨a1, Nat.lt_of_lt_of_le a2 hf.size, a3, a4⟩
  · obtain ⟨a1, a2, a3, a4⟩ := h1 b hb
    exact hp b a1 a3 a2
/-- One part more: its blocks are new. -/
theorem RowP.more {d : Nat} {w w' : World} {lo : Nat} {og : Option Nat} {Q : Nat → Nat → Prop} {l : List Pt} {xs xs' : List Value} {k cap : Nat} {A' : Option Addr} (h : RowP d w lo og Q l xs k) (hb : Below w.heap.size w w') (hk : k < l.length) (hlo : lo ≤ w.heap.size) (hog : ∀ g, og = some g → g < w.heap.size)
    (ho : OPs d w' (Nw w w') A' l[k].kids) (hx : ∀ j c, j < k → c < 6 → xs'[j * 6 + c]? = xs[j * 6 + c]?) (e0 : xs'[k * 6]? = some (.int .i64 l[k].op)) (e1 : xs'[k * 6 + 1]? = some (.int .i64 l[k].ctor)) (e2 : xs'[k * 6 + 2]? = some (.int .i64 l[k].n)) (e3 : xs'[k * 6 + 3]? = some (.int .i64 l[k].m)) (e4 : xs'[k * 6 + 4]? = some (.int .i64 l[k].var)) (e8 : xs'[k * 6 + 5]? = some (.slice A' l[k].kids.length cap)) :
    RowP d w' lo og (fun i => if i = k then Nw w w' else Q i) l xs' (k + 1) := by
  have h' := h.fr (P' := fun _ => False) (Fr.below hb) (fun _ _ _ _ h => h)
  intro j hj hjk
  by_cases e : j = k
  · subst e
    refine ⟨fun b hq => ?_, A', cap, e0, e1, e2, e3, e4, e8, ?_⟩
    · replace hq : (if j = j then Nw w w' else Q j) b := hq
      rw [if_pos rfl] at hq
      refine ⟨Nat.le_trans hlo hq.1, hq.2, fun e => ?_, fun i hi hij hqi => ?_⟩
      · have := hog b e.symm; have := hq.1; omega
      · replace hqi : (if i = j then Nw w w' else Q i) b := hqi
        rw [if_neg hij] at hqi
        have := ((h i (by omega) (by omega)).1 b hqi).2.1
        have := hq.1
        omega
    · show OPs d w' (if j = j then Nw w w' else Q j) A' l[j].kids
      rw [if_pos rfl]; exact ho
  · obtain ⟨h1, A2, c2, f0, f1, f2, f3, f4, f8, f9⟩ := h' j hj (by omega)
    refine ⟨fun b hq => ?_, A2, c2, (hx j 0 (by omega) (by omega)).trans f0, (hx j 1 (by omega) (by omega)).trans f1, (hx j 2 (by omega) (by omega)).trans f2, (hx j 3 (by omega) (by omega)).trans f3, (hx j 4 (by omega) (by omega)).trans f4, (hx j 5 (by omega) (by omega)).trans f8, ?_⟩
    · replace hq : (if j = k then Nw w w' else Q j) b := hq
      rw [if_neg e] at hq
      obtain ⟨a1, a2, a3, a4⟩ := h1 b hq
      refine ⟨a1, a2, a3, fun i hi hij hqi => ?_⟩
      replace hqi : (if i = k then Nw w w' else Q i) b := hqi
      by_cases e2 : i = k
      · rw [if_pos e2] at hqi
        have := ((h j hj (by omega)).1 b hq).2.1
        have := hqi.1
        omega
      · rw [if_neg e2] at hqi
        exact a4 i (by omega) hij hqi
    · show OPs d w' (if j = k then Nw w w' else Q j) A2 l[j].kids
      rw [if_neg e]; exact f9
theorem OPs.of_row {d : Nat} {w : World} {lo : Nat} {v : Value} {l : List Pt} {xs : List Value} {Q : Nat → Nat → Prop} (h : w.ownsRow lo 38 6 v l.length xs) (hx : RowP d w lo v.ownBlock Q l xs l.length) (hn : l.length ≤ 1048576) : ∃ A cap, v = .slice A l.length cap ∧ OPs (d + 1) w (fun b => lo ≤ b ∧ b < w.heap.size) A l := by
  rcases h.2 with ⟨h', h0⟩ | ⟨g, cap, cur, h', hb, hg, hnc, hcm, hcs, htake⟩
  · refine ⟨none, 0, by rw [h0]; exact h', by unfold maxLen; omega, fun hl => absurd hl (by omega)⟩
  · subst h'
    refine ⟨_, cap, rfl, by unfold maxLen; omega, fun _ => ⟨g, cur, Q, rfl, ⟨hb, heap_lt hg⟩, hg, fun k b hk hq => ?_, fun k hk => ?_⟩⟩
    · obtain ⟨a1, a2, a3, a4⟩ := (hx k hk hk).1 b hq
      exact ⟨⟨a1, a2⟩, fun e => a3 (by rw [e]; rfl), a4⟩
    · obtain ⟨_, A', c', e0, e1, e2, e3, e4, e8, e9⟩ := hx k hk hk
      have hat : ∀ i, i < l.length * 6 → cur[i]? = xs[i]? := fun i hi => by
        rw [← htake, List.getElem?_take_of_lt hi, Array.getElem?_toList]
      exact ⟨A', c', (hat _ (by omega)).trans e0, (hat _ (by omega)).trans e1, (hat _ (by omega)).trans e2, (hat _ (by omega)).trans e3, (hat _ (by omega)).trans e4, (hat _ (by omega)).trans e8, e9⟩
end Go.Proofs.YtbdiahnelnbdnaaGreat
/-
  Patterns as they lie in blocks of P, which they may have in common. No statement is proved here.
-/
namespace Go.Proofs.YtbdiahnelnbdnaaGreat
open Go.RowKit
set_option linter.unusedVariables false
/-- A tree in 6 cells, its parts in blocks of P; at most d levels. -/
def QPl : Nat → World → (Nat → Prop) → Nat → Nat → Pt → Prop
  | 0, _, _, _, _, _ => False
  | d + 1, w, P, b, o, v => ∃ A cap, w.cell? ⟨b, o, none⟩ = some (.int .i64 v.op) ∧ w.cell? ⟨b, o + 1, none⟩ = some (.int .i64 v.ctor) ∧ w.cell? ⟨b, o + 2, none⟩ = some (.int .i64 v.n) ∧ w.cell? ⟨b, o + 3, none⟩ = some (.int .i64 v.m) ∧ w.cell? ⟨b, o + 4, none⟩ = some (.int .i64 v.var) ∧ w.cell? ⟨b, o + 5, none⟩ = some (.slice A v.kids.length cap) ∧ v.kids.length ≤ maxLen ∧ ∀ k (h : k < v.kids.length), ∃ b' off, A = some ⟨b', off, none⟩ ∧ P b' ∧ QPl d w P b' (off + k * 6) v.kids[k]
def QPs (d : Nat) (w : World) (P : Nat → Prop) (A : Option Addr) (l : List Pt) : Prop := l.length ≤ maxLen ∧ ∀ k (h : k < l.length), ∃ b off, A = some ⟨b, off, none⟩ ∧ P b ∧ QPl d w P b (off + k * 6) l[k]
section
variable {w w' : World} {P P' : Nat → Prop} {A : Option Addr}
theorem QPl.parts {d b o : Nat} {v : Pt} (h : QPl d w P b o v) : ∃ d', d = d' + 1 ∧ ∃ A cap, w.cell? ⟨b, o, none⟩ = some (.int .i64 v.op) ∧ w.cell? ⟨b, o + 1, none⟩ = some (.int .i64 v.ctor) ∧ w.cell? ⟨b, o + 2, none⟩ = some (.int .i64 v.n) ∧ w.cell? ⟨b, o + 3, none⟩ = some (.int .i64 v.m) ∧ w.cell? ⟨b, o + 4, none⟩ = some (.int .i64 v.var) ∧ w.cell? ⟨b, o + 5, none⟩ = some (.slice A v.kids.length cap) ∧ QPs d' w P A v.kids := by
  cases d with
  | zero => exact h.elim
  | succ d =>
    obtain ⟨A, cap, h0, h1, h2, h3, h4, h5, h8, h9⟩ := h
    exact ⟨d, rfl, A, cap, h0, h1, h2, h3, h4, h5, h8, h9⟩
theorem QPl.keep : ∀ (d : Nat) {b o : Nat} {v : Pt}, QPl d w P b o v → P b → (∀ (p : Addr) (v : Value), P p.block → w.cell? p = some v → w'.cell? p = some v) → (∀ b, P b → P' b) → QPl d w' P' b o v
  | 0, _, _, _, h, _, _, _ => h.elim
  | d + 1, _, _, _, ⟨A, cap, h0, h1, h2, h3, h4, h5, h8, h9⟩, hb, hk, hB => ⟨A, cap, hk _ _ hb h0, hk _ _ hb h1, hk _ _ hb h2, hk _ _ hb h3, hk _ _ hb h4, hk _ _ hb h5, h8, fun k hk' => by
    obtain ⟨b', off, e, hb', hv⟩ := h9 k hk'
    exact ⟨b', off, e, hB _ hb', QPl.keep d hv hb' hk hB⟩⟩
theorem QPs.keep {d : Nat} {l : List Pt} (h : QPs d w P A l) (hk : ∀ (p : Addr) (v : Value), P p.block → w.cell? p = some v → w'.cell? p = some v) (hB : ∀ b, P b → P' b) : QPs d w' P' A l :=
  ⟨h.1, fun k hk' => by
    obtain ⟨b, off, e, hb, hv⟩ := h.2 k hk'
    exact ⟨b, off, e, hB _ hb, hv.keep d hb hk hB⟩⟩
theorem QPl.to {B : Nat} : ∀ (d : Nat) {b o : Nat} {v : Pt}, QPl d w P b o v → (∀ b, P b → b < B) → RPl d w B b o v
  | 0, _, _, _, h, _ => h.elim
  | d + 1, _, _, _, ⟨A, cap, h0, h1, h2, h3, h4, h5, h8, h9⟩, hB => ⟨A, cap, h0, h1, h2, h3, h4, h5, h8, fun k hk' => by
    obtain ⟨b', off, e, hb', hv⟩ := h9 k hk'
    exact ⟨b', off, e, hB _ hb', QPl.to d hv hB⟩⟩
theorem QPs.to {d B : Nat} {l : List Pt} (h : QPs d w P A l) (hB : ∀ b, P b → b < B) : RPs d w B A l :=
  ⟨h.1, fun k hk' => by
    obtain ⟨b, off, e, hb, hv⟩ := h.2 k hk'
    exact ⟨b, off, e, hB _ hb, hv.to d hB⟩⟩
theorem QPs.nil {d : Nat} : QPs d w P A [] := ⟨Nat.zero_le _, fun k h => absurd h (Nat.not_lt_zero _)⟩
theorem QPl.up : ∀ (d : Nat) {b o : Nat} {v : Pt}, QPl d w P b o v → QPl (d + 1) w P b o v
  | 0, _, _, _, h => h.elim
  | d + 1, _, _, _, ⟨A, cap, h0, h1, h2, h3, h4, h5, h8, h9⟩ => ⟨A, cap, h0, h1, h2, h3, h4, h5, h8, fun k hk' => by
    obtain ⟨b', off, e, hb', hv⟩ := h9 k hk'
    exact ⟨b', off, e, hb', QPl.up d hv⟩⟩
theorem QPl.more {d d' b o : Nat} {v : Pt} (h : QPl d w P b o v) (hd : d ≤ d') : QPl d' w P b o v := by
  obtain ⟨e, rfl⟩ := Nat.exists_eq_add_of_le hd
  clear hd
  induction e with
  | zero => exact h
  | succ e ih => exact QPl.up _ ih
theorem QPs.more {d d' : Nat} {l : List Pt} (h : QPs d w P A l) (hd : d ≤ d') : QPs d' w P A l :=
  ⟨h.1, fun k hk => by obtain ⟨b, off, e, hb, hv⟩ := h.2 k hk; exact ⟨b, off, e, hb, hv.more hd⟩⟩
/-- The cells of a list of patterns, as they stand in a row. -/
def RowQ (d : Nat) (w : World) (P : Nat → Prop) (l : List Pt) (xs : List Value) : Prop := xs.length = l.length * 6 ∧ ∀ j (h : j < l.length), ∃ A' cap, xs[j * 6]? = some (.int .i64 l[j].op) ∧ xs[j * 6 + 1]? = some (.int .i64 l[j].ctor) ∧ xs[j * 6 + 2]? = some (.int .i64 l[j].n) ∧ xs[j * 6 + 3]? = some (.int .i64 l[j].m) ∧ xs[j * 6 + 4]? = some (.int .i64 l[j].var) ∧ xs[j * 6 + 5]? = some (.slice A' l[j].kids.length cap) ∧ QPs d w P A' l[j].kids
theorem RowQ.keep {d : Nat} {l : List Pt} {xs : List Value} (h : RowQ d w P l xs) (hk : ∀ (p : Addr) (v : Value), P p.block → w.cell? p = some v → w'.cell? p = some v) (hB : ∀ b, P b → P' b) : RowQ d w' P' l xs :=
  ⟨h.1, fun j hj => by
    obtain ⟨A', cap, e0, e1, e2, e3, e4, e5, e6⟩ := h.2 j hj
    exact ⟨A', cap, e0, e1, e2, e3, e4, e5, e6.keep hk hB⟩⟩
theorem RowQ.nil (d : Nat) (w : World) (P : Nat → Prop) : RowQ d w P [] [] := ⟨rfl, fun j h => absurd h (Nat.not_lt_zero _)⟩
theorem RowQ.one {d : Nat} {v : Pt} {A : Option Addr} {cap : Nat} (h : QPs d w P A v.kids) : RowQ d w P [v] [.int .i64 v.op, .int .i64 v.ctor, .int .i64 v.n, .int .i64 v.m, .int .i64 v.var, .slice A v.kids.length cap] :=
  ⟨rfl, fun j hj => by
    have : j = 0 := by simp at hj; omega
    subst this
    exact ⟨A, cap, rfl, rfl, rfl, rfl, rfl, rfl, h⟩⟩
theorem RowQ.app {d : Nat} {l l2 : List Pt} {xs ys : List Value} (h : RowQ d w P l xs) (k : RowQ d w P l2 ys) : RowQ d w P (l ++ l2) (xs ++ ys) :=
  ⟨by rw [List.length_append, List.length_append, h.1, k.1]; omega, fun j hj => by
    by_cases e : j < l.length
    · obtain ⟨A', cap, e0, e1, e2, e3, e4, e5, e6⟩ := h.2 j e
      have hx := h.1
      refine ⟨A', cap, ?_⟩
      rw [List.getElem_append_left e]
      refine ⟨?_, ?_, ?_, ?_, ?_, ?_, e6⟩ <;> rw [List.getElem?_append_left (by omega)] <;> assumption
    · have hj2 : j - l.length < l2.length := by rw [List.length_append] at hj; omega
      obtain ⟨A', cap, e0, e1, e2, e3, e4, e5, e6⟩ := k.2 (j - l.length) hj2
      have hx := h.1
      refine ⟨A', cap, ?_⟩
      rw [List.getElem_append_right (by omega)]
      refine ⟨?_, ?_, ?_, ?_, ?_, ?_, e6⟩ <;> rw [List.getElem?_append_right (by omega)]
      · rw [show j * 6 - xs.length = (j - l.length) * 6 by omega]; exact e0
      · rw [show j * 6 + 1 - xs.length = (j - l.length) * 6 + 1 by omega]; exact e1
      · rw [show j * 6 + 2 - xs.length = (j - l.length) * 6 + 2 by omega]; exact e2
      · rw [show j * 6 + 3 - xs.length = (j - l.length) * 6 + 3 by omega]; exact e3
      · rw [show j * 6 + 4 - xs.length = (j - l.length) * 6 + 4 by omega]; exact e4
      · rw [show j * 6 + 5 - xs.length = (j - l.length) * 6 + 5 by omega]; exact e5⟩
theorem RowQ.take {d : Nat} {l : List Pt} {xs : List Value} (h : RowQ d w P l xs) (n : Nat) : RowQ d w P (l.take n) (xs.take (n * 6)) :=
  ⟨by rw [List.length_take, List.length_take, h.1]; omega, fun j hj => by
    have hj' : j < n ∧ j < l.length := by rw [List.length_take] at hj; omega
    obtain ⟨A', cap, e0, e1, e2, e3, e4, e5, e6⟩ := h.2 j hj'.2
    refine ⟨A', cap, ?_⟩
    rw [List.getElem_take]
    refine ⟨?_, ?_, ?_, ?_, ?_, ?_, e6⟩ <;> rw [List.getElem?_take_of_lt (by omega)] <;> assumption⟩
theorem RowQ.reads {d lo : Nat} {l : List Pt} {xs : List Value} {v : Value} (h : RowQ d w P l xs) (ho : w.ownsRow lo 38 6 v l.length xs) (hg : ∀ g, v.ownBlock = some g → P g) (hl : l.length ≤ maxLen) : ∃ A cap, v = .slice A l.length cap ∧ QPs (d + 1) w P A l := by
  rcases ho.2 with ⟨h', h0⟩ | ⟨g, cap, cur, h', hb, hgb, hnc, hcm, hcs, htake⟩
  · have h0' : l = [] := List.length_eq_zero_iff.1 h0
    subst h0'
    exact ⟨none, 0, h', QPs.nil⟩
  · refine ⟨_, cap, h', hl, fun k hk => ⟨g, 0, rfl, hg g (by rw [h']; rfl), ?_⟩⟩
    obtain ⟨A', c', e0, e1, e2, e3, e4, e5, e6⟩ := h.2 k hk
    have hat : ∀ i, i < l.length * 6 → w.cell? ⟨g, i, none⟩ = xs[i]? := fun i hi => by
      rw [cell_of_blk hgb, ← htake, List.getElem?_take_of_lt hi, Array.getElem?_toList]
    rw [Nat.zero_add]
    exact ⟨A', c', (hat _ (by omega)).trans e0, (hat _ (by omega)).trans e1, (hat _ (by omega)).trans e2, (hat _ (by omega)).trans e3, (hat _ (by omega)).trans e4, (hat _ (by omega)).trans e5, e6.1, e6.2⟩
end
/-- All ways to choose an element of each list; the first list varies slowest. -/
def prods : List (List Pt) → List (List Pt) | [] => [[]] | l :: ls => l.flatMap fun x => (prods ls).map (x :: ·)
theorem prods_nil : ∀ {ls : List (List Pt)}, [] ∈ ls → prods ls = []
  | l :: ls, h => by
    rw [prods]
    rcases List.mem_cons.1 h with h | h
    · rw [← h]; rfl
    · rw [prods_nil h]; simp
theorem prods_ne : ∀ {ls : List (List Pt)}, ¬ [] ∈ ls → prods ls ≠ []
  | [], _ => by rw [prods]; simp
  | l :: ls, h => by
    rw [prods]
    obtain ⟨x, l', rfl⟩ : ∃ x l', l = x :: l' := by
      cases l with
      | nil => exact absurd (List.mem_cons_self ..) h
      | cons x l' => exact ⟨x, l', rfl⟩
    have := prods_ne (ls := ls) (fun h' => h (List.mem_cons_of_mem _ h'))
    simp [List.flatMap_cons, this]
theorem prods_len : ∀ {ls : List (List Pt)} {x : List Pt}, x ∈ prods ls → x.length = ls.length
  | [], x, h => by rw [prods] at h; rw [List.mem_singleton.1 h]; rfl
  | l :: ls, x, h => by
    rw [prods] at h
    obtain ⟨y, hy, h⟩ := List.mem_flatMap.1 h
    obtain ⟨z, hz, rfl⟩ := List.mem_map.1 h
    rw [List.length_cons, List.length_cons, prods_len hz]
/-- Lists of patterns in a list of their own. -/
def LsQ (d : Nat) (w : World) (P : Nat → Prop) (A : Option Addr) (Ls : List (List Pt)) : Prop := Ls.length ≤ maxLen ∧ ∀ i (h : i < Ls.length), ∃ b off, A = some ⟨b, off, none⟩ ∧ P b ∧ ∃ Ai ci, w.cell? ⟨b, off + i, none⟩ = some (.slice Ai Ls[i].length ci) ∧ QPs d w P Ai Ls[i]
theorem LsQ.keep {d : Nat} {w w' : World} {P P' : Nat → Prop} {A : Option Addr} {Ls : List (List Pt)} (h : LsQ d w P A Ls) (hk : ∀ (p : Addr) (v : Value), P p.block → w.cell? p = some v → w'.cell? p = some v) (hB : ∀ b, P b → P' b) : LsQ d w' P' A Ls :=
  ⟨h.1, fun i hi => by
    obtain ⟨b, off, e, hb, Ai, ci, h1, h2⟩ := h.2 i hi
    exact ⟨b, off, e, hB b hb, Ai, ci, hk ⟨b, _, none⟩ _ hb h1, h2.keep hk hB⟩⟩
theorem LsQ.tail {d : Nat} {w : World} {P : Nat → Prop} {b off : Nat} {l : List Pt} {Ls : List (List Pt)} (h : LsQ d w P (some ⟨b, off, none⟩) (l :: Ls)) : LsQ d w P (some ⟨b, off + 1, none⟩) Ls :=
  ⟨by have := h.1; rw [List.length_cons] at this; omega, fun i hi => by
    obtain ⟨b', off', e, hb, Ai, ci, h1, h2⟩ := h.2 (i + 1) (by rw [List.length_cons]; omega)
    cases e
    exact ⟨b, off + 1, rfl, hb, Ai, ci, by rw [show off + 1 + i = off + (i + 1) by omega]; exact h1, h2⟩⟩
mutual
/-- The patterns without alternatives that a pattern stands for, up to one more than the limit. -/
def spP : Pt → List Pt | .mk op c n m v ks => if op = 5 then (((spPs ks)[0]?.getD []) ++ ((spPs ks)[1]?.getD [])).take 401 else ((prods (spPs ks)).take 401).map (fun kk => .mk op c n m v kk)
def spPs : List Pt → List (List Pt) | [] => [] | k :: ks => spP k :: spPs ks
end
theorem spPs_map : ∀ ks : List Pt, spPs ks = ks.map spP
  | [] => rfl
  | k :: ks => by rw [spPs, spPs_map ks]; rfl
mutual
/-- Every alternative has two parts. -/
def okQ : Pt → Bool | .mk op _ _ _ _ ks => (if op = 5 then decide (ks.length = 2) else true) && okQs ks
def okQs : List Pt → Bool | [] => true | k :: ks => okQ k && okQs ks
end
theorem okQs_all : ∀ {ks : List Pt}, okQs ks = true → ∀ k ∈ ks, okQ k = true
  | k :: ks, h, x, hx => by
    rw [okQs, Bool.and_eq_true] at h
    rcases List.mem_cons.1 hx with rfl | hx
    · exact h.1
    · exact okQs_all h.2 x hx
theorem okQ_two (p : Pt) (h : okQ p = true) (h5 : p.op = 5) : p.kids.length = 2 := by
  obtain ⟨op, c, n, m, v, ks⟩ := p
  rw [okQ, Bool.and_eq_true] at h
  have h5 : op = 5 := h5
  rw [if_pos h5] at h
  exact of_decide_eq_true h.1
theorem okQ_kids (p : Pt) (h : okQ p = true) : okQs p.kids = true := by
  obtain ⟨op, c, n, m, v, ks⟩ := p
  rw [okQ, Bool.and_eq_true] at h
  exact h.2
theorem spP_or (p : Pt) (h : okQ p = true) (h5 : p.op = 5) (h0 : 0 < p.kids.length) (h1 : 1 < p.kids.length) : spP p = (spP p.kids[0] ++ spP p.kids[1]).take 401 := by
  have h2 := okQ_two p h h5
  obtain ⟨op, c, n, m, v, ks⟩ := p
  have h5 : op = 5 := h5
  have h2 : ks.length = 2 := h2
  rw [spP, if_pos h5, spPs_map]
  match ks, h2 with
  | [a, b], _ => rfl
theorem spP_not (p : Pt) (h5 : ¬ p.op = 5) : spP p = ((prods (p.kids.map spP)).take 401).map (fun kk => .mk p.op p.ctor p.n p.m p.var kk) := by
  obtain ⟨op, c, n, m, v, ks⟩ := p
  have h5 : ¬ op = 5 := h5
  rw [spP, if_neg h5, spPs_map]; rfl
mutual
theorem spP_ne : ∀ p : Pt, okQ p = true → spP p ≠ []
  | .mk op c n m v ks, h => by
    rw [okQ, Bool.and_eq_true] at h
    have ih := spPs_ne ks h.2
    rw [spP]
    by_cases h5 : op = 5
    · rw [if_pos h5]
      rw [if_pos h5] at h
      match ks, of_decide_eq_true h.1, ih with
      | [a, b], _, ih =>
        have h0 : spP a ≠ [] := fun e => ih (by rw [spPs, e]; exact List.mem_cons_self ..)
        obtain ⟨x, l, e⟩ := List.exists_cons_of_ne_nil h0
        rw [spPs, spPs, e]; simp
    · rw [if_neg h5]
      obtain ⟨x, l, e⟩ := List.exists_cons_of_ne_nil (prods_ne ih)
      rw [e]; simp
theorem spPs_ne : ∀ ks : List Pt, okQs ks = true → ¬ [] ∈ spPs ks
  | [], _ => by rw [spPs]; simp
  | k :: ks, h => by
    rw [okQs, Bool.and_eq_true] at h
    rw [spPs]
    intro hm
    rcases List.mem_cons.1 hm with hm | hm
    · exact spP_ne k h.1 hm.symm
    · exact spPs_ne ks h.2 hm
end
theorem spP_le (p : Pt) : (spP p).length ≤ 401 := by
  obtain ⟨op, c, n, m, v, ks⟩ := p
  rw [spP]
  by_cases h5 : op = 5
  · rw [if_pos h5, List.length_take]; omega
  · rw [if_neg h5, List.length_map, List.length_take]; omega
end Go.Proofs.YtbdiahnelnbdnaaGreat
/-
  The function FnExactNameValid returns true for every string, and the string reads behind the call as it read before. No condition.
-/
namespace Go.Proofs.YtbdiahnelnbdnaaGreat
open Go.RowKit
open Go.ChangeShapes Go.WideShapes Go.ChangeAt
open Go.ChangeMaps (open_string shut_string)
set_option maxRecDepth 100000
set_option linter.unusedVariables false
theorem ret_bool {a b : Bool} (h : a = b) : Ending.returned (.bool a) = .returned (.bool b) := by rw [h]
def upB (c : Int) : Bool := decide (65 ≤ c) && decide (c ≤ 90)
def lowB (c : UInt8) : Bool := decide (97 ≤ (c.toNat : Int)) && decide ((c.toNat : Int) ≤ 122)
theorem up_ge {c : Int} (h : ¬ c < 65) : decide (c ≤ 90) = upB c := by
  unfold upB; rw [show decide (65 ≤ c) = true by simp; omega]; rfl
theorem up_lt {c : Int} (h : c < 65) : false = upB c := by
  unfold upB; rw [show decide (65 ≤ c) = false by simp; omega]; rfl
theorem isUpper_any (c : Int) (w : World) :
    Calls Tryz.prog 98 #[.int .u8 c] w fun e w' => e = .returned (.bool (upB c)) ∧ w = w' := by
  by_cases h : c < 65
  · go_enter Tryz.func98, Tryz.ntmps98
    go_wp2
    all_goals go_ret
    exact ⟨ret_bool (up_lt h), rfl⟩
  · go_enter Tryz.func98, Tryz.ntmps98
    go_wp2
    all_goals go_ret
    exact ⟨ret_bool (up_ge (by omega)), rfl⟩
theorem big_any (c : Int) (w : World) :
    Calls Tryz.prog 75 #[.int .u8 c] w fun e w' => e = .returned (.bool (upB c)) ∧ w = w' := by
  by_cases h : c < 65
  · go_enter Tryz.func75, Tryz.ntmps75
    go_wp2
    all_goals go_ret
    exact ⟨ret_bool (up_lt h), rfl⟩
  · go_enter Tryz.func75, Tryz.ntmps75
    go_wp2
    all_goals go_ret
    exact ⟨ret_bool (up_ge (by omega)), rfl⟩
/-- The name of a constructor: a length from 1 to 5, an uppercase letter, lowercase letters. -/
def lowsUpto (s : ByteArray) (k : Nat) : Bool := ((s.data.toList.take k).drop 1).all lowB
def nameB (s : ByteArray) : Bool :=
  decide (0 < s.size) && (decide (s.size ≤ 5) && (upB ((s.data.toList.headD 0).toNat) && lowsUpto s s.size))
theorem name_empty {s : ByteArray} (h : s.size = 0) : false = nameB s := by unfold nameB; simp [h]
theorem name_long {s : ByteArray} (h : 5 < s.size) : false = nameB s := by
  unfold nameB; rw [show decide (s.size ≤ 5) = false by simp; omega]; simp
theorem head_eq {s : ByteArray} (h0 : 0 < s.size) : s.data.toList.headD 0 = s[0]'h0 := by
  have : s.data.toList = s.data.toList[0]'(by simpa using h0) :: s.data.toList.drop 1 := by
    rw [← List.drop_eq_getElem_cons]; rfl
  rw [this]; rfl
theorem name_small {s : ByteArray} (h0 : 0 < s.size) (h : upB (s[0]'h0).toNat = false) : false = nameB s := by
  unfold nameB; rw [head_eq h0, h]; simp
theorem name_go {s : ByteArray} (h0 : 0 < s.size) (h5 : s.size ≤ 5) (h : upB (s[0]'h0).toNat = true) : nameB s = lowsUpto s s.size := by
  unfold nameB; rw [head_eq h0, h]; simp [h0, h5]
theorem lows_one (s : ByteArray) : lowsUpto s 1 = true := by
  unfold lowsUpto; cases s.data.toList <;> simp
theorem lows_snoc {s : ByteArray} {k : Nat} (h1 : 1 ≤ k) (hk : k < s.size) : lowsUpto s (k + 1) = (lowsUpto s k && lowB s[k]) := by
  unfold lowsUpto
  rw [List.take_succ_eq_append_getElem (by simpa using hk), List.drop_append_of_le_length (by simp; omega), List.all_append]
  simp; rfl
theorem lows_more {s : ByteArray} {k : Nat} (d : Nat) (h : lowsUpto s k = false) : lowsUpto s (k + d) = false := by
  unfold lowsUpto at h ⊢
  rw [List.all_eq_false] at h ⊢
  obtain ⟨x, hx, hn⟩ := h
  refine ⟨x, ?_, hn⟩
  have : s.data.toList.take (k + d) = s.data.toList.take k ++ (s.data.toList.drop k).take d := by rw [List.take_add]
  rw [this]
  by_cases hl : 1 ≤ (s.data.toList.take k).length
  · rw [List.drop_append_of_le_length hl]; exact List.mem_append_left _ hx
  · have : s.data.toList.take k = [] := by
      apply List.eq_nil_of_length_eq_zero; omega
    rw [this] at hx; simp at hx
theorem lows_bad {s : ByteArray} {k : Nat} (h1 : 1 ≤ k) (hk : k < s.size) (h : lowB s[k] = false) : false = lowsUpto s s.size := by
  have := lows_more (s := s) (k := k + 1) (s.size - (k + 1)) (by rw [lows_snoc h1 hk, h]; simp)
  rw [← this]; congr 1; omega
theorem lowB_f {c : UInt8} (h : (c.toNat : Int) < 97 ∨ 122 < (c.toNat : Int)) : lowB c = false := by
  unfold lowB
  rcases h with h | h
  · rw [show decide (97 ≤ (c.toNat : Int)) = false by simp; omega]; rfl
  · rw [show decide ((c.toNat : Int) ≤ 122) = false by simp; omega]; simp
theorem lowB_t {c : UInt8} (h : 97 ≤ (c.toNat : Int)) (h' : (c.toNat : Int) ≤ 122) : lowB c = true := by
  unfold lowB; simp only [decide_eq_true h, decide_eq_true h', Bool.and_self]
theorem isEmpty_of {s : ByteArray} (h : s.size = 0) : s.toList = [] := by
  rw [ByteArray.toList_eq]; exact List.eq_nil_of_length_eq_zero (by simpa using h)
theorem notEmpty_of {s : ByteArray} (h : ¬ s.size = 0) : ¬ s.toList = [] := by
  rw [ByteArray.toList_eq]; intro e; exact h (by simpa using congrArg List.length e)
theorem notEmpty_of' {s : ByteArray} (h : ¬ s.size = 0) : s.toList.isEmpty = false := by
  simpa using notEmpty_of h
theorem isLower_t (c : UInt8) (w : World) (h : lowB c = true) :
    Calls Tryz.prog 107 #[.int .u8 c.toNat] w fun e w' => e = .returned (.bool true) ∧ w = w' := by
  have h1 : 97 ≤ (c.toNat : Int) ∧ (c.toNat : Int) ≤ 122 := by unfold lowB at h; simpa using h
  obtain ⟨h1, h2⟩ := h1
  clear h
  go_enter Tryz.func107, Tryz.ntmps107
  go_wp2
  all_goals go_ret
  exact ⟨ret_bool (by simp), rfl⟩
theorem isLower_f (c : UInt8) (w : World) (h : lowB c = false) :
    Calls Tryz.prog 107 #[.int .u8 c.toNat] w fun e w' => e = .returned (.bool false) ∧ w = w' := by
  by_cases h1 : (c.toNat : Int) < 97
  · clear h
    go_enter Tryz.func107, Tryz.ntmps107
    go_wp2
    all_goals go_ret
    exact ⟨rfl, rfl⟩
  · have h2 : ¬ (c.toNat : Int) ≤ 122 := by unfold lowB at h; simp at h; omega
    clear h
    go_enter Tryz.func107, Tryz.ntmps107
    go_wp2
    all_goals go_ret
    exact ⟨ret_bool (by simp), rfl⟩
set_option maxHeartbeats 400000 in
theorem nameV_impl (s : ByteArray) (w : World) (hs : s.size ≤ maxLen) :
    Calls Tryz.prog 105 #[.string s] w fun e w' => e = .returned (.bool (nameB s)) ∧ w = w' := by
  unfold maxLen at hs
  by_cases h0 : s.size = 0
  · have h0' : s.toList = [] := isEmpty_of h0
    go_enter Tryz.func105, Tryz.ntmps105
    go_wp2_with fail
    go_ret
    exact ⟨ret_bool (name_empty h0), rfl⟩
  · have h0' := notEmpty_of h0
    have h0'' := notEmpty_of' h0
    by_cases h5 : 5 < s.size
    · go_enter Tryz.func105, Tryz.ntmps105
      go_wp2_with fail
      go_ret
      exact ⟨ret_bool (name_long h5), rfl⟩
    · have hp : 0 < s.size := by omega
      have h5' : s.size ≤ 5 := by omega
      have h5b : decide (5 < (s.size : Int)) = false := by simp; omega
      by_cases hu : upB (s[0]'hp).toNat = true
      · have H := Lib.hid (name_go hp h5' hu)
        go_enter Tryz.func105, Tryz.ntmps105
        go_wp2_with (go_at_call 98; refine (isUpper_any _ _).mono ?_; rintro e w' ⟨rfl, rfl⟩)
        go_loop [3] (fun i => ∃ k : Nat, 1 ≤ k ∧ k ≤ s.size ∧ lowsUpto s k = true ∧ i = .int .i64 k) (fun i => s.size - (intOf i).toNat)
        case atStart => exact ⟨1, by omega, by omega, lows_one s, rfl⟩
        case round =>
          obtain ⟨k, hk1, hk, hl, rfl⟩ := hrel
          have HL := Lib.hid hl
          clear hl
          by_cases hlt : k < s.size
          · have HS := Lib.hid (lows_snoc hk1 hlt)
            by_cases hb : lowB s[k] = true
            · have HB := Lib.hid hb
              clear hb
              go_wp2_with (go_at_call 107; refine (isLower_t _ _ HB.out).mono ?_; rintro e w' ⟨rfl, rfl⟩)
              go_round
              case rel => exact ⟨k + 1, by omega, by omega, by rw [HS.out, HL.out, HB.out]; rfl, by go_num⟩
              case measure => simp [intOf]; omega
            · have hb' : lowB s[k] = false := by simpa using hb
              have HB := Lib.hid hb'
              have HC := Lib.hid (lows_bad hk1 hlt hb')
              clear hb hb'
              go_wp2_with (go_at_call 107; refine (isLower_f _ _ HB.out).mono ?_; rintro e w' ⟨rfl, rfl⟩)
              go_ret
              exact ⟨ret_bool (by rw [H.out]; exact HC.out), rfl⟩
          · go_wp2
            go_ret
            exact ⟨ret_bool (by rw [H.out, ← HL.out]; congr 1; omega), rfl⟩
      · have hu' : upB (s[0]'hp).toNat = false := by simpa using hu
        clear hu
        go_enter Tryz.func105, Tryz.ntmps105
        go_wp2_with (go_at_call 98; refine (isUpper_any _ _).mono ?_; rintro e w' ⟨rfl, rfl⟩)
        go_ret
        exact ⟨ret_bool (name_small hp hu'), rfl⟩
theorem nameV_spec (s : ByteArray) (w : World) (hs : s.size ≤ maxLen) :
    Calls Tryz.prog 76 #[.string s] w fun e w' => e = .returned (.bool (nameB s)) ∧ w = w' := by
  unfold maxLen at hs
  by_cases h0 : s.size = 0
  · have h0' : ((s.size : Int) == 0) = true := by simpa using h0
    go_enter Tryz.func76, Tryz.ntmps76
    go_wp2_with fail
    go_ret
    exact ⟨ret_bool (name_empty h0), rfl⟩
  · have h0' : ((s.size : Int) == 0) = false := by simpa using h0
    by_cases h5 : 5 < s.size
    · go_enter Tryz.func76, Tryz.ntmps76
      go_wp2_with fail
      go_ret
      exact ⟨ret_bool (name_long h5), rfl⟩
    · have hp : 0 < s.size := by omega
      have h5' : s.size ≤ 5 := by omega
      have h5b : decide (5 < (s.size : Int)) = false := by simp; omega
      by_cases hu : upB (s[0]'hp).toNat = true
      · have H := Lib.hid (name_go hp h5' hu)
        go_enter Tryz.func76, Tryz.ntmps76
        go_wp2_with (go_at_call 75; refine (big_any _ _).mono ?_; rintro e w' ⟨rfl, rfl⟩)
        go_loop [3] (fun i => ∃ k : Nat, 1 ≤ k ∧ k ≤ s.size ∧ lowsUpto s k = true ∧ i = .int .i64 k) (fun i => s.size - (intOf i).toNat)
        case atStart => exact ⟨1, by omega, by omega, lows_one s, rfl⟩
        case round =>
          obtain ⟨k, hk1, hk, hl, rfl⟩ := hrel
          have HL := Lib.hid hl
          clear hl
          by_cases hlt : k < s.size
          · have HS := Lib.hid (lows_snoc hk1 hlt)
            by_cases hb : (s[k].toNat : Int) < 97
            · have HB := Lib.hid (lows_bad hk1 hlt (lowB_f (.inl hb)))
              go_wp2
              go_ret
              exact ⟨ret_bool (by rw [H.out]; exact HB.out), rfl⟩
            · by_cases hc : 122 < (s[k].toNat : Int)
              · have HB := Lib.hid (lows_bad hk1 hlt (lowB_f (.inr hc)))
                go_wp2
                go_ret
                exact ⟨ret_bool (by rw [H.out]; exact HB.out), rfl⟩
              · have hg : decide ((s[k].toNat : Int) < 97) = false := by simpa using hb
                have hg' : decide (122 < (s[k].toNat : Int)) = false := by simpa using hc
                have HB := Lib.hid (lowB_t (c := s[k]) (by omega) (by omega))
                go_wp2
                go_round
                case rel => exact ⟨k + 1, by omega, by omega, by rw [HS.out, HL.out, HB.out]; rfl, by go_num⟩
                case measure => simp [intOf]; omega
          · go_wp2
            go_ret
            exact ⟨ret_bool (by rw [H.out, ← HL.out]; congr 1; omega), rfl⟩
      · have hu' : upB (s[0]'hp).toNat = false := by simpa using hu
        clear hu
        go_enter Tryz.func76, Tryz.ntmps76
        go_wp2_with (go_at_call 75; refine (big_any _ _).mono ?_; rintro e w' ⟨rfl, rfl⟩)
        go_ret
        exact ⟨ret_bool (name_small hp hu'), rfl⟩
end Go.Proofs.YtbdiahnelnbdnaaGreat
