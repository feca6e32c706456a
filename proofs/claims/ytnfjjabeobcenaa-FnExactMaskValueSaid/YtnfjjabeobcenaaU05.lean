/-
  Types, constructors and data types that are marked where they lie. No statement is proved here.
-/
import Derived.Test.YtnfjjabeobcenaaU04
import Derived.Test.YtnfjjabeobcenaaU01
import Derived.BigQuiet
namespace Go.Proofs.Ytnfjjabeobcenaa
open Go.RowKit
set_option maxRecDepth 100000
set_option linter.unusedVariables false
/-- Two values of one kind: two integers, two strings, or one value. -/
def Alike (v v' : Value) : Prop := v = v' ∨ (∃ x y, v = .int .i64 x ∧ v' = .int .i64 y) ∨ (∃ s s', v = .string s ∧ v' = .string s')
theorem Alike.trans {a b c : Value} (h : Alike a b) (h' : Alike b c) : Alike a c := by
  rcases h with rfl | ⟨x, y, rfl, rfl⟩ | ⟨s, t, rfl, rfl⟩
  · exact h'
  · rcases h' with rfl | ⟨x', y', e, rfl⟩ | ⟨s, t, e, _⟩
    · exact .inr (.inl ⟨_, _, rfl, rfl⟩)
    · exact .inr (.inl ⟨_, _, rfl, rfl⟩)
    · cases e
  · rcases h' with rfl | ⟨x', y', e, _⟩ | ⟨s', t', e, rfl⟩
    · exact .inr (.inr ⟨_, _, rfl, rfl⟩)
    · cases e
    · exact .inr (.inr ⟨_, _, rfl, rfl⟩)
/-- Nothing below lo and nothing from hi on has turned; the cells of other blocks are of the kinds that they were. -/
def Kept (lo hi : Nat) (w w' : World) : Prop := Below lo w w' ∧ (∀ b, hi ≤ b → b < w.heap.size → w'.heap[b]? = w.heap[b]?) ∧ ∀ (g : Nat) (cs : Array Value) (t : TypeId), w.heap[g]? = some (.cells cs t (0, 0)) → ∃ cs' : Array Value, w'.heap[g]? = some (.cells cs' t (0, 0)) ∧ cs'.size = cs.size ∧ ∀ (i : Nat) (v : Value), cs[i]? = some v → ∃ v', cs'[i]? = some v' ∧ Alike v v'
theorem Kept.refl (lo hi : Nat) (w : World) : Kept lo hi w w := ⟨Below.refl _ _, fun _ _ _ => rfl, fun g cs t h => ⟨cs, h, rfl, fun i v hv => ⟨v, hv, .inl rfl⟩⟩⟩
theorem Kept.trans {lo hi : Nat} {a b c : World} (h : Kept lo hi a b) (h' : Kept lo hi b c) : Kept lo hi a c :=
  ⟨h.1.trans h'.1, fun x hx hl => (h'.2.1 x hx (Nat.lt_of_lt_of_le hl h.1.size)).trans (h.2.1 x hx hl), fun g cs t hg => by
    obtain ⟨cs1, e1, s1, q1⟩ := h.2.2 g cs t hg
    obtain ⟨cs2, e2, s2, q2⟩ := h'.2.2 g cs1 t e1
    refine ⟨cs2, e2, by omega, fun i v hv => ?_⟩
    obtain ⟨v1, f1, a1⟩ := q1 i v hv
    obtain ⟨v2, f2, a2⟩ := q2 i v1 f1
    exact ⟨v2, f2, a1.trans a2⟩⟩
theorem Kept.below {lo hi : Nat} {w w' : World} (h : Below w.heap.size w w') (hlo : lo ≤ w.heap.size) : Kept lo hi w w' :=
  ⟨h.mono hlo, fun x _ hl => h.block x hl, fun g cs t hg => ⟨cs, (h.block g (heap_lt hg)).trans hg, rfl, fun i v hv => ⟨v, hv, .inl rfl⟩⟩⟩
theorem Kept.set {lo hi g i : Nat} {w : World} {cs : Array Value} {t : TypeId} {v u : Value} (hg : w.heap[g]? = some (.cells cs t (0, 0))) (hlo : lo ≤ g ∧ g < hi) (hv : cs[i]? = some v) (ha : Alike v u) : Kept lo hi w (w.setCell ⟨g, i, none⟩ u) := by
  refine ⟨(Below.refl _ _).setCell hlo.1 _, fun x hx _ => Below.heap_setCell w ⟨g, i, none⟩ u x (by have := hlo.2; simp; omega), fun b ds s hb => ?_⟩
  by_cases e : b = g
  · subst e
    rw [hg] at hb
    injection hb with hb
    injection hb with e1 e2
    subst e1 e2
    refine ⟨cs.setIfInBounds i u, heap_setCell_same w b i cs t u hg, by simp, fun j x hx => ?_⟩
    have hjl : j < cs.size := (Array.getElem?_eq_some_iff.1 hx).1
    by_cases e : j = i
    · subst e
      rw [hv] at hx
      cases hx
      exact ⟨u, by simp [hjl], ha⟩
    · exact ⟨x, by rw [Array.getElem?_setIfInBounds_ne (by omega)]; exact hx, .inl rfl⟩
  · exact ⟨ds, (Below.heap_setCell w ⟨g, i, none⟩ u b e).trans hb, rfl, fun j x hx => ⟨x, hx, .inl rfl⟩⟩
/-- Shapes: blocks of the call's own that hold types, constructors, data types, whatever these are. -/
def STys (w : World) (lo hi : Nat) (A : Option Addr) (n : Nat) : Prop := 0 < n → ∃ g cs, A = some ⟨g, 0, none⟩ ∧ (lo ≤ g ∧ g < hi) ∧ w.heap[g]? = some (.cells cs 33 (0, 0)) ∧ ∀ i, i < n * 2 → ∃ x, cs[i]? = some (.int .i64 x)
def SCts (w : World) (lo hi : Nat) (A : Option Addr) (l : List Ct) : Prop := 0 < l.length → ∃ g cs, A = some ⟨g, 0, none⟩ ∧ (lo ≤ g ∧ g < hi) ∧ w.heap[g]? = some (.cells cs 93 (0, 0)) ∧
  ∀ k (h : k < l.length), ∃ s A' cap x, cs[k * 3]? = some (.string s) ∧ cs[k * 3 + 1]? = some (.slice A' l[k].args.length cap) ∧ cs[k * 3 + 2]? = some (.int .i64 x) ∧ STys w lo hi A' l[k].args.length
def SDas (w : World) (lo hi : Nat) (A : Option Addr) (l : List Da) : Prop := 0 < l.length → ∃ g cs, A = some ⟨g, 0, none⟩ ∧ (lo ≤ g ∧ g < hi) ∧ w.heap[g]? = some (.cells cs 61 (0, 0)) ∧
  ∀ k (h : k < l.length), ∃ s A' cap, cs[k * 2]? = some (.string s) ∧ cs[k * 2 + 1]? = some (.slice A' l[k].ctors.length cap) ∧ SCts w lo hi A' l[k].ctors
theorem alike_int {x : Int} {v : Value} (h : Alike (.int .i64 x) v) : ∃ y, v = .int .i64 y := by
  rcases h with rfl | ⟨a, b, _, rfl⟩ | ⟨s, t, e, _⟩
  · exact ⟨_, rfl⟩
  · exact ⟨_, rfl⟩
  · cases e
theorem alike_str {s : ByteArray} {v : Value} (h : Alike (.string s) v) : ∃ y, v = .string y := by
  rcases h with rfl | ⟨a, b, e, _⟩ | ⟨s, t, _, rfl⟩
  · exact ⟨_, rfl⟩
  · cases e
  · exact ⟨_, rfl⟩
theorem alike_slice {A : Option Addr} {n c : Nat} {v : Value} (h : Alike (.slice A n c) v) : v = .slice A n c := by
  rcases h with rfl | ⟨a, b, e, _⟩ | ⟨s, t, e, _⟩
  · rfl
  · cases e
  · cases e
theorem STys.kept {w w' : World} {lo hi : Nat} {A : Option Addr} {n : Nat} (h : STys w lo hi A n) (hk : Kept lo hi w w') : STys w' lo hi A n := fun hn => by
  obtain ⟨g, cs, e, hl, hg, hc⟩ := h hn
  obtain ⟨cs', hg', hs, hq⟩ := hk.2.2 g cs 33 hg
  refine ⟨g, cs', e, hl, hg', fun i hi => ?_⟩
  obtain ⟨x, hx⟩ := hc i hi
  obtain ⟨v', hv', ha⟩ := hq i _ hx
  obtain ⟨y, rfl⟩ := alike_int ha
  exact ⟨y, hv'⟩
theorem SCts.kept {w w' : World} {lo hi : Nat} {A : Option Addr} {l : List Ct} (h : SCts w lo hi A l) (hk : Kept lo hi w w') : SCts w' lo hi A l := fun hn => by
  obtain ⟨g, cs, e, hl, hg, hc⟩ := h hn
  obtain ⟨cs', hg', hs, hq⟩ := hk.2.2 g cs 93 hg
  refine ⟨g, cs', e, hl, hg', fun k hkl => ?_⟩
  obtain ⟨s, A', cap, x, e0, e1, e2, e3⟩ := hc k hkl
  obtain ⟨v0, f0, a0⟩ := hq _ _ e0
  obtain ⟨v1, f1, a1⟩ := hq _ _ e1
  obtain ⟨v2, f2, a2⟩ := hq _ _ e2
  obtain ⟨s', rfl⟩ := alike_str a0
  obtain ⟨y, rfl⟩ := alike_int a2
  rw [alike_slice a1] at f1
  exact ⟨s', A', cap, y, f0, f1, f2, e3.kept hk⟩
theorem SDas.kept {w w' : World} {lo hi : Nat} {A : Option Addr} {l : List Da} (h : SDas w lo hi A l) (hk : Kept lo hi w w') : SDas w' lo hi A l := fun hn => by
  obtain ⟨g, cs, e, hl, hg, hc⟩ := h hn
  obtain ⟨cs', hg', hs, hq⟩ := hk.2.2 g cs 61 hg
  refine ⟨g, cs', e, hl, hg', fun k hkl => ?_⟩
  obtain ⟨s, A', cap, e0, e1, e3⟩ := hc k hkl
  obtain ⟨v0, f0, a0⟩ := hq _ _ e0
  obtain ⟨v1, f1, a1⟩ := hq _ _ e1
  obtain ⟨s', rfl⟩ := alike_str a0
  rw [alike_slice a1] at f1
  exact ⟨s', A', cap, f0, f1, e3.kept hk⟩
theorem FTys.shape {w : World} {lo g : Nat} {l : List Ty} (h : FTys w lo g l) : STys w lo w.heap.size (some ⟨g, 0, none⟩) l.length := fun _ => by
  obtain ⟨h1, h2, cs, h3, h4, h5⟩ := h
  refine ⟨g, cs, rfl, ⟨h1, heap_lt h3⟩, h3, fun i hi => ?_⟩
  obtain ⟨a, b⟩ := h5 (i / 2) (by omega)
  rcases (show i = i / 2 * 2 ∨ i = i / 2 * 2 + 1 by omega) with e | e
  · rw [e]; exact ⟨_, a⟩
  · rw [e]; exact ⟨_, b⟩
theorem FCts.shape {w : World} {lo g : Nat} {l : List Ct} (h : FCts w lo g l) : SCts w lo w.heap.size (some ⟨g, 0, none⟩) l := fun _ => by
  obtain ⟨h1, h2, cs, h3, h4, h5⟩ := h
  refine ⟨g, cs, rfl, ⟨h1, heap_lt h3⟩, h3, fun k hk => ?_⟩
  obtain ⟨g', e0, e1, e2, e3, e4⟩ := h5 k hk
  exact ⟨_, _, _, _, e0, e1, e2, e4.shape⟩
theorem FDas.shape {w : World} {lo g : Nat} {l : List Da} (h : FDas w lo g l) : SDas w lo w.heap.size (some ⟨g, 0, none⟩) l := fun _ => by
  obtain ⟨h1, h2, cs, h3, h4, h5⟩ := h
  refine ⟨g, cs, rfl, ⟨h1, heap_lt h3⟩, h3, fun k hk => ?_⟩
  obtain ⟨g', e0, e1, e3, e4⟩ := h5 k hk
  exact ⟨_, _, _, e0, e1, e4.shape⟩
set_option maxHeartbeats 800000 in
theorem markTypeS_any (A : Option Addr) (n cap lo hi : Nat) (k : Int) (w : World) (hn : n ≤ 1048576) (h0 : 0 ≤ k) (h1 : k ≤ 4194304) (hr : STys w lo hi A n) :
    Calls Try.prog 68 #[.slice A n cap, .int .i64 k] w fun e w' => e = .returned (.int .i64 (k + 2 * n)) ∧ Kept lo hi w w' := by
  have Hr := Lib.hid hr
  clear hr
  go_enter Try.func68, Try.ntmps68
  go_wp2_with fail
  go_loopw [1, 5] (fun q i wr => ∃ j : Nat, j ≤ n ∧ i = .int .i64 j ∧ q = .int .i64 (k + 2 * j) ∧ Kept lo hi w wr) (fun _ i _ => n - (intOf i).toNat)
  case atStart => exact ⟨0, by omega, rfl, by simp, Kept.refl _ _ _⟩
  case round =>
    obtain ⟨j, hj, rfl, rfl, hk⟩ := hrel
    have HK := Lib.hid hk
    clear hk
    by_cases hlt : j < n
    · obtain ⟨g, cs, rfl, hlo, hg, hc⟩ := (Hr.out.kept HK.out) (by omega)
      obtain ⟨x0, e0⟩ := hc (j * 2) (by omega)
      obtain ⟨x1, e1⟩ := hc (j * 2 + 1) (by omega)
      have c0 : wr.cell? ⟨g, j * 2, none⟩ = some (.int .i64 x0) := (cell_of_blk hg _).trans e0
      have c1 : wr.cell? ⟨g, j * 2 + 1, none⟩ = some (.int .i64 x1) := (cell_of_blk hg _).trans e1
      have z0 := frozen_of_row wr g (j * 2) cs 33 hg
      have z1 := frozen_of_row wr g (j * 2 + 1) cs 33 hg
      have K1 : Hid (Kept lo hi wr (wr.setCell ⟨g, j * 2, none⟩ (.int .i64 (k + 2 * j)))) := Kept.set hg hlo e0 (.inr (.inl ⟨_, _, rfl, rfl⟩))
      obtain ⟨cs', hg', hs', hq⟩ := K1.out.2.2 g cs 33 hg
      obtain ⟨v1, f1, a1⟩ := hq _ _ e1
      obtain ⟨y1, rfl⟩ := alike_int a1
      have K2 : Hid (Kept lo hi wr ((wr.setCell ⟨g, j * 2, none⟩ (.int .i64 (k + 2 * j))).setCell ⟨g, j * 2 + 1, none⟩ (.int .i64 (k + 2 * j + 1)))) := K1.out.trans (Kept.set hg' hlo f1 (.inr (.inl ⟨_, _, rfl, rfl⟩)))
      clear hg hc e0 e1 hg' hs' hq f1 a1
      go_wp2_with fail
      go_roundw
      case rel => exact ⟨j + 1, by omega, by go_num, by congr 1; push_cast; omega, HK.out.trans K2.out⟩
      case measure => simp [intOf]; omega
    · have he : j = n := by omega
      have HE := Lib.hid he
      clear he
      go_wp2_with fail
      go_ret
      exact ⟨ret_i64 (by rw [HE.out]), HK.out⟩
def mC (c : Ct) : Nat := 2 + 2 * c.args.length
def mD (d : Da) : Nat := 1 + (d.ctors.map mC).sum
set_option maxHeartbeats 1600000 in
theorem markCtorS_any (A : Option Addr) (l : List Ct) (cap lo hi : Nat) (k : Int) (w : World) (hlo : lo ≤ w.heap.size) (hn : l.length ≤ 1048576) (ha : ∀ i (h : i < l.length), l[i].args.length ≤ 1048576) (h0 : 1 ≤ k) (h1 : k + ((l.map mC).sum : Nat) ≤ 4194304) (hr : SCts w lo hi A l) :
    Calls Try.prog 49 #[.slice A l.length cap, .int .i64 k] w fun e w' => e = .returned (.int .i64 (k + ((l.map mC).sum : Nat))) ∧ Kept lo hi w w' := by
  have Hr := Lib.hid hr
  have HA := Lib.hid ha
  clear hr ha
  go_enter Try.func49, Try.ntmps49
  go_wp2_with fail
  go_loopw [1, 5] (fun q i wr => ∃ j : Nat, j ≤ l.length ∧ i = .int .i64 j ∧ ∃ S : Nat, q = .int .i64 (k + S) ∧ Hid (S = ((l.take j).map mC).sum) ∧ Kept lo hi w wr) (fun _ i _ => l.length - (intOf i).toNat)
  case atStart => exact ⟨0, by omega, rfl, 0, by simp, by unfold Hid; simp, Kept.refl _ _ _⟩
  case round =>
    obtain ⟨j, hj, rfl, S, rfl, HS, hk⟩ := hrel
    have HK := Lib.hid hk
    have hlw : lo ≤ wr.heap.size := Nat.le_trans hlo hk.1.size
    clear hk
    by_cases hlt : j < l.length
    · have HT := Lib.hid (sum_take_succ mC l j hlt)
      have HL := Lib.hid (sum_take_le mC l (j + 1))
      have HM : Hid (mC l[j] = 2 + 2 * l[j].args.length) := rfl
      have hma := HA.out j hlt
      have hSb : k + (S : Int) + (2 + 2 * l[j].args.length) ≤ 4194304 := by
        have a1 := HT.out; have a2 := HL.out; have a3 := HM.out; have a4 := HS.out; omega
      obtain ⟨g, cs, rfl, hgl, hg, hc⟩ := (Hr.out.kept HK.out) (by omega)
      have hgw := heap_lt hg
      clear hg hc
      have hSh : ∀ W, Kept lo hi w W → ∃ (cs : Array Value) (s : ByteArray) (A' : Option Addr) (cp : Nat) (x : Int), W.heap[g]? = some (.cells cs 93 (0, 0)) ∧ cs[j * 3]? = some (.string s) ∧ cs[j * 3 + 1]? = some (.slice A' l[j].args.length cp) ∧ cs[j * 3 + 2]? = some (.int .i64 x) ∧ STys W lo hi A' l[j].args.length := fun W hW => by
        obtain ⟨g', cs', e, _, hg', hc'⟩ := (Hr.out.kept hW) (by omega)
        cases e
        obtain ⟨s, A', cp, x, e0, e1, e2, e3⟩ := hc' j hlt
        exact ⟨cs', s, A', cp, x, hg', e0, e1, e2, e3⟩
      have HSh := Lib.hid hSh
      clear hSh
      go_wp2_with fail
      refine (markText_any _ _ (by omega) (by omega)).mono ?_
      rintro e w1 ⟨s1, rfl, _, hb1⟩
      have K1 := Lib.hid (HK.out.trans (Kept.below hb1 hlw))
      obtain ⟨cs1, s0, A1, cp1, x1, hg1, e0, e1, e2, hty⟩ := HSh.out w1 K1.out
      have c0 := (cell_of_blk hg1 (j * 3)).trans e0
      have c1 := (cell_of_blk hg1 (j * 3 + 1)).trans e1
      have z0 := frozen_of_row w1 g (j * 3) cs1 93 hg1
      have K2 : Hid (Kept lo hi w1 (w1.setCell ⟨g, j * 3, none⟩ (.string s1))) := Kept.set hg1 hgl e0 (.inr (.inr ⟨_, _, rfl, rfl⟩))
      have HTy := Lib.hid (hty.kept K2.out)
      clear hg1 e0 e1 e2 hty hb1
      go_wp2_with fail
      refine (markTypeS_any _ _ _ lo hi _ _ hma (by omega) (by omega) HTy.out).mono ?_
      rintro e w2 ⟨rfl, hk3⟩
      have K3 := Lib.hid ((K1.out.trans K2.out).trans hk3)
      clear hk3 c0 c1 z0
      obtain ⟨cs2, s2, A2, cp2, x2, hg2, e0, e1, e2, hty⟩ := HSh.out w2 K3.out
      have c2 := (cell_of_blk hg2 (j * 3 + 2)).trans e2
      have z2 := frozen_of_row w2 g (j * 3 + 2) cs2 93 hg2
      have K4 : Hid (∀ y, Kept lo hi w (w2.setCell ⟨g, j * 3 + 2, none⟩ (.int .i64 y))) := fun y => K3.out.trans (Kept.set hg2 hgl e2 (.inr (.inl ⟨_, _, rfl, rfl⟩)))
      clear hg2 e0 e1 e2 hty
      go_wp2_with fail
      go_roundw
      case rel => exact ⟨j + 1, by omega, by go_num, S + (2 + 2 * l[j].args.length), by congr 1; push_cast; omega, by unfold Hid; rw [HT.out, HM.out, HS.out], K4.out _⟩
      case measure => simp [intOf]; omega
    · go_wp2_with fail
      go_ret
      exact ⟨ret_i64 (by rw [HS.out, List.take_of_length_le (by omega)]), HK.out⟩
end Go.Proofs.Ytnfjjabeobcenaa
/-
  Lists of integers compared, marked and looked at again. No statement is proved here.
-/
namespace Go.Proofs.Ytnfjjabeobcenaa
open Go.RowKit Go.Sort
set_option maxRecDepth 100000
set_option linter.unusedVariables false
/-- Integers that a slice holds. -/
def RInts (w : World) (A : Option Addr) (l : List Int) : Prop := l.length ≤ maxLen ∧ ∀ k (h : k < l.length), ∃ b off, A = some ⟨b, off, none⟩ ∧ b < w.heap.size ∧ w.cell? ⟨b, off + k, none⟩ = some (.int .i64 l[k])
theorem RInts.at_ {w w' : World} {A : Option Addr} {l : List Int} (h : RInts w A l) (hb : Below w.heap.size w w') : RInts w' A l :=
  ⟨h.1, fun k hk => by
    obtain ⟨b, off, e, hbl, h1⟩ := h.2 k hk
    exact ⟨b, off, e, Nat.lt_of_lt_of_le hbl hb.size, (hb.cell (p := ⟨b, off + k, none⟩) hbl).trans h1⟩⟩
/-- A row of integers of the call's own, as a slice. -/
theorem OInts.form {w : World} {lo : Nat} {v : Value} {xs : List Int} (h : OInts w lo v xs) (hx : xs.length ≤ maxLen) : ∃ A cap, v = .slice A xs.length cap ∧ RInts w A xs := by
  have h' : w.ownsRow lo 3 1 v xs.length (xs.map (Value.int .i64)) := h
  rcases h'.2 with ⟨rfl, h0⟩ | ⟨g, cap, cur, rfl, hb, hg, hnc, hcm, hcs, htake⟩
  · exact ⟨none, 0, by rw [h0], hx, fun k hk => absurd hk (by omega)⟩
  · refine ⟨_, cap, rfl, hx, fun k hk => ⟨g, 0, rfl, ?_, ?_⟩⟩
    · exact (h'.lt g rfl).2
    · rw [Nat.zero_add, h'.cellAt k (by omega), List.getElem?_map, List.getElem?_eq_getElem hk]; rfl
set_option maxHeartbeats 800000 in
theorem eqInts_same (A A' : Option Addr) (l : List Int) (cap cap' : Nat) (w : World) (hr : RInts w A l) (hr' : RInts w A' l) :
    Calls Try.prog 47 #[.slice A l.length cap, .slice A' l.length cap'] w fun e w' => e = .returned (.bool true) ∧ Below w.heap.size w w' := by
  have hn := hr.1
  unfold maxLen at hn
  have Hr := Lib.hid hr
  have Hr' := Lib.hid hr'
  clear hr hr'
  go_enter Try.func47, Try.ntmps47
  go_wp2_with fail
  go_loopw [5] (fun i wr => ∃ k : Nat, k ≤ l.length ∧ i = .int .i64 k ∧ Below w.heap.size w wr) (fun i _ => l.length - (intOf i).toNat)
  case atStart => exact ⟨0, by omega, rfl, Below.refl _ _⟩
  case round =>
    obtain ⟨k, hk, rfl, hb⟩ := hrel
    by_cases hlt : k < l.length
    · obtain ⟨b, off, rfl, hbB, c0⟩ := (Hr.out.at_ hb).2 k hlt
      obtain ⟨b', off', rfl, hbB', c0'⟩ := (Hr'.out.at_ hb).2 k hlt
      have hi : (k : Int) < (l.length : Int) := by omega
      have HB2 : Hid (∀ n, Below w.heap.size w (wr.drewN n)) := fun n => ⟨hb.os, hb.tape, hb.output, hb.size, hb.block⟩
      go_wp2_with fail
      go_quiet (fail)
      go_wp2_with fail
      go_roundw
      case rel => exact ⟨k + 1, by omega, by go_num, HB2.out _⟩
      case measure => simp [intOf]; omega
    · go_wp2_with fail
      go_ret
      exact ⟨rfl, hb⟩
/-- The marks from a number on. -/
def mk (k : Int) : Nat → List Int
  | 0 => []
  | n + 1 => mk k n ++ [k + n]
end Go.Proofs.Ytnfjjabeobcenaa
/-
  Data types that are marked where they lie; integers that are marked and looked at again. No statement is proved here.
-/
namespace Go.Proofs.Ytnfjjabeobcenaa
open Go.RowKit
set_option maxRecDepth 100000
set_option linter.unusedVariables false
set_option maxHeartbeats 1600000 in
theorem markDataS_any (A : Option Addr) (l : List Da) (cap lo hi : Nat) (k : Int) (w : World) (hlo : lo ≤ w.heap.size) (hn : l.length ≤ 1048576) (ha : ∀ i (h : i < l.length), l[i].ctors.length ≤ 1048576 ∧ ∀ m (h' : m < l[i].ctors.length), l[i].ctors[m].args.length ≤ 1048576) (h0 : 1 ≤ k) (h1 : k + ((l.map mD).sum : Nat) ≤ 4194304) (hr : SDas w lo hi A l) :
    Calls Try.prog 25 #[.slice A l.length cap, .int .i64 k] w fun e w' => e = .returned (.int .i64 (k + ((l.map mD).sum : Nat))) ∧ Kept lo hi w w' := by
  have Hr := Lib.hid hr
  have HA := Lib.hid ha
  clear hr ha
  go_enter Try.func25, Try.ntmps25
  go_wp2_with fail
  go_loopw [1, 5] (fun q i wr => ∃ j : Nat, j ≤ l.length ∧ i = .int .i64 j ∧ ∃ S : Nat, q = .int .i64 (k + S) ∧ Hid (S = ((l.take j).map mD).sum) ∧ Kept lo hi w wr) (fun _ i _ => l.length - (intOf i).toNat)
  case atStart => exact ⟨0, by omega, rfl, 0, by simp, by unfold Hid; simp, Kept.refl _ _ _⟩
  case round =>
    obtain ⟨j, hj, rfl, S, rfl, HS, hk⟩ := hrel
    have HK := Lib.hid hk
    have hlw : lo ≤ wr.heap.size := Nat.le_trans hlo hk.1.size
    clear hk
    by_cases hlt : j < l.length
    · have HT := Lib.hid (sum_take_succ mD l j hlt)
      have HL := Lib.hid (sum_take_le mD l (j + 1))
      have HM : Hid (mD l[j] = 1 + (l[j].ctors.map mC).sum) := rfl
      have hma := (HA.out j hlt).1
      have hSb : k + (S : Int) + (1 + ((l[j].ctors.map mC).sum : Nat)) ≤ 4194304 := by
        have a1 := HT.out; have a2 := HL.out; have a3 := HM.out; have a4 := HS.out; omega
      obtain ⟨g, cs, rfl, hgl, hg, hc⟩ := (Hr.out.kept HK.out) (by omega)
      have hgw := heap_lt hg
      clear hg hc
      have hSh : ∀ W, Kept lo hi w W → ∃ (cs : Array Value) (s : ByteArray) (A' : Option Addr) (cp : Nat), W.heap[g]? = some (.cells cs 61 (0, 0)) ∧ cs[j * 2]? = some (.string s) ∧ cs[j * 2 + 1]? = some (.slice A' l[j].ctors.length cp) ∧ SCts W lo hi A' l[j].ctors := fun W hW => by
        obtain ⟨g', cs', e, _, hg', hc'⟩ := (Hr.out.kept hW) (by omega)
        cases e
        obtain ⟨s, A', cp, e0, e1, e3⟩ := hc' j hlt
        exact ⟨cs', s, A', cp, hg', e0, e1, e3⟩
      have HSh := Lib.hid hSh
      clear hSh
      go_wp2_with fail
      refine (markText_any _ _ (by omega) (by omega)).mono ?_
      rintro e w1 ⟨s1, rfl, _, hb1⟩
      have K1 := Lib.hid (HK.out.trans (Kept.below hb1 hlw))
      have hlw1 : lo ≤ w1.heap.size := Nat.le_trans hlw hb1.size
      obtain ⟨cs1, s0, A1, cp1, hg1, e0, e1, hty⟩ := HSh.out w1 K1.out
      have c0 := (cell_of_blk hg1 (j * 2)).trans e0
      have c1 := (cell_of_blk hg1 (j * 2 + 1)).trans e1
      have z0 := frozen_of_row w1 g (j * 2) cs1 61 hg1
      have K2 : Hid (Kept lo hi w1 (w1.setCell ⟨g, j * 2, none⟩ (.string s1))) := Kept.set hg1 hgl e0 (.inr (.inr ⟨_, _, rfl, rfl⟩))
      have HTy := Lib.hid (hty.kept K2.out)
      clear hg1 e0 e1 hty hb1
      go_wp2_with fail
      refine (markCtorS_any _ _ _ lo hi _ _ (by simpa using hlw1) hma (HA.out j hlt).2 (by omega) (by omega) HTy.out).mono ?_
      rintro e w2 ⟨rfl, hk3⟩
      have K3 := Lib.hid ((K1.out.trans K2.out).trans hk3)
      clear hk3 c0 c1 z0
      go_wp2_with fail
      go_roundw
      case rel => exact ⟨j + 1, by omega, by go_num, S + (1 + (l[j].ctors.map mC).sum), by congr 1; push_cast; omega, by unfold Hid; rw [HT.out, HM.out, HS.out], K3.out⟩
      case measure => simp [intOf]; omega
    · go_wp2_with fail
      go_ret
      exact ⟨ret_i64 (by rw [HS.out, List.take_of_length_le (by omega)]), HK.out⟩
end Go.Proofs.Ytnfjjabeobcenaa
/-
  A number looked for in a list; the index that a constructor makes. No statement is proved here.
-/
namespace Go.Proofs.Ytnfjjabeobcenaa
open Go.RowKit
set_option maxRecDepth 100000
set_option linter.unusedVariables false
def NotIn (l : List Int) (x : Int) (k : Nat) : Prop := ∀ j (h : j < l.length), j < k → ¬ l[j] = x
theorem NotIn.zero (l : List Int) (x : Int) : NotIn l x 0 := fun j _ h => absurd h (by omega)
theorem NotIn.step {l : List Int} {x : Int} {k : Nat} (h : NotIn l x k) (hk : k < l.length) (e : ¬ l[k] = x) : NotIn l x (k + 1) := by
  intro j hj hjk
  by_cases e' : j = k
  · subst e'; exact e
  · exact h j hj (by omega)
theorem NotIn.all {l : List Int} {x : Int} {k : Nat} (h : NotIn l x k) (hk : l.length ≤ k) : ¬ x ∈ l := fun hx => by
  obtain ⟨j, hj, e⟩ := List.getElem_of_mem hx
  exact h j hj (by omega) e
theorem has_any (A : Option Addr) (l : List Int) (cap : Nat) (x : Int) (w : World) (hr : RInts w A l) :
    Calls Try.prog 74 #[.slice A l.length cap, .int .i64 x] w fun e w' => e = .returned (.bool (dec (x ∈ l))) ∧ w = w' := by
  have hn := hr.1
  unfold maxLen at hn
  have Hr := Lib.hid hr
  clear hr
  go_enter Try.func74, Try.ntmps74
  go_wp2_with fail
  go_loopw [5] (fun i wr => ∃ k : Nat, k ≤ l.length ∧ i = .int .i64 k ∧ NotIn l x k ∧ w = wr) (fun i _ => l.length - (intOf i).toNat)
  case atStart => exact ⟨0, by omega, rfl, NotIn.zero _ _, rfl⟩
  case round =>
    obtain ⟨k, hk, rfl, hno, rfl⟩ := hrel
    by_cases hlt : k < l.length
    · obtain ⟨b, off, rfl, _, c0⟩ := Hr.out.2 k hlt
      by_cases he : l[k] = x
      · have q := ieq_t he
        have HI : Hid (x ∈ l) := by rw [← he]; exact List.getElem_mem hlt
        clear he
        go_wp2_with fail
        go_ret
        exact ⟨ret_bool (dec_t HI.out).symm, rfl⟩
      · have q := ieq_f he
        have HN := Lib.hid (hno.step hlt he)
        clear he
        go_wp2_with fail
        go_roundw
        case rel => exact ⟨k + 1, by omega, by go_num, HN.out, trivial⟩
        case measure => simp [intOf]; omega
    · go_wp2_with fail
      go_ret
      exact ⟨ret_bool (dec_f (hno.all (by omega))).symm, rfl⟩
theorem index_any (A : Option Addr) (l : List Int) (cap : Nat) (x : Int) (w : World) (hr : RInts w A l) :
    Calls Try.prog 98 #[.slice A l.length cap, .int .i64 x] w fun e w' => ∃ r : Int, e = .returned (.int .i64 r) ∧ decide (0 ≤ r) = dec (x ∈ l) ∧ w = w' := by
  have hn := hr.1
  unfold maxLen at hn
  have Hr := Lib.hid hr
  clear hr
  go_enter Try.func98, Try.ntmps98
  go_wp2_with fail
  go_loopw [8] (fun i wr => ∃ k : Nat, k ≤ l.length ∧ i = .int .i64 k ∧ NotIn l x k ∧ w = wr) (fun i _ => l.length - (intOf i).toNat)
  case atStart => exact ⟨0, by omega, rfl, NotIn.zero _ _, rfl⟩
  case round =>
    obtain ⟨k, hk, rfl, hno, rfl⟩ := hrel
    by_cases hlt : k < l.length
    · obtain ⟨b, off, rfl, _, c0⟩ := Hr.out.2 k hlt
      by_cases he : l[k] = x
      · have q := ieq_t he.symm
        have HI : Hid (x ∈ l) := by rw [← he]; exact List.getElem_mem hlt
        clear he
        go_wp2_with fail
        go_ret
        exact ⟨_, rfl, by rw [dec_t HI.out]; simp, rfl⟩
      · have q := ieq_f (fun e => he e.symm)
        have HN := Lib.hid (hno.step hlt he)
        clear he
        go_wp2_with fail
        go_roundw
        case rel => exact ⟨k + 1, by omega, by go_num, HN.out, trivial⟩
        case measure => simp [intOf]; omega
    · go_wp2_with fail
      go_ret
      exact ⟨_, rfl, by rw [dec_f (hno.all (by omega))]; rfl, rfl⟩
theorem contains_any (A : Option Addr) (l : List Int) (cap : Nat) (x : Int) (w : World) (hr : RInts w A l) :
    Calls Try.prog 80 #[.slice A l.length cap, .int .i64 x] w fun e w' => e = .returned (.bool (dec (x ∈ l))) ∧ w = w' := by
  have Hr := Lib.hid hr
  clear hr
  go_enter Try.func80, Try.ntmps80
  go_wp2_with (go_at_call 98; refine (index_any _ _ _ _ _ Hr.out).mono ?_; rintro e w1 ⟨r, rfl, hd, rfl⟩; have HD := Lib.hid hd; clear hd)
  go_ret
  exact ⟨ret_bool HD.out, rfl⟩
/-- The index of what a constructor makes for a type of an index. -/
def resI (a ix : Int) : Int := if a = 0 then ix else a
theorem result_any (nm : ByteArray) (A : Option Addr) (n cap : Nat) (a ix : Int) (w : World) :
    Calls Try.prog 93 #[.agg #[.string nm, .slice A n cap, .int .i64 a], .int .i64 ix] w fun e w' => e = .returned (.int .i64 (resI a ix)) ∧ Below w.heap.size w w' := by
  have HB : Hid (∀ o : Obj, Below w.heap.size w (w.alloc o)) := fun o => (Below.refl _ _).alloc (Nat.le_refl _) _
  by_cases h : a = 0
  · have q := ieq_t h
    have H : Hid (resI a ix = ix) := if_pos h
    clear h
    go_enter Try.func93, Try.ntmps93
    go_wp2_with fail
    go_ret
    exact ⟨ret_i64 H.out.symm, HB.out _⟩
  · have q := ieq_f h
    have H : Hid (resI a ix = a) := if_neg h
    clear h
    go_enter Try.func93, Try.ntmps93
    go_wp2_with fail
    go_ret
    exact ⟨ret_i64 H.out.symm, HB.out _⟩
def argOf (c : Ct) (ix : Int) (a : Ty) : Ty := if a.index = -1 then ⟨a.data, resI c.index ix⟩ else a
def argT (c : Ct) (ix : Int) : List Ty := c.args.map (argOf c ix)
theorem argT_len (c : Ct) (ix : Int) : (argT c ix).length = c.args.length := List.length_map _
theorem argT_get (c : Ct) (ix : Int) (k : Nat) (h : k < c.args.length) (h' : k < (argT c ix).length) : (argT c ix)[k] = argOf c ix c.args[k] := by simp [argT]
/-- Types in a row of the call's own, the first k of a list. -/
def OTys (w : World) (lo : Nat) (v : Value) (l : List Ty) (k : Nat) : Prop := ∃ xs, w.ownsRow lo 33 2 v k xs ∧ TyRow l xs k
theorem TyRow.snoc {l : List Ty} {xs : List Value} {k : Nat} (h : TyRow l xs k) (hk : k < l.length) (hx : xs.length = k * 2) : TyRow l (xs ++ [.int .i64 l[k].data, .int .i64 l[k].index]) (k + 1) := by
  intro j hj hjk
  by_cases e : j = k
  · subst e
    constructor
    · rw [List.getElem?_append_right (by omega), hx]; simp
    · rw [List.getElem?_append_right (by omega), hx]; simp
  · obtain ⟨a, b⟩ := h j hj (by omega)
    constructor
    · rw [List.getElem?_append_left (by omega)]; exact a
    · rw [List.getElem?_append_left (by omega)]; exact b
theorem OTys.form {w : World} {lo : Nat} {v : Value} {l : List Ty} (h : OTys w lo v l l.length) (hl : l.length ≤ maxLen) : ∃ A cap, v = .slice A l.length cap ∧ RTys w w.heap.size A l := by
  obtain ⟨xs, ho, hx⟩ := h
  rcases ho.2 with ⟨rfl, h0⟩ | ⟨g, cap, cur, rfl, hb, hg, hnc, hcm, hcs, htake⟩
  · exact ⟨none, 0, by rw [h0], hl, fun k hk => absurd hk (by omega)⟩
  · refine ⟨_, cap, rfl, hl, fun k hk => ⟨g, 0, rfl, own_lt ho, ?_, ?_⟩⟩
    · rw [Nat.zero_add, ho.cellAt (k * 2) (by omega)]; exact (hx k hk hk).1
    · rw [Nat.zero_add, ho.cellAt (k * 2 + 1) (by omega)]; exact (hx k hk hk).2
theorem OTys.lower {w : World} {lo lo' : Nat} {v : Value} {l : List Ty} {k : Nat} (h : OTys w lo v l k) (hl : lo' ≤ lo) : OTys w lo' v l k := by
  obtain ⟨xs, ho, hx⟩ := h
  refine ⟨xs, ⟨ho.1, ?_⟩, hx⟩
  rcases ho.2 with h0 | ⟨g, cap, cur, a1, a2, a3⟩
  · exact .inl h0
  · exact .inr ⟨g, cap, cur, a1, by omega, a3⟩
end Go.Proofs.Ytnfjjabeobcenaa
