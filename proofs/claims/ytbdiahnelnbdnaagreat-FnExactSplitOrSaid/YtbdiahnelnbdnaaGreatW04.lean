/-
  The types of the arguments of a constructor: the program's function. No statement is proved here.
-/
import Derived.Test.YtbdiahnelnbdnaaGreatW03
import Derived.Test.YtbdiahnelnbdnaaGreatW00
import Derived.Test.YtbdiahnelnbdnaaGreatW02
import Derived.Test.YtbdiahnelnbdnaaGreatW01
import Derived.Deep.Fields
import Derived.Deep.Slices
import Derived.Maps.AppendAt
import Derived.Deep.RegionHeld3
import Derived.Outline
import Derived.WalkLawsBesides
import Derived.Maps.OwnSet
import Derived.DeepKeys5
import Derived.Lib.QuietBelow
import Derived.Deep.QuietTactic
import Derived.Laws.EntriesVeiled
import Derived.OwnWalkIn
import Derived.RangeFuncCalls
import Derived.OwnWalk
namespace Go.Proofs.YtbdiahnelnbdnaaGreat
open Go.RowKit
set_option maxRecDepth 100000
set_option linter.unusedVariables false
theorem argOf_same {c : Ct} {ix : Int} {a : Ty} (h : a.index = -1) : argOf c ix a = ⟨a.data, resI c.index ix⟩ := if_pos h
theorem argOf_other {c : Ct} {ix : Int} {a : Ty} (h : ¬ a.index = -1) : argOf c ix a = a := if_neg h
/-- What is stored for the element in place k. -/
theorem row_step {c : Ct} {ix : Int} {xs : List Value} {k : Nat} (h : TyRow (argT c ix) xs k) (hk : k < c.args.length) (hx : xs.length = c.args.length * 2) {u0 u1 : Int} (h0 : u0 = (argOf c ix c.args[k]).data) (h1 : u1 = (argOf c ix c.args[k]).index) :
    TyRow (argT c ix) ((xs.set (k * 2) (.int .i64 u0)).set (k * 2 + 1) (.int .i64 u1)) (k + 1) := by
  have hk' : k < (argT c ix).length := by rw [argT_len]; exact hk
  have := h.step hk' (by rw [argT_len]; exact hx)
  rw [argT_get c ix k hk hk'] at this
  rw [h0, h1]
  exact this
set_option maxHeartbeats 1600000 in
theorem argTypes_data (A : Option Addr) (l : List Da) (cap d m : Nat) (ix : Int) (hd : d < l.length) (hm : m < l[d].ctors.length) (h3 : l[d].ctors[m].args.length ≤ 3) (w : World) (hr : RDas w w.heap.size A l) :
    Calls Tryz.prog 88 #[.slice A l.length cap, .agg #[.int .i64 d, .int .i64 ix], .int .i64 m] w fun e w' => ∃ v, e = .returned v ∧ OTys w' w.heap.size v (argT l[d].ctors[m] ix) (argT l[d].ctors[m] ix).length ∧ Below w.heap.size w w' := by
  obtain ⟨i0, hi, hz0, hz1, hz2⟩ := info_parts info34
  have hn := hr.1
  unfold maxLen at hn
  obtain ⟨b, off, rfl, hbB, A', cp, c0, c1, hszd, hmd⟩ := hr.2 d hd
  have hnc := hmd.1
  unfold maxLen at hnc
  obtain ⟨g, o, rfl, hgB, D1, ep, e0, e1, e2, hszm, hmm⟩ := hmd.2 m hm
  have HMM := Lib.hid hmm
  clear hr hmd hmm
  have hdI : (d : Int) < (l.length : Int) := by omega
  have hmI : (m : Int) < (l[d].ctors.length : Int) := by omega
  have C1 : ∀ x, (w.alloc x).cell? ⟨b, off + d * 2 + 1, none⟩ = some (.slice (some ⟨g, o, none⟩) l[d].ctors.length cp) := fun x => (World.cell?_alloc_lt _ _ _ hbB).trans c1
  have E0 : ∀ x, (w.alloc x).cell? ⟨g, o + m * 3, none⟩ = some (.string l[d].ctors[m].name) := fun x => (World.cell?_alloc_lt _ _ _ hgB).trans e0
  have E1 : ∀ x, (w.alloc x).cell? ⟨g, o + m * 3 + 1, none⟩ = some (.slice D1 l[d].ctors[m].args.length ep) := fun x => (World.cell?_alloc_lt _ _ _ hgB).trans e1
  have E2 : ∀ x, (w.alloc x).cell? ⟨g, o + m * 3 + 2, none⟩ = some (.int .i64 l[d].ctors[m].index) := fun x => (World.cell?_alloc_lt _ _ _ hgB).trans e2
  clear c0 c1 e0 e1 e2
  have hL : (argT l[d].ctors[m] ix).length = l[d].ctors[m].args.length := argT_len _ _
  have HL := Lib.hid hL
  clear hL
  by_cases ha : l[d].ctors[m].index = 0
  · have q := ieq_t ha
    have HR : Hid (ix = resI l[d].ctors[m].index ix) := (if_pos ha).symm
    clear ha
    go_enter Tryz.func88, Tryz.ntmps88
    go_wp2_with (at_make; refine wpList_make_full _ rfl _ _ 77 rfl w.heap.size 35 i0 _ 2 Tryz.underlying77 hi hz0 hz1 _ _ _ _ l[d].ctors[m].args.length rfl rfl rfl rfl (by rw [hz2]; omega) (by unfold maxLen; omega) (by simp; omega) ?_; intro w1 hown0 hgr; have k1 : w1.cell? ⟨w.heap.size + 1, 1, none⟩ = some (.slice D1 l[d].ctors[m].args.length ep) := (World.cell?_of_block (a := ⟨w.heap.size + 1, 1, none⟩) (hgr.block (w.heap.size + 1) (by simp) (by simp))).trans (by simp [go_sem]))
    simp only [World.size_alloc] at hown0
    have hbw : Below w.heap.size w w1 := (((Below.refl _ _).alloc (Nat.le_refl _) _).alloc (by simp) _).grown hgr (by simp; omega) (fun k e => by cases e)
    clear hgr hi hz0 hz1 hz2 C1 E0 E1 E2 k1
    go_loopw [34] (fun i wr => ∃ k : Nat, k ≤ l[d].ctors[m].args.length ∧ i = .int .i64 k ∧ ∃ xs, wr.ownsRow w.heap.size 35 2 (.slice (some ⟨w.heap.size + 1 + 1, 0, none⟩) l[d].ctors[m].args.length l[d].ctors[m].args.length) l[d].ctors[m].args.length xs ∧ TyRow (argT l[d].ctors[m] ix) xs k ∧ Below w.heap.size w wr) (fun i _ => l[d].ctors[m].args.length - (intOf i).toNat)
    case atStart => exact ⟨0, by omega, rfl, _, hown0, TyRow.zero _ _, hbw⟩
    case round =>
      obtain ⟨k, hk, rfl, xs, hown, hrow, hb⟩ := hrel
      have hlw := hb.size
      clear hown0 hbw
      by_cases hlt : k < l[d].ctors[m].args.length
      · obtain ⟨b2, off2, rfl, hbB2, y0, y1⟩ := (HMM.out.below hb (Nat.le_refl _)).2 k hlt
        have hown2 : ∀ x, (wr.alloc x).ownsRow w.heap.size 35 2 (.slice (some ⟨w.heap.size + 1 + 1, 0, none⟩) l[d].ctors[m].args.length l[d].ctors[m].args.length) l[d].ctors[m].args.length xs := fun x => hown.alloc x
        have hgl := own_lt hown
        obtain ⟨v0, g0⟩ := own_cell hown (k * 2) (by omega)
        obtain ⟨v1, g1⟩ := own_cell hown (k * 2 + 1) (by omega)
        have f0 : ∀ x, (wr.alloc x).cell? ⟨w.heap.size + 1 + 1, k * 2, none⟩ = some v0 := fun x => (World.cell?_alloc_lt _ _ _ hgl).trans g0
        have f1 : ∀ x, (wr.alloc x).cell? ⟨w.heap.size + 1 + 1, k * 2 + 1, none⟩ = some v1 := fun x => (World.cell?_alloc_lt _ _ _ hgl).trans g1
        have HO2 := Lib.hid hown2
        have z0 : ∀ x, (wr.alloc x).frozen? ⟨w.heap.size + 1 + 1, k * 2, none⟩ = false := fun x => (hown2 x).frozenAt (k * 2)
        have z1 : ∀ x, (wr.alloc x).frozen? ⟨w.heap.size + 1 + 1, k * 2 + 1, none⟩ = false := fun x => (hown2 x).frozenAt (k * 2 + 1)
        have zz0 := hown.frozenAt (k * 2)
        have zz1 := hown.frozenAt (k * 2 + 1)
        have hxl := hown.1
        have HO := Lib.hid hown
        clear hown2 hown
        by_cases hs : l[d].ctors[m].args[k].index = -1
        · have qs := ieq_t hs
          have HA := Lib.hid (argOf_same (c := l[d].ctors[m]) (ix := ix) hs)
          clear hs
          go_wp2_with fail
          have s1 := (HO.out.stored (k * 2) (.int .i64 l[d].ctors[m].args[k].data)).1
          have s2 := (s1.stored (k * 2 + 1) (.int .i64 ix)).1
          have hrow2 := row_step hrow hlt hxl (u0 := l[d].ctors[m].args[k].data) (u1 := ix) (by rw [HA.out]) (by rw [HA.out]; exact HR.out)
          go_roundw
          case rel => exact ⟨k + 1, by omega, by go_num, _, s2.alloc _, hrow2, ((hb.setCell (by simp; omega) _).setCell (by simp; omega) _).alloc (by simp; omega) _⟩
          case measure => simp [intOf]; omega
        · have qs := ieq_f hs
          have HA := Lib.hid (argOf_other (c := l[d].ctors[m]) (ix := ix) hs)
          clear hs
          go_wp2_with fail
          have s1 := (HO.out.stored (k * 2) (.int .i64 l[d].ctors[m].args[k].data)).1
          have s2 := (s1.stored (k * 2 + 1) (.int .i64 l[d].ctors[m].args[k].index)).1
          have hrow2 := row_step hrow hlt hxl (u0 := l[d].ctors[m].args[k].data) (u1 := l[d].ctors[m].args[k].index) (by rw [HA.out]) (by rw [HA.out])
          go_roundw
          case rel => exact ⟨k + 1, by omega, by go_num, _, s2.alloc _, hrow2, ((hb.setCell (by simp; omega) _).setCell (by simp; omega) _).alloc (by simp; omega) _⟩
          case measure => simp [intOf]; omega
      · have he : k = l[d].ctors[m].args.length := by omega
        have HT : Hid (TyRow (argT l[d].ctors[m] ix) xs l[d].ctors[m].args.length) := by rw [← he]; exact hrow
        have HO := Lib.hid hown
        clear he hown hrow
        go_wp2_with fail
        go_ret
        exact ⟨_, rfl, ⟨xs, by rw [HL.out]; exact HO.out, by rw [HL.out]; exact HT.out⟩, hb⟩
  · have q := ieq_f ha
    have HR : Hid (l[d].ctors[m].index = resI l[d].ctors[m].index ix) := (if_neg ha).symm
    clear ha
    go_enter Tryz.func88, Tryz.ntmps88
    go_wp2_with (at_make; refine wpList_make_full _ rfl _ _ 77 rfl w.heap.size 35 i0 _ 2 Tryz.underlying77 hi hz0 hz1 _ _ _ _ l[d].ctors[m].args.length rfl rfl rfl rfl (by rw [hz2]; omega) (by unfold maxLen; omega) (by simp; omega) ?_; intro w1 hown0 hgr; have k1 : w1.cell? ⟨w.heap.size + 1, 1, none⟩ = some (.slice D1 l[d].ctors[m].args.length ep) := (World.cell?_of_block (a := ⟨w.heap.size + 1, 1, none⟩) (hgr.block (w.heap.size + 1) (by simp) (by simp))).trans (by simp [go_sem]))
    simp only [World.size_alloc] at hown0
    have hbw : Below w.heap.size w w1 := (((Below.refl _ _).alloc (Nat.le_refl _) _).alloc (by simp) _).grown hgr (by simp; omega) (fun k e => by cases e)
    clear hgr hi hz0 hz1 hz2 C1 E0 E1 E2 k1
    go_loopw [34] (fun i wr => ∃ k : Nat, k ≤ l[d].ctors[m].args.length ∧ i = .int .i64 k ∧ ∃ xs, wr.ownsRow w.heap.size 35 2 (.slice (some ⟨w.heap.size + 1 + 1, 0, none⟩) l[d].ctors[m].args.length l[d].ctors[m].args.length) l[d].ctors[m].args.length xs ∧ TyRow (argT l[d].ctors[m] ix) xs k ∧ Below w.heap.size w wr) (fun i _ => l[d].ctors[m].args.length - (intOf i).toNat)
    case atStart => exact ⟨0, by omega, rfl, _, hown0, TyRow.zero _ _, hbw⟩
    case round =>
      obtain ⟨k, hk, rfl, xs, hown, hrow, hb⟩ := hrel
      have hlw := hb.size
      clear hown0 hbw
      by_cases hlt : k < l[d].ctors[m].args.length
      · obtain ⟨b2, off2, rfl, hbB2, y0, y1⟩ := (HMM.out.below hb (Nat.le_refl _)).2 k hlt
        have hown2 : ∀ x, (wr.alloc x).ownsRow w.heap.size 35 2 (.slice (some ⟨w.heap.size + 1 + 1, 0, none⟩) l[d].ctors[m].args.length l[d].ctors[m].args.length) l[d].ctors[m].args.length xs := fun x => hown.alloc x
        have hgl := own_lt hown
        obtain ⟨v0, g0⟩ := own_cell hown (k * 2) (by omega)
        obtain ⟨v1, g1⟩ := own_cell hown (k * 2 + 1) (by omega)
        have f0 : ∀ x, (wr.alloc x).cell? ⟨w.heap.size + 1 + 1, k * 2, none⟩ = some v0 := fun x => (World.cell?_alloc_lt _ _ _ hgl).trans g0
        have f1 : ∀ x, (wr.alloc x).cell? ⟨w.heap.size + 1 + 1, k * 2 + 1, none⟩ = some v1 := fun x => (World.cell?_alloc_lt _ _ _ hgl).trans g1
        have HO2 := Lib.hid hown2
        have z0 : ∀ x, (wr.alloc x).frozen? ⟨w.heap.size + 1 + 1, k * 2, none⟩ = false := fun x => (hown2 x).frozenAt (k * 2)
        have z1 : ∀ x, (wr.alloc x).frozen? ⟨w.heap.size + 1 + 1, k * 2 + 1, none⟩ = false := fun x => (hown2 x).frozenAt (k * 2 + 1)
        have zz0 := hown.frozenAt (k * 2)
        have zz1 := hown.frozenAt (k * 2 + 1)
        have hxl := hown.1
        have HO := Lib.hid hown
        clear hown2 hown
        by_cases hs : l[d].ctors[m].args[k].index = -1
        · have qs := ieq_t hs
          have HA := Lib.hid (argOf_same (c := l[d].ctors[m]) (ix := ix) hs)
          clear hs
          go_wp2_with fail
          have s1 := (HO.out.stored (k * 2) (.int .i64 l[d].ctors[m].args[k].data)).1
          have s2 := (s1.stored (k * 2 + 1) (.int .i64 l[d].ctors[m].index)).1
          have hrow2 := row_step hrow hlt hxl (u0 := l[d].ctors[m].args[k].data) (u1 := l[d].ctors[m].index) (by rw [HA.out]) (by rw [HA.out]; exact HR.out)
          go_roundw
          case rel => exact ⟨k + 1, by omega, by go_num, _, s2.alloc _, hrow2, ((hb.setCell (by simp; omega) _).setCell (by simp; omega) _).alloc (by simp; omega) _⟩
          case measure => simp [intOf]; omega
        · have qs := ieq_f hs
          have HA := Lib.hid (argOf_other (c := l[d].ctors[m]) (ix := ix) hs)
          clear hs
          go_wp2_with fail
          have s1 := (HO.out.stored (k * 2) (.int .i64 l[d].ctors[m].args[k].data)).1
          have s2 := (s1.stored (k * 2 + 1) (.int .i64 l[d].ctors[m].args[k].index)).1
          have hrow2 := row_step hrow hlt hxl (u0 := l[d].ctors[m].args[k].data) (u1 := l[d].ctors[m].args[k].index) (by rw [HA.out]) (by rw [HA.out])
          go_roundw
          case rel => exact ⟨k + 1, by omega, by go_num, _, s2.alloc _, hrow2, ((hb.setCell (by simp; omega) _).setCell (by simp; omega) _).alloc (by simp; omega) _⟩
          case measure => simp [intOf]; omega
      · have he : k = l[d].ctors[m].args.length := by omega
        have HT : Hid (TyRow (argT l[d].ctors[m] ix) xs l[d].ctors[m].args.length) := by rw [← he]; exact hrow
        have HO := Lib.hid hown
        clear he hown hrow
        go_wp2_with fail
        go_ret
        exact ⟨_, rfl, ⟨xs, by rw [HL.out]; exact HO.out, by rw [HL.out]; exact HT.out⟩, hb⟩
end Go.Proofs.YtbdiahnelnbdnaaGreat
/-
  The types of the arguments of a constructor: the document's function. No statement is proved here.
-/
namespace Go.Proofs.YtbdiahnelnbdnaaGreat
open Go.RowKit
set_option maxRecDepth 100000
set_option linter.unusedVariables false
theorem cell_two_new (w : World) (x y : Value) (t : TypeId) : ∀ j u, [x, y][j]? = some u → (w.alloc (.cells #[x, y] t)).cell? ((⟨w.heap.size, 0, none⟩ : Addr).add j) = some u := by
  intro j u hj
  match j, hj with
  | 0, hj => simp at hj; subst hj; simp [Addr.add, go_sem]
  | 1, hj => simp at hj; subst hj; simp [Addr.add, go_sem]
theorem cell_two_more (w : World) (o : Obj) (x y : Value) (t : TypeId) : ∀ j u, [x, y][j]? = some u → ((w.alloc o).alloc (.cells #[x, y] t)).cell? ((⟨w.heap.size + 1, 0, none⟩ : Addr).add j) = some u := by
  intro j u hj
  match j, hj with
  | 0, hj => simp at hj; subst hj; simp [Addr.add, go_sem]
  | 1, hj => simp at hj; subst hj; simp [Addr.add, go_sem]
theorem own_keep {w w' : World} {lo : Nat} {e : TypeId} {size n : Nat} {v : Value} {xs : List Value} (h : w.ownsRow lo e size v n xs) (hk : ∀ b, b < w.heap.size → w'.heap[b]? = w.heap[b]?) : w'.ownsRow lo e size v n xs := by
  refine ⟨h.1, ?_⟩
  rcases h.2 with h0 | ⟨g, cap, cur, a1, a2, a3, a4⟩
  · exact .inl h0
  · exact .inr ⟨g, cap, cur, a1, a2, (hk g (heap_lt a3)).trans a3, a4⟩
theorem snoc_step {c : Ct} {ix : Int} {xs : List Value} {k : Nat} (h : TyRow (argT c ix) xs k) (hk : k < c.args.length) (hx : xs.length = k * 2) {u0 u1 : Int} (h0 : u0 = (argOf c ix c.args[k]).data) (h1 : u1 = (argOf c ix c.args[k]).index) :
    TyRow (argT c ix) (xs ++ [.int .i64 u0, .int .i64 u1]) (k + 1) := by
  have hk' : k < (argT c ix).length := by rw [argT_len]; exact hk
  have := h.snoc hk' hx
  rw [argT_get c ix k hk hk'] at this
  rw [h0, h1]
  exact this
theorem own_ne {w : World} {lo size n b : Nat} {e t : TypeId} {v : Value} {xs : List Value} {cs : Array Value} (h : w.ownsRow lo e size v n xs) (hc : w.heap[b]? = some (.cells cs t (0, 0))) (hne : e ≠ t) : some b ≠ v.ownBlock := fun he => by
  rcases h.2 with ⟨rfl, _⟩ | ⟨g, cap, cur, rfl, a2, a3, a4⟩
  · simp [Value.ownBlock] at he
  · have : b = g := by simpa [Value.ownBlock] using he
    subst this
    exact other_blk a3 hc hne rfl
set_option maxHeartbeats 1600000 in
theorem l1Args_data (A : Option Addr) (l : List Da) (cap d m : Nat) (ix : Int) (hd : d < l.length) (hm : m < l[d].ctors.length) (h3 : l[d].ctors[m].args.length ≤ 3) (w : World) (hr : RDas w w.heap.size A l) :
    Calls Tryz.prog 79 #[.slice A l.length cap, .agg #[.int .i64 d, .int .i64 ix], .int .i64 m] w fun e w' => ∃ v, e = .returned v ∧ OTys w' w.heap.size v (argT l[d].ctors[m] ix) (argT l[d].ctors[m] ix).length ∧ Below w.heap.size w w' := by
  obtain ⟨i0, hi, hz0, hz1, hz2⟩ := info_parts info34
  have hn := hr.1
  unfold maxLen at hn
  obtain ⟨b, off, rfl, hbB, A', cp, c0, c1, hszd, hmd⟩ := hr.2 d hd
  have hnc := hmd.1
  unfold maxLen at hnc
  obtain ⟨g, o, rfl, hgB, D1, ep, e0, e1, e2, hszm, hmm⟩ := hmd.2 m hm
  have HMM := Lib.hid hmm
  clear hr hmd hmm
  have hdI : (d : Int) < (l.length : Int) := by omega
  have hmI : (m : Int) < (l[d].ctors.length : Int) := by omega
  have hc2 : ∀ x y : Obj, ∀ p : Addr, p.block < w.heap.size → ((w.alloc x).alloc y).cell? p = w.cell? p := fun x y p hp => by
    rw [World.cell?_alloc_lt _ _ _ (by simp; omega), World.cell?_alloc_lt _ _ _ hp]
  have C1 : ∀ x y, ((w.alloc x).alloc y).cell? ⟨b, off + d * 2 + 1, none⟩ = some (.slice (some ⟨g, o, none⟩) l[d].ctors.length cp) := fun x y => (hc2 x y _ hbB).trans c1
  have E0 : ∀ x y, ((w.alloc x).alloc y).cell? ⟨g, o + m * 3, none⟩ = some (.string l[d].ctors[m].name) := fun x y => (hc2 x y _ hgB).trans e0
  have E1 : ∀ x y, ((w.alloc x).alloc y).cell? ⟨g, o + m * 3 + 1, none⟩ = some (.slice D1 l[d].ctors[m].args.length ep) := fun x y => (hc2 x y _ hgB).trans e1
  have E2 : ∀ x y, ((w.alloc x).alloc y).cell? ⟨g, o + m * 3 + 2, none⟩ = some (.int .i64 l[d].ctors[m].index) := fun x y => (hc2 x y _ hgB).trans e2
  clear c0 c1 e0 e1 e2 hc2
  have hL : (argT l[d].ctors[m] ix).length = l[d].ctors[m].args.length := argT_len _ _
  have HL := Lib.hid hL
  clear hL
  go_enter Tryz.func79, Tryz.ntmps79
  go_wp2_with fail
  clear C1 E0 E1 E2
  generalize hw0 : ((w.alloc (.cells #[.int .i64 d, .int .i64 ix] 35)).alloc (.cells #[] 35)).alloc (.cells #[.string l[d].ctors[m].name, .slice D1 l[d].ctors[m].args.length ep, .int .i64 l[d].ctors[m].index] 79) = w0
  have HX1 : Hid (w0.cell? ⟨w.heap.size, 1, none⟩ = some (.int .i64 ix)) := by unfold Hid; rw [← hw0]; simp [go_sem]
  have HH : Hid (w0.heap[w.heap.size + 1 + 1]? = some (.cells #[.string l[d].ctors[m].name, .slice D1 l[d].ctors[m].args.length ep, .int .i64 l[d].ctors[m].index] 79 (0, 0))) := by
    have h := heap_alloc_new ((w.alloc (.cells #[.int .i64 d, .int .i64 ix] 35)).alloc (.cells #[] 35)) (.cells #[.string l[d].ctors[m].name, .slice D1 l[d].ctors[m].args.length ep, .int .i64 l[d].ctors[m].index] 79)
    simp only [World.size_alloc] at h
    unfold Hid; rw [← hw0]; exact h
  have HS0 : Hid (w0.heap.size = w.heap.size + 3) := by unfold Hid; rw [← hw0]; simp
  have HK : Hid (Below w.heap.size w w0) := by rw [← hw0]; exact (((Below.refl _ _).alloc (Nat.le_refl _) _).alloc (by simp) _).alloc (by simp; omega) _
  have HO0 : Hid (w0.ownsRow (w.heap.size + 1) 35 2 (.slice (some ⟨w.heap.size + 1, 0, none⟩) 0 0) 0 []) := by
    unfold Hid
    rw [← hw0]
    have := World.ownsRow_lit (base := w.heap.size + 1) (e := 35) (size := 2) (w.alloc (.cells #[.int .i64 d, .int .i64 ix] 35)) #[] 0 (by simp) (by simp) rfl
    simpa using this.alloc _
  clear hw0
  go_loopw [7, 9] (fun v i wr => ∃ k : Nat, k ≤ l[d].ctors[m].args.length ∧ i = .int .i64 k ∧ ∃ xs, wr.ownsRow (w.heap.size + 1) 35 2 v k xs ∧ TyRow (argT l[d].ctors[m] ix) xs k ∧ wr.heap[w.heap.size + 1 + 1]? = w0.heap[w.heap.size + 1 + 1]? ∧ Below (w.heap.size + 1) w0 wr) (fun _ i _ => l[d].ctors[m].args.length - (intOf i).toNat)
  case atStart => exact ⟨0, by omega, rfl, _, HO0.out, TyRow.zero _ _, rfl, Below.refl _ _⟩
  case round =>
    obtain ⟨k, hk, rfl, xs, hown, hrow, hhc, hb⟩ := hrel
    have HHr : Hid (wr.heap[w.heap.size + 1 + 1]? = some (.cells #[.string l[d].ctors[m].name, .slice D1 l[d].ctors[m].args.length ep, .int .i64 l[d].ctors[m].index] 79 (0, 0))) := hhc.trans HH.out
    clear hhc HO0
    have hlw : w.heap.size + 3 ≤ wr.heap.size := by have := hb.size; have := HS0.out; omega
    have x1 : wr.cell? ⟨w.heap.size, 1, none⟩ = some (.int .i64 ix) := (hb.cell (p := ⟨w.heap.size, 1, none⟩) (by simp)).trans HX1.out
    have y0 : wr.cell? ⟨w.heap.size + 1 + 1, 0, none⟩ = some (.string l[d].ctors[m].name) := cell_of_blk HHr.out 0
    have y1 : wr.cell? ⟨w.heap.size + 1 + 1, 1, none⟩ = some (.slice D1 l[d].ctors[m].args.length ep) := cell_of_blk HHr.out 1
    have y2 : wr.cell? ⟨w.heap.size + 1 + 1, 2, none⟩ = some (.int .i64 l[d].ctors[m].index) := cell_of_blk HHr.out 2
    have HO := Lib.hid hown
    clear hown
    by_cases hlt : k < l[d].ctors[m].args.length
    · have HBw : Hid (Below w.heap.size w wr) := HK.out.trans (hb.mono (by omega))
      obtain ⟨b2, off2, rfl, hbB2, p0, p1⟩ := (HMM.out.below HBw.out (Nat.le_refl _)).2 k hlt
      have Y0 : ∀ x, (wr.alloc x).cell? ⟨w.heap.size + 1 + 1, 0, none⟩ = some (.string l[d].ctors[m].name) := fun x => (World.cell?_alloc_lt _ _ _ (by simp; omega)).trans y0
      have Y1 : ∀ x, (wr.alloc x).cell? ⟨w.heap.size + 1 + 1, 1, none⟩ = some (.slice (some ⟨b2, off2, none⟩) l[d].ctors[m].args.length ep) := fun x => (World.cell?_alloc_lt _ _ _ (by simp; omega)).trans y1
      have Y2 : ∀ x, (wr.alloc x).cell? ⟨w.heap.size + 1 + 1, 2, none⟩ = some (.int .i64 l[d].ctors[m].index) := fun x => (World.cell?_alloc_lt _ _ _ (by simp; omega)).trans y2
      have X1 : ∀ x, (wr.alloc x).cell? ⟨w.heap.size, 1, none⟩ = some (.int .i64 ix) := fun x => (World.cell?_alloc_lt _ _ _ (by simp; omega)).trans x1
      by_cases hs : l[d].ctors[m].args[k].index = -1
      · have qs := ieq_t hs
        have HA := Lib.hid (argOf_same (c := l[d].ctors[m]) (ix := ix) hs)
        clear hs
        go_wp2_with fail
        refine (result_any _ _ _ _ _ _ _).mono ?_
        rintro e w2 ⟨rfl, hb2⟩
        obtain ⟨hc, hfz⟩ := bcell hb2
        have hz : wr.heap.size < w2.heap.size := by have := hb2.size; simp at this; omega
        have HU : Hid (∀ bb, bb < wr.heap.size → (w2.setCell ⟨wr.heap.size, 1, none⟩ (.int .i64 (resI l[d].ctors[m].index ix))).heap[bb]? = wr.heap[bb]?) := fun bb h => by
          rw [Below.heap_setCell _ _ _ _ (by simp; omega), hb2.block bb (by simp; omega), Below.heap_alloc _ _ _ h]
        have HO2 := Lib.hid (own_keep HO.out HU.out)
        go_wp2_with (at_builtin; refine wpList_append_own _ rfl _ _ 77 rfl (w.heap.size + 1) 35 i0 (.agg #[.int .i64 0, .int .i64 0]) 2 16 Tryz.underlying77 hi hz0 hz1 hz2 rfl (by decide) _ _ _ rfl (HO2.out.alloc _) ⟨w2.heap.size, 0, none⟩ 1 1 [.int .i64 l[d].ctors[m].args[k].data, .int .i64 (resI l[d].ctors[m].index ix)] rfl rfl ?c1 ?c2 ?c3 ?c4 ?c5 ?_)
        case c1 =>
          intro j u hj
          have := cell_two_new (w2.setCell ⟨wr.heap.size, 1, none⟩ (.int .i64 (resI l[d].ctors[m].index ix))) _ _ 35 j u hj
          simpa using this
        case c2 => intro u hu; simp at hu; rcases hu with rfl | rfl <;> rfl
        case c3 => unfold maxLen; omega
        case c4 => omega
        case c5 => simp; omega
        intro v' w1 hown' hgrow hnn
        have hb3 : Below (w.heap.size + 1) w0 w1 := ((((hb.alloc (by omega) _).trans (hb2.mono (by simp; omega))).setCell (p := ⟨wr.heap.size, 1, none⟩) (by simp; omega) _).alloc (by simp; omega) _).grown hgrow (by simp; omega) (fun g' e => (HO2.out.lt g' e).1)
        have hc3 : w1.heap[w.heap.size + 1 + 1]? = w0.heap[w.heap.size + 1 + 1]? := by
          have q1 := (HU.out (w.heap.size + 1 + 1) (by omega)).trans HHr.out
          rw [hgrow.block (w.heap.size + 1 + 1) (by simp; omega) (own_ne HO2.out q1 (by decide)), Below.heap_alloc _ _ _ (by simp; omega), q1, HH.out]
        have hr3 := snoc_step hrow hlt HO.out.1 (u0 := l[d].ctors[m].args[k].data) (u1 := resI l[d].ctors[m].index ix) (by rw [HA.out]) (by rw [HA.out])
        have HO3 := Lib.hid hown'
        clear hown' hgrow hnn hc hfz hi hz0 hz1 hz2 Y0 Y1 Y2 X1
        go_wp2_with fail
        go_roundw
        case rel => exact ⟨k + 1, by omega, by go_num, _, HO3.out, hr3, hc3, hb3⟩
        case measure => simp [intOf]; omega
      · have qs := ieq_f hs
        have HA := Lib.hid (argOf_other (c := l[d].ctors[m]) (ix := ix) hs)
        clear hs
        go_wp2_with (at_builtin; refine wpList_append_own _ rfl _ _ 77 rfl (w.heap.size + 1) 35 i0 (.agg #[.int .i64 0, .int .i64 0]) 2 16 Tryz.underlying77 hi hz0 hz1 hz2 rfl (by decide) _ _ _ rfl ((HO.out.alloc _).alloc _) ⟨wr.heap.size + 1, 0, none⟩ 1 1 [.int .i64 l[d].ctors[m].args[k].data, .int .i64 l[d].ctors[m].args[k].index] rfl rfl ?d1 ?d2 ?d3 ?d4 ?d5 ?_)
        case d1 => exact cell_two_more _ _ _ _ _
        case d2 => intro u hu; simp at hu; rcases hu with rfl | rfl <;> rfl
        case d3 => unfold maxLen; omega
        case d4 => omega
        case d5 => simp; omega
        intro v' w1 hown' hgrow hnn
        have hb3 : Below (w.heap.size + 1) w0 w1 := ((hb.alloc (by omega) _).alloc (by simp; omega) _).grown hgrow (by simp; omega) (fun g' e => (HO.out.lt g' e).1)
        have hc3 : w1.heap[w.heap.size + 1 + 1]? = w0.heap[w.heap.size + 1 + 1]? := by
          rw [hgrow.block (w.heap.size + 1 + 1) (by simp; omega) (own_ne HO.out HHr.out (by decide)), Below.heap_alloc _ _ _ (by simp; omega), Below.heap_alloc _ _ _ (by omega), HHr.out, HH.out]
        have hr3 := snoc_step hrow hlt HO.out.1 (u0 := l[d].ctors[m].args[k].data) (u1 := l[d].ctors[m].args[k].index) (by rw [HA.out]) (by rw [HA.out])
        have HO3 := Lib.hid hown'
        clear hown' hgrow hnn hi hz0 hz1 hz2 Y0 Y1 Y2 X1
        go_wp2_with fail
        go_roundw
        case rel => exact ⟨k + 1, by omega, by go_num, _, HO3.out, hr3, hc3, hb3⟩
        case measure => simp [intOf]; omega
    · have he : k = l[d].ctors[m].args.length := by omega
      have HT : Hid (OTys wr (w.heap.size + 1) u7 (argT l[d].ctors[m] ix) (argT l[d].ctors[m] ix).length) := by unfold Hid; rw [HL.out, ← he]; exact ⟨xs, HO.out, hrow⟩
      have HBw : Hid (Below w.heap.size w wr) := HK.out.trans (hb.mono (by omega))
      clear he hrow
      go_wp2_with fail
      go_ret
      exact ⟨_, rfl, HT.out.lower (by omega), HBw.out⟩
end Go.Proofs.YtbdiahnelnbdnaaGreat
/-
  The types of the arguments of a constructor: both functions, whole; types that are marked and looked at again. No statement is proved here.
-/
namespace Go.Proofs.YtbdiahnelnbdnaaGreat
open Go.RowKit
set_option maxRecDepth 100000
set_option linter.unusedVariables false
theorem mem_ctL {cs : List Ct} {i x : Int} : ∀ n, x ∈ ctL cs i n → ∃ m : Nat, m < n ∧ x = m
  | n + 1, h => by
    have h' : x ∈ ctL cs i n ++ (if fitsB (cs.getD n default).index i then [(n : Int)] else []) := h
    rcases List.mem_append.1 h' with h1 | h1
    · obtain ⟨m, hm, e⟩ := mem_ctL n h1
      exact ⟨m, by omega, e⟩
    · split at h1
      · exact ⟨n, by omega, by simpa using h1⟩
      · simp at h1
theorem mem_ctR {l : List Da} {t : Ty} {x : Int} (h : x ∈ ctR l t) : TyOK l t ∧ ∃ (d m : Nat) (hd : d < l.length), t.data = d ∧ x = m ∧ m < l[d].ctors.length := by
  by_cases ht : TyOK l t
  · refine ⟨ht, ?_⟩
    rcases ty_cases ht with h1 | ⟨d, h1, hd⟩
    · rw [ctR_int h1] at h; simp at h
    · obtain ⟨td, ti⟩ := t
      simp only at h1
      subst h1
      rw [ctR_data ht hd] at h
      obtain ⟨m, hm, e⟩ := mem_ctL _ h
      exact ⟨d, m, hd, rfl, e, hm⟩
  · rw [ctR_no ht] at h; simp at h
theorem args_three {l : List Da} (h : WorldOK l) {d m : Nat} (hd : d < l.length) (hm : m < l[d].ctors.length) : l[d].ctors[m].args.length ≤ 3 := by
  have h1 := h.2.1 d hd hd
  by_cases h3 : l[d].ctors[m].args.length ≤ 3
  · exact h3
  · have h2 := (data_bad (n := l.length) (all_bad hm (ctor_args (n := l.length) h3).symm)).symm
    rw [h1] at h2; cases h2
/-- The types of the arguments of a constructor for a type. -/
noncomputable def agR (l : List Da) (t : Ty) (x : Int) : List Ty := if dec (x ∈ ctR l t) then argT ((l.getD t.data.toNat default).ctors.getD x.toNat default) t.index else []
theorem agR_no {l : List Da} {t : Ty} {x : Int} (h : ¬ x ∈ ctR l t) : agR l t x = [] := by unfold agR; rw [dec_f h]; rfl
theorem agR_yes {l : List Da} {d m : Nat} {i : Int} (h : (m : Int) ∈ ctR l ⟨d, i⟩) (hd : d < l.length) (hm : m < l[d].ctors.length) : agR l ⟨d, i⟩ m = argT l[d].ctors[m] i := by
  have e : l.getD d default = l[d] := by simp [List.getD, List.getElem?_eq_getElem hd]
  have e2 : l[d].ctors.getD m default = l[d].ctors[m] := by simp [List.getD, List.getElem?_eq_getElem hm]
  unfold agR
  rw [dec_t h]
  simp only [if_true, Int.toNat_natCast, e, e2]
theorem agR_len (l : List Da) (t : Ty) (x : Int) : (agR l t x).length ≤ 3 := by
  by_cases h : x ∈ ctR l t
  · obtain ⟨ht, d, m, hd, h1, rfl, hm⟩ := mem_ctR h
    obtain ⟨td, ti⟩ := t
    simp only at h1
    subst h1
    rw [agR_yes h hd hm, argT_len]
    exact args_three ht.1 hd hm
  · rw [agR_no h]; simp
theorem l1Args_all (A : Option Addr) (l : List Da) (cap : Nat) (t : Ty) (x : Int) (w : World) (hr : RDas w w.heap.size A l) (h : x ∈ ctR l t) :
    Calls Tryz.prog 79 #[.slice A l.length cap, .agg #[.int .i64 t.data, .int .i64 t.index], .int .i64 x] w fun e w' => ∃ v, e = .returned v ∧ OTys w' w.heap.size v (agR l t x) (agR l t x).length ∧ Below w.heap.size w w' := by
  obtain ⟨ht, d, m, hd, h1, rfl, hm⟩ := mem_ctR h
  obtain ⟨td, ti⟩ := t
  simp only at h1
  subst h1
  rw [agR_yes h hd hm]
  exact l1Args_data A l cap d m ti hd hm (args_three ht.1 hd hm) w hr
theorem argTypes_all (A : Option Addr) (l : List Da) (cap : Nat) (t : Ty) (x : Int) (w : World) (hr : RDas w w.heap.size A l) (h : x ∈ ctR l t) :
    Calls Tryz.prog 88 #[.slice A l.length cap, .agg #[.int .i64 t.data, .int .i64 t.index], .int .i64 x] w fun e w' => ∃ v, e = .returned v ∧ OTys w' w.heap.size v (agR l t x) (agR l t x).length ∧ Below w.heap.size w w' := by
  obtain ⟨ht, d, m, hd, h1, rfl, hm⟩ := mem_ctR h
  obtain ⟨td, ti⟩ := t
  simp only at h1
  subst h1
  rw [agR_yes h hd hm]
  exact argTypes_data A l cap d m ti hd hm (args_three ht.1 hd hm) w hr
end Go.Proofs.YtbdiahnelnbdnaaGreat
/-
  The depth that a table gives for a constructor of a valid type; the places of a table as types. No statement is proved here.
-/
namespace Go.Proofs.YtbdiahnelnbdnaaGreat
open Go.RowKit
set_option maxRecDepth 100000
set_option linter.unusedVariables false
theorem ctor_parts {n : Int} {c : Ct} (h : ctorB n c = true) : (0 ≤ c.index ∧ c.index ≤ 3) ∧ ∀ a ∈ c.args, argB n (-1) a = true := by
  refine ⟨?_, ?_⟩
  · by_cases h1 : 0 ≤ c.index ∧ c.index ≤ 3
    · exact h1
    · have := ctor_index (n := n) h1; rw [h] at this; cases this
  · intro a ha
    by_cases h2 : c.args.all (argB n (-1)) = true
    · exact List.all_eq_true.1 h2 a ha
    · have h3 : c.args.all (argB n (-1)) = false := by simpa using h2
      have := ctor_bad h3; rw [h] at this; cases this
theorem world_ctor {l : List Da} (h : WorldOK l) {d m : Nat} (hd : d < l.length) (hm : m < l[d].ctors.length) : ctorB l.length l[d].ctors[m] = true := by
  have h1 := h.2.1 d hd hd
  by_cases h2 : ctorB l.length l[d].ctors[m] = true
  · exact h2
  · have h3 : ctorB l.length l[d].ctors[m] = false := by simpa using h2
    have := data_bad (n := l.length) (all_bad hm h3); rw [h1] at this; cases this
end Go.Proofs.YtbdiahnelnbdnaaGreat
/-
  What an argument of the laws reads as: lists of types, of constructors, of data types. No statement is proved here.
-/
namespace Go.Proofs.YtbdiahnelnbdnaaGreat
set_option maxRecDepth 100000
open Go.RowKit Go.Deep
open Go.ChangeShapes Go.WideShapes
set_option linter.unusedVariables false
section
variable {H : Type} {enc : TypeId × Value → H} {w : World} {spare : Nat → Bool} {held : Bool}
theorem field_at {e : TypeId} {fs : Array Field} {fuel : Nat} {cs : List Value} {x : DataW H × List MemPlace} (he : Tryz.prog.underlying e = some (.struct fs)) (hone : oneCellFields Tryz.prog fs = true) (hlen : cs.length = fs.size)
    (h : DataW.trod enc Tryz.prog w 0 spare held fuel e cs = some x) :
    ∃ m, ∀ (j : Nat) (f : Field), fs[j]? = some f → ∃ v y, cs[j]? = some v ∧ DataW.trod enc Tryz.prog w 0 spare held m f.type [v] = some y := by
  obtain ⟨ys, m, _, _, _, hyl, hf⟩ := DataW.trod_struct he h
  refine ⟨m, fun j f hj => ?_⟩
  obtain ⟨ho, hk⟩ := hone_of hone j f hj
  have hjl : j < fs.size := (Array.getElem?_eq_some_iff.1 hj).1
  have h1 := hf j f hj
  rw [ho, hk] at h1
  have hd : (cs.drop j).take 1 = [cs[j]'(by omega)] := by
    rw [List.drop_eq_getElem_cons (by omega)]; rfl
  rw [hd, List.getElem?_eq_getElem (by omega)] at h1
  exact ⟨_, _, List.getElem?_eq_getElem (by omega), h1⟩
theorem ty_at {fuel : Nat} {p : Addr} {cs : List Value} {x : DataW H × List MemPlace} (hc : w.cells? 0 p (Tryz.prog.cellsOf 24) = some cs) (h : DataW.trod enc Tryz.prog w 0 spare held fuel 24 cs = some x) :
    ∃ t : Ty, w.cell? (p.add 0) = some (.int .i64 t.data) ∧ w.cell? (p.add 1) = some (.int .i64 t.index) := by
  obtain ⟨_, hl, hat⟩ := World.cells?_some hc
  have h2 : Tryz.prog.cellsOf 24 = 2 := by kernel_rfl
  rw [h2] at hl hat
  obtain ⟨m, hf⟩ := field_at Tryz.underlying24 (by kernel_rfl) hl h
  obtain ⟨v0, y0, e0, t0⟩ := hf 0 _ rfl
  obtain ⟨v1, y1, e1, t1⟩ := hf 1 _ rfl
  obtain ⟨a, q0, _, _⟩ := DataW.trod_int Tryz.underlying3 t0
  obtain ⟨b, q1, _, _⟩ := DataW.trod_int Tryz.underlying3 t1
  simp only [List.cons.injEq, and_true] at q0 q1
  subst q0 q1
  exact ⟨⟨a, b⟩, (hat 0 (by omega)).trans e0, (hat 1 (by omega)).trans e1⟩
theorem spot_of {w : World} {a : Addr} {v : Value} (h : w.cell? a = some v) : a.spot = none := by
  unfold World.cell? at h
  split at h
  · split at h
    · cases h
    · simpa using ‹¬ a.spot.isSome = true›
  · cases h
theorem rTys_of {fuel : Nat} {v : Value} {x : DataW H × List MemPlace} (h : DataW.trod enc Tryz.prog w 0 spare held fuel 82 [v] = some x) : ∃ A l cap, v = .slice A (List.length l) cap ∧ RTys w w.heap.size A l := by
  rcases open_slice Tryz.underlying82 h with ⟨hcs, _⟩ | ⟨a, len, cap, m, n', D, Pl, hcs, hb, hl, hm, hmm, hx, hi⟩
  · obtain rfl : v = .slice none 0 0 := by simpa using hcs
    exact ⟨none, [], 0, rfl, by simp, fun k hk => absurd hk (by simp)⟩
  · obtain rfl : v = .slice (some a) len cap := by simpa using hcs
    have hlm : len ≤ m := by rw [hmm]; split <;> omega
    have h2 : Tryz.prog.cellsOf 24 = 2 := by kernel_rfl
    obtain ⟨f, hf⟩ := choose_lt (α := Ty) (n := len) (p := fun i t => w.cell? ((a.add (i * 2)).add 0) = some (.int .i64 t.data) ∧ w.cell? ((a.add (i * 2)).add 1) = some (.int .i64 t.index)) (fun i him => by
      obtain ⟨cs', q1, q2⟩ := hi i (by omega)
      have := ty_at q1 q2
      rw [h2] at this
      exact this)
    refine ⟨some a, (List.range len).map f, cap, by simp, by simp; omega, fun k hk => ?_⟩
    have hk' : k < len := by simpa using hk
    have hsp : a.spot = none := spot_of (w := w) (a := a) (by simpa [Addr.add] using (hf 0 (by omega)).1)
    obtain ⟨b, off, sp⟩ := a
    simp only at hsp
    subst hsp
    obtain ⟨c0, c1⟩ := hf k hk'
    simp only [Addr.add_lit, Nat.add_zero] at c0 c1
    refine ⟨b, off, rfl, block_lt_of_cell c0, ?_, ?_⟩
    · simpa using c0
    · simpa using c1
theorem ct_at {fuel : Nat} {p : Addr} {cs : List Value} {x : DataW H × List MemPlace} (hc : w.cells? 0 p (Tryz.prog.cellsOf 84) = some cs) (h : DataW.trod enc Tryz.prog w 0 spare held fuel 84 cs = some x) :
    ∃ c : Ct, ∃ A cap, w.cell? (p.add 0) = some (.string c.name) ∧ w.cell? (p.add 1) = some (.slice A c.args.length cap) ∧ w.cell? (p.add 2) = some (.int .i64 c.index) ∧ c.name.size ≤ maxLen ∧ RTys w w.heap.size A c.args := by
  obtain ⟨_, hl, hat⟩ := World.cells?_some hc
  have h2 : Tryz.prog.cellsOf 84 = 3 := by kernel_rfl
  rw [h2] at hl hat
  obtain ⟨m, hf⟩ := field_at Tryz.underlying84 (by kernel_rfl) hl h
  obtain ⟨v0, y0, e0, t0⟩ := hf 0 _ rfl
  obtain ⟨v1, y1, e1, t1⟩ := hf 1 _ rfl
  obtain ⟨v2, y2, e2, t2⟩ := hf 2 _ rfl
  obtain ⟨s, q0, _, hs⟩ := DataW.trod_string Tryz.underlying9 t0
  obtain ⟨b, q2, _, _⟩ := DataW.trod_int Tryz.underlying3 t2
  obtain ⟨A, l, cap, rfl, hr⟩ := rTys_of t1
  simp only [List.cons.injEq, and_true] at q0 q2
  subst q0 q2
  exact ⟨⟨s, l, b⟩, A, cap, (hat 0 (by omega)).trans e0, (hat 1 (by omega)).trans e1, (hat 2 (by omega)).trans e2, hs, hr⟩
theorem rCts_of {fuel : Nat} {v : Value} {x : DataW H × List MemPlace} (h : DataW.trod enc Tryz.prog w 0 spare held fuel 48 [v] = some x) : ∃ A l cap, v = .slice A (List.length l) cap ∧ RCts w w.heap.size A l := by
  rcases open_slice Tryz.underlying48 h with ⟨hcs, _⟩ | ⟨a, len, cap, m, n', D, Pl, hcs, hb, hl, hm, hmm, hx, hi⟩
  · obtain rfl : v = .slice none 0 0 := by simpa using hcs
    exact ⟨none, [], 0, rfl, by simp, fun k hk => absurd hk (by simp)⟩
  · obtain rfl : v = .slice (some a) len cap := by simpa using hcs
    have hlm : len ≤ m := by rw [hmm]; split <;> omega
    have h2 : Tryz.prog.cellsOf 84 = 3 := by kernel_rfl
    obtain ⟨f, hf⟩ := choose_lt (α := Ct) (n := len) (p := fun i c => ∃ A cap, w.cell? ((a.add (i * 3)).add 0) = some (.string c.name) ∧ w.cell? ((a.add (i * 3)).add 1) = some (.slice A c.args.length cap) ∧ w.cell? ((a.add (i * 3)).add 2) = some (.int .i64 c.index) ∧ c.name.size ≤ maxLen ∧ RTys w w.heap.size A c.args) (fun i him => by
      obtain ⟨cs', q1, q2⟩ := hi i (by omega)
      have := ct_at q1 q2
      rw [h2] at this
      exact this)
    refine ⟨some a, (List.range len).map f, cap, by simp, by simp; omega, fun k hk => ?_⟩
    have hk' : k < len := by simpa using hk
    have hsp : a.spot = none := by
      obtain ⟨A, cap', c0, _⟩ := hf 0 (by omega)
      exact spot_of (w := w) (a := a) (by simpa [Addr.add] using c0)
    obtain ⟨b, off, sp⟩ := a
    simp only at hsp
    subst hsp
    obtain ⟨A, cap', c0, c1, c2, hs, hr⟩ := hf k hk'
    simp only [Addr.add_lit, Nat.add_zero] at c0 c1 c2
    refine ⟨b, off, rfl, block_lt_of_cell c0, A, cap', ?_, ?_, ?_, ?_, ?_⟩
    · simpa using c0
    · simpa using c1
    · simpa using c2
    · simpa using hs
    · simpa using hr
theorem da_at {fuel : Nat} {p : Addr} {cs : List Value} {x : DataW H × List MemPlace} (hc : w.cells? 0 p (Tryz.prog.cellsOf 50) = some cs) (h : DataW.trod enc Tryz.prog w 0 spare held fuel 50 cs = some x) :
    ∃ d : Da, ∃ A cap, w.cell? (p.add 0) = some (.string d.name) ∧ w.cell? (p.add 1) = some (.slice A d.ctors.length cap) ∧ d.name.size ≤ maxLen ∧ RCts w w.heap.size A d.ctors := by
  obtain ⟨_, hl, hat⟩ := World.cells?_some hc
  have h2 : Tryz.prog.cellsOf 50 = 2 := by kernel_rfl
  rw [h2] at hl hat
  obtain ⟨m, hf⟩ := field_at Tryz.underlying50 (by kernel_rfl) hl h
  obtain ⟨v0, y0, e0, t0⟩ := hf 0 _ rfl
  obtain ⟨v1, y1, e1, t1⟩ := hf 1 _ rfl
  obtain ⟨s, q0, _, hs⟩ := DataW.trod_string Tryz.underlying9 t0
  obtain ⟨A, l, cap, rfl, hr⟩ := rCts_of t1
  simp only [List.cons.injEq, and_true] at q0
  subst q0
  exact ⟨⟨s, l⟩, A, cap, (hat 0 (by omega)).trans e0, (hat 1 (by omega)).trans e1, hs, hr⟩
theorem rDas_of {fuel : Nat} {v : Value} {x : DataW H × List MemPlace} (h : DataW.trod enc Tryz.prog w 0 spare held fuel 22 [v] = some x) : ∃ A l cap, v = .slice A (List.length l) cap ∧ RDas w w.heap.size A l := by
  rcases open_slice Tryz.underlying22 h with ⟨hcs, _⟩ | ⟨a, len, cap, m, n', D, Pl, hcs, hb, hl, hm, hmm, hx, hi⟩
  · obtain rfl : v = .slice none 0 0 := by simpa using hcs
    exact ⟨none, [], 0, rfl, by simp, fun k hk => absurd hk (by simp)⟩
  · obtain rfl : v = .slice (some a) len cap := by simpa using hcs
    have hlm : len ≤ m := by rw [hmm]; split <;> omega
    have h2 : Tryz.prog.cellsOf 50 = 2 := by kernel_rfl
    obtain ⟨f, hf⟩ := choose_lt (α := Da) (n := len) (p := fun i d => ∃ A cap, w.cell? ((a.add (i * 2)).add 0) = some (.string d.name) ∧ w.cell? ((a.add (i * 2)).add 1) = some (.slice A d.ctors.length cap) ∧ d.name.size ≤ maxLen ∧ RCts w w.heap.size A d.ctors) (fun i him => by
      obtain ⟨cs', q1, q2⟩ := hi i (by omega)
      have := da_at q1 q2
      rw [h2] at this
      exact this)
    refine ⟨some a, (List.range len).map f, cap, by simp, by simp; omega, fun k hk => ?_⟩
    have hk' : k < len := by simpa using hk
    have hsp : a.spot = none := by
      obtain ⟨A, cap', c0, _⟩ := hf 0 (by omega)
      exact spot_of (w := w) (a := a) (by simpa [Addr.add] using c0)
    obtain ⟨b, off, sp⟩ := a
    simp only at hsp
    subst hsp
    obtain ⟨A, cap', c0, c1, hs, hr⟩ := hf k hk'
    simp only [Addr.add_lit, Nat.add_zero] at c0 c1
    refine ⟨b, off, rfl, block_lt_of_cell c0, A, cap', ?_, ?_, ?_, ?_⟩
    · simpa using c0
    · simpa using c1
    · simpa using hs
    · simpa using hr
/-- An argument that is a list of data types. -/
theorem open_das {v : Value} {d : DataW H} {ps : List MemPlace} {b0 : Nat} {r : Reach} (hv : Value.okWide Tryz.prog w r b0 22 v) (h : DataW.Trod enc Tryz.prog w 0 spare held 22 v d ps) : ∃ A l cap, v = .slice A (List.length l) cap ∧ RDas w w.heap.size A l := by
  obtain ⟨a0, len, cap, rfl⟩ := okWide_slice Tryz.underlying22 hv
  obtain ⟨fuel, hf⟩ := h
  exact rDas_of hf
end
end Go.Proofs.YtbdiahnelnbdnaaGreat
/-
  The function FnExactWorldValid returns true for every list of data types, and the list reads behind the call as it read before. No condition.
-/
namespace Go.Proofs.YtbdiahnelnbdnaaGreat
open Go.RowKit Go.Deep
open Go.ChangeShapes Go.WideShapes Go.ChangeAt
set_option maxRecDepth 100000
set_option linter.unusedVariables false
theorem RDas.at_ {w W : World} {A : Option Addr} {l : List Da} (h : RDas w w.heap.size A l) (hb : Below w.heap.size w W) : RDas W W.heap.size A l := h.keep (fun p hp => hb.cell hp) hb.size
theorem wvOwn : ownKnob Tryz.prog.godebug = none := by kernel_rfl
theorem wvLaid : laidOutB Tryz.prog = true := by kernel_rfl
end Go.Proofs.YtbdiahnelnbdnaaGreat
/-
  The types of a world in a row; the types that have a value with arguments of known types, and the others, in two rows. No statement is proved here.
-/
namespace Go.Proofs.YtbdiahnelnbdnaaGreat
open Go.RowKit
set_option maxRecDepth 100000
set_option linter.unusedVariables false
theorem OTys.snoc {w w1 : World} {lo : Nat} {v v' : Value} {l : List Ty} {k : Nat} {xs : List Value} {d i : Int} (hx : TyRow l xs k) (hk : k < l.length) (hxl : xs.length = k * 2) (ho : w1.ownsRow lo 35 2 v' (k + 1) (xs ++ [.int .i64 d, .int .i64 i])) (e : l[k] = ⟨d, i⟩) : OTys w1 lo v' l (k + 1) := by
  have := hx.snoc hk hxl
  rw [e] at this
  exact ⟨_, ho, this⟩
end Go.Proofs.YtbdiahnelnbdnaaGreat
/-
  products of the program: its parts. No statement is proved here.
-/
namespace Go.Proofs.YtbdiahnelnbdnaaGreat
open Go.RowKit Go.Sort Go.Deep
set_option maxRecDepth 100000
set_option linter.unusedVariables false
theorem isEmpty_any (A : Option Addr) (n cap : Nat) (w : World) : Calls Tryz.prog 51 #[.slice A n cap] w fun e w' => e = .returned (.bool ((n : Int) == 0)) ∧ w' = w := by
  go_enter Tryz.func51, Tryz.ntmps51
  go_wp2_with fail
  go_ret
  exact ⟨rfl, rfl⟩
/-- Lists, of which only the lengths matter. -/
def LnQ (w : World) (B : Nat) (A : Option Addr) (Ls : List (List Pt)) : Prop := Ls.length ≤ maxLen ∧ ∀ i (h : i < Ls.length), ∃ b off, A = some ⟨b, off, none⟩ ∧ b < B ∧ ∃ Ai ci, w.cell? ⟨b, off + i, none⟩ = some (.slice Ai Ls[i].length ci)
theorem LnQ.keep {w w' : World} {A : Option Addr} {Ls : List (List Pt)} (h : LnQ w w.heap.size A Ls) (hb : Below w.heap.size w w') : LnQ w' w'.heap.size A Ls := ⟨h.1, fun i hi => by
  obtain ⟨b, off, e, hbb, Ai, ci, h1⟩ := h.2 i hi
  exact ⟨b, off, e, Nat.lt_of_lt_of_le hbb hb.size, Ai, ci, (hb.cell (p := ⟨b, off + i, none⟩) hbb).trans h1⟩⟩
theorem LsQ.ln {d : Nat} {w : World} {P : Nat → Prop} {A : Option Addr} {Ls : List (List Pt)} {B : Nat} (h : LsQ d w P A Ls) (hP : ∀ b, P b → b < B) : LnQ w B A Ls := ⟨h.1, fun i hi => by
  obtain ⟨b, off, e, hb, Ai, ci, h1, _⟩ := h.2 i hi
  exact ⟨b, off, e, hP b hb, Ai, ci, h1⟩⟩
set_option maxHeartbeats 4000000 in
theorem indexE_any (A : Option Addr) (Ls : List (List Pt)) (cap : Nat) (w : World) (hr : LnQ w w.heap.size A Ls) :
    Calls Tryz.prog 73 #[.slice A Ls.length cap, .func (.func 51) #[] #[]] w fun e w' => ∃ r : Int, e = .returned (.int .i64 r) ∧ (0 ≤ r ↔ [] ∈ Ls) ∧ Below w.heap.size w w' := by
  have hn := hr.1
  unfold maxLen at hn
  have Hr := Lib.hid hr
  clear hr
  go_enter Tryz.func73, Tryz.ntmps73
  go_wp2_with fail
  go_loopw [8] (fun i wr => ∃ k : Nat, k ≤ Ls.length ∧ i = .int .i64 k ∧ Hid (∀ j (h : j < Ls.length), j < k → Ls[j] ≠ []) ∧ Below w.heap.size w wr) (fun i _ => Ls.length - (intOf i).toNat)
  case atStart => exact ⟨0, by omega, rfl, fun j _ h => absurd h (by omega), Below.refl _ _⟩
  case round =>
    obtain ⟨k, hk, rfl, HNO, hb⟩ := hrel
    by_cases hlt : k < Ls.length
    · obtain ⟨g, off, rfl, hbB, Ai, ci, c0⟩ := Hr.out.2 k hlt
      have c0 := (hb.cell (p := ⟨g, off + k, none⟩) hbB).trans c0
      have hkI : (k : Int) < (Ls.length : Int) := by omega
      by_cases hs : Ls[k] = []
      · have u1 : (((Ls[k].length : Nat) : Int) == 0) = true := ieq_t (by rw [hs]; rfl)
        have HM : Hid ([] ∈ Ls) := by unfold Hid; rw [← hs]; exact List.getElem_mem hlt
        clear hs
        go_wp2_with (go_at_call 51; refine (isEmpty_any _ _ _ _).mono ?_; rintro e w1 ⟨rfl, rfl⟩)
        go_ret
        exact ⟨_, rfl, ⟨fun _ => HM.out, fun _ => by omega⟩, hb⟩
      · have u1 : (((Ls[k].length : Nat) : Int) == 0) = false := ieq_f (by have := List.length_pos_iff.2 hs; omega)
        have HN2 : Hid (∀ j (h : j < Ls.length), j < k + 1 → Ls[j] ≠ []) := fun j hj hjk => by
          by_cases e : j = k
          · subst e; exact hs
          · exact HNO.out j hj (by omega)
        clear hs
        go_wp2_with (go_at_call 51; refine (isEmpty_any _ _ _ _).mono ?_; rintro e w1 ⟨rfl, rfl⟩)
        go_roundw
        case rel => exact ⟨k + 1, by omega, by go_num, HN2, hb⟩
        case measure => simp [intOf]; omega
    · have HT : Hid (¬ [] ∈ Ls) := fun hm => by
        obtain ⟨j, hj, e⟩ := List.getElem_of_mem hm
        exact HNO.out j hj (by omega) e
      go_wp2_with fail
      go_ret
      exact ⟨_, rfl, ⟨fun h => by omega, fun h => absurd h HT.out⟩, hb⟩
theorem containsE_any (A : Option Addr) (Ls : List (List Pt)) (cap : Nat) (w : World) (hr : LnQ w w.heap.size A Ls) :
    Calls Tryz.prog 53 #[.slice A Ls.length cap, .func (.func 51) #[] #[]] w fun e w' => (∃ b, e = .returned (.bool b) ∧ (b = true ↔ [] ∈ Ls)) ∧ Below w.heap.size w w' := by
  have HI := Lib.hid (indexE_any A Ls cap w hr)
  clear hr
  go_enter Tryz.func53, Tryz.ntmps53
  go_wp2_with (go_at_call 73; refine HI.out.mono ?_; rintro e w1 ⟨r, rfl, hr1, hb⟩; have HR := Lib.hid hr1; clear hr1)
  go_ret
  exact ⟨⟨_, rfl, by rw [decide_eq_true_iff]; exact HR.out⟩, hb⟩
theorem prod_made (A : Option Addr) (n cap : Nat) (w : World) :
    Calls Tryz.prog 38 #[.slice A n cap] w fun e w' => e = .returned (.func (.func 52) #[] #[.pointer (some ⟨w.heap.size, 0, none⟩), .pointer (some ⟨w.heap.size + 1, 0, none⟩)]) ∧ Below w.heap.size w w' ∧ w'.heap.size = w.heap.size + 2 ∧
      Boxed w' w.heap.size 65 (.slice A n cap) ∧ Boxed w' (w.heap.size + 1) 91 (.func (.func 51) #[] #[]) := by
  go_enter Tryz.func38, Tryz.ntmps38
  go_wp2_with fail
  go_ret
  have h1 := Boxed.new (w.alloc (.cells #[.slice A n cap] 65)) 91 (.func (.func 51) #[] #[])
  have h0 := (Boxed.new w 65 (.slice A n cap)).alloc (.cells #[.func (.func 51) #[] #[]] 91)
  rw [World.size_alloc] at h1
  exact ⟨rfl, (((Below.refl _ w).alloc (Nat.le_refl _) _).alloc (by simp) _), by simp, h0, h1⟩
end Go.Proofs.YtbdiahnelnbdnaaGreat
/-
  An append to a row of the call's own, as one operation of a region. No statement is proved here.
-/
namespace Go.Proofs.YtbdiahnelnbdnaaGreat
open Go.RowKit
set_option maxRecDepth 100000
set_option linter.unusedVariables false
theorem wp_append_own {P : Program} {o : Oper} {a : Act} {w : World} {K : Act → World → Prop} {Q : Exit → Act → World → Prop} (s x : Operand) (t : TypeId)
    (ho : o.op = .call { callee := .builtin .append, args := #[s, x], argTypes := #[t, t] })
    (base : Nat) (e : TypeId) (i : TypeInfo) (z : Value) (size bytes : Nat) (ht : P.underlying t = some (.slice e)) (hi : P.info? e = some i) (hz : i.zero = some z)
    (hsize : i.size = size) (hby : i.bytes = bytes) (hzs : z.cells.size = size) (hsz : 0 < size)
    (v : Value) (n : Nat) (xs : List Value) (hs : a.eval s = v) (hown : w.ownsRow base e size v n xs)
    (ad : Addr) (m c : Nat) (news : List Value) (hx : a.eval x = .slice (some ad) m c) (hl : news.length = m * size) (hnews : ∀ j u, news[j]? = some u → w.cell? (ad.add j) = some u) (h1 : ∀ u ∈ news, u.oneCell' = true)
    (h63 : n + m ≤ maxLen) (hbytes : (n + m) * bytes ≤ 140737488355328) (hbase : base ≤ w.heap.size)
    (h : ∀ v' w', w'.ownsRow base e size v' (n + m) (xs ++ news) → w.grownBy w' v.ownBlock → (v'.ownBlock = v.ownBlock ∨ v'.ownBlock = some w.heap.size) → K (a.put o.dst v') w') : o.wp P a w K Q := by
  obtain ⟨v', w', hr, h2, h3, _, h5⟩ := run_append_own_at (P := P) w base t o.type e i z size bytes ht hi hz hsize hby hzs hsz v n xs hown ad m c news hl hnews h1 h63 hbytes hbase
  unfold Oper.wp execOp
  simp only [ho, resolve, invoke, builtin, Sem.run_bind, Sem.run_pure, Result.andThen_ok, List.map_toArray, List.map_cons, List.map_nil, hs, hx, hr]
  exact h v' w' h2 h3 h5
theorem own_at {w w' : World} {base : Nat} {e : TypeId} {size n : Nat} {v : Value} {xs : List Value} (h : w.ownsRow base e size v n xs) (hk : ∀ b, v.ownBlock = some b → w'.heap[b]? = w.heap[b]?) : w'.ownsRow base e size v n xs := by
  refine ⟨h.1, ?_⟩
  rcases h.2 with h0 | ⟨g, cap, cur, a1, a2, a3, a4⟩
  · exact .inl h0
  · exact .inr ⟨g, cap, cur, a1, a2, (hk g (by rw [a1]; rfl)).trans a3, a4⟩
theorem own_form {w : World} {base : Nat} {e : TypeId} {size n : Nat} {v : Value} {xs : List Value} (h : w.ownsRow base e size v n xs) : ∃ A c, v = .slice A n c ∧ ∀ b, v.ownBlock = some b → base ≤ b ∧ b < w.heap.size := by
  rcases h.2 with ⟨rfl, rfl⟩ | ⟨g, cap, cur, rfl, a2, a3, a4⟩
  · exact ⟨none, 0, rfl, fun b e => by cases e⟩
  · exact ⟨_, _, rfl, fun b e => by injection e with e; subst e; exact ⟨a2, heap_lt a3⟩⟩
end Go.Proofs.YtbdiahnelnbdnaaGreat
/-
  Regions that draw within a round; an append as one operation of such a region. No statement is proved here.
-/
namespace Go.Proofs.YtbdiahnelnbdnaaGreat
open Go.RowKit
set_option maxRecDepth 100000
set_option linter.unusedVariables false
section
variable {F : Fence} {n : Nat} {P : Program} {ops : Array Oper} {Q : Exit → Act → World → Prop} {md : Region.Mode}
/-- No operation is a defer statement. -/
def noDefer (ops : Array Oper) : Bool := ops.all fun o => match o.op with | .defer _ => false | _ => true
theorem noDefer_spec {ops : Array Oper} (h : noDefer ops = true) {i : Nat} {o : Oper} (ho : ops[i]? = some o) (c : Call) : o.op ≠ .defer c := fun e => by
  have h1 := Array.all_eq_true'.1 h o (Array.mem_of_getElem? ho)
  simp only [e] at h1
  cases h1
theorem opIn_inRound {o : Oper} (hro : F.round = none) (hd : ∀ c, o.op ≠ .defer c) (l : Nat) {a : Act} {w : World} {K : Act → World → Prop} (h : o.wpIn F n P a w K Q) : o.wpIn (F.inRound l) n P a w K Q := by
  unfold Oper.wpIn at *
  refine ⟨h.1, ?_⟩
  have h2 := h.2
  rw [Oper.semAt_plain F _ _ hd] at h2
  rw [Oper.semAt_plain (F.inRound l) _ _ hd]
  generalize (execOp a.eval o).run P w = r at *
  cases r with
  | ok x w' => cases x <;> exact h2
  | halt x w' => cases x <;> exact h2
/-- In a round everything but a defer statement is carried out as everywhere. -/
theorem anyIn_inRound (hro : F.round = none) (hnd : noDefer ops = true) (l : Nat) : ∀ (k : Nat) (ls : Array Bool) (a : Act) (w : World), wpAnyIn F n P md ops Q k ls a w → wpAnyIn (F.inRound l) n P md ops Q k ls a w
  | 0, _, _, _, h => h
  | k + 1, ls, a, w, h => ⟨h.1, fun i hi => by
    have h1 := h.2 i hi
    unfold wpOpIn at *
    cases ho : ops[i]? with
    | none => simp only [ho] at h1 ⊢; exact anyIn_inRound hro hnd l k _ _ _ h1
    | some o =>
      simp only [ho] at h1 ⊢
      by_cases e : Region.wanted o (yielded ops a.tmps) = true
      · simp only [e, if_true] at h1 ⊢
        exact Oper.wpIn_mono (fun a w => anyIn_inRound hro hnd l k _ a w) (opIn_inRound hro (fun c => noDefer_spec hnd ho c) l h1)
      · simp only [e] at h1 ⊢
        exact ⟨h1.1, anyIn_inRound hro hnd l k _ _ _ h1.2⟩⟩
theorem region_inRound (hro : F.round = none) (hnd : noDefer ops = true) {l id : Nat} {a : Act} {w : World} (hm : P.follows .mixedOrders = true) (h : wpAnyIn F n P .any ops Q ops.size (Array.replicate ops.size false) a w.drew) : (Code.region id ops true).wpIn (F.inRound l) n P Q a w :=
  wpIn_region_any hm (anyIn_inRound hro hnd l _ _ _ _ h)
theorem opIn_append_own {o : Oper} {a : Act} {w : World} {K : Act → World → Prop} (s x : Operand) (t : TypeId)
    (ho : o.op = .call { callee := .builtin .append, args := #[s, x], argTypes := #[t, t] })
    (base : Nat) (e : TypeId) (i : TypeInfo) (z : Value) (size bytes : Nat) (ht : P.underlying t = some (.slice e)) (hi : P.info? e = some i) (hz : i.zero = some z)
    (hsize : i.size = size) (hby : i.bytes = bytes) (hzs : z.cells.size = size) (hsz : 0 < size)
    (v : Value) (k : Nat) (xs : List Value) (hs : a.eval s = v) (hown : w.ownsRow base e size v k xs)
    (ao : Option Addr) (m c : Nat) (news : List Value) (hx : a.eval x = .slice ao m c) (hnone : ao = none → m = 0 ∧ c = 0) (hl : news.length = m * size) (hnews : ∀ ad, ao = some ad → ∀ j u, news[j]? = some u → w.cell? (ad.add j) = some u) (h1 : ∀ u ∈ news, u.oneCell' = true)
    (h63 : k + m ≤ maxLen) (hbytes : (k + m) * bytes ≤ 140737488355328) (hbase : base ≤ w.heap.size)
    (h : ∀ v' w', w'.ownsRow base e size v' (k + m) (xs ++ news) → w.grownBy w' v.ownBlock → (v'.ownBlock = v.ownBlock ∨ v'.ownBlock = some w.heap.size) → K (a.put o.dst v') w') : o.wpIn F n P a w K Q := by
  cases ao with
  | some ad =>
    obtain ⟨v', w', hr, h2, h3, _, h5⟩ := run_append_own_at (P := P) w base t o.type e i z size bytes ht hi hz hsize hby hzs hsz v k xs hown ad m c news hl (hnews ad rfl) h1 h63 hbytes hbase
    unfold Oper.wpIn
    refine ⟨by simp [Oper.about, ho, resolve, Target.leads, Sem.run_pure], ?_⟩
    rw [Oper.semAt_plain F _ _ (by rw [ho]; intro c hc'; cases hc')]
    simp [execOp, ho, resolve, invoke, builtin, hs, hx, hr, Result.andThen]
    exact h v' w' h2 h3 h5
  | none =>
    obtain ⟨rfl, rfl⟩ := hnone rfl
    have hnil : news = [] := List.eq_nil_of_length_eq_zero (by simpa using hl)
    subst hnil
    have hr := run_append_owned_none (P := P) w base t o.type e i size ht hi v k xs hown
    unfold Oper.wpIn
    refine ⟨by simp [Oper.about, ho, resolve, Target.leads, Sem.run_pure], ?_⟩
    rw [Oper.semAt_plain F _ _ (by rw [ho]; intro c hc'; cases hc')]
    simp [execOp, ho, resolve, invoke, builtin, hs, hx, hr, Result.andThen]
    exact h v w (by simpa using hown) (World.grownBy.refl _ _) (.inl rfl)
theorem listIn_append_own {rest : List Oper} {o : Oper} {a : Act} {w : World} (hg : o.guard = none) (s x : Operand) (t : TypeId)
    (ho : o.op = .call { callee := .builtin .append, args := #[s, x], argTypes := #[t, t] })
    (base : Nat) (e : TypeId) (i : TypeInfo) (z : Value) (size bytes : Nat) (ht : P.underlying t = some (.slice e)) (hi : P.info? e = some i) (hz : i.zero = some z)
    (hsize : i.size = size) (hby : i.bytes = bytes) (hzs : z.cells.size = size) (hsz : 0 < size)
    (v : Value) (k : Nat) (xs : List Value) (hs : a.eval s = v) (hown : w.ownsRow base e size v k xs)
    (ao : Option Addr) (m c : Nat) (news : List Value) (hx : a.eval x = .slice ao m c) (hnone : ao = none → m = 0 ∧ c = 0) (hl : news.length = m * size) (hnews : ∀ ad, ao = some ad → ∀ j u, news[j]? = some u → w.cell? (ad.add j) = some u) (h1 : ∀ u ∈ news, u.oneCell' = true)
    (h63 : k + m ≤ maxLen) (hbytes : (k + m) * bytes ≤ 140737488355328) (hbase : base ≤ w.heap.size)
    (h : ∀ v' w', w'.ownsRow base e size v' (k + m) (xs ++ news) → w.grownBy w' v.ownBlock → (v'.ownBlock = v.ownBlock ∨ v'.ownBlock = some w.heap.size) → wpListIn F n P ops Q rest (a.put o.dst v') w') : wpListIn F n P ops Q (o :: rest) a w :=
  wpListIn_plain hg fun K hK => opIn_append_own s x t ho base e i z size bytes ht hi hz hsize hby hzs hsz v k xs hs hown ao m c news hx hnone hl hnews h1 h63 hbytes hbase (fun v' w' h2 h3 h4 => hK _ _ (h v' w' h2 h3 h4))
theorem opIn_of_wp {o : Oper} {a : Act} {w : World} {K : Act → World → Prop} (h : o.wp P a w K Q) : o.wpIn Fence.wide n P a w K Q := by
  unfold Oper.wp at h
  refine ⟨fun _ _ => trivial, ?_⟩
  rw [show Fence.wide.round = none from rfl, Oper.semAt_none]
  generalize (execOp a.eval o).run P w = r at *
  have hd : ∀ k : Nat, (Fence.wide.depth.isSome = true → 1 ≤ k) := fun k h => by simp [Fence.wide] at h
  cases r with
  | ok x w' => cases x <;> first | exact h | exact h.elim | exact ⟨hd _, callsIn_wide.2 h⟩ | (refine ⟨hd _, fun c cs _ => ?_⟩; obtain ⟨v, w2, h1, h2⟩ := h c cs; exact ⟨v, w2, h1, stepsIn_wide.2 h2⟩)
  | halt x w' => cases x <;> first | exact h | exact h.elim
theorem anyIn_of_any (hno : ∀ a w, ¬ Q .outgrown a w) : ∀ (k : Nat) (ls : Array Bool) (a : Act) (w : World), wpAny P md ops Q k ls a w → wpAnyIn Fence.wide n P md ops Q k ls a w
  | 0, _, _, _, h => h
  | k + 1, ls, a, w, h => ⟨h.1, fun i hi => by
    have h1 := h.2 i hi
    unfold wpOp at h1
    unfold wpOpIn
    cases ho : ops[i]? with
    | none => simp only [ho] at h1 ⊢; exact anyIn_of_any hno k _ _ _ h1
    | some o =>
      simp only [ho] at h1 ⊢
      by_cases e : Region.wanted o (yielded ops a.tmps) = true
      · simp only [e, if_true] at h1 ⊢
        rcases h1 with h1 | h1
        · exact Oper.wpIn_mono (fun a w => anyIn_of_any hno k _ a w) (opIn_of_wp h1)
        · obtain ⟨_, a', w', h3⟩ := h1; exact absurd h3 (hno a' w')
      · simp only [e] at h1 ⊢
        exact ⟨fun _ _ => trivial, anyIn_of_any hno k _ _ _ h1⟩⟩
theorem region_of_any (hnd : noDefer ops = true) (hno : ∀ a w, ¬ Q .outgrown a w) {l id : Nat} {a : Act} {w : World} (hm : P.follows .mixedOrders = true) (h : wpAny P .any ops Q ops.size (Array.replicate ops.size false) a w.drew) : (Code.region id ops true).wpIn (Fence.wide.inRound l) n P Q a w :=
  region_inRound rfl hnd hm (anyIn_of_any hno _ _ _ _ h)
end
end Go.Proofs.YtbdiahnelnbdnaaGreat
