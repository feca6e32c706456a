/-
  The types of the arguments of a constructor: the program's function. No statement is proved here.
-/
import Derived.Test.YteoopmogklpnoaaU07
namespace Go.Proofs.Yteoopmogklpnoaa
open Go.RowKit
set_option maxRecDepth 100000
set_option linter.unusedVariables false
theorem argOf_same {c : Ct} {ix : Int} {a : Ty} (h : a.index = -1) : argOf c ix a = ⟨a.data, resI c.index ix⟩ := if_pos h
theorem argOf_other {c : Ct} {ix : Int} {a : Ty} (h : ¬ a.index = -1) : argOf c ix a = a := if_neg h
/-- What is stored for the element in place k. -/
theorem row_step {c : Ct} {ix : Int} {xs : List Value} {k : Nat} (h : TyRow (argT c ix) xs k) (hk : k < c.args.length) (hx : xs.length = c.args.length * 2) {u0 u1 : Int} (h0 : u0 = (argOf c ix c.args[k]).data) (h1 : u1 = (argOf c ix c.args[k]).index) :
    TyRow (argT c ix) ((xs.set (k * 2) (.int .i64 u0)).set (k * 2 + 1) (.int .i64 u1)) (k + 1) := by
  have hk' : k < (argT c ix).length := by rw [argT_len]; exact hk
  have := h.step hk' (by rw [argT_len]; exact hx)
  rw [argT_get c ix k hk hk'] at this
  rw [h0, h1]
  exact this
set_option maxHeartbeats 1600000 in
theorem argTypes_data (A : Option Addr) (l : List Da) (cap d m : Nat) (ix : Int) (hd : d < l.length) (hm : m < l[d].ctors.length) (h3 : l[d].ctors[m].args.length ≤ 3) (w : World) (hr : RDas w w.heap.size A l) :
    Calls Try.prog 51 #[.slice A l.length cap, .agg #[.int .i64 d, .int .i64 ix], .int .i64 m] w fun e w' => ∃ v, e = .returned v ∧ OTys w' w.heap.size v (argT l[d].ctors[m] ix) (argT l[d].ctors[m] ix).length ∧ Below w.heap.size w w' := by
  obtain ⟨i0, hi, hz0, hz1, hz2⟩ := info_parts info34
  have hn := hr.1
  unfold maxLen at hn
  obtain ⟨b, off, rfl, hbB, A', cp, c0, c1, hszd, hmd⟩ := hr.2 d hd
  have hnc := hmd.1
  unfold maxLen at hnc
  obtain ⟨g, o, rfl, hgB, D1, ep, e0, e1, e2, hszm, hmm⟩ := hmd.2 m hm
  have HMM := Lib.hid hmm
  clear hr hmd hmm
  have hdI : (d : Int) < (l.length : Int) := by omega
  have hmI : (m : Int) < (l[d].ctors.length : Int) := by omega
  have C1 : ∀ x, (w.alloc x).cell? ⟨b, off + d * 2 + 1, none⟩ = some (.slice (some ⟨g, o, none⟩) l[d].ctors.length cp) := fun x => (World.cell?_alloc_lt _ _ _ hbB).trans c1
  have E0 : ∀ x, (w.alloc x).cell? ⟨g, o + m * 3, none⟩ = some (.string l[d].ctors[m].name) := fun x => (World.cell?_alloc_lt _ _ _ hgB).trans e0
  have E1 : ∀ x, (w.alloc x).cell? ⟨g, o + m * 3 + 1, none⟩ = some (.slice D1 l[d].ctors[m].args.length ep) := fun x => (World.cell?_alloc_lt _ _ _ hgB).trans e1
  have E2 : ∀ x, (w.alloc x).cell? ⟨g, o + m * 3 + 2, none⟩ = some (.int .i64 l[d].ctors[m].index) := fun x => (World.cell?_alloc_lt _ _ _ hgB).trans e2
  clear c0 c1 e0 e1 e2
  have hL : (argT l[d].ctors[m] ix).length = l[d].ctors[m].args.length := argT_len _ _
  have HL := Lib.hid hL
  clear hL
  by_cases ha : l[d].ctors[m].index = 0
  · have q := ieq_t ha
    have HR : Hid (ix = resI l[d].ctors[m].index ix) := (if_pos ha).symm
    clear ha
    go_enter Try.func51, Try.ntmps51
    go_wp2_with (at_make; refine wpList_make_full _ rfl _ _ 32 rfl w.heap.size 25 i0 _ 2 Try.underlying32 hi hz0 hz1 _ _ _ _ l[d].ctors[m].args.length rfl rfl rfl rfl (by rw [hz2]; omega) (by unfold maxLen; omega) (by simp; omega) ?_; intro w1 hown0 hgr; have k1 : w1.cell? ⟨w.heap.size + 1, 1, none⟩ = some (.slice D1 l[d].ctors[m].args.length ep) := (World.cell?_of_block (a := ⟨w.heap.size + 1, 1, none⟩) (hgr.block (w.heap.size + 1) (by simp) (by simp))).trans (by simp [go_sem]))
    simp only [World.size_alloc] at hown0
    have hbw : Below w.heap.size w w1 := (((Below.refl _ _).alloc (Nat.le_refl _) _).alloc (by simp) _).grown hgr (by simp; omega) (fun k e => by cases e)
    clear hgr hi hz0 hz1 hz2 C1 E0 E1 E2 k1
    go_loopw [34] (fun i wr => ∃ k : Nat, k ≤ l[d].ctors[m].args.length ∧ i = .int .i64 k ∧ ∃ xs, wr.ownsRow w.heap.size 25 2 (.slice (some ⟨w.heap.size + 1 + 1, 0, none⟩) l[d].ctors[m].args.length l[d].ctors[m].args.length) l[d].ctors[m].args.length xs ∧ TyRow (argT l[d].ctors[m] ix) xs k ∧ Below w.heap.size w wr) (fun i _ => l[d].ctors[m].args.length - (intOf i).toNat)
    case atStart => exact ⟨0, by omega, rfl, _, hown0, TyRow.zero _ _, hbw⟩
    case round =>
      obtain ⟨k, hk, rfl, xs, hown, hrow, hb⟩ := hrel
      have hlw := hb.size
      clear hown0 hbw
      by_cases hlt : k < l[d].ctors[m].args.length
      · obtain ⟨b2, off2, rfl, hbB2, y0, y1⟩ := (HMM.out.below hb (Nat.le_refl _)).2 k hlt
        have hown2 : ∀ x, (wr.alloc x).ownsRow w.heap.size 25 2 (.slice (some ⟨w.heap.size + 1 + 1, 0, none⟩) l[d].ctors[m].args.length l[d].ctors[m].args.length) l[d].ctors[m].args.length xs := fun x => hown.alloc x
        have hgl := own_lt hown
        obtain ⟨v0, g0⟩ := own_cell hown (k * 2) (by omega)
        obtain ⟨v1, g1⟩ := own_cell hown (k * 2 + 1) (by omega)
        have f0 : ∀ x, (wr.alloc x).cell? ⟨w.heap.size + 1 + 1, k * 2, none⟩ = some v0 := fun x => (World.cell?_alloc_lt _ _ _ hgl).trans g0
        have f1 : ∀ x, (wr.alloc x).cell? ⟨w.heap.size + 1 + 1, k * 2 + 1, none⟩ = some v1 := fun x => (World.cell?_alloc_lt _ _ _ hgl).trans g1
        have HO2 := Lib.hid hown2
        have z0 : ∀ x, (wr.alloc x).frozen? ⟨w.heap.size + 1 + 1, k * 2, none⟩ = false := fun x => (hown2 x).frozenAt (k * 2)
        have z1 : ∀ x, (wr.alloc x).frozen? ⟨w.heap.size + 1 + 1, k * 2 + 1, none⟩ = false := fun x => (hown2 x).frozenAt (k * 2 + 1)
        have zz0 := hown.frozenAt (k * 2)
        have zz1 := hown.frozenAt (k * 2 + 1)
        have hxl := hown.1
        have HO := Lib.hid hown
        clear hown2 hown
        by_cases hs : l[d].ctors[m].args[k].index = -1
        · have qs := ieq_t hs
          have HA := Lib.hid (argOf_same (c := l[d].ctors[m]) (ix := ix) hs)
          clear hs
          go_wp2_with fail
          have s1 := (HO.out.stored (k * 2) (.int .i64 l[d].ctors[m].args[k].data)).1
          have s2 := (s1.stored (k * 2 + 1) (.int .i64 ix)).1
          have hrow2 := row_step hrow hlt hxl (u0 := l[d].ctors[m].args[k].data) (u1 := ix) (by rw [HA.out]) (by rw [HA.out]; exact HR.out)
          go_roundw
          case rel => exact ⟨k + 1, by omega, by go_num, _, s2.alloc _, hrow2, ((hb.setCell (by simp; omega) _).setCell (by simp; omega) _).alloc (by simp; omega) _⟩
          case measure => simp [intOf]; omega
        · have qs := ieq_f hs
          have HA := Lib.hid (argOf_other (c := l[d].ctors[m]) (ix := ix) hs)
          clear hs
          go_wp2_with fail
          have s1 := (HO.out.stored (k * 2) (.int .i64 l[d].ctors[m].args[k].data)).1
          have s2 := (s1.stored (k * 2 + 1) (.int .i64 l[d].ctors[m].args[k].index)).1
          have hrow2 := row_step hrow hlt hxl (u0 := l[d].ctors[m].args[k].data) (u1 := l[d].ctors[m].args[k].index) (by rw [HA.out]) (by rw [HA.out])
          go_roundw
          case rel => exact ⟨k + 1, by omega, by go_num, _, s2.alloc _, hrow2, ((hb.setCell (by simp; omega) _).setCell (by simp; omega) _).alloc (by simp; omega) _⟩
          case measure => simp [intOf]; omega
      · have he : k = l[d].ctors[m].args.length := by omega
        have HT : Hid (TyRow (argT l[d].ctors[m] ix) xs l[d].ctors[m].args.length) := by rw [← he]; exact hrow
        have HO := Lib.hid hown
        clear he hown hrow
        go_wp2_with fail
        go_ret
        exact ⟨_, rfl, ⟨xs, by rw [HL.out]; exact HO.out, by rw [HL.out]; exact HT.out⟩, hb⟩
  · have q := ieq_f ha
    have HR : Hid (l[d].ctors[m].index = resI l[d].ctors[m].index ix) := (if_neg ha).symm
    clear ha
    go_enter Try.func51, Try.ntmps51
    go_wp2_with (at_make; refine wpList_make_full _ rfl _ _ 32 rfl w.heap.size 25 i0 _ 2 Try.underlying32 hi hz0 hz1 _ _ _ _ l[d].ctors[m].args.length rfl rfl rfl rfl (by rw [hz2]; omega) (by unfold maxLen; omega) (by simp; omega) ?_; intro w1 hown0 hgr; have k1 : w1.cell? ⟨w.heap.size + 1, 1, none⟩ = some (.slice D1 l[d].ctors[m].args.length ep) := (World.cell?_of_block (a := ⟨w.heap.size + 1, 1, none⟩) (hgr.block (w.heap.size + 1) (by simp) (by simp))).trans (by simp [go_sem]))
    simp only [World.size_alloc] at hown0
    have hbw : Below w.heap.size w w1 := (((Below.refl _ _).alloc (Nat.le_refl _) _).alloc (by simp) _).grown hgr (by simp; omega) (fun k e => by cases e)
    clear hgr hi hz0 hz1 hz2 C1 E0 E1 E2 k1
    go_loopw [34] (fun i wr => ∃ k : Nat, k ≤ l[d].ctors[m].args.length ∧ i = .int .i64 k ∧ ∃ xs, wr.ownsRow w.heap.size 25 2 (.slice (some ⟨w.heap.size + 1 + 1, 0, none⟩) l[d].ctors[m].args.length l[d].ctors[m].args.length) l[d].ctors[m].args.length xs ∧ TyRow (argT l[d].ctors[m] ix) xs k ∧ Below w.heap.size w wr) (fun i _ => l[d].ctors[m].args.length - (intOf i).toNat)
    case atStart => exact ⟨0, by omega, rfl, _, hown0, TyRow.zero _ _, hbw⟩
    case round =>
      obtain ⟨k, hk, rfl, xs, hown, hrow, hb⟩ := hrel
      have hlw := hb.size
      clear hown0 hbw
      by_cases hlt : k < l[d].ctors[m].args.length
      · obtain ⟨b2, off2, rfl, hbB2, y0, y1⟩ := (HMM.out.below hb (Nat.le_refl _)).2 k hlt
        have hown2 : ∀ x, (wr.alloc x).ownsRow w.heap.size 25 2 (.slice (some ⟨w.heap.size + 1 + 1, 0, none⟩) l[d].ctors[m].args.length l[d].ctors[m].args.length) l[d].ctors[m].args.length xs := fun x => hown.alloc x
        have hgl := own_lt hown
        obtain ⟨v0, g0⟩ := own_cell hown (k * 2) (by omega)
        obtain ⟨v1, g1⟩ := own_cell hown (k * 2 + 1) (by omega)
        have f0 : ∀ x, (wr.alloc x).cell? ⟨w.heap.size + 1 + 1, k * 2, none⟩ = some v0 := fun x => (World.cell?_alloc_lt _ _ _ hgl).trans g0
        have f1 : ∀ x, (wr.alloc x).cell? ⟨w.heap.size + 1 + 1, k * 2 + 1, none⟩ = some v1 := fun x => (World.cell?_alloc_lt _ _ _ hgl).trans g1
        have HO2 := Lib.hid hown2
        have z0 : ∀ x, (wr.alloc x).frozen? ⟨w.heap.size + 1 + 1, k * 2, none⟩ = false := fun x => (hown2 x).frozenAt (k * 2)
        have z1 : ∀ x, (wr.alloc x).frozen? ⟨w.heap.size + 1 + 1, k * 2 + 1, none⟩ = false := fun x => (hown2 x).frozenAt (k * 2 + 1)
        have zz0 := hown.frozenAt (k * 2)
        have zz1 := hown.frozenAt (k * 2 + 1)
        have hxl := hown.1
        have HO := Lib.hid hown
        clear hown2 hown
        by_cases hs : l[d].ctors[m].args[k].index = -1
        · have qs := ieq_t hs
          have HA := Lib.hid (argOf_same (c := l[d].ctors[m]) (ix := ix) hs)
          clear hs
          go_wp2_with fail
          have s1 := (HO.out.stored (k * 2) (.int .i64 l[d].ctors[m].args[k].data)).1
          have s2 := (s1.stored (k * 2 + 1) (.int .i64 l[d].ctors[m].index)).1
          have hrow2 := row_step hrow hlt hxl (u0 := l[d].ctors[m].args[k].data) (u1 := l[d].ctors[m].index) (by rw [HA.out]) (by rw [HA.out]; exact HR.out)
          go_roundw
          case rel => exact ⟨k + 1, by omega, by go_num, _, s2.alloc _, hrow2, ((hb.setCell (by simp; omega) _).setCell (by simp; omega) _).alloc (by simp; omega) _⟩
          case measure => simp [intOf]; omega
        · have qs := ieq_f hs
          have HA := Lib.hid (argOf_other (c := l[d].ctors[m]) (ix := ix) hs)
          clear hs
          go_wp2_with fail
          have s1 := (HO.out.stored (k * 2) (.int .i64 l[d].ctors[m].args[k].data)).1
          have s2 := (s1.stored (k * 2 + 1) (.int .i64 l[d].ctors[m].args[k].index)).1
          have hrow2 := row_step hrow hlt hxl (u0 := l[d].ctors[m].args[k].data) (u1 := l[d].ctors[m].args[k].index) (by rw [HA.out]) (by rw [HA.out])
          go_roundw
          case rel => exact ⟨k + 1, by omega, by go_num, _, s2.alloc _, hrow2, ((hb.setCell (by simp; omega) _).setCell (by simp; omega) _).alloc (by simp; omega) _⟩
          case measure => simp [intOf]; omega
      · have he : k = l[d].ctors[m].args.length := by omega
        have HT : Hid (TyRow (argT l[d].ctors[m] ix) xs l[d].ctors[m].args.length) := by rw [← he]; exact hrow
        have HO := Lib.hid hown
        clear he hown hrow
        go_wp2_with fail
        go_ret
        exact ⟨_, rfl, ⟨xs, by rw [HL.out]; exact HO.out, by rw [HL.out]; exact HT.out⟩, hb⟩
end Go.Proofs.Yteoopmogklpnoaa
