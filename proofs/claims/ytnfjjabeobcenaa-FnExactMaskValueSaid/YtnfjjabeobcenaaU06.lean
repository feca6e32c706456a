/-
  The types of the arguments of a constructor: the program's function. No statement is proved here.
-/
import Derived.Test.YtnfjjabeobcenaaU05
import Derived.Test.YtnfjjabeobcenaaU00
namespace Go.Proofs.Ytnfjjabeobcenaa
open Go.RowKit
set_option maxRecDepth 100000
set_option linter.unusedVariables false
theorem argOf_same {c : Ct} {ix : Int} {a : Ty} (h : a.index = -1) : argOf c ix a = ⟨a.data, resI c.index ix⟩ := if_pos h
theorem argOf_other {c : Ct} {ix : Int} {a : Ty} (h : ¬ a.index = -1) : argOf c ix a = a := if_neg h
/-- What is stored for the element in place k. -/
theorem row_step {c : Ct} {ix : Int} {xs : List Value} {k : Nat} (h : TyRow (argT c ix) xs k) (hk : k < c.args.length) (hx : xs.length = c.args.length * 2) {u0 u1 : Int} (h0 : u0 = (argOf c ix c.args[k]).data) (h1 : u1 = (argOf c ix c.args[k]).index) :
    TyRow (argT c ix) ((xs.set (k * 2) (.int .i64 u0)).set (k * 2 + 1) (.int .i64 u1)) (k + 1) := by
  have hk' : k < (argT c ix).length := by rw [argT_len]; exact hk
  have := h.step hk' (by rw [argT_len]; exact hx)
  rw [argT_get c ix k hk hk'] at this
  rw [h0, h1]
  exact this
set_option maxHeartbeats 1600000 in
theorem argTypes_data (A : Option Addr) (l : List Da) (cap d m : Nat) (ix : Int) (hd : d < l.length) (hm : m < l[d].ctors.length) (h3 : l[d].ctors[m].args.length ≤ 3) (w : World) (hr : RDas w w.heap.size A l) :
    Calls Try.prog 82 #[.slice A l.length cap, .agg #[.int .i64 d, .int .i64 ix], .int .i64 m] w fun e w' => ∃ v, e = .returned v ∧ OTys w' w.heap.size v (argT l[d].ctors[m] ix) (argT l[d].ctors[m] ix).length ∧ Below w.heap.size w w' := by
  obtain ⟨i0, hi, hz0, hz1, hz2⟩ := info_parts info34
  have hn := hr.1
  unfold maxLen at hn
  obtain ⟨b, off, rfl, hbB, A', cp, c0, c1, hszd, hmd⟩ := hr.2 d hd
  have hnc := hmd.1
  unfold maxLen at hnc
  obtain ⟨g, o, rfl, hgB, D1, ep, e0, e1, e2, hszm, hmm⟩ := hmd.2 m hm
  have HMM := Lib.hid hmm
  clear hr hmd hmm
  have hdI : (d : Int) < (l.length : Int) := by omega
  have hmI : (m : Int) < (l[d].ctors.length : Int) := by omega
  have C1 : ∀ x, (w.alloc x).cell? ⟨b, off + d * 2 + 1, none⟩ = some (.slice (some ⟨g, o, none⟩) l[d].ctors.length cp) := fun x => (World.cell?_alloc_lt _ _ _ hbB).trans c1
  have E0 : ∀ x, (w.alloc x).cell? ⟨g, o + m * 3, none⟩ = some (.string l[d].ctors[m].name) := fun x => (World.cell?_alloc_lt _ _ _ hgB).trans e0
  have E1 : ∀ x, (w.alloc x).cell? ⟨g, o + m * 3 + 1, none⟩ = some (.slice D1 l[d].ctors[m].args.length ep) := fun x => (World.cell?_alloc_lt _ _ _ hgB).trans e1
  have E2 : ∀ x, (w.alloc x).cell? ⟨g, o + m * 3 + 2, none⟩ = some (.int .i64 l[d].ctors[m].index) := fun x => (World.cell?_alloc_lt _ _ _ hgB).trans e2
  clear c0 c1 e0 e1 e2
  have hL : (argT l[d].ctors[m] ix).length = l[d].ctors[m].args.length := argT_len _ _
  have HL := Lib.hid hL
  clear hL
  by_cases ha : l[d].ctors[m].index = 0
  · have q := ieq_t ha
    have HR : Hid (ix = resI l[d].ctors[m].index ix) := (if_pos ha).symm
    clear ha
    go_enter Try.func82, Try.ntmps82
    go_wp2_with (at_make; refine wpList_make_full _ rfl _ _ 91 rfl w.heap.size 33 i0 _ 2 Try.underlying91 hi hz0 hz1 _ _ _ _ l[d].ctors[m].args.length rfl rfl rfl rfl (by rw [hz2]; omega) (by unfold maxLen; omega) (by simp; omega) ?_; intro w1 hown0 hgr; have k1 : w1.cell? ⟨w.heap.size + 1, 1, none⟩ = some (.slice D1 l[d].ctors[m].args.length ep) := (World.cell?_of_block (a := ⟨w.heap.size + 1, 1, none⟩) (hgr.block (w.heap.size + 1) (by simp) (by simp))).trans (by simp [go_sem]))
    simp only [World.size_alloc] at hown0
    have hbw : Below w.heap.size w w1 := (((Below.refl _ _).alloc (Nat.le_refl _) _).alloc (by simp) _).grown hgr (by simp; omega) (fun k e => by cases e)
    clear hgr hi hz0 hz1 hz2 C1 E0 E1 E2 k1
    go_loopw [34] (fun i wr => ∃ k : Nat, k ≤ l[d].ctors[m].args.length ∧ i = .int .i64 k ∧ ∃ xs, wr.ownsRow w.heap.size 33 2 (.slice (some ⟨w.heap.size + 1 + 1, 0, none⟩) l[d].ctors[m].args.length l[d].ctors[m].args.length) l[d].ctors[m].args.length xs ∧ TyRow (argT l[d].ctors[m] ix) xs k ∧ Below w.heap.size w wr) (fun i _ => l[d].ctors[m].args.length - (intOf i).toNat)
    case atStart => exact ⟨0, by omega, rfl, _, hown0, TyRow.zero _ _, hbw⟩
    case round =>
      obtain ⟨k, hk, rfl, xs, hown, hrow, hb⟩ := hrel
      have hlw := hb.size
      clear hown0 hbw
      by_cases hlt : k < l[d].ctors[m].args.length
      · obtain ⟨b2, off2, rfl, hbB2, y0, y1⟩ := (HMM.out.below hb (Nat.le_refl _)).2 k hlt
        have hown2 : ∀ x, (wr.alloc x).ownsRow w.heap.size 33 2 (.slice (some ⟨w.heap.size + 1 + 1, 0, none⟩) l[d].ctors[m].args.length l[d].ctors[m].args.length) l[d].ctors[m].args.length xs := fun x => hown.alloc x
        have hgl := own_lt hown
        obtain ⟨v0, g0⟩ := own_cell hown (k * 2) (by omega)
        obtain ⟨v1, g1⟩ := own_cell hown (k * 2 + 1) (by omega)
        have f0 : ∀ x, (wr.alloc x).cell? ⟨w.heap.size + 1 + 1, k * 2, none⟩ = some v0 := fun x => (World.cell?_alloc_lt _ _ _ hgl).trans g0
        have f1 : ∀ x, (wr.alloc x).cell? ⟨w.heap.size + 1 + 1, k * 2 + 1, none⟩ = some v1 := fun x => (World.cell?_alloc_lt _ _ _ hgl).trans g1
        have HO2 := Lib.hid hown2
        have z0 : ∀ x, (wr.alloc x).frozen? ⟨w.heap.size + 1 + 1, k * 2, none⟩ = false := fun x => (hown2 x).frozenAt (k * 2)
        have z1 : ∀ x, (wr.alloc x).frozen? ⟨w.heap.size + 1 + 1, k * 2 + 1, none⟩ = false := fun x => (hown2 x).frozenAt (k * 2 + 1)
        have zz0 := hown.frozenAt (k * 2)
        have zz1 := hown.frozenAt (k * 2 + 1)
        have hxl := hown.1
        have HO := Lib.hid hown
        clear hown2 hown
        by_cases hs : l[d].ctors[m].args[k].index = -1
        · have qs := ieq_t hs
          have HA := Lib.hid (argOf_same (c := l[d].ctors[m]) (ix := ix) hs)
          clear hs
          go_wp2_with fail
          have s1 := (HO.out.stored (k * 2) (.int .i64 l[d].ctors[m].args[k].data)).1
          have s2 := (s1.stored (k * 2 + 1) (.int .i64 ix)).1
          have hrow2 := row_step hrow hlt hxl (u0 := l[d].ctors[m].args[k].data) (u1 := ix) (by rw [HA.out]) (by rw [HA.out]; exact HR.out)
          go_roundw
          case rel => exact ⟨k + 1, by omega, by go_num, _, s2.alloc _, hrow2, ((hb.setCell (by simp; omega) _).setCell (by simp; omega) _).alloc (by simp; omega) _⟩
          case measure => simp [intOf]; omega
        · have qs := ieq_f hs
          have HA := Lib.hid (argOf_other (c := l[d].ctors[m]) (ix := ix) hs)
          clear hs
          go_wp2_with fail
          have s1 := (HO.out.stored (k * 2) (.int .i64 l[d].ctors[m].args[k].data)).1
          have s2 := (s1.stored (k * 2 + 1) (.int .i64 l[d].ctors[m].args[k].index)).1
          have hrow2 := row_step hrow hlt hxl (u0 := l[d].ctors[m].args[k].data) (u1 := l[d].ctors[m].args[k].index) (by rw [HA.out]) (by rw [HA.out])
          go_roundw
          case rel => exact ⟨k + 1, by omega, by go_num, _, s2.alloc _, hrow2, ((hb.setCell (by simp; omega) _).setCell (by simp; omega) _).alloc (by simp; omega) _⟩
          case measure => simp [intOf]; omega
      · have he : k = l[d].ctors[m].args.length := by omega
        have HT : Hid (TyRow (argT l[d].ctors[m] ix) xs l[d].ctors[m].args.length) := by rw [← he]; exact hrow
        have HO := Lib.hid hown
        clear he hown hrow
        go_wp2_with fail
        go_ret
        exact ⟨_, rfl, ⟨xs, by rw [HL.out]; exact HO.out, by rw [HL.out]; exact HT.out⟩, hb⟩
  · have q := ieq_f ha
    have HR : Hid (l[d].ctors[m].index = resI l[d].ctors[m].index ix) := (if_neg ha).symm
    clear ha
    go_enter Try.func82, Try.ntmps82
    go_wp2_with (at_make; refine wpList_make_full _ rfl _ _ 91 rfl w.heap.size 33 i0 _ 2 Try.underlying91 hi hz0 hz1 _ _ _ _ l[d].ctors[m].args.length rfl rfl rfl rfl (by rw [hz2]; omega) (by unfold maxLen; omega) (by simp; omega) ?_; intro w1 hown0 hgr; have k1 : w1.cell? ⟨w.heap.size + 1, 1, none⟩ = some (.slice D1 l[d].ctors[m].args.length ep) := (World.cell?_of_block (a := ⟨w.heap.size + 1, 1, none⟩) (hgr.block (w.heap.size + 1) (by simp) (by simp))).trans (by simp [go_sem]))
    simp only [World.size_alloc] at hown0
    have hbw : Below w.heap.size w w1 := (((Below.refl _ _).alloc (Nat.le_refl _) _).alloc (by simp) _).grown hgr (by simp; omega) (fun k e => by cases e)
    clear hgr hi hz0 hz1 hz2 C1 E0 E1 E2 k1
    go_loopw [34] (fun i wr => ∃ k : Nat, k ≤ l[d].ctors[m].args.length ∧ i = .int .i64 k ∧ ∃ xs, wr.ownsRow w.heap.size 33 2 (.slice (some ⟨w.heap.size + 1 + 1, 0, none⟩) l[d].ctors[m].args.length l[d].ctors[m].args.length) l[d].ctors[m].args.length xs ∧ TyRow (argT l[d].ctors[m] ix) xs k ∧ Below w.heap.size w wr) (fun i _ => l[d].ctors[m].args.length - (intOf i).toNat)
    case atStart => exact ⟨0, by omega, rfl, _, hown0, TyRow.zero _ _, hbw⟩
    case round =>
      obtain ⟨k, hk, rfl, xs, hown, hrow, hb⟩ := hrel
      have hlw := hb.size
      clear hown0 hbw
      by_cases hlt : k < l[d].ctors[m].args.length
      · obtain ⟨b2, off2, rfl, hbB2, y0, y1⟩ := (HMM.out.below hb (Nat.le_refl _)).2 k hlt
        have hown2 : ∀ x, (wr.alloc x).ownsRow w.heap.size 33 2 (.slice (some ⟨w.heap.size + 1 + 1, 0, none⟩) l[d].ctors[m].args.length l[d].ctors[m].args.length) l[d].ctors[m].args.length xs := fun x => hown.alloc x
        have hgl := own_lt hown
        obtain ⟨v0, g0⟩ := own_cell hown (k * 2) (by omega)
        obtain ⟨v1, g1⟩ := own_cell hown (k * 2 + 1) (by omega)
        have f0 : ∀ x, (wr.alloc x).cell? ⟨w.heap.size + 1 + 1, k * 2, none⟩ = some v0 := fun x => (World.cell?_alloc_lt _ _ _ hgl).trans g0
        have f1 : ∀ x, (wr.alloc x).cell? ⟨w.heap.size + 1 + 1, k * 2 + 1, none⟩ = some v1 := fun x => (World.cell?_alloc_lt _ _ _ hgl).trans g1
        have HO2 := Lib.hid hown2
        have z0 : ∀ x, (wr.alloc x).frozen? ⟨w.heap.size + 1 + 1, k * 2, none⟩ = false := fun x => (hown2 x).frozenAt (k * 2)
        have z1 : ∀ x, (wr.alloc x).frozen? ⟨w.heap.size + 1 + 1, k * 2 + 1, none⟩ = false := fun x => (hown2 x).frozenAt (k * 2 + 1)
        have zz0 := hown.frozenAt (k * 2)
        have zz1 := hown.frozenAt (k * 2 + 1)
        have hxl := hown.1
        have HO := Lib.hid hown
        clear hown2 hown
        by_cases hs : l[d].ctors[m].args[k].index = -1
        · have qs := ieq_t hs
          have HA := Lib.hid (argOf_same (c := l[d].ctors[m]) (ix := ix) hs)
          clear hs
          go_wp2_with fail
          have s1 := (HO.out.stored (k * 2) (.int .i64 l[d].ctors[m].args[k].data)).1
          have s2 := (s1.stored (k * 2 + 1) (.int .i64 l[d].ctors[m].index)).1
          have hrow2 := row_step hrow hlt hxl (u0 := l[d].ctors[m].args[k].data) (u1 := l[d].ctors[m].index) (by rw [HA.out]) (by rw [HA.out]; exact HR.out)
          go_roundw
          case rel => exact ⟨k + 1, by omega, by go_num, _, s2.alloc _, hrow2, ((hb.setCell (by simp; omega) _).setCell (by simp; omega) _).alloc (by simp; omega) _⟩
          case measure => simp [intOf]; omega
        · have qs := ieq_f hs
          have HA := Lib.hid (argOf_other (c := l[d].ctors[m]) (ix := ix) hs)
          clear hs
          go_wp2_with fail
          have s1 := (HO.out.stored (k * 2) (.int .i64 l[d].ctors[m].args[k].data)).1
          have s2 := (s1.stored (k * 2 + 1) (.int .i64 l[d].ctors[m].args[k].index)).1
          have hrow2 := row_step hrow hlt hxl (u0 := l[d].ctors[m].args[k].data) (u1 := l[d].ctors[m].args[k].index) (by rw [HA.out]) (by rw [HA.out])
          go_roundw
          case rel => exact ⟨k + 1, by omega, by go_num, _, s2.alloc _, hrow2, ((hb.setCell (by simp; omega) _).setCell (by simp; omega) _).alloc (by simp; omega) _⟩
          case measure => simp [intOf]; omega
      · have he : k = l[d].ctors[m].args.length := by omega
        have HT : Hid (TyRow (argT l[d].ctors[m] ix) xs l[d].ctors[m].args.length) := by rw [← he]; exact hrow
        have HO := Lib.hid hown
        clear he hown hrow
        go_wp2_with fail
        go_ret
        exact ⟨_, rfl, ⟨xs, by rw [HL.out]; exact HO.out, by rw [HL.out]; exact HT.out⟩, hb⟩
end Go.Proofs.Ytnfjjabeobcenaa
/-
  The types of the arguments of a constructor: the document's function. No statement is proved here.
-/
namespace Go.Proofs.Ytnfjjabeobcenaa
open Go.RowKit
set_option maxRecDepth 100000
set_option linter.unusedVariables false
theorem cell_two_new (w : World) (x y : Value) (t : TypeId) : ∀ j u, [x, y][j]? = some u → (w.alloc (.cells #[x, y] t)).cell? ((⟨w.heap.size, 0, none⟩ : Addr).add j) = some u := by
  intro j u hj
  match j, hj with
  | 0, hj => simp at hj; subst hj; simp [Addr.add, go_sem]
  | 1, hj => simp at hj; subst hj; simp [Addr.add, go_sem]
theorem cell_two_more (w : World) (o : Obj) (x y : Value) (t : TypeId) : ∀ j u, [x, y][j]? = some u → ((w.alloc o).alloc (.cells #[x, y] t)).cell? ((⟨w.heap.size + 1, 0, none⟩ : Addr).add j) = some u := by
  intro j u hj
  match j, hj with
  | 0, hj => simp at hj; subst hj; simp [Addr.add, go_sem]
  | 1, hj => simp at hj; subst hj; simp [Addr.add, go_sem]
theorem own_keep {w w' : World} {lo : Nat} {e : TypeId} {size n : Nat} {v : Value} {xs : List Value} (h : w.ownsRow lo e size v n xs) (hk : ∀ b, b < w.heap.size → w'.heap[b]? = w.heap[b]?) : w'.ownsRow lo e size v n xs := by
  refine ⟨h.1, ?_⟩
  rcases h.2 with h0 | ⟨g, cap, cur, a1, a2, a3, a4⟩
  · exact .inl h0
  · exact .inr ⟨g, cap, cur, a1, a2, (hk g (heap_lt a3)).trans a3, a4⟩
theorem snoc_step {c : Ct} {ix : Int} {xs : List Value} {k : Nat} (h : TyRow (argT c ix) xs k) (hk : k < c.args.length) (hx : xs.length = k * 2) {u0 u1 : Int} (h0 : u0 = (argOf c ix c.args[k]).data) (h1 : u1 = (argOf c ix c.args[k]).index) :
    TyRow (argT c ix) (xs ++ [.int .i64 u0, .int .i64 u1]) (k + 1) := by
  have hk' : k < (argT c ix).length := by rw [argT_len]; exact hk
  have := h.snoc hk' hx
  rw [argT_get c ix k hk hk'] at this
  rw [h0, h1]
  exact this
theorem own_ne {w : World} {lo size n b : Nat} {e t : TypeId} {v : Value} {xs : List Value} {cs : Array Value} (h : w.ownsRow lo e size v n xs) (hc : w.heap[b]? = some (.cells cs t (0, 0))) (hne : e ≠ t) : some b ≠ v.ownBlock := fun he => by
  rcases h.2 with ⟨rfl, _⟩ | ⟨g, cap, cur, rfl, a2, a3, a4⟩
  · simp [Value.ownBlock] at he
  · have : b = g := by simpa [Value.ownBlock] using he
    subst this
    exact other_blk a3 hc hne rfl
set_option maxHeartbeats 1600000 in
theorem l1Args_data (A : Option Addr) (l : List Da) (cap d m : Nat) (ix : Int) (hd : d < l.length) (hm : m < l[d].ctors.length) (h3 : l[d].ctors[m].args.length ≤ 3) (w : World) (hr : RDas w w.heap.size A l) :
    Calls Try.prog 76 #[.slice A l.length cap, .agg #[.int .i64 d, .int .i64 ix], .int .i64 m] w fun e w' => ∃ v, e = .returned v ∧ OTys w' w.heap.size v (argT l[d].ctors[m] ix) (argT l[d].ctors[m] ix).length ∧ Below w.heap.size w w' := by
  obtain ⟨i0, hi, hz0, hz1, hz2⟩ := info_parts info34
  have hn := hr.1
  unfold maxLen at hn
  obtain ⟨b, off, rfl, hbB, A', cp, c0, c1, hszd, hmd⟩ := hr.2 d hd
  have hnc := hmd.1
  unfold maxLen at hnc
  obtain ⟨g, o, rfl, hgB, D1, ep, e0, e1, e2, hszm, hmm⟩ := hmd.2 m hm
  have HMM := Lib.hid hmm
  clear hr hmd hmm
  have hdI : (d : Int) < (l.length : Int) := by omega
  have hmI : (m : Int) < (l[d].ctors.length : Int) := by omega
  have hc2 : ∀ x y : Obj, ∀ p : Addr, p.block < w.heap.size → ((w.alloc x).alloc y).cell? p = w.cell? p := fun x y p hp => by
    rw [World.cell?_alloc_lt _ _ _ (by simp; omega), World.cell?_alloc_lt _ _ _ hp]
  have C1 : ∀ x y, ((w.alloc x).alloc y).cell? ⟨b, off + d * 2 + 1, none⟩ = some (.slice (some ⟨g, o, none⟩) l[d].ctors.length cp) := fun x y => (hc2 x y _ hbB).trans c1
  have E0 : ∀ x y, ((w.alloc x).alloc y).cell? ⟨g, o + m * 3, none⟩ = some (.string l[d].ctors[m].name) := fun x y => (hc2 x y _ hgB).trans e0
  have E1 : ∀ x y, ((w.alloc x).alloc y).cell? ⟨g, o + m * 3 + 1, none⟩ = some (.slice D1 l[d].ctors[m].args.length ep) := fun x y => (hc2 x y _ hgB).trans e1
  have E2 : ∀ x y, ((w.alloc x).alloc y).cell? ⟨g, o + m * 3 + 2, none⟩ = some (.int .i64 l[d].ctors[m].index) := fun x y => (hc2 x y _ hgB).trans e2
  clear c0 c1 e0 e1 e2 hc2
  have hL : (argT l[d].ctors[m] ix).length = l[d].ctors[m].args.length := argT_len _ _
  have HL := Lib.hid hL
  clear hL
  go_enter Try.func76, Try.ntmps76
  go_wp2_with fail
  clear C1 E0 E1 E2
  generalize hw0 : ((w.alloc (.cells #[.int .i64 d, .int .i64 ix] 33)).alloc (.cells #[] 33)).alloc (.cells #[.string l[d].ctors[m].name, .slice D1 l[d].ctors[m].args.length ep, .int .i64 l[d].ctors[m].index] 93) = w0
  have HX1 : Hid (w0.cell? ⟨w.heap.size, 1, none⟩ = some (.int .i64 ix)) := by unfold Hid; rw [← hw0]; simp [go_sem]
  have HH : Hid (w0.heap[w.heap.size + 1 + 1]? = some (.cells #[.string l[d].ctors[m].name, .slice D1 l[d].ctors[m].args.length ep, .int .i64 l[d].ctors[m].index] 93 (0, 0))) := by
    have h := heap_alloc_new ((w.alloc (.cells #[.int .i64 d, .int .i64 ix] 33)).alloc (.cells #[] 33)) (.cells #[.string l[d].ctors[m].name, .slice D1 l[d].ctors[m].args.length ep, .int .i64 l[d].ctors[m].index] 93)
    simp only [World.size_alloc] at h
    unfold Hid; rw [← hw0]; exact h
  have HS0 : Hid (w0.heap.size = w.heap.size + 3) := by unfold Hid; rw [← hw0]; simp
  have HK : Hid (Below w.heap.size w w0) := by rw [← hw0]; exact (((Below.refl _ _).alloc (Nat.le_refl _) _).alloc (by simp) _).alloc (by simp; omega) _
  have HO0 : Hid (w0.ownsRow (w.heap.size + 1) 33 2 (.slice (some ⟨w.heap.size + 1, 0, none⟩) 0 0) 0 []) := by
    unfold Hid
    rw [← hw0]
    have := World.ownsRow_lit (base := w.heap.size + 1) (e := 33) (size := 2) (w.alloc (.cells #[.int .i64 d, .int .i64 ix] 33)) #[] 0 (by simp) (by simp) rfl
    simpa using this.alloc _
  clear hw0
  go_loopw [7, 9] (fun v i wr => ∃ k : Nat, k ≤ l[d].ctors[m].args.length ∧ i = .int .i64 k ∧ ∃ xs, wr.ownsRow (w.heap.size + 1) 33 2 v k xs ∧ TyRow (argT l[d].ctors[m] ix) xs k ∧ wr.heap[w.heap.size + 1 + 1]? = w0.heap[w.heap.size + 1 + 1]? ∧ Below (w.heap.size + 1) w0 wr) (fun _ i _ => l[d].ctors[m].args.length - (intOf i).toNat)
  case atStart => exact ⟨0, by omega, rfl, _, HO0.out, TyRow.zero _ _, rfl, Below.refl _ _⟩
  case round =>
    obtain ⟨k, hk, rfl, xs, hown, hrow, hhc, hb⟩ := hrel
    have HHr : Hid (wr.heap[w.heap.size + 1 + 1]? = some (.cells #[.string l[d].ctors[m].name, .slice D1 l[d].ctors[m].args.length ep, .int .i64 l[d].ctors[m].index] 93 (0, 0))) := hhc.trans HH.out
    clear hhc HO0
    have hlw : w.heap.size + 3 ≤ wr.heap.size := by have := hb.size; have := HS0.out; omega
    have x1 : wr.cell? ⟨w.heap.size, 1, none⟩ = some (.int .i64 ix) := (hb.cell (p := ⟨w.heap.size, 1, none⟩) (by simp)).trans HX1.out
    have y0 : wr.cell? ⟨w.heap.size + 1 + 1, 0, none⟩ = some (.string l[d].ctors[m].name) := cell_of_blk HHr.out 0
    have y1 : wr.cell? ⟨w.heap.size + 1 + 1, 1, none⟩ = some (.slice D1 l[d].ctors[m].args.length ep) := cell_of_blk HHr.out 1
    have y2 : wr.cell? ⟨w.heap.size + 1 + 1, 2, none⟩ = some (.int .i64 l[d].ctors[m].index) := cell_of_blk HHr.out 2
    have HO := Lib.hid hown
    clear hown
    by_cases hlt : k < l[d].ctors[m].args.length
    · have HBw : Hid (Below w.heap.size w wr) := HK.out.trans (hb.mono (by omega))
      obtain ⟨b2, off2, rfl, hbB2, p0, p1⟩ := (HMM.out.below HBw.out (Nat.le_refl _)).2 k hlt
      have Y0 : ∀ x, (wr.alloc x).cell? ⟨w.heap.size + 1 + 1, 0, none⟩ = some (.string l[d].ctors[m].name) := fun x => (World.cell?_alloc_lt _ _ _ (by simp; omega)).trans y0
      have Y1 : ∀ x, (wr.alloc x).cell? ⟨w.heap.size + 1 + 1, 1, none⟩ = some (.slice (some ⟨b2, off2, none⟩) l[d].ctors[m].args.length ep) := fun x => (World.cell?_alloc_lt _ _ _ (by simp; omega)).trans y1
      have Y2 : ∀ x, (wr.alloc x).cell? ⟨w.heap.size + 1 + 1, 2, none⟩ = some (.int .i64 l[d].ctors[m].index) := fun x => (World.cell?_alloc_lt _ _ _ (by simp; omega)).trans y2
      have X1 : ∀ x, (wr.alloc x).cell? ⟨w.heap.size, 1, none⟩ = some (.int .i64 ix) := fun x => (World.cell?_alloc_lt _ _ _ (by simp; omega)).trans x1
      by_cases hs : l[d].ctors[m].args[k].index = -1
      · have qs := ieq_t hs
        have HA := Lib.hid (argOf_same (c := l[d].ctors[m]) (ix := ix) hs)
        clear hs
        go_wp2_with fail
        refine (result_any _ _ _ _ _ _ _).mono ?_
        rintro e w2 ⟨rfl, hb2⟩
        obtain ⟨hc, hfz⟩ := bcell hb2
        have hz : wr.heap.size < w2.heap.size := by have := hb2.size; simp at this; omega
        have HU : Hid (∀ bb, bb < wr.heap.size → (w2.setCell ⟨wr.heap.size, 1, none⟩ (.int .i64 (resI l[d].ctors[m].index ix))).heap[bb]? = wr.heap[bb]?) := fun bb h => by
          rw [Below.heap_setCell _ _ _ _ (by simp; omega), hb2.block bb (by simp; omega), Below.heap_alloc _ _ _ h]
        have HO2 := Lib.hid (own_keep HO.out HU.out)
        go_wp2_with (at_builtin; refine wpList_append_own _ rfl _ _ 91 rfl (w.heap.size + 1) 33 i0 (.agg #[.int .i64 0, .int .i64 0]) 2 16 Try.underlying91 hi hz0 hz1 hz2 rfl (by decide) _ _ _ rfl (HO2.out.alloc _) ⟨w2.heap.size, 0, none⟩ 1 1 [.int .i64 l[d].ctors[m].args[k].data, .int .i64 (resI l[d].ctors[m].index ix)] rfl rfl ?c1 ?c2 ?c3 ?c4 ?c5 ?_)
        case c1 =>
          intro j u hj
          have := cell_two_new (w2.setCell ⟨wr.heap.size, 1, none⟩ (.int .i64 (resI l[d].ctors[m].index ix))) _ _ 33 j u hj
          simpa using this
        case c2 => intro u hu; simp at hu; rcases hu with rfl | rfl <;> rfl
        case c3 => unfold maxLen; omega
        case c4 => omega
        case c5 => simp; omega
        intro v' w1 hown' hgrow hnn
        have hb3 : Below (w.heap.size + 1) w0 w1 := ((((hb.alloc (by omega) _).trans (hb2.mono (by simp; omega))).setCell (p := ⟨wr.heap.size, 1, none⟩) (by simp; omega) _).alloc (by simp; omega) _).grown hgrow (by simp; omega) (fun g' e => (HO2.out.lt g' e).1)
        have hc3 : w1.heap[w.heap.size + 1 + 1]? = w0.heap[w.heap.size + 1 + 1]? := by
          have q1 := (HU.out (w.heap.size + 1 + 1) (by omega)).trans HHr.out
          rw [hgrow.block (w.heap.size + 1 + 1) (by simp; omega) (own_ne HO2.out q1 (by decide)), Below.heap_alloc _ _ _ (by simp; omega), q1, HH.out]
        have hr3 := snoc_step hrow hlt HO.out.1 (u0 := l[d].ctors[m].args[k].data) (u1 := resI l[d].ctors[m].index ix) (by rw [HA.out]) (by rw [HA.out])
        have HO3 := Lib.hid hown'
        clear hown' hgrow hnn hc hfz hi hz0 hz1 hz2 Y0 Y1 Y2 X1
        go_wp2_with fail
        go_roundw
        case rel => exact ⟨k + 1, by omega, by go_num, _, HO3.out, hr3, hc3, hb3⟩
        case measure => simp [intOf]; omega
      · have qs := ieq_f hs
        have HA := Lib.hid (argOf_other (c := l[d].ctors[m]) (ix := ix) hs)
        clear hs
        go_wp2_with (at_builtin; refine wpList_append_own _ rfl _ _ 91 rfl (w.heap.size + 1) 33 i0 (.agg #[.int .i64 0, .int .i64 0]) 2 16 Try.underlying91 hi hz0 hz1 hz2 rfl (by decide) _ _ _ rfl ((HO.out.alloc _).alloc _) ⟨wr.heap.size + 1, 0, none⟩ 1 1 [.int .i64 l[d].ctors[m].args[k].data, .int .i64 l[d].ctors[m].args[k].index] rfl rfl ?d1 ?d2 ?d3 ?d4 ?d5 ?_)
        case d1 => exact cell_two_more _ _ _ _ _
        case d2 => intro u hu; simp at hu; rcases hu with rfl | rfl <;> rfl
        case d3 => unfold maxLen; omega
        case d4 => omega
        case d5 => simp; omega
        intro v' w1 hown' hgrow hnn
        have hb3 : Below (w.heap.size + 1) w0 w1 := ((hb.alloc (by omega) _).alloc (by simp; omega) _).grown hgrow (by simp; omega) (fun g' e => (HO.out.lt g' e).1)
        have hc3 : w1.heap[w.heap.size + 1 + 1]? = w0.heap[w.heap.size + 1 + 1]? := by
          rw [hgrow.block (w.heap.size + 1 + 1) (by simp; omega) (own_ne HO.out HHr.out (by decide)), Below.heap_alloc _ _ _ (by simp; omega), Below.heap_alloc _ _ _ (by omega), HHr.out, HH.out]
        have hr3 := snoc_step hrow hlt HO.out.1 (u0 := l[d].ctors[m].args[k].data) (u1 := l[d].ctors[m].args[k].index) (by rw [HA.out]) (by rw [HA.out])
        have HO3 := Lib.hid hown'
        clear hown' hgrow hnn hi hz0 hz1 hz2 Y0 Y1 Y2 X1
        go_wp2_with fail
        go_roundw
        case rel => exact ⟨k + 1, by omega, by go_num, _, HO3.out, hr3, hc3, hb3⟩
        case measure => simp [intOf]; omega
    · have he : k = l[d].ctors[m].args.length := by omega
      have HT : Hid (OTys wr (w.heap.size + 1) u7 (argT l[d].ctors[m] ix) (argT l[d].ctors[m] ix).length) := by unfold Hid; rw [HL.out, ← he]; exact ⟨xs, HO.out, hrow⟩
      have HBw : Hid (Below w.heap.size w wr) := HK.out.trans (hb.mono (by omega))
      clear he hrow
      go_wp2_with fail
      go_ret
      exact ⟨_, rfl, HT.out.lower (by omega), HBw.out⟩
end Go.Proofs.Ytnfjjabeobcenaa
/-
  The types of the arguments of a constructor: both functions, whole; types that are marked and looked at again. No statement is proved here.
-/
namespace Go.Proofs.Ytnfjjabeobcenaa
open Go.RowKit
set_option maxRecDepth 100000
set_option linter.unusedVariables false
theorem mem_ctL {cs : List Ct} {i x : Int} : ∀ n, x ∈ ctL cs i n → ∃ m : Nat, m < n ∧ x = m
  | n + 1, h => by
    have h' : x ∈ ctL cs i n ++ (if fitsB (cs.getD n default).index i then [(n : Int)] else []) := h
    rcases List.mem_append.1 h' with h1 | h1
    · obtain ⟨m, hm, e⟩ := mem_ctL n h1
      exact ⟨m, by omega, e⟩
    · split at h1
      · exact ⟨n, by omega, by simpa using h1⟩
      · simp at h1
theorem mem_ctR {l : List Da} {t : Ty} {x : Int} (h : x ∈ ctR l t) : TyOK l t ∧ ∃ (d m : Nat) (hd : d < l.length), t.data = d ∧ x = m ∧ m < l[d].ctors.length := by
  by_cases ht : TyOK l t
  · refine ⟨ht, ?_⟩
    rcases ty_cases ht with h1 | ⟨d, h1, hd⟩
    · rw [ctR_int h1] at h; simp at h
    · obtain ⟨td, ti⟩ := t
      simp only at h1
      subst h1
      rw [ctR_data ht hd] at h
      obtain ⟨m, hm, e⟩ := mem_ctL _ h
      exact ⟨d, m, hd, rfl, e, hm⟩
  · rw [ctR_no ht] at h; simp at h
theorem args_three {l : List Da} (h : WorldOK l) {d m : Nat} (hd : d < l.length) (hm : m < l[d].ctors.length) : l[d].ctors[m].args.length ≤ 3 := by
  have h1 := h.2.1 d hd hd
  by_cases h3 : l[d].ctors[m].args.length ≤ 3
  · exact h3
  · have h2 := (data_bad (n := l.length) (all_bad hm (ctor_args (n := l.length) h3).symm)).symm
    rw [h1] at h2; cases h2
/-- The types of the arguments of a constructor for a type. -/
noncomputable def agR (l : List Da) (t : Ty) (x : Int) : List Ty := if dec (x ∈ ctR l t) then argT ((l.getD t.data.toNat default).ctors.getD x.toNat default) t.index else []
theorem agR_no {l : List Da} {t : Ty} {x : Int} (h : ¬ x ∈ ctR l t) : agR l t x = [] := by unfold agR; rw [dec_f h]; rfl
theorem agR_yes {l : List Da} {d m : Nat} {i : Int} (h : (m : Int) ∈ ctR l ⟨d, i⟩) (hd : d < l.length) (hm : m < l[d].ctors.length) : agR l ⟨d, i⟩ m = argT l[d].ctors[m] i := by
  have e : l.getD d default = l[d] := by simp [List.getD, List.getElem?_eq_getElem hd]
  have e2 : l[d].ctors.getD m default = l[d].ctors[m] := by simp [List.getD, List.getElem?_eq_getElem hm]
  unfold agR
  rw [dec_t h]
  simp only [if_true, Int.toNat_natCast, e, e2]
theorem agR_len (l : List Da) (t : Ty) (x : Int) : (agR l t x).length ≤ 3 := by
  by_cases h : x ∈ ctR l t
  · obtain ⟨ht, d, m, hd, h1, rfl, hm⟩ := mem_ctR h
    obtain ⟨td, ti⟩ := t
    simp only at h1
    subst h1
    rw [agR_yes h hd hm, argT_len]
    exact args_three ht.1 hd hm
  · rw [agR_no h]; simp
theorem l1Args_all (A : Option Addr) (l : List Da) (cap : Nat) (t : Ty) (x : Int) (w : World) (hr : RDas w w.heap.size A l) (h : x ∈ ctR l t) :
    Calls Try.prog 76 #[.slice A l.length cap, .agg #[.int .i64 t.data, .int .i64 t.index], .int .i64 x] w fun e w' => ∃ v, e = .returned v ∧ OTys w' w.heap.size v (agR l t x) (agR l t x).length ∧ Below w.heap.size w w' := by
  obtain ⟨ht, d, m, hd, h1, rfl, hm⟩ := mem_ctR h
  obtain ⟨td, ti⟩ := t
  simp only at h1
  subst h1
  rw [agR_yes h hd hm]
  exact l1Args_data A l cap d m ti hd hm (args_three ht.1 hd hm) w hr
theorem argTypes_all (A : Option Addr) (l : List Da) (cap : Nat) (t : Ty) (x : Int) (w : World) (hr : RDas w w.heap.size A l) (h : x ∈ ctR l t) :
    Calls Try.prog 82 #[.slice A l.length cap, .agg #[.int .i64 t.data, .int .i64 t.index], .int .i64 x] w fun e w' => ∃ v, e = .returned v ∧ OTys w' w.heap.size v (agR l t x) (agR l t x).length ∧ Below w.heap.size w w' := by
  obtain ⟨ht, d, m, hd, h1, rfl, hm⟩ := mem_ctR h
  obtain ⟨td, ti⟩ := t
  simp only at h1
  subst h1
  rw [agR_yes h hd hm]
  exact argTypes_data A l cap d m ti hd hm (args_three ht.1 hd hm) w hr
end Go.Proofs.Ytnfjjabeobcenaa
/-
  The depth that a table gives for a constructor of a valid type; the places of a table as types. No statement is proved here.
-/
namespace Go.Proofs.Ytnfjjabeobcenaa
open Go.RowKit
set_option maxRecDepth 100000
set_option linter.unusedVariables false
theorem ctor_parts {n : Int} {c : Ct} (h : ctorB n c = true) : (0 ≤ c.index ∧ c.index ≤ 3) ∧ ∀ a ∈ c.args, argB n (-1) a = true := by
  refine ⟨?_, ?_⟩
  · by_cases h1 : 0 ≤ c.index ∧ c.index ≤ 3
    · exact h1
    · have := ctor_index (n := n) h1; rw [h] at this; cases this
  · intro a ha
    by_cases h2 : c.args.all (argB n (-1)) = true
    · exact List.all_eq_true.1 h2 a ha
    · have h3 : c.args.all (argB n (-1)) = false := by simpa using h2
      have := ctor_bad h3; rw [h] at this; cases this
theorem world_ctor {l : List Da} (h : WorldOK l) {d m : Nat} (hd : d < l.length) (hm : m < l[d].ctors.length) : ctorB l.length l[d].ctors[m] = true := by
  have h1 := h.2.1 d hd hd
  by_cases h2 : ctorB l.length l[d].ctors[m] = true
  · exact h2
  · have h3 : ctorB l.length l[d].ctors[m] = false := by simpa using h2
    have := data_bad (n := l.length) (all_bad hm h3); rw [h1] at this; cases this
end Go.Proofs.Ytnfjjabeobcenaa
/-
  When a tree is a value of a type: plain mathematics. No statement is proved here.
-/
namespace Go.Proofs.Ytnfjjabeobcenaa
open Go.RowKit
set_option maxRecDepth 100000
set_option linter.unusedVariables false
theorem agR_ok {l : List Da} {t : Ty} {x : Int} (h : x ∈ ctR l t) : ∀ a ∈ agR l t x, TyOK l a := by
  obtain ⟨ht, d, m, hd, h1, rfl, hm⟩ := mem_ctR h
  obtain ⟨td, ti⟩ := t
  simp only at h1
  subst h1
  rw [agR_yes h hd hm]
  intro a ha
  refine ⟨ht.1, ?_⟩
  obtain ⟨hi, hargs⟩ := ctor_parts (world_ctor ht.1 hd hm)
  have hti : 0 ≤ ti ∧ ti ≤ 3 := by
    have h2 := ht.2
    rw [argB_data (by simp only; omega)] at h2
    have := of_decide_eq_true h2
    simp only at this
    omega
  unfold argT at ha
  obtain ⟨b, hb, rfl⟩ := List.mem_map.1 ha
  have hB := hargs b hb
  by_cases hb1 : b.data = -1
  · rw [argB_int hb1] at hB
    have h0 : b.index = 0 := of_decide_eq_true hB
    rw [argOf_other (by omega), argB_int hb1]
    exact decide_eq_true h0
  · rw [argB_data hb1] at hB
    have hp := of_decide_eq_true hB
    by_cases hs : b.index = -1
    · rw [argOf_same hs]
      have h5 : ¬ (Ty.mk b.data (resI l[d].ctors[m].index ti)).data = -1 := hb1
      rw [argB_data h5]
      refine decide_eq_true ?_
      unfold resI
      simp only
      split <;> omega
    · rw [argOf_other hs, argB_data hb1]
      exact decide_eq_true (by omega)
def upto (f : Nat → Bool) : Nat → Bool
  | 0 => true
  | k + 1 => upto f k && f k
theorem upto_le {f : Nat → Bool} {k : Nat} (e : Nat) (h : upto f k = false) : upto f (k + e) = false := by
  induction e with
  | zero => exact h
  | succ e ih => show (upto f (k + e) && f (k + e)) = false; rw [ih]; rfl
theorem upto_f {f : Nat → Bool} {n k : Nat} (hk : k < n) (h : f k = false) : upto f n = false := by
  have := upto_le (f := f) (k := k + 1) (n - (k + 1)) (by show (upto f k && f k) = false; rw [h]; simp)
  rwa [show k + 1 + (n - (k + 1)) = n by omega] at this
theorem upto_t {f : Nat → Bool} {k : Nat} (h : upto f k = true) (h' : f k = true) : upto f (k + 1) = true := by
  show (upto f k && f k) = true; rw [h, h']; rfl
noncomputable def fitV (l : List Da) : Nat → Ty → Vl → Bool
  | 0, _, _ => false
  | d + 1, t, v => if t.data = -1 then decide (v.ctor = -1) && (decide (0 ≤ v.n) && (decide (v.n ≤ 9) && decide (v.kids.length = 0)))
      else decide (v.n = 0) && (dec (v.ctor ∈ ctR l t) && (decide (v.kids.length = (agR l t v.ctor).length) && upto (fun i => fitV l d ((agR l t v.ctor).getD i default) (v.kids.getD i default)) (agR l t v.ctor).length))
/-- Which of the parts fit. -/
noncomputable def kidV (l : List Da) (d : Nat) (ats : List Ty) (ks : List Vl) (i : Nat) : Bool := fitV l d (ats.getD i default) (ks.getD i default)
section
variable {l : List Da} {d : Nat} {t : Ty} {v : Vl}
theorem fit_int (h : t.data = -1) : fitV l (d + 1) t v = (decide (v.ctor = -1) && (decide (0 ≤ v.n) && (decide (v.n ≤ 9) && decide (v.kids.length = 0)))) := if_pos h
theorem fit_n (h : ¬ t.data = -1) (hn : ¬ v.n = 0) : fitV l (d + 1) t v = false := by
  show (if t.data = -1 then _ else _) = _
  rw [if_neg h, decide_eq_false hn]; rfl
theorem fit_ctor (h : ¬ t.data = -1) (hc : ¬ v.ctor ∈ ctR l t) : fitV l (d + 1) t v = false := by
  show (if t.data = -1 then _ else _) = _
  rw [if_neg h, dec_f hc]; simp
theorem fit_len (h : ¬ t.data = -1) (hc : ¬ v.kids.length = (agR l t v.ctor).length) : fitV l (d + 1) t v = false := by
  show (if t.data = -1 then _ else _) = _
  rw [if_neg h, decide_eq_false hc]; simp
theorem fit_go (h : ¬ t.data = -1) (hn : v.n = 0) (hc : v.ctor ∈ ctR l t) (hl : v.kids.length = (agR l t v.ctor).length) : fitV l (d + 1) t v = upto (kidV l d (agR l t v.ctor) v.kids) (agR l t v.ctor).length := by
  show (if t.data = -1 then _ else _) = _
  rw [if_neg h, decide_eq_true hn, dec_t hc, decide_eq_true hl]; rfl
theorem kidV_at {ats : List Ty} {ks : List Vl} {i : Nat} (h : i < ats.length) (h' : i < ks.length) : kidV l d ats ks i = fitV l d ats[i] ks[i] := by
  unfold kidV
  rw [List.getD_eq_getElem?_getD, List.getD_eq_getElem?_getD, List.getElem?_eq_getElem h, List.getElem?_eq_getElem h']; rfl
end
end Go.Proofs.Ytnfjjabeobcenaa
