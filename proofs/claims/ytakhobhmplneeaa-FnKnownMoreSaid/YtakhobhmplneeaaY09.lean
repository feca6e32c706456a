/-
  The types of the arguments of a constructor: the document's function. No statement is proved here.
-/
import Derived.Test.YtakhobhmplneeaaY08
namespace Go.Proofs.Ytakhobhmplneeaa
open Go.RowKit
set_option maxRecDepth 100000
set_option linter.unusedVariables false
theorem cell_two_new (w : World) (x y : Value) (t : TypeId) : ∀ j u, [x, y][j]? = some u → (w.alloc (.cells #[x, y] t)).cell? ((⟨w.heap.size, 0, none⟩ : Addr).add j) = some u := by
  intro j u hj
  match j, hj with
  | 0, hj => simp at hj; subst hj; simp [Addr.add, go_sem]
  | 1, hj => simp at hj; subst hj; simp [Addr.add, go_sem]
theorem cell_two_more (w : World) (o : Obj) (x y : Value) (t : TypeId) : ∀ j u, [x, y][j]? = some u → ((w.alloc o).alloc (.cells #[x, y] t)).cell? ((⟨w.heap.size + 1, 0, none⟩ : Addr).add j) = some u := by
  intro j u hj
  match j, hj with
  | 0, hj => simp at hj; subst hj; simp [Addr.add, go_sem]
  | 1, hj => simp at hj; subst hj; simp [Addr.add, go_sem]
theorem own_keep {w w' : World} {lo : Nat} {e : TypeId} {size n : Nat} {v : Value} {xs : List Value} (h : w.ownsRow lo e size v n xs) (hk : ∀ b, b < w.heap.size → w'.heap[b]? = w.heap[b]?) : w'.ownsRow lo e size v n xs := by
  refine ⟨h.1, ?_⟩
  rcases h.2 with h0 | ⟨g, cap, cur, a1, a2, a3, a4⟩
  · exact .inl h0
  · exact .inr ⟨g, cap, cur, a1, a2, (hk g (heap_lt a3)).trans a3, a4⟩
theorem snoc_step {c : Ct} {ix : Int} {xs : List Value} {k : Nat} (h : TyRow (argT c ix) xs k) (hk : k < c.args.length) (hx : xs.length = k * 2) {u0 u1 : Int} (h0 : u0 = (argOf c ix c.args[k]).data) (h1 : u1 = (argOf c ix c.args[k]).index) :
    TyRow (argT c ix) (xs ++ [.int .i64 u0, .int .i64 u1]) (k + 1) := by
  have hk' : k < (argT c ix).length := by rw [argT_len]; exact hk
  have := h.snoc hk' hx
  rw [argT_get c ix k hk hk'] at this
  rw [h0, h1]
  exact this
theorem own_ne {w : World} {lo size n b : Nat} {e t : TypeId} {v : Value} {xs : List Value} {cs : Array Value} (h : w.ownsRow lo e size v n xs) (hc : w.heap[b]? = some (.cells cs t (0, 0))) (hne : e ≠ t) : some b ≠ v.ownBlock := fun he => by
  rcases h.2 with ⟨rfl, _⟩ | ⟨g, cap, cur, rfl, a2, a3, a4⟩
  · simp [Value.ownBlock] at he
  · have : b = g := by simpa [Value.ownBlock] using he
    subst this
    exact other_blk a3 hc hne rfl
set_option maxHeartbeats 1600000 in
theorem l1Args_data (A : Option Addr) (l : List Da) (cap d m : Nat) (ix : Int) (hd : d < l.length) (hm : m < l[d].ctors.length) (h3 : l[d].ctors[m].args.length ≤ 3) (w : World) (hr : RDas w w.heap.size A l) :
    Calls Try.prog 51 #[.slice A l.length cap, .agg #[.int .i64 d, .int .i64 ix], .int .i64 m] w fun e w' => ∃ v, e = .returned v ∧ OTys w' w.heap.size v (argT l[d].ctors[m] ix) (argT l[d].ctors[m] ix).length ∧ Below w.heap.size w w' := by
  obtain ⟨i0, hi, hz0, hz1, hz2⟩ := info_parts info34
  have hn := hr.1
  unfold maxLen at hn
  obtain ⟨b, off, rfl, hbB, A', cp, c0, c1, hszd, hmd⟩ := hr.2 d hd
  have hnc := hmd.1
  unfold maxLen at hnc
  obtain ⟨g, o, rfl, hgB, D1, ep, e0, e1, e2, hszm, hmm⟩ := hmd.2 m hm
  have HMM := Lib.hid hmm
  clear hr hmd hmm
  have hdI : (d : Int) < (l.length : Int) := by omega
  have hmI : (m : Int) < (l[d].ctors.length : Int) := by omega
  have hc2 : ∀ x y : Obj, ∀ p : Addr, p.block < w.heap.size → ((w.alloc x).alloc y).cell? p = w.cell? p := fun x y p hp => by
    rw [World.cell?_alloc_lt _ _ _ (by simp; omega), World.cell?_alloc_lt _ _ _ hp]
  have C1 : ∀ x y, ((w.alloc x).alloc y).cell? ⟨b, off + d * 2 + 1, none⟩ = some (.slice (some ⟨g, o, none⟩) l[d].ctors.length cp) := fun x y => (hc2 x y _ hbB).trans c1
  have E0 : ∀ x y, ((w.alloc x).alloc y).cell? ⟨g, o + m * 3, none⟩ = some (.string l[d].ctors[m].name) := fun x y => (hc2 x y _ hgB).trans e0
  have E1 : ∀ x y, ((w.alloc x).alloc y).cell? ⟨g, o + m * 3 + 1, none⟩ = some (.slice D1 l[d].ctors[m].args.length ep) := fun x y => (hc2 x y _ hgB).trans e1
  have E2 : ∀ x y, ((w.alloc x).alloc y).cell? ⟨g, o + m * 3 + 2, none⟩ = some (.int .i64 l[d].ctors[m].index) := fun x y => (hc2 x y _ hgB).trans e2
  clear c0 c1 e0 e1 e2 hc2
  have hL : (argT l[d].ctors[m] ix).length = l[d].ctors[m].args.length := argT_len _ _
  have HL := Lib.hid hL
  clear hL
  go_enter Try.func51, Try.ntmps51
  go_wp2_with fail
  clear C1 E0 E1 E2
  generalize hw0 : ((w.alloc (.cells #[.int .i64 d, .int .i64 ix] 25)).alloc (.cells #[] 25)).alloc (.cells #[.string l[d].ctors[m].name, .slice D1 l[d].ctors[m].args.length ep, .int .i64 l[d].ctors[m].index] 105) = w0
  have HX1 : Hid (w0.cell? ⟨w.heap.size, 1, none⟩ = some (.int .i64 ix)) := by unfold Hid; rw [← hw0]; simp [go_sem]
  have HH : Hid (w0.heap[w.heap.size + 1 + 1]? = some (.cells #[.string l[d].ctors[m].name, .slice D1 l[d].ctors[m].args.length ep, .int .i64 l[d].ctors[m].index] 105 (0, 0))) := by
    have h := heap_alloc_new ((w.alloc (.cells #[.int .i64 d, .int .i64 ix] 25)).alloc (.cells #[] 25)) (.cells #[.string l[d].ctors[m].name, .slice D1 l[d].ctors[m].args.length ep, .int .i64 l[d].ctors[m].index] 105)
    simp only [World.size_alloc] at h
    unfold Hid; rw [← hw0]; exact h
  have HS0 : Hid (w0.heap.size = w.heap.size + 3) := by unfold Hid; rw [← hw0]; simp
  have HK : Hid (Below w.heap.size w w0) := by rw [← hw0]; exact (((Below.refl _ _).alloc (Nat.le_refl _) _).alloc (by simp) _).alloc (by simp; omega) _
  have HO0 : Hid (w0.ownsRow (w.heap.size + 1) 25 2 (.slice (some ⟨w.heap.size + 1, 0, none⟩) 0 0) 0 []) := by
    unfold Hid
    rw [← hw0]
    have := World.ownsRow_lit (base := w.heap.size + 1) (e := 25) (size := 2) (w.alloc (.cells #[.int .i64 d, .int .i64 ix] 25)) #[] 0 (by simp) (by simp) rfl
    simpa using this.alloc _
  clear hw0
  go_loopw [7, 9] (fun v i wr => ∃ k : Nat, k ≤ l[d].ctors[m].args.length ∧ i = .int .i64 k ∧ ∃ xs, wr.ownsRow (w.heap.size + 1) 25 2 v k xs ∧ TyRow (argT l[d].ctors[m] ix) xs k ∧ wr.heap[w.heap.size + 1 + 1]? = w0.heap[w.heap.size + 1 + 1]? ∧ Below (w.heap.size + 1) w0 wr) (fun _ i _ => l[d].ctors[m].args.length - (intOf i).toNat)
  case atStart => exact ⟨0, by omega, rfl, _, HO0.out, TyRow.zero _ _, rfl, Below.refl _ _⟩
  case round =>
    obtain ⟨k, hk, rfl, xs, hown, hrow, hhc, hb⟩ := hrel
    have HHr : Hid (wr.heap[w.heap.size + 1 + 1]? = some (.cells #[.string l[d].ctors[m].name, .slice D1 l[d].ctors[m].args.length ep, .int .i64 l[d].ctors[m].index] 105 (0, 0))) := hhc.trans HH.out
    clear hhc HO0
    have hlw : w.heap.size + 3 ≤ wr.heap.size := by have := hb.size; have := HS0.out; omega
    have x1 : wr.cell? ⟨w.heap.size, 1, none⟩ = some (.int .i64 ix) := (hb.cell (p := ⟨w.heap.size, 1, none⟩) (by simp)).trans HX1.out
    have y0 : wr.cell? ⟨w.heap.size + 1 + 1, 0, none⟩ = some (.string l[d].ctors[m].name) := cell_of_blk HHr.out 0
    have y1 : wr.cell? ⟨w.heap.size + 1 + 1, 1, none⟩ = some (.slice D1 l[d].ctors[m].args.length ep) := cell_of_blk HHr.out 1
    have y2 : wr.cell? ⟨w.heap.size + 1 + 1, 2, none⟩ = some (.int .i64 l[d].ctors[m].index) := cell_of_blk HHr.out 2
    have HO := Lib.hid hown
    clear hown
    by_cases hlt : k < l[d].ctors[m].args.length
    · have HBw : Hid (Below w.heap.size w wr) := HK.out.trans (hb.mono (by omega))
      obtain ⟨b2, off2, rfl, hbB2, p0, p1⟩ := (HMM.out.below HBw.out (Nat.le_refl _)).2 k hlt
      have Y0 : ∀ x, (wr.alloc x).cell? ⟨w.heap.size + 1 + 1, 0, none⟩ = some (.string l[d].ctors[m].name) := fun x => (World.cell?_alloc_lt _ _ _ (by simp; omega)).trans y0
      have Y1 : ∀ x, (wr.alloc x).cell? ⟨w.heap.size + 1 + 1, 1, none⟩ = some (.slice (some ⟨b2, off2, none⟩) l[d].ctors[m].args.length ep) := fun x => (World.cell?_alloc_lt _ _ _ (by simp; omega)).trans y1
      have Y2 : ∀ x, (wr.alloc x).cell? ⟨w.heap.size + 1 + 1, 2, none⟩ = some (.int .i64 l[d].ctors[m].index) := fun x => (World.cell?_alloc_lt _ _ _ (by simp; omega)).trans y2
      have X1 : ∀ x, (wr.alloc x).cell? ⟨w.heap.size, 1, none⟩ = some (.int .i64 ix) := fun x => (World.cell?_alloc_lt _ _ _ (by simp; omega)).trans x1
      by_cases hs : l[d].ctors[m].args[k].index = -1
      · have qs := ieq_t hs
        have HA := Lib.hid (argOf_same (c := l[d].ctors[m]) (ix := ix) hs)
        clear hs
        go_wp2_with fail
        refine (result_any _ _ _ _ _ _ _).mono ?_
        rintro e w2 ⟨rfl, hb2⟩
        obtain ⟨hc, hfz⟩ := bcell hb2
        have hz : wr.heap.size < w2.heap.size := by have := hb2.size; simp at this; omega
        have HU : Hid (∀ bb, bb < wr.heap.size → (w2.setCell ⟨wr.heap.size, 1, none⟩ (.int .i64 (resI l[d].ctors[m].index ix))).heap[bb]? = wr.heap[bb]?) := fun bb h => by
          rw [Below.heap_setCell _ _ _ _ (by simp; omega), hb2.block bb (by simp; omega), Below.heap_alloc _ _ _ h]
        have HO2 := Lib.hid (own_keep HO.out HU.out)
        go_wp2_with (at_builtin; refine wpList_append_own _ rfl _ _ 89 rfl (w.heap.size + 1) 25 i0 (.agg #[.int .i64 0, .int .i64 0]) 2 16 Try.underlying89 hi hz0 hz1 hz2 rfl (by decide) _ _ _ rfl (HO2.out.alloc _) ⟨w2.heap.size, 0, none⟩ 1 1 [.int .i64 l[d].ctors[m].args[k].data, .int .i64 (resI l[d].ctors[m].index ix)] rfl rfl ?c1 ?c2 ?c3 ?c4 ?c5 ?_)
        case c1 =>
          intro j u hj
          have := cell_two_new (w2.setCell ⟨wr.heap.size, 1, none⟩ (.int .i64 (resI l[d].ctors[m].index ix))) _ _ 25 j u hj
          simpa using this
        case c2 => intro u hu; simp at hu; rcases hu with rfl | rfl <;> rfl
        case c3 => unfold maxLen; omega
        case c4 => omega
        case c5 => simp; omega
        intro v' w1 hown' hgrow hnn
        have hb3 : Below (w.heap.size + 1) w0 w1 := ((((hb.alloc (by omega) _).trans (hb2.mono (by simp; omega))).setCell (p := ⟨wr.heap.size, 1, none⟩) (by simp; omega) _).alloc (by simp; omega) _).grown hgrow (by simp; omega) (fun g' e => (HO2.out.lt g' e).1)
        have hc3 : w1.heap[w.heap.size + 1 + 1]? = w0.heap[w.heap.size + 1 + 1]? := by
          have q1 := (HU.out (w.heap.size + 1 + 1) (by omega)).trans HHr.out
          rw [hgrow.block (w.heap.size + 1 + 1) (by simp; omega) (own_ne HO2.out q1 (by decide)), Below.heap_alloc _ _ _ (by simp; omega), q1, HH.out]
        have hr3 := snoc_step hrow hlt HO.out.1 (u0 := l[d].ctors[m].args[k].data) (u1 := resI l[d].ctors[m].index ix) (by rw [HA.out]) (by rw [HA.out])
        have HO3 := Lib.hid hown'
        clear hown' hgrow hnn hc hfz hi hz0 hz1 hz2 Y0 Y1 Y2 X1
        go_wp2_with fail
        go_roundw
        case rel => exact ⟨k + 1, by omega, by go_num, _, HO3.out, hr3, hc3, hb3⟩
        case measure => simp [intOf]; omega
      · have qs := ieq_f hs
        have HA := Lib.hid (argOf_other (c := l[d].ctors[m]) (ix := ix) hs)
        clear hs
        go_wp2_with (at_builtin; refine wpList_append_own _ rfl _ _ 89 rfl (w.heap.size + 1) 25 i0 (.agg #[.int .i64 0, .int .i64 0]) 2 16 Try.underlying89 hi hz0 hz1 hz2 rfl (by decide) _ _ _ rfl ((HO.out.alloc _).alloc _) ⟨wr.heap.size + 1, 0, none⟩ 1 1 [.int .i64 l[d].ctors[m].args[k].data, .int .i64 l[d].ctors[m].args[k].index] rfl rfl ?d1 ?d2 ?d3 ?d4 ?d5 ?_)
        case d1 => exact cell_two_more _ _ _ _ _
        case d2 => intro u hu; simp at hu; rcases hu with rfl | rfl <;> rfl
        case d3 => unfold maxLen; omega
        case d4 => omega
        case d5 => simp; omega
        intro v' w1 hown' hgrow hnn
        have hb3 : Below (w.heap.size + 1) w0 w1 := ((hb.alloc (by omega) _).alloc (by simp; omega) _).grown hgrow (by simp; omega) (fun g' e => (HO.out.lt g' e).1)
        have hc3 : w1.heap[w.heap.size + 1 + 1]? = w0.heap[w.heap.size + 1 + 1]? := by
          rw [hgrow.block (w.heap.size + 1 + 1) (by simp; omega) (own_ne HO.out HHr.out (by decide)), Below.heap_alloc _ _ _ (by simp; omega), Below.heap_alloc _ _ _ (by omega), HHr.out, HH.out]
        have hr3 := snoc_step hrow hlt HO.out.1 (u0 := l[d].ctors[m].args[k].data) (u1 := l[d].ctors[m].args[k].index) (by rw [HA.out]) (by rw [HA.out])
        have HO3 := Lib.hid hown'
        clear hown' hgrow hnn hi hz0 hz1 hz2 Y0 Y1 Y2 X1
        go_wp2_with fail
        go_roundw
        case rel => exact ⟨k + 1, by omega, by go_num, _, HO3.out, hr3, hc3, hb3⟩
        case measure => simp [intOf]; omega
    · have he : k = l[d].ctors[m].args.length := by omega
      have HT : Hid (OTys wr (w.heap.size + 1) u7 (argT l[d].ctors[m] ix) (argT l[d].ctors[m] ix).length) := by unfold Hid; rw [HL.out, ← he]; exact ⟨xs, HO.out, hrow⟩
      have HBw : Hid (Below w.heap.size w wr) := HK.out.trans (hb.mono (by omega))
      clear he hrow
      go_wp2_with fail
      go_ret
      exact ⟨_, rfl, HT.out.lower (by omega), HBw.out⟩
end Go.Proofs.Ytakhobhmplneeaa
/-
  The types of the arguments of a constructor: both functions, whole; types that are marked and looked at again. No statement is proved here.
-/
namespace Go.Proofs.Ytakhobhmplneeaa
open Go.RowKit
set_option maxRecDepth 100000
set_option linter.unusedVariables false
theorem mem_ctL {cs : List Ct} {i x : Int} : ∀ n, x ∈ ctL cs i n → ∃ m : Nat, m < n ∧ x = m
  | n + 1, h => by
    have h' : x ∈ ctL cs i n ++ (if fitsB (cs.getD n default).index i then [(n : Int)] else []) := h
    rcases List.mem_append.1 h' with h1 | h1
    · obtain ⟨m, hm, e⟩ := mem_ctL n h1
      exact ⟨m, by omega, e⟩
    · split at h1
      · exact ⟨n, by omega, by simpa using h1⟩
      · simp at h1
theorem mem_ctR {l : List Da} {t : Ty} {x : Int} (h : x ∈ ctR l t) : TyOK l t ∧ ∃ (d m : Nat) (hd : d < l.length), t.data = d ∧ x = m ∧ m < l[d].ctors.length := by
  by_cases ht : TyOK l t
  · refine ⟨ht, ?_⟩
    rcases ty_cases ht with h1 | ⟨d, h1, hd⟩
    · rw [ctR_int h1] at h; simp at h
    · obtain ⟨td, ti⟩ := t
      simp only at h1
      subst h1
      rw [ctR_data ht hd] at h
      obtain ⟨m, hm, e⟩ := mem_ctL _ h
      exact ⟨d, m, hd, rfl, e, hm⟩
  · rw [ctR_no ht] at h; simp at h
theorem args_three {l : List Da} (h : WorldOK l) {d m : Nat} (hd : d < l.length) (hm : m < l[d].ctors.length) : l[d].ctors[m].args.length ≤ 3 := by
  have h1 := h.2.1 d hd hd
  by_cases h3 : l[d].ctors[m].args.length ≤ 3
  · exact h3
  · have h2 := (data_bad (n := l.length) (all_bad hm (ctor_args (n := l.length) h3).symm)).symm
    rw [h1] at h2; cases h2
/-- The types of the arguments of a constructor for a type. -/
noncomputable def agR (l : List Da) (t : Ty) (x : Int) : List Ty := if dec (x ∈ ctR l t) then argT ((l.getD t.data.toNat default).ctors.getD x.toNat default) t.index else []
theorem agR_no {l : List Da} {t : Ty} {x : Int} (h : ¬ x ∈ ctR l t) : agR l t x = [] := by unfold agR; rw [dec_f h]; rfl
theorem agR_yes {l : List Da} {d m : Nat} {i : Int} (h : (m : Int) ∈ ctR l ⟨d, i⟩) (hd : d < l.length) (hm : m < l[d].ctors.length) : agR l ⟨d, i⟩ m = argT l[d].ctors[m] i := by
  have e : l.getD d default = l[d] := by simp [List.getD, List.getElem?_eq_getElem hd]
  have e2 : l[d].ctors.getD m default = l[d].ctors[m] := by simp [List.getD, List.getElem?_eq_getElem hm]
  unfold agR
  rw [dec_t h]
  simp only [if_true, Int.toNat_natCast, e, e2]
theorem agR_len (l : List Da) (t : Ty) (x : Int) : (agR l t x).length ≤ 3 := by
  by_cases h : x ∈ ctR l t
  · obtain ⟨ht, d, m, hd, h1, rfl, hm⟩ := mem_ctR h
    obtain ⟨td, ti⟩ := t
    simp only at h1
    subst h1
    rw [agR_yes h hd hm, argT_len]
    exact args_three ht.1 hd hm
  · rw [agR_no h]; simp
theorem l1Args_all (A : Option Addr) (l : List Da) (cap : Nat) (t : Ty) (x : Int) (w : World) (hr : RDas w w.heap.size A l) (h : x ∈ ctR l t) :
    Calls Try.prog 51 #[.slice A l.length cap, .agg #[.int .i64 t.data, .int .i64 t.index], .int .i64 x] w fun e w' => ∃ v, e = .returned v ∧ OTys w' w.heap.size v (agR l t x) (agR l t x).length ∧ Below w.heap.size w w' := by
  obtain ⟨ht, d, m, hd, h1, rfl, hm⟩ := mem_ctR h
  obtain ⟨td, ti⟩ := t
  simp only at h1
  subst h1
  rw [agR_yes h hd hm]
  exact l1Args_data A l cap d m ti hd hm (args_three ht.1 hd hm) w hr
theorem argTypes_all (A : Option Addr) (l : List Da) (cap : Nat) (t : Ty) (x : Int) (w : World) (hr : RDas w w.heap.size A l) (h : x ∈ ctR l t) :
    Calls Try.prog 60 #[.slice A l.length cap, .agg #[.int .i64 t.data, .int .i64 t.index], .int .i64 x] w fun e w' => ∃ v, e = .returned v ∧ OTys w' w.heap.size v (agR l t x) (agR l t x).length ∧ Below w.heap.size w w' := by
  obtain ⟨ht, d, m, hd, h1, rfl, hm⟩ := mem_ctR h
  obtain ⟨td, ti⟩ := t
  simp only at h1
  subst h1
  rw [agR_yes h hd hm]
  exact argTypes_data A l cap d m ti hd hm (args_three ht.1 hd hm) w hr
end Go.Proofs.Ytakhobhmplneeaa
/-
  The depth that a table of depths gives for a type and for a constructor: the document's functions. No statement is proved here.
-/
namespace Go.Proofs.Ytakhobhmplneeaa
open Go.RowKit
set_option maxRecDepth 100000
set_option linter.unusedVariables false
/-- The place of a data type with an index in a table. -/
def slotN (t : Ty) : Nat := (t.data * 4 + t.index).toNat
/-- The type of numbers, or a data type within n data types with an index for values. -/
def TyIn (n : Nat) (t : Ty) : Prop := t.data = -1 ∨ (0 ≤ t.data ∧ t.data < n ∧ 0 ≤ t.index ∧ t.index ≤ 3)
def dep (T : List Int) (t : Ty) : Int := if t.data = -1 then 1 else T.getD (slotN t) 0
theorem dep_int {T : List Int} {t : Ty} (h : t.data = -1) : dep T t = 1 := if_pos h
theorem dep_data {T : List Int} {t : Ty} (h : ¬ t.data = -1) (hs : slotN t < T.length) : dep T t = T[slotN t] := by
  unfold dep; rw [if_neg h]; simp [List.getD, List.getElem?_eq_getElem hs]
theorem slot_any (d i : Int) (w : World) (h0 : 0 ≤ d) (h1 : d ≤ 1048576) (h2 : 0 ≤ i) (h3 : i ≤ 3) :
    Calls Try.prog 50 #[.agg #[.int .i64 d, .int .i64 i]] w fun e w' => e = .returned (.int .i64 (d * 4 + i)) ∧ Below w.heap.size w w' := by
  have HB : Hid (∀ o : Obj, Below w.heap.size w (w.alloc o)) := fun o => (Below.refl _ _).alloc (Nat.le_refl _) _
  go_enter Try.func50, Try.ntmps50
  go_wp2_with fail
  go_ret
  exact ⟨rfl, HB.out _⟩
theorem depth_any (A : Option Addr) (T : List Int) (cap n : Nat) (t : Ty) (w : World) (hr : RInts w A T) (hn : T.length = n * 4) (hn4 : n ≤ 4) (ht : TyIn n t) :
    Calls Try.prog 32 #[.slice A T.length cap, .agg #[.int .i64 t.data, .int .i64 t.index]] w fun e w' => e = .returned (.int .i64 (dep T t)) ∧ Below w.heap.size w w' := by
  have Hr := Lib.hid hr
  have HN := Lib.hid hn
  clear hr hn
  have HB : Hid (∀ o : Obj, Below w.heap.size w (w.alloc o)) := fun o => (Below.refl _ _).alloc (Nat.le_refl _) _
  by_cases h : t.data = -1
  · have q := ieq_t h
    have H := Lib.hid (dep_int (T := T) h)
    clear h ht
    go_enter Try.func32, Try.ntmps32
    go_wp2_with fail
    go_ret
    exact ⟨ret_i64 H.out.symm, HB.out _⟩
  · obtain ⟨h1, h2, h3, h4⟩ := ht.resolve_left h
    have q := ieq_f h
    have hs : slotN t < T.length := by have := HN.out; unfold slotN; omega
    have H := Lib.hid (dep_data (T := T) h hs)
    have hsI : ((slotN t : Nat) : Int) = t.data * 4 + t.index := by unfold slotN; omega
    have HSI := Lib.hid hsI
    have hsl : (slotN t : Int) < (T.length : Int) := by omega
    clear h ht hsI
    go_enter Try.func32, Try.ntmps32
    go_wp2_with fail
    refine (slot_any _ _ _ h1 (by omega) h3 h4).mono ?_
    rw [← HSI.out]
    rintro e w1 ⟨rfl, hb⟩
    have hb1 := below_one hb
    obtain ⟨b, off, rfl, _, c0⟩ := (Hr.out.at_ hb1).2 (slotN t) hs
    clear hb
    go_wp2_with fail
    go_ret
    exact ⟨ret_i64 H.out.symm, hb1⟩
/-- The greatest depth of the first k arguments. -/
def maxTo (T : List Int) (l : List Ty) : Nat → Int
  | 0 => 0
  | k + 1 => if maxTo T l k < dep T (l.getD k default) then dep T (l.getD k default) else maxTo T l k
noncomputable def mostL (T : List Int) (l : List Ty) : Int := @ite _ (∃ a ∈ l, dep T a = 0) (Classical.propDecidable _) 0 (maxTo T l l.length + 1)
theorem most_no {T : List Int} {l : List Ty} {k : Nat} (hk : k < l.length) (h : dep T l[k] = 0) : 0 = mostL T l := by
  unfold mostL; rw [if_pos ⟨l[k], List.getElem_mem hk, h⟩]
theorem most_yes {T : List Int} {l : List Ty} (h : ∀ j (hj : j < l.length), ¬ dep T l[j] = 0) : maxTo T l l.length + 1 = mostL T l := by
  unfold mostL
  rw [if_neg]
  rintro ⟨a, ha, h0⟩
  obtain ⟨j, hj, rfl⟩ := List.getElem_of_mem ha
  exact h j hj h0
theorem maxTo_succ {T : List Int} {l : List Ty} {k : Nat} (hk : k < l.length) : maxTo T l (k + 1) = if maxTo T l k < dep T l[k] then dep T l[k] else maxTo T l k := by
  show (if maxTo T l k < dep T (l.getD k default) then dep T (l.getD k default) else maxTo T l k) = _
  have e : l.getD k default = l[k] := by simp [List.getD, List.getElem?_eq_getElem hk]
  rw [e]
def Known (T : List Int) (l : List Ty) (k : Nat) : Prop := ∀ j (hj : j < l.length), j < k → ¬ dep T l[j] = 0
theorem Known.zero (T : List Int) (l : List Ty) : Known T l 0 := fun j _ h => absurd h (by omega)
theorem Known.step {T : List Int} {l : List Ty} {k : Nat} (h : Known T l k) (hk : k < l.length) (e : ¬ dep T l[k] = 0) : Known T l (k + 1) := by
  intro j hj hjk
  by_cases e' : j = k
  · subst e'; exact e
  · exact h j hj (by omega)
theorem dep_bd {T : List Int} (hT : ∀ x ∈ T, 0 ≤ x ∧ x ≤ 5000) (t : Ty) : 0 ≤ dep T t ∧ dep T t ≤ 5000 := by
  unfold dep
  by_cases h : t.data = -1
  · rw [if_pos h]; omega
  · rw [if_neg h]
    by_cases hs : slotN t < T.length
    · simp only [List.getD, List.getElem?_eq_getElem hs, Option.getD_some]
      exact hT _ (List.getElem_mem hs)
    · simp [List.getD, List.getElem?_eq_none (Nat.le_of_not_lt hs)]
theorem maxTo_bd {T : List Int} (hT : ∀ x ∈ T, 0 ≤ x ∧ x ≤ 5000) (l : List Ty) : ∀ k, 0 ≤ maxTo T l k ∧ maxTo T l k ≤ 5000
  | 0 => by show 0 ≤ (0 : Int) ∧ (0 : Int) ≤ 5000; omega
  | k + 1 => by
    have h1 := maxTo_bd hT l k
    have h2 := dep_bd hT (l.getD k default)
    show 0 ≤ (if maxTo T l k < dep T (l.getD k default) then dep T (l.getD k default) else maxTo T l k) ∧ (if maxTo T l k < dep T (l.getD k default) then dep T (l.getD k default) else maxTo T l k) ≤ 5000
    split <;> omega
set_option maxHeartbeats 1200000 in
theorem most_any (A0 A : Option Addr) (l : List Da) (T : List Int) (cap0 cap d m : Nat) (ix : Int) (hd : d < l.length) (hm : m < l[d].ctors.length) (h3 : l[d].ctors[m].args.length ≤ 3) (w : World) (hr0 : RDas w w.heap.size A0 l) (hr : RInts w A T) (hn : T.length = l.length * 4) (hn4 : l.length ≤ 4)
    (hT : ∀ x ∈ T, 0 ≤ x ∧ x ≤ 5000) (hin : ∀ a ∈ argT l[d].ctors[m] ix, TyIn l.length a) :
    Calls Try.prog 49 #[.slice A0 l.length cap0, .slice A T.length cap, .agg #[.int .i64 d, .int .i64 ix], .int .i64 m] w fun e w' => e = .returned (.int .i64 (mostL T (argT l[d].ctors[m] ix))) ∧ Below w.heap.size w w' := by
  have Hr := Lib.hid hr
  have HN := Lib.hid hn
  have Hr0 := Lib.hid (hr0.keep (w' := w.alloc (.cells #[.int .i64 d, .int .i64 ix] 25)) (B' := (w.alloc (.cells #[.int .i64 d, .int .i64 ix] 25)).heap.size) (keep_one _) (by simp))
  have HI := Lib.hid hin
  have HT := Lib.hid hT
  clear hr hn hr0 hin hT
  have hLl : (argT l[d].ctors[m] ix).length ≤ 3 := by rw [argT_len]; exact h3
  have hLm : (argT l[d].ctors[m] ix).length ≤ maxLen := by unfold maxLen; omega
  go_enter Try.func49, Try.ntmps49
  go_wp2_with fail
  refine (l1Args_data _ l _ d m ix hd hm h3 _ Hr0.out).mono ?_
  rintro e w1 ⟨v, rfl, ho, hb⟩
  obtain ⟨A1, cap1, rfl, hr1⟩ := ho.form hLm
  have hb1 := below_one hb
  have H1 := Lib.hid hr1
  clear ho hb hr1 Hr0
  generalize hLL : argT l[d].ctors[m] ix = L at *
  have HLL := Lib.hid hLL
  clear hLL
  go_wp2_with fail
  go_loopw [10, 11] (fun q i wr => ∃ k : Nat, k ≤ L.length ∧ i = .int .i64 k ∧ q = .int .i64 (maxTo T L k) ∧ Known T L k ∧ Below w1.heap.size w1 wr) (fun _ i _ => L.length - (intOf i).toNat)
  case atStart => exact ⟨0, by omega, rfl, rfl, Known.zero _ _, Below.refl _ _⟩
  case round =>
    obtain ⟨k, hk, rfl, rfl, hkn, hb⟩ := hrel
    have HB : Hid (Below w.heap.size w wr) := hb1.trans (hb.mono hb1.size)
    have hmb := maxTo_bd HT.out L k
    by_cases hlt : k < L.length
    · obtain ⟨b, off, rfl, _, c0, c1⟩ := (H1.out.below hb (Nat.le_refl _)).2 k hlt
      have hdb := dep_bd HT.out L[k]
      have HTI := Lib.hid (HI.out L[k] (List.getElem_mem hlt))
      have HS := Lib.hid (maxTo_succ (T := T) hlt)
      by_cases h0 : dep T L[k] = 0
      · have q := ieq_t h0
        have HZ := Lib.hid (most_no hlt h0)
        clear h0
        go_wp2_with fail
        refine (depth_any _ _ _ l.length _ _ (Hr.out.at_ HB.out) HN.out hn4 HTI.out).mono ?_
        rintro e w2 ⟨rfl, hb2⟩
        go_wp2_with fail
        go_ret
        exact ⟨ret_i64 (by rw [HLL.out]; exact HZ.out), HB.out.trans (hb2.mono HB.out.size)⟩
      · have q := ieq_f h0
        have HK := Lib.hid (hkn.step hlt h0)
        clear h0 hkn
        by_cases hgt : maxTo T L k < dep T L[k]
        · have HM : Hid (maxTo T L (k + 1) = dep T L[k]) := by unfold Hid; rw [HS.out, if_pos hgt]
          go_wp2_with fail
          refine (depth_any _ _ _ l.length _ _ (Hr.out.at_ HB.out) HN.out hn4 HTI.out).mono ?_
          rintro e w2 ⟨rfl, hb2⟩
          go_wp2_with fail
          go_roundw
          case rel => exact ⟨k + 1, by omega, by go_num, by rw [HM.out], HK.out, hb.trans (hb2.mono hb.size)⟩
          case measure => simp [intOf]; omega
        · have HM : Hid (maxTo T L (k + 1) = maxTo T L k) := by unfold Hid; rw [HS.out, if_neg hgt]
          go_wp2_with fail
          refine (depth_any _ _ _ l.length _ _ (Hr.out.at_ HB.out) HN.out hn4 HTI.out).mono ?_
          rintro e w2 ⟨rfl, hb2⟩
          go_wp2_with fail
          go_roundw
          case rel => exact ⟨k + 1, by omega, by go_num, by rw [HM.out], HK.out, hb.trans (hb2.mono hb.size)⟩
          case measure => simp [intOf]; omega
    · have he : k = L.length := by omega
      have HY : Hid (maxTo T L L.length + 1 = mostL T L) := most_yes (fun j hj => hkn j hj (by omega))
      have HE := Lib.hid he
      clear he hkn
      go_wp2_with fail
      go_ret
      exact ⟨ret_i64 (by rw [HLL.out, ← HY.out, HE.out]), HB.out⟩
end Go.Proofs.Ytakhobhmplneeaa
