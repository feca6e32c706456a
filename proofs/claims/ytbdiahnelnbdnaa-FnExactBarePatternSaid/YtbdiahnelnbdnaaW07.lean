/-
  The program's BarePattern. No statement is proved here.
-/
import Derived.Test.YtbdiahnelnbdnaaW05
import Derived.Test.YtbdiahnelnbdnaaW06
import Derived.Test.YtbdiahnelnbdnaaW00
import Derived.Lib.SmallJoins
namespace Go.Proofs.Ytbdiahnelnbdnaa
open Go.RowKit Go.Sort Go.Deep
set_option maxRecDepth 100000
set_option linter.unusedVariables false
theorem infoLB : (Try.prog.info? 26).map (fun i => (i.zero, i.size, i.bytes)) = some (some (.slice none 0 0), 1, 24) := by kernel_rfl
theorem wp_mapUpdate_kvL {w : World} {ops : Array Oper} {rest : List Oper} {o : Oper} {a : Act} {Q : Exit → Act → World → Prop}
    (hg : o.guard = none) (m x v : Operand) (hop : o.op = Op.mapUpdate 36 m x v) (b : Nat) (S : List Kv) (k : Kv)
    (hm : a.eval m = .map (some b)) (hS : MapKv w b S) (hk : LiesKv w k) (hl : ∀ k' ∈ S, LiesKv w k') (hn : ¬ k ∈ S) (hx : a.eval x = k.v)
    (hK : ∀ w', MapKv w' b (S ++ [k]) → w.grownBy w' (some b) → wpList Try.prog ops Q rest (a.put o.dst undef) w') :
    wpList Try.prog ops Q (o :: rest) a w := by
  refine wpList_plain hg fun K' hK' => ?_
  obtain ⟨w', hrun, r1, r2⟩ := hS.putL hk hl hn (a.eval v)
  unfold Oper.wp
  simp [execOp, hop, hm, hx, hrun, Result.andThen]
  exact hK' _ _ (hK w' r1 r2)
theorem own_shortB {w : World} {base : Nat} {e : TypeId} {size n m c : Nat} {A : Option Addr} {xs : List Value} (h : w.ownsRow base e size (.slice A n c) n xs) (hm : m ≤ n) (h0 : 0 < n) : w.ownsRow base e size (.slice A m c) m (xs.take (m * size)) := by
  rcases h.2 with ⟨_, h'⟩ | ⟨g, cap, cur, h', hb, hgb, hnc, hcm, hcs, htake⟩
  · omega
  · cases h'
    have hmn : m * size ≤ n * size := Nat.mul_le_mul_right _ hm
    refine ⟨by rw [List.length_take, h.1]; omega, .inr ⟨g, c, cur, rfl, hb, hgb, by omega, hcm, hcs, ?_⟩⟩
    rw [← htake, List.take_take, Nat.min_eq_left hmn]
theorem own_readB {w : World} {base : Nat} {e : TypeId} {size n c g : Nat} {xs : List Value} (h : w.ownsRow base e size (.slice (some ⟨g, 0, none⟩) n c) n xs) (i : Nat) (x : Value) (hx : xs[i]? = some x) : w.cell? ⟨g, i, none⟩ = some x := by
  have hi : i < n * size := by have := (List.getElem?_eq_some_iff.1 hx).1; have := h.1; omega
  rcases h.2 with ⟨h', _⟩ | ⟨g', cap, cur, h', hb, hgb, hnc, hcm, hcs, htake⟩
  · cases h'
  · cases h'
    rw [cell_of_blk hgb, ← hx, ← htake, List.getElem?_take_of_lt hi, Array.getElem?_toList]
theorem opr_K : ∀ (l qs : List Pt), qs.length = l.length → (∀ j (h1 : j < l.length) (h2 : j < qs.length), wPs qs[j].kids ≤ wPs l[j].kids) → (qs.map (fun q => wPs q.kids)).sum + l.length ≤ wPs l
  | [], [], _, _ => by simp [wPs]
  | [], _ :: _, h, _ => by simp at h
  | _ :: _, [], h, _ => by simp at h
  | a :: l, q :: qs, h, hj => by
    have h0 := hj 0 (by simp) (by simp)
    have ih := opr_K l qs (by simpa using h) (fun j h1 h2 => by have := hj (j + 1) (by simpa using h1) (by simpa using h2); simpa using this)
    simp only [List.getElem_cons_zero] at h0
    rw [List.map_cons, List.sum_cons, List.length_cons, wPs, wP_kids]; omega
theorem sum_ge_len {α : Type} (f : α → Nat) : ∀ (l : List α), (l.map (fun y => 1 + f y)).sum = l.length + (l.map f).sum
  | [] => rfl
  | a :: l => by rw [List.map_cons, List.sum_cons, List.map_cons, List.sum_cons, sum_ge_len f l, List.length_cons]; omega
def RelW (o bm g0 D M : Nat) (v : Pt) (w0 : World) (nv u : Value) (wr : World) (m : Nat) : Prop := ∃ (N : Nat) (V : List Jt) (S : List Kv) (F : Nat → Prop), nv = .int .i64 N ∧ m = (V.map (fun y => 1 + y.K)).sum ∧ (V.map (fun y => 1 + y.K)).sum ≤ 1 + M ∧ BwB o bm g0 D M v u N V S F w0 wr
set_option maxHeartbeats 16000000 in
theorem bri : BrIP := by
  intro d P D ep v w hv hP hn
  have hd : 0 < d := by cases d with
    | zero => exact hv.elim
    | succ d => exact Nat.succ_pos _
  obtain ⟨i0, hi0, hz0, hz1, hz2⟩ := info_parts infoLB
  have hop := op_any d P D ep v ((w.alloc (.cells #[.int .i64 v.op, .int .i64 v.ctor, .int .i64 v.n, .int .i64 v.m, .int .i64 v.var, .slice D v.kids.length ep] 28)).alloc (.cells #[.int .i64 0, .int .i64 0, .int .i64 0, .int .i64 0, .int .i64 0, .slice none 0 0] 28)) (hv.fr _ (Fr.below (P := fun _ => False) (((Below.refl _ _).alloc (Nat.le_refl _) _).alloc (by simp) _)) (fun _ _ h => h)) (fun b h => by have := hP b h; simp; omega)
  have HOP := Lib.hid hop
  have HP := Lib.hid hP
  have HZ0 : Hid (ZbP ((w.alloc (.cells #[.int .i64 v.op, .int .i64 v.ctor, .int .i64 v.n, .int .i64 v.m, .int .i64 v.var, .slice D v.kids.length ep] 28)).alloc (.cells #[.int .i64 0, .int .i64 0, .int .i64 0, .int .i64 0, .int .i64 0, .slice none 0 0] 28)) (w.heap.size + 1)) := by
    have h := ZbP.new (w.alloc (.cells #[.int .i64 v.op, .int .i64 v.ctor, .int .i64 v.n, .int .i64 v.m, .int .i64 v.var, .slice D v.kids.length ep] 28))
    simp only [World.size_alloc] at h
    exact h
  have hmm := @run_makeMap Try.prog
  clear hop hv hP
  go_enter Try.func7, Try.ntmps7
  go_wp2_with (go_at_call 13; refine HOP.out.mono ?_; rintro e1 w1 ⟨q, E, c, rfl, hbq, hoq, hwq, hb1⟩; have HBQ := Lib.hid hbq; have HOQ := Lib.hid hoq; have HWQ := Lib.hid hwq; have HB1 := Lib.hid hb1; clear hbq hoq hwq hb1)
  clear hmm
  have hsw : w.heap.size + 2 ≤ w1.heap.size := by have := HB1.out.size; simp at this; omega
  obtain ⟨wS, hwS⟩ : ∃ wS, wS = (((w1.alloc (.cells #[.int .i64 q.op, .int .i64 q.ctor, .int .i64 q.n, .int .i64 q.m, .int .i64 q.var, .slice E q.kids.length c] 28)).alloc (.map #[] 0)).alloc (.cells #[.slice (some ⟨w1.heap.size, 0, none⟩) 1 1] 26)) := ⟨_, rfl⟩
  have hs1 : wS.heap.size = w1.heap.size + 3 := by rw [hwS]; simp
  have hs1a : wS.heap.size ≤ w1.heap.size + 3 := Nat.le_of_eq hs1
  have hs1b : w1.heap.size + 3 ≤ wS.heap.size := Nat.le_of_eq hs1.symm
  have hbS : Below w1.heap.size w1 wS := by rw [hwS]; exact (((Below.refl _ _).alloc (Nat.le_refl _) _).alloc (by simp) _).alloc (by simp; omega) _
  have hWX : Below w.heap.size w ((w.alloc (.cells #[.int .i64 v.op, .int .i64 v.ctor, .int .i64 v.n, .int .i64 v.m, .int .i64 v.var, .slice D v.kids.length ep] 28)).alloc (.cells #[.int .i64 0, .int .i64 0, .int .i64 0, .int .i64 0, .int .i64 0, .slice none 0 0] 28)) := ((Below.refl _ _).alloc (Nat.le_refl _) _).alloc (by simp) _
  have HBW : Hid (Below w.heap.size w wS) := hWX.trans ((HB1.out.mono hWX.size).trans (hbS.mono (by omega)))
  have HZ : Hid (ZbP wS (w.heap.size + 1)) := ((HZ0.out.at_ HB1.out).at_ hbS)
  have HR0 : Hid (RelW (w.heap.size + 2) (w1.heap.size + 1) w1.heap.size (d + 1) (wP v) v wS (.int .i64 (0 : Nat)) (.slice (some ⟨w1.heap.size + 1 + 1, 0, none⟩) 1 1) wS (1 + wPs q.kids)) := by
    have hro := (World.ownsRow_lit (base := w.heap.size + 2) (e := 28) (size := 6) w1 #[.int .i64 q.op, .int .i64 q.ctor, .int .i64 q.n, .int .i64 q.m, .int .i64 q.var, .slice E q.kids.length c] 1 (by omega) (by unfold maxLen; omega) rfl).alloc (.map #[] 0)
    have hro2 := hro.alloc (.cells #[.slice (some ⟨w1.heap.size, 0, none⟩) 1 1] 26)
    rw [← hwS] at hro2
    have hrow := World.ownsRow_lit (base := w.heap.size + 2) (e := 26) (size := 1) ((w1.alloc (.cells #[.int .i64 q.op, .int .i64 q.ctor, .int .i64 q.n, .int .i64 q.m, .int .i64 q.var, .slice E q.kids.length c] 28)).alloc (.map #[] 0)) #[.slice (some ⟨w1.heap.size, 0, none⟩) 1 1] 1 (by simp; omega) (by unfold maxLen; omega) rfl
    rw [← hwS] at hrow
    simp only [World.size_alloc] at hrow
    have hmk := MapKv.made (w1.alloc (.cells #[.int .i64 q.op, .int .i64 q.ctor, .int .i64 q.n, .int .i64 q.m, .int .i64 q.var, .slice E q.kids.length c] 28))
    simp only [World.size_alloc] at hmk
    have hmS : MapKv wS (w1.heap.size + 1) [] := by rw [hwS]; exact hmk.keep (Below.heap_alloc _ _ _ (by simp))
    refine ⟨0, [⟨⟨w1.heap.size, d, [v]⟩, [q], fun _ b => P b, P⟩], [], fun _ => False, rfl, by simp [Jt.K], by have h1 := HWQ.out; have h2 := wP_kids v; simp [Jt.K]; omega, Below.refl _ _, hmS, fun k hk => (by cases hk), hrow, fun x hx => ?_, List.pairwise_singleton _ _, ⟨by omega, fun e => by have e : w1.heap.size + 1 + 1 = w1.heap.size + 1 := Option.some.inj e; omega, fun h => h⟩, fun b hb => hb.elim, CompI.start d w1.heap.size [v] wS, ?_⟩
    · rw [List.mem_singleton.1 hx]
      refine ⟨⟨⟨_, hro2, rfl, fun j h1 h2 => ?_⟩, fun k b hk hb => ⟨hb, fun j hj hne => absurd hk (by have : j < 1 := hj; have : k < 1 := hk; omega)⟩, fun b hb => by have := HP.out b hb; omega, Nat.one_pos, by show 1 ≤ 1048576; omega, hd⟩, by show w.heap.size + 2 ≤ w1.heap.size; omega, by show w1.heap.size ≠ w1.heap.size + 1; omega, fun e => by have e : w1.heap.size + 1 + 1 = w1.heap.size := Option.some.inj e; omega, fun h => h⟩
      have hj : j = 0 := by have : j < 1 := h1; omega
      subst hj
      exact ⟨HBQ.out, HWQ.out, E, c, rfl, rfl, rfl, rfl, rfl, rfl, HOQ.out.fr _ (Fr.below (P := fun _ => False) (hbS)) (fun _ _ h => h)⟩
    · have h1 := HWQ.out
      have h2 := wP_kids v
      simp [Jt.K]; omega
  have HWS := Lib.hid hwS
  clear hwS hs1 hbS hWX HBQ HOQ
  rw [← HWS.out]
  go_loopw [5, 6] (fun nv u wr => ∃ m, RelW (w.heap.size + 2) (w1.heap.size + 1) w1.heap.size (d + 1) (wP v) v wS nv u wr m) (fun nv u wr => lstB (RelW (w.heap.size + 2) (w1.heap.size + 1) w1.heap.size (d + 1) (wP v) v wS nv u wr))
  case atStart => exact ⟨_, HR0.out⟩
  case round =>
    clear HR0
    obtain ⟨n0, hn0⟩ := hrel
    obtain ⟨hrl, _⟩ := lstB_spec hn0
    obtain ⟨N, V, S, F, rfl, hmu, hle, HI⟩ := hrl
    have HLEN := Lib.hid hle
    clear hn0
    have HMU := Lib.hid hmu
    have HII := Lib.hid HI
    obtain ⟨AO, cO, rfl, _⟩ := own_form HI.row
    clear hmu HI hle
    rcases List.eq_nil_or_concat V with rfl | ⟨V0, x, hVV⟩
    · have hI : ¬ ((([] : List Jt).length : Nat) : Int) > 0 := by simp
      obtain ⟨g, cs, Q, A', cap, hgE, hFg, _, hh, hQ, e0, e1, e2, e3, e4, e5, hres⟩ := HII.out.comp.done.first (show 0 < (barePs [v]).length from Nat.one_pos)
      cases hgE
      change wr.cell? ⟨w1.heap.size, 0, none⟩ = some (.int .i64 (bareP v).op) at e0
      change wr.cell? ⟨w1.heap.size, 1, none⟩ = some (.int .i64 (bareP v).ctor) at e1
      change wr.cell? ⟨w1.heap.size, 2, none⟩ = some (.int .i64 (bareP v).n) at e2
      change wr.cell? ⟨w1.heap.size, 3, none⟩ = some (.int .i64 (bareP v).m) at e3
      change wr.cell? ⟨w1.heap.size, 4, none⟩ = some (.int .i64 (bareP v).var) at e4
      change wr.cell? ⟨w1.heap.size, 5, none⟩ = some (.slice A' (bareP v).kids.length cap) at e5
      change OPs (d + 1) wr Q A' (bareP v).kids at hres
      have hzr : wr.heap[w.heap.size + 1]? = some (.cells #[.int .i64 0, .int .i64 0, .int .i64 0, .int .i64 0, .int .i64 0, .slice none 0 0] 28 (0, 0)) := (HII.out.below.block (w.heap.size + 1) (by omega)).trans HZ.out
      have f0 := frozen_of_row wr (w.heap.size + 1) 0 _ 28 hzr
      have f1 := frozen_of_row wr (w.heap.size + 1) 1 _ 28 hzr
      have f2 := frozen_of_row wr (w.heap.size + 1) 2 _ 28 hzr
      have f3 := frozen_of_row wr (w.heap.size + 1) 3 _ 28 hzr
      have f4 := frozen_of_row wr (w.heap.size + 1) 4 _ 28 hzr
      have f5 := frozen_of_row wr (w.heap.size + 1) 5 _ 28 hzr
      have r0 := (cell_of_blk hzr 0).trans rfl
      have r1 := (cell_of_blk hzr 1).trans rfl
      have r2 := (cell_of_blk hzr 2).trans rfl
      have r3 := (cell_of_blk hzr 3).trans rfl
      have r4 := (cell_of_blk hzr 4).trans rfl
      have r5 := (cell_of_blk hzr 5).trans rfl
      have HRES := Lib.hid hres
      have HZR := Lib.hid hzr
      have HFQ := Lib.hid hQ
      have hbwr : Below w.heap.size w wr := HBW.out.trans (HII.out.below.mono (by omega))
      have HFIN := Lib.hid HII.out.fin
      clear hh hQ hres hzr
      go_wp2_with fail
      refine bodyPost_ret (v := .agg #[.int .i64 (bareP v).op, .int .i64 (bareP v).ctor, .int .i64 (bareP v).n, .int .i64 (bareP v).m, .int .i64 (bareP v).var, .slice A' (bareP v).kids.length cap]) (by simp [results, Try.results7, go_sem, r0, r1, r2, r3, r4, r5]) rfl ⟨A', cap, rfl, ?_, ?_⟩
      · exact (HRES.out.fr _ (heap_set6 HZR.out _ _ _ _ _ _).2 (fun b hb e => by have := (HFIN.out b (HFQ.out b hb).1).1; have e : b = w.heap.size + 1 := e; omega)).wide _ (fun b hb => ⟨by have := (HFIN.out b (HFQ.out b hb).1).1; omega, by have h2 := (HFIN.out b (HFQ.out b hb).1).2.1; simpa [World.setCell] using h2⟩)
      · refine Below.setCell (Below.setCell (Below.setCell (Below.setCell (Below.setCell (Below.setCell hbwr ?_ _) ?_ _) ?_ _) ?_ _) ?_ _) ?_ _ <;> (simp <;> omega)
    · rw [List.concat_eq_append] at hVV
      subst hVV
      have hVl : (V0 ++ [x]).length = V0.length + 1 := by simp
      have hrow := HII.out.row
      rw [hVl] at hrow HMU
      rw [hVl]
      obtain ⟨gO, rfl⟩ : ∃ gO, AO = some ⟨gO, 0, none⟩ := by
        rcases hrow.2 with ⟨h', h0⟩ | ⟨g, cap, cur, h', _⟩
        · omega
        · cases h'; exact ⟨g, rfl⟩
      have hI : ((V0.length + 1 : Nat) : Int) > 0 := by omega
      have hsub : (((V0.length + 1 : Nat) : Int) - 1) = (V0.length : Int) := by omega
      have hcl : wr.cell? ⟨gO, V0.length, none⟩ = some (.slice (some ⟨x.it.g, 0, none⟩) x.it.l.length x.it.l.length) := own_readB hrow V0.length x.v (by simp)
      have hcap : V0.length + 1 ≤ cO ∧ cO ≤ 9223372036854775807 := by
        rcases hrow.2 with ⟨h', _⟩ | ⟨g, cap, cur, h', hb, hgb, hnc, hcm, hcs, htake⟩
        · cases h'
        · cases h'; exact ⟨hnc, hcm⟩
      have hc1 := hcap.1
      have hc2 := hcap.2
      have HR1 : Hid (wr.ownsRow (w.heap.size + 2) 26 1 (.slice (some ⟨gO, 0, none⟩) V0.length cO) V0.length (V0.map Jt.v)) := by
        have h := own_shortB hrow (m := V0.length) (by omega) (by omega)
        have e : ((V0 ++ [x]).map Jt.v).take (V0.length * 1) = V0.map Jt.v := by rw [List.map_append, Nat.mul_one, List.take_left' (by rw [List.length_map])]
        rw [e] at h; exact h
      have HC0 := Lib.hid (HII.out.take (u' := .slice (some ⟨gO, 0, none⟩) V0.length cO) (.inl rfl) HR1.out)
      clear hrow hcap
      go_wp2_with fail
      have hwo : ∃ wo, wo = wr := ⟨_, rfl⟩
      obtain ⟨wo, rfl⟩ := hwo
      clear hcl
      go_loopw [5, 6, 35] (fun nv u i wq => ∃ (k N' : Nat) (V1 : List Jt) (gc : Nat → Nat) (S' : List Kv), k ≤ x.it.l.length ∧ i = .int .i64 k ∧ nv = .int .i64 N' ∧ Hid (BwC (w.heap.size + 2) (w1.heap.size + 1) w1.heap.size (d + 1) (wP v) v u N' x k V0 V1 gc S' F wS wq)) (fun _ _ i _ => x.it.l.length - (intOf i).toNat)
      case atStart => exact ⟨0, N, [], _, S, Nat.zero_le _, rfl, rfl, HC0.out⟩
      case round =>
        obtain ⟨k, N', V1, gc, S', hk, rfl, rfl, HC⟩ := hrel
        obtain ⟨xs, hown, hX⟩ := HC.out.xrow
        obtain ⟨AU, cU, rfl, hob⟩ := own_form HC.out.row
        have hown : wr.ownsRow (w.heap.size + 2) 28 6 (.slice (some ⟨x.it.g, 0, none⟩) x.it.l.length x.it.l.length) x.it.l.length xs := hown
        have HOWN := Lib.hid hown
        have HX := Lib.hid hX
        have HOB := Lib.hid hob
        have hql := hX.1
        have hxl : xs.length = x.it.l.length * 6 := hown.1
        have hxlt : x.it.g < wr.heap.size := own_lt hown
        have hmlt : w1.heap.size + 1 < wr.heap.size := HC.out.map.lt
        have hxo := HC.out.xg.1
        have hL : x.it.l.length ≤ 1048576 := HC.out.sets.2.2.2.1
        have hxb := HC.out.xg.2.1
        have hxu : Hid ((Value.slice AU (V0.length + V1.length) cU).ownBlock ≠ some x.it.g) := by have h := HC.out.xg.2.2.1; rw [List.length_append] at h; exact h
        by_cases hlt : k < x.it.l.length
        · have hkI : (k : Int) < (x.it.l.length : Int) := by omega
          have hq : k < x.qs.length := by omega
          obtain ⟨e0, e1, e2, e3, e4, A, cp, e5, _, hO⟩ := hX.2.2 k hq
          have hO := hO (Nat.le_refl _)
          have c0 := own_readB hown _ _ e0
          have c1 := own_readB hown _ _ e1
          have c2 := own_readB hown _ _ e2
          have c3 := own_readB hown _ _ e3
          have c4 := own_readB hown _ _ e4
          have c5 := own_readB hown _ _ e5
          have HW9 : Hid (N' + wPs x.qs[k].kids ≤ wP v) := by have h := HC.out.weight; rw [drop_wP x.qs k hq] at h; unfold Hid; omega
          have HBB : Hid (Below wr.heap.size wr (wr.alloc (.cells #[.int .i64 x.qs[k].op, .int .i64 x.qs[k].ctor, .int .i64 x.qs[k].n, .int .i64 x.qs[k].m, .int .i64 x.qs[k].var, .slice A x.qs[k].kids.length cp] 28))) := (Below.refl _ _).alloc (Nat.le_refl _) _
          have HO := Lib.hid hO
          clear hown hX hob e0 e1 e2 e3 e4 e5 hO
          by_cases h0 : 0 < x.qs[k].kids.length
          · have hnI : (x.qs[k].kids.length : Int) > 0 := by omega
            obtain ⟨d', hdd, hml, hpp⟩ := HO.out.parts
            obtain ⟨gE, csE, QE, rfl, hgE, hhE, _⟩ := hpp h0
            have hHE : Hid (wr.heap[gE]? = some (.cells csE 28 (0, 0))) := hhE
            have HGE := Lib.hid hgE
            have HDD := Lib.hid hdd
            have hws := wPs_sum x.qs[k].kids
            have hnM : N' + x.qs[k].kids.length ≤ 1048576 := by have := HW9.out; omega
            have hQo : ∀ b, x.Q k b → b < w.heap.size + 2 := fun b hb => HC.out.sets.2.1 b (HC.out.sets.1 k b hlt hb).1
            have HQO := Lib.hid hQo
            have HVV : Hid ((V0 ++ V1).length ≤ 2097152) := by
              have h1 := HLEN.out
              have h2 := HC.out.small
              have h3 : x.K = ((x.qs.take k).map (fun q => wPs q.kids)).sum + ((x.qs.drop k).map (fun q => wPs q.kids)).sum := by unfold Jt.K; rw [← List.sum_append, ← List.map_append, List.take_append_drop]
              rw [List.map_append, List.sum_append] at h1
              have h4 := sum_ge_len Jt.K V0
              have h5 := sum_ge_len Jt.K V1
              have h6 : ([x].map (fun y => 1 + y.K)).sum = 1 + x.K := by simp
              unfold Hid
              rw [List.length_append]; omega
            have HKN : Hid (∀ W, Calls Try.prog 14 #[.slice (some ⟨gE, 0, none⟩) x.qs[k].kids.length cp] W fun e w' => e = .returned (.agg #[.pointer (some ⟨gE, 0, none⟩), .int .i64 x.qs[k].kids.length]) ∧ Below W.heap.size W w') := fun W => keyOfP_any gE x.qs[k].kids.length cp W hml h0
            have HNS : Hid (¬ (Kv.mk (some ⟨gE, 0, none⟩) x.qs[k].kids.length) ∈ S') := fun h => by
              obtain ⟨_, g, hg, _, _, h2⟩ := HC.out.keys _ h
              cases hg
              exact h2 k (Nat.le_refl _) hlt HGE.out
            have HLE : Hid (∀ W, Below wr.heap.size wr W → LiesKv W (Kv.mk (some ⟨gE, 0, none⟩) x.qs[k].kids.length)) := fun W h y hy => by cases hy; exact ⟨_, _, (h.block _ (heap_lt hHE.out)).trans hHE.out⟩
            have HOS : Hid (∀ W, Below wr.heap.size wr W → Calls Try.prog 15 #[.slice (some ⟨gE, 0, none⟩) x.qs[k].kids.length cp] W (OpsQ d' (x.Q k) (some ⟨gE, 0, none⟩) x.qs[k].kids W)) := fun W h => ops_any d' (x.Q k) _ x.qs[k].kids cp W (by rw [← HDD.out]; exact HO.out.fr _ (Fr.below (P := fun _ => False) h) (fun _ _ h => h)) (fun b hb => by have := HQO.out b hb; have := h.size; omega) h0 (by omega)
            clear hhE hgE hdd hpp hws hQo hml
            go_wp2_with (first | (go_at_call 14; refine (HKN.out _).mono ?_; rintro e1 w2 ⟨rfl, hb2⟩; have HBZ : Hid (Below wr.heap.size wr (w2.alloc (.cells #[.pointer (some ⟨gE, 0, none⟩), .int .i64 x.qs[k].kids.length] 40))) := ((HBB.out.trans (hb2.mono HBB.out.size)).alloc (Nat.le_trans HBB.out.size hb2.size) _); have hlook : (Instr.lookup 36 (.map (some (w1.heap.size + 1))) (.agg #[.pointer (some ⟨gE, 0, none⟩), .int .i64 x.qs[k].kids.length]) true).run Try.prog (w2.alloc (.cells #[.pointer (some ⟨gE, 0, none⟩), .int .i64 x.qs[k].kids.length] 40)) = .ok (.tuple #[.slice none 0 0, .bool false]) (w2.alloc (.cells #[.pointer (some ⟨gE, 0, none⟩), .int .i64 x.qs[k].kids.length] 40)) := (HC.out.map.at_ HBZ.out).lookL (k := Kv.mk (some ⟨gE, 0, none⟩) x.qs[k].kids.length) (HLE.out _ HBZ.out) (fun k hk => (HC.out.keys k hk).1.at_ HBZ.out) HNS.out; have y5 : w2.cell? ⟨wr.heap.size, 5, none⟩ = some (.slice (some ⟨gE, 0, none⟩) x.qs[k].kids.length cp) := (hb2.cell (p := ⟨wr.heap.size, 5, none⟩) (by show wr.heap.size < _; simp)).trans ((cell_of_blk (heap_alloc_new wr _) 5).trans rfl); have y5z : World.cell? (w2.alloc (.cells #[.pointer (some ⟨gE, 0, none⟩), .int .i64 x.qs[k].kids.length] 40)) ⟨wr.heap.size, 5, none⟩ = some (.slice (some ⟨gE, 0, none⟩) x.qs[k].kids.length cp) := (World.cell?_alloc_lt _ _ _ (Go.block_lt_of_cell y5)).trans y5; have HB2 := Lib.hid hb2.size; clear hb2) | (go_at_call 15; refine (HOS.out _ HBZ.out).mono ?_; rintro e3 w3 ⟨rfl, hb3, qs3, Q3, xs3, ho3, hr3, hQ3⟩; have HB3 : Hid (Below wr.heap.size wr w3) := HBZ.out.trans (hb3.mono HBZ.out.size); have p0 : w3.cell? ⟨w2.heap.size, 0, none⟩ = some (.pointer (some ⟨gE, 0, none⟩)) := (hb3.cell (p := ⟨w2.heap.size, 0, none⟩) (by show w2.heap.size < _; simp)).trans ((cell_of_blk (heap_alloc_new w2 _) 0).trans rfl); have p1 : w3.cell? ⟨w2.heap.size, 1, none⟩ = some (.int .i64 x.qs[k].kids.length) := (hb3.cell (p := ⟨w2.heap.size, 1, none⟩) (by show w2.heap.size < _; simp)).trans ((cell_of_blk (heap_alloc_new w2 _) 1).trans rfl); have hs3 := hb3.size; have HO3 := Lib.hid ho3; have HR3 := Lib.hid hr3; have HQ3 := Lib.hid hQ3; clear hb3 ho3 hr3 hQ3) | (at_mapUpdate; (with_reducible refine wp_mapUpdate_kvL rfl _ _ _ rfl (w1.heap.size + 1) S' (Kv.mk (some ⟨gE, 0, none⟩) x.qs[k].kids.length) rfl (HC.out.map.at_ HB3.out) (HLE.out _ HB3.out) (fun k hk => (HC.out.keys k hk).1.at_ HB3.out) HNS.out rfl ?_); intro w4 hm4 hg4; have HM4 := Lib.hid hm4; have HG4 := Lib.hid hg4; have hs4 := hg4.size; have HOWL : Hid (((w4.alloc (.cells #[.slice (some ⟨w2.heap.size + 1, 0, none⟩) x.qs[k].kids.length x.qs[k].kids.length] 26))).ownsRow (w.heap.size + 2) 26 1 (.slice AU (V0.length + V1.length) cU) (V0.length + V1.length) ((V0 ++ V1).map Jt.v)) := (by have h := (own_at HC.out.row (fun b e => (hg4.block b (Nat.lt_of_lt_of_le (HOB.out b e).2 HB3.out.size) (fun e' => HC.out.bmi.2.1 (by rw [Option.some.inj e'] at e; exact e))).trans (HB3.out.block b (HOB.out b e).2))).alloc (.cells #[.slice (some ⟨w2.heap.size + 1, 0, none⟩) x.qs[k].kids.length x.qs[k].kids.length] 26); rw [List.length_append] at h; exact h); have HC1 := Lib.hid (cell_one_new w4 (.slice (some ⟨w2.heap.size + 1, 0, none⟩) x.qs[k].kids.length x.qs[k].kids.length) 26); have HC2 : Hid (∀ u ∈ [Value.slice (some ⟨w2.heap.size + 1, 0, none⟩) x.qs[k].kids.length x.qs[k].kids.length], u.oneCell' = true) := (by intro u hu; rw [List.mem_singleton.1 hu]; rfl); have HC3 : Hid (V0.length + V1.length + 1 ≤ maxLen) := (by have := HVV.out; rw [List.length_append] at this; unfold Hid maxLen; omega); have HC4 : Hid ((V0.length + V1.length + 1) * 24 ≤ 140737488355328) := (by have := HVV.out; rw [List.length_append] at this; unfold Hid; omega); have HC5 : Hid (w.heap.size + 2 ≤ ((w4.alloc (.cells #[.slice (some ⟨w2.heap.size + 1, 0, none⟩) x.qs[k].kids.length x.qs[k].kids.length] 26))).heap.size) := (by have := HB3.out.size; unfold Hid; rw [World.size_alloc]; omega); clear hm4 hg4) | (at_builtin; refine wpList_append_own_at _ rfl _ _ 37 rfl (w.heap.size + 2) 26 i0 _ 1 24 Try.underlying37 hi0 hz0 hz1 hz2 rfl (by decide) (.slice AU (V0.length + V1.length) cU) (V0.length + V1.length) _ rfl HOWL.out ⟨w4.heap.size, 0, none⟩ 1 1 [.slice (some ⟨w2.heap.size + 1, 0, none⟩) x.qs[k].kids.length x.qs[k].kids.length] rfl rfl HC1.out HC2.out HC3.out HC4.out HC5.out ?_; intro v5 w5 hown5 hgr5 hnn5 hat5; have HOW5 := Lib.hid hown5; have HGR5 := Lib.hid hgr5; have HAT5 := Lib.hid hat5; have hx5g : w5.heap[x.it.g]? = wr.heap[x.it.g]? := (HGR5.out.block x.it.g (by have := HB3.out.size; rw [World.size_alloc]; omega) (fun e => hxu.out e.symm)).trans ((Below.heap_alloc _ _ _ (by have := HB3.out.size; omega)).trans ((HG4.out.block x.it.g (by have := HB3.out.size; omega) (fun e => hxb (Option.some.inj e))).trans (HB3.out.block x.it.g hxlt))); have hownz : w5.ownsRow (w.heap.size + 2) 28 6 (.slice (some ⟨x.it.g, 0, none⟩) x.it.l.length x.it.l.length) x.it.l.length xs := own_at HOWN.out (fun b e => by have e : x.it.g = b := Option.some.inj e; rw [← e]; exact hx5g); have HOWZ := Lib.hid hownz; obtain ⟨v6, f6⟩ := own_cell hownz (k * 6 + 5) (by omega); have g6 := hownz.frozenAt (k * 6 + 5); clear hown5 hgr5 hat5 hnn5 hx5g hownz))
            obtain ⟨w6, hw6⟩ : ∃ w6, w6 = w5.setCell ⟨x.it.g, k * 6 + 5, none⟩ (.slice (some ⟨w2.heap.size + 1, 0, none⟩) x.qs[k].kids.length x.qs[k].kids.length) := ⟨_, rfl⟩
            rw [← hw6]
            have hueq : (Value.slice AU (V0.length + V1.length) cU).ownBlock = (Value.slice AU (V0 ++ V1).length cU).ownBlock := by rw [List.length_append]
            have h65 : Fr (fun b => b = x.it.g) w5 w6 := by rw [hw6]; exact Fr.set _ _ _ _ rfl
            have hf4 : Fr (fun b => b = w1.heap.size + 1 ∨ (Value.slice AU (V0 ++ V1).length cU).ownBlock = some b ∨ b = x.it.g) w4 w6 := ((Fr.below ((Below.refl _ w4).alloc (Nat.le_refl _) _)).trans (Fr.grown HGR5.out (fun b e => .inr (.inl (by rw [← hueq]; exact e.symm))))).trans (h65.wide (fun b e => .inr (.inr e)))
            have hf3 : Fr (fun b => b = w1.heap.size + 1 ∨ (Value.slice AU (V0 ++ V1).length cU).ownBlock = some b ∨ b = x.it.g) w3 w6 := (Fr.grown HG4.out (fun b e => .inl (by first | exact e | exact Option.some.inj e))).trans hf4
            have hf : Fr (fun b => b = w1.heap.size + 1 ∨ (Value.slice AU (V0 ++ V1).length cU).ownBlock = some b ∨ b = x.it.g) wr w6 := (Fr.below HB3.out).trans hf3
            have hPo : ∀ b, (b = w1.heap.size + 1 ∨ (Value.slice AU (V0 ++ V1).length cU).ownBlock = some b ∨ b = x.it.g) → w.heap.size + 2 ≤ b ∧ b < wr.heap.size := fun b hb => by
              rcases hb with e | e | e
              · have := HC.out.bmi.1; omega
              · exact HOB.out b e
              · omega
            have hs2 : wr.heap.size + 1 ≤ w2.heap.size := by have := HB2.out; rw [World.size_alloc] at this; exact this
            have ho3 := HO3.out
            rw [World.size_alloc] at ho3
            have hlt3 : w2.heap.size + 1 < w3.heap.size := own_lt ho3
            have ho3' : w3.ownsRow (w.heap.size + 2) 28 6 (.slice (some ⟨w2.heap.size + 1, 0, none⟩) x.qs[k].kids.length x.qs[k].kids.length) x.qs[k].kids.length xs3 := ⟨ho3.1, ho3.2.imp id (fun ⟨g, cap, cur, a1, a2, a3⟩ => ⟨g, cap, cur, a1, by omega, a3⟩)⟩
            have hd3 : 0 < d' := by
              have hq3 := HR3.out.1
              obtain ⟨_, _, _, _, _, _, _, _, _, _, ho⟩ := HR3.out.2 0 h0 (by omega)
              cases d' with
              | zero => exact ho.elim
              | succ d' => exact Nat.succ_pos _
            have hm6 : MapKv w6 (w1.heap.size + 1) (S' ++ [Kv.mk (some ⟨gE, 0, none⟩) x.qs[k].kids.length]) := HM4.out.keep ((h65.2.2.2.2 _ (Nat.lt_of_lt_of_le HM4.out.lt (by have := HGR5.out.size; rw [World.size_alloc] at this; omega)) (fun e => hxb e.symm)).trans ((HGR5.out.block _ (by have := HM4.out.lt; rw [World.size_alloc]; omega) (fun e => HC.out.bmi.2.1 (by rw [← hueq]; exact e.symm))).trans (Below.heap_alloc _ _ _ HM4.out.lt)))
            have hPU := BwC.push (c := ⟨⟨w2.heap.size + 1, d', x.qs[k].kids⟩, qs3, Q3, fun b => x.Q k b ∧ b ≠ gE⟩) (u' := v5) (cp := x.qs[k].kids.length) HC.out hq h0 hf hm6 HGE.out (fun y hy => by cases hy; exact ⟨_, _, hf.block hHE.out (fun e => by have := (hPo gE e).1; have := HQO.out gE HGE.out; omega)⟩)
              ⟨⟨xs3, own_at ho3' (fun b e => hf3.2.2.2.2 b (by have e : w2.heap.size + 1 = b := Option.some.inj e; omega) (fun e' => by have := (hPo b e').2; have e : w2.heap.size + 1 = b := Option.some.inj e; omega)), HR3.out.fr hf3 (fun j b hj hb e' => by have := (hPo b e').1; have := HQO.out b (HQ3.out j b hj hb).1; omega)⟩, fun j b hj hb => ⟨⟨(HQ3.out j b hj hb).1, fun e => (HQ3.out j b hj hb).2.1 (by rw [e])⟩, (HQ3.out j b hj hb).2.2⟩, fun b hb => HQO.out b hb.1, h0, (by show x.qs[k].kids.length ≤ 1048576; omega), hd3⟩
              (by show wr.heap.size ≤ w2.heap.size + 1; omega) rfl HDD.out.symm (fun b h => h) (opr_K _ _ HR3.out.1 (fun j h1 h2 => (HR3.out.2 j h1 h2).2.1))
              (by
                have h := HOW5.out
                rw [List.length_append]
                refine own_at h (fun b e => h65.2.2.2.2 b (by obtain ⟨_, _, ev, hl⟩ := own_form h; exact (hl b e).2) (fun e' => ?_))
                have e' : b = x.it.g := e'
                rcases HAT5.out with h1 | h1
                · rw [h1] at e; exact hxu.out (by rw [← e']; exact e)
                · rw [h1] at e
                  have e : (w4.alloc (.cells #[.slice (some ⟨w2.heap.size + 1, 0, none⟩) x.qs[k].kids.length x.qs[k].kids.length] 26)).heap.size = b := Option.some.inj e
                  rw [World.size_alloc] at e
                  have := HB3.out.size; omega)
              (HAT5.out.imp (fun h => h.trans hueq) (fun h => ⟨_, h, by rw [World.size_alloc]; have := HB3.out.size; omega, by rw [World.size_alloc]; show w4.heap.size + 1 ≠ w2.heap.size + 1; omega⟩))
              HX.out (by rw [hw6]; exact (HOWZ.out.stored (k * 6 + 5) _).1)
            have HPU := Lib.hid hPU
            clear hPU hf hf3 hf4 h65 hPo hm6 ho3 ho3'
            go_roundw
            case rel => exact ⟨k + 1, N' + x.qs[k].kids.length, _, _, _, by omega, by go_num, by simp, HPU.out⟩
            case measure => simp [intOf]; omega
          · have HKN : Hid (∀ W, Calls Try.prog 14 #[.slice A x.qs[k].kids.length cp] W fun e w' => e = .returned (.agg #[.pointer none, .int .i64 0]) ∧ Below W.heap.size W w') := fun W => by rw [show x.qs[k].kids.length = 0 by omega]; exact keyOfP_nil A cp W
            have HNS : Hid (¬ (Kv.mk none 0) ∈ S') := fun h => by obtain ⟨_, g, hg, _⟩ := HC.out.keys _ h; cases hg
            go_wp2_with (go_at_call 14; refine (HKN.out _).mono ?_; rintro e1 w2 ⟨rfl, hb2⟩; have HBZ : Hid (Below wr.heap.size wr (w2.alloc (.cells #[.pointer none, .int .i64 0] 40))) := ((HBB.out.trans (hb2.mono HBB.out.size)).alloc (Nat.le_trans HBB.out.size hb2.size) _); have hlook : (Instr.lookup 36 (.map (some (w1.heap.size + 1))) (.agg #[.pointer none, .int .i64 0]) true).run Try.prog (w2.alloc (.cells #[.pointer none, .int .i64 0] 40)) = .ok (.tuple #[.slice none 0 0, .bool false]) (w2.alloc (.cells #[.pointer none, .int .i64 0] 40)) := (HC.out.map.at_ HBZ.out).lookL (k := Kv.mk none 0) (fun _ h => by cases h) (fun k hk => (HC.out.keys k hk).1.at_ HBZ.out) HNS.out; have hownz := own_below HOWN.out HBZ.out; have HOWZ := Lib.hid hownz; obtain ⟨v5, f5⟩ := own_cell hownz (k * 6 + 5) (by omega); have g5 := hownz.frozenAt (k * 6 + 5); clear hb2 hownz)
            have HSK : Hid (BwC (w.heap.size + 2) (w1.heap.size + 1) w1.heap.size (d + 1) (wP v) v (.slice AU (V0.length + V1.length) cU) N' x (k + 1) V0 V1 gc S' F wS ((w2.alloc (.cells #[.pointer none, .int .i64 0] 40)).setCell ⟨x.it.g, k * 6 + 5, none⟩ (.slice none 0 0))) := by
              have h := HC.out.skip hq h0 ((Fr.below HBZ.out).trans (Fr.set _ _ _ _ rfl)) HX.out (HOWZ.out.stored (k * 6 + 5) (.slice none 0 0)).1
              rw [List.length_append] at h; exact h
            go_roundw
            case rel => exact ⟨k + 1, N', V1, gc, S', by omega, by go_num, rfl, HSK.out⟩
            case measure => simp [intOf]; omega
        · have hkI : ¬ (k : Int) < (x.it.l.length : Int) := by omega
          obtain ⟨hend, hms⟩ := HC.out.end_ (by omega)
          have HEN : Hid (RelW (w.heap.size + 2) (w1.heap.size + 1) w1.heap.size (d + 1) (wP v) v wS (.int .i64 N') (.slice AU (V0 ++ V1).length cU) wr ((V0 ++ V1).map (fun y => 1 + y.K)).sum) := ⟨N', V0 ++ V1, S', _, rfl, rfl, Nat.le_trans (Nat.le_of_lt hms) HLEN.out, hend⟩
          have HMS := Lib.hid hms
          clear hend hms
          go_wp2_with fail
          go_roundw
          case rel => exact ⟨_, HEN.out⟩
          case measure =>
            rw [HMU.out]
            exact Nat.lt_of_le_of_lt ((lstB_spec HEN.out).2 _ HEN.out) HMS.out
end Go.Proofs.Ytbdiahnelnbdnaa
/-
  What an argument that is a value reads as. No statement is proved here.
-/
namespace Go.Proofs.Ytbdiahnelnbdnaa
open Go.RowKit Go.Deep
open Go.ChangeShapes Go.WideShapes
set_option maxRecDepth 100000
set_option linter.unusedVariables false
section
variable {H : Type} {enc : TypeId × Value → H} {w : World} {spare : Nat → Bool} {held : Bool}
theorem field_atn {e : TypeId} {fs : Array Field} {fuel : Nat} {cs : List Value} {x : DataW H × List MemPlace} (he : Try.prog.underlying e = some (.struct fs)) (hone : oneCellFields Try.prog fs = true) (hlen : cs.length = fs.size)
    (h : DataW.trod enc Try.prog w 0 spare held fuel e cs = some x) :
    ∃ m, fuel = m + 1 ∧ ∀ (j : Nat) (f : Field), fs[j]? = some f → ∃ v y, cs[j]? = some v ∧ DataW.trod enc Try.prog w 0 spare held m f.type [v] = some y := by
  obtain ⟨ys, m, hfu, _, _, hyl, hf⟩ := DataW.trod_struct he h
  refine ⟨m, hfu, fun j f hj => ?_⟩
  obtain ⟨ho, hk⟩ := hone_of hone j f hj
  have hjl : j < fs.size := (Array.getElem?_eq_some_iff.1 hj).1
  have h1 := hf j f hj
  rw [ho, hk] at h1
  have hd : (cs.drop j).take 1 = [cs[j]'(by omega)] := by
    rw [List.drop_eq_getElem_cons (by omega)]; rfl
  rw [hd, List.getElem?_eq_getElem (by omega)] at h1
  exact ⟨_, _, List.getElem?_eq_getElem (by omega), h1⟩
theorem deep_all {P : Nat → Nat → Prop} (hup : ∀ i d d', d ≤ d' → P i d → P i d') : ∀ n, (∀ i, i < n → ∃ d, P i d) → ∃ D, ∀ i, i < n → P i D
  | 0, _ => ⟨0, fun i h => absurd h (Nat.not_lt_zero _)⟩
  | n + 1, h => by
    obtain ⟨D, hD⟩ := deep_all hup n (fun i hi => h i (by omega))
    obtain ⟨d, hd⟩ := h n (by omega)
    refine ⟨max D d, fun i hi => ?_⟩
    by_cases e : i = n
    · subst e; exact hup _ _ _ (Nat.le_max_right _ _) hd
    · exact hup _ _ _ (Nat.le_max_left _ _) (hD i (by omega))
end
end Go.Proofs.Ytbdiahnelnbdnaa
