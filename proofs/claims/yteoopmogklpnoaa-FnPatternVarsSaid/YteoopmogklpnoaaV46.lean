/-
  The library's Insert of one list in front of none or of one. No statement is proved here.
-/
import Derived.Test.YteoopmogklpnoaaV45
import Derived.Test.YteoopmogklpnoaaV37
import Derived.Test.YteoopmogklpnoaaV28
import Derived.Laws.CopyOwn
import Derived.StillTailTactics
namespace Go.Proofs.Yteoopmogklpnoaa
open Go.RowKit Go.Sort Go.Deep
set_option maxRecDepth 100000
set_option linter.unusedVariables false
theorem cell_1_new (w : World) (x : Value) (b : Nat) (h : w.cell? ⟨b, 0, none⟩ = some x) : ∀ j u, [x][j]? = some u → w.cell? ((⟨b, 0, none⟩ : Addr).add j) = some u := by
  intro j u hj
  match j, hj with
  | 0, hj => simp at hj; subst hj; simpa [Addr.add] using h
theorem one_of (x : Value) (h : x.oneCell' = true) : ∀ u ∈ [x], u.oneCell' = true := by
  intro u hu
  rw [List.mem_singleton.1 hu]; exact h
set_option maxHeartbeats 800000 in
theorem insert_0 (base g b : Nat) (A : Option Addr) (n c : Nat) (w : World) (ho : w.ownsRow base 53 1 (.slice (some ⟨g, 0, none⟩) 0 0) 0 []) (hbase : base ≤ w.heap.size) (hx : w.cell? ⟨b, 0, none⟩ = some (.slice A n c)) :
    Calls Try.prog 126 #[.slice (some ⟨g, 0, none⟩) 0 0, .int .i64 0, .slice (some ⟨b, 0, none⟩) 1 1] w fun e w' => ∃ v, e = .returned v ∧ w'.ownsRow base 53 1 v 1 [.slice A n c] ∧ w.grownBy w' (some g) := by
  obtain ⟨i0, hi, hz0, hz1, hz2⟩ := info_parts infoVs
  have HO := Lib.hid ho
  have HX := Lib.hid (cell_1_new w _ b hx)
  have H1 := Lib.hid (one_of (.slice A n c) rfl)
  clear ho hx
  go_enter Try.func126, Try.ntmps126
  go_wp2_with (at_builtin; refine wpList_append_own _ rfl _ _ 186 rfl base 53 i0 _ 1 24 Try.underlying186 hi hz0 hz1 hz2 rfl (by decide) _ 0 [] rfl HO.out ⟨b, 0, none⟩ 1 1 [.slice A n c] rfl rfl HX.out H1.out (by unfold maxLen; omega) (by omega) hbase ?_; intro v' w2 hown' hgr' _)
  go_ret
  exact ⟨_, rfl, hown', hgr'⟩
set_option maxHeartbeats 1600000 in
theorem insert_1 (base g b : Nat) (A : Option Addr) (n c : Nat) (y : Value) (w : World) (ho : w.ownsRow base 53 1 (.slice (some ⟨g, 0, none⟩) 1 1) 1 [y]) (hbase : base ≤ w.heap.size) (hx : w.cell? ⟨b, 0, none⟩ = some (.slice A n c)) (hy : y.oneCell' = true) :
    Calls Try.prog 126 #[.slice (some ⟨g, 0, none⟩) 1 1, .int .i64 0, .slice (some ⟨b, 0, none⟩) 1 1] w fun e w' => ∃ v, e = .returned v ∧ w'.ownsRow base 53 1 v 2 [.slice A n c, y] ∧ w.grownBy w' (some g) := by
  obtain ⟨i0, hi, hz0, hz1, hz2⟩ := info_parts infoVs
  have hyc : w.cell? ⟨g, 0, none⟩ = some y := by have := ho.cells (g := g) rfl 0 y rfl; simpa [Addr.add] using this
  have HX : Hid (∀ w', Below w.heap.size w w' → ∀ j u, [Value.slice A n c][j]? = some u → w'.cell? ((⟨b, 0, none⟩ : Addr).add j) = some u) := fun w' hb => cell_1_new w' _ b ((hb.cell (p := ⟨b, 0, none⟩) (Go.block_lt_of_cell hx)).trans hx)
  have HY : Hid (∀ w', Below w.heap.size w w' → ∀ j u, [y][j]? = some u → w'.cell? ((⟨g, 0, none⟩ : Addr).add j) = some u) := fun w' hb => cell_1_new w' _ g ((hb.cell (p := ⟨g, 0, none⟩) (Go.block_lt_of_cell hyc)).trans hyc)
  have H1 := Lib.hid (one_of (.slice A n c) rfl)
  have H2 := Lib.hid (one_of y hy)
  have HSZ : Hid ((Try.prog.info? 53).map (·.size) = some 1) := by unfold Hid; rw [hi, Option.map_some, hz1]
  have hrun := Lib.run_append_grow_zeros (P := Try.prog) w 186 3 186 53 i0 _ .i64 .i64 Try.underlying186 Try.underlying3 hi hz0 (some ⟨g, 0, none⟩) 0 1 [] (by simp [Builtin.firstCells, loadCells, loadCellsFrom]) 2 (by omega) (by omega) (by omega) (by omega) (by rw [hz2]; omega) (by rw [hz2]; decide)
  have hge := grownCap_ge w (0 + 2) 1 53
  have hcm := grownCap_le_maxLen w (0 + 2) 1 53 (by unfold maxLen; omega)
  generalize grownCap w (0 + 2) 1 53 = cp at hrun hge hcm
  obtain ⟨cur, hcur, hcs⟩ : ∃ cur : List Value, cur.toArray = (([] : List Value).toArray ++ Builtin.zeroCells (Value.cells (.slice none 0 0)) 2 ++ Builtin.zeroCells (Value.cells (.slice none 0 0)) (cp - (0 + 2))) ∧ cur.length = cp := ⟨_, Array.toArray_toList, by simp [size_zeroCells, Value.cells]; omega⟩
  rw [← hcur] at hrun
  have HRUN := Lib.hid hrun
  have HB : Hid (∀ o, Below w.heap.size w (w.drew.alloc o)) := fun o => ((Below.refl _ w).drew).alloc (by simp) _
  have HNEW : Hid (∀ o, (w.drew.alloc o).heap[w.heap.size]? = some o) := fun o => heap_alloc_new w.drew o
  have hc2 : 2 ≤ cp := by omega
  have HSP0 : Hid ((splice cur 0 [Value.slice A n c]).length = cp) := by unfold Hid; rw [length_splice _ _ _ (by simp; omega)]; exact hcs
  have HSP1 : Hid (∃ r, splice (splice cur 0 [Value.slice A n c]) 1 [y] = .slice A n c :: y :: r ∧ r.length + 2 = cp) := by
    match cur, hcs with
    | [], h => simp at h; omega
    | [_], h => simp at h; omega
    | _ :: _ :: r, h => exact ⟨r, rfl, h⟩
  have hne1 : ¬ cp = 1 := by omega
  have hci : (2 : Int) ≤ (cp : Int) := by omega
  have hlen : cur.length = cp := hcs
  have HLEN := Lib.hid hlen
  clear hrun hcur ho hx hyc hcs hlen hge
  unfold maxLen at hcm
  go_enter Try.func126, Try.ntmps126
  go_wp2_with (first | (at_builtin; refine Lib.wpList_append_run _ rfl _ _ _ _ rfl _ _ rfl rfl _ _ HRUN.out ?_) | (refine wpList_copy_splice rfl (.tmp 43) (.tmp 44) 186 186 rfl 53 Try.underlying186 HSZ.out _ _ _ _ _ _ rfl rfl w.heap.size 0 cur 53 (HNEW.out _) [.slice A n c] rfl (fun _ => ⟨rfl, _, rfl, HX.out _ (HB.out _)⟩) (by have := HLEN.out; simp; omega) H1.out w.heap.size w (HB.out _) (Nat.le_refl _) ?_; intro w3 hg3 hb3))
  have hw1 : IntKind.i64.wrap 1 = 1 := by rw [IntKind.wrap_i64]; decide
  have HG3 : Hid (w3.drew.heap[w.heap.size]? = some (.cells (splice cur 0 [Value.slice A n c]).toArray 53 (0, 0))) := hg3.out
  have HB3 : Hid (Below w.heap.size w w3.drew) := hb3.drew
  have HPOS : Hid (0 < [y].length → (some ⟨w.heap.size, 1, none⟩ : Option Addr) = some ⟨w.heap.size, 1, none⟩ ∧ ∃ ad, (some ⟨g, 0, none⟩ : Option Addr) = some ad ∧ ∀ j v, [y][j]? = some v → w3.drew.cell? (ad.add j) = some v) := fun _ => ⟨rfl, _, rfl, HY.out _ HB3.out⟩
  have HFIT : Hid (1 + [y].length ≤ (splice cur 0 [Value.slice A n c]).length) := by unfold Hid; rw [HSP0.out]; simp; omega
  go_still_tail 8, (by kernel_rfl)
  refine wpList_copy_splice rfl (.tmp 50) (.tmp 53) 186 186 rfl 53 Try.underlying186 HSZ.out (some ⟨w.heap.size, 1, none⟩) (some ⟨g, 0, none⟩) 1 (cp - 1) 1 1 rfl rfl w.heap.size 1 (splice cur 0 [.slice A n c]) 53 HG3.out [y] rfl HPOS.out HFIT.out H2.out w.heap.size w HB3.out (Nat.le_refl _) ?_
  intro w4 hg4 hb4
  go_wp2_with fail
  go_ret
  obtain ⟨r, hr1, hr2⟩ := HSP1.out
  have hg5 := hg4.out
  rw [hr1] at hg5
  refine ⟨_, rfl, ⟨rfl, .inr ⟨w.heap.size, cp, _, rfl, hbase, hg5, hc2, by unfold maxLen; omega, by simp; omega, rfl⟩⟩, grown_below hb4 (Nat.le_refl _)⟩
end Go.Proofs.Yteoopmogklpnoaa
/-
  The fields of a node of a pattern: the program's functions. No statement is proved here.
-/
namespace Go.Proofs.Yteoopmogklpnoaa
open Go.RowKit Go.Sort Go.Deep
set_option maxRecDepth 100000
set_option linter.unusedVariables false
theorem isVar_any (v : Int) (w : World) : Calls Try.prog 143 #[.int .i64 v] w fun e w' => e = .returned (.bool (dec (0 ≤ v ∧ v ≤ 5))) ∧ w = w' := by
  by_cases h0 : 0 ≤ v
  · have q0 : decide (0 ≤ v) = true := decide_eq_true h0
    by_cases h5 : v ≤ 5
    · have q5 : decide (v ≤ 5) = true := decide_eq_true h5
      have HD : Hid (dec (0 ≤ v ∧ v ≤ 5) = true) := dec_t ⟨h0, h5⟩
      clear h0 h5
      go_enter Try.func143, Try.ntmps143
      go_wp2_with fail
      go_ret
      exact ⟨ret_bool HD.out.symm, rfl⟩
    · have q5 : decide (v ≤ 5) = false := decide_eq_false h5
      have HD : Hid (dec (0 ≤ v ∧ v ≤ 5) = false) := dec_f (fun h => h5 h.2)
      clear h0 h5
      go_enter Try.func143, Try.ntmps143
      go_wp2_with fail
      go_ret
      exact ⟨ret_bool HD.out.symm, rfl⟩
  · have q0 : decide (0 ≤ v) = false := decide_eq_false h0
    have HD : Hid (dec (0 ≤ v ∧ v ≤ 5) = false) := dec_f (fun h => h0 h.1)
    clear h0
    go_enter Try.func143, Try.ntmps143
    go_wp2_with fail
    go_ret
    exact ⟨ret_bool HD.out.symm, rfl⟩
def SameF (x0 x1 x2 x3 x4 y0 y1 y2 y3 y4 : Int) : Prop := x0 = y0 ∧ x1 = y1 ∧ x2 = y2 ∧ x3 = y3 ∧ x4 = y4
set_option maxHeartbeats 1600000 in
theorem same_any (x0 x1 x2 x3 x4 y0 y1 y2 y3 y4 : Int) (A B : Option Addr) (m n m' n' : Nat) (w : World) : Calls Try.prog 73 #[.agg #[.int .i64 x0, .int .i64 x1, .int .i64 x2, .int .i64 x3, .int .i64 x4, .slice A m n], .agg #[.int .i64 y0, .int .i64 y1, .int .i64 y2, .int .i64 y3, .int .i64 y4, .slice B m' n']] w fun e w' => e = .returned (.bool (dec (SameF x0 x1 x2 x3 x4 y0 y1 y2 y3 y4))) ∧ Below w.heap.size w w' := by
  have HB : Hid (∀ o o' : Obj, Below w.heap.size w ((w.alloc o).alloc o')) := fun o o' => ((Below.refl _ _).alloc (Nat.le_refl _) _).alloc (by simp) _
  by_cases h0 : x0 = y0
  · have q0 := ieq_t h0
    by_cases h1 : x1 = y1
    · have q1 := ieq_t h1
      by_cases h2 : x2 = y2
      · have q2 := ieq_t h2
        by_cases h3 : x3 = y3
        · have q3 := ieq_t h3
          by_cases h4 : x4 = y4
          · have q4 := ieq_t h4
            have HD : Hid (dec (SameF x0 x1 x2 x3 x4 y0 y1 y2 y3 y4) = true) := dec_t (⟨h0, h1, h2, h3, h4⟩)
            clear h0 h1 h2 h3 h4
            go_enter Try.func73, Try.ntmps73
            go_wp2_with fail
            go_ret
            exact ⟨ret_bool HD.out.symm, HB.out _ _⟩
          · have q4 := ieq_f h4
            have HD : Hid (dec (SameF x0 x1 x2 x3 x4 y0 y1 y2 y3 y4) = false) := dec_f (fun h => h4 h.2.2.2.2)
            clear h0 h1 h2 h3 h4
            go_enter Try.func73, Try.ntmps73
            go_wp2_with fail
            go_ret
            exact ⟨ret_bool HD.out.symm, HB.out _ _⟩
        · have q3 := ieq_f h3
          have HD : Hid (dec (SameF x0 x1 x2 x3 x4 y0 y1 y2 y3 y4) = false) := dec_f (fun h => h3 h.2.2.2.1)
          clear h0 h1 h2 h3
          go_enter Try.func73, Try.ntmps73
          go_wp2_with fail
          go_ret
          exact ⟨ret_bool HD.out.symm, HB.out _ _⟩
      · have q2 := ieq_f h2
        have HD : Hid (dec (SameF x0 x1 x2 x3 x4 y0 y1 y2 y3 y4) = false) := dec_f (fun h => h2 h.2.2.1)
        clear h0 h1 h2
        go_enter Try.func73, Try.ntmps73
        go_wp2_with fail
        go_ret
        exact ⟨ret_bool HD.out.symm, HB.out _ _⟩
    · have q1 := ieq_f h1
      have HD : Hid (dec (SameF x0 x1 x2 x3 x4 y0 y1 y2 y3 y4) = false) := dec_f (fun h => h1 h.2.1)
      clear h0 h1
      go_enter Try.func73, Try.ntmps73
      go_wp2_with fail
      go_ret
      exact ⟨ret_bool HD.out.symm, HB.out _ _⟩
  · have q0 := ieq_f h0
    have HD : Hid (dec (SameF x0 x1 x2 x3 x4 y0 y1 y2 y3 y4) = false) := dec_f (fun h => h0 h.1)
    clear h0
    go_enter Try.func73, Try.ntmps73
    go_wp2_with fail
    go_ret
    exact ⟨ret_bool HD.out.symm, HB.out _ _⟩
def KtQ (l : List Da) (t : Ty) (p : Pt) (w : World) (e : Ending) (w' : World) : Prop := ∃ v, e = .returned (.tuple #[v, .bool (dec (OwnOK l t p))]) ∧ (OwnOK l t p → OTys w' w.heap.size v (tysP l t p) (tysP l t p).length) ∧ Below w.heap.size w w'
theorem tysP_nil {l : List Da} {t : Ty} {p : Pt} (h : ¬ p.op = 4) (h5 : ¬ p.op = 5) (h6 : ¬ p.op = 6) : tysP l t p = [] := by
  rw [tysP_other h]; unfold kidN; rw [if_neg h5, if_neg h6]; rfl
theorem ktQ_nil {l : List Da} {t : Ty} {p : Pt} {w w' : World} {b : Bool} (h : ¬ p.op = 4) (h5 : ¬ p.op = 5) (h6 : ¬ p.op = 6) (hb : dec (OwnOK l t p) = b) (hw : Below w.heap.size w w') : KtQ l t p w (.returned (.tuple #[.slice none 0 0, .bool b])) w' :=
  ⟨_, by rw [hb], fun _ => by rw [tysP_nil h h5 h6]; exact ⟨[], World.ownsRow_nil _ _ _ _, TyRow.zero _ _⟩, hw⟩
theorem ktQ_no {l : List Da} {t : Ty} {p : Pt} {w w' : World} {v : Value} (hb : ¬ OwnOK l t p) (hw : Below w.heap.size w w') : KtQ l t p w (.returned (.tuple #[v, .bool false])) w' :=
  ⟨v, by rw [dec_f hb], fun h => absurd h hb, hw⟩
theorem own1 {l : List Da} {t : Ty} {p : Pt} (h : p.op = 1) : dec (OwnOK l t p) = dec (SameF p.op p.ctor p.n p.m p.var 1 0 0 0 0) := dec_congr ⟨fun h' => ⟨h, h'.2.2.2.1 (by omega), (h'.2.2.1 (by omega)).1, (h'.2.2.1 (by omega)).2, h'.2.1 (by omega)⟩, fun ⟨_, a, b, c, d⟩ => ⟨fun _ => by omega, fun _ => d, fun _ => ⟨b, c⟩, fun _ => a, .inl h⟩⟩
theorem own2 {l : List Da} {t : Ty} {p : Pt} (h : p.op = 2) : dec (OwnOK l t p) = (dec (0 ≤ p.var ∧ p.var ≤ 5) && dec (SameF p.op p.ctor p.n p.m p.var 2 0 0 0 p.var)) := by
  by_cases hv : 0 ≤ p.var ∧ p.var ≤ 5
  · rw [dec_t hv, Bool.true_and]
    exact dec_congr ⟨fun h' => ⟨h, h'.2.2.2.1 (by omega), (h'.2.2.1 (by omega)).1, (h'.2.2.1 (by omega)).2, rfl⟩, fun ⟨_, a, b, c, d⟩ => ⟨fun _ => hv, fun h => by omega, fun _ => ⟨b, c⟩, fun _ => a, .inr (.inl h)⟩⟩
  · rw [dec_f hv, Bool.false_and]
    exact dec_f (fun h' => hv (h'.1 (by omega)))
theorem own3 {l : List Da} {t : Ty} {p : Pt} (h : p.op = 3) : dec (OwnOK l t p) = (decide (t.data = -1 ∧ 0 ≤ p.n ∧ p.n ≤ p.m ∧ p.m ≤ 9) && dec (SameF p.op p.ctor p.n p.m p.var 3 0 p.n p.m 0)) := by
  by_cases hv : t.data = -1 ∧ 0 ≤ p.n ∧ p.n ≤ p.m ∧ p.m ≤ 9
  · rw [decide_eq_true hv, Bool.true_and]
    exact dec_congr ⟨fun h' => ⟨h, h'.2.2.2.1 (by omega), rfl, rfl, h'.2.1 (by omega)⟩, fun ⟨_, a, b, c, d⟩ => ⟨fun h => by omega, fun _ => d, fun h' => absurd h h', fun _ => a, .inr (.inr (.inr (.inr (.inl ⟨h, hv⟩))))⟩⟩
  · rw [decide_eq_false hv, Bool.false_and]
    refine dec_f (fun h' => ?_)
    rcases h'.2.2.2.2 with g | g | g | g | g | g
    · omega
    · omega
    · omega
    · omega
    · exact hv g.2
    · omega
theorem ownx {l : List Da} {t : Ty} {p : Pt} (h1 : ¬ p.op = 1) (h2 : ¬ p.op = 2) (h3 : ¬ p.op = 3) (h4 : ¬ p.op = 4) (h5 : ¬ p.op = 5) (h6 : ¬ p.op = 6) : ¬ OwnOK l t p := by
  intro h
  rcases h.2.2.2.2 with g | g | g | g | g | g <;> omega
set_option maxHeartbeats 1600000 in
theorem kt_1 (A D : Option Addr) (l : List Da) (cap ep : Nat) (t : Ty) (p : Pt) (w : World) (hr : RDas w w.heap.size A l) (ht : TyOK l t) (h1 : p.op = 1) : Calls Try.prog 124 #[.slice A l.length cap, .agg #[.int .i64 t.data, .int .i64 t.index], .agg #[.int .i64 p.op, .int .i64 p.ctor, .int .i64 p.n, .int .i64 p.m, .int .i64 p.var, .slice D p.kids.length ep]] w (KtQ l t p w) := by
  have u1 := ieq_t h1
  have u2 : (p.op == 2) = false := ieq_f (by omega)
  have u3 : (p.op == 3) = false := ieq_f (by omega)
  have u4 : (p.op == 4) = false := ieq_f (by omega)
  have u5 : (p.op == 5) = false := ieq_f (by omega)
  have u6 : (p.op == 6) = false := ieq_f (by omega)
  have HO := Lib.hid (own1 (l := l) (t := t) h1)
  have HQ : Hid (∀ w' b, dec (OwnOK l t p) = b → Below w.heap.size w w' → KtQ l t p w (.returned (.tuple #[.slice none 0 0, .bool b])) w') := fun w' b hb hw => ktQ_nil (by omega) (by omega) (by omega) hb hw
  clear h1 hr ht
  generalize hw0 : (w.alloc (.cells #[.int .i64 t.data, .int .i64 t.index] 25)).alloc (.cells #[.int .i64 p.op, .int .i64 p.ctor, .int .i64 p.n, .int .i64 p.m, .int .i64 p.var, .slice D p.kids.length ep] 50) = w0
  have hb0 := below_box2 hw0
  have HXT : Hid (Bx w0 w.heap.size t) := by rw [← hw0]; exact ⟨by simp [go_sem], by simp [go_sem]⟩
  have HXP : Hid (PBx w0 (w.heap.size + 1) p (.slice D p.kids.length ep)) := by rw [← hw0]; exact ⟨by simp [go_sem], by simp [go_sem], by simp [go_sem], by simp [go_sem], by simp [go_sem], by simp [go_sem]⟩
  have HW := Lib.hid hw0
  clear hw0
  go_enter Try.func124, Try.ntmps124
  go_wp2_with (go_at_call 73; (try rw [HW.out]); refine (same_any _ _ _ _ _ _ _ _ _ _ D none _ _ 0 0 _).mono ?_; rintro e2 w2 ⟨rfl, hb2⟩)
  go_ret2
  exact HQ.out _ _ HO.out (below_aft hb0 hb2 hb0.size)
set_option maxHeartbeats 1600000 in
theorem kt_x (A D : Option Addr) (l : List Da) (cap ep : Nat) (t : Ty) (p : Pt) (w : World) (hr : RDas w w.heap.size A l) (ht : TyOK l t) (h1 : ¬ p.op = 1) (h2 : ¬ p.op = 2) (h3 : ¬ p.op = 3) (h4 : ¬ p.op = 4) (h5 : ¬ p.op = 5) (h6 : ¬ p.op = 6) : Calls Try.prog 124 #[.slice A l.length cap, .agg #[.int .i64 t.data, .int .i64 t.index], .agg #[.int .i64 p.op, .int .i64 p.ctor, .int .i64 p.n, .int .i64 p.m, .int .i64 p.var, .slice D p.kids.length ep]] w (KtQ l t p w) := by
  have u1 := ieq_f h1
  have u2 := ieq_f h2
  have u3 := ieq_f h3
  have u4 := ieq_f h4
  have u5 := ieq_f h5
  have u6 := ieq_f h6
  have HQ := Lib.hid (fun (w' : World) => ktQ_no (w := w) (w' := w') (v := .slice none 0 0) (ownx (l := l) (t := t) h1 h2 h3 h4 h5 h6))
  have HB : Hid (∀ o o' : Obj, Below w.heap.size w ((w.alloc o).alloc o')) := fun o o' => ((Below.refl _ _).alloc (Nat.le_refl _) _).alloc (by simp) _
  clear h1 h2 h3 h4 h5 h6 hr ht
  go_enter Try.func124, Try.ntmps124
  go_wp2_with fail
  go_ret2
  exact HQ.out _ (HB.out _ _)
set_option maxHeartbeats 1600000 in
theorem kt_2 (A D : Option Addr) (l : List Da) (cap ep : Nat) (t : Ty) (p : Pt) (w : World) (hr : RDas w w.heap.size A l) (ht : TyOK l t) (h2 : p.op = 2) : Calls Try.prog 124 #[.slice A l.length cap, .agg #[.int .i64 t.data, .int .i64 t.index], .agg #[.int .i64 p.op, .int .i64 p.ctor, .int .i64 p.n, .int .i64 p.m, .int .i64 p.var, .slice D p.kids.length ep]] w (KtQ l t p w) := by
  have u1 : (p.op == 1) = false := ieq_f (by omega)
  have u2 := ieq_t h2
  have u3 : (p.op == 3) = false := ieq_f (by omega)
  have u4 : (p.op == 4) = false := ieq_f (by omega)
  have u5 : (p.op == 5) = false := ieq_f (by omega)
  have u6 : (p.op == 6) = false := ieq_f (by omega)
  have HO := Lib.hid (own2 (l := l) (t := t) h2)
  have HQ : Hid (∀ w' b, dec (OwnOK l t p) = b → Below w.heap.size w w' → KtQ l t p w (.returned (.tuple #[.slice none 0 0, .bool b])) w') := fun w' b hb hw => ktQ_nil (by omega) (by omega) (by omega) hb hw
  clear h2 hr ht
  generalize hw0 : (w.alloc (.cells #[.int .i64 t.data, .int .i64 t.index] 25)).alloc (.cells #[.int .i64 p.op, .int .i64 p.ctor, .int .i64 p.n, .int .i64 p.m, .int .i64 p.var, .slice D p.kids.length ep] 50) = w0
  have hb0 := below_box2 hw0
  have HXT : Hid (Bx w0 w.heap.size t) := by rw [← hw0]; exact ⟨by simp [go_sem], by simp [go_sem]⟩
  have HXP : Hid (PBx w0 (w.heap.size + 1) p (.slice D p.kids.length ep)) := by rw [← hw0]; exact ⟨by simp [go_sem], by simp [go_sem], by simp [go_sem], by simp [go_sem], by simp [go_sem], by simp [go_sem]⟩
  have HW := Lib.hid hw0
  clear hw0
  obtain ⟨y0, y1, y2, y3, y4, y5⟩ := HXP.out
  by_cases hv : 0 ≤ p.var ∧ p.var ≤ 5
  · have HD := Lib.hid (dec_t hv)
    rw [HD.out, Bool.true_and] at HO
    clear hv
    go_enter Try.func124, Try.ntmps124
    go_wp2_with (first | (go_at_call 143; (try rw [HW.out]); refine (isVar_any _ _).mono ?_; rw [HD.out]; rintro e1 w1 ⟨rfl, rfl⟩) | (go_at_call 73; (try rw [HW.out]); refine (same_any _ _ _ _ _ _ _ _ _ _ D none _ _ 0 0 _).mono ?_; rintro e2 w2 ⟨rfl, hb2⟩))
    all_goals go_ret2
    all_goals exact HQ.out _ _ HO.out (below_aft hb0 hb2 hb0.size)
  · have HD := Lib.hid (dec_f hv)
    rw [HD.out, Bool.false_and] at HO
    clear hv
    go_enter Try.func124, Try.ntmps124
    go_wp2_with (go_at_call 143; (try rw [HW.out]); refine (isVar_any _ _).mono ?_; rw [HD.out]; rintro e1 w1 ⟨rfl, rfl⟩)
    go_ret2
    exact HQ.out _ _ HO.out hb0
end Go.Proofs.Yteoopmogklpnoaa
/-
  The types of the parts of a pattern: the program's function. No statement is proved here.
-/
namespace Go.Proofs.Yteoopmogklpnoaa
open Go.RowKit Go.Sort Go.Deep
set_option maxRecDepth 100000
set_option linter.unusedVariables false
set_option maxHeartbeats 1600000 in
theorem kt_3 (A D : Option Addr) (l : List Da) (cap ep : Nat) (t : Ty) (p : Pt) (w : World) (hr : RDas w w.heap.size A l) (ht : TyOK l t) (h3 : p.op = 3) : Calls Try.prog 124 #[.slice A l.length cap, .agg #[.int .i64 t.data, .int .i64 t.index], .agg #[.int .i64 p.op, .int .i64 p.ctor, .int .i64 p.n, .int .i64 p.m, .int .i64 p.var, .slice D p.kids.length ep]] w (KtQ l t p w) := by
  have u1 : (p.op == 1) = false := ieq_f (by omega)
  have u2 : (p.op == 2) = false := ieq_f (by omega)
  have u3 := ieq_t h3
  have u4 : (p.op == 4) = false := ieq_f (by omega)
  have u5 : (p.op == 5) = false := ieq_f (by omega)
  have u6 : (p.op == 6) = false := ieq_f (by omega)
  have HO := Lib.hid (own3 (l := l) (t := t) h3)
  have HQ : Hid (∀ w' b, dec (OwnOK l t p) = b → Below w.heap.size w w' → KtQ l t p w (.returned (.tuple #[.slice none 0 0, .bool b])) w') := fun w' b hb hw => ktQ_nil (by omega) (by omega) (by omega) hb hw
  clear hr ht
  generalize hw0 : (w.alloc (.cells #[.int .i64 t.data, .int .i64 t.index] 25)).alloc (.cells #[.int .i64 p.op, .int .i64 p.ctor, .int .i64 p.n, .int .i64 p.m, .int .i64 p.var, .slice D p.kids.length ep] 50) = w0
  have hb0 := below_box2 hw0
  have HXT : Hid (Bx w0 w.heap.size t) := by rw [← hw0]; exact ⟨by simp [go_sem], by simp [go_sem]⟩
  have HXP : Hid (PBx w0 (w.heap.size + 1) p (.slice D p.kids.length ep)) := by rw [← hw0]; exact ⟨by simp [go_sem], by simp [go_sem], by simp [go_sem], by simp [go_sem], by simp [go_sem], by simp [go_sem]⟩
  have HW := Lib.hid hw0
  clear hw0
  obtain ⟨x0, x1⟩ := HXT.out
  obtain ⟨y0, y1, y2, y3, y4, y5⟩ := HXP.out
  by_cases hd : t.data = -1
  · have q1 := ieq_t hd
    by_cases ha : 0 ≤ p.n
    · have q2 : decide (0 ≤ p.n) = true := decide_eq_true ha
      by_cases hb : p.n ≤ p.m
      · have q3 : decide (p.n ≤ p.m) = true := decide_eq_true hb
        by_cases hc : p.m ≤ 9
        · have q4 : decide (p.m ≤ 9) = true := decide_eq_true hc
          have HO3 : Hid (dec (OwnOK l t p) = dec (SameF p.op p.ctor p.n p.m p.var 3 0 p.n p.m 0)) := by unfold Hid; rw [HO.out, decide_eq_true ⟨hd, ha, hb, hc⟩, Bool.true_and]
          clear hd ha hb hc h3
          go_enter Try.func124, Try.ntmps124
          go_wp2_with (go_at_call 73; (try rw [HW.out]); refine (same_any _ _ _ _ _ _ _ _ _ _ D none _ _ 0 0 _).mono ?_; rintro e2 w2 ⟨rfl, hb2⟩)
          go_ret2
          exact HQ.out _ _ HO3.out (below_aft hb0 hb2 hb0.size)
        · have q4 : decide (p.m ≤ 9) = false := decide_eq_false hc
          have HO3 : Hid (dec (OwnOK l t p) = false) := by unfold Hid; rw [HO.out, decide_eq_false (fun h => hc h.2.2.2), Bool.false_and]
          clear hd ha hb hc h3
          go_enter Try.func124, Try.ntmps124
          go_wp2_with fail
          rw [HW.out]
          go_ret2
          exact HQ.out _ _ HO3.out hb0
      · have q3 : decide (p.n ≤ p.m) = false := decide_eq_false hb
        have HO3 : Hid (dec (OwnOK l t p) = false) := by unfold Hid; rw [HO.out, decide_eq_false (fun h => hb h.2.2.1), Bool.false_and]
        clear hd ha hb h3
        go_enter Try.func124, Try.ntmps124
        go_wp2_with fail
        rw [HW.out]
        go_ret2
        exact HQ.out _ _ HO3.out hb0
    · have q2 : decide (0 ≤ p.n) = false := decide_eq_false ha
      have HO3 : Hid (dec (OwnOK l t p) = false) := by unfold Hid; rw [HO.out, decide_eq_false (fun h => ha h.2.1), Bool.false_and]
      clear hd ha h3
      go_enter Try.func124, Try.ntmps124
      go_wp2_with fail
      rw [HW.out]
      go_ret2
      exact HQ.out _ _ HO3.out hb0
  · have q1 := ieq_f hd
    by_cases ha : 0 ≤ p.n
    · have q2 : decide (0 ≤ p.n) = true := decide_eq_true ha
      by_cases hb : p.n ≤ p.m
      · have q3 : decide (p.n ≤ p.m) = true := decide_eq_true hb
        by_cases hc : p.m ≤ 9
        · have q4 : decide (p.m ≤ 9) = true := decide_eq_true hc
          have HO3 : Hid (dec (OwnOK l t p) = false) := by unfold Hid; rw [HO.out, decide_eq_false (fun h => hd h.1), Bool.false_and]
          clear hd ha hb hc h3
          go_enter Try.func124, Try.ntmps124
          go_wp2_with fail
          rw [HW.out]
          go_ret2
          exact HQ.out _ _ HO3.out hb0
        · have q4 : decide (p.m ≤ 9) = false := decide_eq_false hc
          have HO3 : Hid (dec (OwnOK l t p) = false) := by unfold Hid; rw [HO.out, decide_eq_false (fun h => hd h.1), Bool.false_and]
          clear hd ha hb hc h3
          go_enter Try.func124, Try.ntmps124
          go_wp2_with fail
          rw [HW.out]
          go_ret2
          exact HQ.out _ _ HO3.out hb0
      · have q3 : decide (p.n ≤ p.m) = false := decide_eq_false hb
        have HO3 : Hid (dec (OwnOK l t p) = false) := by unfold Hid; rw [HO.out, decide_eq_false (fun h => hd h.1), Bool.false_and]
        clear hd ha hb h3
        go_enter Try.func124, Try.ntmps124
        go_wp2_with fail
        rw [HW.out]
        go_ret2
        exact HQ.out _ _ HO3.out hb0
    · have q2 : decide (0 ≤ p.n) = false := decide_eq_false ha
      have HO3 : Hid (dec (OwnOK l t p) = false) := by unfold Hid; rw [HO.out, decide_eq_false (fun h => hd h.1), Bool.false_and]
      clear hd ha h3
      go_enter Try.func124, Try.ntmps124
      go_wp2_with fail
      rw [HW.out]
      go_ret2
      exact HQ.out _ _ HO3.out hb0
end Go.Proofs.Yteoopmogklpnoaa
