/-
  KnownMore of the program and of the document. No statement is proved here.
-/
import Derived.Test.YtakhobhmplneeaaW30
import Derived.Test.YtakhobhmplneeaaW31
import Derived.Test.YtakhobhmplneeaaW07
import Derived.Test.YtakhobhmplneeaaW00
import Derived.Test.YtakhobhmplneeaaW01
import Derived.Deep.Fields
import Derived.Deep.Slices
import Derived.Laws.OwnMore
import Derived.Maps.AppendAt
import Derived.Tactics
namespace Go.Proofs.Ytakhobhmplneeaa
open Go.RowKit Go.Sort Go.Deep
set_option maxRecDepth 100000
set_option linter.unusedVariables false
theorem below_box3k {w w' : World} {o o' o'' : Obj} (h : ((w.alloc o).alloc o').alloc o'' = w') : Below w.heap.size w w' := by
  rw [← h]; exact (((Below.refl _ _).alloc (Nat.le_refl _) _).alloc (by simp) _).alloc (by simp <;> omega) _
noncomputable def kmT (l : List Da) (t : Ty) (a b : Vl) : Bool := paT l t a && (paT l t b && kmV 10 a b)
theorem paT_parts {l : List Da} {t : Ty} {v : Vl} (h : paT l t v = true) : TyOK l t ∧ fitH l 10 t v = true := by
  unfold paT isH at h
  rw [Bool.and_eq_true, Bool.and_eq_true] at h
  refine ⟨Classical.byContradiction fun hn => ?_, h.2.1⟩
  rw [dec_f hn] at h; cases h.1
set_option maxHeartbeats 1600000 in
theorem km_spec (A P Q : Option Addr) (l : List Da) (cap ca cb ea eb : Nat) (t : Ty) (a b : Vl) (w : World) (hr : RDas w w.heap.size A l) (ha : RVs ea w w.heap.size P a.kids) (hb : RVs eb w w.heap.size Q b.kids) (hna : wV a ≤ 16000000) (hnb : wV b ≤ 16000000) :
    Calls Try.prog 9 #[.slice A l.length cap, .agg #[.int .i64 t.data, .int .i64 t.index], .agg #[.int .i64 a.ctor, .int .i64 a.n, .slice P a.kids.length ca], .agg #[.int .i64 b.ctor, .int .i64 b.n, .slice Q b.kids.length cb]] w fun e w' => e = .returned (.bool (kmT l t a b)) ∧ Below w.heap.size w w' := by
  have Hr := Lib.hid hr
  have HA := Lib.hid ha
  have HB := Lib.hid hb
  have IK := Lib.hid (kmS_any l 10)
  clear hr ha hb
  generalize hw0 : ((w.alloc (.cells #[.int .i64 t.data, .int .i64 t.index] 25)).alloc (.cells #[.int .i64 a.ctor, .int .i64 a.n, .slice P a.kids.length ca] 28)).alloc (.cells #[.int .i64 b.ctor, .int .i64 b.n, .slice Q b.kids.length cb] 28) = w0
  have hb0 : Below w.heap.size w w0 := below_box3k hw0
  have HXT : Hid (Bx w0 w.heap.size t) := by rw [← hw0]; exact ⟨by simp [go_sem], by simp [go_sem]⟩
  have HXA : Hid (VBx w0 (w.heap.size + 1) a.ctor a.n (.slice P a.kids.length ca)) := by rw [← hw0]; exact ⟨by simp [go_sem], by simp [go_sem], by simp [go_sem]⟩
  have HXB : Hid (VBx w0 (w.heap.size + 2) b.ctor b.n (.slice Q b.kids.length cb)) := by rw [← hw0]; exact ⟨by simp [go_sem], by simp [go_sem], by simp [go_sem]⟩
  have HW := Lib.hid hw0
  clear hw0
  cases hpa : paT l t a
  · have HPA := Lib.hid hpa
    have HF : Hid (kmT l t a b = false) := by unfold Hid kmT; rw [hpa]; rfl
    clear hpa
    go_enter Try.func9, Try.ntmps9
    go_wp2_with (go_at_call 21; rw [HW.out]; refine (pa_spec A P l cap ca ea t a _ (Hr.out.at_ hb0) (HA.out.at_ hb0) hna).mono ?_; rw [HPA.out]; rintro e1 w1 ⟨rfl, hb1⟩; obtain ⟨x0, x1⟩ := HXT.out.at_ hb1; obtain ⟨y0, y1, y2⟩ := HXA.out.at_ hb1; obtain ⟨z0, z1, z2⟩ := HXB.out.at_ hb1; have hb1w := below_aft hb0 hb1 hb0.size)
    go_ret
    exact ⟨ret_bool HF.out.symm, hb1w⟩
  · have HPA := Lib.hid hpa
    have HFA := Lib.hid (paT_parts hpa).2
    cases hpb : paT l t b
    · have HPB := Lib.hid hpb
      have HF : Hid (kmT l t a b = false) := by unfold Hid kmT; rw [hpa, hpb]; rfl
      clear hpa hpb
      go_enter Try.func9, Try.ntmps9
      go_wp2_with (first | (go_at_call 21; refine (pa_spec A Q l cap cb eb t b _ (Hr.out.at_ hb1w) (HB.out.at_ hb1w) hnb).mono ?_; rw [HPB.out]; rintro e2 w2 ⟨rfl, hb2⟩; have hb20 := below_aft hb1 hb2 hb1.size; have X2 := HXA.out.at_ hb20; have Y2 := HXB.out.at_ hb20; have hb2w := below_aft hb1w hb2 hb1w.size; clear x0 x1 y0 y1 y2 z0 z1 z2; obtain ⟨y0, y1, y2⟩ := X2; obtain ⟨z0, z1, z2⟩ := Y2) | (go_at_call 21; rw [HW.out]; refine (pa_spec A P l cap ca ea t a _ (Hr.out.at_ hb0) (HA.out.at_ hb0) hna).mono ?_; rw [HPA.out]; rintro e1 w1 ⟨rfl, hb1⟩; obtain ⟨x0, x1⟩ := HXT.out.at_ hb1; obtain ⟨y0, y1, y2⟩ := HXA.out.at_ hb1; obtain ⟨z0, z1, z2⟩ := HXB.out.at_ hb1; have hb1w := below_aft hb0 hb1 hb0.size))
      go_ret
      exact ⟨ret_bool HF.out.symm, hb2w⟩
    · have HPB := Lib.hid hpb
      have HFB := Lib.hid (paT_parts hpb).2
      have HF : Hid (kmT l t a b = kmV 10 a b) := by unfold Hid kmT; rw [hpa, hpb]; rfl
      clear hpa hpb
      generalize hk : kmV 10 a b = r at HF
      have HK := Lib.hid hk
      clear hk
      cases r
      all_goals
        go_enter Try.func9, Try.ntmps9
        go_wp2_with (first | (go_at_call 22; refine (IK.out.known t a b P Q ca cb ea eb _ _ HK.out HFA.out HFB.out (HA.out.at_ hb2w) (HB.out.at_ hb2w)).mono ?_; rintro e3 w3 ⟨rfl, hb3⟩; have hb3w := below_aft hb2w hb3 hb2w.size) | (go_at_call 21; refine (pa_spec A Q l cap cb eb t b _ (Hr.out.at_ hb1w) (HB.out.at_ hb1w) hnb).mono ?_; rw [HPB.out]; rintro e2 w2 ⟨rfl, hb2⟩; have hb20 := below_aft hb1 hb2 hb1.size; have X2 := HXA.out.at_ hb20; have Y2 := HXB.out.at_ hb20; have hb2w := below_aft hb1w hb2 hb1w.size; clear x0 x1 y0 y1 y2 z0 z1 z2; obtain ⟨y0, y1, y2⟩ := X2; obtain ⟨z0, z1, z2⟩ := Y2) | (go_at_call 21; rw [HW.out]; refine (pa_spec A P l cap ca ea t a _ (Hr.out.at_ hb0) (HA.out.at_ hb0) hna).mono ?_; rw [HPA.out]; rintro e1 w1 ⟨rfl, hb1⟩; obtain ⟨x0, x1⟩ := HXT.out.at_ hb1; obtain ⟨y0, y1, y2⟩ := HXA.out.at_ hb1; obtain ⟨z0, z1, z2⟩ := HXB.out.at_ hb1; have hb1w := below_aft hb0 hb1 hb0.size))
        go_ret
        exact ⟨ret_bool HF.out.symm, hb3w⟩
set_option maxHeartbeats 1600000 in
theorem km_impl (A P Q : Option Addr) (l : List Da) (cap ca cb ea eb : Nat) (t : Ty) (a b : Vl) (w : World) (hr : RDas w w.heap.size A l) (ha : RVs ea w w.heap.size P a.kids) (hb : RVs eb w w.heap.size Q b.kids) (hna : wV a ≤ 16000000) (hnb : wV b ≤ 16000000) :
    Calls Try.prog 8 #[.slice A l.length cap, .agg #[.int .i64 t.data, .int .i64 t.index], .agg #[.int .i64 a.ctor, .int .i64 a.n, .slice P a.kids.length ca], .agg #[.int .i64 b.ctor, .int .i64 b.n, .slice Q b.kids.length cb]] w fun e w' => e = .returned (.bool (kmT l t a b)) ∧ Below w.heap.size w w' := by
  have Hr := Lib.hid hr
  have HA := Lib.hid ha
  have HB := Lib.hid hb
  have IK := Lib.hid (kmI_any l 10)
  clear hr ha hb
  generalize hw0 : ((w.alloc (.cells #[.int .i64 t.data, .int .i64 t.index] 25)).alloc (.cells #[.int .i64 a.ctor, .int .i64 a.n, .slice P a.kids.length ca] 28)).alloc (.cells #[.int .i64 b.ctor, .int .i64 b.n, .slice Q b.kids.length cb] 28) = w0
  have hb0 : Below w.heap.size w w0 := below_box3k hw0
  have HXT : Hid (Bx w0 w.heap.size t) := by rw [← hw0]; exact ⟨by simp [go_sem], by simp [go_sem]⟩
  have HXA : Hid (VBx w0 (w.heap.size + 1) a.ctor a.n (.slice P a.kids.length ca)) := by rw [← hw0]; exact ⟨by simp [go_sem], by simp [go_sem], by simp [go_sem]⟩
  have HXB : Hid (VBx w0 (w.heap.size + 2) b.ctor b.n (.slice Q b.kids.length cb)) := by rw [← hw0]; exact ⟨by simp [go_sem], by simp [go_sem], by simp [go_sem]⟩
  have HW := Lib.hid hw0
  clear hw0
  cases hpa : paT l t a
  · have HPA := Lib.hid hpa
    have HF : Hid (kmT l t a b = false) := by unfold Hid kmT; rw [hpa]; rfl
    clear hpa
    go_enter Try.func8, Try.ntmps8
    go_wp2_with (go_at_call 10; rw [HW.out]; refine (pa_impl A P l cap ca ea t a _ (Hr.out.at_ hb0) (HA.out.at_ hb0) hna).mono ?_; rw [HPA.out]; rintro e1 w1 ⟨rfl, hb1⟩; obtain ⟨x0, x1⟩ := HXT.out.at_ hb1; obtain ⟨y0, y1, y2⟩ := HXA.out.at_ hb1; obtain ⟨z0, z1, z2⟩ := HXB.out.at_ hb1; have hb1w := below_aft hb0 hb1 hb0.size)
    go_ret
    exact ⟨ret_bool HF.out.symm, hb1w⟩
  · have HPA := Lib.hid hpa
    have HFA := Lib.hid (paT_parts hpa).2
    cases hpb : paT l t b
    · have HPB := Lib.hid hpb
      have HF : Hid (kmT l t a b = false) := by unfold Hid kmT; rw [hpa, hpb]; rfl
      clear hpa hpb
      go_enter Try.func8, Try.ntmps8
      go_wp2_with (first | (go_at_call 10; refine (pa_impl A Q l cap cb eb t b _ (Hr.out.at_ hb1w) (HB.out.at_ hb1w) hnb).mono ?_; rw [HPB.out]; rintro e2 w2 ⟨rfl, hb2⟩; have hb20 := below_aft hb1 hb2 hb1.size; have X2 := HXA.out.at_ hb20; have Y2 := HXB.out.at_ hb20; have hb2w := below_aft hb1w hb2 hb1w.size; clear x0 x1 y0 y1 y2 z0 z1 z2; obtain ⟨y0, y1, y2⟩ := X2; obtain ⟨z0, z1, z2⟩ := Y2) | (go_at_call 10; rw [HW.out]; refine (pa_impl A P l cap ca ea t a _ (Hr.out.at_ hb0) (HA.out.at_ hb0) hna).mono ?_; rw [HPA.out]; rintro e1 w1 ⟨rfl, hb1⟩; obtain ⟨x0, x1⟩ := HXT.out.at_ hb1; obtain ⟨y0, y1, y2⟩ := HXA.out.at_ hb1; obtain ⟨z0, z1, z2⟩ := HXB.out.at_ hb1; have hb1w := below_aft hb0 hb1 hb0.size))
      go_ret
      exact ⟨ret_bool HF.out.symm, hb2w⟩
    · have HPB := Lib.hid hpb
      have HFB := Lib.hid (paT_parts hpb).2
      have HF : Hid (kmT l t a b = kmV 10 a b) := by unfold Hid kmT; rw [hpa, hpb]; rfl
      clear hpa hpb
      generalize hk : kmV 10 a b = r at HF
      have HK := Lib.hid hk
      clear hk
      cases r
      all_goals
        go_enter Try.func8, Try.ntmps8
        go_wp2_with (first | (go_at_call 20; refine (IK.out.known t a b P Q ca cb ea eb _ _ HK.out HFA.out HFB.out (HA.out.at_ hb2w) (HB.out.at_ hb2w)).mono ?_; rintro e3 w3 ⟨rfl, hb3⟩; have hb3w := below_aft hb2w hb3 hb2w.size) | (go_at_call 10; refine (pa_impl A Q l cap cb eb t b _ (Hr.out.at_ hb1w) (HB.out.at_ hb1w) hnb).mono ?_; rw [HPB.out]; rintro e2 w2 ⟨rfl, hb2⟩; have hb20 := below_aft hb1 hb2 hb1.size; have X2 := HXA.out.at_ hb20; have Y2 := HXB.out.at_ hb20; have hb2w := below_aft hb1w hb2 hb1w.size; clear x0 x1 y0 y1 y2 z0 z1 z2; obtain ⟨y0, y1, y2⟩ := X2; obtain ⟨z0, z1, z2⟩ := Y2) | (go_at_call 10; rw [HW.out]; refine (pa_impl A P l cap ca ea t a _ (Hr.out.at_ hb0) (HA.out.at_ hb0) hna).mono ?_; rw [HPA.out]; rintro e1 w1 ⟨rfl, hb1⟩; obtain ⟨x0, x1⟩ := HXT.out.at_ hb1; obtain ⟨y0, y1, y2⟩ := HXA.out.at_ hb1; obtain ⟨z0, z1, z2⟩ := HXB.out.at_ hb1; have hb1w := below_aft hb0 hb1 hb0.size))
        go_ret
        exact ⟨ret_bool HF.out.symm, hb3w⟩
end Go.Proofs.Ytakhobhmplneeaa
/-
  Lists of lists of numbers, as they lie in memory; the functions that count, copy, compare and mark them. No statement is proved here.
-/
namespace Go.Proofs.Ytakhobhmplneeaa
open Go.RowKit Go.Sort
set_option maxRecDepth 100000
set_option linter.unusedVariables false
/-- Numbers in a row below B. -/
def RIs (w : World) (B : Nat) (A : Option Addr) (l : List Int) : Prop := l.length ≤ maxLen ∧ ∀ k (h : k < l.length), ∃ b off, A = some ⟨b, off, none⟩ ∧ b < B ∧ w.cell? ⟨b, off + k, none⟩ = some (.int .i64 l[k])
def RIss (w : World) (B : Nat) (A : Option Addr) (l : List (List Int)) : Prop := l.length ≤ maxLen ∧ ∀ k (h : k < l.length), ∃ b off A' c, A = some ⟨b, off, none⟩ ∧ b < B ∧ w.cell? ⟨b, off + k, none⟩ = some (.slice A' l[k].length c) ∧ RIs w B A' l[k]
section
variable {w w' : World} {B B' : Nat} {A : Option Addr}
theorem RIs.keep {l : List Int} (h : RIs w B A l) (hk : ∀ p : Addr, p.block < B → w'.cell? p = w.cell? p) (hB : B ≤ B') : RIs w' B' A l :=
  ⟨h.1, fun k hk' => by
    obtain ⟨b, off, e, hb, c0⟩ := h.2 k hk'
    exact ⟨b, off, e, by omega, (hk _ hb).trans c0⟩⟩
theorem RIss.keep {l : List (List Int)} (h : RIss w B A l) (hk : ∀ p : Addr, p.block < B → w'.cell? p = w.cell? p) (hB : B ≤ B') : RIss w' B' A l :=
  ⟨h.1, fun k hk' => by
    obtain ⟨b, off, A', c, e, hb, c0, hm⟩ := h.2 k hk'
    exact ⟨b, off, A', c, e, by omega, (hk _ hb).trans c0, hm.keep hk hB⟩⟩
theorem RIs.below {B0 : Nat} {l : List Int} (h : RIs w B A l) (hb : Below B0 w w') (hB : B ≤ B0) : RIs w' B A l := h.keep (fun _ hp => hb.cell (Nat.lt_of_lt_of_le hp hB)) (Nat.le_refl _)
theorem RIss.below {B0 : Nat} {l : List (List Int)} (h : RIss w B A l) (hb : Below B0 w w') (hB : B ≤ B0) : RIss w' B A l := h.keep (fun _ hp => hb.cell (Nat.lt_of_lt_of_le hp hB)) (Nat.le_refl _)
theorem RIs.at_ {l : List Int} (h : RIs w w.heap.size A l) (hb : Below w.heap.size w w') : RIs w' w'.heap.size A l := h.keep (fun _ hp => hb.cell hp) hb.size
theorem RIss.at_ {l : List (List Int)} (h : RIss w w.heap.size A l) (hb : Below w.heap.size w w') : RIss w' w'.heap.size A l := h.keep (fun _ hp => hb.cell hp) hb.size
theorem RIs.nil : RIs w B A [] := ⟨Nat.zero_le _, fun k h => absurd h (Nat.not_lt_zero _)⟩
end
theorem infoIi : (Try.prog.info? 3).map (fun i => (i.zero, i.size, i.bytes)) = some (some (.int .i64 0), 1, 8) := by kernel_rfl
end Go.Proofs.Ytakhobhmplneeaa
/-
  An append of no elements to a row of the call's own. No statement is proved here.
-/
namespace Go.Proofs.Ytakhobhmplneeaa
open Go.RowKit
set_option maxRecDepth 100000
set_option linter.unusedVariables false
theorem run_append_owned_zero {P : Program} {w : World} (base : Nat) (t ty e : TypeId) (i : TypeInfo) (size : Nat) (ht : P.underlying t = some (.slice e)) (hi : P.info? e = some i) (v : Value) (n : Nat) (xs : List Value) (hown : w.ownsRow base e size v n xs) (A : Option Addr) (c : Nat) :
    (Builtin.append_ #[t, t] ty #[v, .slice A 0 c]).run P w = .ok v w := by
  rcases hown.2 with ⟨rfl, rfl⟩ | ⟨g, cap, cur, rfl, _, _, hnc, _⟩
  · cases A <;> simp [Builtin.append_, run_underlying ht, sizeOf, typeInfo, hi, Builtin.lenOf, Builtin.firstCells, loadCells, loadCellsFrom]
  · cases A <;> simp [Builtin.append_, run_underlying ht, sizeOf, typeInfo, hi, Builtin.lenOf, Builtin.firstCells, hnc, storeCells, loadCells, loadCellsFrom]
theorem wpList_append_own_zero {P : Program} {w : World} {ops : Array Oper} {rest : List Oper} {o : Oper} {a : Act} {Q : Exit → Act → World → Prop} (hgd : o.guard = none) (s x : Operand) (t : TypeId)
    (ho : o.op = .call { callee := .builtin .append, args := #[s, x], argTypes := #[t, t] })
    (base : Nat) (e : TypeId) (i : TypeInfo) (size : Nat) (ht : P.underlying t = some (.slice e)) (hi : P.info? e = some i)
    (v : Value) (n : Nat) (xs : List Value) (hs : a.eval s = v) (hown : w.ownsRow base e size v n xs) (A : Option Addr) (c : Nat) (hx : a.eval x = .slice A 0 c)
    (h : wpList P ops Q rest (a.put o.dst v) w) : wpList P ops Q (o :: rest) a w := by
  refine wpList_plain hgd fun K hK => ?_
  have hrun := run_append_owned_zero (P := P) (w := w) base t o.type e i size ht hi v n xs hown A c
  unfold Oper.wp
  simp [execOp, ho, resolve, invoke, builtin, hs, hx, hrun, Result.andThen]
  exact hK _ _ h
theorem wpList_append_own_any {P : Program} {w : World} {ops : Array Oper} {rest : List Oper} {o : Oper} {a : Act} {Q : Exit → Act → World → Prop} (hgd : o.guard = none) (s x : Operand) (t : TypeId)
    (ho : o.op = .call { callee := .builtin .append, args := #[s, x], argTypes := #[t, t] })
    (base : Nat) (e : TypeId) (i : TypeInfo) (z : Value) (size bytes : Nat) (ht : P.underlying t = some (.slice e)) (hi : P.info? e = some i) (hz : i.zero = some z)
    (hsize : i.size = size) (hby : i.bytes = bytes) (hzs : z.cells.size = size) (hsz : 0 < size)
    (v : Value) (n : Nat) (xs : List Value) (hs : a.eval s = v) (hown : w.ownsRow base e size v n xs)
    (A : Option Addr) (m c : Nat) (news : List Value) (hx : a.eval x = .slice A m c) (hl : news.length = m * size) (hnews : 0 < m → ∃ ad, A = some ad ∧ ∀ j u, news[j]? = some u → w.cell? (ad.add j) = some u) (h1 : ∀ u ∈ news, u.oneCell' = true)
    (h63 : n + m ≤ maxLen) (hbytes : (n + m) * bytes ≤ 140737488355328) (hbase : base ≤ w.heap.size)
    (h : ∀ v' w', w'.ownsRow base e size v' (n + m) (xs ++ news) → w.grownBy w' v.ownBlock → (v'.ownBlock = v.ownBlock ∨ v'.ownBlock = some w.heap.size) → wpList P ops Q rest (a.put o.dst v') w') : wpList P ops Q (o :: rest) a w := by
  by_cases hm : 0 < m
  · obtain ⟨ad, rfl, hc⟩ := hnews hm
    exact wpList_append_own_at w hgd s x t ho base e i z size bytes ht hi hz hsize hby hzs hsz v n xs hs hown ad m c news hx hl hc h1 h63 hbytes hbase (fun v' w' a1 a2 _ a4 => h v' w' a1 a2 a4)
  · obtain rfl : m = 0 := by omega
    have hn : news = [] := List.eq_nil_of_length_eq_zero (by omega)
    subst hn
    refine wpList_append_own_zero hgd s x t ho base e i size ht hi v n xs hs hown A c hx (h v w ?_ (World.grownBy.refl _ _) (.inl rfl))
    simpa using hown
end Go.Proofs.Ytakhobhmplneeaa
