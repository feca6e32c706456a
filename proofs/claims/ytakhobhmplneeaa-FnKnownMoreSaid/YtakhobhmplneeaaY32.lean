/-
  KnownMore of the program and of the document. No statement is proved here.
-/
import Derived.Test.YtakhobhmplneeaaY30
import Derived.Test.YtakhobhmplneeaaY31
import Derived.Test.YtakhobhmplneeaaY00
import Derived.Test.YtakhobhmplneeaaY22
import Derived.LaidEqlPtr
import Derived.MapKept
import Derived.Maps.Own
namespace Go.Proofs.Ytakhobhmplneeaa
open Go.RowKit Go.Sort Go.Deep
set_option maxRecDepth 100000
set_option linter.unusedVariables false
theorem below_box3k {w w' : World} {o o' o'' : Obj} (h : ((w.alloc o).alloc o').alloc o'' = w') : Below w.heap.size w w' := by
  rw [← h]; exact (((Below.refl _ _).alloc (Nat.le_refl _) _).alloc (by simp) _).alloc (by simp <;> omega) _
noncomputable def kmT (l : List Da) (t : Ty) (a b : Vl) : Bool := paT l t a && (paT l t b && kmV 10 a b)
theorem paT_parts {l : List Da} {t : Ty} {v : Vl} (h : paT l t v = true) : TyOK l t ∧ fitH l 10 t v = true := by
  unfold paT isH at h
  rw [Bool.and_eq_true, Bool.and_eq_true] at h
  refine ⟨Classical.byContradiction fun hn => ?_, h.2.1⟩
  rw [dec_f hn] at h; cases h.1
set_option maxHeartbeats 1600000 in
theorem km_spec (A P Q : Option Addr) (l : List Da) (cap ca cb ea eb : Nat) (t : Ty) (a b : Vl) (w : World) (hr : RDas w w.heap.size A l) (ha : RVs ea w w.heap.size P a.kids) (hb : RVs eb w w.heap.size Q b.kids) (hna : wV a ≤ 16000000) (hnb : wV b ≤ 16000000) :
    Calls Try.prog 9 #[.slice A l.length cap, .agg #[.int .i64 t.data, .int .i64 t.index], .agg #[.int .i64 a.ctor, .int .i64 a.n, .slice P a.kids.length ca], .agg #[.int .i64 b.ctor, .int .i64 b.n, .slice Q b.kids.length cb]] w fun e w' => e = .returned (.bool (kmT l t a b)) ∧ Below w.heap.size w w' := by
  have Hr := Lib.hid hr
  have HA := Lib.hid ha
  have HB := Lib.hid hb
  have IK := Lib.hid (kmS_any l 10)
  clear hr ha hb
  generalize hw0 : ((w.alloc (.cells #[.int .i64 t.data, .int .i64 t.index] 25)).alloc (.cells #[.int .i64 a.ctor, .int .i64 a.n, .slice P a.kids.length ca] 28)).alloc (.cells #[.int .i64 b.ctor, .int .i64 b.n, .slice Q b.kids.length cb] 28) = w0
  have hb0 : Below w.heap.size w w0 := below_box3k hw0
  have HXT : Hid (Bx w0 w.heap.size t) := by rw [← hw0]; exact ⟨by simp [go_sem], by simp [go_sem]⟩
  have HXA : Hid (VBx w0 (w.heap.size + 1) a.ctor a.n (.slice P a.kids.length ca)) := by rw [← hw0]; exact ⟨by simp [go_sem], by simp [go_sem], by simp [go_sem]⟩
  have HXB : Hid (VBx w0 (w.heap.size + 2) b.ctor b.n (.slice Q b.kids.length cb)) := by rw [← hw0]; exact ⟨by simp [go_sem], by simp [go_sem], by simp [go_sem]⟩
  have HW := Lib.hid hw0
  clear hw0
  cases hpa : paT l t a
  · have HPA := Lib.hid hpa
    have HF : Hid (kmT l t a b = false) := by unfold Hid kmT; rw [hpa]; rfl
    clear hpa
    go_enter Try.func9, Try.ntmps9
    go_wp2_with (go_at_call 21; rw [HW.out]; refine (pa_spec A P l cap ca ea t a _ (Hr.out.at_ hb0) (HA.out.at_ hb0) hna).mono ?_; rw [HPA.out]; rintro e1 w1 ⟨rfl, hb1⟩; obtain ⟨x0, x1⟩ := HXT.out.at_ hb1; obtain ⟨y0, y1, y2⟩ := HXA.out.at_ hb1; obtain ⟨z0, z1, z2⟩ := HXB.out.at_ hb1; have hb1w := below_aft hb0 hb1 hb0.size)
    go_ret
    exact ⟨ret_bool HF.out.symm, hb1w⟩
  · have HPA := Lib.hid hpa
    have HFA := Lib.hid (paT_parts hpa).2
    cases hpb : paT l t b
    · have HPB := Lib.hid hpb
      have HF : Hid (kmT l t a b = false) := by unfold Hid kmT; rw [hpa, hpb]; rfl
      clear hpa hpb
      go_enter Try.func9, Try.ntmps9
      go_wp2_with (first | (go_at_call 21; refine (pa_spec A Q l cap cb eb t b _ (Hr.out.at_ hb1w) (HB.out.at_ hb1w) hnb).mono ?_; rw [HPB.out]; rintro e2 w2 ⟨rfl, hb2⟩; have hb20 := below_aft hb1 hb2 hb1.size; have X2 := HXA.out.at_ hb20; have Y2 := HXB.out.at_ hb20; have hb2w := below_aft hb1w hb2 hb1w.size; clear x0 x1 y0 y1 y2 z0 z1 z2; obtain ⟨y0, y1, y2⟩ := X2; obtain ⟨z0, z1, z2⟩ := Y2) | (go_at_call 21; rw [HW.out]; refine (pa_spec A P l cap ca ea t a _ (Hr.out.at_ hb0) (HA.out.at_ hb0) hna).mono ?_; rw [HPA.out]; rintro e1 w1 ⟨rfl, hb1⟩; obtain ⟨x0, x1⟩ := HXT.out.at_ hb1; obtain ⟨y0, y1, y2⟩ := HXA.out.at_ hb1; obtain ⟨z0, z1, z2⟩ := HXB.out.at_ hb1; have hb1w := below_aft hb0 hb1 hb0.size))
      go_ret
      exact ⟨ret_bool HF.out.symm, hb2w⟩
    · have HPB := Lib.hid hpb
      have HFB := Lib.hid (paT_parts hpb).2
      have HF : Hid (kmT l t a b = kmV 10 a b) := by unfold Hid kmT; rw [hpa, hpb]; rfl
      clear hpa hpb
      generalize hk : kmV 10 a b = r at HF
      have HK := Lib.hid hk
      clear hk
      cases r
      all_goals
        go_enter Try.func9, Try.ntmps9
        go_wp2_with (first | (go_at_call 22; refine (IK.out.known t a b P Q ca cb ea eb _ _ HK.out HFA.out HFB.out (HA.out.at_ hb2w) (HB.out.at_ hb2w)).mono ?_; rintro e3 w3 ⟨rfl, hb3⟩; have hb3w := below_aft hb2w hb3 hb2w.size) | (go_at_call 21; refine (pa_spec A Q l cap cb eb t b _ (Hr.out.at_ hb1w) (HB.out.at_ hb1w) hnb).mono ?_; rw [HPB.out]; rintro e2 w2 ⟨rfl, hb2⟩; have hb20 := below_aft hb1 hb2 hb1.size; have X2 := HXA.out.at_ hb20; have Y2 := HXB.out.at_ hb20; have hb2w := below_aft hb1w hb2 hb1w.size; clear x0 x1 y0 y1 y2 z0 z1 z2; obtain ⟨y0, y1, y2⟩ := X2; obtain ⟨z0, z1, z2⟩ := Y2) | (go_at_call 21; rw [HW.out]; refine (pa_spec A P l cap ca ea t a _ (Hr.out.at_ hb0) (HA.out.at_ hb0) hna).mono ?_; rw [HPA.out]; rintro e1 w1 ⟨rfl, hb1⟩; obtain ⟨x0, x1⟩ := HXT.out.at_ hb1; obtain ⟨y0, y1, y2⟩ := HXA.out.at_ hb1; obtain ⟨z0, z1, z2⟩ := HXB.out.at_ hb1; have hb1w := below_aft hb0 hb1 hb0.size))
        go_ret
        exact ⟨ret_bool HF.out.symm, hb3w⟩
set_option maxHeartbeats 1600000 in
theorem km_impl (A P Q : Option Addr) (l : List Da) (cap ca cb ea eb : Nat) (t : Ty) (a b : Vl) (w : World) (hr : RDas w w.heap.size A l) (ha : RVs ea w w.heap.size P a.kids) (hb : RVs eb w w.heap.size Q b.kids) (hna : wV a ≤ 16000000) (hnb : wV b ≤ 16000000) :
    Calls Try.prog 8 #[.slice A l.length cap, .agg #[.int .i64 t.data, .int .i64 t.index], .agg #[.int .i64 a.ctor, .int .i64 a.n, .slice P a.kids.length ca], .agg #[.int .i64 b.ctor, .int .i64 b.n, .slice Q b.kids.length cb]] w fun e w' => e = .returned (.bool (kmT l t a b)) ∧ Below w.heap.size w w' := by
  have Hr := Lib.hid hr
  have HA := Lib.hid ha
  have HB := Lib.hid hb
  have IK := Lib.hid (kmI_any l 10)
  clear hr ha hb
  generalize hw0 : ((w.alloc (.cells #[.int .i64 t.data, .int .i64 t.index] 25)).alloc (.cells #[.int .i64 a.ctor, .int .i64 a.n, .slice P a.kids.length ca] 28)).alloc (.cells #[.int .i64 b.ctor, .int .i64 b.n, .slice Q b.kids.length cb] 28) = w0
  have hb0 : Below w.heap.size w w0 := below_box3k hw0
  have HXT : Hid (Bx w0 w.heap.size t) := by rw [← hw0]; exact ⟨by simp [go_sem], by simp [go_sem]⟩
  have HXA : Hid (VBx w0 (w.heap.size + 1) a.ctor a.n (.slice P a.kids.length ca)) := by rw [← hw0]; exact ⟨by simp [go_sem], by simp [go_sem], by simp [go_sem]⟩
  have HXB : Hid (VBx w0 (w.heap.size + 2) b.ctor b.n (.slice Q b.kids.length cb)) := by rw [← hw0]; exact ⟨by simp [go_sem], by simp [go_sem], by simp [go_sem]⟩
  have HW := Lib.hid hw0
  clear hw0
  cases hpa : paT l t a
  · have HPA := Lib.hid hpa
    have HF : Hid (kmT l t a b = false) := by unfold Hid kmT; rw [hpa]; rfl
    clear hpa
    go_enter Try.func8, Try.ntmps8
    go_wp2_with (go_at_call 10; rw [HW.out]; refine (pa_impl A P l cap ca ea t a _ (Hr.out.at_ hb0) (HA.out.at_ hb0) hna).mono ?_; rw [HPA.out]; rintro e1 w1 ⟨rfl, hb1⟩; obtain ⟨x0, x1⟩ := HXT.out.at_ hb1; obtain ⟨y0, y1, y2⟩ := HXA.out.at_ hb1; obtain ⟨z0, z1, z2⟩ := HXB.out.at_ hb1; have hb1w := below_aft hb0 hb1 hb0.size)
    go_ret
    exact ⟨ret_bool HF.out.symm, hb1w⟩
  · have HPA := Lib.hid hpa
    have HFA := Lib.hid (paT_parts hpa).2
    cases hpb : paT l t b
    · have HPB := Lib.hid hpb
      have HF : Hid (kmT l t a b = false) := by unfold Hid kmT; rw [hpa, hpb]; rfl
      clear hpa hpb
      go_enter Try.func8, Try.ntmps8
      go_wp2_with (first | (go_at_call 10; refine (pa_impl A Q l cap cb eb t b _ (Hr.out.at_ hb1w) (HB.out.at_ hb1w) hnb).mono ?_; rw [HPB.out]; rintro e2 w2 ⟨rfl, hb2⟩; have hb20 := below_aft hb1 hb2 hb1.size; have X2 := HXA.out.at_ hb20; have Y2 := HXB.out.at_ hb20; have hb2w := below_aft hb1w hb2 hb1w.size; clear x0 x1 y0 y1 y2 z0 z1 z2; obtain ⟨y0, y1, y2⟩ := X2; obtain ⟨z0, z1, z2⟩ := Y2) | (go_at_call 10; rw [HW.out]; refine (pa_impl A P l cap ca ea t a _ (Hr.out.at_ hb0) (HA.out.at_ hb0) hna).mono ?_; rw [HPA.out]; rintro e1 w1 ⟨rfl, hb1⟩; obtain ⟨x0, x1⟩ := HXT.out.at_ hb1; obtain ⟨y0, y1, y2⟩ := HXA.out.at_ hb1; obtain ⟨z0, z1, z2⟩ := HXB.out.at_ hb1; have hb1w := below_aft hb0 hb1 hb0.size))
      go_ret
      exact ⟨ret_bool HF.out.symm, hb2w⟩
    · have HPB := Lib.hid hpb
      have HFB := Lib.hid (paT_parts hpb).2
      have HF : Hid (kmT l t a b = kmV 10 a b) := by unfold Hid kmT; rw [hpa, hpb]; rfl
      clear hpa hpb
      generalize hk : kmV 10 a b = r at HF
      have HK := Lib.hid hk
      clear hk
      cases r
      all_goals
        go_enter Try.func8, Try.ntmps8
        go_wp2_with (first | (go_at_call 20; refine (IK.out.known t a b P Q ca cb ea eb _ _ HK.out HFA.out HFB.out (HA.out.at_ hb2w) (HB.out.at_ hb2w)).mono ?_; rintro e3 w3 ⟨rfl, hb3⟩; have hb3w := below_aft hb2w hb3 hb2w.size) | (go_at_call 10; refine (pa_impl A Q l cap cb eb t b _ (Hr.out.at_ hb1w) (HB.out.at_ hb1w) hnb).mono ?_; rw [HPB.out]; rintro e2 w2 ⟨rfl, hb2⟩; have hb20 := below_aft hb1 hb2 hb1.size; have X2 := HXA.out.at_ hb20; have Y2 := HXB.out.at_ hb20; have hb2w := below_aft hb1w hb2 hb1w.size; clear x0 x1 y0 y1 y2 z0 z1 z2; obtain ⟨y0, y1, y2⟩ := X2; obtain ⟨z0, z1, z2⟩ := Y2) | (go_at_call 10; rw [HW.out]; refine (pa_impl A P l cap ca ea t a _ (Hr.out.at_ hb0) (HA.out.at_ hb0) hna).mono ?_; rw [HPA.out]; rintro e1 w1 ⟨rfl, hb1⟩; obtain ⟨x0, x1⟩ := HXT.out.at_ hb1; obtain ⟨y0, y1, y2⟩ := HXA.out.at_ hb1; obtain ⟨z0, z1, z2⟩ := HXB.out.at_ hb1; have hb1w := below_aft hb0 hb1 hb0.size))
        go_ret
        exact ⟨ret_bool HF.out.symm, hb3w⟩
end Go.Proofs.Ytakhobhmplneeaa
/-
  Knowledge is an order: plain mathematics. No statement is proved here.
-/
namespace Go.Proofs.Ytakhobhmplneeaa
open Go.RowKit
set_option maxRecDepth 100000
set_option linter.unusedVariables false
theorem upto_all2 {f : Nat → Bool} : ∀ n, (∀ k, k < n → f k = true) → upto f n = true
  | 0, _ => rfl
  | n + 1, h => upto_t (upto_all2 n (fun k hk => h k (by omega))) (h n (by omega))
theorem vl_ext {a b : Vl} (h1 : a.ctor = b.ctor) (h2 : a.n = b.n) (h3 : a.kids = b.kids) : a = b := by
  cases a; cases b
  simp only [Vl.ctor, Vl.n, Vl.kids] at h1 h2 h3
  subst h1 h2 h3; rfl
theorem km_refl (l : List Da) : ∀ (d : Nat) (t : Ty) (a : Vl), fitH l d t a = true → kmV d a a = true
  | 0, _, _, h => by rw [fitH_zero] at h; cases h
  | d + 1, t, a, h => by
    cases hh : holeV a
    · rw [km_go hh rfl rfl]
      obtain ⟨hl, hk⟩ := fitH_kids hh h
      exact upto_all2 _ (fun k hk' => by rw [kmK_at hk' hk']; exact km_refl l d _ _ (hk k (by omega) hk'))
    · exact km_hole hh
theorem km_anti (l : List Da) : ∀ (d : Nat) (t : Ty) (a b : Vl), fitH l d t a = true → fitH l d t b = true → kmV d a b = true → kmV d b a = true → a = b
  | 0, _, _, _, h, _, _, _ => by rw [fitH_zero] at h; cases h
  | d + 1, t, a, b, ha, hb, hab, hba => by
    cases hh : holeV b
    · have e1 : a.ctor = b.ctor := Classical.byContradiction fun hx => by rw [km_ctor hh hx] at hab; cases hab
      have e2 : a.n = b.n := Classical.byContradiction fun hx => by rw [km_n hh hx] at hab; cases hab
      have hb2 : ¬ b.ctor = -2 := fun h => by rw [fitH_two h, hh] at hb; cases hb
      have hha : holeV a = false := holeV_no (by rw [e1]; exact hb2)
      obtain ⟨hl, hs⟩ := same2_of ha hb hh e1
      rw [km_go hh e1 e2] at hab
      rw [km_go hha e1.symm e2.symm] at hba
      refine vl_ext e1 e2 (List.ext_getElem hl (fun k h h' => ?_))
      obtain ⟨tk, f1, f2⟩ := hs k h h'
      have g1 := upto_get hab h'
      have g2 := upto_get hba h
      rw [kmK_at h h'] at g1
      rw [kmK_at h' h] at g2
      exact km_anti l d tk _ _ f1 f2 g1 g2
    · obtain ⟨p1, p2, p3⟩ := holeV_parts hh
      cases hha : holeV a
      · exfalso
        have e1 : b.ctor = a.ctor := Classical.byContradiction fun hx => by rw [km_ctor hha hx] at hba; cases hba
        have h2 : a.ctor = -2 := by rw [← e1]; exact p1
        rw [fitH_two h2, hha] at ha; cases ha
      · obtain ⟨q1, q2, q3⟩ := holeV_parts hha
        exact vl_ext (by rw [p1, q1]) (by rw [p2, q2]) (by rw [List.eq_nil_of_length_eq_zero p3, List.eq_nil_of_length_eq_zero q3])
theorem kmT_refl (l : List Da) (t : Ty) (a : Vl) : kmT l t a a = paT l t a := by
  unfold kmT
  cases h : paT l t a
  · rfl
  · rw [km_refl l 10 t a (paT_parts h).2]; rfl
theorem kmT_anti {l : List Da} {t : Ty} {a b : Vl} (h : kmT l t a b = true) : kmT l t b a = dec (a = b) := by
  have h0 := h
  unfold kmT at h
  rw [Bool.and_eq_true, Bool.and_eq_true] at h
  obtain ⟨ha, hb, hk⟩ := h
  by_cases e : a = b
  · rw [dec_t e]; subst e; exact h0
  · rw [dec_f e]
    unfold kmT
    rw [ha, hb]
    cases hx : kmV 10 b a
    · rfl
    · exact absurd (km_anti l 10 t a b (paT_parts ha).2 (paT_parts hb).2 hk hx) e
end Go.Proofs.Ytakhobhmplneeaa
/-
  A map that the call has made, whose keys are the places of two lists, as a list of keys. No statement is proved here.
-/
namespace Go.Proofs.Ytakhobhmplneeaa
open Go Go.RowKit Go.ChangeMaps Go.MapKept
set_option maxRecDepth 100000
set_option linter.unusedVariables false
set_option linter.unusedSimpArgs false
theorem t1_V (e : Bool) (a b : Option Addr) (n m : Int) (w : World) : (Instr.checkKey e 10000 76 (.agg #[.pointer a, .int .i64 n, .pointer b, .int .i64 m])).run Try.prog w = .ok () w := by kernel_rfl
def LiesPV (w : World) (a : Option Addr) : Prop := ∀ x, a = some x → ∃ c t, w.heap[x.block]? = some (.cells c t (0, 0))
theorem eqp_V {tp te : Nat} {j : TypeInfo} (hp : Try.prog.underlying tp = some (.pointer te)) (hte : Try.prog.info? te = some j) (hsz : j.size ≠ 0) (d : Nat) (a b : Option Addr) (w : World) (ha : LiesPV w a) (hb : LiesPV w b)  : (Op.equalIn (d + 1) tp (.pointer a) (.pointer b)).run Try.prog w = .ok (decide (a = b)) w := by
  cases a with
  | none => cases b with
    | none => simp [Op.equalIn, run_underlying hp]
    | some y => simp [Op.equalIn, run_underlying hp]
  | some x => cases b with
    | none => simp [Op.equalIn, run_underlying hp]
    | some y =>
      by_cases e : x = y
      · subst e
        simp [Op.equalIn, run_underlying hp, sizeOf, typeInfo, hte, hsz, run_sameAddr_same]
      · obtain ⟨ca, ta, h1⟩ := ha x rfl
        obtain ⟨cb, tb, h2⟩ := hb y rfl
        simp [Op.equalIn, run_underlying hp, sizeOf, typeInfo, hte, hsz, run_sameAddr_other w e h1 h2, e]
theorem eqi_V {t : Nat} {k : IntKind} (ht : Try.prog.underlying t = some (.int k)) (d : Nat) (n m : Int) (w : World) : (Op.equalIn (d + 1) t (.int .i64 n) (.int .i64 m)).run Try.prog w = .ok (decide (n = m)) w := by
  simp [Op.equalIn, run_underlying ht]
  by_cases e : n = m <;> simp [e]
theorem heldL_V : Try.prog.stoodInHeld 74 = false := by kernel_rfl
theorem isAggQ_V (w : World) : (isAgg 72).run Try.prog w = .ok false w := by kernel_rfl
theorem isAggI_V (w : World) : (isAgg 3).run Try.prog w = .ok false w := by kernel_rfl
theorem isAggL_V (w : World) : (isAgg 74).run Try.prog w = .ok true w := by kernel_rfl
theorem szL_V (w : World) : (sizeOf 74).run Try.prog w = .ok 2 w := by kernel_rfl
theorem infE_V : (Try.prog.info? 28).map (fun j => j.size) = some 3 := by kernel_rfl
theorem infE'_V : ∃ j, Try.prog.info? 28 = some j ∧ j.size ≠ 0 := by
  have h := infE_V
  cases e : Try.prog.info? 28 with
  | none => rw [e] at h; cases h
  | some j => rw [e] at h; injection h with h; exact ⟨j, rfl, by have h : j.size = 3 := h; omega⟩
theorem runProg_V (w : World) : Sem.run Try.prog (Sem.program Sem.pure) w = .ok Try.prog w := by kernel_rfl
theorem part1_V (a : Option Addr) (n : Int) (w : World) : (part 72 #[.pointer a, .int .i64 n] 0).run Try.prog w = .ok (.pointer a) w := by simp [part, isAggQ_V]
theorem part2_V (a : Option Addr) (n : Int) (w : World) : (part 3 #[.pointer a, .int .i64 n] 1).run Try.prog w = .ok (.int .i64 n) w := by simp [part, isAggI_V]
theorem eqk_V (d : Nat) (a b : Option Addr) (n m : Int) (w : World) (ha : LiesPV w a) (hb : LiesPV w b) : (Op.equalIn (d + 2) 74 (.agg #[.pointer a, .int .i64 n]) (.agg #[.pointer b, .int .i64 m])).run Try.prog w = .ok (decide (a = b ∧ n = m)) w := by
  obtain ⟨j, hj, hs⟩ := infE'_V
  have h1 := eqp_V Try.underlying72 hj hs d a b w ha hb
  have h2 := eqi_V Try.underlying3 d n m w
  rw [Bool.decide_and]
  generalize decide (a = b) = p at *
  generalize decide (n = m) = q at *
  unfold Op.equalIn
  cases p <;> cases q <;> simp [run_underlying Try.underlying74, heldL_V, program, runProg_V, part1_V, part2_V, h1, h2]
theorem partA_V (a b : Option Addr) (n m : Int) (w : World) : (part 74 #[.pointer a, .int .i64 n, .pointer b, .int .i64 m] 0).run Try.prog w = .ok (.agg #[.pointer a, .int .i64 n]) w := by simp [part, isAggL_V, szL_V]
theorem partB_V (a b : Option Addr) (n m : Int) (w : World) : (part 74 #[.pointer a, .int .i64 n, .pointer b, .int .i64 m] 2).run Try.prog w = .ok (.agg #[.pointer b, .int .i64 m]) w := by simp [part, isAggL_V, szL_V]
theorem eqK_V (d : Nat) (a b a' b' : Option Addr) (n m n' m' : Int) (w : World) (ha : LiesPV w a) (hb : LiesPV w b) (ha' : LiesPV w a') (hb' : LiesPV w b') : (Op.equalIn (d + 3) 76 (.agg #[.pointer a, .int .i64 n, .pointer b, .int .i64 m]) (.agg #[.pointer a', .int .i64 n', .pointer b', .int .i64 m'])).run Try.prog w = .ok (decide ((a = a' ∧ n = n') ∧ b = b' ∧ m = m')) w := by
  have h1 := eqk_V d a a' n n' w ha ha'
  have h2 := eqk_V d b b' m m' w hb hb'
  rw [Bool.decide_and]
  generalize decide (a = a' ∧ n = n') = p at *
  generalize decide (b = b' ∧ m = m') = q at *
  unfold Op.equalIn
  cases p <;> cases q <;> simp [run_underlying Try.underlying76, szL_V, partA_V, partB_V, h1, h2, Std.Legacy.Range.forIn_eq_forIn_range', Std.Legacy.Range.size, List.range']
/-- A key of the map: the places of two lists. -/
structure KyV where
  a : Option Addr
  n : Nat
  b : Option Addr
  m : Nat
deriving DecidableEq
def KyV.v (k : KyV) : Value := .agg #[.pointer k.a, .int .i64 k.n, .pointer k.b, .int .i64 k.m]
def LiesKV (w : World) (k : KyV) : Prop := LiesPV w k.a ∧ LiesPV w k.b
theorem eqKy_V (d : Nat) (k k' : KyV) (w : World) (h : LiesKV w k) (h' : LiesKV w k') : (Op.equalIn (d + 3) 76 k.v k'.v).run Try.prog w = .ok (decide (k = k')) w := by
  have := eqK_V d k.a k.b k'.a k'.b k.n k.m k'.n k'.m w h.1 h.2 h'.1 h'.2
  unfold KyV.v
  rw [this]
  congr 1
  refine decide_eq_decide.2 ?_
  cases k; cases k'
  simp only [KyV.mk.injEq]
  constructor
  · rintro ⟨⟨rfl, h1⟩, rfl, h2⟩; exact ⟨rfl, by omega, rfl, by omega⟩
  · rintro ⟨rfl, rfl, rfl, rfl⟩; exact ⟨⟨rfl, rfl⟩, rfl, rfl⟩
/-- The entries of the map: each key with true. -/
def EsKV : List KyV → List MapEntry → Prop
  | [], [] => True
  | k :: S, e :: es => (e.key = k.v ∧ e.val = .bool true) ∧ EsKV S es
  | _, _ => False
theorem EsKV.push : ∀ {S : List KyV} {es : List MapEntry} (k : KyV) (e : MapEntry), EsKV S es → e.key = k.v → e.val = .bool true → EsKV (S ++ [k]) (es ++ [e])
  | [], [], k, e, _, h1, h2 => ⟨⟨h1, h2⟩, True.intro⟩
  | k' :: S, e' :: es, k, e, h, h1, h2 => ⟨h.1, EsKV.push k e h.2 h1 h2⟩
  | [], _ :: _, _, _, h, _, _ => h.elim
  | _ :: _, [], _, _, h, _, _ => h.elim
theorem findA_V (k : KyV) (w : World) (h : LiesKV w k) : ∀ (S : List KyV) (es : List MapEntry) (i : Nat), EsKV S es → (∀ k' ∈ S, LiesKV w k') → ∃ r, (Instr.findAsking 76 k.v es i).run Try.prog w = .ok r w ∧ (k ∈ S → ∃ j, r = some (j, .bool true)) ∧ (¬ k ∈ S → r = none)
  | [], [], i, _, _ => ⟨none, by simp [Instr.findAsking], fun h => (by cases h), fun _ => rfl⟩
  | [], _ :: _, _, hE, _ => hE.elim
  | _ :: _, [], _, hE, _ => hE.elim
  | k' :: S, e :: es, i, hE, hl => by
      obtain ⟨h1, h2⟩ := hE
      have hq := eqKy_V 9997 k k' w h (hl k' (List.mem_cons_self ..))
      by_cases e' : k = k'
      · subst e'
        refine ⟨some (i, .bool true), ?_, fun _ => ⟨i, rfl⟩, fun hn => absurd (List.mem_cons_self ..) hn⟩
        rw [decide_eq_true rfl] at hq
        simp [Instr.findAsking, Op.equal, Op.maxDepth, h1.1, h1.2, hq]
      · rw [decide_eq_false e'] at hq
        obtain ⟨r, hr, ha, hb⟩ := findA_V k w h S es (i + 1) h2 (fun x hx => hl x (List.mem_cons_of_mem _ hx))
        refine ⟨r, ?_, fun hm => ha ((List.mem_cons.1 hm).resolve_left e'), fun hn => hb (fun hm => hn (List.mem_cons_of_mem _ hm))⟩
        simp [Instr.findAsking, Op.equal, Op.maxDepth, h1.1, hq, hr]
def MapKyV (w : World) (b : Nat) (S : List KyV) : Prop := ∃ es clock, w.heap[b]? = some (.map es clock) ∧ EsKV S es.toList
theorem MapKyV.made (w : World) : MapKyV (w.alloc (.map #[] 0)) w.heap.size [] := ⟨#[], 0, by show (w.heap.push (.map #[] 0))[w.heap.size]? = _; simp, True.intro⟩
theorem MapKyV.keep {w w' : World} {b : Nat} {S : List KyV} (h : MapKyV w b S) (hb : w'.heap[b]? = w.heap[b]?) : MapKyV w' b S := by
  obtain ⟨es, c, h1, h2⟩ := h; exact ⟨es, c, hb.trans h1, h2⟩
theorem runFind_V (k : KyV) (w : World) (h : LiesKV w k) (S : List KyV) (es : Array MapEntry) (hE : EsKV S es.toList) (hl : ∀ k' ∈ S, LiesKV w k') : ∃ r, (Instr.findKey 76 k.v es.toList).run Try.prog w = .ok r w ∧ (k ∈ S → ∃ j, r = some (j, .bool true)) ∧ (¬ k ∈ S → r = none) := by
  obtain ⟨r, hr, ha, hb⟩ := findA_V k w h S es.toList 0 hE hl
  refine ⟨r, ?_, ha, hb⟩
  unfold Instr.findKey
  cases hE' : es.toList with
  | nil =>
    rw [hE'] at hr hE
    cases S with
    | cons k' S => exact hE.elim
    | nil =>
    rw [hb (by simp)]
    simp [run_underlying Try.underlying76, Instr.findNow]
  | cons e rest =>
    rw [hE'] at hr hE
    cases S with
    | nil => exact hE.elim
    | cons k' S =>
      obtain ⟨h1, h2⟩ := hE
      simp [run_underlying Try.underlying76, Instr.findNow, Instr.sameNow, h1.1, KyV.v]
      simpa [KyV.v] using hr
theorem MapKyV.look {w : World} {b : Nat} {S : List KyV} (h : MapKyV w b S) {k : KyV} (hk : LiesKV w k) (hl : ∀ k' ∈ S, LiesKV w k') : (Instr.lookup 65 (.map (some b)) k.v false).run Try.prog w = .ok (.bool (decide (k ∈ S))) w := by
  obtain ⟨es, c, h1, h2⟩ := h
  obtain ⟨r, hr, ha, hb⟩ := runFind_V k w hk S es h2 hl
  have hc := t1_V es.isEmpty k.a k.b k.n k.m w
  have hz : (zeroValue 4).run Try.prog w = .ok (.bool false) w := by kernel_rfl
  by_cases hm : k ∈ S
  · obtain ⟨j, rfl⟩ := ha hm
    rw [decide_eq_true hm]
    simp [Instr.lookup, run_underlying Try.underlying65, MapKept.run_getObj_map h1, KyV.v, hc, Result.andThen] at hr ⊢
    simp [hr]
  · rw [hb hm] at hr
    rw [decide_eq_false hm]
    simp [Instr.lookup, run_underlying Try.underlying65, MapKept.run_getObj_map h1, KyV.v, hc, hz, Result.andThen] at hr ⊢
    simp [hr, hz]
theorem MapKyV.put {w : World} {b : Nat} {S : List KyV} (h : MapKyV w b S) {k : KyV} (hk : LiesKV w k) (hl : ∀ k' ∈ S, LiesKV w k') (hn : ¬ k ∈ S) : ∃ w', (Instr.mapUpdate 65 (.map (some b)) k.v (.bool true)).run Try.prog w = .ok () w' ∧ MapKyV w' b (S ++ [k]) ∧ w.grownBy w' (some b) := by
  obtain ⟨es, c, h1, h2⟩ := h
  obtain ⟨r, hr, ha, hb⟩ := runFind_V k w hk S es h2 hl
  have hc := t1_V false k.a k.b k.n k.m w
  rw [hb hn] at hr
  refine ⟨setBlock w b (.map (es.push { key := k.v, val := .bool true, born := c }) (c + 1)), ?_, ⟨_, _, heap_setBlock_same h1 _, ?_⟩, ⟨rfl, rfl, rfl, by simp [setBlock], fun i _ hi => heap_setBlock_other h1 _ (fun e => hi (by rw [e]))⟩⟩
  · simp [Instr.mapUpdate, run_underlying Try.underlying65, MapKept.run_getObj_map h1, KyV.v, hc, Result.andThen] at hr ⊢
    simp [hr, MapKept.run_setObj_map _ h1, setBlock]
  · rw [Array.toList_push]
    exact EsKV.push k _ h2 rfl rfl
end Go.Proofs.Ytakhobhmplneeaa
/-
  The place of a list in memory: the program's keyOf. No statement is proved here.
-/
namespace Go.Proofs.Ytakhobhmplneeaa
open Go.RowKit Go.Sort Go.Deep
set_option maxRecDepth 100000
set_option linter.unusedVariables false
def kA (A : Option Addr) (n : Nat) : Option Addr := if n = 0 then none else A
set_option maxHeartbeats 1600000 in
theorem keyOfV_any (g n cap : Nat) (w : World) (hn : n ≤ maxLen) (h0 : 0 < n) :
    Calls Try.prog 41 #[.slice (some ⟨g, 0, none⟩) n cap] w fun e w' => e = .returned (.agg #[.pointer (some ⟨g, 0, none⟩), .int .i64 n]) ∧ Below w.heap.size w w' := by
  unfold maxLen at hn
  have q0 : ((n : Int) == 0) = false := ieq_f (by omega)
  have q1 : (0 : Int) < (n : Int) := by omega
  go_enter Try.func41, Try.ntmps41
  go_wp2_with fail
  refine bodyPost_ret (v := .agg #[.pointer (some ⟨g, 0, none⟩), .int .i64 n]) (by simp [results, Try.results41, go_sem]) rfl ⟨rfl, ?_⟩
  repeat (first | exact Below.refl _ _ | refine Below.setCell ?_ (by simp <;> omega) _ | refine Below.alloc ?_ (by simp <;> omega) _)
theorem keyOfV_nil (A : Option Addr) (cap : Nat) (w : World) :
    Calls Try.prog 41 #[.slice A 0 cap] w fun e w' => e = .returned (.agg #[.pointer none, .int .i64 0]) ∧ Below w.heap.size w w' := by
  go_enter Try.func41, Try.ntmps41
  go_wp2_with fail
  refine bodyPost_ret (v := .agg #[.pointer none, .int .i64 0]) (by simp [results, Try.results41, go_sem]) rfl ⟨rfl, ?_⟩
  repeat (first | exact Below.refl _ _ | refine Below.setCell ?_ (by simp <;> omega) _ | refine Below.alloc ?_ (by simp <;> omega) _)
end Go.Proofs.Ytakhobhmplneeaa
