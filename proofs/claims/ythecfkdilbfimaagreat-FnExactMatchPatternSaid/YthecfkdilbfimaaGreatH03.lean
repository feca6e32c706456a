/-
  The least depth of a type, and whether it has values: the program's functions and the document's. No statement is proved here.
-/
import Derived.Test.YthecfkdilbfimaaGreatH02
import Derived.Test.YthecfkdilbfimaaGreatG11
import Derived.Test.YthecfkdilbfimaaGreatG18
import Derived.Test.YthecfkdilbfimaaGreatG15
import Derived.Deep.RegionHeld3
import Derived.Lib.QuietBelow
namespace Go.Proofs.YthecfkdilbfimaaGreat
open Go.RowKit Go.Deep
set_option maxRecDepth 100000
set_option linter.unusedVariables false

theorem ldep_no {l : List Da} {t : Ty} (ht : t ∈ tysN l.length) (h : ¬ Inh l t) : ldep l t = 0 := by
  rcases ldep_is l t with ⟨h1, _⟩ | ⟨_, h2, _⟩
  · exact h1
  · exact absurd ⟨ht, _, h2⟩ h
theorem ldep_yes {l : List Da} {t : Ty} (h : Inh l t) : 0 < ldep l t := by
  obtain ⟨_, k, hk⟩ := h
  exact ldep_pos hk
theorem ret_pair {a b : Int} {c d : Bool} (h : a = b) (h2 : c = d) : Ending.returned (.tuple #[.int .i64 a, .bool c]) = .returned (.tuple #[.int .i64 b, .bool d]) := by rw [h, h2]
/-- The two results. -/
noncomputable def ldR (l : List Da) (t : Ty) : Int := if dec (TyOK l t) then ldep l t else 0
noncomputable def lbR (l : List Da) (t : Ty) : Bool := dec (TyOK l t ∧ Inh l t)

theorem depth_l (A : Option Addr) (l : List Da) (T : List Int) (cap N : Nat) (t : Ty) (hNT : T.length = N) (w : World) (hr : RInts w A T) (hw : WorldOK l) (hS : St l T (l.length * 4 + 1) 0 0) (ht : t ∈ tysN l.length) :
    Calls Tryz.prog 119 #[.slice A N cap, .agg #[.int .i64 t.data, .int .i64 t.index]] w fun e w' => e = .returned (.int .i64 (ldep l t)) ∧ Below w.heap.size w w' := by
  subst hNT
  rw [← dep_ldep hw hS ht]
  exact depth_any A T cap l.length t w hr hS.len hw.1 (tys_in ht)
theorem table_l (A : Option Addr) (l : List Da) (cap : Nat) (w : World) (hr : RDas w w.heap.size A l) (hw : WorldOK l) :
    Calls Tryz.prog 66 #[.slice A l.length cap] w fun e w' => ∃ T B, e = .returned (.slice (some ⟨B, 0, none⟩) (l.length * 4) (l.length * 4)) ∧ T.length = l.length * 4 ∧ RInts w' (some ⟨B, 0, none⟩) T ∧ St l T (l.length * 4 + 1) 0 0 ∧ Below w.heap.size w w' :=
  (table_any A l cap w hr hw).mono fun e w' ⟨T, he, hT, hS, hb⟩ => ⟨T, _, he, hS.len, hT.reads hS.len (by have := hw.1; omega), hS, hb⟩
theorem leastDepths_m (A : Option Addr) (l : List Da) (cap : Nat) (w : World) (hr : RDas w w.heap.size A l) (hw : WorldOK l) :
    Calls Tryz.prog 123 #[.slice A l.length cap] w fun e w' => ∃ mb, e = .returned (.map (some mb)) ∧ MapTy w' mb 400 (ldep l) (Inh l) ∧ Below w.heap.size w w' :=
  (leastDepths_any A l cap w hr hw).mono fun e w' ⟨he, hM, hb⟩ => ⟨_, he, hM, hb⟩

end Go.Proofs.YthecfkdilbfimaaGreat
/-
  Whether some value matches a pattern: plain mathematics. No statement is proved here.
-/
namespace Go.Proofs.YthecfkdilbfimaaGreat
open Go.RowKit
set_option maxRecDepth 100000
set_option linter.unusedVariables false

/-- Some value of a type matches a pattern that has the right shape down to so many levels. -/
noncomputable def smP (l : List Da) : Nat → Ty → Pt → Bool
  | 0, _, _ => false
  | d + 1, t, p =>
    if p.op = 1 ∨ p.op = 2 then dec (Inh l t)
    else if p.op = 3 then true
    else if p.op = 5 then smP l d t (p.kids.getD 0 default) || smP l d t (p.kids.getD 1 default)
    else if p.op = 6 then smP l d t (p.kids.getD 0 default)
    else upto (fun i => smP l d ((agR l t p.ctor).getD i default) (p.kids.getD i default)) (agR l t p.ctor).length
noncomputable def kidM (l : List Da) (d : Nat) (ats : List Ty) (ks : List Pt) (i : Nat) : Bool := smP l d (ats.getD i default) (ks.getD i default)
section
variable {l : List Da} {d : Nat} {t : Ty} {p : Pt}
theorem getD_kid {ks : List Pt} {i : Nat} (h : i < ks.length) : ks.getD i default = ks[i] := by
  rw [List.getD_eq_getElem?_getD, List.getElem?_eq_getElem h]; rfl
theorem kidM_at {ats : List Ty} {ks : List Pt} {i : Nat} (h : i < ats.length) (h' : i < ks.length) : kidM l d ats ks i = smP l d ats[i] ks[i] := by
  unfold kidM
  rw [List.getD_eq_getElem?_getD, List.getD_eq_getElem?_getD, List.getElem?_eq_getElem h, List.getElem?_eq_getElem h']; rfl
theorem smP_any (h : p.op = 1 ∨ p.op = 2) : smP l (d + 1) t p = dec (Inh l t) := by rw [smP, if_pos h]
theorem smP_int (h : p.op = 3) : smP l (d + 1) t p = true := by rw [smP, if_neg (by omega), if_pos h]
theorem smP_or (h : p.op = 5) (h0 : 0 < p.kids.length) (h1 : 1 < p.kids.length) : smP l (d + 1) t p = (smP l d t p.kids[0] || smP l d t p.kids[1]) := by
  rw [smP, if_neg (by omega), if_neg (by omega), if_pos h, getD_kid h0, getD_kid h1]
theorem smP_as (h : p.op = 6) (h0 : 0 < p.kids.length) : smP l (d + 1) t p = smP l d t p.kids[0] := by
  rw [smP, if_neg (by omega), if_neg (by omega), if_neg (by omega), if_pos h, getD_kid h0]
theorem smP_ctor (h : p.op = 4) : smP l (d + 1) t p = upto (kidM l d (agR l t p.ctor) p.kids) (agR l t p.ctor).length := by
  rw [smP, if_neg (by omega), if_neg (by omega), if_neg (by omega), if_neg (by omega)]; rfl
/-- The kinds of node that a pattern of the right shape has. -/
theorem own_ops (h : OwnOK l t p) : p.op = 1 ∨ p.op = 2 ∨ p.op = 3 ∨ p.op = 4 ∨ p.op = 5 ∨ p.op = 6 := by
  rcases h.2.2.2.2 with h | h | h | h | h | h
  · exact .inl h
  · exact .inr (.inl h)
  · exact .inr (.inr (.inr (.inr (.inl h))))
  · exact .inr (.inr (.inr (.inr (.inr h))))
  · exact .inr (.inr (.inl h.1))
  · exact .inr (.inr (.inr (.inl h.1)))
/-- A pattern of two alternatives has two parts, for the same type. -/
theorem or_partsP (h : shP l (d + 1) t p = true) (h5 : p.op = 5) : p.kids.length = 2 ∧ (∀ (h0 : 0 < p.kids.length), shP l d t p.kids[0] = true) ∧ (∀ (h1 : 1 < p.kids.length), shP l d t p.kids[1] = true) := by
  obtain ⟨ho, hl, hk⟩ := shP_parts h
  have ht : tysP l t p = [t, t] := by rw [tysP_other (by omega), h5]; rfl
  rw [ht] at hl
  refine ⟨hl, fun h0 => ?_, fun h1 => ?_⟩
  · have := hk 0 (by rw [ht]; simp) h0
    simpa only [ht, List.getElem_cons_zero] using this
  · have := hk 1 (by rw [ht]; simp) h1
    simpa only [ht, List.getElem_cons_succ, List.getElem_cons_zero] using this
theorem as_partsP (h : shP l (d + 1) t p = true) (h6 : p.op = 6) : p.kids.length = 1 ∧ (∀ (h0 : 0 < p.kids.length), shP l d t p.kids[0] = true) := by
  obtain ⟨ho, hl, hk⟩ := shP_parts h
  have ht : tysP l t p = [t] := by rw [tysP_other (by omega), h6]; rfl
  rw [ht] at hl
  refine ⟨hl, fun h0 => ?_⟩
  have := hk 0 (by rw [ht]; simp) h0
  simpa only [ht, List.getElem_cons_zero] using this
theorem ctor_partsP (h : shP l (d + 1) t p = true) (h4 : p.op = 4) : p.ctor ∈ ctR l t ∧ p.kids.length = (agR l t p.ctor).length ∧ ∀ i (h : i < (agR l t p.ctor).length) (h' : i < p.kids.length), shP l d (agR l t p.ctor)[i] p.kids[i] = true := by
  obtain ⟨ho, hl, hk⟩ := shP_parts h
  have ht := tysP_ctor (l := l) (t := t) h4
  refine ⟨ho.mem h4, by rw [← ht]; exact hl, fun i hi hi' => ?_⟩
  have := hk i (by rw [ht]; exact hi) hi'
  simpa only [ht] using this
theorem ldep_some (hw : t ∈ tysN l.length) : decide (0 < ldep l t) = dec (Inh l t) := by
  by_cases h : Inh l t
  · rw [dec_t h]; exact decide_eq_true (ldep_yes h)
  · rw [dec_f h, ldep_no hw h]; rfl
end
/-- What EmptyPattern tells. -/
noncomputable def emB (l : List Da) (t : Ty) (p : Pt) : Bool := pvT l t p && !smP l 10 t p
theorem emB_no {l : List Da} {t : Ty} {p : Pt} (h : pvT l t p = false) : emB l t p = false := by unfold emB; rw [h]; rfl
theorem emB_yes {l : List Da} {t : Ty} {p : Pt} (h : pvT l t p = true) : emB l t p = !smP l 10 t p := by unfold emB; rw [h]; rfl
end Go.Proofs.YthecfkdilbfimaaGreat
/-
  Whether some value matches a pattern: the document's function. No statement is proved here.
-/
namespace Go.Proofs.YthecfkdilbfimaaGreat
open Go.RowKit Go.Sort Go.Deep
set_option maxRecDepth 100000
set_option linter.unusedVariables false

def SmC (l : List Da) (d : Nat) : Prop := ∀ (A A2 D : Option Addr) (T : List Int) (cap cap2 ep e : Nat) (t : Ty) (p : Pt) (w : World), RDas w w.heap.size A l → RInts w A2 T → St l T (l.length * 4 + 1) 0 0 → TyOK l t → shP l d t p = true → RPs e w w.heap.size D p.kids →
  Calls Tryz.prog 65 #[.slice A l.length cap, .slice A2 (l.length * 4) cap2, .agg #[.int .i64 t.data, .int .i64 t.index], .agg #[.int .i64 p.op, .int .i64 p.ctor, .int .i64 p.n, .int .i64 p.m, .int .i64 p.var, .slice D p.kids.length ep]] w fun e w' => e = .returned (.bool (smP l d t p)) ∧ Below w.heap.size w w'
theorem SmC.known {l : List Da} {d : Nat} (h : SmC l d) (A A2 D : Option Addr) (T : List Int) (cap cap2 ep e : Nat) (t : Ty) (p : Pt) (b : Bool) (w : World) (hf : smP l d t p = b) (hr : RDas w w.heap.size A l) (hT : RInts w A2 T) (hS : St l T (l.length * 4 + 1) 0 0) (ht : TyOK l t) (hs : shP l d t p = true) (hv : RPs e w w.heap.size D p.kids) :
    Calls Tryz.prog 65 #[.slice A l.length cap, .slice A2 (l.length * 4) cap2, .agg #[.int .i64 t.data, .int .i64 t.index], .agg #[.int .i64 p.op, .int .i64 p.ctor, .int .i64 p.n, .int .i64 p.m, .int .i64 p.var, .slice D p.kids.length ep]] w fun e w' => e = .returned (.bool b) ∧ Below w.heap.size w w' := by
  rw [← hf]; exact h A A2 D T cap cap2 ep e t p w hr hT hS ht hs hv

set_option maxHeartbeats 1600000 in
theorem smS_1 (l : List Da) (d : Nat) (ih : SmC l d) (A A2 D : Option Addr) (T : List Int) (cap cap2 ep e : Nat) (t : Ty) (p : Pt) (w : World) (hr : RDas w w.heap.size A l) (hT : RInts w A2 T) (hS : St l T (l.length * 4 + 1) 0 0) (ht : TyOK l t) (hs : shP l (d + 1) t p = true) (hv : RPs e w w.heap.size D p.kids) (hop : p.op = 1) :
    Calls Tryz.prog 65 #[.slice A l.length cap, .slice A2 (l.length * 4) cap2, .agg #[.int .i64 t.data, .int .i64 t.index], .agg #[.int .i64 p.op, .int .i64 p.ctor, .int .i64 p.n, .int .i64 p.m, .int .i64 p.var, .slice D p.kids.length ep]] w fun e w' => e = .returned (.bool (smP l (d + 1) t p)) ∧ Below w.heap.size w w' := by
  have hl := hv.1
  unfold maxLen at hl
  have Hr := Lib.hid hr
  have HTT := Lib.hid hT
  have HS := Lib.hid hS
  have HK := Lib.hid ht
  have HWO : Hid (WorldOK l) := ht.1
  have HV := Lib.hid hv
  have IH := Lib.hid ih
  have u1 := ieq_t hop
  have u2 : (p.op == 2) = false := ieq_f (by omega)
  have u3 : (p.op == 3) = false := ieq_f (by omega)
  have u4 : (p.op == 4) = false := ieq_f (by omega)
  have u5 : (p.op == 5) = false := ieq_f (by omega)
  have u6 : (p.op == 6) = false := ieq_f (by omega)
  have HF := Lib.hid (smP_any (l := l) (d := d) (t := t) (p := p) (by omega))
  have HD := Lib.hid (ldep_some (ok_tys ht))
  clear hr hT hS ht hs hv ih hop
  generalize hw0 : (w.alloc (.cells #[.int .i64 t.data, .int .i64 t.index] 31)).alloc (.cells #[.int .i64 p.op, .int .i64 p.ctor, .int .i64 p.n, .int .i64 p.m, .int .i64 p.var, .slice D p.kids.length ep] 45) = w0
  have hb0 := below_box2 hw0
  have HXT : Hid (Bx w0 w.heap.size t) := by rw [← hw0]; exact ⟨by simp [go_sem], by simp [go_sem]⟩
  have HXP : Hid (PBx w0 (w.heap.size + 1) p (.slice D p.kids.length ep)) := by rw [← hw0]; exact ⟨by simp [go_sem], by simp [go_sem], by simp [go_sem], by simp [go_sem], by simp [go_sem], by simp [go_sem]⟩
  have HW := Lib.hid hw0
  clear hw0
  obtain ⟨x0, x1⟩ := HXT.out
  obtain ⟨y0, y1, y2, y3, y4, y5⟩ := HXP.out
  go_enter Tryz.func65, Tryz.ntmps65
  go_wp2_with fail
  rw [HW.out]
  refine (depth_l A2 l T _ _ t HS.out.len _ (HTT.out.at_ hb0) HWO.out HS.out (ok_tys HK.out)).mono ?_
  rintro e1 w1 ⟨rfl, hb1⟩
  have hb1w := below_aft hb0 hb1 hb0.size
  go_wp2_with fail
  go_ret
  exact ⟨ret_bool (by rw [HF.out, ← HD.out]), hb1w⟩
set_option maxHeartbeats 1600000 in
theorem smS_2 (l : List Da) (d : Nat) (ih : SmC l d) (A A2 D : Option Addr) (T : List Int) (cap cap2 ep e : Nat) (t : Ty) (p : Pt) (w : World) (hr : RDas w w.heap.size A l) (hT : RInts w A2 T) (hS : St l T (l.length * 4 + 1) 0 0) (ht : TyOK l t) (hs : shP l (d + 1) t p = true) (hv : RPs e w w.heap.size D p.kids) (hop : p.op = 2) :
    Calls Tryz.prog 65 #[.slice A l.length cap, .slice A2 (l.length * 4) cap2, .agg #[.int .i64 t.data, .int .i64 t.index], .agg #[.int .i64 p.op, .int .i64 p.ctor, .int .i64 p.n, .int .i64 p.m, .int .i64 p.var, .slice D p.kids.length ep]] w fun e w' => e = .returned (.bool (smP l (d + 1) t p)) ∧ Below w.heap.size w w' := by
  have hl := hv.1
  unfold maxLen at hl
  have Hr := Lib.hid hr
  have HTT := Lib.hid hT
  have HS := Lib.hid hS
  have HK := Lib.hid ht
  have HWO : Hid (WorldOK l) := ht.1
  have HV := Lib.hid hv
  have IH := Lib.hid ih
  have u1 : (p.op == 1) = false := ieq_f (by omega)
  have u2 := ieq_t hop
  have u3 : (p.op == 3) = false := ieq_f (by omega)
  have u4 : (p.op == 4) = false := ieq_f (by omega)
  have u5 : (p.op == 5) = false := ieq_f (by omega)
  have u6 : (p.op == 6) = false := ieq_f (by omega)
  have HF := Lib.hid (smP_any (l := l) (d := d) (t := t) (p := p) (by omega))
  have HD := Lib.hid (ldep_some (ok_tys ht))
  clear hr hT hS ht hs hv ih hop
  generalize hw0 : (w.alloc (.cells #[.int .i64 t.data, .int .i64 t.index] 31)).alloc (.cells #[.int .i64 p.op, .int .i64 p.ctor, .int .i64 p.n, .int .i64 p.m, .int .i64 p.var, .slice D p.kids.length ep] 45) = w0
  have hb0 := below_box2 hw0
  have HXT : Hid (Bx w0 w.heap.size t) := by rw [← hw0]; exact ⟨by simp [go_sem], by simp [go_sem]⟩
  have HXP : Hid (PBx w0 (w.heap.size + 1) p (.slice D p.kids.length ep)) := by rw [← hw0]; exact ⟨by simp [go_sem], by simp [go_sem], by simp [go_sem], by simp [go_sem], by simp [go_sem], by simp [go_sem]⟩
  have HW := Lib.hid hw0
  clear hw0
  obtain ⟨x0, x1⟩ := HXT.out
  obtain ⟨y0, y1, y2, y3, y4, y5⟩ := HXP.out
  go_enter Tryz.func65, Tryz.ntmps65
  go_wp2_with fail
  rw [HW.out]
  refine (depth_l A2 l T _ _ t HS.out.len _ (HTT.out.at_ hb0) HWO.out HS.out (ok_tys HK.out)).mono ?_
  rintro e1 w1 ⟨rfl, hb1⟩
  have hb1w := below_aft hb0 hb1 hb0.size
  go_wp2_with fail
  go_ret
  exact ⟨ret_bool (by rw [HF.out, ← HD.out]), hb1w⟩
set_option maxHeartbeats 1600000 in
theorem smS_3 (l : List Da) (d : Nat) (ih : SmC l d) (A A2 D : Option Addr) (T : List Int) (cap cap2 ep e : Nat) (t : Ty) (p : Pt) (w : World) (hr : RDas w w.heap.size A l) (hT : RInts w A2 T) (hS : St l T (l.length * 4 + 1) 0 0) (ht : TyOK l t) (hs : shP l (d + 1) t p = true) (hv : RPs e w w.heap.size D p.kids) (hop : p.op = 3) :
    Calls Tryz.prog 65 #[.slice A l.length cap, .slice A2 (l.length * 4) cap2, .agg #[.int .i64 t.data, .int .i64 t.index], .agg #[.int .i64 p.op, .int .i64 p.ctor, .int .i64 p.n, .int .i64 p.m, .int .i64 p.var, .slice D p.kids.length ep]] w fun e w' => e = .returned (.bool (smP l (d + 1) t p)) ∧ Below w.heap.size w w' := by
  have hl := hv.1
  unfold maxLen at hl
  have Hr := Lib.hid hr
  have HTT := Lib.hid hT
  have HS := Lib.hid hS
  have HK := Lib.hid ht
  have HWO : Hid (WorldOK l) := ht.1
  have HV := Lib.hid hv
  have IH := Lib.hid ih
  have u1 : (p.op == 1) = false := ieq_f (by omega)
  have u2 : (p.op == 2) = false := ieq_f (by omega)
  have u3 := ieq_t hop
  have u4 : (p.op == 4) = false := ieq_f (by omega)
  have u5 : (p.op == 5) = false := ieq_f (by omega)
  have u6 : (p.op == 6) = false := ieq_f (by omega)
  have HF := Lib.hid (smP_int (l := l) (d := d) (t := t) (p := p) hop)
  clear hr hT hS ht hs hv ih hop
  generalize hw0 : (w.alloc (.cells #[.int .i64 t.data, .int .i64 t.index] 31)).alloc (.cells #[.int .i64 p.op, .int .i64 p.ctor, .int .i64 p.n, .int .i64 p.m, .int .i64 p.var, .slice D p.kids.length ep] 45) = w0
  have hb0 := below_box2 hw0
  have HXT : Hid (Bx w0 w.heap.size t) := by rw [← hw0]; exact ⟨by simp [go_sem], by simp [go_sem]⟩
  have HXP : Hid (PBx w0 (w.heap.size + 1) p (.slice D p.kids.length ep)) := by rw [← hw0]; exact ⟨by simp [go_sem], by simp [go_sem], by simp [go_sem], by simp [go_sem], by simp [go_sem], by simp [go_sem]⟩
  have HW := Lib.hid hw0
  clear hw0
  obtain ⟨x0, x1⟩ := HXT.out
  obtain ⟨y0, y1, y2, y3, y4, y5⟩ := HXP.out
  go_enter Tryz.func65, Tryz.ntmps65
  go_wp2_with fail
  rw [HW.out]
  go_ret
  exact ⟨ret_bool HF.out.symm, hb0⟩
set_option maxHeartbeats 1600000 in
theorem smS_6 (l : List Da) (d : Nat) (ih : SmC l d) (A A2 D : Option Addr) (T : List Int) (cap cap2 ep e : Nat) (t : Ty) (p : Pt) (w : World) (hr : RDas w w.heap.size A l) (hT : RInts w A2 T) (hS : St l T (l.length * 4 + 1) 0 0) (ht : TyOK l t) (hs : shP l (d + 1) t p = true) (hv : RPs e w w.heap.size D p.kids) (hop : p.op = 6) :
    Calls Tryz.prog 65 #[.slice A l.length cap, .slice A2 (l.length * 4) cap2, .agg #[.int .i64 t.data, .int .i64 t.index], .agg #[.int .i64 p.op, .int .i64 p.ctor, .int .i64 p.n, .int .i64 p.m, .int .i64 p.var, .slice D p.kids.length ep]] w fun e w' => e = .returned (.bool (smP l (d + 1) t p)) ∧ Below w.heap.size w w' := by
  have hl := hv.1
  unfold maxLen at hl
  have Hr := Lib.hid hr
  have HTT := Lib.hid hT
  have HS := Lib.hid hS
  have HK := Lib.hid ht
  have HWO : Hid (WorldOK l) := ht.1
  have HV := Lib.hid hv
  have IH := Lib.hid ih
  have u1 : (p.op == 1) = false := ieq_f (by omega)
  have u2 : (p.op == 2) = false := ieq_f (by omega)
  have u3 : (p.op == 3) = false := ieq_f (by omega)
  have u4 : (p.op == 4) = false := ieq_f (by omega)
  have u5 : (p.op == 5) = false := ieq_f (by omega)
  have u6 := ieq_t hop
  obtain ⟨hk1, hs0⟩ := as_partsP hs hop
  have h0k : 0 < p.kids.length := by omega
  have HF := Lib.hid (smP_as (l := l) (d := d) (t := t) hop h0k)
  have HS0 := Lib.hid (hs0 h0k)
  have hi0 : (0 : Int) < (p.kids.length : Int) := by omega
  clear hk1 hs0
  clear hr hT hS ht hs hv ih hop
  generalize hw0 : (w.alloc (.cells #[.int .i64 t.data, .int .i64 t.index] 31)).alloc (.cells #[.int .i64 p.op, .int .i64 p.ctor, .int .i64 p.n, .int .i64 p.m, .int .i64 p.var, .slice D p.kids.length ep] 45) = w0
  have hb0 := below_box2 hw0
  have HXT : Hid (Bx w0 w.heap.size t) := by rw [← hw0]; exact ⟨by simp [go_sem], by simp [go_sem]⟩
  have HXP : Hid (PBx w0 (w.heap.size + 1) p (.slice D p.kids.length ep)) := by rw [← hw0]; exact ⟨by simp [go_sem], by simp [go_sem], by simp [go_sem], by simp [go_sem], by simp [go_sem], by simp [go_sem]⟩
  have HW := Lib.hid hw0
  clear hw0
  obtain ⟨x0, x1⟩ := HXT.out
  obtain ⟨y0, y1, y2, y3, y4, y5⟩ := HXP.out
  clear x0 x1 y0 y1 y2 y3 y4 y5
  obtain ⟨b, off, rfl, hbB, hvk⟩ := (HV.out.at_ hb0).2 0 h0k
  rw [show off + 0 * 6 = off by omega] at hvk
  obtain ⟨e4, he4, D4, cp4, c0, c1, c2, c3, c4, c5, hm4⟩ := hvk.parts
  have Hm : Hid (RPs e4 w0 w0.heap.size D4 p.kids[0].kids) := hm4
  obtain ⟨x0, x1⟩ := HXT.out
  obtain ⟨y0, y1, y2, y3, y4, y5⟩ := HXP.out
  have g0 := cell_regrown x0
  have g1 := cell_regrown x1
  have g2 := cell_regrown c0
  have g3 := cell_regrown c1
  have g4 := cell_regrown c2
  have g5 := cell_regrown c3
  have g6 := cell_regrown c4
  have g7 := cell_regrown c5
  have g8 := cell_regrown y5
  clear c0 c1 c2 c3 c4 c5 hm4 hvk he4
  go_enter Tryz.func65, Tryz.ntmps65
  go_wp2_with fail
  rw [HW.out]
  refine wp_region_quiet_below (by kernel_rfl) (by kernel_rfl) ?_
  repeat (quiet_step (exact Calls.regrown_of (IH.out _ _ _ _ _ _ _ _ _ _ _ ((Hr.out.at_ hb0).at_ (below_regrown w0 _ _)) ((HTT.out.at_ hb0).at_ (below_regrown w0 _ _)) HS.out HK.out HS0.out (Hm.out.at_ (below_regrown w0 _ _)))))
  refine wpQuiet_nil ?_
  intro w2 hw'
  have hb2 : Below w0.heap.size w0 w2 := by obtain ⟨⟨dq, osq⟩, h⟩ := hw'; subst h; exact below_regrown w0 dq osq
  clear hw'
  have hb2w := below_aft hb0 hb2 hb0.size
  clear g0 g1 g2 g3 g4 g5 g6 g7 g8 x0 x1 y0 y1 y2 y3 y4 y5
  go_wp2_with fail
  go_ret
  exact ⟨ret_bool HF.out.symm, hb2w⟩
set_option maxHeartbeats 8000000 in
theorem smS_5 (l : List Da) (d : Nat) (ih : SmC l d) (A A2 D : Option Addr) (T : List Int) (cap cap2 ep e : Nat) (t : Ty) (p : Pt) (w : World) (hr : RDas w w.heap.size A l) (hT : RInts w A2 T) (hS : St l T (l.length * 4 + 1) 0 0) (ht : TyOK l t) (hs : shP l (d + 1) t p = true) (hv : RPs e w w.heap.size D p.kids) (hop : p.op = 5) :
    Calls Tryz.prog 65 #[.slice A l.length cap, .slice A2 (l.length * 4) cap2, .agg #[.int .i64 t.data, .int .i64 t.index], .agg #[.int .i64 p.op, .int .i64 p.ctor, .int .i64 p.n, .int .i64 p.m, .int .i64 p.var, .slice D p.kids.length ep]] w fun e w' => e = .returned (.bool (smP l (d + 1) t p)) ∧ Below w.heap.size w w' := by
  have hl := hv.1
  unfold maxLen at hl
  have Hr := Lib.hid hr
  have HTT := Lib.hid hT
  have HS := Lib.hid hS
  have HK := Lib.hid ht
  have HWO : Hid (WorldOK l) := ht.1
  have HV := Lib.hid hv
  have IH := Lib.hid ih
  have u1 : (p.op == 1) = false := ieq_f (by omega)
  have u2 : (p.op == 2) = false := ieq_f (by omega)
  have u3 : (p.op == 3) = false := ieq_f (by omega)
  have u4 : (p.op == 4) = false := ieq_f (by omega)
  have u5 := ieq_t hop
  have u6 : (p.op == 6) = false := ieq_f (by omega)
  obtain ⟨hk2, hs0, hs1⟩ := or_partsP hs hop
  have h0k : 0 < p.kids.length := by omega
  have h1k : 1 < p.kids.length := by omega
  have HF := Lib.hid (smP_or (l := l) (d := d) (t := t) hop h0k h1k)
  have HS0 := Lib.hid (hs0 h0k)
  have HS1 := Lib.hid (hs1 h1k)
  have hi0 : (0 : Int) < (p.kids.length : Int) := by omega
  have hi1 : (1 : Int) < (p.kids.length : Int) := by omega
  clear hk2 hs0 hs1
  clear hr hT hS ht hs hv ih hop
  generalize hw0 : (w.alloc (.cells #[.int .i64 t.data, .int .i64 t.index] 31)).alloc (.cells #[.int .i64 p.op, .int .i64 p.ctor, .int .i64 p.n, .int .i64 p.m, .int .i64 p.var, .slice D p.kids.length ep] 45) = w0
  have hb0 := below_box2 hw0
  have HXT : Hid (Bx w0 w.heap.size t) := by rw [← hw0]; exact ⟨by simp [go_sem], by simp [go_sem]⟩
  have HXP : Hid (PBx w0 (w.heap.size + 1) p (.slice D p.kids.length ep)) := by rw [← hw0]; exact ⟨by simp [go_sem], by simp [go_sem], by simp [go_sem], by simp [go_sem], by simp [go_sem], by simp [go_sem]⟩
  have HW := Lib.hid hw0
  clear hw0
  obtain ⟨x0, x1⟩ := HXT.out
  obtain ⟨y0, y1, y2, y3, y4, y5⟩ := HXP.out
  clear x0 x1 y0 y1 y2 y3 y4 y5
  obtain ⟨b, off, rfl, hbB, hvk⟩ := (HV.out.at_ hb0).2 0 h0k
  obtain ⟨b2, off2, e2, hbB2, hvk2⟩ := (HV.out.at_ hb0).2 1 h1k
  cases e2
  rw [show off + 0 * 6 = off by omega] at hvk
  rw [show off + 1 * 6 = off + 6 by omega] at hvk2
  obtain ⟨e4, he4, D4, cp4, c0, c1, c2, c3, c4, c5, hm4⟩ := hvk.parts
  obtain ⟨e5, he5, D5, cp5, d0, d1, d2, d3, d4, d5, hm5⟩ := hvk2.parts
  have Hm : Hid (RPs e4 w0 w0.heap.size D4 p.kids[0].kids) := hm4
  have Hm' : Hid (RPs e5 w0 w0.heap.size D5 p.kids[1].kids) := hm5
  obtain ⟨x0, x1⟩ := HXT.out
  obtain ⟨y0, y1, y2, y3, y4, y5⟩ := HXP.out
  have g0 := cell_regrown x0
  have g1 := cell_regrown x1
  have g2 := cell_regrown c0
  have g3 := cell_regrown c1
  have g4 := cell_regrown c2
  have g5 := cell_regrown c3
  have g6 := cell_regrown c4
  have g7 := cell_regrown c5
  have g8 := cell_regrown y5
  have j2 := cell_regrown d0
  have j3 := cell_regrown d1
  have j4 := cell_regrown d2
  have j5 := cell_regrown d3
  have j6 := cell_regrown d4
  have j7 := cell_regrown d5
  clear c0 c1 c2 c3 c4 c5 d0 d1 d2 d3 d4 d5 hm4 hm5 hvk hvk2 he4 he5
  by_cases hf : smP l d t p.kids[0] = true
  · have HF0 := Lib.hid hf
    clear hf
    go_enter Tryz.func65, Tryz.ntmps65
    go_wp2_with fail
    rw [HW.out]
    refine wp_region_quiet_below (by kernel_rfl) (by kernel_rfl) ?_
    repeat (quiet_step (exact Calls.regrown_of (IH.out.known _ _ _ _ _ _ _ _ _ _ _ _ HF0.out ((Hr.out.at_ hb0).at_ (below_regrown w0 _ _)) ((HTT.out.at_ hb0).at_ (below_regrown w0 _ _)) HS.out HK.out HS0.out (Hm.out.at_ (below_regrown w0 _ _)))))
    refine wpQuiet_nil ?_
    intro w2 hw'
    have hb2 : Below w0.heap.size w0 w2 := by obtain ⟨⟨dq, osq⟩, h⟩ := hw'; subst h; exact below_regrown w0 dq osq
    clear hw'
    have hb2w := below_aft hb0 hb2 hb0.size
    clear g0 g1 g2 g3 g4 g5 g6 g7 g8 j2 j3 j4 j5 j6 j7 x0 x1 y0 y1 y2 y3 y4 y5
    go_wp2_with fail
    go_ret
    exact ⟨ret_bool (by rw [HF.out, HF0.out]; rfl), hb2w⟩
  · have HF0 : Hid (smP l d t p.kids[0] = false) := by simpa [Hid] using hf
    clear hf
    go_enter Tryz.func65, Tryz.ntmps65
    go_wp2_with fail
    rw [HW.out]
    refine wp_region_quiet_below (by kernel_rfl) (by kernel_rfl) ?_
    repeat (quiet_step (first | exact Calls.regrown_of (IH.out.known _ _ _ _ _ _ _ _ _ _ _ _ HF0.out ((Hr.out.at_ hb0).at_ (below_regrown w0 _ _)) ((HTT.out.at_ hb0).at_ (below_regrown w0 _ _)) HS.out HK.out HS0.out (Hm.out.at_ (below_regrown w0 _ _))) | exact Calls.regrown_of (IH.out _ _ _ _ _ _ _ _ _ _ _ ((Hr.out.at_ hb0).at_ (below_regrown w0 _ _)) ((HTT.out.at_ hb0).at_ (below_regrown w0 _ _)) HS.out HK.out HS1.out (Hm'.out.at_ (below_regrown w0 _ _)))))
    refine wpQuiet_nil ?_
    intro w2 hw'
    have hb2 : Below w0.heap.size w0 w2 := by obtain ⟨⟨dq, osq⟩, h⟩ := hw'; subst h; exact below_regrown w0 dq osq
    clear hw'
    have hb2w := below_aft hb0 hb2 hb0.size
    clear g0 g1 g2 g3 g4 g5 g6 g7 g8 j2 j3 j4 j5 j6 j7 x0 x1 y0 y1 y2 y3 y4 y5
    go_wp2_with fail
    go_ret
    exact ⟨ret_bool (by rw [HF.out, HF0.out]; rfl), hb2w⟩
set_option maxHeartbeats 1600000 in
theorem smS_4 (l : List Da) (d : Nat) (ih : SmC l d) (A A2 D : Option Addr) (T : List Int) (cap cap2 ep e : Nat) (t : Ty) (p : Pt) (w : World) (hr : RDas w w.heap.size A l) (hT : RInts w A2 T) (hS : St l T (l.length * 4 + 1) 0 0) (ht : TyOK l t) (hs : shP l (d + 1) t p = true) (hv : RPs e w w.heap.size D p.kids) (hop : p.op = 4) :
    Calls Tryz.prog 65 #[.slice A l.length cap, .slice A2 (l.length * 4) cap2, .agg #[.int .i64 t.data, .int .i64 t.index], .agg #[.int .i64 p.op, .int .i64 p.ctor, .int .i64 p.n, .int .i64 p.m, .int .i64 p.var, .slice D p.kids.length ep]] w fun e w' => e = .returned (.bool (smP l (d + 1) t p)) ∧ Below w.heap.size w w' := by
  have hl := hv.1
  unfold maxLen at hl
  have Hr := Lib.hid hr
  have HTT := Lib.hid hT
  have HS := Lib.hid hS
  have HK := Lib.hid ht
  have HWO : Hid (WorldOK l) := ht.1
  have HV := Lib.hid hv
  have IH := Lib.hid ih
  have u1 : (p.op == 1) = false := ieq_f (by omega)
  have u2 : (p.op == 2) = false := ieq_f (by omega)
  have u3 : (p.op == 3) = false := ieq_f (by omega)
  have u4 := ieq_t hop
  have u5 : (p.op == 5) = false := ieq_f (by omega)
  have u6 : (p.op == 6) = false := ieq_f (by omega)
  obtain ⟨hmem, hkl, hsh⟩ := ctor_partsP hs hop
  have HF := Lib.hid (smP_ctor (l := l) (d := d) (t := t) hop)
  have HC := Lib.hid hmem
  have HKL := Lib.hid hkl
  have HSH := Lib.hid hsh
  have HOK := Lib.hid (fun a (ha : a ∈ agR l t p.ctor) => agR_ok hmem a ha)
  have hm3 := agR_len l t p.ctor
  have HM := Lib.hid (fun (i : Nat) (h : i < (agR l t p.ctor).length) (h' : i < p.kids.length) => kidM_at (l := l) (d := d) h h')
  clear hmem hkl hsh
  clear hr hT hS ht hs hv ih hop
  generalize hw0 : (w.alloc (.cells #[.int .i64 t.data, .int .i64 t.index] 31)).alloc (.cells #[.int .i64 p.op, .int .i64 p.ctor, .int .i64 p.n, .int .i64 p.m, .int .i64 p.var, .slice D p.kids.length ep] 45) = w0
  have hb0 := below_box2 hw0
  have HXT : Hid (Bx w0 w.heap.size t) := by rw [← hw0]; exact ⟨by simp [go_sem], by simp [go_sem]⟩
  have HXP : Hid (PBx w0 (w.heap.size + 1) p (.slice D p.kids.length ep)) := by rw [← hw0]; exact ⟨by simp [go_sem], by simp [go_sem], by simp [go_sem], by simp [go_sem], by simp [go_sem], by simp [go_sem]⟩
  have HW := Lib.hid hw0
  clear hw0
  obtain ⟨x0, x1⟩ := HXT.out
  obtain ⟨y0, y1, y2, y3, y4, y5⟩ := HXP.out
  go_enter Tryz.func65, Tryz.ntmps65
  go_wp2_with fail
  rw [HW.out]
  refine (l1Args_all A l cap t p.ctor _ (Hr.out.at_ hb0) HC.out).mono ?_
  rintro e3 w3 ⟨v3, rfl, ho3, hb3'⟩
  generalize agR l t p.ctor = ats at *
  obtain ⟨A3, c3, rfl, hr3⟩ := ho3.form (by unfold maxLen; omega)
  have HR3 := Lib.hid hr3
  have HXT3 := Lib.hid (HXT.out.at_ hb3')
  have HXP3 := Lib.hid (HXP.out.at_ hb3')
  have hb3 := below_aft hb0 hb3' hb0.size
  clear hr3 ho3 hb3' x0 x1 y0 y1 y2 y3 y4 y5
  go_wp2_with fail
  go_loopw [10] (fun i wr => ∃ k : Nat, k ≤ ats.length ∧ i = .int .i64 k ∧ Hid (upto (kidM l d ats p.kids) k = true) ∧ Below w3.heap.size w3 wr) (fun i _ => ats.length - (intOf i).toNat)
  case atStart => exact ⟨0, by omega, rfl, rfl, Below.refl _ _⟩
  case round =>
    obtain ⟨k, hk, rfl, HU, hb⟩ := hrel
    have hbw : Below w.heap.size w wr := below_aft hb3 hb hb3.size
    have HXPr := Lib.hid (HXP3.out.at_ hb)
    obtain ⟨f0, f1, f2, f3, f4, f5⟩ := HXPr.out
    by_cases hlt : k < ats.length
    · have hkl : k < p.kids.length := by rw [HKL.out]; exact hlt
      obtain ⟨g, o, rfl, hgB, t0, t1⟩ := (HR3.out.below hb (Nat.le_refl _)).2 k hlt
      obtain ⟨b, off, rfl, hbB, hvk⟩ := (HV.out.below hbw (Nat.le_refl _)).2 k hkl
      obtain ⟨e', he', D', cp, c0, c1, c2, c3', c4, c5, hm⟩ := hvk.parts
      have d0 := cell_regrown t0
      have d1 := cell_regrown t1
      have d2 := cell_regrown c0
      have d3 := cell_regrown c1
      have d4 := cell_regrown c2
      have d5 := cell_regrown c3'
      have d6 := cell_regrown c4
      have d7 := cell_regrown c5
      have d8 := cell_regrown f5
      have Hm : Hid (RPs e' wr wr.heap.size D' p.kids[k].kids) := hm.keep (fun _ _ => rfl) hbw.size
      have Hrr : Hid (RDas wr wr.heap.size A l) := Hr.out.at_ hbw
      have HTr : Hid (RInts wr A2 T) := HTT.out.at_ hbw
      have HTk := Lib.hid (HOK.out _ (List.getElem_mem hlt))
      have HMk := Lib.hid (HM.out k hlt hkl)
      have HSk := Lib.hid (HSH.out k hlt hkl)
      have hi : (k : Int) < (ats.length : Int) := by omega
      have hi2 : (k : Int) < (p.kids.length : Int) := by omega
      clear c0 c1 c2 c3' c4 c5 t0 t1 f0 f1 f2 f3 f4 f5 hm hvk he'
      by_cases hf : smP l d ats[k] p.kids[k] = true
      · have HFk := Lib.hid hf
        have HUk : Hid (upto (kidM l d ats p.kids) (k + 1) = true) := upto_t HU.out (by rw [HMk.out]; exact hf)
        clear hf
        go_wp2_with fail
        refine wp_region_quiet_below (by kernel_rfl) (by kernel_rfl) ?_
        repeat (quiet_step (exact Calls.regrown_of (IH.out.known _ _ _ _ _ _ _ _ _ _ _ _ HFk.out (Hrr.out.at_ (below_regrown wr _ _)) (HTr.out.at_ (below_regrown wr _ _)) HS.out HTk.out HSk.out (Hm.out.at_ (below_regrown wr _ _)))))
        refine wpQuiet_nil ?_
        intro w2 hw'
        have hb2 : Below wr.heap.size wr w2 := by obtain ⟨⟨dq, osq⟩, h⟩ := hw'; subst h; exact below_regrown wr dq osq
        clear hw'
        have hb2' := below_aft hb hb2 hb.size
        clear d0 d1 d2 d3 d4 d5 d6 d7 d8
        go_wp2_with fail
        go_roundw
        case rel => exact ⟨k + 1, by omega, by go_num, HUk, hb2'⟩
        case measure => simp [intOf]; omega
      · have hf' : smP l d ats[k] p.kids[k] = false := by simpa using hf
        have HFk := Lib.hid hf'
        have HUk := Lib.hid (upto_f (f := kidM l d ats p.kids) hlt (by rw [HMk.out]; exact hf'))
        clear hf hf'
        go_wp2_with fail
        refine wp_region_quiet_below (by kernel_rfl) (by kernel_rfl) ?_
        repeat (quiet_step (exact Calls.regrown_of (IH.out.known _ _ _ _ _ _ _ _ _ _ _ _ HFk.out (Hrr.out.at_ (below_regrown wr _ _)) (HTr.out.at_ (below_regrown wr _ _)) HS.out HTk.out HSk.out (Hm.out.at_ (below_regrown wr _ _)))))
        refine wpQuiet_nil ?_
        intro w2 hw'
        have hb2 : Below wr.heap.size wr w2 := by obtain ⟨⟨dq, osq⟩, h⟩ := hw'; subst h; exact below_regrown wr dq osq
        clear hw'
        have hb2' := below_aft hbw hb2 hbw.size
        clear d0 d1 d2 d3 d4 d5 d6 d7 d8
        go_wp2_with fail
        go_ret
        exact ⟨ret_bool (by rw [HF.out, HUk.out]), hb2'⟩
    · have he : k = ats.length := by omega
      have hki : (ats.length : Int) ≤ (k : Int) := by omega
      have HE : Hid (smP l (d + 1) t p = true) := by unfold Hid; rw [HF.out, ← he]; exact HU.out
      clear he
      go_wp2_with fail
      go_ret
      exact ⟨ret_bool HE.out.symm, hbw⟩
theorem smS_any (l : List Da) : ∀ d, SmC l d
  | 0 => fun A A2 D T cap cap2 ep e t p w hr hT hS ht hs hv => by rw [shP_zero] at hs; cases hs
  | d + 1 => fun A A2 D T cap cap2 ep e t p w hr hT hS ht hs hv => by
    have ih := smS_any l d
    rcases own_ops (shP_parts hs).1 with h | h | h | h | h | h
    · exact smS_1 l d ih A A2 D T cap cap2 ep e t p w hr hT hS ht hs hv h
    · exact smS_2 l d ih A A2 D T cap cap2 ep e t p w hr hT hS ht hs hv h
    · exact smS_3 l d ih A A2 D T cap cap2 ep e t p w hr hT hS ht hs hv h
    · exact smS_4 l d ih A A2 D T cap cap2 ep e t p w hr hT hS ht hs hv h
    · exact smS_5 l d ih A A2 D T cap cap2 ep e t p w hr hT hS ht hs hv h
    · exact smS_6 l d ih A A2 D T cap cap2 ep e t p w hr hT hS ht hs hv h
end Go.Proofs.YthecfkdilbfimaaGreat
