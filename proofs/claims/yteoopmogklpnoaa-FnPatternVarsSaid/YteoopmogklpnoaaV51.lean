/-
  PatternValid and PatternVars of the program. No statement is proved here.
-/
import Derived.Test.YteoopmogklpnoaaV50
import Derived.Test.YteoopmogklpnoaaV43
namespace Go.Proofs.Yteoopmogklpnoaa
open Go.RowKit Go.Sort Go.Deep
set_option maxRecDepth 100000
set_option linter.unusedVariables false
theorem voZ_any (l : List Da) : ∀ d : Nat, d ≤ 20 → VoZ l d (d : Int)
  | 0, _ => fun A D cap ep e lo g n t p w hr ht hv hc hn => by
    by_cases ho : OwnOK l t p
    · exact vo_zero l A D cap ep e lo g n t p w hr ht hv hc hn ho
    · exact vo_own l 0 _ A D cap ep e lo g n t p w hr ht hv hc hn ho
  | d + 1, hd => fun A D cap ep e lo g n t p w hr ht hv hc hn => by
    have ih := voZ_any l d (by omega)
    have hz : ((d + 1 : Nat) : Int) - 1 = (d : Int) := by omega
    have hq : (((d + 1 : Nat) : Int) == 0) = false := ieq_f (by omega)
    by_cases ho : OwnOK l t p
    · by_cases hb : 60 < n + 1
      · exact vo_big l (d + 1) _ hq A D cap ep e lo g n t p w hr ht hv hc hn ho hb
      · by_cases hl : p.kids.length = (tysP l t p).length
        · exact vo_step l d _ (by omega) (by omega) (by rw [hz]; exact ih) A D cap ep e lo g n t p w hr ht hv hc hn ho (by omega) hl
        · exact vo_len l (d + 1) _ hq A D cap ep e lo g n t p w hr ht hv hc hn ho (by omega) hl
    · exact vo_own l (d + 1) _ A D cap ep e lo g n t p w hr ht hv hc hn ho
def ChQ (l : List Da) (t : Ty) (p : Pt) (w : World) (b : Bool) (e : Ending) (w' : World) : Prop := ∃ A' n' c', e = .returned (.tuple #[.slice A' n' c', .bool b]) ∧ (b = true → OVt w' w.heap.size (.slice A' n' c') (vrP l 10 t p)) ∧ Below w.heap.size w w'
theorem ChQ.no {l : List Da} {t : Ty} {p : Pt} {w w' : World} {b : Bool} (hf : b = false) (hb : Below w.heap.size w w') : ChQ l t p w b (.returned (.tuple #[.slice none 0 0, .bool false])) w' := ⟨none, 0, 0, by rw [hf], (fun h => by rw [hf] at h; cases h), hb⟩
set_option maxHeartbeats 1600000 in
theorem check_any (A D : Option Addr) (l : List Da) (cap ep e : Nat) (t : Ty) (p : Pt) (w : World) (hr : RDas w w.heap.size A l) (hv : RPs e w w.heap.size D p.kids) :
    Calls Try.prog 64 #[.slice A l.length cap, .agg #[.int .i64 t.data, .int .i64 t.index], .agg #[.int .i64 p.op, .int .i64 p.ctor, .int .i64 p.n, .int .i64 p.m, .int .i64 p.var, .slice D p.kids.length ep]] w (ChQ l t p w (pvT l t p)) := by
  have Hr := Lib.hid hr
  have HV := Lib.hid hv
  clear hr hv
  generalize hw0 : (w.alloc (.cells #[.int .i64 t.data, .int .i64 t.index] 25)).alloc (.cells #[.int .i64 p.op, .int .i64 p.ctor, .int .i64 p.n, .int .i64 p.m, .int .i64 p.var, .slice D p.kids.length ep] 50) = w0
  have hb0 := below_box2 hw0
  have HXT : Hid (Bx w0 w.heap.size t) := by rw [← hw0]; exact ⟨by simp [go_sem], by simp [go_sem]⟩
  have HXP : Hid (PBx w0 (w.heap.size + 1) p (.slice D p.kids.length ep)) := by rw [← hw0]; exact ⟨by simp [go_sem], by simp [go_sem], by simp [go_sem], by simp [go_sem], by simp [go_sem], by simp [go_sem]⟩
  have HW := Lib.hid hw0
  clear hw0
  obtain ⟨u0, u1⟩ := HXT.out
  by_cases ht : TyOK l t
  · have HT := Lib.hid ht
    have HF : Hid (okP l 10 t p 0 = pvT l t p) := by unfold Hid; rw [pvT_yes ht, okP_is]
    clear ht
    go_enter Try.func64, Try.ntmps64
    go_wp2_with (go_at_call 30; rw [HW.out]; refine (typeI_yes (t := t) (Hr.out.at_ hb0) HT.out).mono ?_; rintro e1 w1 ⟨rfl, hb1⟩; have HXT1 := Lib.hid (HXT.out.at_ hb1); have HXP1 := Lib.hid (HXP.out.at_ hb1); obtain ⟨x0, x1⟩ := HXT1.out; obtain ⟨y0, y1, y2, y3, y4, y5⟩ := HXP1.out; have hb1w := below_aft hb0 hb1 hb0.size; have hlt0 : w.heap.size < w1.heap.size := Go.block_lt_of_cell x0; have hlt1 : w.heap.size + 1 < w1.heap.size := Go.block_lt_of_cell y0)
    have hbA : Below w1.heap.size w1 (w1.alloc (.cells #[.slice A l.length cap, .int .i64 0] 159)) := (Below.refl _ _).alloc (Nat.le_refl _) _
    have hck : CkB (w1.alloc (.cells #[.slice A l.length cap, .int .i64 0] 159)) w1.heap.size w1.heap.size A l.length cap 0 := World.ownsRow_lit w1 #[.slice A l.length cap, .int .i64 0] 1 (Nat.le_refl _) (by unfold maxLen; omega) rfl
    have HVO := Lib.hid (voZ_any l 10 (by omega) A D cap ep e w1.heap.size w1.heap.size 0 t p _ ((Hr.out.at_ hb1w).below hbA (Nat.le_refl _)) HT.out ((HV.out.at_ hb1w).below hbA (Nat.le_refl _)) hck (by omega))
    clear hck
    go_wp2_with (go_at_call 101; refine HVO.out.mono ?_; rw [HF.out]; rintro e2 w2 ⟨A2, n2, c2, rfl, hy2, hg2⟩; have HY2 := Lib.hid (fun h => (hy2 h).1); have HG2 := Lib.hid hg2; clear hy2 hg2)
    go_ret2
    have hs1 := hb1w.size
    have hsA := hbA.size
    have hg3 : Below w1.heap.size w1 w2 := hbA.trans (grown_low HG2.out (fun q e => by have := Option.some.inj e; omega) hsA)
    exact ⟨A2, n2, c2, rfl, fun h => (HY2.out h).lower (by omega), hb1w.trans (hg3.mono hs1)⟩
  · have HT := Lib.hid ht
    have HF := Lib.hid (pvT_no (p := p) ht)
    clear ht
    go_enter Try.func64, Try.ntmps64
    go_wp2_with (go_at_call 30; rw [HW.out]; refine (typeI_no (t := t) (Hr.out.at_ hb0) HT.out).mono ?_; rintro e1 w1 ⟨rfl, hb1⟩; have hb1w := below_aft hb0 hb1 hb0.size)
    go_ret2
    exact ChQ.no HF.out hb1w
theorem ChQ.known {l : List Da} {t : Ty} {p : Pt} {w : World} {b : Bool} (hf : pvT l t p = b) {P : Program} {f : Nat} {args : Array Value} (h : Calls P f args w (ChQ l t p w (pvT l t p))) : Calls P f args w (ChQ l t p w b) := by rw [← hf]; exact h
theorem pv_impl (A D : Option Addr) (l : List Da) (cap ep e : Nat) (t : Ty) (p : Pt) (w : World) (hr : RDas w w.heap.size A l) (hv : RPs e w w.heap.size D p.kids) :
    Calls Try.prog 32 #[.slice A l.length cap, .agg #[.int .i64 t.data, .int .i64 t.index], .agg #[.int .i64 p.op, .int .i64 p.ctor, .int .i64 p.n, .int .i64 p.m, .int .i64 p.var, .slice D p.kids.length ep]] w fun e w' => e = .returned (.bool (pvT l t p)) ∧ Below w.heap.size w w' := by
  have Hr := Lib.hid hr
  have HV := Lib.hid hv
  clear hr hv
  generalize hw0 : (w.alloc (.cells #[.int .i64 t.data, .int .i64 t.index] 25)).alloc (.cells #[.int .i64 p.op, .int .i64 p.ctor, .int .i64 p.n, .int .i64 p.m, .int .i64 p.var, .slice D p.kids.length ep] 50) = w0
  have hb0 := below_box2 hw0
  have HXT : Hid (Bx w0 w.heap.size t) := by rw [← hw0]; exact ⟨by simp [go_sem], by simp [go_sem]⟩
  have HXP : Hid (PBx w0 (w.heap.size + 1) p (.slice D p.kids.length ep)) := by rw [← hw0]; exact ⟨by simp [go_sem], by simp [go_sem], by simp [go_sem], by simp [go_sem], by simp [go_sem], by simp [go_sem]⟩
  have HW := Lib.hid hw0
  clear hw0
  go_enter Try.func32, Try.ntmps32
  go_wp2_with (go_at_call 64; rw [HW.out]; refine (check_any A D l cap ep e t p w0 (Hr.out.at_ hb0) (HV.out.at_ hb0)).mono ?_; rintro e1 w1 ⟨A1, n1, c1, rfl, hy1, hb1⟩; clear hy1; have hb1w := below_aft hb0 hb1 hb0.size)
  go_ret
  exact ⟨rfl, hb1w⟩
/-- What PatternVars hands back. -/
noncomputable def pvL (l : List Da) (t : Ty) (p : Pt) : List Vt := if pvT l t p = true then vrP l 10 t p else []
theorem pvL_yes {l : List Da} {t : Ty} {p : Pt} (h : pvT l t p = true) : pvL l t p = vrP l 10 t p := if_pos h
theorem pvL_no {l : List Da} {t : Ty} {p : Pt} (h : pvT l t p = false) : pvL l t p = [] := if_neg (by rw [h]; simp)
theorem pvT_sh {l : List Da} {t : Ty} {p : Pt} (h : pvT l t p = true) : shP l 10 t p = true ∧ 1 + wP p ≤ 60 := by
  unfold pvT isP at h
  rw [Bool.and_eq_true, Bool.and_eq_true, Bool.and_eq_true] at h
  exact ⟨h.2.1, of_decide_eq_true h.2.2.1⟩
theorem pvL_len (l : List Da) (t : Ty) (p : Pt) : (pvL l t p).length ≤ 60 := by
  by_cases h : pvT l t p = true
  · obtain ⟨h1, h2⟩ := pvT_sh h
    rw [pvL_yes h]
    have := vrP_len l 10 t p h1
    omega
  · rw [pvL_no (by simpa using h)]; simp
theorem pvars_impl (A D : Option Addr) (l : List Da) (cap ep e : Nat) (t : Ty) (p : Pt) (w : World) (hr : RDas w w.heap.size A l) (hv : RPs e w w.heap.size D p.kids) :
    Calls Try.prog 28 #[.slice A l.length cap, .agg #[.int .i64 t.data, .int .i64 t.index], .agg #[.int .i64 p.op, .int .i64 p.ctor, .int .i64 p.n, .int .i64 p.m, .int .i64 p.var, .slice D p.kids.length ep]] w fun e w' => ∃ v, e = .returned v ∧ OVt w' w.heap.size v (pvL l t p) ∧ Below w.heap.size w w' := by
  have Hr := Lib.hid hr
  have HV := Lib.hid hv
  clear hr hv
  generalize hw0 : (w.alloc (.cells #[.int .i64 t.data, .int .i64 t.index] 25)).alloc (.cells #[.int .i64 p.op, .int .i64 p.ctor, .int .i64 p.n, .int .i64 p.m, .int .i64 p.var, .slice D p.kids.length ep] 50) = w0
  have hb0 := below_box2 hw0
  have HXT : Hid (Bx w0 w.heap.size t) := by rw [← hw0]; exact ⟨by simp [go_sem], by simp [go_sem]⟩
  have HXP : Hid (PBx w0 (w.heap.size + 1) p (.slice D p.kids.length ep)) := by rw [← hw0]; exact ⟨by simp [go_sem], by simp [go_sem], by simp [go_sem], by simp [go_sem], by simp [go_sem], by simp [go_sem]⟩
  have HW := Lib.hid hw0
  clear hw0
  have HC := Lib.hid (check_any A D l cap ep e t p w0 (Hr.out.at_ hb0) (HV.out.at_ hb0))
  by_cases hf : pvT l t p = true
  · have HF := Lib.hid hf
    have HL := Lib.hid (pvL_yes hf)
    have HC2 := Lib.hid (ChQ.known hf HC.out)
    clear hf
    go_enter Try.func28, Try.ntmps28
    go_wp2_with (go_at_call 64; rw [HW.out]; refine HC2.out.mono ?_; rintro e1 w1 ⟨A1, n1, c1, rfl, hy1, hb1⟩; have HY1 := Lib.hid (hy1 rfl); clear hy1; have hb1w := below_aft hb0 hb1 hb0.size)
    go_ret
    exact ⟨_, rfl, by rw [HL.out]; exact HY1.out.lower hb0.size, hb1w⟩
  · have hf' : pvT l t p = false := by simpa using hf
    have HL := Lib.hid (pvL_no hf')
    have HC2 := Lib.hid (ChQ.known hf' HC.out)
    clear hf hf'
    go_enter Try.func28, Try.ntmps28
    go_wp2_with (go_at_call 64; rw [HW.out]; refine HC2.out.mono ?_; rintro e1 w1 ⟨A1, n1, c1, rfl, hy1, hb1⟩; clear hy1; have hb1w := below_aft hb0 hb1 hb0.size)
    go_ret
    exact ⟨_, rfl, by rw [HL.out]; exact OVt.nil _ _, hb1w⟩
end Go.Proofs.Yteoopmogklpnoaa
/-
  The variables of a valid pattern: each once, their types are valid. Plain mathematics. No statement is proved here.
-/
namespace Go.Proofs.Yteoopmogklpnoaa
open Go.RowKit Go.Sort Go.Deep
set_option maxRecDepth 100000
set_option linter.unusedVariables false
def vnV (L : List Vt) : List Int := L.map (·.var)
theorem onceN {L : List Vt} (h : upto (onceV L) L.length = true) : (vnV L).Nodup := by
  unfold vnV List.Nodup
  rw [List.pairwise_iff_getElem]
  intro i j hi hj hij e
  rw [List.length_map] at hi hj
  rw [List.getElem_map, List.getElem_map] at e
  have h1 := upto_get h hi
  have h2 := upto_get h hj
  rw [onceV_at hi] at h1
  rw [onceV_at hj] at h2
  have h1 := of_decide_eq_true h1
  have h2 := of_decide_eq_true h2
  rw [e] at h1
  omega
theorem or_partsN {l : List Da} {d : Nat} {t : Ty} {p : Pt} (h : shP l (d + 1) t p = true) (h5 : p.op = 5) : p.kids.length = 2 ∧ (∀ (h0 : 0 < p.kids.length), shP l d t p.kids[0] = true) := by
  obtain ⟨ho, hl, hk⟩ := shP_parts h
  have ht : tysP l t p = [t, t] := by rw [tysP_other (by omega), h5]; rfl
  rw [ht] at hl
  refine ⟨hl, fun h0 => ?_⟩
  have := hk 0 (by rw [ht]; simp) h0
  simpa only [ht, List.getElem_cons_zero] using this
theorem vrn_or {l : List Da} {d : Nat} {t : Ty} {p : Pt} (h : p.op = 5) (h0 : 0 < p.kids.length) : vrP l (d + 1) t p = vrP l d t p.kids[0] := by
  have ht : tysP l t p = [t, t] := by rw [tysP_other (by omega), h]; rfl
  rw [vrP_go, hdV_no (by omega), List.nil_append]
  unfold limV
  rw [if_pos h]
  show [] ++ kidR l d (tysP l t p) p.kids 0 = _
  rw [List.nil_append, kidR_at (by rw [ht]; simp) h0]
  simp only [ht, List.getElem_cons_zero]
theorem vrn_nodup (l : List Da) : ∀ (d : Nat) (t : Ty) (p : Pt), shP l d t p = true → linP l d t p = true → (vnV (vrP l d t p)).Nodup
  | 0, _, _, h, _ => by rw [shP_zero] at h; cases h
  | d + 1, t, p, hs, hl => by
    rw [linP_go, Bool.and_eq_true] at hl
    obtain ⟨hk, hh⟩ := hl
    by_cases h5 : p.op = 5
    · obtain ⟨h2, hs0⟩ := or_partsN hs h5
      have h0 : 0 < p.kids.length := by omega
      have ht : tysP l t p = [t, t] := by rw [tysP_other (by omega), h5]; rfl
      rw [vrn_or h5 h0]
      refine vrn_nodup l d t _ (hs0 h0) ?_
      have := upto_get hk (k := 0) (by rw [ht]; simp)
      rw [kidL_at (by rw [ht]; simp) h0] at this
      simpa only [ht, List.getElem_cons_zero] using this
    · rw [headL_no h5] at hh
      exact onceN hh
theorem catN_mem {x : Vt} {f : Nat → List Vt} : ∀ k, x ∈ catV f k → ∃ i, i < k ∧ x ∈ f i
  | 0, h => by simp [catV] at h
  | k + 1, h => by
    rw [show catV f (k + 1) = catV f k ++ f k from rfl, List.mem_append] at h
    rcases h with h | h
    · obtain ⟨i, hi, hx⟩ := catN_mem k h; exact ⟨i, by omega, hx⟩
    · exact ⟨k, by omega, h⟩
theorem vrn_ok (l : List Da) : ∀ (d : Nat) (t : Ty) (p : Pt), TyOK l t → shP l d t p = true → ∀ x ∈ vrP l d t p, TyOK l x.ty
  | 0, _, _, _, h => by rw [shP_zero] at h; cases h
  | d + 1, t, p, ht, hs => by
    obtain ⟨ho, hlen, hk⟩ := shP_parts hs
    intro x hx
    rw [vrP_go, List.mem_append] at hx
    rcases hx with hx | hx
    · unfold hdV at hx
      split at hx
      · rw [List.mem_singleton] at hx; rw [hx]; exact ht
      · simp at hx
    · obtain ⟨i, hi, hx⟩ := catN_mem _ hx
      have hil := limV_le l t p
      have h1 : i < (tysP l t p).length := by omega
      have h2 : i < p.kids.length := by omega
      rw [kidR_at h1 h2] at hx
      exact vrn_ok l d _ _ (tysP_ok ht ho _ (List.getElem_mem h1)) (hk i h1 h2) x hx
/-- What PatternVars hands back: valid types. -/
theorem pvL_ok {l : List Da} {t : Ty} {p : Pt} {k : Nat} (h : k < (pvL l t p).length) : TyOK l (pvL l t p)[k].ty := by
  have hm : (pvL l t p)[k] ∈ pvL l t p := List.getElem_mem h
  by_cases hv : pvT l t p = true
  · have ht : TyOK l t := by
      by_cases ht : TyOK l t
      · exact ht
      · rw [pvT_no ht] at hv; cases hv
    have he := pvL_yes hv
    have : ∀ x ∈ pvL l t p, TyOK l x.ty := by rw [he]; exact vrn_ok l 10 t p ht (pvT_sh hv).1
    exact this _ hm
  · rw [pvL_no (by simpa using hv)] at h; simp at h
/-- What PatternVars hands back: each variable once. -/
theorem pvL_once {l : List Da} {t : Ty} {p : Pt} {i j : Nat} (hj : j < (pvL l t p).length) (hi : i < (pvL l t p).length) (hij : i < j) : (pvL l t p)[i].var ≠ (pvL l t p)[j].var := by
  by_cases hv : pvT l t p = true
  · have hn : (vnV (pvL l t p)).Nodup := by
      rw [pvL_yes hv]
      have h2 := hv
      unfold pvT isP at h2
      rw [Bool.and_eq_true, Bool.and_eq_true, Bool.and_eq_true] at h2
      exact vrn_nodup l 10 t p h2.2.1 h2.2.2.2
    unfold vnV List.Nodup at hn
    rw [List.pairwise_iff_getElem] at hn
    have := hn i j (by rw [List.length_map]; exact hi) (by rw [List.length_map]; exact hj) hij
    rw [List.getElem_map, List.getElem_map] at this
    exact this
  · rw [pvL_no (by simpa using hv)] at hj; simp at hj
/-- A pattern for one value or number fits the type without its index. -/
theorem shP_wide {l : List Da} {d : Nat} {t t' : Ty} {p : Pt} (hd : t'.data = t.data) (h : p.op = 1 ∨ p.op = 2 ∨ p.op = 3) (hs : shP l (d + 1) t p = true) : shP l (d + 1) t' p = true := by
  obtain ⟨ho, hl, hk⟩ := shP_parts hs
  have e : ∀ u, tysP l u p = [] := fun u => by
    rw [tysP_other (by omega)]
    have : kidN p.op = 0 := by unfold kidN; rw [if_neg (by omega), if_neg (by omega)]
    rw [this]; rfl
  have ho' : OwnOK l t' p := by
    refine ⟨ho.1, ho.2.1, ho.2.2.1, ho.2.2.2.1, ?_⟩
    rcases h with h | h | h
    · exact .inl h
    · exact .inr (.inl h)
    · rcases ho.2.2.2.2 with q | q | q | q | q | q
      · omega
      · omega
      · omega
      · omega
      · exact .inr (.inr (.inr (.inr (.inl ⟨q.1, by rw [hd]; exact q.2.1, q.2.2⟩))))
      · omega
  rw [shP_go ho' (by rw [hl, e, e]), e]
  rfl
theorem linP_wide {l : List Da} {d : Nat} {t' : Ty} {p : Pt} (h : p.op = 1 ∨ p.op = 2 ∨ p.op = 3) : linP l (d + 1) t' p = true := by
  have e : ∀ u, tysP l u p = [] := fun u => by
    rw [tysP_other (by omega)]
    have : kidN p.op = 0 := by unfold kidN; rw [if_neg (by omega), if_neg (by omega)]
    rw [this]; rfl
  rw [linP_go, e, headL_no (by omega)]
  have hv : vrP l (d + 1) t' p = hdV t' p := by
    rw [vrP_go]
    have : limV l t' p = 0 := by unfold limV; rw [if_neg (by omega), e]; rfl
    rw [this]
    show hdV t' p ++ [] = _
    rw [List.append_nil]
  rw [hv]
  unfold hdV
  split
  · rename_i h2
    show (true && upto (onceV [(⟨p.var, t'⟩ : Vt)]) 1) = true
    unfold upto
    simp [upto, onceV, findV, List.findIdx_cons]
  · rfl
theorem tyOK_wide {l : List Da} {t : Ty} (h : TyOK l t) : TyOK l ⟨t.data, 0⟩ := by
  refine ⟨h.1, ?_⟩
  have h2 := h.2
  unfold argB at h2 ⊢
  by_cases hd : t.data = -1
  · rw [if_pos hd] at h2 ⊢
    rfl
  · rw [if_neg hd] at h2 ⊢
    have h3 := of_decide_eq_true h2
    exact decide_eq_true ⟨h3.1, h3.2.1, by show (0 : Int) ≤ 0; omega, by show (0 : Int) ≤ 3; omega⟩
theorem pvT_wide {l : List Da} {t : Ty} {p : Pt} (h : p.op = 1 ∨ p.op = 2 ∨ p.op = 3) (hv : pvT l t p = true) : pvT l ⟨t.data, 0⟩ p = true := by
  have ht : TyOK l t := by
    by_cases ht : TyOK l t
    · exact ht
    · rw [pvT_no ht] at hv; cases hv
  rw [pvT_yes ht] at hv
  rw [pvT_yes (tyOK_wide ht)]
  unfold isP at hv ⊢
  rw [Bool.and_eq_true, Bool.and_eq_true] at hv ⊢
  exact ⟨shP_wide (t := t) (d := 9) rfl h hv.1, hv.2.1, linP_wide (d := 9) h⟩
end Go.Proofs.Yteoopmogklpnoaa
/-
  The law FnPatternWide walked. No statement is proved here.
-/
namespace Go.Proofs.Yteoopmogklpnoaa
open Go.RowKit Go.Sort Go.Deep
set_option maxRecDepth 100000
set_option linter.unusedVariables false
theorem ine_t {a b : Int} (h : ¬ a = b) : (a != b) = true := by simp [h]
theorem ine_f {a b : Int} (h : a = b) : (a != b) = false := by simp [h]
set_option maxHeartbeats 4000000 in
theorem patWide_law (n cap : Nat) (A : Option Addr) (w : World) (hn : n ≤ maxLen) (hc : n ≤ cap) (h : RBy w w.heap.size A n) : Calls Try.prog 8 #[.slice A n cap] w fun e w' => e = .returned (.bool true) ∧ Below w.heap.size w w' := by
  have HC := Lib.hid hc
  have HNM := Lib.hid hn
  have H := Lib.hid h
  clear hc hn h
  by_cases hb : n ≤ 1048576
  · have hbI : (n : Int) ≤ 1048576 := by omega
    go_enter Try.func8, Try.ntmps8
    go_wp2_with fail
    with_reducible refine (drawPV_any n cap A w HNM.out HC.out H.out).mono ?_
    rintro e w1 ⟨l, t, p, Aw, D, cw, c, PP, rfl, hrd, hop, hPP, hwp, hb1⟩
    obtain ⟨A', c', hee, hrd⟩ := hrd.form
    injection hee with hee he2 he3
    rw [← hee] at hrd
    clear hee he2 he3
    generalize hwb : (w1.alloc (.cells #[.int .i64 t.data, .int .i64 t.index] 25)).alloc (.cells #[.int .i64 p.op, .int .i64 p.ctor, .int .i64 p.n, .int .i64 p.m, .int .i64 p.var, .slice D p.kids.length c] 50) = wb
    have hbb := below_box2 hwb
    have R : Hid (RDas wb wb.heap.size Aw l) := hrd.at_ hbb
    have V : Hid (RPs 9 wb wb.heap.size D p.kids) := OPs.reads 9 (hop.fr _ (Fr.below (P := fun _ => False) hbb) (fun _ _ h => h))
    have HXT : Hid (Bx wb w1.heap.size t) := by rw [← hwb]; exact ⟨by simp [go_sem], by simp [go_sem]⟩
    have HXP : Hid (PBx wb (w1.heap.size + 1) p (.slice D p.kids.length c)) := by rw [← hwb]; exact ⟨by simp [go_sem], by simp [go_sem], by simp [go_sem], by simp [go_sem], by simp [go_sem], by simp [go_sem]⟩
    have hwp' : wP p ≤ 1048576 := by omega
    have HWP := Lib.hid hwp'
    have HBB : Hid (Below w.heap.size w wb) := below_after hb1 hbb hb1.size
    have HWB := Lib.hid hwb
    clear hwb hbb hrd hop hPP hwp hb1 hwp'
    by_cases hv : pvT l t p = true
    · have HV := Lib.hid hv
      by_cases ho : p.op = 1 ∨ p.op = 2 ∨ p.op = 3
      · have HVW := Lib.hid (pvT_wide ho hv)
        clear hv
        go_wp2_with fail
        rw [HWB.out]
        with_reducible refine (pv_impl Aw D l cw c 9 t p wb R.out V.out).mono ?_
        rw [HV.out]
        rintro e2 w2 ⟨rfl, hb2⟩
        have R2 := Lib.hid (R.out.at_ hb2)
        have V2 := Lib.hid (V.out.at_ hb2)
        have HXT2 : Hid (Bx w2 w1.heap.size t) := HXT.out.at_ hb2
        have HXP2 : Hid (PBx w2 (w1.heap.size + 1) p (.slice D p.kids.length c)) := HXP.out.at_ hb2
        have HBB2 : Hid (Below w.heap.size w w2) := below_after HBB.out hb2 HBB.out.size
        clear hb2
        obtain ⟨x0, x1⟩ := HXT2.out
        obtain ⟨y0, y1, y2, y3, y4, y5⟩ := HXP2.out
        have hoo : (p.op != 1) = false ∨ ((p.op != 1) = true ∧ (p.op != 2) = false) ∨ ((p.op != 1) = true ∧ (p.op != 2) = true ∧ (p.op != 3) = false) := by
          rcases ho with h | h | h
          · exact .inl (ine_f h)
          · exact .inr (.inl ⟨ine_t (by omega), ine_f h⟩)
          · exact .inr (.inr ⟨ine_t (by omega), ine_t (by omega), ine_f h⟩)
        have HOO := Lib.hid hoo
        clear ho hoo
        go_wp2_with fail
        with_reducible refine (pv_spec Aw D l cw c 9 t p w2 R2.out V2.out HWP.out).mono ?_
        rw [HV.out]
        rintro e3 w3 ⟨rfl, hb3⟩
        have R3 := Lib.hid (R2.out.at_ hb3)
        have V3 := Lib.hid (V2.out.at_ hb3)
        have HXT3 : Hid (Bx w3 w1.heap.size t) := HXT2.out.at_ hb3
        have HXP3 : Hid (PBx w3 (w1.heap.size + 1) p (.slice D p.kids.length c)) := HXP2.out.at_ hb3
        have HBB3 : Hid (Below w.heap.size w w3) := below_after HBB2.out hb3 HBB2.out.size
        clear hb3 x0 x1 y0 y1 y2 y3 y4 y5
        obtain ⟨x0, x1⟩ := HXT3.out
        obtain ⟨y0, y1, y2, y3, y4, y5⟩ := HXP3.out
        rcases HOO.out with h1 | ⟨h1, h2⟩ | ⟨h1, h2, h3⟩
        all_goals
          go_wp2_with fail
          with_reducible refine (show Calls Try.prog 32 #[.slice Aw l.length cw, .agg #[.int .i64 t.data, .int .i64 0], .agg #[.int .i64 p.op, .int .i64 p.ctor, .int .i64 p.n, .int .i64 p.m, .int .i64 p.var, .slice D p.kids.length c]] w3 (fun e w' => e = .returned (.bool (pvT l ⟨t.data, 0⟩ p)) ∧ Below w3.heap.size w3 w') from pv_impl Aw D l cw c 9 ⟨t.data, 0⟩ p w3 R3.out V3.out).mono ?_
          rw [HVW.out]
          rintro e4 w4 ⟨rfl, hb4⟩
          have HBB4 : Hid (Below w.heap.size w w4) := below_after HBB3.out hb4 HBB3.out.size
          clear hb4
          go_wp2_with fail
          go_ret
          exact ⟨rfl, HBB4.out⟩
      · have h1 : (p.op != 1) = true := ine_t (by omega)
        have h2 : (p.op != 2) = true := ine_t (by omega)
        have h3 : (p.op != 3) = true := ine_t (by omega)
        clear ho hv
        go_wp2_with fail
        rw [HWB.out]
        with_reducible refine (pv_impl Aw D l cw c 9 t p wb R.out V.out).mono ?_
        rw [HV.out]
        rintro e2 w2 ⟨rfl, hb2⟩
        have R2 := Lib.hid (R.out.at_ hb2)
        have V2 := Lib.hid (V.out.at_ hb2)
        have HXT2 : Hid (Bx w2 w1.heap.size t) := HXT.out.at_ hb2
        have HXP2 : Hid (PBx w2 (w1.heap.size + 1) p (.slice D p.kids.length c)) := HXP.out.at_ hb2
        have HBB2 : Hid (Below w.heap.size w w2) := below_after HBB.out hb2 HBB.out.size
        clear hb2
        obtain ⟨x0, x1⟩ := HXT2.out
        obtain ⟨y0, y1, y2, y3, y4, y5⟩ := HXP2.out
        clear x0 x1 y0 y1 y2 y3 y4 y5
        obtain ⟨x0, x1⟩ := HXT2.out
        obtain ⟨y0, y1, y2, y3, y4, y5⟩ := HXP2.out
        go_wp2_with fail
        with_reducible refine (pv_spec Aw D l cw c 9 t p w2 R2.out V2.out HWP.out).mono ?_
        rw [HV.out]
        rintro e3 w3 ⟨rfl, hb3⟩
        have R3 := Lib.hid (R2.out.at_ hb3)
        have V3 := Lib.hid (V2.out.at_ hb3)
        have HXT3 : Hid (Bx w3 w1.heap.size t) := HXT2.out.at_ hb3
        have HXP3 : Hid (PBx w3 (w1.heap.size + 1) p (.slice D p.kids.length c)) := HXP2.out.at_ hb3
        have HBB3 : Hid (Below w.heap.size w w3) := below_after HBB2.out hb3 HBB2.out.size
        clear hb3
        clear x0 x1 y0 y1 y2 y3 y4 y5
        obtain ⟨x0, x1⟩ := HXT3.out
        obtain ⟨y0, y1, y2, y3, y4, y5⟩ := HXP3.out
        go_wp2_with fail
        with_reducible refine (pv_spec Aw D l cw c 9 t p w3 R3.out V3.out HWP.out).mono ?_
        rw [HV.out]
        rintro e4 w4 ⟨rfl, hb4⟩
        have R4 := Lib.hid (R3.out.at_ hb4)
        have V4 := Lib.hid (V3.out.at_ hb4)
        have HXT4 : Hid (Bx w4 w1.heap.size t) := HXT3.out.at_ hb4
        have HXP4 : Hid (PBx w4 (w1.heap.size + 1) p (.slice D p.kids.length c)) := HXP3.out.at_ hb4
        have HBB4 : Hid (Below w.heap.size w w4) := below_after HBB3.out hb4 HBB3.out.size
        clear hb4
        clear x0 x1 y0 y1 y2 y3 y4 y5
        obtain ⟨x0, x1⟩ := HXT4.out
        obtain ⟨y0, y1, y2, y3, y4, y5⟩ := HXP4.out
        go_wp2_with fail
        go_ret
        exact ⟨rfl, HBB4.out⟩
    · have hv' : pvT l t p = false := by simpa using hv
      have HV := Lib.hid hv'
      clear hv hv'
      go_wp2_with fail
      rw [HWB.out]
      with_reducible refine (pv_impl Aw D l cw c 9 t p wb R.out V.out).mono ?_
      rw [HV.out]
      rintro e2 w2 ⟨rfl, hb2⟩
      have R2 := Lib.hid (R.out.at_ hb2)
      have V2 := Lib.hid (V.out.at_ hb2)
      have HXT2 : Hid (Bx w2 w1.heap.size t) := HXT.out.at_ hb2
      have HXP2 : Hid (PBx w2 (w1.heap.size + 1) p (.slice D p.kids.length c)) := HXP.out.at_ hb2
      have HBB2 : Hid (Below w.heap.size w w2) := below_after HBB.out hb2 HBB.out.size
      clear hb2
      obtain ⟨x0, x1⟩ := HXT2.out
      obtain ⟨y0, y1, y2, y3, y4, y5⟩ := HXP2.out
      clear x0 x1 y0 y1 y2 y3 y4 y5
      obtain ⟨x0, x1⟩ := HXT2.out
      obtain ⟨y0, y1, y2, y3, y4, y5⟩ := HXP2.out
      go_wp2_with fail
      with_reducible refine (pv_spec Aw D l cw c 9 t p w2 R2.out V2.out HWP.out).mono ?_
      rw [HV.out]
      rintro e3 w3 ⟨rfl, hb3⟩
      have R3 := Lib.hid (R2.out.at_ hb3)
      have V3 := Lib.hid (V2.out.at_ hb3)
      have HXT3 : Hid (Bx w3 w1.heap.size t) := HXT2.out.at_ hb3
      have HXP3 : Hid (PBx w3 (w1.heap.size + 1) p (.slice D p.kids.length c)) := HXP2.out.at_ hb3
      have HBB3 : Hid (Below w.heap.size w w3) := below_after HBB2.out hb3 HBB2.out.size
      clear hb3
      clear x0 x1 y0 y1 y2 y3 y4 y5
      obtain ⟨x0, x1⟩ := HXT3.out
      obtain ⟨y0, y1, y2, y3, y4, y5⟩ := HXP3.out
      go_wp2_with fail
      with_reducible refine (pv_spec Aw D l cw c 9 t p w3 R3.out V3.out HWP.out).mono ?_
      rw [HV.out]
      rintro e4 w4 ⟨rfl, hb4⟩
      have R4 := Lib.hid (R3.out.at_ hb4)
      have V4 := Lib.hid (V3.out.at_ hb4)
      have HXT4 : Hid (Bx w4 w1.heap.size t) := HXT3.out.at_ hb4
      have HXP4 : Hid (PBx w4 (w1.heap.size + 1) p (.slice D p.kids.length c)) := HXP3.out.at_ hb4
      have HBB4 : Hid (Below w.heap.size w w4) := below_after HBB3.out hb4 HBB3.out.size
      clear hb4
      clear x0 x1 y0 y1 y2 y3 y4 y5
      obtain ⟨x0, x1⟩ := HXT4.out
      obtain ⟨y0, y1, y2, y3, y4, y5⟩ := HXP4.out
      go_wp2_with fail
      go_ret
      exact ⟨rfl, HBB4.out⟩
  · have hbI : (1048576 : Int) < (n : Int) := by omega
    go_enter Try.func8, Try.ntmps8
    go_wp2_with fail
    go_ret
    exact ⟨rfl, Below.refl _ _⟩
end Go.Proofs.Yteoopmogklpnoaa
