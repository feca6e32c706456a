/-
  ClauseValid of the program and of the document. No statement is proved here.
-/
import Derived.Test.YthecfkdilbfimaaGreatG25
import Derived.Test.YthecfkdilbfimaaGreatG04
namespace Go.Proofs.YthecfkdilbfimaaGreat
open Go.RowKit Go.Sort Go.Deep
set_option maxRecDepth 100000
set_option linter.unusedVariables false

def CBx (w : World) (b : Nat) (p : Pt) (s : Value) (g0 g1 g2 : Int) : Prop := PBx w b p s ∧ w.cell? ⟨b, 6, none⟩ = some (.int .i64 g0) ∧ w.cell? ⟨b, 7, none⟩ = some (.int .i64 g1) ∧ w.cell? ⟨b, 8, none⟩ = some (.int .i64 g2)
theorem CBx.keep {w w' : World} {b : Nat} {p : Pt} {s : Value} {g0 g1 g2 : Int} (h : CBx w b p s g0 g1 g2) (hk : w'.heap[b]? = w.heap[b]?) : CBx w' b p s g0 g1 g2 :=
  ⟨h.1.keep hk, (World.cell?_of_block (a := ⟨b, 6, none⟩) hk).trans h.2.1, (World.cell?_of_block (a := ⟨b, 7, none⟩) hk).trans h.2.2.1, (World.cell?_of_block (a := ⟨b, 8, none⟩) hk).trans h.2.2.2⟩
theorem CBx.at_ {w w' : World} {b : Nat} {p : Pt} {s : Value} {g0 g1 g2 : Int} (h : CBx w b p s g0 g1 g2) (hb : Below w.heap.size w w') : CBx w' b p s g0 g1 g2 := h.keep (hb.block b (Go.block_lt_of_cell h.1.1))
noncomputable def cvI (l : List Da) (t : Ty) (p : Pt) (g0 g1 g2 : Int) : Bool := isP l t p && gdB g0 g1 g2 (vrP l 10 t p)
noncomputable def cvT (l : List Da) (t : Ty) (p : Pt) (g0 g1 g2 : Int) : Bool := pvT l t p && gdB g0 g1 g2 (vrP l 10 t p)
section
variable {l : List Da} {t : Ty} {p : Pt} {g0 g1 g2 : Int}
theorem cvT_ty (h : TyOK l t) : cvT l t p g0 g1 g2 = cvI l t p g0 g1 g2 := by unfold cvT cvI; rw [pvT_yes h]
theorem cvT_noty (h : ¬ TyOK l t) : cvT l t p g0 g1 g2 = false := by unfold cvT; rw [pvT_no h]; rfl
theorem isP_parts (h : isP l t p = true) : shP l 10 t p = true ∧ 1 + wP p ≤ 60 ∧ linP l 10 t p = true := by
  unfold isP at h
  rw [Bool.and_eq_true, Bool.and_eq_true] at h
  exact ⟨h.1, of_decide_eq_true h.2.1, h.2.2⟩
theorem isP_int (ht : TyOK l t) (h : isP l t p = true) : IntV (vrP l 10 t p) := by
  obtain ⟨h1, _, h3⟩ := isP_parts h
  exact ⟨lin_once h1 h3, fun x hx hd => ty_int (vrP_tys ht h1 x hx) hd⟩
end

theorem slice_inj {A B : Option Addr} {n m c d : Nat} (h : Value.slice A n c = .slice B m d) : B = A ∧ m = n ∧ d = c := by
  injection h with h1 h2 h3
  exact ⟨h1.symm, h2.symm, h3.symm⟩
set_option maxHeartbeats 3200000 in
theorem l4Is_any (A D : Option Addr) (l : List Da) (cap ep e : Nat) (t : Ty) (p : Pt) (g0 g1 g2 : Int) (w : World) (hr : RDas w w.heap.size A l) (hv : RPs e w w.heap.size D p.kids) (hn : wP p ≤ 1048576) (ht : TyOK l t) :
    Calls Tryz.prog 54 #[.slice A l.length cap, .agg #[.int .i64 t.data, .int .i64 t.index], .agg #[.int .i64 p.op, .int .i64 p.ctor, .int .i64 p.n, .int .i64 p.m, .int .i64 p.var, .slice D p.kids.length ep, .int .i64 g0, .int .i64 g1, .int .i64 g2]] w fun e w' => e = .returned (.bool (cvI l t p g0 g1 g2)) ∧ Below w.heap.size w w' := by
  have Hr := Lib.hid hr
  have HV := Lib.hid hv
  clear hr hv
  generalize hw0 : (w.alloc (.cells #[.int .i64 t.data, .int .i64 t.index] 31)).alloc (.cells #[.int .i64 p.op, .int .i64 p.ctor, .int .i64 p.n, .int .i64 p.m, .int .i64 p.var, .slice D p.kids.length ep, .int .i64 g0, .int .i64 g1, .int .i64 g2] 93) = w0
  have hb0 : Below w.heap.size w w0 := by rw [← hw0]; exact ((Below.refl _ _).alloc (Nat.le_refl _) _).alloc (by simp) _
  have HXT : Hid (Bx w0 w.heap.size t) := by rw [← hw0]; exact ⟨by simp [go_sem], by simp [go_sem]⟩
  have HXC : Hid (CBx w0 (w.heap.size + 1) p (.slice D p.kids.length ep) g0 g1 g2) := by rw [← hw0]; exact ⟨⟨by simp [go_sem], by simp [go_sem], by simp [go_sem], by simp [go_sem], by simp [go_sem], by simp [go_sem]⟩, by simp [go_sem], by simp [go_sem], by simp [go_sem]⟩
  have HW := Lib.hid hw0
  clear hw0
  have HT := Lib.hid ht
  clear ht
  have HKS : Hid (∀ w', Below w0.heap.size w0 w' → w'.cell? ⟨w.heap.size, 0, none⟩ = some (.int .i64 t.data) ∧ w'.cell? ⟨w.heap.size, 1, none⟩ = some (.int .i64 t.index) ∧ w'.cell? ⟨w.heap.size + 1, 0, none⟩ = some (.int .i64 p.op) ∧ w'.cell? ⟨w.heap.size + 1, 1, none⟩ = some (.int .i64 p.ctor) ∧ w'.cell? ⟨w.heap.size + 1, 2, none⟩ = some (.int .i64 p.n) ∧ w'.cell? ⟨w.heap.size + 1, 3, none⟩ = some (.int .i64 p.m) ∧ w'.cell? ⟨w.heap.size + 1, 4, none⟩ = some (.int .i64 p.var) ∧ w'.cell? ⟨w.heap.size + 1, 5, none⟩ = some (.slice D p.kids.length ep) ∧ w'.cell? ⟨w.heap.size + 1, 6, none⟩ = some (.int .i64 g0) ∧ w'.cell? ⟨w.heap.size + 1, 7, none⟩ = some (.int .i64 g1) ∧ w'.cell? ⟨w.heap.size + 1, 8, none⟩ = some (.int .i64 g2)) := fun w' h => by
    obtain ⟨a, b⟩ := HXT.out.at_ h
    obtain ⟨⟨y0, y1, y2, y3, y4, y5⟩, y6, y7, y8⟩ := HXC.out.at_ h
    exact ⟨a, b, y0, y1, y2, y3, y4, y5, y6, y7, y8⟩
  by_cases hf : isP l t p = true
  · have HF := Lib.hid hf
    have HIV := Lib.hid (isP_int HT.out hf)
    have HPT := Lib.hid (isP_parts hf)
    have HG : Hid (cvI l t p g0 g1 g2 = gdB g0 g1 g2 (vrP l 10 t p)) := by unfold Hid cvI; rw [hf]; rfl
    have SQ := HKS.out w0.drew (Below.refl _ w0).drew
    clear hf
    go_enter Tryz.func54, Tryz.ntmps54
    go_wp2_with fail
    rw [HW.out]
    go_region_held3 (fun w' => w'.cell? ⟨w.heap.size, 0, none⟩ = some (.int .i64 t.data) ∧ w'.cell? ⟨w.heap.size, 1, none⟩ = some (.int .i64 t.index) ∧ w'.cell? ⟨w.heap.size + 1, 0, none⟩ = some (.int .i64 p.op) ∧ w'.cell? ⟨w.heap.size + 1, 1, none⟩ = some (.int .i64 p.ctor) ∧ w'.cell? ⟨w.heap.size + 1, 2, none⟩ = some (.int .i64 p.n) ∧ w'.cell? ⟨w.heap.size + 1, 3, none⟩ = some (.int .i64 p.m) ∧ w'.cell? ⟨w.heap.size + 1, 4, none⟩ = some (.int .i64 p.var) ∧ w'.cell? ⟨w.heap.size + 1, 5, none⟩ = some (.slice D p.kids.length ep) ∧ w'.cell? ⟨w.heap.size + 1, 6, none⟩ = some (.int .i64 g0) ∧ w'.cell? ⟨w.heap.size + 1, 7, none⟩ = some (.int .i64 g1) ∧ w'.cell? ⟨w.heap.size + 1, 8, none⟩ = some (.int .i64 g2)) (with_reducible exact SQ) (first | (go_at_call 107; (with_reducible refine (isP_any A D l cap ep e t p w0.drew (Hr.out.at_ hb0.drew) HT.out (HV.out.at_ hb0.drew) hn).mono ?_); rw [HF.out]; rintro e1 w1 ⟨rfl, hb'⟩; have hbq : Below w0.heap.size w0 w1 := ⟨hb'.os, hb'.tape, hb'.output, hb'.size, hb'.block⟩; have SQ := HKS.out _ hbq; clear hb') | (go_at_call 109; (with_reducible refine (vars_new l 10 A D cap ep e t p w1 (Hr.out.at_ (below_aft hb0 hbq hb0.size)) HT.out (HV.out.at_ (below_aft hb0 hbq hb0.size)) HPT.out.1 (by have := HPT.out.2.1; omega)).mono ?_); rintro e2 w2 ⟨A2, c2, rfl, hr2, hb'⟩; have hbq := below_aft hbq hb' hbq.size; have SQ := HKS.out _ hbq; have HR2 := Lib.hid hr2; clear hr2 hb') | (go_at_call 108; (with_reducible refine (guard_spec g0 g1 g2 A2 _ c2 w2 HR2.out HIV.out).mono ?_); rintro e3 w3 ⟨rfl, hb'⟩; have hbq := below_aft hbq hb' hbq.size; have SQ := HKS.out _ hbq; clear hb'))
    go_wp2_with fail
    go_ret
    exact ⟨ret_bool HG.out.symm, below_aft hb0 hbq hb0.size⟩
  · have hf' : isP l t p = false := by simpa using hf
    have HF := Lib.hid hf'
    have HG : Hid (cvI l t p g0 g1 g2 = false) := by unfold Hid cvI; rw [hf']; rfl
    clear hf hf'
    have HC : Hid (∀ dq osq, Calls Tryz.prog 107 #[.slice A l.length cap, .agg #[.int .i64 t.data, .int .i64 t.index], .agg #[.int .i64 p.op, .int .i64 p.ctor, .int .i64 p.n, .int .i64 p.m, .int .i64 p.var, .slice D p.kids.length ep]] (grow (redrawn w0 dq) osq) fun e' w' => e' = .returned (.bool false) ∧ Below (grow (redrawn w0 dq) osq).heap.size (grow (redrawn w0 dq) osq) w') := fun dq osq => by
      have h1 := isP_any A D l cap ep e t p (grow (redrawn w0 dq) osq) ((Hr.out.at_ hb0).at_ (below_regrown w0 dq osq)) HT.out ((HV.out.at_ hb0).at_ (below_regrown w0 dq osq)) hn
      rw [HF.out] at h1
      exact h1
    obtain ⟨x0, x1⟩ := HXT.out
    obtain ⟨⟨y0, y1, y2, y3, y4, y5⟩, y6, y7, y8⟩ := HXC.out
    have d0 := cell_regrown x0
    have d1 := cell_regrown x1
    have d2 := cell_regrown y0
    have d3 := cell_regrown y1
    have d4 := cell_regrown y2
    have d5 := cell_regrown y3
    have d6 := cell_regrown y4
    have d7 := cell_regrown y5
    clear x0 x1 y0 y1 y2 y3 y4 y5 y6 y7 y8
    go_enter Tryz.func54, Tryz.ntmps54
    go_wp2_with fail
    rw [HW.out]
    refine wp_region_quiet_below (by kernel_rfl) (by kernel_rfl) ?_
    repeat (quiet_step (exact Calls.regrown_of (HC.out _ _)))
    refine wpQuiet_nil ?_
    intro _ hw'
    obtain ⟨⟨dq, osq⟩, hw''⟩ := hw'
    subst hw''
    have hb2 := below_aft hb0 (below_regrown w0 dq osq) hb0.size
    clear d0 d1 d2 d3 d4 d5 d6 d7
    go_wp2_with fail
    go_ret
    exact ⟨ret_bool HG.out.symm, hb2⟩

end Go.Proofs.YthecfkdilbfimaaGreat
/-
  ClauseValid of the program. No statement is proved here.
-/
namespace Go.Proofs.YthecfkdilbfimaaGreat
open Go.RowKit Go.Sort Go.Deep
set_option maxRecDepth 100000
set_option linter.unusedVariables false
set_option maxHeartbeats 1600000 in
theorem cv_impl (A D : Option Addr) (l : List Da) (cap ep e : Nat) (t : Ty) (p : Pt) (g0 g1 g2 : Int) (w : World) (hr : RDas w w.heap.size A l) (hv : RPs e w w.heap.size D p.kids) :
    Calls Tryz.prog 58 #[.slice A l.length cap, .agg #[.int .i64 t.data, .int .i64 t.index], .agg #[.int .i64 p.op, .int .i64 p.ctor, .int .i64 p.n, .int .i64 p.m, .int .i64 p.var, .slice D p.kids.length ep, .int .i64 g0, .int .i64 g1, .int .i64 g2]] w fun e w' => e = .returned (.bool (cvT l t p g0 g1 g2)) ∧ Below w.heap.size w w' := by
  have Hr := Lib.hid hr
  have HV := Lib.hid hv
  clear hr hv
  generalize hw0 : (w.alloc (.cells #[.int .i64 t.data, .int .i64 t.index] 31)).alloc (.cells #[.int .i64 p.op, .int .i64 p.ctor, .int .i64 p.n, .int .i64 p.m, .int .i64 p.var, .slice D p.kids.length ep, .int .i64 g0, .int .i64 g1, .int .i64 g2] 93) = w0
  have hb0 : Below w.heap.size w w0 := by rw [← hw0]; exact ((Below.refl _ _).alloc (Nat.le_refl _) _).alloc (by simp) _
  have HXT : Hid (Bx w0 w.heap.size t) := by rw [← hw0]; exact ⟨by simp [go_sem], by simp [go_sem]⟩
  have HXC : Hid (CBx w0 (w.heap.size + 1) p (.slice D p.kids.length ep) g0 g1 g2) := by rw [← hw0]; exact ⟨⟨by simp [go_sem], by simp [go_sem], by simp [go_sem], by simp [go_sem], by simp [go_sem], by simp [go_sem]⟩, by simp [go_sem], by simp [go_sem], by simp [go_sem]⟩
  have HW := Lib.hid hw0
  clear hw0
  have HC := Lib.hid (check_any A D l cap ep e t p w0 (Hr.out.at_ hb0) (HV.out.at_ hb0))
  obtain ⟨x0, x1⟩ := HXT.out
  obtain ⟨⟨y0, y1, y2, y3, y4, y5⟩, y6, y7, y8⟩ := HXC.out
  by_cases hf : pvT l t p = true
  · have HC2 := Lib.hid (ChQ.known hf HC.out)
    have hsh := pvT_sh hf
    have hlm : (vrP l 10 t p).length ≤ maxLen := by have := vrP_len l 10 t p hsh.1; have := hsh.2; unfold maxLen; omega
    have HG : Hid (cvT l t p g0 g1 g2 = gdB g0 g1 g2 (vrP l 10 t p)) := by unfold Hid cvT; rw [hf]; rfl
    have HLM := Lib.hid hlm
    clear hf hsh hlm
    go_enter Tryz.func58, Tryz.ntmps58
    go_wp2_with (first | (go_at_call 112; (try rw [HW.out]); go_loud (refine HC2.out.mono ?_; rintro e1 w1 ⟨A1, n1, c1, rfl, hy1, hb1⟩); obtain ⟨A1', c1', e1', hr1⟩ := (hy1 rfl).form HLM.out; obtain ⟨rfl, rfl, rfl⟩ := slice_inj e1'; have HR1 := Lib.hid hr1; clear hy1 hr1 e1'; obtain ⟨z0, z1⟩ := HXT.out.at_ hb1; obtain ⟨⟨q0, q1, q2, q3, q4, q5⟩, q6, q7, q8⟩ := HXC.out.at_ hb1; have hb1w := below_aft hb0 hb1 hb0.size) | (go_at_call 113; refine (guard_impl g0 g1 g2 A1' (vrP l 10 t p) c1' w1 HR1.out).mono ?_; rintro e2 w2 ⟨rfl, hb2⟩))
    go_ret
    exact ⟨ret_bool HG.out.symm, below_aft hb1w hb2 hb1w.size⟩
  · have hf' : pvT l t p = false := by simpa using hf
    have HC2 := Lib.hid (ChQ.known hf' HC.out)
    have HG : Hid (cvT l t p g0 g1 g2 = false) := by unfold Hid cvT; rw [hf']; rfl
    clear hf hf'
    go_enter Tryz.func58, Tryz.ntmps58
    go_wp2_with (go_at_call 112; (try rw [HW.out]); refine HC2.out.mono ?_; rintro e1 w1 ⟨A1, n1, c1, rfl, hy1, hb1⟩; clear hy1; obtain ⟨z0, z1⟩ := HXT.out.at_ hb1; have hb1w := below_aft hb0 hb1 hb0.size)
    go_ret
    exact ⟨ret_bool HG.out.symm, hb1w⟩
end Go.Proofs.YthecfkdilbfimaaGreat
/-
  When a list of clauses is right: what is asked, and the search of a clause that is not. No statement is proved here.
-/
namespace Go.Proofs.YthecfkdilbfimaaGreat
open Go.RowKit Go.Sort Go.Deep
set_option maxRecDepth 100000
set_option linter.unusedVariables false


noncomputable def ckB (l : List Da) (t : Ty) (x : Cn) : Bool := cvT l t x.pat x.g0 x.g1 x.g2
noncomputable def csB (l : List Da) (t : Ty) (L : List Cn) : Bool := dec (TyOK l t) && dec (L.length ≤ 8 ∧ ∀ x ∈ L, ckB l t x = true)
def AllC (l : List Da) (t : Ty) (L : List Cn) (k : Nat) : Prop := ∀ j (h : j < L.length), j < k → ckB l t L[j] = true
section
variable {l : List Da} {t : Ty} {L : List Cn} {k : Nat}
theorem AllC.zero : AllC l t L 0 := fun j _ h => absurd h (by omega)
theorem AllC.step (h : AllC l t L k) (hk : k < L.length) (e : ckB l t L[k] = true) : AllC l t L (k + 1) := by
  intro j hj hjk
  by_cases e' : j = k
  · subst e'; exact e
  · exact h j hj (by omega)
theorem AllC.all (h : AllC l t L L.length) : ∀ x ∈ L, ckB l t x = true := fun x hx => by
  obtain ⟨j, hj, e⟩ := List.getElem_of_mem hx
  rw [← e]; exact h j hj hj
theorem cs_yes (ht : TyOK l t) (hl : L.length ≤ 8) (h : AllC l t L L.length) : csB l t L = true := by unfold csB; rw [dec_t ht, dec_t ⟨hl, h.all⟩]; rfl
theorem cs_noty (ht : ¬ TyOK l t) : csB l t L = false := by unfold csB; rw [dec_f ht]; rfl
theorem cs_nolen (hl : ¬ L.length ≤ 8) : csB l t L = false := by unfold csB; rw [dec_f (fun h => hl h.1 : ¬ (L.length ≤ 8 ∧ ∀ x ∈ L, ckB l t x = true))]; simp
theorem cs_noat (hk : k < L.length) (e : ckB l t L[k] = false) : csB l t L = false := by
  have h : ¬ (L.length ≤ 8 ∧ ∀ x ∈ L, ckB l t x = true) := fun h => by have := h.2 _ (List.getElem_mem hk); rw [e] at this; cases this
  unfold csB; rw [dec_f h]; simp
end
/-- What the search answers: whether there is a clause that is none. -/
def BadR (l : List Da) (t : Ty) (L : List Cn) (r : Int) : Prop := (r = -1 ∧ AllC l t L L.length) ∨ ∃ k : Nat, ∃ h : k < L.length, r = k ∧ ckB l t L[k] = false

set_option maxHeartbeats 1600000 in
theorem isBad_any (pa pb : Nat) (A A' : Option Addr) (l : List Da) (cap cp e : Nat) (t : Ty) (x : Cn) (w : World) (hr : RDas w w.heap.size A l) (hv : RPs e w w.heap.size A' x.pat.kids) (hp : w.cell? ⟨pa, 0, none⟩ = some (.slice A l.length cap) ∧ w.cell? ⟨pb, 0, none⟩ = some (.int .i64 t.data) ∧ w.cell? ⟨pb, 1, none⟩ = some (.int .i64 t.index)) :
    Calls Tryz.prog 57 #[.agg #[.int .i64 x.pat.op, .int .i64 x.pat.ctor, .int .i64 x.pat.n, .int .i64 x.pat.m, .int .i64 x.pat.var, .slice A' x.pat.kids.length cp, .int .i64 x.g0, .int .i64 x.g1, .int .i64 x.g2], .pointer (some ⟨pa, 0, none⟩), .pointer (some ⟨pb, 0, none⟩)] w fun e w' => e = .returned (.bool (!ckB l t x)) ∧ Below w.heap.size w w' := by
  have Hr := Lib.hid hr
  have HV := Lib.hid hv
  obtain ⟨hp0, hp1, hp2⟩ := hp
  have hpa : pa < w.heap.size := Go.block_lt_of_cell hp0
  have hpb : pb < w.heap.size := Go.block_lt_of_cell hp1
  clear hr hv
  generalize hw0 : w.alloc (.cells #[.int .i64 x.pat.op, .int .i64 x.pat.ctor, .int .i64 x.pat.n, .int .i64 x.pat.m, .int .i64 x.pat.var, .slice A' x.pat.kids.length cp, .int .i64 x.g0, .int .i64 x.g1, .int .i64 x.g2] 93) = w0
  have hb0 : Below w.heap.size w w0 := by rw [← hw0]; exact (Below.refl _ _).alloc (Nat.le_refl _) _
  have HX : Hid (CBx w0 w.heap.size x.pat (.slice A' x.pat.kids.length cp) x.g0 x.g1 x.g2) := by rw [← hw0]; exact ⟨⟨by simp [go_sem], by simp [go_sem], by simp [go_sem], by simp [go_sem], by simp [go_sem], by simp [go_sem]⟩, by simp [go_sem], by simp [go_sem], by simp [go_sem]⟩
  have q0 : w0.cell? ⟨pa, 0, none⟩ = some (.slice A l.length cap) := (hb0.cell (p := ⟨pa, 0, none⟩) hpa).trans hp0
  have q1 : w0.cell? ⟨pb, 0, none⟩ = some (.int .i64 t.data) := (hb0.cell (p := ⟨pb, 0, none⟩) hpb).trans hp1
  have q2 : w0.cell? ⟨pb, 1, none⟩ = some (.int .i64 t.index) := (hb0.cell (p := ⟨pb, 1, none⟩) hpb).trans hp2
  have HI := Lib.hid (cv_impl A A' l cap cp e t x.pat x.g0 x.g1 x.g2 w0 (Hr.out.at_ hb0) (HV.out.at_ hb0))
  have HW := Lib.hid hw0
  rw [← hw0] at q0 q1 q2
  clear hw0 hp0 hp1 hp2
  have HC : Hid (cvT l t x.pat x.g0 x.g1 x.g2 = ckB l t x) := rfl
  generalize ckB l t x = b at HC ⊢
  obtain ⟨⟨y0, y1, y2, y3, y4, y5⟩, y6, y7, y8⟩ := HX.out
  go_enter Tryz.func57, Tryz.ntmps57
  go_wp2_with (go_at_call 58; (try rw [HW.out]); refine HI.out.mono ?_; rw [HC.out]; rintro e w1 ⟨rfl, hb⟩; have hbw := below_aft hb0 hb hb0.size)
  go_ret
  exact ⟨rfl, hbw⟩

set_option maxHeartbeats 1600000 in
theorem indexBad_any (pa pb : Nat) (A C : Option Addr) (l : List Da) (cap ccap d : Nat) (t : Ty) (L : List Cn) (w : World) (hr : RDas w w.heap.size A l) (hv : RCs d w w.heap.size C L) (hp : w.cell? ⟨pa, 0, none⟩ = some (.slice A l.length cap) ∧ w.cell? ⟨pb, 0, none⟩ = some (.int .i64 t.data) ∧ w.cell? ⟨pb, 1, none⟩ = some (.int .i64 t.index)) :
    Calls Tryz.prog 116 #[.slice C L.length ccap, .func (.func 57) #[] #[.pointer (some ⟨pa, 0, none⟩), .pointer (some ⟨pb, 0, none⟩)]] w fun e w' => ∃ r : Int, e = .returned (.int .i64 r) ∧ BadR l t L r ∧ Below w.heap.size w w' := by
  have hn := hv.1
  unfold maxLen at hn
  have Hr := Lib.hid hr
  have HV := Lib.hid hv
  have HP := Lib.hid hp
  have hpa : pa < w.heap.size := Go.block_lt_of_cell hp.1
  have hpb : pb < w.heap.size := Go.block_lt_of_cell hp.2.1
  clear hr hv hp
  go_enter Tryz.func116, Tryz.ntmps116
  go_wp2_with fail
  go_loopw [8] (fun i wr => ∃ k : Nat, k ≤ L.length ∧ i = .int .i64 k ∧ Hid (AllC l t L k) ∧ Below w.heap.size w wr) (fun i _ => L.length - (intOf i).toNat)
  case atStart => exact ⟨0, by omega, rfl, AllC.zero, Below.refl _ _⟩
  case round =>
    obtain ⟨k, hk, rfl, hno, hb⟩ := hrel
    by_cases hlt : k < L.length
    · obtain ⟨g, off, rfl, hbB, A', cp, c0, c1, c2, c3, c4, c5, c6, c7, c8, hm⟩ := (HV.out.below hb (Nat.le_refl _)).2 k hlt
      have hkI : (k : Int) < (L.length : Int) := by omega
      have hpw : wr.cell? ⟨pa, 0, none⟩ = some (.slice A l.length cap) ∧ wr.cell? ⟨pb, 0, none⟩ = some (.int .i64 t.data) ∧ wr.cell? ⟨pb, 1, none⟩ = some (.int .i64 t.index) := ⟨(hb.cell (p := ⟨pa, 0, none⟩) hpa).trans HP.out.1, (hb.cell (p := ⟨pb, 0, none⟩) hpb).trans HP.out.2.1, (hb.cell (p := ⟨pb, 1, none⟩) hpb).trans HP.out.2.2⟩
      have HIS := Lib.hid (isBad_any pa pb A A' l cap cp d t L[k] wr (Hr.out.at_ hb) (hm.keep (fun _ _ => rfl) hb.size) hpw)
      clear hm hpw
      have HBs := Lib.hid hb.size
      by_cases hs : ckB l t L[k] = true
      · have HC := Lib.hid hs
        have HN := Lib.hid (hno.out.step hlt hs)
        clear hs hno
        go_wp2_with fail
        refine HIS.out.mono ?_
        rw [HC.out]
        rintro e w1 ⟨rfl, hb1⟩
        have hb2 := hb.trans (hb1.mono HBs.out)
        go_wp2_with fail
        go_roundw
        case rel => exact ⟨k + 1, by omega, by go_num, HN, hb2⟩
        case measure => simp [intOf]; omega
      · have hs' : ckB l t L[k] = false := by simpa using hs
        have HC := Lib.hid hs'
        have HT : Hid (BadR l t L (k : Int)) := .inr ⟨k, hlt, rfl, hs'⟩
        clear hs hs' hno
        go_wp2_with fail
        refine HIS.out.mono ?_
        rw [HC.out]
        rintro e w1 ⟨rfl, hb1⟩
        have hb2 := hb.trans (hb1.mono HBs.out)
        go_wp2_with fail
        go_ret
        exact ⟨_, rfl, HT.out, hb2⟩
    · have HT : Hid (BadR l t L (-1)) := .inl ⟨rfl, fun j hj hjk => hno.out j hj (by omega)⟩
      clear hno
      go_wp2_with fail
      go_ret
      exact ⟨_, rfl, HT.out, hb⟩
theorem BadR.two {l : List Da} {t : Ty} {L : List Cn} {r : Int} (h : BadR l t L r) : (decide (0 ≤ r) = false ∧ AllC l t L L.length) ∨ (decide (0 ≤ r) = true ∧ csB l t L = false) := by
  rcases h with ⟨rfl, h⟩ | ⟨k, hk, rfl, h⟩
  · exact .inl ⟨rfl, h⟩
  · exact .inr ⟨decide_eq_true (by omega), cs_noat hk h⟩
theorem containsBad_any (pa pb : Nat) (A C : Option Addr) (l : List Da) (cap ccap d : Nat) (t : Ty) (L : List Cn) (w : World) (hr : RDas w w.heap.size A l) (hv : RCs d w w.heap.size C L) (hp : w.cell? ⟨pa, 0, none⟩ = some (.slice A l.length cap) ∧ w.cell? ⟨pb, 0, none⟩ = some (.int .i64 t.data) ∧ w.cell? ⟨pb, 1, none⟩ = some (.int .i64 t.index)) :
    Calls Tryz.prog 60 #[.slice C L.length ccap, .func (.func 57) #[] #[.pointer (some ⟨pa, 0, none⟩), .pointer (some ⟨pb, 0, none⟩)]] w fun e w' => ∃ b : Bool, e = .returned (.bool b) ∧ (TyOK l t → L.length ≤ 8 → csB l t L = !b) ∧ Below w.heap.size w w' := by
  have HI := Lib.hid (indexBad_any pa pb A C l cap ccap d t L w hr hv hp)
  clear hr hv hp
  go_enter Tryz.func60, Tryz.ntmps60
  go_wp2_with fail
  refine HI.out.mono ?_
  rintro e w1 ⟨r, rfl, hd, hb⟩
  have HD := Lib.hid hd.two
  clear hd
  go_wp2_with fail
  go_ret
  exact ⟨_, rfl, fun h1 h2 => by rcases HD.out with ⟨e, h⟩ | ⟨e, h⟩ <;> rw [e] <;> first | exact cs_yes h1 h2 h | exact h, hb⟩
end Go.Proofs.YthecfkdilbfimaaGreat
/-
  ClausesValid of the program. No statement is proved here.
-/
namespace Go.Proofs.YthecfkdilbfimaaGreat
open Go.RowKit Go.Sort Go.Deep
set_option maxRecDepth 100000
set_option linter.unusedVariables false


set_option maxHeartbeats 1600000 in
theorem cs_impl (A C : Option Addr) (l : List Da) (cap ccap d : Nat) (t : Ty) (L : List Cn) (w : World) (hr : RDas w w.heap.size A l) (hv : RCs d w w.heap.size C L) :
    Calls Tryz.prog 17 #[.slice A l.length cap, .agg #[.int .i64 t.data, .int .i64 t.index], .slice C L.length ccap] w fun e w' => e = .returned (.bool (csB l t L)) ∧ Below w.heap.size w w' := by
  have Hr := Lib.hid hr
  have HV := Lib.hid hv
  clear hr hv
  generalize hw0 : (w.alloc (.cells #[.slice A l.length cap] 29)).alloc (.cells #[.int .i64 t.data, .int .i64 t.index] 31) = w0
  have hb0 : Below w.heap.size w w0 := by rw [← hw0]; exact ((Below.refl _ _).alloc (Nat.le_refl _) _).alloc (by simp) _
  have HXA : Hid (w0.cell? ⟨w.heap.size, 0, none⟩ = some (.slice A l.length cap)) := by rw [← hw0]; unfold Hid; simp [go_sem]
  have HXT : Hid (Bx w0 (w.heap.size + 1) t) := by rw [← hw0]; exact ⟨by simp [go_sem], by simp [go_sem]⟩
  have hs0 : w.heap.size < w0.heap.size := by rw [← hw0]; simp <;> omega
  have HW := Lib.hid hw0
  clear hw0
  have xa := HXA.out
  obtain ⟨x0, x1⟩ := HXT.out
  by_cases ht : TyOK l t
  · have HT := Lib.hid ht
    clear ht
    by_cases hl : L.length ≤ 8
    · have q8 : decide ((L.length : Int) ≤ 8) = true := decide_eq_true (by omega)
      have HL := Lib.hid hl
      clear hl
      go_enter Tryz.func17, Tryz.ntmps17
      go_wp2_with (first | (go_at_call 59; (try rw [HW.out]); refine (typeI_yes (t := t) (Hr.out.at_ hb0) HT.out).mono ?_; rintro e1 w1 ⟨rfl, hb1⟩; have ya := (hb1.cell (p := ⟨w.heap.size, 0, none⟩) hs0).trans HXA.out; obtain ⟨y0, y1⟩ := HXT.out.at_ hb1; have hb1w := below_aft hb0 hb1 hb0.size) | (go_at_call 60; refine (containsBad_any w.heap.size (w.heap.size + 1) A C l cap ccap d t L w1 (Hr.out.at_ hb1w) (HV.out.at_ hb1w) ⟨ya, y0, y1⟩).mono ?_; rintro e2 w2 ⟨b, rfl, hcs, hb2⟩; have HCS := Lib.hid (hcs HT.out HL.out); clear hcs))
      go_ret
      exact ⟨ret_bool HCS.out.symm, below_aft hb1w hb2 hb1w.size⟩
    · have q8 : decide ((L.length : Int) ≤ 8) = false := decide_eq_false (by omega)
      have HF : Hid (csB l t L = false) := cs_nolen hl
      clear hl
      go_enter Tryz.func17, Tryz.ntmps17
      go_wp2_with (go_at_call 59; (try rw [HW.out]); refine (typeI_yes (t := t) (Hr.out.at_ hb0) HT.out).mono ?_; rintro e1 w1 ⟨rfl, hb1⟩; have ya := (hb1.cell (p := ⟨w.heap.size, 0, none⟩) hs0).trans HXA.out; obtain ⟨y0, y1⟩ := HXT.out.at_ hb1; have hb1w := below_aft hb0 hb1 hb0.size)
      go_ret
      exact ⟨ret_bool HF.out.symm, hb1w⟩
  · have HT := Lib.hid ht
    have HF : Hid (csB l t L = false) := cs_noty ht
    clear ht
    go_enter Tryz.func17, Tryz.ntmps17
    go_wp2_with (go_at_call 59; (try rw [HW.out]); refine (typeI_no (t := t) (Hr.out.at_ hb0) HT.out).mono ?_; rintro e1 w1 ⟨rfl, hb1⟩; have ya := (hb1.cell (p := ⟨w.heap.size, 0, none⟩) hs0).trans HXA.out; obtain ⟨y0, y1⟩ := HXT.out.at_ hb1; have hb1w := below_aft hb0 hb1 hb0.size)
    go_ret
    exact ⟨ret_bool HF.out.symm, hb1w⟩
end Go.Proofs.YthecfkdilbfimaaGreat
/-
  ClausesValid of the document. No statement is proved here.
-/
namespace Go.Proofs.YthecfkdilbfimaaGreat
open Go.RowKit Go.Sort Go.Deep
set_option maxRecDepth 100000
set_option linter.unusedVariables false


set_option maxHeartbeats 3200000 in
theorem cs_spec (A C : Option Addr) (l : List Da) (cap ccap d : Nat) (t : Ty) (L : List Cn) (w : World) (hr : RDas w w.heap.size A l) (hv : RCs d w w.heap.size C L) (hw : wCs L ≤ 1048576) :
    Calls Tryz.prog 13 #[.slice A l.length cap, .agg #[.int .i64 t.data, .int .i64 t.index], .slice C L.length ccap] w fun e w' => e = .returned (.bool (csB l t L)) ∧ Below w.heap.size w w' := by
  have HN : Hid (∀ k (h : k < L.length), wP L[k].pat ≤ 1048576) := fun k h => by
    have h1 := sum_take_succ wC L k h
    have h2 := sum_take_le wC L (k + 1)
    have h3 : wC L[k] = wPs L[k].pat.kids := rfl
    have h4 : wCs L = L.length + (L.map wC).sum := rfl
    rw [wP_kids]; omega
  have Hr := Lib.hid hr
  have HV := Lib.hid hv
  have hn := hv.1
  unfold maxLen at hn
  clear hr hv
  generalize hw0 : w.alloc (.cells #[.int .i64 t.data, .int .i64 t.index] 31) = w0
  have hb0 : Below w.heap.size w w0 := by rw [← hw0]; exact (Below.refl _ _).alloc (Nat.le_refl _) _
  have HXT : Hid (Bx w0 w.heap.size t) := by rw [← hw0]; exact ⟨by simp [go_sem], by simp [go_sem]⟩
  have HW := Lib.hid hw0
  clear hw0
  obtain ⟨x0, x1⟩ := HXT.out
  by_cases ht : TyOK l t
  · have HT := Lib.hid ht
    clear ht
    by_cases hl : L.length ≤ 8
    · have q8 : decide ((8 : Int) < (L.length : Int)) = false := decide_eq_false (by omega)
      have HL := Lib.hid hl
      clear hl
      go_enter Tryz.func13, Tryz.ntmps13
      go_wp2_with (go_at_call 53; (try rw [HW.out]); refine (typeV_yes (t := t) (Hr.out.at_ hb0) HT.out).mono ?_; rintro e1 w1 ⟨rfl, hb1⟩; have HX1 := Lib.hid (HXT.out.at_ hb1); have hb1w := below_aft hb0 hb1 hb0.size)
      clear x0 x1
      go_loopw [7] (fun i wr => ∃ k : Nat, k ≤ L.length ∧ i = .int .i64 k ∧ Hid (AllC l t L k) ∧ Below w1.heap.size w1 wr) (fun i _ => L.length - (intOf i).toNat)
      case atStart => exact ⟨0, by omega, rfl, AllC.zero, Below.refl _ _⟩
      case round =>
        obtain ⟨k, hk, rfl, hno, hbr⟩ := hrel
        have hb := below_aft hb1w hbr hb1w.size
        by_cases hlt : k < L.length
        · obtain ⟨g, off, rfl, hbB, A', cp, c0, c1, c2, c3, c4, c5, c6, c7, c8, hm⟩ := (HV.out.below hb (Nat.le_refl _)).2 k hlt
          have hkI : (k : Int) < (L.length : Int) := by omega
          obtain ⟨y0, y1⟩ := HX1.out.at_ hbr
          have z0 := cell_regrown y0
          have z1 := cell_regrown y1
          have d0 := cell_regrown c0
          have d1 := cell_regrown c1
          have d2 := cell_regrown c2
          have d3 := cell_regrown c3
          have d4 := cell_regrown c4
          have d5 := cell_regrown c5
          have d6 := cell_regrown c6
          have d7 := cell_regrown c7
          have d8 := cell_regrown c8
          have Hm := Lib.hid (hm.keep (fun _ _ => rfl) hb.size)
          clear c0 c1 c2 c3 c4 c5 c6 c7 c8 y0 y1 hm
          by_cases hs : ckB l t L[k] = true
          · have HCK : Hid (cvI l t L[k].pat L[k].g0 L[k].g1 L[k].g2 = true) := (cvT_ty HT.out).symm.trans hs
            have HNX := Lib.hid (hno.out.step hlt hs)
            clear hs hno
            have HC : Hid (∀ dq osq, Calls Tryz.prog 54 #[.slice A l.length cap, .agg #[.int .i64 t.data, .int .i64 t.index], .agg #[.int .i64 L[k].pat.op, .int .i64 L[k].pat.ctor, .int .i64 L[k].pat.n, .int .i64 L[k].pat.m, .int .i64 L[k].pat.var, .slice A' L[k].pat.kids.length cp, .int .i64 L[k].g0, .int .i64 L[k].g1, .int .i64 L[k].g2]] (grow (redrawn wr dq) osq) fun e' w' => e' = .returned (.bool true) ∧ Below (grow (redrawn wr dq) osq).heap.size (grow (redrawn wr dq) osq) w') := fun dq osq => by
              have h1 := l4Is_any A A' l cap cp d t L[k].pat L[k].g0 L[k].g1 L[k].g2 (grow (redrawn wr dq) osq) ((Hr.out.at_ hb).at_ (below_regrown wr dq osq)) ((Hm.out).at_ (below_regrown wr dq osq)) (HN.out k hlt) HT.out
              rw [HCK.out] at h1
              exact h1
            go_wp2_with fail
            refine wp_region_quiet_below (by kernel_rfl) (by kernel_rfl) ?_
            repeat (quiet_step (exact Calls.regrown_of (HC.out _ _)))
            refine wpQuiet_nil ?_
            intro _ hw'
            obtain ⟨⟨dq, osq⟩, hw''⟩ := hw'
            subst hw''
            have hb2 := hbr.trans ((below_regrown wr dq osq).mono hbr.size)
            clear d0 d1 d2 d3 d4 d5 d6 d7 d8 z0 z1
            go_wp2_with fail
            go_roundw
            case rel => exact ⟨k + 1, by omega, by go_num, HNX, hb2⟩
            case measure => simp [intOf]; omega
          · have hs' : ckB l t L[k] = false := by simpa using hs
            have HCK : Hid (cvI l t L[k].pat L[k].g0 L[k].g1 L[k].g2 = false) := (cvT_ty HT.out).symm.trans hs'
            have HF : Hid (csB l t L = false) := cs_noat hlt hs'
            clear hs hs' hno
            have HC : Hid (∀ dq osq, Calls Tryz.prog 54 #[.slice A l.length cap, .agg #[.int .i64 t.data, .int .i64 t.index], .agg #[.int .i64 L[k].pat.op, .int .i64 L[k].pat.ctor, .int .i64 L[k].pat.n, .int .i64 L[k].pat.m, .int .i64 L[k].pat.var, .slice A' L[k].pat.kids.length cp, .int .i64 L[k].g0, .int .i64 L[k].g1, .int .i64 L[k].g2]] (grow (redrawn wr dq) osq) fun e' w' => e' = .returned (.bool false) ∧ Below (grow (redrawn wr dq) osq).heap.size (grow (redrawn wr dq) osq) w') := fun dq osq => by
              have h1 := l4Is_any A A' l cap cp d t L[k].pat L[k].g0 L[k].g1 L[k].g2 (grow (redrawn wr dq) osq) ((Hr.out.at_ hb).at_ (below_regrown wr dq osq)) ((Hm.out).at_ (below_regrown wr dq osq)) (HN.out k hlt) HT.out
              rw [HCK.out] at h1
              exact h1
            go_wp2_with fail
            refine wp_region_quiet_below (by kernel_rfl) (by kernel_rfl) ?_
            repeat (quiet_step (exact Calls.regrown_of (HC.out _ _)))
            refine wpQuiet_nil ?_
            intro _ hw'
            obtain ⟨⟨dq, osq⟩, hw''⟩ := hw'
            subst hw''
            have hb2 := hbr.trans ((below_regrown wr dq osq).mono hbr.size)
            clear d0 d1 d2 d3 d4 d5 d6 d7 d8 z0 z1
            go_wp2_with fail
            go_ret
            exact ⟨ret_bool HF.out.symm, below_aft hb1w hb2 hb1w.size⟩
        · have HF : Hid (csB l t L = true) := cs_yes HT.out HL.out (fun j hj hjk => hno.out j hj (by omega))
          clear hno
          go_wp2_with fail
          go_ret
          exact ⟨ret_bool HF.out.symm, hb⟩
    · have q8 : decide ((8 : Int) < (L.length : Int)) = true := decide_eq_true (by omega)
      have HF : Hid (csB l t L = false) := cs_nolen hl
      clear hl
      go_enter Tryz.func13, Tryz.ntmps13
      go_wp2_with (go_at_call 53; (try rw [HW.out]); refine (typeV_yes (t := t) (Hr.out.at_ hb0) HT.out).mono ?_; rintro e1 w1 ⟨rfl, hb1⟩; have HX1 := Lib.hid (HXT.out.at_ hb1); have hb1w := below_aft hb0 hb1 hb0.size)
      go_ret
      exact ⟨ret_bool HF.out.symm, hb1w⟩
  · have HT := Lib.hid ht
    have HF : Hid (csB l t L = false) := cs_noty ht
    clear ht
    go_enter Tryz.func13, Tryz.ntmps13
    go_wp2_with (go_at_call 53; (try rw [HW.out]); refine (typeV_no (t := t) (Hr.out.at_ hb0) HT.out).mono ?_; rintro e1 w1 ⟨rfl, hb1⟩; have HX1 := Lib.hid (HXT.out.at_ hb1); have hb1w := below_aft hb0 hb1 hb0.size)
    go_ret
    exact ⟨ret_bool HF.out.symm, hb1w⟩
end Go.Proofs.YthecfkdilbfimaaGreat
