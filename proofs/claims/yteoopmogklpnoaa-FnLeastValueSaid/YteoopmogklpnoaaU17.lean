/-
  The least depth of a type, and whether it has values: the program's functions and the document's. No statement is proved here.
-/
import Derived.Test.YteoopmogklpnoaaU16
import Derived.Test.YteoopmogklpnoaaU00
import Derived.Test.YteoopmogklpnoaaU09
import Derived.Test.YteoopmogklpnoaaU11
namespace Go.Proofs.Yteoopmogklpnoaa
open Go.RowKit Go.Deep
set_option maxRecDepth 100000
set_option linter.unusedVariables false
theorem ldep_no {l : List Da} {t : Ty} (ht : t ∈ tysN l.length) (h : ¬ Inh l t) : ldep l t = 0 := by
  rcases ldep_is l t with ⟨h1, _⟩ | ⟨_, h2, _⟩
  · exact h1
  · exact absurd ⟨ht, _, h2⟩ h
theorem ldep_yes {l : List Da} {t : Ty} (h : Inh l t) : 0 < ldep l t := by
  obtain ⟨_, k, hk⟩ := h
  exact ldep_pos hk
theorem ret_pair {a b : Int} {c d : Bool} (h : a = b) (h2 : c = d) : Ending.returned (.tuple #[.int .i64 a, .bool c]) = .returned (.tuple #[.int .i64 b, .bool d]) := by rw [h, h2]
/-- The two results. -/
noncomputable def ldR (l : List Da) (t : Ty) : Int := if dec (TyOK l t) then ldep l t else 0
noncomputable def lbR (l : List Da) (t : Ty) : Bool := dec (TyOK l t ∧ Inh l t)
theorem depth_l (A : Option Addr) (l : List Da) (T : List Int) (cap N : Nat) (t : Ty) (hNT : T.length = N) (w : World) (hr : RInts w A T) (hw : WorldOK l) (hS : St l T (l.length * 4 + 1) 0 0) (ht : t ∈ tysN l.length) :
    Calls Try.prog 82 #[.slice A N cap, .agg #[.int .i64 t.data, .int .i64 t.index]] w fun e w' => e = .returned (.int .i64 (ldep l t)) ∧ Below w.heap.size w w' := by
  subst hNT
  rw [← dep_ldep hw hS ht]
  exact depth_any A T cap l.length t w hr hS.len hw.1 (tys_in ht)
theorem table_l (A : Option Addr) (l : List Da) (cap : Nat) (w : World) (hr : RDas w w.heap.size A l) (hw : WorldOK l) :
    Calls Try.prog 63 #[.slice A l.length cap] w fun e w' => ∃ T B, e = .returned (.slice (some ⟨B, 0, none⟩) (l.length * 4) (l.length * 4)) ∧ T.length = l.length * 4 ∧ RInts w' (some ⟨B, 0, none⟩) T ∧ St l T (l.length * 4 + 1) 0 0 ∧ Below w.heap.size w w' :=
  (table_any A l cap w hr hw).mono fun e w' ⟨T, he, hT, hS, hb⟩ => ⟨T, _, he, hS.len, hT.reads hS.len (by have := hw.1; omega), hS, hb⟩
theorem leastDepths_m (A : Option Addr) (l : List Da) (cap : Nat) (w : World) (hr : RDas w w.heap.size A l) (hw : WorldOK l) :
    Calls Try.prog 59 #[.slice A l.length cap] w fun e w' => ∃ mb, e = .returned (.map (some mb)) ∧ MapTy w' mb 400 (ldep l) (Inh l) ∧ Below w.heap.size w w' :=
  (leastDepths_any A l cap w hr hw).mono fun e w' ⟨he, hM, hb⟩ => ⟨_, he, hM, hb⟩
set_option maxHeartbeats 800000 in
theorem least_spec (A : Option Addr) (l : List Da) (cap : Nat) (t : Ty) (w : World) (hr : RDas w w.heap.size A l) :
    Calls Try.prog 61 #[.slice A l.length cap, .agg #[.int .i64 t.data, .int .i64 t.index]] w fun e w' => e = .returned (.tuple #[.int .i64 (ldR l t), .bool (lbR l t)]) ∧ Below w.heap.size w w' := by
  have Hr := Lib.hid hr
  have HX := Lib.hid (Bx.new w t 25)
  clear hr
  by_cases h : TyOK l t
  · have HT := Lib.hid (ok_tys h)
    have HW : Hid (WorldOK l) := h.1
    have HD : Hid (ldR l t = ldep l t) := by unfold Hid ldR; rw [dec_t h]; rfl
    have HH := Lib.hid h
    by_cases hi : Inh l t
    · have hp : 0 < ldep l t := ldep_yes hi
      have HB : Hid (lbR l t = true) := dec_t ⟨h, hi⟩
      clear h hi
      go_enter Try.func61, Try.ntmps61
      go_wp2_with fail
      refine (typeV_yes (t := t) (Hr.out.keep (keep_one _) (by simp)) HH.out).mono ?_
      rintro e w1 ⟨rfl, hb'⟩
      have HX1 := Lib.hid (HX.out.at_ hb')
      have hb1 := below_one hb'
      clear hb' HX
      obtain ⟨x0, x1⟩ := HX1.out
      go_wp2_with fail
      go_region_with (first | (go_at_call 63; refine (table_l _ l _ _ (by exact Hr.out.at_ hb1.drew) HW.out).mono ?_; rintro e w2 ⟨T, B, rfl, hTl, hT, hS, hb2'⟩; have HTL := Lib.hid hTl; have HTT := Lib.hid hT; have HSS := Lib.hid hS; have HX2 := Lib.hid (HX1.out.at_ (w' := w2) ⟨hb2'.os, hb2'.tape, hb2'.output, hb2'.size, hb2'.block⟩); obtain ⟨y0, y1⟩ := HX2.out; have hb2 : Below w.heap.size w w2 := hb1.trans (Below.mono (⟨hb2'.os, hb2'.tape, hb2'.output, hb2'.size, hb2'.block⟩ : Below w1.heap.size w1 w2) hb1.size); clear hTl hT hS hb2') | (go_at_call 82; refine (depth_l _ l _ _ _ t HTL.out _ HTT.out HW.out HSS.out HT.out).mono ?_; rintro e w3 ⟨rfl, hb3'⟩; have hb3 := below_then hb2 hb3'; clear hb3'))
      all_goals
        go_wp2_with fail
        go_ret2
        exact ⟨ret_pair HD.out.symm HB.out.symm, hb3⟩
    · have hp : ldep l t = 0 := ldep_no HT.out hi
      have HP := Lib.hid hp
      have HB : Hid (lbR l t = false) := dec_f (fun h => hi h.2)
      clear h hi
      go_enter Try.func61, Try.ntmps61
      go_wp2_with fail
      refine (typeV_yes (t := t) (Hr.out.keep (keep_one _) (by simp)) HH.out).mono ?_
      rintro e w1 ⟨rfl, hb'⟩
      have HX1 := Lib.hid (HX.out.at_ hb')
      have hb1 := below_one hb'
      clear hb' HX hp
      obtain ⟨x0, x1⟩ := HX1.out
      go_wp2_with fail
      go_region_with (first | (go_at_call 63; refine (table_l _ l _ _ (by exact Hr.out.at_ hb1.drew) HW.out).mono ?_; rintro e w2 ⟨T, B, rfl, hTl, hT, hS, hb2'⟩; have HTL := Lib.hid hTl; have HTT := Lib.hid hT; have HSS := Lib.hid hS; have HX2 := Lib.hid (HX1.out.at_ (w' := w2) ⟨hb2'.os, hb2'.tape, hb2'.output, hb2'.size, hb2'.block⟩); obtain ⟨y0, y1⟩ := HX2.out; have hb2 : Below w.heap.size w w2 := hb1.trans (Below.mono (⟨hb2'.os, hb2'.tape, hb2'.output, hb2'.size, hb2'.block⟩ : Below w1.heap.size w1 w2) hb1.size); clear hTl hT hS hb2') | (go_at_call 82; refine (depth_l _ l _ _ _ t HTL.out _ HTT.out HW.out HSS.out HT.out).mono ?_; rw [HP.out]; rintro e w3 ⟨rfl, hb3'⟩; have hb3 := below_then hb2 hb3'; clear hb3'))
      all_goals
        go_wp2_with fail
        go_ret2
        exact ⟨ret_pair (HD.out.trans HP.out).symm HB.out.symm, hb3⟩
  · have HD : Hid (ldR l t = 0) := by unfold Hid ldR; rw [dec_f h]; rfl
    have HB : Hid (lbR l t = false) := dec_f (fun e => h e.1)
    go_enter Try.func61, Try.ntmps61
    go_wp2_with (go_at_call 47; refine (typeV_no (t := t) (by exact Hr.out.keep (keep_one _) (by simp)) h).mono ?_; rintro e w1 ⟨rfl, hb⟩; have hb1 := below_one hb; clear hb)
    go_ret2
    exact ⟨ret_pair HD.out.symm HB.out.symm, hb1⟩
set_option maxHeartbeats 800000 in
theorem least_impl (A : Option Addr) (l : List Da) (cap : Nat) (t : Ty) (w : World) (hr : RDas w w.heap.size A l) :
    Calls Try.prog 26 #[.slice A l.length cap, .agg #[.int .i64 t.data, .int .i64 t.index]] w fun e w' => e = .returned (.tuple #[.int .i64 (ldR l t), .bool (lbR l t)]) ∧ Below w.heap.size w w' := by
  have Hr := Lib.hid hr
  have HX := Lib.hid (Bx.new w t 25)
  clear hr
  by_cases h : TyOK l t
  · have HT := Lib.hid (ok_tys h)
    have HT4 := Lib.hid (tys_mono h.1.1 HT.out)
    have HW : Hid (WorldOK l) := h.1
    have HV : Hid (ldR l t = if dec (Inh l t) then ldep l t else 0) := by
      unfold Hid ldR; rw [dec_t h]
      by_cases hi : Inh l t
      · rw [dec_t hi]
      · rw [dec_f hi, ldep_no HT.out hi]; rfl
    have HB : Hid (lbR l t = dec (Inh l t)) := dec_congr ⟨fun e => e.2, fun e => ⟨h, e⟩⟩
    have HH := Lib.hid h
    clear h
    go_enter Try.func26, Try.ntmps26
    go_wp2_with fail
    refine (typeI_yes (t := t) (Hr.out.keep (keep_one _) (by simp)) HH.out).mono ?_
    rintro e w1 ⟨rfl, hb'⟩
    have HX1 := Lib.hid (HX.out.at_ hb')
    have hb1 := below_one hb'
    clear hb' HX
    obtain ⟨x0, x1⟩ := HX1.out
    generalize hn : (if dec (Inh l t) then ldep l t else 0) = n at HV
    generalize hq : dec (Inh l t) = q at HB
    have HN := Lib.hid hn
    have HQ := Lib.hid hq
    clear hn hq
    go_wp2_with fail
    go_region_with (go_at_call 59; refine (leastDepths_m _ l _ _ (by exact Hr.out.at_ hb1.drew) HW.out).mono ?_; rintro e w2 ⟨mb, rfl, hM, hb2'⟩; have hlook := hM.look_ok HT4.out; rw [HN.out, HQ.out] at hlook; have HX2 := Lib.hid (HX1.out.at_ (w' := w2) ⟨hb2'.os, hb2'.tape, hb2'.output, hb2'.size, hb2'.block⟩); obtain ⟨y0, y1⟩ := HX2.out; have hb2 : Below w.heap.size w w2 := hb1.trans (Below.mono (⟨hb2'.os, hb2'.tape, hb2'.output, hb2'.size, hb2'.block⟩ : Below w1.heap.size w1 w2) hb1.size); clear hM hb2')
    all_goals
      go_wp2_with fail
      go_ret2
      exact ⟨ret_pair HV.out.symm HB.out.symm, hb2⟩
  · have HD : Hid (ldR l t = 0) := by unfold Hid ldR; rw [dec_f h]; rfl
    have HB : Hid (lbR l t = false) := dec_f (fun e => h e.1)
    go_enter Try.func26, Try.ntmps26
    go_wp2_with (go_at_call 30; refine (typeI_no (t := t) (by exact Hr.out.keep (keep_one _) (by simp)) h).mono ?_; rintro e w1 ⟨rfl, hb⟩; have hb1 := below_one hb; clear hb)
    go_ret2
    exact ⟨ret_pair HD.out.symm HB.out.symm, hb1⟩
end Go.Proofs.Yteoopmogklpnoaa
/-
  Values as plain trees, and as they lie in memory. No statement is proved here.
-/
namespace Go.Proofs.Yteoopmogklpnoaa
open Go.RowKit
set_option linter.unusedVariables false
inductive Vl where
  | mk (ctor n : Int) (kids : List Vl)
instance : Inhabited Vl := ⟨.mk 0 0 []⟩
def Vl.ctor : Vl → Int | .mk c _ _ => c
def Vl.n : Vl → Int | .mk _ n _ => n
def Vl.kids : Vl → List Vl | .mk _ _ ks => ks
mutual
/-- How many nodes lie below a node. -/
def wV : Vl → Nat | .mk _ _ ks => wVs ks
def wVs : List Vl → Nat | [] => 0 | v :: vs => 1 + wV v + wVs vs
end
theorem wV_kids (v : Vl) : wV v = wVs v.kids := by cases v; rw [wV]; rfl
theorem wVs_sum : ∀ l : List Vl, wVs l = l.length + (l.map wV).sum
  | [] => by rw [wVs]; rfl
  | v :: vs => by rw [wVs, wVs_sum vs]; simp only [List.length_cons, List.map_cons, List.sum_cons]; omega
/-- A value in three cells, its parts in blocks below B; at most d levels. -/
def RVl : Nat → World → Nat → Nat → Nat → Vl → Prop
  | 0, _, _, _, _, _ => False
  | d + 1, w, B, b, o, v => ∃ A cap, w.cell? ⟨b, o, none⟩ = some (.int .i64 v.ctor) ∧ w.cell? ⟨b, o + 1, none⟩ = some (.int .i64 v.n) ∧ w.cell? ⟨b, o + 2, none⟩ = some (.slice A v.kids.length cap) ∧ v.kids.length ≤ maxLen ∧ ∀ k (h : k < v.kids.length), ∃ b' off, A = some ⟨b', off, none⟩ ∧ b' < B ∧ RVl d w B b' (off + k * 3) v.kids[k]
def RVs (d : Nat) (w : World) (B : Nat) (A : Option Addr) (l : List Vl) : Prop := l.length ≤ maxLen ∧ ∀ k (h : k < l.length), ∃ b off, A = some ⟨b, off, none⟩ ∧ b < B ∧ RVl d w B b (off + k * 3) l[k]
section
variable {w w' : World} {B B' : Nat} {A : Option Addr}
theorem RVl.parts {d b o : Nat} {v : Vl} (h : RVl d w B b o v) : ∃ d', d = d' + 1 ∧ ∃ A cap, w.cell? ⟨b, o, none⟩ = some (.int .i64 v.ctor) ∧ w.cell? ⟨b, o + 1, none⟩ = some (.int .i64 v.n) ∧ w.cell? ⟨b, o + 2, none⟩ = some (.slice A v.kids.length cap) ∧ RVs d' w B A v.kids := by
  cases d with
  | zero => exact h.elim
  | succ d =>
    obtain ⟨A, cap, h1, h2, h3, h4, h5⟩ := h
    exact ⟨d, rfl, A, cap, h1, h2, h3, h4, h5⟩
theorem RVl.keep : ∀ (d : Nat) {b o : Nat} {v : Vl}, RVl d w B b o v → b < B → (∀ p : Addr, p.block < B → w'.cell? p = w.cell? p) → B ≤ B' → RVl d w' B' b o v
  | 0, _, _, _, h, _, _, _ => h.elim
  | d + 1, _, _, _, ⟨A, cap, h1, h2, h3, h4, h5⟩, hb, hk, hB => ⟨A, cap, (hk _ hb).trans h1, (hk _ hb).trans h2, (hk _ hb).trans h3, h4, fun k hk' => by
    obtain ⟨b', off, e, hb', hv⟩ := h5 k hk'
    exact ⟨b', off, e, by omega, RVl.keep d hv hb' hk hB⟩⟩
theorem RVs.keep {d : Nat} {l : List Vl} (h : RVs d w B A l) (hk : ∀ p : Addr, p.block < B → w'.cell? p = w.cell? p) (hB : B ≤ B') : RVs d w' B' A l :=
  ⟨h.1, fun k hk' => by
    obtain ⟨b, off, e, hb, hv⟩ := h.2 k hk'
    exact ⟨b, off, e, by omega, hv.keep d hb hk hB⟩⟩
theorem RVs.below {d B0 : Nat} {l : List Vl} (h : RVs d w B A l) (hb : Below B0 w w') (hB : B ≤ B0) : RVs d w' B A l := h.keep (fun _ hp => hb.cell (Nat.lt_of_lt_of_le hp hB)) (Nat.le_refl _)
theorem RVs.at_ {d : Nat} {l : List Vl} (h : RVs d w w.heap.size A l) (hb : Below w.heap.size w w') : RVs d w' w'.heap.size A l := h.keep (fun _ hp => hb.cell hp) hb.size
theorem RVs.nil {d : Nat} : RVs d w B A [] := ⟨Nat.zero_le _, fun k h => absurd h (Nat.not_lt_zero _)⟩
theorem RVl.up : ∀ (d : Nat) {b o : Nat} {v : Vl}, RVl d w B b o v → RVl (d + 1) w B b o v
  | 0, _, _, _, h => h.elim
  | d + 1, _, _, _, ⟨A, cap, h1, h2, h3, h4, h5⟩ => ⟨A, cap, h1, h2, h3, h4, fun k hk' => by
    obtain ⟨b', off, e, hb', hv⟩ := h5 k hk'
    exact ⟨b', off, e, hb', RVl.up d hv⟩⟩
theorem RVl.more {d d' b o : Nat} {v : Vl} (h : RVl d w B b o v) (hd : d ≤ d') : RVl d' w B b o v := by
  obtain ⟨e, rfl⟩ := Nat.exists_eq_add_of_le hd
  clear hd
  induction e with
  | zero => exact h
  | succ e ih => exact RVl.up _ ih
theorem RVs.more {d d' : Nat} {l : List Vl} (h : RVs d w B A l) (hd : d ≤ d') : RVs d' w B A l :=
  ⟨h.1, fun k hk => by obtain ⟨b, off, e, hb, hv⟩ := h.2 k hk; exact ⟨b, off, e, hb, hv.more hd⟩⟩
end
end Go.Proofs.Yteoopmogklpnoaa
/-
  When a tree is a value of a type: plain mathematics. No statement is proved here.
-/
namespace Go.Proofs.Yteoopmogklpnoaa
open Go.RowKit
set_option maxRecDepth 100000
set_option linter.unusedVariables false
theorem agR_ok {l : List Da} {t : Ty} {x : Int} (h : x ∈ ctR l t) : ∀ a ∈ agR l t x, TyOK l a := by
  obtain ⟨ht, d, m, hd, h1, rfl, hm⟩ := mem_ctR h
  obtain ⟨td, ti⟩ := t
  simp only at h1
  subst h1
  rw [agR_yes h hd hm]
  intro a ha
  refine ⟨ht.1, ?_⟩
  obtain ⟨hi, hargs⟩ := ctor_parts (world_ctor ht.1 hd hm)
  have hti : 0 ≤ ti ∧ ti ≤ 3 := by
    have h2 := ht.2
    rw [argB_data (by simp only; omega)] at h2
    have := of_decide_eq_true h2
    simp only at this
    omega
  unfold argT at ha
  obtain ⟨b, hb, rfl⟩ := List.mem_map.1 ha
  have hB := hargs b hb
  by_cases hb1 : b.data = -1
  · rw [argB_int hb1] at hB
    have h0 : b.index = 0 := of_decide_eq_true hB
    rw [argOf_other (by omega), argB_int hb1]
    exact decide_eq_true h0
  · rw [argB_data hb1] at hB
    have hp := of_decide_eq_true hB
    by_cases hs : b.index = -1
    · rw [argOf_same hs]
      have h5 : ¬ (Ty.mk b.data (resI l[d].ctors[m].index ti)).data = -1 := hb1
      rw [argB_data h5]
      refine decide_eq_true ?_
      unfold resI
      simp only
      split <;> omega
    · rw [argOf_other hs, argB_data hb1]
      exact decide_eq_true (by omega)
def upto (f : Nat → Bool) : Nat → Bool
  | 0 => true
  | k + 1 => upto f k && f k
theorem upto_le {f : Nat → Bool} {k : Nat} (e : Nat) (h : upto f k = false) : upto f (k + e) = false := by
  induction e with
  | zero => exact h
  | succ e ih => show (upto f (k + e) && f (k + e)) = false; rw [ih]; rfl
theorem upto_f {f : Nat → Bool} {n k : Nat} (hk : k < n) (h : f k = false) : upto f n = false := by
  have := upto_le (f := f) (k := k + 1) (n - (k + 1)) (by show (upto f k && f k) = false; rw [h]; simp)
  rwa [show k + 1 + (n - (k + 1)) = n by omega] at this
theorem upto_t {f : Nat → Bool} {k : Nat} (h : upto f k = true) (h' : f k = true) : upto f (k + 1) = true := by
  show (upto f k && f k) = true; rw [h, h']; rfl
noncomputable def fitV (l : List Da) : Nat → Ty → Vl → Bool
  | 0, _, _ => false
  | d + 1, t, v => if t.data = -1 then decide (v.ctor = -1) && (decide (0 ≤ v.n) && (decide (v.n ≤ 9) && decide (v.kids.length = 0)))
      else decide (v.n = 0) && (dec (v.ctor ∈ ctR l t) && (decide (v.kids.length = (agR l t v.ctor).length) && upto (fun i => fitV l d ((agR l t v.ctor).getD i default) (v.kids.getD i default)) (agR l t v.ctor).length))
/-- Which of the parts fit. -/
noncomputable def kidV (l : List Da) (d : Nat) (ats : List Ty) (ks : List Vl) (i : Nat) : Bool := fitV l d (ats.getD i default) (ks.getD i default)
section
variable {l : List Da} {d : Nat} {t : Ty} {v : Vl}
theorem fit_zero : fitV l 0 t v = false := rfl
theorem fit_int (h : t.data = -1) : fitV l (d + 1) t v = (decide (v.ctor = -1) && (decide (0 ≤ v.n) && (decide (v.n ≤ 9) && decide (v.kids.length = 0)))) := if_pos h
theorem fit_n (h : ¬ t.data = -1) (hn : ¬ v.n = 0) : fitV l (d + 1) t v = false := by
  show (if t.data = -1 then _ else _) = _
  rw [if_neg h, decide_eq_false hn]; rfl
theorem fit_ctor (h : ¬ t.data = -1) (hc : ¬ v.ctor ∈ ctR l t) : fitV l (d + 1) t v = false := by
  show (if t.data = -1 then _ else _) = _
  rw [if_neg h, dec_f hc]; simp
theorem fit_len (h : ¬ t.data = -1) (hc : ¬ v.kids.length = (agR l t v.ctor).length) : fitV l (d + 1) t v = false := by
  show (if t.data = -1 then _ else _) = _
  rw [if_neg h, decide_eq_false hc]; simp
theorem fit_go (h : ¬ t.data = -1) (hn : v.n = 0) (hc : v.ctor ∈ ctR l t) (hl : v.kids.length = (agR l t v.ctor).length) : fitV l (d + 1) t v = upto (kidV l d (agR l t v.ctor) v.kids) (agR l t v.ctor).length := by
  show (if t.data = -1 then _ else _) = _
  rw [if_neg h, decide_eq_true hn, dec_t hc, decide_eq_true hl]; rfl
theorem kidV_at {ats : List Ty} {ks : List Vl} {i : Nat} (h : i < ats.length) (h' : i < ks.length) : kidV l d ats ks i = fitV l d ats[i] ks[i] := by
  unfold kidV
  rw [List.getD_eq_getElem?_getD, List.getD_eq_getElem?_getD, List.getElem?_eq_getElem h, List.getElem?_eq_getElem h']; rfl
end
end Go.Proofs.Yteoopmogklpnoaa
