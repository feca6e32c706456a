/-
  What stands for the variables of a valid pattern: each variable once; lists in the order of their variables. Plain mathematics. No statement is proved here.
-/
import Derived.Test.YthdnfnmglhifmaaGreatR24
import Derived.Test.YthdnfnmglhifmaaGreatR12
import Derived.Test.YthdnfnmglhifmaaGreatSSfLay
import Derived.Test.YthdnfnmglhifmaaGreatR21
namespace Go.Proofs.YthdnfnmglhifmaaGreat
open Go.RowKit Go.Sort Go.Deep
set_option maxRecDepth 100000
set_option linter.unusedVariables false
theorem sub_len : ∀ (a b : List Int), a.Nodup → (∀ x ∈ a, x ∈ b) → a.length ≤ b.length
  | [], _, _, _ => Nat.zero_le _
  | x :: a, b, hn, hs => by
    have hx : x ∈ b := hs x (List.mem_cons_self ..)
    have hn' := List.nodup_cons.1 hn
    have h := sub_len a (b.erase x) hn'.2 (fun y hy => (List.mem_erase_of_ne (fun e => hn'.1 (by rw [← e]; exact hy))).2 (hs y (List.mem_cons_of_mem _ hy)))
    rw [List.length_erase_of_mem hx] at h
    have : 0 < b.length := List.length_pos_of_mem hx
    simp only [List.length_cons]; omega
theorem sub_back {a b : List Int} (hn : a.Nodup) (hs : ∀ x ∈ a, x ∈ b) (hl : b.length ≤ a.length) : ∀ y ∈ b, y ∈ a := by
  intro y hy
  by_cases h : y ∈ a
  · exact h
  · have h1 := sub_len a (b.erase y) hn (fun x hx => (List.mem_erase_of_ne (fun e => h (by rw [← e]; exact hx))).2 (hs x hx))
    rw [List.length_erase_of_mem hy] at h1
    have : 0 < b.length := List.length_pos_of_mem hy
    omega
def vsV (L : List Vt) : List Int := L.map (·.var)
def vsB (L : List Bn) : List Int := L.map (·.var)
theorem once_nodup {L : List Vt} (h : upto (onceV L) L.length = true) : (vsV L).Nodup := by
  unfold vsV List.Nodup
  rw [List.pairwise_iff_getElem]
  intro i j hi hj hij e
  rw [List.length_map] at hi hj
  rw [List.getElem_map, List.getElem_map] at e
  have h1 := upto_get h hi
  have h2 := upto_get h hj
  rw [onceV_at hi] at h1
  rw [onceV_at hj] at h2
  have h1 := of_decide_eq_true h1
  have h2 := of_decide_eq_true h2
  rw [e] at h1
  omega
theorem alike_sub {a b : List Vt} (h : alike a b = true) (ha : (vsV a).Nodup) : ∀ y ∈ vsV b, y ∈ vsV a := by
  unfold alike at h
  rw [Bool.and_eq_true] at h
  have hl := of_decide_eq_true h.2
  refine sub_back ha (fun x hx => ?_) (by unfold vsV; rw [List.length_map, List.length_map]; omega)
  obtain ⟨u, hu, rfl⟩ := List.mem_map.1 hx
  obtain ⟨i, hi, rfl⟩ := List.mem_iff_getElem.1 hu
  have h1 := upto_get h.1 hi
  rcases findV_cases b a[i].var with e | ⟨k, hk, e⟩
  · rw [alV_no hi e] at h1; cases h1
  · have hv : b[k].var = a[i].var := by
      unfold findV at e
      by_cases hq : b.findIdx (fun x => x.var == a[i].var) < b.length
      · rw [if_pos hq] at e
        have e' : b.findIdx (fun x => x.var == a[i].var) = k := by omega
        have := List.findIdx_getElem (w := hq)
        subst e'
        simpa using this
      · rw [if_neg hq] at e; omega
    rw [← hv]
    exact List.mem_map.2 ⟨b[k], List.getElem_mem hk, rfl⟩
/-- Each once, all of them among these. -/
def Dv (vs : List Vt) (L : List Bn) : Prop := (vsB L).Nodup ∧ ∀ b ∈ L, b.var ∈ vsV vs ∧ 0 ≤ b.var ∧ b.var ≤ 5
theorem Dv.nil (vs : List Vt) : Dv vs [] := ⟨List.nodup_nil, fun b h => by cases h⟩
theorem vsV_app (a b : List Vt) : vsV (a ++ b) = vsV a ++ vsV b := List.map_append
theorem vsB_app (a b : List Bn) : vsB (a ++ b) = vsB a ++ vsB b := List.map_append
theorem Dv.wide {vs vs' : List Vt} {L : List Bn} (h : Dv vs L) (hs : ∀ x ∈ vsV vs, x ∈ vsV vs') : Dv vs' L := ⟨h.1, fun b hb => ⟨hs _ (h.2 b hb).1, (h.2 b hb).2⟩⟩
theorem Dv.app {vs vs' : List Vt} {L M : List Bn} (h : Dv vs L) (h' : Dv vs' M) (hn : (vsV (vs ++ vs')).Nodup) : Dv (vs ++ vs') (L ++ M) := by
  rw [vsV_app, List.nodup_append] at hn
  refine ⟨?_, fun b hb => ?_⟩
  · rw [vsB_app, List.nodup_append]
    refine ⟨h.1, h'.1, fun x hx y hy => ?_⟩
    obtain ⟨b, hb, rfl⟩ := List.mem_map.1 hx
    obtain ⟨c, hc, rfl⟩ := List.mem_map.1 hy
    exact hn.2.2 _ (h.2 b hb).1 _ (h'.2 c hc).1
  · rw [vsV_app]
    rcases List.mem_append.1 hb with hb | hb
    · exact ⟨List.mem_append_left _ (h.2 b hb).1, (h.2 b hb).2⟩
    · exact ⟨List.mem_append_right _ (h'.2 b hb).1, (h'.2 b hb).2⟩
theorem Dv.cat {f : Nat → Option (List Bn)} {g : Nat → List Vt} : ∀ (k : Nat) (L : List Bn), (∀ i L', i < k → f i = some L' → Dv (g i) L') → (vsV (catV g k)).Nodup → catO f k = some L → Dv (catV g k) L
  | 0, L, _, _, h => by cases h; exact Dv.nil _
  | k + 1, L, hf, hn, h => by
    cases hc : catO f k with
    | none => rw [catO_up 1 hc] at h; cases h
    | some M =>
      cases hk : f k with
      | none => rw [catO_none (Nat.lt_succ_self k) hk] at h; cases h
      | some M' =>
        rw [catO_some hc hk] at h
        cases h
        have hn1 : (vsV (catV g k)).Nodup := by
          have := hn
          rw [show catV g (k + 1) = catV g k ++ g k from rfl, vsV_app, List.nodup_append] at this
          exact this.1
        exact (Dv.cat k M (fun i L' hi h => hf i L' (by omega) h) hn1 hc).app (hf k M' (by omega) hk) hn
theorem vr_or {l : List Da} {d : Nat} {t : Ty} {p : Pt} (h : p.op = 5) (h0 : 0 < p.kids.length) : vrP l (d + 1) t p = vrP l d t p.kids[0] := by
  have ht : tysP l t p = [t, t] := by rw [tysP_other (by omega), h]; rfl
  rw [vrP_go, hdV_no (by omega), List.nil_append]
  unfold limV
  rw [if_pos h]
  show [] ++ kidR l d (tysP l t p) p.kids 0 = _
  rw [List.nil_append, kidR_at (by rw [ht]; simp) h0]
  simp only [ht, List.getElem_cons_zero]
theorem vr_as {l : List Da} {d : Nat} {t : Ty} {p : Pt} (h : p.op = 6) (h0 : 0 < p.kids.length) : vrP l (d + 1) t p = [⟨p.var, t⟩] ++ vrP l d t p.kids[0] := by
  have ht : tysP l t p = [t] := by rw [tysP_other (by omega), h]; rfl
  rw [vrP_go, hdV_yes (.inr h)]
  unfold limV
  rw [if_neg (by omega), ht]
  show _ ++ ([] ++ kidR l d [t] p.kids 0) = _
  rw [List.nil_append, kidR_at (by simp) h0]
  rfl
theorem vr_ctor {l : List Da} {d : Nat} {t : Ty} {p : Pt} (h : p.op = 4) : vrP l (d + 1) t p = catV (kidR l d (agR l t p.ctor) p.kids) (agR l t p.ctor).length := by
  rw [vrP_go, hdV_no (by omega), List.nil_append]
  unfold limV
  rw [if_neg (by omega), tysP_ctor h]
theorem lin_parts {l : List Da} {d : Nat} {t : Ty} {p : Pt} (h : linP l (d + 1) t p = true) : (∀ i (h : i < (tysP l t p).length) (h' : i < p.kids.length), linP l d (tysP l t p)[i] p.kids[i] = true) ∧ headL l d t p = true := by
  rw [linP_go, Bool.and_eq_true] at h
  exact ⟨fun i hi hi' => by rw [← kidL_at hi hi']; exact upto_get h.1 hi, h.2⟩
theorem lin_nodup (l : List Da) : ∀ (d : Nat) (t : Ty) (p : Pt), shP l d t p = true → linP l d t p = true → (vsV (vrP l d t p)).Nodup
  | 0, _, _, h, _ => by rw [shP_zero] at h; cases h
  | d + 1, t, p, hs, hl => by
    obtain ⟨hk, hh⟩ := lin_parts hl
    by_cases h5 : p.op = 5
    · obtain ⟨h2, hs0, _⟩ := or_partsP hs h5
      have h0 : 0 < p.kids.length := by omega
      have ht : tysP l t p = [t, t] := by rw [tysP_other (by omega), h5]; rfl
      rw [vr_or h5 h0]
      refine lin_nodup l d t _ (hs0 h0) ?_
      have := hk 0 (by rw [ht]; simp) h0
      simpa only [ht, List.getElem_cons_zero] using this
    · rw [headL_no h5] at hh
      exact once_nodup hh
theorem lin_vars (l : List Da) : ∀ (d : Nat) (t : Ty) (p : Pt) (v : Vl) (L : List Bn), shP l d t p = true → linP l d t p = true → mtS d p v = some L → Dv (vrP l d t p) L
  | 0, _, _, _, _, h, _, _ => by rw [shP_zero] at h; cases h
  | d + 1, t, p, v, L, hs, hl, h => by
    have hnd := lin_nodup l (d + 1) t p hs hl
    obtain ⟨hk, hh⟩ := lin_parts hl
    obtain ⟨ho, hkl, hks⟩ := shP_parts hs
    rcases own_ops ho with hop | hop | hop | hop | hop | hop
    · rw [mtS_any hop] at h; cases h; exact Dv.nil _
    · rw [mtS_var hop] at h; cases h
      refine ⟨by simp [vsB], fun b hb => ?_⟩
      simp at hb; subst hb
      exact ⟨by rw [vrP_go, hdV_yes (.inl hop), vsV_app]; exact List.mem_append_left _ (List.mem_cons_self ..), ho.1 (.inl hop)⟩
    · by_cases hc : p.n ≤ v.n ∧ v.n ≤ p.m
      · rw [mtS_in hop hc.1 hc.2] at h; cases h; exact Dv.nil _
      · rw [mtS_out hop hc] at h; cases h
    · by_cases hc : p.ctor = v.ctor
      · obtain ⟨hmem, hkl', hsh⟩ := ctor_partsP hs hop
        rw [mtS_ctor hop hc, hkl'] at h
        rw [vr_ctor hop] at hnd ⊢
        refine Dv.cat _ _ (fun i L' hi hq => ?_) hnd h
        have hi' : i < p.kids.length := by omega
        have ht := tysP_ctor (l := l) (t := t) hop
        rw [kidR_at hi hi']
        have hlk : linP l d (agR l t p.ctor)[i] p.kids[i] = true := by
          have := hk i (by rw [ht]; exact hi) hi'
          simpa only [ht] using this
        unfold kidS at hq
        rw [getD_kid hi'] at hq
        exact lin_vars l d _ _ _ _ (hsh i hi hi') hlk hq
      · rw [mtS_other hop hc] at h; cases h
    · obtain ⟨h2, hs0, hs1⟩ := or_partsP hs hop
      have h0 : 0 < p.kids.length := by omega
      have h1 : 1 < p.kids.length := by omega
      have ht : tysP l t p = [t, t] := by rw [tysP_other (by omega), hop]; rfl
      have hl0 : linP l d t p.kids[0] = true := by
        have := hk 0 (by rw [ht]; simp) h0
        simpa only [ht, List.getElem_cons_zero] using this
      have hl1 : linP l d t p.kids[1] = true := by
        have := hk 1 (by rw [ht]; simp) h1
        simpa only [ht, List.getElem_cons_succ, List.getElem_cons_zero] using this
      rw [vr_or hop h0]
      cases hq : mtS d p.kids[0] v with
      | some L0 =>
        rw [mtS_or0 hop h0 hq] at h; cases h
        exact lin_vars l d _ _ _ _ (hs0 h0) hl0 hq
      | none =>
        rw [mtS_or1 hop h0 h1 hq] at h
        rw [headL_or hop h0 h1] at hh
        exact (lin_vars l d _ _ _ _ (hs1 h1) hl1 h).wide (alike_sub hh (lin_nodup l d t _ (hs0 h0) hl0))
    · obtain ⟨h1, hs0⟩ := as_partsP hs hop
      have h0 : 0 < p.kids.length := by omega
      have ht : tysP l t p = [t] := by rw [tysP_other (by omega), hop]; rfl
      have hl0 : linP l d t p.kids[0] = true := by
        have := hk 0 (by rw [ht]; simp) h0
        simpa only [ht, List.getElem_cons_zero] using this
      rw [mtS_as hop h0] at h
      obtain ⟨L2, hq, rfl⟩ := Option.map_eq_some_iff.1 h
      rw [vr_as hop h0] at hnd ⊢
      have hd1 : Dv [⟨p.var, t⟩] [⟨p.var, v⟩] := ⟨by simp [vsB], fun b hb => by simp at hb; subst hb; exact ⟨List.mem_cons_self .., ho.1 (.inr hop)⟩⟩
      exact hd1.app (lin_vars l d _ _ _ _ (hs0 h0) hl0 hq) hnd
/-- At most one for each variable. -/
theorem pick_one {L : List Bn} (h : (vsB L).Nodup) (n : Nat) : (pickB L n).length ≤ 1 := by
  have h1 : (vsB (pickB L n)).Nodup := List.Nodup.sublist ((List.filter_sublist).map _) h
  have h2 : ∀ b ∈ pickB L n, b.var = (n : Int) := fun b hb => by have := (List.mem_filter.1 hb).2; simpa using this
  match hp : pickB L n with
  | [] => simp
  | [_] => simp
  | x :: y :: r =>
    rw [hp] at h1 h2
    have e1 := h2 x (by simp)
    have e2 := h2 y (by simp)
    simp [vsB, e1, e2] at h1
theorem perm_small {α : Type} {a b : List α} (h : a.Perm b) (hl : a.length ≤ 1) : a = b := by
  match a, b, h, hl with
  | [], b, h, _ => exact (List.Perm.nil_eq h)
  | [x], b, h, _ => exact (List.perm_singleton.1 h.symm).symm
theorem sort_perm {L L' : List Bn} (hp : L.Perm L') (hn : (vsB L).Nodup) (n : Nat) : sortB L n = sortB L' n := by
  induction n with
  | zero => rfl
  | succ n ih => rw [sortB, sortB, ih, perm_small (a := pickB L n) (b := pickB L' n) (hp.filter _) (pick_one hn n)]
/-- In ascending order. -/
def Asc (S : List Bn) : Prop := S.Pairwise (fun a b => a.var ≤ b.var)
theorem sort_asc (n : Nat) : ∀ S : List Bn, Asc S → (∀ b ∈ S, 0 ≤ b.var) → S.filter (fun b => decide (b.var < ((n + 1 : Nat) : Int))) = S.filter (fun b => decide (b.var < (n : Int))) ++ pickB S n
  | [], _, _ => rfl
  | x :: S, ha, h0 => by
    have ha' := List.pairwise_cons.1 ha
    have ih := sort_asc n S ha'.2 (fun b hb => h0 b (List.mem_cons_of_mem _ hb))
    unfold pickB at ih ⊢
    by_cases h1 : x.var < (n : Int)
    · rw [List.filter_cons_of_pos (by simp; omega), List.filter_cons_of_pos (by simpa using h1), List.filter_cons_of_neg (by simp; omega), ih]; rfl
    · have hnone : S.filter (fun b => decide (b.var < (n : Int))) = [] := List.filter_eq_nil_iff.2 (fun b hb => by have := ha'.1 b hb; simp; omega)
      rw [hnone] at ih
      rw [List.filter_cons_of_neg (by simpa using h1) (l := S) (p := fun b => decide (b.var < (n : Int))), hnone]
      by_cases h2 : x.var = (n : Int)
      · rw [List.filter_cons_of_pos (by simp; omega), List.filter_cons_of_pos (by simpa using h2), ih]; rfl
      · rw [List.filter_cons_of_neg (by simp; omega), List.filter_cons_of_neg (by simpa using h2), ih]
theorem sort_below {S : List Bn} (ha : Asc S) (h0 : ∀ b ∈ S, 0 ≤ b.var) (n : Nat) : sortB S n = S.filter (fun b => decide (b.var < (n : Int))) := by
  induction n with
  | zero => exact (List.filter_eq_nil_iff.2 (fun b hb => by have := h0 b hb; simp; omega)).symm
  | succ n ih => rw [sortB, ih, sort_asc n S ha h0]
/-- What is sorted is what is asked for. -/
theorem sort_is {S L : List Bn} (hp : S.Perm L) (hn : (vsB L).Nodup) (ha : Asc S) (h0 : ∀ b ∈ L, 0 ≤ b.var ∧ b.var ≤ 5) : S = sortB L 6 := by
  have hnS : (vsB S).Nodup := (hp.map _).nodup_iff.2 hn
  rw [← sort_perm hp hnS, sort_below ha (fun b hb => (h0 b (hp.mem_iff.1 hb)).1)]
  exact (List.filter_eq_self.2 (fun b hb => by have := (h0 b (hp.mem_iff.1 hb)).2; simp; omega)).symm
end Go.Proofs.YthdnfnmglhifmaaGreat
/-
  A list of bindings, sorted by the library. No statement is proved here.
-/
namespace Go.Proofs.YthdnfnmglhifmaaGreat
open Go.RowKit Go.Sort Go.Deep Go.Lib Go.Shelf
set_option maxRecDepth 100000
set_option linter.unusedVariables false
/-- A binding with where its value's parts lie. -/
abbrev Bx4 := Bn × (Option Addr × Nat)
instance : Inhabited Bx4 := ⟨(default, (none, 0))⟩
def encX (x : Bx4) : List Value := [.int .i64 x.1.var, .int .i64 x.1.val.ctor, .int .i64 x.1.val.n, .slice x.2.1 x.1.val.kids.length x.2.2]
theorem encX_one (x : Bx4) : ∀ u ∈ encX x, u.oneCell' = true := by intro u hu; simp [encX] at hu; rcases hu with rfl | rfl | rfl | rfl <;> rfl
def cfX (x y : Bx4) : Int := Lib.compareInt x.1.var y.1.var
theorem ltX (x y : Bx4) : ltOf cfX x y = decide (x.1.var < y.1.var) := by
  unfold ltOf cfX Lib.compareInt
  by_cases h : x.1.var < y.1.var
  · rw [if_pos h, decide_eq_true h]; rfl
  · rw [if_neg h, decide_eq_false h]
    by_cases h2 : x.1.var > y.1.var
    · rw [if_pos h2]; rfl
    · rw [if_neg h2]; rfl
theorem swoX : SWO (ltOf cfX) where
  irrefl x := by rw [ltX]; exact decide_eq_false (by omega)
  trans x y z h h' := by rw [ltX] at *; have := of_decide_eq_true h; have := of_decide_eq_true h'; exact decide_eq_true (by omega)
  ntrans x y z h h' := by rw [ltX] at *; have := of_decide_eq_false h; have := of_decide_eq_false h'; exact decide_eq_false (by omega)
set_option maxHeartbeats 1000000 in
theorem closeX (x y : Bx4) (W : World) : Calls Tryz.prog 57 #[.agg #[.int .i64 x.1.var, .int .i64 x.1.val.ctor, .int .i64 x.1.val.n, .slice x.2.1 x.1.val.kids.length x.2.2], .agg #[.int .i64 y.1.var, .int .i64 y.1.val.ctor, .int .i64 y.1.val.n, .slice y.2.1 y.1.val.kids.length y.2.2]] W fun e w' => e = .returned (.int .i64 (cfX x y)) ∧ ∃ q os', w' = grow (W.drewN q) os' := by
  have hcon := fun W' => AnyG.cmp_Compare_int Tryz.cmpInt x.1.var y.1.var W'
  change ∀ W', Calls Tryz.prog 58 _ _ _ at hcon
  unfold cfX
  generalize Lib.compareInt x.1.var y.1.var = r at hcon ⊢
  go_enter Tryz.func57, Tryz.ntmps57
  go_wp2_with (go_at_call 58; refine (hcon _).mono ?_; rintro e w' ⟨rfl, rfl⟩)
  go_ret
  exact ⟨rfl, 0, _, by rw [alloc_eq_grow, alloc_eq_grow, grow_grow]; rfl⟩
theorem cmpX (blk off size : Nat) (w : World) : CmpLays Tryz.prog 57 #[] encX 4 cfX blk off size w := fun _ _ _ _ x y => closeX x y _
theorem lenX (n : Nat) (W : World) (h : n ≤ 12) : Calls Tryz.prog 119 #[.int .u64 n] W fun e w' => (∃ l : Int, e = .returned (.int .i64 l)) ∧ w' = W :=
  (Any.bits_Len Tryz.bitsLen2 n W (by omega) (by omega)).mono fun _ _ ⟨he, hw⟩ => ⟨⟨_, he⟩, hw⟩
theorem sortX (blk cap : Nat) (d : Array Bx4) (w : World) (hH : HoldsK encX 4 w blk 0 d) (hblk : blk < w.heap.size) (h12 : d.size ≤ 12) :
    Calls Tryz.prog 56 #[.slice (some ⟨blk, 0, none⟩) d.size cap, .func (.func 57) #[] #[]] w fun e w' => e = .returned (.tuple #[]) ∧ ∃ d' n os, PermIn 0 d.size d d' ∧ SortedIn (ltOf cfX) 0 d.size d' ∧ w' = sortWorldK encX 4 w blk 0 n d' os := by
  have eg : ∀ args w, (callFunc 57 args).run Tryz.prog w = .ok (.enter 57 args) w := enters_of Tryz.func57 (by kernel_rfl) rfl
  exact AnyQ.slices_SortFunc_small_sorted Tryz.sortBn 4 Tryz.isAgg41 Tryz.sizeOf41 encX (fun _ => rfl) encX_one cfX 57 #[] swoX blk 0 cap d w eg (cmpX blk 0 d.size w) hH hblk h12 lenX
end Go.Proofs.YthdnfnmglhifmaaGreat
/-
  A row of bindings of the call's own, sorted in its place. No statement is proved here.
-/
namespace Go.Proofs.YthdnfnmglhifmaaGreat
open Go.RowKit Go.Sort Go.Deep Go.Lib Go.Shelf
set_option maxRecDepth 100000
set_option linter.unusedVariables false
theorem put_block {w : World} {g n : Nat} {cur : Array Value} {e : TypeId} {F : Array Value} {os : Array Obj} (hg : w.heap[g]? = some (.cells cur e (0, 0))) (hF : F.size ≤ cur.size) : ∃ cur', (grow (putRow id (Sort.ahead w n) g 0 F) os).heap[g]? = some (.cells cur' e (0, 0)) ∧ cur'.size = cur.size ∧ ∀ t, t < F.size → cur'[t]? = some F[t]! := by
  have h1 : (putRow id (Sort.ahead w n) g 0 F).heap[g]? = some (.cells (putCells id 0 F cur) e (0, 0)) := by simp [putRow, mapBlock, Array.getElem?_modify, hg, onCells]
  refine ⟨putCells id 0 F cur, ?_, by simp [putCells], fun t ht => ?_⟩
  · show (_ ++ os)[g]? = _
    rw [Array.getElem?_append_left (heap_lt h1)]
    exact h1
  · simp only [putCells, Array.getElem?_mapIdx]
    rw [Array.getElem?_eq_getElem (by omega), Option.map_some, if_pos ⟨by omega, by omega⟩]
    rfl
theorem put_below {w : World} {g n lo : Nat} {F : Array Value} {os : Array Obj} (hlo : lo ≤ g) (hgl : g < w.heap.size) : RowKit.Below lo w (grow (putRow id (Sort.ahead w n) g 0 F) os) := by
  have hs : (putRow id (Sort.ahead w n) g 0 F).heap.size = w.heap.size := by simp [putRow, mapBlock]
  refine ⟨rfl, rfl, rfl, ?_, fun k hk => ?_⟩
  · show w.heap.size ≤ (_ ++ os).size
    rw [Array.size_append, hs]; omega
  · show (_ ++ os)[k]? = _
    rw [Array.getElem?_append_left (by rw [hs]; omega)]
    have : ¬ g = k := by omega
    simp [putRow, mapBlock, Array.getElem?_modify, this]
theorem get_bang {α : Type} [Inhabited α] (d : Array α) (i : Nat) (h : i < d.size) : d[i]! = d[i] := getElem!_pos d i h
theorem encX_at (x : Bx4) : (encX x)[0]! = .int .i64 x.1.var ∧ (encX x)[1]! = .int .i64 x.1.val.ctor ∧ (encX x)[2]! = .int .i64 x.1.val.n ∧ (encX x)[3]! = .slice x.2.1 x.1.val.kids.length x.2.2 := ⟨rfl, rfl, rfl, rfl⟩
theorem flat_at (d : Array Bx4) (j c : Nat) (hj : j < d.size) (hc : c < 4) : (flatK encX 4 d)[j * 4 + c]! = (encX d[j])[c]! := by
  rw [get_flatK encX 4 d (j * 4 + c) (by omega), show (j * 4 + c) / 4 = j by omega, show (j * 4 + c) % 4 = c by omega, get_bang d j hj]
theorem flat_some (d : Array Bx4) (j c : Nat) (hj : j < d.size) (hc : c < 4) : (flatK encX 4 d).toList[j * 4 + c]? = some (encX d[j])[c]! := by
  have hs := size_flatK encX 4 d
  rw [← flat_at d j c hj hc, get_bang _ _ (by omega), Array.getElem?_toList, Array.getElem?_eq_getElem (by omega)]
theorem sort_own {e lo B : Nat} {u : Value} {L : List Bn} {w : World} (ho : OBr e w lo B u L) (hB : B ≤ lo) (hL : L.length ≤ 12) (h0 : 0 < L.length) (hn : (vsB L).Nodup) (hr : ∀ b ∈ L, 0 ≤ b.var ∧ b.var ≤ 5) :
    Calls Tryz.prog 56 #[u, .func (.func 57) #[] #[]] w fun E w' => E = .returned (.tuple #[]) ∧ OBr e w' lo B u (sortB L 6) ∧ RowKit.Below lo w w' ∧ (sortB L 6).length = L.length := by
  obtain ⟨xs, hown, hrow⟩ := ho
  rcases hown.2 with ⟨_, h⟩ | ⟨g, cap, cur, rfl, hbg, hg, hnc, hcm, hcs, htake⟩
  · omega
  have hex : ∀ j : Fin L.length, ∃ q : Option Addr × Nat, xs[j.1 * 4]? = some (.int .i64 L[j.1].var) ∧ xs[j.1 * 4 + 1]? = some (.int .i64 L[j.1].val.ctor) ∧ xs[j.1 * 4 + 2]? = some (.int .i64 L[j.1].val.n) ∧ xs[j.1 * 4 + 3]? = some (.slice q.1 L[j.1].val.kids.length q.2) ∧ RVs e w B q.1 L[j.1].val.kids := fun j => by
    obtain ⟨A', c, h⟩ := hrow j.1 j.2
    exact ⟨(A', c), h⟩
  obtain ⟨q, hq⟩ := Classical.axiomOfChoice hex
  obtain ⟨d, hd⟩ : ∃ d : Array Bx4, d = Array.ofFn (fun j : Fin L.length => (L[j.1], q j)) := ⟨_, rfl⟩
  have hds : d.size = L.length := by rw [hd]; simp
  have hdj : ∀ j (h : j < d.size), d[j] = (L[j]'(by omega), q ⟨j, by omega⟩) := fun j h => by subst hd; simp
  have hat : ∀ i, i < L.length * 4 → cur[i]? = xs[i]? := fun i hi => by rw [← htake, List.getElem?_take_of_lt hi, Array.getElem?_toList]
  have hH : HoldsK encX 4 w g 0 d := by
    intro t ht
    rw [size_flatK] at ht
    refine ⟨?_, frozen_of_row w g (0 + t) _ 41 hg⟩
    rw [Nat.zero_add, cell_of_blk hg, hat t (by omega)]
    have hj : t / 4 < d.size := by omega
    obtain ⟨e0, e1, e2, e3, _⟩ := hq ⟨t / 4, by omega⟩
    have hc : t % 4 = 0 ∨ t % 4 = 1 ∨ t % 4 = 2 ∨ t % 4 = 3 := by omega
    have hf := flat_at d (t / 4) (t % 4) hj (by omega)
    rw [show t / 4 * 4 + t % 4 = t by omega, hdj _ hj] at hf
    rw [hf]
    rcases hc with hc | hc | hc | hc
    · rw [hc]; rw [show t / 4 * 4 = t by omega] at e0; exact e0
    · rw [hc]; rw [show t / 4 * 4 + 1 = t by omega] at e1; exact e1
    · rw [hc]; rw [show t / 4 * 4 + 2 = t by omega] at e2; exact e2
    · rw [hc]; rw [show t / 4 * 4 + 3 = t by omega] at e3; exact e3
  have hcall := sortX g cap d w hH (heap_lt hg) (by omega)
  rw [hds] at hcall
  refine hcall.mono ?_
  rintro E w' ⟨rfl, d', n, os, ⟨hs', _, hperm⟩, hsort, rfl⟩
  have hs2 : d'.size = L.length := by omega
  have hp : d'.toList.Perm d.toList := by
    rw [← hds] at hperm
    have a1 : d'.extract 0 d.size = d' := by rw [← hs']; simp
    have a2 : d.extract 0 d.size = d := by simp
    rw [a1, a2] at hperm
    exact hperm
  have hdL : d.toList.map (·.1) = L := by
    apply List.ext_getElem
    · simp [hds]
    · intro i h1 h2
      have hi : i < d.size := by omega
      simp [hdj i hi]
  have hpL : (d'.toList.map (·.1)).Perm L := by rw [← hdL]; exact hp.map _
  have hRV : ∀ x ∈ d'.toList, RVs e w B x.2.1 x.1.val.kids := fun x hx => by
    have hx2 := hp.mem_iff.1 hx
    obtain ⟨j, hj, rfl⟩ := List.mem_iff_getElem.1 hx2
    have hj' : j < d.size := by simpa using hj
    rw [Array.getElem_toList, hdj j hj']
    exact (hq ⟨j, by omega⟩).2.2.2.2
  have hasc : Asc (d'.toList.map (·.1)) := by
    unfold Asc
    rw [List.pairwise_iff_getElem]
    intro i j hi hj hij
    have hi' : i < d'.size := by simpa using hi
    have hj' : j < d'.size := by simpa using hj
    have h1 := hsort i j (Nat.zero_le _) hij (by omega)
    rw [ltX, get_bang d' j hj', get_bang d' i hi'] at h1
    have := of_decide_eq_false h1
    simp only [List.getElem_map, Array.getElem_toList]
    omega
  have hS := sort_is hpL hn hasc hr
  have hlen : (sortB L 6).length = L.length := by rw [← hS]; simp [hs2]
  have hF : (flatK encX 4 d').size = L.length * 4 := by rw [size_flatK, hs2]
  obtain ⟨cur', hg', hcs', hat'⟩ := put_block (n := n) (os := os) (F := flatK encX 4 d') hg (by rw [hF, hcs]; exact Nat.mul_le_mul_right _ hnc)
  have hbw : RowKit.Below lo w (sortWorldK encX 4 w g 0 n d' os) := put_below hbg (heap_lt hg)
  refine ⟨rfl, ⟨(flatK encX 4 d').toList, ⟨?_, .inr ⟨g, cap, cur', ?_, hbg, hg', by omega, hcm, by rw [hcs', hcs], ?_⟩⟩, ?_⟩, hbw, hlen⟩
  · rw [Array.length_toList, hF, hlen]
  · rw [hlen]
  · rw [hlen]
    apply List.ext_getElem?
    intro i
    by_cases hi : i < L.length * 4
    · rw [List.getElem?_take_of_lt hi, Array.getElem?_toList, hat' i (by omega), Array.getElem?_toList, Array.getElem?_eq_getElem (by omega), get_bang _ _ (by omega)]
    · rw [List.getElem?_eq_none (by rw [List.length_take]; omega), List.getElem?_eq_none (by rw [Array.length_toList, hF]; omega)]
  · rw [← hS]
    intro j hj
    have hj' : j < d'.size := by simpa using hj
    refine ⟨d'[j].2.1, d'[j].2.2, ?_, ?_, ?_, ?_, ?_⟩
    · rw [← Nat.add_zero (j * 4), flat_some d' j 0 hj' (by decide), (encX_at _).1]; simp
    · rw [flat_some d' j 1 hj' (by decide), (encX_at _).2.1]; simp
    · rw [flat_some d' j 2 hj' (by decide), (encX_at _).2.2.1]; simp
    · rw [flat_some d' j 3 hj' (by decide), (encX_at _).2.2.2]; simp
    · have := hRV d'[j] (Array.getElem_mem_toList hj')
      simp only [List.getElem_map, Array.getElem_toList]
      exact this.keep (fun q hq => hbw.cell (p := q) (by omega)) (Nat.le_refl _)
end Go.Proofs.YthdnfnmglhifmaaGreat
/-
  A row of bindings of the call's own, in which each value is replaced by a copy. No statement is proved here.
-/
namespace Go.Proofs.YthdnfnmglhifmaaGreat
open Go.RowKit Go.Sort Go.Deep
set_option maxRecDepth 100000
set_option linter.unusedVariables false
/-- The first k values are copies, the others lie where they lay. -/
def CpRow (e : Nat) (wr : World) (lo B g cap : Nat) (S : List Bn) (k : Nat) : Prop := ∃ xs Q, wr.ownsRow lo 41 4 (.slice (some ⟨g, 0, none⟩) S.length cap) S.length xs ∧ RowB (e + 1) wr lo (some g) Q S xs k ∧ ∀ j (h : j < S.length), k ≤ j → ∃ A' c, xs[j * 4]? = some (.int .i64 S[j].var) ∧ xs[j * 4 + 1]? = some (.int .i64 S[j].val.ctor) ∧ xs[j * 4 + 2]? = some (.int .i64 S[j].val.n) ∧ xs[j * 4 + 3]? = some (.slice A' S[j].val.kids.length c) ∧ RVs e wr B A' S[j].val.kids
theorem CpRow.zero {e : Nat} {wr : World} {lo B g cap : Nat} {S : List Bn} (h : OBr e wr lo B (.slice (some ⟨g, 0, none⟩) S.length cap) S) : CpRow e wr lo B g cap S 0 := by
  obtain ⟨xs, ho, hx⟩ := h
  exact ⟨xs, fun _ _ => False, ho, RowB.zero _ _ _ _ _ _ _, fun j hj _ => hx j hj⟩
theorem CpRow.block {e : Nat} {wr : World} {lo B g cap : Nat} {S : List Bn} {k : Nat} (h : CpRow e wr lo B g cap S k) : ∃ cur, lo ≤ g ∧ g < wr.heap.size ∧ wr.heap[g]? = some (.cells cur 41 (0, 0)) := by
  obtain ⟨xs, Q, ho, _, _⟩ := h
  rcases ho.2 with ⟨h', _⟩ | ⟨g', cap', cur, h', hb, hg, _⟩
  · cases h'
  · cases h'; exact ⟨cur, hb, heap_lt hg, hg⟩
/-- What lies at place k. -/
theorem CpRow.at_ {e : Nat} {wr : World} {lo B g cap : Nat} {S : List Bn} {k : Nat} (h : CpRow e wr lo B g cap S k) (hk : k < S.length) : ∃ A' c, wr.cell? ⟨g, k * 4 + 1, none⟩ = some (.int .i64 S[k].val.ctor) ∧ wr.cell? ⟨g, k * 4 + 2, none⟩ = some (.int .i64 S[k].val.n) ∧ wr.cell? ⟨g, k * 4 + 3, none⟩ = some (.slice A' S[k].val.kids.length c) ∧ RVs e wr B A' S[k].val.kids := by
  obtain ⟨xs, Q, ho, _, hr⟩ := h
  obtain ⟨A', c, e0, e1, e2, e3, hv⟩ := hr k hk (Nat.le_refl _)
  have hl := ho.1
  exact ⟨A', c, (ho.cellAt _ (by omega)).trans e1, (ho.cellAt _ (by omega)).trans e2, (ho.cellAt _ (by omega)).trans e3, hv⟩
theorem CpRow.step {e : Nat} {wr w2 : World} {lo B g cap : Nat} {S : List Bn} {k c2 : Nat} {A2 : Option Addr} (h : CpRow e wr lo B g cap S k) (hk : k < S.length) (hB : B ≤ lo) (hb : RowKit.Below wr.heap.size wr w2) (hov : OVs (e + 1) w2 (Nw wr w2) A2 S[k].val.kids) :
    CpRow e (((w2.setCell ⟨g, k * 4 + 1, none⟩ (.int .i64 S[k].val.ctor)).setCell ⟨g, k * 4 + 2, none⟩ (.int .i64 S[k].val.n)).setCell ⟨g, k * 4 + 3, none⟩ (.slice A2 S[k].val.kids.length c2)) lo B g cap S (k + 1) := by
  obtain ⟨xs, Q, ho, hrow, hrest⟩ := h
  rcases ho.2 with ⟨h', _⟩ | ⟨g', cap', cur, h', hbg, hg, hnc, hcm, hcs, htake⟩
  · cases h'
  cases h'
  have hgl := heap_lt hg
  have hl := ho.1
  have hg2 : w2.heap[g]? = some (.cells cur 41 (0, 0)) := (hb.block g hgl).trans hg
  have hg5 := heap_setCell_same _ g (k * 4 + 3) _ _ (.slice A2 S[k].val.kids.length c2) (heap_setCell_same _ g (k * 4 + 2) _ _ (.int .i64 S[k].val.n) (heap_setCell_same w2 g (k * 4 + 1) _ _ (.int .i64 S[k].val.ctor) hg2))
  generalize hcur : ((cur.setIfInBounds (k * 4 + 1) (.int .i64 S[k].val.ctor)).setIfInBounds (k * 4 + 2) (.int .i64 S[k].val.n)).setIfInBounds (k * 4 + 3) (.slice A2 S[k].val.kids.length c2) = cur5 at hg5
  generalize hw5 : (((w2.setCell ⟨g, k * 4 + 1, none⟩ (.int .i64 S[k].val.ctor)).setCell ⟨g, k * 4 + 2, none⟩ (.int .i64 S[k].val.n)).setCell ⟨g, k * 4 + 3, none⟩ (.slice A2 S[k].val.kids.length c2)) = w5 at hg5
  have hcs5 : cur5.size = cap * 4 := by rw [← hcur]; simp [hcs]
  have hle : S.length * 4 ≤ cur.size := by rw [hcs]; exact Nat.mul_le_mul_right _ hnc
  have hat : ∀ i, i < S.length * 4 → cur[i]? = xs[i]? := fun i hi => by rw [← htake, List.getElem?_take_of_lt hi, Array.getElem?_toList]
  have hat5 : ∀ i, i < S.length * 4 → (cur5.toList.take (S.length * 4))[i]? = cur5[i]? := fun i hi => by rw [List.getElem?_take_of_lt hi, Array.getElem?_toList]
  have hoth : ∀ i, i < S.length * 4 → i ≠ k * 4 + 1 → i ≠ k * 4 + 2 → i ≠ k * 4 + 3 → (cur5.toList.take (S.length * 4))[i]? = xs[i]? := fun i hi h1 h2 h3 => by
    rw [hat5 i hi, ← hcur, Array.getElem?_setIfInBounds_ne (Ne.symm h3), Array.getElem?_setIfInBounds_ne (Ne.symm h2), Array.getElem?_setIfInBounds_ne (Ne.symm h1), hat i hi]
  obtain ⟨A0, c0, e0, e1, e2, e3, _⟩ := hrest k hk (Nat.le_refl _)
  have hF : Fr (fun b => b = g) w2 w5 := by rw [← hw5]; exact ((Fr.set (P := fun b => b = g) _ _ _ _ rfl).trans (Fr.set _ _ _ _ rfl)).trans (Fr.set _ _ _ _ rfl)
  have hr2 := hrow.more (xs' := cur5.toList.take (S.length * 4)) (cap := c2) (A' := A2) hb hk (by omega) (fun b e => by cases e; exact hgl) hov (fun j c hj hc => hoth _ (by omega) (by omega) (by omega) (by omega))
    ((hoth _ (by omega) (by omega) (by omega) (by omega)).trans e0)
    (by rw [hat5 _ (by omega), ← hcur, Array.getElem?_setIfInBounds_ne (by omega), Array.getElem?_setIfInBounds_ne (by omega), Array.getElem?_setIfInBounds_self_of_lt (by omega)])
    (by rw [hat5 _ (by omega), ← hcur, Array.getElem?_setIfInBounds_ne (by omega), Array.getElem?_setIfInBounds_self_of_lt (by simp; omega)])
    (by rw [hat5 _ (by omega), ← hcur, Array.getElem?_setIfInBounds_self_of_lt (by simp; omega)])
  have hr5 := hr2.fr hF (fun b _ h2 _ h => h2 (by rw [h]))
  have hs5 : w2.heap.size ≤ w5.heap.size := hF.size
  have hk5 : ∀ q : Addr, q.block < B → w5.cell? q = wr.cell? q := fun q hq => by
    rw [World.cell?_of_block (a := q) (hF.2.2.2.2 q.block (by have := hb.size; omega) (by omega)), hb.cell (p := q) (by omega)]
  refine ⟨_, _, ⟨?_, .inr ⟨g, cap, cur5, rfl, hbg, hg5, hnc, hcm, hcs5, rfl⟩⟩, hr5, fun j hj hkj => ?_⟩
  · have hl5 : cur5.toList.length = cap * 4 := by rw [Array.length_toList]; exact hcs5
    rw [List.length_take, hl5]; omega
  · obtain ⟨A', c, f0, f1, f2, f3, hv⟩ := hrest j hj (by omega)
    exact ⟨A', c, (hoth _ (by omega) (by omega) (by omega) (by omega)).trans f0, (hoth _ (by omega) (by omega) (by omega) (by omega)).trans f1, (hoth _ (by omega) (by omega) (by omega) (by omega)).trans f2, (hoth _ (by omega) (by omega) (by omega) (by omega)).trans f3, hv.keep hk5 (Nat.le_refl _)⟩
theorem CpRow.all {e : Nat} {wr : World} {lo B g cap : Nat} {S : List Bn} (h : CpRow e wr lo B g cap S S.length) (hn : S.length ≤ 1048576) : OBs (e + 1) wr (fun b => lo ≤ b ∧ b < wr.heap.size) (some ⟨g, 0, none⟩) S := by
  obtain ⟨xs, Q, ho, hrow, _⟩ := h
  obtain ⟨A, c, e1, hO⟩ := OBs.of_row ho hrow hn
  cases e1
  exact hO
end Go.Proofs.YthdnfnmglhifmaaGreat
