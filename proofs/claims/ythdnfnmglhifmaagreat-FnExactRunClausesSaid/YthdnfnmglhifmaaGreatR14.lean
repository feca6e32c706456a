/-
  The functions that compare values, where both sides read as the same. No statement is proved here.
-/
import Derived.Test.YthdnfnmglhifmaaGreatR00
import Derived.Test.YthdnfnmglhifmaaGreatR04
import Derived.Test.YthdnfnmglhifmaaGreatR13
import Derived.Test.YthdnfnmglhifmaaGreatR09
import Derived.OrdersHeld
import Derived.Deep.RegionHeld3
namespace Go.Proofs.YthdnfnmglhifmaaGreat
open Go.RowKit Go.Sort
set_option maxRecDepth 100000
set_option linter.unusedVariables false
def EqS (d : Nat) : Prop := ∀ (A A' : Option Addr) (l : List Vl) (cap cap' : Nat) (w : World), RVs d w w.heap.size A l → RVs d w w.heap.size A' l →
  Calls Tryz.prog 109 #[.slice A l.length cap, .slice A' l.length cap'] w fun e w' => e = .returned (.bool true) ∧ Below w.heap.size w w'
theorem eqV_of {d : Nat} (ih : EqS d) (A A' : Option Addr) (l : List Vl) (cap cap' : Nat) (c n : Int) (w : World) (hr : RVs d w w.heap.size A l) (hr' : RVs d w w.heap.size A' l) :
    Calls Tryz.prog 45 #[.agg #[.int .i64 c, .int .i64 n, .slice A l.length cap], .agg #[.int .i64 c, .int .i64 n, .slice A' l.length cap']] w fun e w' => e = .returned (.bool true) ∧ Below w.heap.size w w' := by
  have Hr := Lib.hid hr
  have Hr' := Lib.hid hr'
  have IH := Lib.hid ih
  clear hr hr' ih
  go_enter Tryz.func45, Tryz.ntmps45
  go_wp2_with (go_at_call 109; refine (IH.out _ _ _ _ _ _ (by exact Hr.out.keep (keep_two _ _) (by simp; omega)) (by exact Hr'.out.keep (keep_two _ _) (by simp; omega))).mono ?_; rintro e w1 ⟨rfl, hb⟩; obtain ⟨hc, hfz⟩ := bcell hb)
  go_ret
  exact ⟨rfl, below_two hb⟩
set_option maxHeartbeats 800000 in
theorem eqS_of (d : Nat) (ih : ∀ d', d = d' + 1 → EqS d') : EqS d := by
  intro A A' l cap cap' w hr hr'
  have hn := hr.1
  unfold maxLen at hn
  have Hr := Lib.hid hr
  have Hr' := Lib.hid hr'
  have IH := Lib.hid ih
  clear hr hr' ih
  go_enter Tryz.func109, Tryz.ntmps109
  go_wp2_with fail
  go_loopw [5] (fun i wr => ∃ k : Nat, k ≤ l.length ∧ i = .int .i64 k ∧ Below w.heap.size w wr) (fun i _ => l.length - (intOf i).toNat)
  case atStart => exact ⟨0, by omega, rfl, Below.refl _ _⟩
  case round =>
    obtain ⟨k, hk, rfl, hb⟩ := hrel
    by_cases hlt : k < l.length
    · obtain ⟨b, off, rfl, hbB, hv⟩ := (Hr.out.below hb (Nat.le_refl _)).2 k hlt
      obtain ⟨d', hd, B1, cp, c0, c1, c2, hm⟩ := hv.parts
      obtain ⟨b', off', rfl, hbB', hv'⟩ := (Hr'.out.below hb (Nat.le_refl _)).2 k hlt
      obtain ⟨d'', hd', B2, cp', c0', c1', c2', hm'⟩ := hv'.parts
      obtain rfl : d'' = d' := by omega
      have d0 := cell_regrown c0
      have d1 := cell_regrown c1
      have d2 := cell_regrown c2
      have d0' := cell_regrown c0'
      have d1' := cell_regrown c1'
      have d2' := cell_regrown c2'
      have Hm := Lib.hid hm
      have Hm' := Lib.hid hm'
      have IHd := Lib.hid (IH.out d'' hd)
      clear c0 c1 c2 c0' c1' c2' hm hm' hv hv' hd hd'
      have hi : (k : Int) < (l.length : Int) := by omega
      go_wp2_with fail
      refine wp_region_quiet_below (by kernel_rfl) (by kernel_rfl) ?_
      repeat (quiet_step (exact Calls.regrown_of (eqV_of IHd.out _ _ _ _ _ _ _ _ (Hm.out.keep (fun p hp => (below_regrown wr _ _).cell (Nat.lt_of_lt_of_le hp hb.size)) (Nat.le_trans hb.size (below_regrown wr _ _).size)) (Hm'.out.keep (fun p hp => (below_regrown wr _ _).cell (Nat.lt_of_lt_of_le hp hb.size)) (Nat.le_trans hb.size (below_regrown wr _ _).size)))))
      refine wpQuiet_nil ?_
      intro _ hw'
      obtain ⟨⟨dq, osq⟩, hw''⟩ := hw'
      subst hw''
      have hb2 := hb.trans ((below_regrown wr dq osq).mono hb.size)
      clear d0 d1 d2 d0' d1' d2'
      go_wp2_with fail
      go_roundw
      case rel => exact ⟨k + 1, by omega, by go_num, hb2⟩
      case measure => simp [intOf]; omega
    · go_wp2_with fail
      go_ret
      exact ⟨rfl, hb⟩
theorem eqS_any : ∀ d, EqS d
  | 0 => eqS_of 0 (fun _ h => by omega)
  | d + 1 => eqS_of (d + 1) (fun d' h => (Nat.succ.inj h) ▸ eqS_any d)
theorem eqV_same (d : Nat) (A A' : Option Addr) (l : List Vl) (cap cap' : Nat) (c n : Int) (w : World) (hr : RVs d w w.heap.size A l) (hr' : RVs d w w.heap.size A' l) :
    Calls Tryz.prog 45 #[.agg #[.int .i64 c, .int .i64 n, .slice A l.length cap], .agg #[.int .i64 c, .int .i64 n, .slice A' l.length cap']] w fun e w' => e = .returned (.bool true) ∧ Below w.heap.size w w' := eqV_of (eqS_any d) A A' l cap cap' c n w hr hr'
end Go.Proofs.YthdnfnmglhifmaaGreat
/-
  Lists of what variables stand for: how they lie in memory, and what they hold. No statement is proved here.
-/
namespace Go.Proofs.YthdnfnmglhifmaaGreat
open Go.RowKit Go.Sort
set_option maxRecDepth 100000
set_option linter.unusedVariables false
structure Bn where
  var : Int
  val : Vl
instance : Inhabited Bn := ⟨⟨0, default⟩⟩
def wB (b : Bn) : Nat := wVs b.val.kids
def RBn (d : Nat) (w : World) (B b o : Nat) (x : Bn) : Prop := ∃ A' cap, w.cell? ⟨b, o, none⟩ = some (.int .i64 x.var) ∧ w.cell? ⟨b, o + 1, none⟩ = some (.int .i64 x.val.ctor) ∧ w.cell? ⟨b, o + 2, none⟩ = some (.int .i64 x.val.n) ∧ w.cell? ⟨b, o + 3, none⟩ = some (.slice A' x.val.kids.length cap) ∧ RVs d w B A' x.val.kids
def RBs (d : Nat) (w : World) (B : Nat) (A : Option Addr) (l : List Bn) : Prop := l.length ≤ maxLen ∧ ∀ k (h : k < l.length), ∃ b off, A = some ⟨b, off, none⟩ ∧ b < B ∧ RBn d w B b (off + k * 4) l[k]
section
variable {w w' : World} {B B' d : Nat} {A : Option Addr} {l : List Bn}
theorem RBs.keep (h : RBs d w B A l) (hk : ∀ p : Addr, p.block < B → w'.cell? p = w.cell? p) (hB : B ≤ B') : RBs d w' B' A l :=
  ⟨h.1, fun k hk' => by
    obtain ⟨b, off, e, hb, A', cap, h0, h1, h2, h3, hv⟩ := h.2 k hk'
    exact ⟨b, off, e, by omega, A', cap, (hk _ hb).trans h0, (hk _ hb).trans h1, (hk _ hb).trans h2, (hk _ hb).trans h3, hv.keep hk hB⟩⟩
theorem RBs.below {B0 : Nat} (h : RBs d w B A l) (hb : Below B0 w w') (hB : B ≤ B0) : RBs d w' B A l := h.keep (fun _ hp => hb.cell (Nat.lt_of_lt_of_le hp hB)) (Nat.le_refl _)
theorem RBs.at_ (h : RBs d w w.heap.size A l) (hb : Below w.heap.size w w') : RBs d w' w'.heap.size A l := h.keep (fun _ hp => hb.cell hp) hb.size
theorem RBs.nil : RBs d w B A [] := ⟨Nat.zero_le _, fun k h => absurd h (Nat.not_lt_zero _)⟩
end
end Go.Proofs.YthdnfnmglhifmaaGreat
/-
  What the variables of a pattern stand for: plain mathematics. No statement is proved here.
-/
namespace Go.Proofs.YthdnfnmglhifmaaGreat
open Go.RowKit Go.Sort Go.Deep
set_option maxRecDepth 100000
set_option linter.unusedVariables false
/-- Lists one behind the other, if there are all. -/
def catO (f : Nat → Option (List Bn)) : Nat → Option (List Bn)
  | 0 => some []
  | k + 1 => match catO f k with
    | none => none
    | some l => (f k).map (l ++ ·)
theorem catO_some {f : Nat → Option (List Bn)} {k : Nat} {l m : List Bn} (h : catO f k = some l) (h' : f k = some m) : catO f (k + 1) = some (l ++ m) := by
  show (match catO f k with | none => none | some l => (f k).map (l ++ ·)) = _
  rw [h, h']; rfl
theorem catO_up {f : Nat → Option (List Bn)} {k : Nat} (e : Nat) (h : catO f k = none) : catO f (k + e) = none := by
  induction e with
  | zero => exact h
  | succ e ih =>
    show (match catO f (k + e) with | none => none | some l => (f (k + e)).map (l ++ ·)) = _
    rw [ih]
theorem catO_none {f : Nat → Option (List Bn)} {k n : Nat} (hk : k < n) (h : f k = none) : catO f n = none := by
  have h1 : catO f (k + 1) = none := by
    show (match catO f k with | none => none | some l => (f k).map (l ++ ·)) = _
    rw [h]; cases catO f k <;> rfl
  have := catO_up (n - (k + 1)) h1
  rwa [show k + 1 + (n - (k + 1)) = n by omega] at this
/-- In the order of the program. -/
def mtI : Nat → Pt → Vl → Option (List Bn)
  | 0, _, _ => none
  | d + 1, p, v =>
    if p.op = 2 then some [⟨p.var, v⟩]
    else if p.op = 3 then (if p.n ≤ v.n ∧ v.n ≤ p.m then some [] else none)
    else if p.op = 4 then (if p.ctor = v.ctor then catO (fun i => mtI d (p.kids.getD i default) (v.kids.getD i default)) p.kids.length else none)
    else if p.op = 5 then (match mtI d (p.kids.getD 0 default) v with | some l => some l | none => mtI d (p.kids.getD 1 default) v)
    else if p.op = 6 then (mtI d (p.kids.getD 0 default) v).map (· ++ [⟨p.var, v⟩])
    else some []
theorem wP_kid1 (v : Pt) (k : Nat) (h : k < v.kids.length) : 1 + wP v.kids[k] ≤ wP v := by
  have h1 := upKP_le v (k + 1) h
  rw [upKP_succ _ _ h] at h1
  have h2 : 1 ≤ upKP v.kids k := by unfold upKP; omega
  omega
def kidB (d : Nat) (ps : List Pt) (vs : List Vl) (i : Nat) : Option (List Bn) := mtI d (ps.getD i default) (vs.getD i default)
section
variable {d : Nat} {p : Pt} {v : Vl} {ps : List Pt} {vs : List Vl}
theorem getD_vl {i : Nat} (h : i < vs.length) : vs.getD i default = vs[i] := by
  rw [List.getD_eq_getElem?_getD, List.getElem?_eq_getElem h]; rfl
theorem kidB_at {i : Nat} (h : i < ps.length) (h' : i < vs.length) : kidB d ps vs i = mtI d ps[i] vs[i] := by unfold kidB; rw [getD_kid h, getD_vl h']
theorem mtI_any (h : p.op = 1) : mtI (d + 1) p v = some [] := by rw [mtI, if_neg (by omega), if_neg (by omega), if_neg (by omega), if_neg (by omega), if_neg (by omega)]
theorem mtI_var (h : p.op = 2) : mtI (d + 1) p v = some [⟨p.var, v⟩] := by rw [mtI, if_pos h]
theorem mtI_in (h : p.op = 3) (h1 : p.n ≤ v.n) (h2 : v.n ≤ p.m) : mtI (d + 1) p v = some [] := by rw [mtI, if_neg (by omega), if_pos h, if_pos ⟨h1, h2⟩]
theorem mtI_out (h : p.op = 3) (h1 : ¬ (p.n ≤ v.n ∧ v.n ≤ p.m)) : mtI (d + 1) p v = none := by rw [mtI, if_neg (by omega), if_pos h, if_neg h1]
theorem mtI_ctor (h : p.op = 4) (h1 : p.ctor = v.ctor) : mtI (d + 1) p v = catO (kidB d p.kids v.kids) p.kids.length := by
  rw [mtI, if_neg (by omega), if_neg (by omega), if_pos h, if_pos h1]; rfl
theorem mtI_other (h : p.op = 4) (h1 : ¬ p.ctor = v.ctor) : mtI (d + 1) p v = none := by rw [mtI, if_neg (by omega), if_neg (by omega), if_pos h, if_neg h1]
theorem mtI_or0 {l : List Bn} (h : p.op = 5) (h0 : 0 < p.kids.length) (h1 : mtI d p.kids[0] v = some l) : mtI (d + 1) p v = some l := by
  rw [mtI, if_neg (by omega), if_neg (by omega), if_neg (by omega), if_pos h, getD_kid h0, h1]
theorem mtI_or1 (h : p.op = 5) (h0 : 0 < p.kids.length) (h2 : 1 < p.kids.length) (h1 : mtI d p.kids[0] v = none) : mtI (d + 1) p v = mtI d p.kids[1] v := by
  rw [mtI, if_neg (by omega), if_neg (by omega), if_neg (by omega), if_pos h, getD_kid h0, h1, getD_kid h2]
theorem mtI_as (h : p.op = 6) (h0 : 0 < p.kids.length) : mtI (d + 1) p v = (mtI d p.kids[0] v).map (· ++ [⟨p.var, v⟩]) := by
  rw [mtI, if_neg (by omega), if_neg (by omega), if_neg (by omega), if_neg (by omega), if_pos h, getD_kid h0]
end
/-- A value that fits has parts for all parts of a pattern with its constructor. -/
theorem fit_kids {l : List Da} {n : Nat} {t : Ty} {p : Pt} {v : Vl} (hm : p.ctor ∈ ctR l t) (hc : p.ctor = v.ctor) (hf : fitV l n t v = true) : ∃ n', n = n' + 1 ∧ v.kids.length = (agR l t p.ctor).length ∧ ∀ i (h : i < (agR l t p.ctor).length) (h' : i < v.kids.length), fitV l n' (agR l t p.ctor)[i] v.kids[i] = true := by
  cases n with
  | zero => rw [fit_zero] at hf; cases hf
  | succ n =>
    obtain ⟨_, d0, m0, hd0, he0, _, _⟩ := mem_ctR hm
    have h1 : ¬ t.data = -1 := by omega
    have hvm : v.ctor ∈ ctR l t := hc ▸ hm
    have hn : v.n = 0 := by
      by_cases e : v.n = 0
      · exact e
      · rw [fit_n h1 e] at hf; cases hf
    have hl : v.kids.length = (agR l t v.ctor).length := by
      by_cases e : v.kids.length = (agR l t v.ctor).length
      · exact e
      · rw [fit_len h1 e] at hf; cases hf
    rw [fit_go h1 hn hvm hl] at hf
    rw [hc]
    exact ⟨n, rfl, hl, fun i hi hi' => by rw [← kidV_at hi hi']; exact upto_get hf hi⟩
end Go.Proofs.YthdnfnmglhifmaaGreat
/-
  A region whose last operation waits for all others: a condition on the world that holds until that one comes up. No statement is proved here.
-/
namespace Go.Proofs.YthdnfnmglhifmaaGreat
open Go
set_option linter.unusedVariables false
section
variable {P : Program} {ops : Array Oper} {Q : Exit → Act → World → Prop} {md : Region.Mode} {S : World → Prop} {z : Nat}
/-- Whatever comes up next, the condition holds behind it, unless it is number z; and so on. -/
def Till (P : Program) (md : Region.Mode) (ops : Array Oper) (Q : Exit → Act → World → Prop) (S : World → Prop) (z : Nat) : Nat → Array Bool → Act → World → Prop
  | 0, ls, a, w => Region.ready md ops ls = [] ∧ Q .normal a w
  | n + 1, ls, a, w => (Region.ready md ops ls = [] → Q .normal a w) ∧ ∀ i ∈ Region.ready md ops ls, wpOp P ops Q i (fun b v => (i ≠ z → S v) ∧ Till P md ops Q S z n (ls.setIfInBounds i true) b v) a w
theorem Till.any : ∀ (n : Nat) (ls : Array Bool) (a : Act) (w : World), Till P md ops Q S z n ls a w → wpAny P md ops Q n ls a w
  | 0, _, _, _, h => h
  | n + 1, ls, a, w, h => ⟨h.1, fun i hi => wpOp_mono (fun b v hv => Till.any n _ b v hv.2) (h.2 i hi)⟩
/-- Does number z wait for number i? -/
def waitB (md : Region.Mode) (ops : Array Oper) (z i : Nat) : Bool := match ops[z]? with
  | some o => o.after.any fun e => Region.binds md e && e.on == i
  | none => true
theorem wait_not {i : Nat} {ls : Array Bool} (h : waitB md ops z i = true) (hi : i ∈ Region.ready md ops ls) : ¬ z ∈ Region.ready md ops ls := fun hz => by
  obtain ⟨_, o, ho, hall⟩ := mem_ready.1 hz
  obtain ⟨hun, oi, hoi, _⟩ := mem_ready.1 hi
  unfold waitB at h
  rw [ho] at h
  simp only at h
  obtain ⟨e, he, hb⟩ := Array.any_eq_true'.1 h
  simp only [Bool.and_eq_true, beq_iff_eq] at hb
  have h1 := hall e he hb.1
  rw [hb.2] at h1
  rcases Nat.lt_or_ge i ls.size with hlt | hge
  · simp [hlt] at hun h1; rw [hun] at h1; cases h1
  · simp [Array.getElem?_eq_none hge] at h1
theorem Till.first {i : Nat} {oi : Oper} {v : Value} (hi : ops[i]? = some oi) (hs : Region.noSelect ops = true) (hQ : ∀ c a w, Q (.panic c) (a.put oi.dst v) w → Q (.panic c) a w) (hw : waitB md ops z i = true) :
    ∀ (n : Nat) (ls : Array Bool) (a : Act) (w : World), (∀ j oj, ops[j]? = some oj → j ≠ i → ls.getD j true = false → (∀ e ∈ oj.after, Region.binds md e = true → e.on ≠ i) → oi.apart ops oj = true) →
      i ∈ Region.ready md ops ls → i ≠ z → YieldsIf P ops S oi v a → S w → Till P md ops Q S z n (ls.setIfInBounds i true) (a.put oi.dst v) w → Till P md ops Q S z (n + 1) ls a w := by
  intro n
  have hsel := Region.noSelect_spec hs
  induction n with
  | zero =>
    intro ls a w _ hr hz hy hS H
    refine ⟨fun h => (by rw [h] at hr; cases hr), fun j hj => ?_⟩
    by_cases e : j = i
    · subst e; exact hy.wpOp hi hS ⟨fun _ => hS, H⟩
    · have := ready_mono hj e
      rw [H.1] at this
      cases this
  | succ n ih =>
    intro ls a w hfree hr hz hy hS H
    refine ⟨fun h => (by rw [h] at hr; cases hr), fun j hj => ?_⟩
    by_cases e : j = i
    · subst e; exact hy.wpOp hi hS ⟨fun _ => hS, H⟩
    · have hjz : j ≠ z := fun ez => wait_not hw hr (ez ▸ hj)
      have h1 := H.2 j (ready_mono hj e)
      obtain ⟨hun, oj, hoj, hall⟩ := mem_ready.1 hj
      have hno : ∀ d ∈ oj.after, Region.binds md d = true → d.on ≠ i := fun d hd hb heq => by
        have h2 := hall d hd hb
        have h3 := (mem_ready.1 hr).1
        rw [heq] at h2
        rcases Nat.lt_or_ge i ls.size with hlt | hge
        · simp [hlt] at h3 h2; rw [h3] at h2; cases h2
        · simp [Array.getElem?_eq_none hge] at h2
      have h2 := wpOp_putIf hoj (hfree j oj hoj e hun hno) (fun cs b => hsel i oi cs b hi) (fun cs b => hsel j oj cs b hoj) hQ hy h1
      refine wpOp_mono (fun b v h3 => ⟨fun _ => h3.2.1 hjz, ih (ls.setIfInBounds j true) b v ?_ (ready_mono hr (Ne.symm e)) hz h3.1 (h3.2.1 hjz) ?_⟩) h2
      · intro k ok hk hki huk hnk
        refine hfree k ok hk hki ?_ hnk
        by_cases ek : j = k
        · subst ek; exact hun
        · rw [getD_set_ne true ek] at huk; exact huk
      · rw [Array.setIfInBounds_comm _ _ e]
        exact h3.2.2
theorem Till.take {i : Nat} {oi : Oper} {v : Value} {n : Nat} {ls : Array Bool} {a : Act} {w : World} (hi : ops[i]? = some oi) (hs : Region.noSelect ops = true) (hf : Region.free md ops ls i = true)
    (hr : (Region.ready md ops ls).contains i = true) (hw : (waitB md ops z i && i != z) = true) (hQ : ∀ c a w, Q (.panic c) (a.put oi.dst v) w → Q (.panic c) a w) (hS : S w) (hy : YieldsIf P ops S oi v a)
    (h : Till P md ops Q S z n (ls.setIfInBounds i true) (a.put oi.dst v) w) : Till P md ops Q S z (n + 1) ls a w := by
  rw [Bool.and_eq_true, bne_iff_ne] at hw
  exact Till.first hi hs hQ hw.1 n ls a w (Region.free_spec hi hf) (by simpa using hr) hw.2 hy hS h
theorem Till.take_ {i : Nat} {oi : Oper} {d : Option Tmp} {v : Value} {n : Nat} {ls ls' : Array Bool} {a : Act} {w : World} (hi : ops[i]? = some oi) (hd : ops[i]?.map (fun o => o.dst) = some d) (hs : Region.noSelect ops = true) (hf : Region.free md ops ls i = true)
    (hr : (Region.ready md ops ls).contains i = true) (hw : (waitB md ops z i && i != z) = true) (hQ : ∀ c a w, Q (.panic c) (a.put d v) w → Q (.panic c) a w) (hS : S w) (hy : YieldsIf P ops S oi v a) (hl : ls.setIfInBounds i true = ls')
    (h : Till P md ops Q S z n ls' (a.put d v) w) : Till P md ops Q S z (n + 1) ls a w := by
  have e : oi.dst = d := by rw [hi] at hd; injection hd
  subst e hl
  exact Till.take hi hs hf hr hw hQ hS hy h
/-- One operation comes up. -/
theorem Till.step {i : Nat} {o : Oper} {n : Nat} {ls : Array Bool} {a : Act} {w : World} (ho : ops[i]? = some o) (hw : Region.wanted o (yielded ops a.tmps) = true)
    (h : ∀ K : Act → World → Prop, (∀ b v, (i ≠ z → S v) → Till P md ops Q S z n (ls.setIfInBounds i true) b v → K b v) → o.wp P a w K Q) :
    wpOp P ops Q i (fun b v => (i ≠ z → S v) ∧ Till P md ops Q S z n (ls.setIfInBounds i true) b v) a w := by
  unfold wpOp
  simp only [ho, hw, if_true]
  exact .inl (h _ fun b v h1 h2 => ⟨h1, h2⟩)
theorem Till.all {rs : List Nat} {n : Nat} {ls : Array Bool} {a : Act} {w : World} (hr : Region.ready md ops ls = rs) (hne : rs ≠ [])
    (h : ∀ i ∈ rs, wpOp P ops Q i (fun b v => (i ≠ z → S v) ∧ Till P md ops Q S z n (ls.setIfInBounds i true) b v) a w) : Till P md ops Q S z (n + 1) ls a w :=
  ⟨fun h0 => absurd (hr ▸ h0) hne, hr ▸ h⟩
theorem Till.done {ls : Array Bool} {a : Act} {w : World} (hr : Region.ready md ops ls = []) (h : Q .normal a w) : ∀ n, Till P md ops Q S z n ls a w
  | 0 => ⟨hr, h⟩
  | _ + 1 => ⟨fun _ => h, by rw [hr]; simp⟩
theorem Till.start {id : Nat} {a : Act} {w : World} (hm : P.follows .mixedOrders = true) (h : Till P .any ops Q S z ops.size (Array.replicate ops.size false) a w.drew) : (Code.region id ops true).wp P Q a w :=
  wp_region_any hm (Till.any _ _ _ _ h)
end
end Go.Proofs.YthdnfnmglhifmaaGreat
/-
  A Vl node that is made part by part. No statement is proved here.
-/
namespace Go.Proofs.YthdnfnmglhifmaaGreat
open Go.RowKit
set_option maxRecDepth 100000
set_option linter.unusedVariables false
theorem RowV.move {d : Nat} {w w' : World} {lo : Nat} {og og' : Option Nat} {Q : Nat → Nat → Prop} {l : List Vl} {xs : List Value} {k : Nat} {P' : Nat → Prop} (h : RowV d w lo og Q l xs k) (hf : Fr P' w w') (hp : ∀ b, lo ≤ b → some b ≠ og → b < w.heap.size → ¬ P' b ∧ some b ≠ og') : RowV d w' lo og' Q l xs k := fun j hj hjk => by
  obtain ⟨h1, A', cap, e0, e1, e8, e9⟩ := h j hj hjk
  refine ⟨fun b hb => ?_, A', cap, e0, e1, e8, e9.fr d hf (fun b hb => ?_)⟩
  · obtain ⟨a1, a2, a3, a4⟩ := h1 b hb
    exact ⟨a1, Nat.lt_of_lt_of_le a2 hf.size, (hp b a1 a3 a2).2, a4⟩
  · obtain ⟨a1, a2, a3, a4⟩ := h1 b hb
    exact (hp b a1 a3 a2).1
/-- A node in block g of which k parts are made; whatever was there when it was begun stays. -/
def BldV (d : Nat) (w0 wr : World) (g : Nat) (x0 x1 : Int) (l : List Vl) (k : Nat) : Prop := g < w0.heap.size ∧ Fr (fun b => b = g) w0 wr ∧ ∃ A c ys Q, wr.heap[g]? = some (.cells #[.int .i64 x0, .int .i64 x1, .slice A k c] 31 (0, 0)) ∧ wr.ownsRow w0.heap.size 31 3 (.slice A k c) k ys ∧ RowV d wr w0.heap.size (Value.slice A k c).ownBlock Q l ys k
theorem BldV.zero {d : Nat} {w0 : World} {g : Nat} {x0 x1 : Int} {l : List Vl} (h : w0.heap[g]? = some (.cells #[.int .i64 x0, .int .i64 x1, .slice none 0 0] 31 (0, 0))) : BldV d w0 w0 g x0 x1 l 0 :=
  ⟨heap_lt h, Fr.refl _ _, none, 0, [], fun _ _ => False, h, World.ownsRow_nil _ _ _ _, RowV.zero _ _ _ _ _ _ _⟩
theorem BldV.below {d : Nat} {w0 wr w1 : World} {g : Nat} {x0 x1 : Int} {l : List Vl} {k : Nat} (h : BldV d w0 wr g x0 x1 l k) (hb : Below wr.heap.size wr w1) : BldV d w0 w1 g x0 x1 l k := by
  obtain ⟨hgl, hf, A, c, ys, Q, hg, ho, hrow⟩ := h
  refine ⟨hgl, hf.trans (Fr.below hb), A, c, ys, Q, (hb.block g (heap_lt hg)).trans hg, own_at ho (fun b e => hb.block b ?_), hrow.fr (P' := fun _ => False) (Fr.below hb) (fun _ _ _ _ h => h)⟩
  obtain ⟨_, _, _, h2⟩ := own_form ho
  exact (h2 b e).2
theorem BldV.step {d : Nat} {w0 wr w2 w4 : World} {g : Nat} {x0 x1 : Int} {l : List Vl} {k c c2 : Nat} {A A2 : Option Addr} {ys : List Value} {Q : Nat → Nat → Prop} {v' : Value} {box : Obj}
    (hgl : g < w0.heap.size) (hf : Fr (fun b => b = g) w0 wr) (hg : wr.heap[g]? = some (.cells #[.int .i64 x0, .int .i64 x1, .slice A k c] 31 (0, 0))) (ho : wr.ownsRow w0.heap.size 31 3 (.slice A k c) k ys) (hrow : RowV d wr w0.heap.size (Value.slice A k c).ownBlock Q l ys k)
    (hk : k < l.length) (hb : Below wr.heap.size wr w2) (hkid : OVs d w2 (Nw wr w2) A2 l[k].kids) (hown : w4.ownsRow w0.heap.size 31 3 v' (k + 1) (ys ++ [.int .i64 l[k].ctor, .int .i64 l[k].n, .slice A2 l[k].kids.length c2])) (hgr : (w2.alloc box).grownBy w4 (Value.slice A k c).ownBlock)
    (hat : v'.ownBlock = (Value.slice A k c).ownBlock ∨ v'.ownBlock = some (w2.alloc box).heap.size) :
    ∃ A' c', v' = .slice A' (k + 1) c' ∧ w4.heap[g]? = some (.cells #[.int .i64 x0, .int .i64 x1, .slice A k c] 31 (0, 0)) ∧ BldV d w0 (w4.setCell ⟨g, 2, none⟩ v') g x0 x1 l (k + 1) := by
  have hys := ho.1
  obtain ⟨_, _, _, hob⟩ := own_form ho
  obtain ⟨A', c', hv, hnb⟩ := own_form hown
  have hgw := heap_lt hg
  have hb2 := hb.size
  have hz : (w2.alloc box).heap.size = w2.heap.size + 1 := by simp
  have hng : ¬ some g = (Value.slice A k c).ownBlock := fun e => by have := (hob g e.symm).1; omega
  have hg4 : w4.heap[g]? = some (.cells #[.int .i64 x0, .int .i64 x1, .slice A k c] 31 (0, 0)) := by
    rw [hgr.block g (by omega) hng, Below.heap_alloc _ _ _ (by omega), hb.block g hgw]; exact hg
  have hF : Fr (fun b => some b = (Value.slice A k c).ownBlock ∨ b = g) w2 (w4.setCell ⟨g, 2, none⟩ v') :=
    ((Fr.below ((Below.refl _ w2).alloc (Nat.le_refl _) box)).trans (Fr.grown hgr (fun b e => .inl e))).trans (Fr.set _ _ _ _ (.inr rfl))
  have hr2 := hrow.more (xs' := ys ++ [.int .i64 l[k].ctor, .int .i64 l[k].n, .slice A2 l[k].kids.length c2]) hb hk hf.size (fun b e => (hob b e).2) hkid (fun j i hj hi => List.getElem?_append_left (by omega)) (by rw [List.getElem?_append_right (by omega), show k * 3 - ys.length = 0 by omega]; rfl) (by rw [List.getElem?_append_right (by omega), show k * 3 + 1 - ys.length = 1 by omega]; rfl) (by rw [List.getElem?_append_right (by omega), show k * 3 + 2 - ys.length = 2 by omega]; rfl)
  have hr3 := hr2.move (og' := v'.ownBlock) hF (fun b h1 h2 h3 => ⟨fun h => by
    rcases h with h | h
    · exact h2 h
    · omega, fun e => by
    rcases hat with h | h
    · exact h2 (e.trans h)
    · rw [h] at e; injection e with e; omega⟩)
  have hF0 : Fr (fun b => b = g) w0 (w4.setCell ⟨g, 2, none⟩ v') := by
    refine ⟨?_, ?_, ?_, ?_, fun b hb0 hne => ?_⟩
    · exact hF.1.trans (hb.os.trans hf.1)
    · exact hF.2.1.trans (hb.tape.trans hf.2.1)
    · exact hF.2.2.1.trans (hb.output.trans hf.2.2.1)
    · exact Nat.le_trans hf.size (Nat.le_trans hb2 hF.size)
    · have h0 := hf.size
      rw [hF.2.2.2.2 b (by omega) (fun h => by
        rcases h with h | h
        · have := (hob b h.symm).1; omega
        · exact hne h), hb.block b (by omega)]
      exact hf.2.2.2.2 b hb0 hne
  refine ⟨A', c', hv, hg4, ?_⟩
  subst hv
  refine ⟨hgl, hF0, A', c', _, _, ?_, own_at hown (fun b e => ?_), hr3⟩
  · have := heap_setCell_same w4 g 2 _ _ (.slice A' (k + 1) c') hg4
    rw [this]
    rfl
  · exact Below.heap_setCell _ _ _ _ (fun h => by have := (hnb b e).1; simp only at h; omega)
theorem BldV.all {d : Nat} {w0 wr : World} {g : Nat} {x0 x1 : Int} {l : List Vl} {k : Nat} (h : BldV d w0 wr g x0 x1 l k) (hk : k = l.length) (hn : l.length ≤ 1048576) :
    ∃ A c, wr.heap[g]? = some (.cells #[.int .i64 x0, .int .i64 x1, .slice A l.length c] 31 (0, 0)) ∧ OVs (d + 1) wr (Nw w0 wr) A l ∧ Fr (fun b => b = g) w0 wr := by
  subst hk
  obtain ⟨_, hf, A, c, ys, Q, hg, ho, hrow⟩ := h
  obtain ⟨A', c', e, hO⟩ := OVs.of_row ho hrow hn
  injection e with e1 e2 e3
  subst e1
  exact ⟨A, c, hg, hO, hf⟩
/-- A struct that has been made and not yet been written. -/
def ZbV (w : World) (g : Nat) : Prop := w.heap[g]? = some (.cells #[.int .i64 0, .int .i64 0, .slice none 0 0] 31 (0, 0))
theorem ZbV.new (w : World) : ZbV (w.alloc (.cells #[.int .i64 0, .int .i64 0, .slice none 0 0] 31)) w.heap.size := heap_alloc_new _ _
theorem ZbV.at_ {w w' : World} {g : Nat} (h : ZbV w g) (hb : Below w.heap.size w w') : ZbV w' g := (hb.block g (heap_lt h)).trans h
theorem ZbV.cells {w : World} {g : Nat} (h : ZbV w g) : w.cell? ⟨g, 0, none⟩ = some (.int .i64 0) ∧ w.cell? ⟨g, 1, none⟩ = some (.int .i64 0) ∧ w.cell? ⟨g, 2, none⟩ = some (.slice none 0 0) ∧ w.frozen? ⟨g, 0, none⟩ = false ∧ w.frozen? ⟨g, 1, none⟩ = false ∧ w.frozen? ⟨g, 2, none⟩ = false :=
  ⟨(cell_of_blk h 0).trans rfl, (cell_of_blk h 1).trans rfl, (cell_of_blk h 2).trans rfl, frozen_of_row w g 0 _ 31 h, frozen_of_row w g 1 _ 31 h, frozen_of_row w g 2 _ 31 h⟩
end Go.Proofs.YthdnfnmglhifmaaGreat
/-
  Lists of what variables stand for, in blocks of their own: no value has a block of another one. No statement is proved here.
-/
namespace Go.Proofs.YthdnfnmglhifmaaGreat
open Go.RowKit
set_option maxRecDepth 100000
set_option linter.unusedVariables false
/-- A list in a block of P; each value in blocks of P that no other one has. -/
def OBs (d : Nat) (w : World) (P : Nat → Prop) (A : Option Addr) (l : List Bn) : Prop := l.length ≤ maxLen ∧ (0 < l.length → ∃ (g : Nat) (cs : Array Value) (Q : Nat → Nat → Prop), A = some ⟨g, 0, none⟩ ∧ P g ∧ w.heap[g]? = some (.cells cs 41 (0, 0)) ∧ (∀ k b, k < l.length → Q k b → P b ∧ b ≠ g ∧ ∀ j, j < l.length → j ≠ k → ¬ Q j b) ∧ ∀ k (h : k < l.length), ∃ A' cap, cs[k * 4]? = some (.int .i64 l[k].var) ∧ cs[k * 4 + 1]? = some (.int .i64 l[k].val.ctor) ∧ cs[k * 4 + 2]? = some (.int .i64 l[k].val.n) ∧ cs[k * 4 + 3]? = some (.slice A' l[k].val.kids.length cap) ∧ OVs d w (Q k) A' l[k].val.kids)
theorem OBs.nil (d : Nat) (w : World) (P : Nat → Prop) (A : Option Addr) : OBs d w P A [] := ⟨Nat.zero_le _, fun h => absurd h (Nat.not_lt_zero _)⟩
theorem OBs.wide {d : Nat} {w : World} {P P' : Nat → Prop} {A : Option Addr} {l : List Bn} (h : OBs d w P A l) (hp : ∀ b, P b → P' b) : OBs d w P' A l := ⟨h.1, fun hl => by
  obtain ⟨g, cs, Q, e, hg, hh, hq, hc⟩ := h.2 hl
  exact ⟨g, cs, Q, e, hp g hg, hh, fun k b hk hb => ⟨hp b (hq k b hk hb).1, (hq k b hk hb).2⟩, hc⟩⟩
theorem OBs.fr {d : Nat} {w w' : World} {P P' : Nat → Prop} {A : Option Addr} {l : List Bn} (h : OBs d w P A l) (hf : Fr P' w w') (hp : ∀ b, P b → ¬ P' b) : OBs d w' P A l := ⟨h.1, fun hl => by
  obtain ⟨g, cs, Q, e, hg, hh, hq, hc⟩ := h.2 hl
  refine ⟨g, cs, Q, e, hg, hf.block hh (hp g hg), hq, fun k hk => ?_⟩
  obtain ⟨A', cap, e0, e1, e2, e8, e9⟩ := hc k hk
  exact ⟨A', cap, e0, e1, e2, e8, e9.fr _ hf (fun b hb => hp b (hq k b hk hb).1)⟩⟩
theorem OBs.later_ {d : Nat} {w w' : World} {P : Nat → Prop} {A : Option Addr} {l : List Bn} (h : OBs d w P A l) (hb : Below w.heap.size w w') : OBs d w' P A l := h.fr (Fr.below (P := fun _ => False) hb) (fun _ _ h => h)
theorem OBs.more {d d' : Nat} {w : World} {P : Nat → Prop} {A : Option Addr} {l : List Bn} (h : OBs d w P A l) (hd : d ≤ d') : OBs d' w P A l := ⟨h.1, fun hl => by
  obtain ⟨g, cs, Q, e, hg, hh, hq, hc⟩ := h.2 hl
  refine ⟨g, cs, Q, e, hg, hh, hq, fun k hk => ?_⟩
  obtain ⟨A', cap, e0, e1, e2, e8, e9⟩ := hc k hk
  exact ⟨A', cap, e0, e1, e2, e8, e9.more hd⟩⟩
theorem OBs.reads {d : Nat} {w : World} {P : Nat → Prop} {A : Option Addr} {l : List Bn} (h : OBs (d + 1) w P A l) : RBs d w w.heap.size A l := ⟨h.1, fun k hk => by
  obtain ⟨g, cs, Q, e, hg, hh, hq, hc⟩ := h.2 (by omega)
  obtain ⟨A', cap, e0, e1, e2, e8, e9⟩ := hc k hk
  exact ⟨g, 0, e, heap_lt hh, A', cap, by rw [cell_of_blk hh, Nat.zero_add]; exact e0, by rw [cell_of_blk hh, Nat.zero_add]; exact e1, by rw [cell_of_blk hh, Nat.zero_add]; exact e2, by rw [cell_of_blk hh, Nat.zero_add]; exact e8, OVs.reads d e9⟩⟩
/-- The row of a list while it is made: k are there, each value with blocks of its own, from lo on. -/
def RowB (d : Nat) (w : World) (lo : Nat) (og : Option Nat) (Q : Nat → Nat → Prop) (l : List Bn) (xs : List Value) (k : Nat) : Prop := ∀ j (h : j < l.length), j < k → (∀ b, Q j b → lo ≤ b ∧ b < w.heap.size ∧ some b ≠ og ∧ ∀ i, i < k → i ≠ j → ¬ Q i b) ∧ ∃ A' cap, xs[j * 4]? = some (.int .i64 l[j].var) ∧ xs[j * 4 + 1]? = some (.int .i64 l[j].val.ctor) ∧ xs[j * 4 + 2]? = some (.int .i64 l[j].val.n) ∧ xs[j * 4 + 3]? = some (.slice A' l[j].val.kids.length cap) ∧ OVs d w (Q j) A' l[j].val.kids
theorem RowB.zero (d : Nat) (w : World) (lo : Nat) (og : Option Nat) (Q : Nat → Nat → Prop) (l : List Bn) (xs : List Value) : RowB d w lo og Q l xs 0 := fun j _ h => absurd h (by omega)
theorem RowB.fr {d : Nat} {w w' : World} {lo : Nat} {og : Option Nat} {Q : Nat → Nat → Prop} {l : List Bn} {xs : List Value} {k : Nat} {P' : Nat → Prop} (h : RowB d w lo og Q l xs k) (hf : Fr P' w w') (hp : ∀ b, lo ≤ b → some b ≠ og → b < w.heap.size → ¬ P' b) : RowB d w' lo og Q l xs k := fun j hj hjk => by
  obtain ⟨h1, A', cap, e0, e1, e2, e8, e9⟩ := h j hj hjk
  refine ⟨fun b hb => ?_, A', cap, e0, e1, e2, e8, e9.fr d hf (fun b hb => ?_)⟩
  · obtain ⟨a1, a2, a3, a4⟩ := h1 b hb
    exact ⟨a1, Nat.lt_of_lt_of_le a2 hf.size, a3, a4⟩
  · obtain ⟨a1, a2, a3, a4⟩ := h1 b hb
    exact hp b a1 a3 a2
/-- One more: its value's blocks are new. -/
theorem RowB.more {d : Nat} {w w' : World} {lo : Nat} {og : Option Nat} {Q : Nat → Nat → Prop} {l : List Bn} {xs xs' : List Value} {k cap : Nat} {A' : Option Addr} (h : RowB d w lo og Q l xs k) (hb : Below w.heap.size w w') (hk : k < l.length) (hlo : lo ≤ w.heap.size) (hog : ∀ g, og = some g → g < w.heap.size)
    (ho : OVs d w' (Nw w w') A' l[k].val.kids) (hx : ∀ j c, j < k → c < 4 → xs'[j * 4 + c]? = xs[j * 4 + c]?) (e0 : xs'[k * 4]? = some (.int .i64 l[k].var)) (e1 : xs'[k * 4 + 1]? = some (.int .i64 l[k].val.ctor)) (e2 : xs'[k * 4 + 2]? = some (.int .i64 l[k].val.n)) (e8 : xs'[k * 4 + 3]? = some (.slice A' l[k].val.kids.length cap)) :
    RowB d w' lo og (fun i => if i = k then Nw w w' else Q i) l xs' (k + 1) := by
  have h' := h.fr (P' := fun _ => False) (Fr.below hb) (fun _ _ _ _ h => h)
  intro j hj hjk
  by_cases e : j = k
  · subst e
    refine ⟨fun b hq => ?_, A', cap, e0, e1, e2, e8, ?_⟩
    · replace hq : (if j = j then Nw w w' else Q j) b := hq
      rw [if_pos rfl] at hq
      refine ⟨Nat.le_trans hlo hq.1, hq.2, fun e => ?_, fun i hi hij hqi => ?_⟩
      · have := hog b e.symm; have := hq.1; omega
      · replace hqi : (if i = j then Nw w w' else Q i) b := hqi
        rw [if_neg hij] at hqi
        have := ((h i (by omega) (by omega)).1 b hqi).2.1
        have := hq.1
        omega
    · show OVs d w' (if j = j then Nw w w' else Q j) A' l[j].val.kids
      rw [if_pos rfl]; exact ho
  · obtain ⟨h1, A2, c2, f0, f1, f2, f8, f9⟩ := h' j hj (by omega)
    refine ⟨fun b hq => ?_, A2, c2, (hx j 0 (by omega) (by omega)).trans f0, (hx j 1 (by omega) (by omega)).trans f1, (hx j 2 (by omega) (by omega)).trans f2, (hx j 3 (by omega) (by omega)).trans f8, ?_⟩
    · replace hq : (if j = k then Nw w w' else Q j) b := hq
      rw [if_neg e] at hq
      obtain ⟨a1, a2, a3, a4⟩ := h1 b hq
      refine ⟨a1, a2, a3, fun i hi hij hqi => ?_⟩
      replace hqi : (if i = k then Nw w w' else Q i) b := hqi
      by_cases e2 : i = k
      · rw [if_pos e2] at hqi
        have := ((h j hj (by omega)).1 b hq).2.1
        have := hqi.1
        omega
      · rw [if_neg e2] at hqi
        exact a4 i (by omega) hij hqi
    · show OVs d w' (if j = k then Nw w w' else Q j) A2 l[j].val.kids
      rw [if_neg e]; exact f9
theorem OBs.of_row {d : Nat} {w : World} {lo : Nat} {v : Value} {l : List Bn} {xs : List Value} {Q : Nat → Nat → Prop} (h : w.ownsRow lo 41 4 v l.length xs) (hx : RowB d w lo v.ownBlock Q l xs l.length) (hn : l.length ≤ 1048576) : ∃ A cap, v = .slice A l.length cap ∧ OBs d w (fun b => lo ≤ b ∧ b < w.heap.size) A l := by
  rcases h.2 with ⟨h', h0⟩ | ⟨g, cap, cur, h', hb, hg, hnc, hcm, hcs, htake⟩
  · refine ⟨none, 0, by rw [h0]; exact h', by unfold maxLen; omega, fun hl => absurd hl (by omega)⟩
  · subst h'
    refine ⟨_, cap, rfl, by unfold maxLen; omega, fun _ => ⟨g, cur, Q, rfl, ⟨hb, heap_lt hg⟩, hg, fun k b hk hq => ?_, fun k hk => ?_⟩⟩
    · obtain ⟨a1, a2, a3, a4⟩ := (hx k hk hk).1 b hq
      exact ⟨⟨a1, a2⟩, fun e => a3 (by rw [e]; rfl), a4⟩
    · obtain ⟨_, A', c', e0, e1, e2, e8, e9⟩ := hx k hk hk
      have hat : ∀ i, i < l.length * 4 → cur[i]? = xs[i]? := fun i hi => by
        rw [← htake, List.getElem?_take_of_lt hi, Array.getElem?_toList]
      exact ⟨A', c', (hat _ (by omega)).trans e0, (hat _ (by omega)).trans e1, (hat _ (by omega)).trans e2, (hat _ (by omega)).trans e8, e9⟩
end Go.Proofs.YthdnfnmglhifmaaGreat
