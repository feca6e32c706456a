/-
  The value of least depth of a type: plain mathematics. No statement is proved here.
-/
import Derived.Test.YteoopmogklpnoaaU17
import Derived.Test.YteoopmogklpnoaaU07
import Derived.Test.YteoopmogklpnoaaU00
import Derived.Maps.AppendAt
import Derived.OrdersHeld
import Derived.Deep.RegionHeld3
namespace Go.Proofs.Yteoopmogklpnoaa
open Go.RowKit
set_option maxRecDepth 100000
set_option linter.unusedVariables false
theorem inh_dk {l : List Da} {t : Ty} (h : Inh l t) : Dk (mkF l) (ldep l t).toNat t := by
  rcases ldep_is l t with ⟨_, h2⟩ | ⟨_, h2, _⟩
  · obtain ⟨_, k, hk⟩ := h; exact absurd hk (h2 k)
  · exact h2
/-- One more than the greatest least depth, or 0. -/
noncomputable def mdp (l : List Da) (L : List Ty) : Int := dpR (ldep l) (Inh l) L
theorem mxT_le {F : Ty → Int} {L : List Ty} {b : Int} (h0 : 0 ≤ b) (h : ∀ a ∈ L, F a ≤ b) : ∀ k, k ≤ L.length → mxT F L k ≤ b
  | 0, _ => h0
  | k + 1, hk => by
    rw [mxT_succ hk]
    have h1 := mxT_le h0 h k (by omega)
    have h2 := h _ (List.getElem_mem hk)
    omega
theorem mxT_ge {F : Ty → Int} {L : List Ty} : ∀ k, k ≤ L.length → ∀ j (hj : j < L.length), j < k → F L[j] ≤ mxT F L k
  | 0, _, _, _, h => absurd h (Nat.not_lt_zero _)
  | k + 1, hk, j, hj, hjk => by
    rw [mxT_succ hk]
    by_cases e : j = k
    · subst e; omega
    · have := mxT_ge (F := F) k (by omega) j hj (by omega); omega
theorem mdp_no {l : List Da} {L : List Ty} (h : ¬ ∀ a ∈ L, Inh l a) : mdp l L = 0 := dpR_no h
theorem mdp_yes {l : List Da} {L : List Ty} (h : ∀ a ∈ L, Inh l a) : mdp l L = mxT (ldep l) L L.length + 1 := dpR_yes h
theorem mdp_pos {l : List Da} {L : List Ty} (h : 0 < mdp l L) : ∀ a ∈ L, Inh l a ∧ ldep l a < mdp l L := by
  by_cases hi : ∀ a ∈ L, Inh l a
  · intro a ha
    refine ⟨hi a ha, ?_⟩
    rw [mdp_yes hi]
    obtain ⟨j, hj, rfl⟩ := List.getElem_of_mem ha
    have := mxT_ge (F := ldep l) L.length (Nat.le_refl _) j hj hj
    omega
  · rw [mdp_no hi] at h; omega
theorem least_ctor {l : List Da} {t : Ty} (hok : TyOK l t) (hd : ¬ t.data = -1) (h : Inh l t) : ∃ x ∈ ctR l t, mdp l (agR l t x) = ldep l t := by
  have h1 := inh_dk h
  have hp := ldep_yes h
  obtain ⟨m, hm⟩ : ∃ m : Nat, (ldep l t).toNat = m + 1 := ⟨(ldep l t).toNat - 1, by omega⟩
  rw [hm] at h1
  have h1' : mkF l (Dk (mkF l) m) t := h1
  obtain ⟨x, hx, ha⟩ := (mkF_iff hok hd).1 h1'
  have hin : ∀ a ∈ agR l t x, a ∈ tysN l.length := fun a ha => ok_tys (agR_ok hx a ha)
  have hall : ∀ a ∈ agR l t x, Inh l a := fun a h' => ⟨hin a h', m, ha a h'⟩
  refine ⟨x, hx, ?_⟩
  rw [mdp_yes hall]
  have hle := mxT_le (F := ldep l) (L := agR l t x) (b := m) (by omega) (fun a h' => ldep_le (ha a h')) _ (Nat.le_refl _)
  have hge := mxT_ge (F := ldep l) (L := agR l t x) _ (Nat.le_refl _)
  have h0 := mxT_nonneg (ldep l) (agR l t x) (agR l t x).length
  generalize mxT (ldep l) (agR l t x) (agR l t x).length = M at hle hge h0
  have hdk : Dk (mkF l) (M.toNat + 1) t := by
    refine (mkF_iff hok hd).2 ⟨x, hx, fun a h' => ?_⟩
    obtain ⟨j, hj, rfl⟩ := List.getElem_of_mem h'
    have h2 := hge j hj hj
    have h3 := inh_dk (hall _ h')
    have h4 := ldep_nonneg l (agR l t x)[j]
    exact Dk_up_le (by omega) _ h3
  have := ldep_le hdk
  omega
/-- The first constructor that makes a value of least depth. -/
noncomputable def fstC (l : List Da) (t : Ty) : Option Int := (ctR l t).find? (fun x => decide (mdp l (agR l t x) = ldep l t))
theorem fstC_some {l : List Da} {t : Ty} (hok : TyOK l t) (hd : ¬ t.data = -1) (h : Inh l t) : ∃ x, fstC l t = some x ∧ x ∈ ctR l t ∧ mdp l (agR l t x) = ldep l t := by
  obtain ⟨x, hx, he⟩ := least_ctor hok hd h
  unfold fstC
  cases hf : (ctR l t).find? (fun x => decide (mdp l (agR l t x) = ldep l t)) with
  | none =>
    have := List.find?_eq_none.1 hf x hx
    simp only [he, decide_true] at this
    exact absurd trivial this
  | some y =>
    exact ⟨y, rfl, List.mem_of_find?_eq_some hf, by simpa using List.find?_some hf⟩
/-- None of the first k constructors does. -/
def NoC (l : List Da) (t : Ty) (k : Nat) : Prop := ∀ j (h : j < (ctR l t).length), j < k → ¬ mdp l (agR l t (ctR l t)[j]) = ldep l t
theorem NoC.zero (l : List Da) (t : Ty) : NoC l t 0 := fun j _ h => absurd h (Nat.not_lt_zero _)
theorem NoC.step {l : List Da} {t : Ty} {k : Nat} (h : NoC l t k) (hk : k < (ctR l t).length) (e : ¬ mdp l (agR l t (ctR l t)[k]) = ldep l t) : NoC l t (k + 1) := fun j hj hjk => by
  by_cases e' : j = k
  · subst e'; exact e
  · exact h j hj (by omega)
theorem NoC.found {l : List Da} {t : Ty} {k : Nat} (h : NoC l t k) (hk : k < (ctR l t).length) (e : mdp l (agR l t (ctR l t)[k]) = ldep l t) : fstC l t = some (ctR l t)[k] := by
  unfold fstC
  rw [List.find?_eq_some_iff_getElem]
  exact ⟨by simpa using e, k, hk, rfl, fun j hj => by simpa using h j (by omega) hj⟩
theorem NoC.all {l : List Da} {t : Ty} {k : Nat} (h : NoC l t k) (hok : TyOK l t) (hd : ¬ t.data = -1) (hi : Inh l t) : k < (ctR l t).length := by
  obtain ⟨x, hx, he⟩ := least_ctor hok hd hi
  obtain ⟨j, hj, rfl⟩ := List.getElem_of_mem hx
  by_cases e : k < (ctR l t).length
  · exact e
  · exact absurd he (h j hj (by omega))
/-- The value of least depth. -/
noncomputable def lvA (l : List Da) : Nat → Ty → Vl
  | 0, _ => .mk 0 0 []
  | n + 1, t => if t.data = -1 then .mk (-1) 0 [] else match fstC l t with
    | some x => .mk x 0 ((agR l t x).map (lvA l n))
    | none => .mk 0 0 []
theorem lvA_int {l : List Da} {n : Nat} {t : Ty} (h : t.data = -1) : lvA l (n + 1) t = .mk (-1) 0 [] := by rw [lvA, if_pos h]
theorem lvA_data {l : List Da} {n : Nat} {t : Ty} {x : Int} (h : ¬ t.data = -1) (hx : fstC l t = some x) : lvA l (n + 1) t = .mk x 0 ((agR l t x).map (lvA l n)) := by rw [lvA, if_neg h, hx]
theorem lvA_w (l : List Da) : ∀ n t, 2 + wV (lvA l n t) ≤ 2 * 3 ^ n
  | 0, t => by rw [lvA, wV, wVs]; omega
  | n + 1, t => by
    have h3 : 1 ≤ 3 ^ n := Nat.one_le_pow _ _ (by omega)
    have h3' : 2 ≤ 2 * 3 ^ n := by omega
    have hp : 2 * 3 ^ (n + 1) = 3 * (2 * 3 ^ n) := by rw [Nat.pow_succ]; omega
    rw [lvA]
    split
    · rw [wV, wVs]; omega
    · split
      · rename_i x _
        rw [wV, wVs_sum, List.map_map, List.length_map]
        have hl := agR_len l t x
        obtain ⟨E, hE⟩ : ∃ E, E = 2 * 3 ^ n := ⟨_, rfl⟩
        have hs : ∀ L : List Ty, (L.map (wV ∘ lvA l n)).sum + 2 * L.length ≤ L.length * E := fun L => by
          induction L with
          | nil => simp
          | cons a L ih =>
            have := lvA_w l n a
            rw [← hE] at this
            simp only [List.map_cons, List.sum_cons, List.length_cons, Function.comp_apply, Nat.add_mul, Nat.one_mul]
            omega
        have h1 := hs (agR l t x)
        rw [hp, ← hE]
        rw [← hE] at h3'
        rcases (show (agR l t x).length = 0 ∨ (agR l t x).length = 1 ∨ (agR l t x).length = 2 ∨ (agR l t x).length = 3 by omega) with e | e | e | e <;> rw [e] at h1 ⊢ <;> omega
      · rw [wV, wVs]; omega
end Go.Proofs.Yteoopmogklpnoaa
/-
  Worlds that differ only in some blocks. No statement is proved here.
-/
namespace Go.Proofs.Yteoopmogklpnoaa
open Go.RowKit
set_option maxRecDepth 100000
set_option linter.unusedVariables false
/-- Only blocks of P have turned, and blocks that are new. -/
def Fr (P : Nat → Prop) (w w' : World) : Prop := w'.os = w.os ∧ w'.tape = w.tape ∧ w'.output = w.output ∧ w.heap.size ≤ w'.heap.size ∧ ∀ b, b < w.heap.size → ¬ P b → w'.heap[b]? = w.heap[b]?
theorem Fr.refl (P : Nat → Prop) (w : World) : Fr P w w := ⟨rfl, rfl, rfl, Nat.le_refl _, fun _ _ _ => rfl⟩
theorem Fr.size {P : Nat → Prop} {w w' : World} (h : Fr P w w') : w.heap.size ≤ w'.heap.size := h.2.2.2.1
theorem Fr.trans {P : Nat → Prop} {a b c : World} (h : Fr P a b) (h' : Fr P b c) : Fr P a c :=
  ⟨h'.1.trans h.1, h'.2.1.trans h.2.1, h'.2.2.1.trans h.2.2.1, Nat.le_trans h.size h'.size, fun x hx hp => (h'.2.2.2.2 x (Nat.lt_of_lt_of_le hx h.size) hp).trans (h.2.2.2.2 x hx hp)⟩
theorem Fr.wide {P P' : Nat → Prop} {w w' : World} (h : Fr P w w') (hp : ∀ b, P b → P' b) : Fr P' w w' :=
  ⟨h.1, h.2.1, h.2.2.1, h.size, fun x hx hq => h.2.2.2.2 x hx (fun h' => hq (hp x h'))⟩
theorem Fr.block {P : Nat → Prop} {w w' : World} (h : Fr P w w') {b : Nat} {o : Obj} (hb : w.heap[b]? = some o) (hp : ¬ P b) : w'.heap[b]? = some o := (h.2.2.2.2 b (heap_lt hb) hp).trans hb
theorem Fr.below {P : Nat → Prop} {w w' : World} (h : Below w.heap.size w w') : Fr P w w' := ⟨h.os, h.tape, h.output, h.size, fun b hb _ => h.block b hb⟩
theorem Fr.to {P : Nat → Prop} {w w' : World} {B : Nat} (h : Fr P w w') (hB : B ≤ w.heap.size) (hp : ∀ b, b < B → ¬ P b) : Below B w w' :=
  ⟨h.1, h.2.1, h.2.2.1, h.size, fun b hb => h.2.2.2.2 b (Nat.lt_of_lt_of_le hb hB) (hp b hb)⟩
theorem Fr.set {P : Nat → Prop} (w : World) (g i : Nat) (u : Value) (hp : P g) : Fr P w (w.setCell ⟨g, i, none⟩ u) := by
  have h := (Below.refl 0 w).setCell (p := ⟨g, i, none⟩) (Nat.zero_le _) u
  exact ⟨h.os, h.tape, h.output, h.size, fun b _ hb => Below.heap_setCell w ⟨g, i, none⟩ u b (fun e => hb (e ▸ hp))⟩
theorem Fr.grown {P : Nat → Prop} {w w' : World} {row : Option Nat} (h : w.grownBy w' row) (hp : ∀ b, some b = row → P b) : Fr P w w' :=
  ⟨h.os, h.tape, h.output, h.size, fun b hb hq => h.block b hb (fun e => hq (hp b e))⟩
theorem Fr.kept {lo hi : Nat} {w w' : World} (h : Kept lo hi w w') : Fr (fun b => lo ≤ b ∧ b < hi) w w' := by
  refine ⟨h.1.os, h.1.tape, h.1.output, h.1.size, fun b hb hq => ?_⟩
  by_cases e : b < lo
  · exact h.1.block b e
  · exact h.2.1 b (by have : ¬ b < hi := fun h' => hq ⟨by omega, h'⟩; omega) hb
/-- The blocks that are new between two worlds. -/
def Nw (w w' : World) : Nat → Prop := fun b => w.heap.size ≤ b ∧ b < w'.heap.size
end Go.Proofs.Yteoopmogklpnoaa
/-
  An append to a row of the call's own, as one operation of a region. No statement is proved here.
-/
namespace Go.Proofs.Yteoopmogklpnoaa
open Go.RowKit
set_option maxRecDepth 100000
set_option linter.unusedVariables false
theorem wp_append_own {P : Program} {o : Oper} {a : Act} {w : World} {K : Act → World → Prop} {Q : Exit → Act → World → Prop} (s x : Operand) (t : TypeId)
    (ho : o.op = .call { callee := .builtin .append, args := #[s, x], argTypes := #[t, t] })
    (base : Nat) (e : TypeId) (i : TypeInfo) (z : Value) (size bytes : Nat) (ht : P.underlying t = some (.slice e)) (hi : P.info? e = some i) (hz : i.zero = some z)
    (hsize : i.size = size) (hby : i.bytes = bytes) (hzs : z.cells.size = size) (hsz : 0 < size)
    (v : Value) (n : Nat) (xs : List Value) (hs : a.eval s = v) (hown : w.ownsRow base e size v n xs)
    (ad : Addr) (m c : Nat) (news : List Value) (hx : a.eval x = .slice (some ad) m c) (hl : news.length = m * size) (hnews : ∀ j u, news[j]? = some u → w.cell? (ad.add j) = some u) (h1 : ∀ u ∈ news, u.oneCell' = true)
    (h63 : n + m ≤ maxLen) (hbytes : (n + m) * bytes ≤ 140737488355328) (hbase : base ≤ w.heap.size)
    (h : ∀ v' w', w'.ownsRow base e size v' (n + m) (xs ++ news) → w.grownBy w' v.ownBlock → (v'.ownBlock = v.ownBlock ∨ v'.ownBlock = some w.heap.size) → K (a.put o.dst v') w') : o.wp P a w K Q := by
  obtain ⟨v', w', hr, h2, h3, _, h5⟩ := run_append_own_at (P := P) w base t o.type e i z size bytes ht hi hz hsize hby hzs hsz v n xs hown ad m c news hl hnews h1 h63 hbytes hbase
  unfold Oper.wp execOp
  simp only [ho, resolve, invoke, builtin, Sem.run_bind, Sem.run_pure, Result.andThen_ok, List.map_toArray, List.map_cons, List.map_nil, hs, hx, hr]
  exact h v' w' h2 h3 h5
theorem own_at {w w' : World} {base : Nat} {e : TypeId} {size n : Nat} {v : Value} {xs : List Value} (h : w.ownsRow base e size v n xs) (hk : ∀ b, v.ownBlock = some b → w'.heap[b]? = w.heap[b]?) : w'.ownsRow base e size v n xs := by
  refine ⟨h.1, ?_⟩
  rcases h.2 with h0 | ⟨g, cap, cur, a1, a2, a3, a4⟩
  · exact .inl h0
  · exact .inr ⟨g, cap, cur, a1, a2, (hk g (by rw [a1]; rfl)).trans a3, a4⟩
theorem own_form {w : World} {base : Nat} {e : TypeId} {size n : Nat} {v : Value} {xs : List Value} (h : w.ownsRow base e size v n xs) : ∃ A c, v = .slice A n c ∧ ∀ b, v.ownBlock = some b → base ≤ b ∧ b < w.heap.size := by
  rcases h.2 with ⟨rfl, rfl⟩ | ⟨g, cap, cur, rfl, a2, a3, a4⟩
  · exact ⟨none, 0, rfl, fun b e => by cases e⟩
  · exact ⟨_, _, rfl, fun b e => by injection e with e; subst e; exact ⟨a2, heap_lt a3⟩⟩
end Go.Proofs.Yteoopmogklpnoaa
/-
  A region whose last operation waits for all others: a condition on the world that holds until that one comes up. No statement is proved here.
-/
namespace Go.Proofs.Yteoopmogklpnoaa
open Go
set_option linter.unusedVariables false
section
variable {P : Program} {ops : Array Oper} {Q : Exit → Act → World → Prop} {md : Region.Mode} {S : World → Prop} {z : Nat}
/-- Whatever comes up next, the condition holds behind it, unless it is number z; and so on. -/
def Till (P : Program) (md : Region.Mode) (ops : Array Oper) (Q : Exit → Act → World → Prop) (S : World → Prop) (z : Nat) : Nat → Array Bool → Act → World → Prop
  | 0, ls, a, w => Region.ready md ops ls = [] ∧ Q .normal a w
  | n + 1, ls, a, w => (Region.ready md ops ls = [] → Q .normal a w) ∧ ∀ i ∈ Region.ready md ops ls, wpOp P ops Q i (fun b v => (i ≠ z → S v) ∧ Till P md ops Q S z n (ls.setIfInBounds i true) b v) a w
theorem Till.any : ∀ (n : Nat) (ls : Array Bool) (a : Act) (w : World), Till P md ops Q S z n ls a w → wpAny P md ops Q n ls a w
  | 0, _, _, _, h => h
  | n + 1, ls, a, w, h => ⟨h.1, fun i hi => wpOp_mono (fun b v hv => Till.any n _ b v hv.2) (h.2 i hi)⟩
/-- Does number z wait for number i? -/
def waitB (md : Region.Mode) (ops : Array Oper) (z i : Nat) : Bool := match ops[z]? with
  | some o => o.after.any fun e => Region.binds md e && e.on == i
  | none => true
theorem wait_not {i : Nat} {ls : Array Bool} (h : waitB md ops z i = true) (hi : i ∈ Region.ready md ops ls) : ¬ z ∈ Region.ready md ops ls := fun hz => by
  obtain ⟨_, o, ho, hall⟩ := mem_ready.1 hz
  obtain ⟨hun, oi, hoi, _⟩ := mem_ready.1 hi
  unfold waitB at h
  rw [ho] at h
  simp only at h
  obtain ⟨e, he, hb⟩ := Array.any_eq_true'.1 h
  simp only [Bool.and_eq_true, beq_iff_eq] at hb
  have h1 := hall e he hb.1
  rw [hb.2] at h1
  rcases Nat.lt_or_ge i ls.size with hlt | hge
  · simp [hlt] at hun h1; rw [hun] at h1; cases h1
  · simp [Array.getElem?_eq_none hge] at h1
theorem Till.first {i : Nat} {oi : Oper} {v : Value} (hi : ops[i]? = some oi) (hs : Region.noSelect ops = true) (hQ : ∀ c a w, Q (.panic c) (a.put oi.dst v) w → Q (.panic c) a w) (hw : waitB md ops z i = true) :
    ∀ (n : Nat) (ls : Array Bool) (a : Act) (w : World), (∀ j oj, ops[j]? = some oj → j ≠ i → ls.getD j true = false → (∀ e ∈ oj.after, Region.binds md e = true → e.on ≠ i) → oi.apart ops oj = true) →
      i ∈ Region.ready md ops ls → i ≠ z → YieldsIf P ops S oi v a → S w → Till P md ops Q S z n (ls.setIfInBounds i true) (a.put oi.dst v) w → Till P md ops Q S z (n + 1) ls a w := by
  intro n
  have hsel := Region.noSelect_spec hs
  induction n with
  | zero =>
    intro ls a w _ hr hz hy hS H
    refine ⟨fun h => (by rw [h] at hr; cases hr), fun j hj => ?_⟩
    by_cases e : j = i
    · subst e; exact hy.wpOp hi hS ⟨fun _ => hS, H⟩
    · have := ready_mono hj e
      rw [H.1] at this
      cases this
  | succ n ih =>
    intro ls a w hfree hr hz hy hS H
    refine ⟨fun h => (by rw [h] at hr; cases hr), fun j hj => ?_⟩
    by_cases e : j = i
    · subst e; exact hy.wpOp hi hS ⟨fun _ => hS, H⟩
    · have hjz : j ≠ z := fun ez => wait_not hw hr (ez ▸ hj)
      have h1 := H.2 j (ready_mono hj e)
      obtain ⟨hun, oj, hoj, hall⟩ := mem_ready.1 hj
      have hno : ∀ d ∈ oj.after, Region.binds md d = true → d.on ≠ i := fun d hd hb heq => by
        have h2 := hall d hd hb
        have h3 := (mem_ready.1 hr).1
        rw [heq] at h2
        rcases Nat.lt_or_ge i ls.size with hlt | hge
        · simp [hlt] at h3 h2; rw [h3] at h2; cases h2
        · simp [Array.getElem?_eq_none hge] at h2
      have h2 := wpOp_putIf hoj (hfree j oj hoj e hun hno) (fun cs b => hsel i oi cs b hi) (fun cs b => hsel j oj cs b hoj) hQ hy h1
      refine wpOp_mono (fun b v h3 => ⟨fun _ => h3.2.1 hjz, ih (ls.setIfInBounds j true) b v ?_ (ready_mono hr (Ne.symm e)) hz h3.1 (h3.2.1 hjz) ?_⟩) h2
      · intro k ok hk hki huk hnk
        refine hfree k ok hk hki ?_ hnk
        by_cases ek : j = k
        · subst ek; exact hun
        · rw [getD_set_ne true ek] at huk; exact huk
      · rw [Array.setIfInBounds_comm _ _ e]
        exact h3.2.2
theorem Till.take {i : Nat} {oi : Oper} {v : Value} {n : Nat} {ls : Array Bool} {a : Act} {w : World} (hi : ops[i]? = some oi) (hs : Region.noSelect ops = true) (hf : Region.free md ops ls i = true)
    (hr : (Region.ready md ops ls).contains i = true) (hw : (waitB md ops z i && i != z) = true) (hQ : ∀ c a w, Q (.panic c) (a.put oi.dst v) w → Q (.panic c) a w) (hS : S w) (hy : YieldsIf P ops S oi v a)
    (h : Till P md ops Q S z n (ls.setIfInBounds i true) (a.put oi.dst v) w) : Till P md ops Q S z (n + 1) ls a w := by
  rw [Bool.and_eq_true, bne_iff_ne] at hw
  exact Till.first hi hs hQ hw.1 n ls a w (Region.free_spec hi hf) (by simpa using hr) hw.2 hy hS h
theorem Till.take_ {i : Nat} {oi : Oper} {d : Option Tmp} {v : Value} {n : Nat} {ls ls' : Array Bool} {a : Act} {w : World} (hi : ops[i]? = some oi) (hd : ops[i]?.map (fun o => o.dst) = some d) (hs : Region.noSelect ops = true) (hf : Region.free md ops ls i = true)
    (hr : (Region.ready md ops ls).contains i = true) (hw : (waitB md ops z i && i != z) = true) (hQ : ∀ c a w, Q (.panic c) (a.put d v) w → Q (.panic c) a w) (hS : S w) (hy : YieldsIf P ops S oi v a) (hl : ls.setIfInBounds i true = ls')
    (h : Till P md ops Q S z n ls' (a.put d v) w) : Till P md ops Q S z (n + 1) ls a w := by
  have e : oi.dst = d := by rw [hi] at hd; injection hd
  subst e hl
  exact Till.take hi hs hf hr hw hQ hS hy h
/-- One operation comes up. -/
theorem Till.step {i : Nat} {o : Oper} {n : Nat} {ls : Array Bool} {a : Act} {w : World} (ho : ops[i]? = some o) (hw : Region.wanted o (yielded ops a.tmps) = true)
    (h : ∀ K : Act → World → Prop, (∀ b v, (i ≠ z → S v) → Till P md ops Q S z n (ls.setIfInBounds i true) b v → K b v) → o.wp P a w K Q) :
    wpOp P ops Q i (fun b v => (i ≠ z → S v) ∧ Till P md ops Q S z n (ls.setIfInBounds i true) b v) a w := by
  unfold wpOp
  simp only [ho, hw, if_true]
  exact .inl (h _ fun b v h1 h2 => ⟨h1, h2⟩)
theorem Till.all {rs : List Nat} {n : Nat} {ls : Array Bool} {a : Act} {w : World} (hr : Region.ready md ops ls = rs) (hne : rs ≠ [])
    (h : ∀ i ∈ rs, wpOp P ops Q i (fun b v => (i ≠ z → S v) ∧ Till P md ops Q S z n (ls.setIfInBounds i true) b v) a w) : Till P md ops Q S z (n + 1) ls a w :=
  ⟨fun h0 => absurd (hr ▸ h0) hne, hr ▸ h⟩
theorem Till.done {ls : Array Bool} {a : Act} {w : World} (hr : Region.ready md ops ls = []) (h : Q .normal a w) : ∀ n, Till P md ops Q S z n ls a w
  | 0 => ⟨hr, h⟩
  | _ + 1 => ⟨fun _ => h, by rw [hr]; simp⟩
theorem Till.start {id : Nat} {a : Act} {w : World} (hm : P.follows .mixedOrders = true) (h : Till P .any ops Q S z ops.size (Array.replicate ops.size false) a w.drew) : (Code.region id ops true).wp P Q a w :=
  wp_region_any hm (Till.any _ _ _ _ h)
end
end Go.Proofs.Yteoopmogklpnoaa
