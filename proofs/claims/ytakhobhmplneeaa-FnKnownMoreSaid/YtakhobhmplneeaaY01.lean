/-
  Vl trees in blocks of their own: no part has a block of another part. No statement is proved here.
-/
import Derived.Test.YtakhobhmplneeaaY00
import Derived.Maps.AppendAt
import Derived.OrdersHeld
import Derived.Deep.RegionHeld3
namespace Go.Proofs.Ytakhobhmplneeaa
open Go.RowKit
set_option maxRecDepth 100000
set_option linter.unusedVariables false
/-- Trees in blocks of P; no part has a block of another part. -/
def OVc : Nat → World → (Nat → Prop) → Option Addr → List Vl → Prop
  | 0, _, _, _, _ => False
  | d + 1, w, P, A, l => l.length ≤ maxLen ∧ (0 < l.length → ∃ (g : Nat) (cs : Array Value) (Q : Nat → Nat → Prop), A = some ⟨g, 0, none⟩ ∧ P g ∧ w.heap[g]? = some (.cells cs 28 (0, 0)) ∧ (∀ k b, k < l.length → Q k b → P b ∧ b ≠ g ∧ ∀ j, j < l.length → j ≠ k → ¬ Q j b) ∧ ∀ k (h : k < l.length), ∃ A' cap, cs[k * 3]? = some (.int .i64 l[k].ctor) ∧ cs[k * 3 + 1]? = some (.int .i64 l[k].n) ∧ (cs[k * 3 + 2]? = some (.slice A' l[k].kids.length cap) ∧ l[k].kids.length ≤ cap ∧ cap ≤ maxLen) ∧ OVc d w (Q k) A' l[k].kids)
def OVpc (d : Nat) (w : World) (P : Nat → Prop) (g : Nat) (cs : Array Value) (Q : Nat → Nat → Prop) (l : List Vl) : Prop := P g ∧ w.heap[g]? = some (.cells cs 28 (0, 0)) ∧ (∀ k b, k < l.length → Q k b → P b ∧ b ≠ g ∧ ∀ j, j < l.length → j ≠ k → ¬ Q j b) ∧ ∀ k (h : k < l.length), ∃ A' cap, cs[k * 3]? = some (.int .i64 l[k].ctor) ∧ cs[k * 3 + 1]? = some (.int .i64 l[k].n) ∧ (cs[k * 3 + 2]? = some (.slice A' l[k].kids.length cap) ∧ l[k].kids.length ≤ cap ∧ cap ≤ maxLen) ∧ OVc d w (Q k) A' l[k].kids
theorem OVc.parts {d : Nat} {w : World} {P : Nat → Prop} {A : Option Addr} {l : List Vl} (h : OVc d w P A l) : ∃ d', d = d' + 1 ∧ l.length ≤ maxLen ∧ (0 < l.length → ∃ g cs Q, A = some ⟨g, 0, none⟩ ∧ OVpc d' w P g cs Q l) := by
  cases d with
  | zero => exact h.elim
  | succ d => exact ⟨d, rfl, h⟩
theorem OVc.mk {d : Nat} {w : World} {P : Nat → Prop} {A : Option Addr} {l : List Vl} (hl : l.length ≤ maxLen) (h : 0 < l.length → ∃ g cs Q, A = some ⟨g, 0, none⟩ ∧ OVpc d w P g cs Q l) : OVc (d + 1) w P A l := ⟨hl, h⟩
theorem OVc.nil (d : Nat) (w : World) (P : Nat → Prop) (A : Option Addr) : OVc (d + 1) w P A [] := ⟨Nat.zero_le _, fun h => absurd h (Nat.not_lt_zero _)⟩
theorem OVc.wide : ∀ (d : Nat) {w : World} {P P' : Nat → Prop} {A : Option Addr} {l : List Vl}, OVc d w P A l → (∀ b, P b → P' b) → OVc d w P' A l
  | 0, _, _, _, _, _, h, _ => h.elim
  | d + 1, _, _, _, _, _, ⟨h1, h2⟩, hp => ⟨h1, fun hl => by
    obtain ⟨g, cs, Q, e, hg, hh, hq, hc⟩ := h2 hl
    exact ⟨g, cs, Q, e, hp g hg, hh, fun k b hk hb => ⟨hp b (hq k b hk hb).1, (hq k b hk hb).2⟩, hc⟩⟩
theorem OVc.fr : ∀ (d : Nat) {w w' : World} {P P' : Nat → Prop} {A : Option Addr} {l : List Vl}, OVc d w P A l → Fr P' w w' → (∀ b, P b → ¬ P' b) → OVc d w' P A l
  | 0, _, _, _, _, _, _, h, _, _ => h.elim
  | d + 1, _, _, _, _, _, _, ⟨h1, h2⟩, hf, hp => ⟨h1, fun hl => by
    obtain ⟨g, cs, Q, e, hg, hh, hq, hc⟩ := h2 hl
    refine ⟨g, cs, Q, e, hg, hf.block hh (hp g hg), hq, fun k hk => ?_⟩
    obtain ⟨A', cap, e0, e1, e8, e9⟩ := hc k hk
    exact ⟨A', cap, e0, e1, e8, OVc.fr d e9 hf (fun b hb => hp b (hq k b hk hb).1)⟩⟩
theorem OVc.up : ∀ (d : Nat) {w : World} {P : Nat → Prop} {A : Option Addr} {l : List Vl}, OVc d w P A l → OVc (d + 1) w P A l
  | 0, _, _, _, _, h => h.elim
  | d + 1, _, _, _, _, ⟨h1, h2⟩ => ⟨h1, fun hl => by
    obtain ⟨g, cs, Q, e, hg, hh, hq, hc⟩ := h2 hl
    refine ⟨g, cs, Q, e, hg, hh, hq, fun k hk => ?_⟩
    obtain ⟨A', cap, e0, e1, e8, e9⟩ := hc k hk
    exact ⟨A', cap, e0, e1, e8, OVc.up d e9⟩⟩
theorem OVc.more {d d' : Nat} {w : World} {P : Nat → Prop} {A : Option Addr} {l : List Vl} (h : OVc d w P A l) (hd : d ≤ d') : OVc d' w P A l := by
  obtain ⟨e, rfl⟩ := Nat.exists_eq_add_of_le hd
  clear hd
  induction e with
  | zero => exact h
  | succ e ih => exact OVc.up _ ih
theorem OVc.reads : ∀ (d : Nat) {w : World} {P : Nat → Prop} {A : Option Addr} {l : List Vl}, OVc (d + 1) w P A l → RVs d w w.heap.size A l
  | d, w, P, A, l, ⟨h1, h2⟩ => ⟨h1, fun k hk => by
    obtain ⟨g, cs, Q, e, hg, hh, hq, hc⟩ := h2 (by omega)
    obtain ⟨A', cap, e0, e1, e8, e9⟩ := hc k hk
    refine ⟨g, 0, e, heap_lt hh, ?_⟩
    cases d with
    | zero => exact e9.elim
    | succ d =>
      obtain ⟨q1, q2⟩ := OVc.reads d e9
      exact ⟨A', cap, by rw [cell_of_blk hh, Nat.zero_add]; exact e0, by rw [cell_of_blk hh, Nat.zero_add]; exact e1, by rw [cell_of_blk hh, Nat.zero_add]; exact e8.1, q1, q2⟩⟩
/-- The row of a list while it is made: k parts are there, each with blocks of its own, from lo on. -/
def RowVc (d : Nat) (w : World) (lo : Nat) (og : Option Nat) (Q : Nat → Nat → Prop) (l : List Vl) (xs : List Value) (k : Nat) : Prop := ∀ j (h : j < l.length), j < k → (∀ b, Q j b → lo ≤ b ∧ b < w.heap.size ∧ some b ≠ og ∧ ∀ i, i < k → i ≠ j → ¬ Q i b) ∧ ∃ A' cap, xs[j * 3]? = some (.int .i64 l[j].ctor) ∧ xs[j * 3 + 1]? = some (.int .i64 l[j].n) ∧ (xs[j * 3 + 2]? = some (.slice A' l[j].kids.length cap) ∧ l[j].kids.length ≤ cap ∧ cap ≤ maxLen) ∧ OVc d w (Q j) A' l[j].kids
theorem RowVc.zero (d : Nat) (w : World) (lo : Nat) (og : Option Nat) (Q : Nat → Nat → Prop) (l : List Vl) (xs : List Value) : RowVc d w lo og Q l xs 0 := fun j _ h => absurd h (by omega)
theorem RowVc.fr {d : Nat} {w w' : World} {lo : Nat} {og : Option Nat} {Q : Nat → Nat → Prop} {l : List Vl} {xs : List Value} {k : Nat} {P' : Nat → Prop} (h : RowVc d w lo og Q l xs k) (hf : Fr P' w w') (hp : ∀ b, lo ≤ b → some b ≠ og → b < w.heap.size → ¬ P' b) : RowVc d w' lo og Q l xs k := fun j hj hjk => by
  obtain ⟨h1, A', cap, e0, e1, e8, e9⟩ := h j hj hjk
  refine ⟨fun b hb => ?_, A', cap, e0, e1, e8, e9.fr d hf (fun b hb => ?_)⟩
  · obtain ⟨a1, a2, a3, a4⟩ := h1 b hb
    exact ⟨a1, Nat.lt_of_lt_of_le a2 hf.size, a3, a4⟩
  · obtain ⟨a1, a2, a3, a4⟩ := h1 b hb
    exact hp b a1 a3 a2
/-- One part more: its blocks are new. -/
theorem RowVc.more {d : Nat} {w w' : World} {lo : Nat} {og : Option Nat} {Q : Nat → Nat → Prop} {l : List Vl} {xs xs' : List Value} {k cap : Nat} {A' : Option Addr} (h : RowVc d w lo og Q l xs k) (hb : Below w.heap.size w w') (hk : k < l.length) (hlo : lo ≤ w.heap.size) (hog : ∀ g, og = some g → g < w.heap.size)
    (ho : OVc d w' (Nw w w') A' l[k].kids) (hx : ∀ j c, j < k → c < 3 → xs'[j * 3 + c]? = xs[j * 3 + c]?) (e0 : xs'[k * 3]? = some (.int .i64 l[k].ctor)) (e1 : xs'[k * 3 + 1]? = some (.int .i64 l[k].n)) (e8 : xs'[k * 3 + 2]? = some (.slice A' l[k].kids.length cap) ∧ l[k].kids.length ≤ cap ∧ cap ≤ maxLen) :
    RowVc d w' lo og (fun i => if i = k then Nw w w' else Q i) l xs' (k + 1) := by
  have h' := h.fr (P' := fun _ => False) (Fr.below hb) (fun _ _ _ _ h => h)
  intro j hj hjk
  by_cases e : j = k
  · subst e
    refine ⟨fun b hq => ?_, A', cap, e0, e1, e8, ?_⟩
    · replace hq : (if j = j then Nw w w' else Q j) b := hq
      rw [if_pos rfl] at hq
      refine ⟨Nat.le_trans hlo hq.1, hq.2, fun e => ?_, fun i hi hij hqi => ?_⟩
      · have := hog b e.symm; have := hq.1; omega
      · replace hqi : (if i = j then Nw w w' else Q i) b := hqi
        rw [if_neg hij] at hqi
        have := ((h i (by omega) (by omega)).1 b hqi).2.1
        have := hq.1
        omega
    · show OVc d w' (if j = j then Nw w w' else Q j) A' l[j].kids
      rw [if_pos rfl]; exact ho
  · obtain ⟨h1, A2, c2, f0, f1, f8, f9⟩ := h' j hj (by omega)
    refine ⟨fun b hq => ?_, A2, c2, (hx j 0 (by omega) (by omega)).trans f0, (hx j 1 (by omega) (by omega)).trans f1, ⟨(hx j 2 (by omega) (by omega)).trans f8.1, f8.2⟩, ?_⟩
    · replace hq : (if j = k then Nw w w' else Q j) b := hq
      rw [if_neg e] at hq
      obtain ⟨a1, a2, a3, a4⟩ := h1 b hq
      refine ⟨a1, a2, a3, fun i hi hij hqi => ?_⟩
      replace hqi : (if i = k then Nw w w' else Q i) b := hqi
      by_cases e2 : i = k
      · rw [if_pos e2] at hqi
        have := ((h j hj (by omega)).1 b hq).2.1
        have := hqi.1
        omega
      · rw [if_neg e2] at hqi
        exact a4 i (by omega) hij hqi
    · show OVc d w' (if j = k then Nw w w' else Q j) A2 l[j].kids
      rw [if_neg e]; exact f9
theorem OVc.of_row {d : Nat} {w : World} {lo : Nat} {v : Value} {l : List Vl} {xs : List Value} {Q : Nat → Nat → Prop} (h : w.ownsRow lo 28 3 v l.length xs) (hx : RowVc d w lo v.ownBlock Q l xs l.length) (hn : l.length ≤ 1048576) : ∃ A cap, v = .slice A l.length cap ∧ OVc (d + 1) w (fun b => lo ≤ b ∧ b < w.heap.size) A l := by
  rcases h.2 with ⟨h', h0⟩ | ⟨g, cap, cur, h', hb, hg, hnc, hcm, hcs, htake⟩
  · refine ⟨none, 0, by rw [h0]; exact h', by unfold maxLen; omega, fun hl => absurd hl (by omega)⟩
  · subst h'
    refine ⟨_, cap, rfl, by unfold maxLen; omega, fun _ => ⟨g, cur, Q, rfl, ⟨hb, heap_lt hg⟩, hg, fun k b hk hq => ?_, fun k hk => ?_⟩⟩
    · obtain ⟨a1, a2, a3, a4⟩ := (hx k hk hk).1 b hq
      exact ⟨⟨a1, a2⟩, fun e => a3 (by rw [e]; rfl), a4⟩
    · obtain ⟨_, A', c', e0, e1, e8, e9⟩ := hx k hk hk
      have hat : ∀ i, i < l.length * 3 → cur[i]? = xs[i]? := fun i hi => by
        rw [← htake, List.getElem?_take_of_lt hi, Array.getElem?_toList]
      exact ⟨A', c', (hat _ (by omega)).trans e0, (hat _ (by omega)).trans e1, ⟨(hat _ (by omega)).trans e8.1, e8.2⟩, e9⟩
end Go.Proofs.Ytakhobhmplneeaa
/-
  An append to a row of the call's own, as one operation of a region. No statement is proved here.
-/
namespace Go.Proofs.Ytakhobhmplneeaa
open Go.RowKit
set_option maxRecDepth 100000
set_option linter.unusedVariables false
theorem wp_append_own {P : Program} {o : Oper} {a : Act} {w : World} {K : Act → World → Prop} {Q : Exit → Act → World → Prop} (s x : Operand) (t : TypeId)
    (ho : o.op = .call { callee := .builtin .append, args := #[s, x], argTypes := #[t, t] })
    (base : Nat) (e : TypeId) (i : TypeInfo) (z : Value) (size bytes : Nat) (ht : P.underlying t = some (.slice e)) (hi : P.info? e = some i) (hz : i.zero = some z)
    (hsize : i.size = size) (hby : i.bytes = bytes) (hzs : z.cells.size = size) (hsz : 0 < size)
    (v : Value) (n : Nat) (xs : List Value) (hs : a.eval s = v) (hown : w.ownsRow base e size v n xs)
    (ad : Addr) (m c : Nat) (news : List Value) (hx : a.eval x = .slice (some ad) m c) (hl : news.length = m * size) (hnews : ∀ j u, news[j]? = some u → w.cell? (ad.add j) = some u) (h1 : ∀ u ∈ news, u.oneCell' = true)
    (h63 : n + m ≤ maxLen) (hbytes : (n + m) * bytes ≤ 140737488355328) (hbase : base ≤ w.heap.size)
    (h : ∀ v' w', w'.ownsRow base e size v' (n + m) (xs ++ news) → w.grownBy w' v.ownBlock → (v'.ownBlock = v.ownBlock ∨ v'.ownBlock = some w.heap.size) → K (a.put o.dst v') w') : o.wp P a w K Q := by
  obtain ⟨v', w', hr, h2, h3, _, h5⟩ := run_append_own_at (P := P) w base t o.type e i z size bytes ht hi hz hsize hby hzs hsz v n xs hown ad m c news hl hnews h1 h63 hbytes hbase
  unfold Oper.wp execOp
  simp only [ho, resolve, invoke, builtin, Sem.run_bind, Sem.run_pure, Result.andThen_ok, List.map_toArray, List.map_cons, List.map_nil, hs, hx, hr]
  exact h v' w' h2 h3 h5
theorem own_at {w w' : World} {base : Nat} {e : TypeId} {size n : Nat} {v : Value} {xs : List Value} (h : w.ownsRow base e size v n xs) (hk : ∀ b, v.ownBlock = some b → w'.heap[b]? = w.heap[b]?) : w'.ownsRow base e size v n xs := by
  refine ⟨h.1, ?_⟩
  rcases h.2 with h0 | ⟨g, cap, cur, a1, a2, a3, a4⟩
  · exact .inl h0
  · exact .inr ⟨g, cap, cur, a1, a2, (hk g (by rw [a1]; rfl)).trans a3, a4⟩
theorem own_form {w : World} {base : Nat} {e : TypeId} {size n : Nat} {v : Value} {xs : List Value} (h : w.ownsRow base e size v n xs) : ∃ A c, v = .slice A n c ∧ ∀ b, v.ownBlock = some b → base ≤ b ∧ b < w.heap.size := by
  rcases h.2 with ⟨rfl, rfl⟩ | ⟨g, cap, cur, rfl, a2, a3, a4⟩
  · exact ⟨none, 0, rfl, fun b e => by cases e⟩
  · exact ⟨_, _, rfl, fun b e => by injection e with e; subst e; exact ⟨a2, heap_lt a3⟩⟩
end Go.Proofs.Ytakhobhmplneeaa
/-
  A region whose last operation waits for all others: a condition on the world that holds until that one comes up. No statement is proved here.
-/
namespace Go.Proofs.Ytakhobhmplneeaa
open Go
set_option linter.unusedVariables false
section
variable {P : Program} {ops : Array Oper} {Q : Exit → Act → World → Prop} {md : Region.Mode} {S : World → Prop} {z : Nat}
/-- Whatever comes up next, the condition holds behind it, unless it is number z; and so on. -/
def Till (P : Program) (md : Region.Mode) (ops : Array Oper) (Q : Exit → Act → World → Prop) (S : World → Prop) (z : Nat) : Nat → Array Bool → Act → World → Prop
  | 0, ls, a, w => Region.ready md ops ls = [] ∧ Q .normal a w
  | n + 1, ls, a, w => (Region.ready md ops ls = [] → Q .normal a w) ∧ ∀ i ∈ Region.ready md ops ls, wpOp P ops Q i (fun b v => (i ≠ z → S v) ∧ Till P md ops Q S z n (ls.setIfInBounds i true) b v) a w
theorem Till.any : ∀ (n : Nat) (ls : Array Bool) (a : Act) (w : World), Till P md ops Q S z n ls a w → wpAny P md ops Q n ls a w
  | 0, _, _, _, h => h
  | n + 1, ls, a, w, h => ⟨h.1, fun i hi => wpOp_mono (fun b v hv => Till.any n _ b v hv.2) (h.2 i hi)⟩
/-- Does number z wait for number i? -/
def waitB (md : Region.Mode) (ops : Array Oper) (z i : Nat) : Bool := match ops[z]? with
  | some o => o.after.any fun e => Region.binds md e && e.on == i
  | none => true
theorem wait_not {i : Nat} {ls : Array Bool} (h : waitB md ops z i = true) (hi : i ∈ Region.ready md ops ls) : ¬ z ∈ Region.ready md ops ls := fun hz => by
  obtain ⟨_, o, ho, hall⟩ := mem_ready.1 hz
  obtain ⟨hun, oi, hoi, _⟩ := mem_ready.1 hi
  unfold waitB at h
  rw [ho] at h
  simp only at h
  obtain ⟨e, he, hb⟩ := Array.any_eq_true'.1 h
  simp only [Bool.and_eq_true, beq_iff_eq] at hb
  have h1 := hall e he hb.1
  rw [hb.2] at h1
  rcases Nat.lt_or_ge i ls.size with hlt | hge
  · simp [hlt] at hun h1; rw [hun] at h1; cases h1
  · simp [Array.getElem?_eq_none hge] at h1
theorem Till.first {i : Nat} {oi : Oper} {v : Value} (hi : ops[i]? = some oi) (hs : Region.noSelect ops = true) (hQ : ∀ c a w, Q (.panic c) (a.put oi.dst v) w → Q (.panic c) a w) (hw : waitB md ops z i = true) :
    ∀ (n : Nat) (ls : Array Bool) (a : Act) (w : World), (∀ j oj, ops[j]? = some oj → j ≠ i → ls.getD j true = false → (∀ e ∈ oj.after, Region.binds md e = true → e.on ≠ i) → oi.apart ops oj = true) →
      i ∈ Region.ready md ops ls → i ≠ z → YieldsIf P ops S oi v a → S w → Till P md ops Q S z n (ls.setIfInBounds i true) (a.put oi.dst v) w → Till P md ops Q S z (n + 1) ls a w := by
  intro n
  have hsel := Region.noSelect_spec hs
  induction n with
  | zero =>
    intro ls a w _ hr hz hy hS H
    refine ⟨fun h => (by rw [h] at hr; cases hr), fun j hj => ?_⟩
    by_cases e : j = i
    · subst e; exact hy.wpOp hi hS ⟨fun _ => hS, H⟩
    · have := ready_mono hj e
      rw [H.1] at this
      cases this
  | succ n ih =>
    intro ls a w hfree hr hz hy hS H
    refine ⟨fun h => (by rw [h] at hr; cases hr), fun j hj => ?_⟩
    by_cases e : j = i
    · subst e; exact hy.wpOp hi hS ⟨fun _ => hS, H⟩
    · have hjz : j ≠ z := fun ez => wait_not hw hr (ez ▸ hj)
      have h1 := H.2 j (ready_mono hj e)
      obtain ⟨hun, oj, hoj, hall⟩ := mem_ready.1 hj
      have hno : ∀ d ∈ oj.after, Region.binds md d = true → d.on ≠ i := fun d hd hb heq => by
        have h2 := hall d hd hb
        have h3 := (mem_ready.1 hr).1
        rw [heq] at h2
        rcases Nat.lt_or_ge i ls.size with hlt | hge
        · simp [hlt] at h3 h2; rw [h3] at h2; cases h2
        · simp [Array.getElem?_eq_none hge] at h2
      have h2 := wpOp_putIf hoj (hfree j oj hoj e hun hno) (fun cs b => hsel i oi cs b hi) (fun cs b => hsel j oj cs b hoj) hQ hy h1
      refine wpOp_mono (fun b v h3 => ⟨fun _ => h3.2.1 hjz, ih (ls.setIfInBounds j true) b v ?_ (ready_mono hr (Ne.symm e)) hz h3.1 (h3.2.1 hjz) ?_⟩) h2
      · intro k ok hk hki huk hnk
        refine hfree k ok hk hki ?_ hnk
        by_cases ek : j = k
        · subst ek; exact hun
        · rw [getD_set_ne true ek] at huk; exact huk
      · rw [Array.setIfInBounds_comm _ _ e]
        exact h3.2.2
theorem Till.take {i : Nat} {oi : Oper} {v : Value} {n : Nat} {ls : Array Bool} {a : Act} {w : World} (hi : ops[i]? = some oi) (hs : Region.noSelect ops = true) (hf : Region.free md ops ls i = true)
    (hr : (Region.ready md ops ls).contains i = true) (hw : (waitB md ops z i && i != z) = true) (hQ : ∀ c a w, Q (.panic c) (a.put oi.dst v) w → Q (.panic c) a w) (hS : S w) (hy : YieldsIf P ops S oi v a)
    (h : Till P md ops Q S z n (ls.setIfInBounds i true) (a.put oi.dst v) w) : Till P md ops Q S z (n + 1) ls a w := by
  rw [Bool.and_eq_true, bne_iff_ne] at hw
  exact Till.first hi hs hQ hw.1 n ls a w (Region.free_spec hi hf) (by simpa using hr) hw.2 hy hS h
theorem Till.take_ {i : Nat} {oi : Oper} {d : Option Tmp} {v : Value} {n : Nat} {ls ls' : Array Bool} {a : Act} {w : World} (hi : ops[i]? = some oi) (hd : ops[i]?.map (fun o => o.dst) = some d) (hs : Region.noSelect ops = true) (hf : Region.free md ops ls i = true)
    (hr : (Region.ready md ops ls).contains i = true) (hw : (waitB md ops z i && i != z) = true) (hQ : ∀ c a w, Q (.panic c) (a.put d v) w → Q (.panic c) a w) (hS : S w) (hy : YieldsIf P ops S oi v a) (hl : ls.setIfInBounds i true = ls')
    (h : Till P md ops Q S z n ls' (a.put d v) w) : Till P md ops Q S z (n + 1) ls a w := by
  have e : oi.dst = d := by rw [hi] at hd; injection hd
  subst e hl
  exact Till.take hi hs hf hr hw hQ hS hy h
/-- One operation comes up. -/
theorem Till.step {i : Nat} {o : Oper} {n : Nat} {ls : Array Bool} {a : Act} {w : World} (ho : ops[i]? = some o) (hw : Region.wanted o (yielded ops a.tmps) = true)
    (h : ∀ K : Act → World → Prop, (∀ b v, (i ≠ z → S v) → Till P md ops Q S z n (ls.setIfInBounds i true) b v → K b v) → o.wp P a w K Q) :
    wpOp P ops Q i (fun b v => (i ≠ z → S v) ∧ Till P md ops Q S z n (ls.setIfInBounds i true) b v) a w := by
  unfold wpOp
  simp only [ho, hw, if_true]
  exact .inl (h _ fun b v h1 h2 => ⟨h1, h2⟩)
theorem Till.all {rs : List Nat} {n : Nat} {ls : Array Bool} {a : Act} {w : World} (hr : Region.ready md ops ls = rs) (hne : rs ≠ [])
    (h : ∀ i ∈ rs, wpOp P ops Q i (fun b v => (i ≠ z → S v) ∧ Till P md ops Q S z n (ls.setIfInBounds i true) b v) a w) : Till P md ops Q S z (n + 1) ls a w :=
  ⟨fun h0 => absurd (hr ▸ h0) hne, hr ▸ h⟩
theorem Till.done {ls : Array Bool} {a : Act} {w : World} (hr : Region.ready md ops ls = []) (h : Q .normal a w) : ∀ n, Till P md ops Q S z n ls a w
  | 0 => ⟨hr, h⟩
  | _ + 1 => ⟨fun _ => h, by rw [hr]; simp⟩
theorem Till.start {id : Nat} {a : Act} {w : World} (hm : P.follows .mixedOrders = true) (h : Till P .any ops Q S z ops.size (Array.replicate ops.size false) a w.drew) : (Code.region id ops true).wp P Q a w :=
  wp_region_any hm (Till.any _ _ _ _ h)
end
end Go.Proofs.Ytakhobhmplneeaa
/-
  A Vl node that is made part by part. No statement is proved here.
-/
namespace Go.Proofs.Ytakhobhmplneeaa
open Go.RowKit
set_option maxRecDepth 100000
set_option linter.unusedVariables false
/-- A struct that has been made and not yet been written. -/
def ZbV (w : World) (g : Nat) : Prop := w.heap[g]? = some (.cells #[.int .i64 0, .int .i64 0, .slice none 0 0] 28 (0, 0))
theorem ZbV.new (w : World) : ZbV (w.alloc (.cells #[.int .i64 0, .int .i64 0, .slice none 0 0] 28)) w.heap.size := heap_alloc_new _ _
theorem ZbV.at_ {w w' : World} {g : Nat} (h : ZbV w g) (hb : Below w.heap.size w w') : ZbV w' g := (hb.block g (heap_lt h)).trans h
theorem ZbV.cells {w : World} {g : Nat} (h : ZbV w g) : w.cell? ⟨g, 0, none⟩ = some (.int .i64 0) ∧ w.cell? ⟨g, 1, none⟩ = some (.int .i64 0) ∧ w.cell? ⟨g, 2, none⟩ = some (.slice none 0 0) ∧ w.frozen? ⟨g, 0, none⟩ = false ∧ w.frozen? ⟨g, 1, none⟩ = false ∧ w.frozen? ⟨g, 2, none⟩ = false :=
  ⟨(cell_of_blk h 0).trans rfl, (cell_of_blk h 1).trans rfl, (cell_of_blk h 2).trans rfl, frozen_of_row w g 0 _ 28 h, frozen_of_row w g 1 _ 28 h, frozen_of_row w g 2 _ 28 h⟩
end Go.Proofs.Ytakhobhmplneeaa
