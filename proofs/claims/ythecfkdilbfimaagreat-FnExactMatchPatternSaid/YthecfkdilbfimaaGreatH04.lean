/-
  The value of least depth of a type: plain mathematics. No statement is proved here.
-/
import Derived.Test.YthecfkdilbfimaaGreatH03
import Derived.Test.YthecfkdilbfimaaGreatG11
import Derived.Test.YthecfkdilbfimaaGreatG02
import Derived.Test.YthecfkdilbfimaaGreatG04
import Derived.OrdersHeld
import Derived.Deep.RegionHeld3
namespace Go.Proofs.YthecfkdilbfimaaGreat
open Go.RowKit
set_option maxRecDepth 100000
set_option linter.unusedVariables false

theorem inh_dk {l : List Da} {t : Ty} (h : Inh l t) : Dk (mkF l) (ldep l t).toNat t := by
  rcases ldep_is l t with ⟨_, h2⟩ | ⟨_, h2, _⟩
  · obtain ⟨_, k, hk⟩ := h; exact absurd hk (h2 k)
  · exact h2
/-- One more than the greatest least depth, or 0. -/
noncomputable def mdp (l : List Da) (L : List Ty) : Int := dpR (ldep l) (Inh l) L
theorem mxT_le {F : Ty → Int} {L : List Ty} {b : Int} (h0 : 0 ≤ b) (h : ∀ a ∈ L, F a ≤ b) : ∀ k, k ≤ L.length → mxT F L k ≤ b
  | 0, _ => h0
  | k + 1, hk => by
    rw [mxT_succ hk]
    have h1 := mxT_le h0 h k (by omega)
    have h2 := h _ (List.getElem_mem hk)
    omega
theorem mxT_ge {F : Ty → Int} {L : List Ty} : ∀ k, k ≤ L.length → ∀ j (hj : j < L.length), j < k → F L[j] ≤ mxT F L k
  | 0, _, _, _, h => absurd h (Nat.not_lt_zero _)
  | k + 1, hk, j, hj, hjk => by
    rw [mxT_succ hk]
    by_cases e : j = k
    · subst e; omega
    · have := mxT_ge (F := F) k (by omega) j hj (by omega); omega
theorem mdp_no {l : List Da} {L : List Ty} (h : ¬ ∀ a ∈ L, Inh l a) : mdp l L = 0 := dpR_no h
theorem mdp_yes {l : List Da} {L : List Ty} (h : ∀ a ∈ L, Inh l a) : mdp l L = mxT (ldep l) L L.length + 1 := dpR_yes h
theorem mdp_pos {l : List Da} {L : List Ty} (h : 0 < mdp l L) : ∀ a ∈ L, Inh l a ∧ ldep l a < mdp l L := by
  by_cases hi : ∀ a ∈ L, Inh l a
  · intro a ha
    refine ⟨hi a ha, ?_⟩
    rw [mdp_yes hi]
    obtain ⟨j, hj, rfl⟩ := List.getElem_of_mem ha
    have := mxT_ge (F := ldep l) L.length (Nat.le_refl _) j hj hj
    omega
  · rw [mdp_no hi] at h; omega
theorem mdp_nonneg (l : List Da) (L : List Ty) : 0 ≤ mdp l L := by
  by_cases hi : ∀ a ∈ L, Inh l a
  · rw [mdp_yes hi]
    have : ∀ k, 0 ≤ mxT (ldep l) L k := fun k => by
      induction k with
      | zero => exact Int.le_refl _
      | succ k ih => show 0 ≤ max _ _; omega
    have := this L.length
    omega
  · rw [mdp_no hi]; omega
theorem least_ctor {l : List Da} {t : Ty} (hok : TyOK l t) (hd : ¬ t.data = -1) (h : Inh l t) : ∃ x ∈ ctR l t, mdp l (agR l t x) = ldep l t := by
  have h1 := inh_dk h
  have hp := ldep_yes h
  obtain ⟨m, hm⟩ : ∃ m : Nat, (ldep l t).toNat = m + 1 := ⟨(ldep l t).toNat - 1, by omega⟩
  rw [hm] at h1
  have h1' : mkF l (Dk (mkF l) m) t := h1
  obtain ⟨x, hx, ha⟩ := (mkF_iff hok hd).1 h1'
  have hin : ∀ a ∈ agR l t x, a ∈ tysN l.length := fun a ha => ok_tys (agR_ok hx a ha)
  have hall : ∀ a ∈ agR l t x, Inh l a := fun a h' => ⟨hin a h', m, ha a h'⟩
  refine ⟨x, hx, ?_⟩
  rw [mdp_yes hall]
  have hle := mxT_le (F := ldep l) (L := agR l t x) (b := m) (by omega) (fun a h' => ldep_le (ha a h')) _ (Nat.le_refl _)
  have hge := mxT_ge (F := ldep l) (L := agR l t x) _ (Nat.le_refl _)
  have h0 := mxT_nonneg (ldep l) (agR l t x) (agR l t x).length
  generalize mxT (ldep l) (agR l t x) (agR l t x).length = M at hle hge h0
  have hdk : Dk (mkF l) (M.toNat + 1) t := by
    refine (mkF_iff hok hd).2 ⟨x, hx, fun a h' => ?_⟩
    obtain ⟨j, hj, rfl⟩ := List.getElem_of_mem h'
    have h2 := hge j hj hj
    have h3 := inh_dk (hall _ h')
    have h4 := ldep_nonneg l (agR l t x)[j]
    exact Dk_up_le (by omega) _ h3
  have := ldep_le hdk
  omega

/-- The first constructor that makes a value of least depth. -/
noncomputable def fstC (l : List Da) (t : Ty) : Option Int := (ctR l t).find? (fun x => decide (mdp l (agR l t x) = ldep l t))
theorem fstC_some {l : List Da} {t : Ty} (hok : TyOK l t) (hd : ¬ t.data = -1) (h : Inh l t) : ∃ x, fstC l t = some x ∧ x ∈ ctR l t ∧ mdp l (agR l t x) = ldep l t := by
  obtain ⟨x, hx, he⟩ := least_ctor hok hd h
  unfold fstC
  cases hf : (ctR l t).find? (fun x => decide (mdp l (agR l t x) = ldep l t)) with
  | none =>
    have := List.find?_eq_none.1 hf x hx
    simp only [he, decide_true] at this
    exact absurd trivial this
  | some y =>
    exact ⟨y, rfl, List.mem_of_find?_eq_some hf, by simpa using List.find?_some hf⟩
/-- None of the first k constructors does. -/
def NoC (l : List Da) (t : Ty) (k : Nat) : Prop := ∀ j (h : j < (ctR l t).length), j < k → ¬ mdp l (agR l t (ctR l t)[j]) = ldep l t
theorem NoC.zero (l : List Da) (t : Ty) : NoC l t 0 := fun j _ h => absurd h (Nat.not_lt_zero _)
theorem NoC.step {l : List Da} {t : Ty} {k : Nat} (h : NoC l t k) (hk : k < (ctR l t).length) (e : ¬ mdp l (agR l t (ctR l t)[k]) = ldep l t) : NoC l t (k + 1) := fun j hj hjk => by
  by_cases e' : j = k
  · subst e'; exact e
  · exact h j hj (by omega)
theorem NoC.found {l : List Da} {t : Ty} {k : Nat} (h : NoC l t k) (hk : k < (ctR l t).length) (e : mdp l (agR l t (ctR l t)[k]) = ldep l t) : fstC l t = some (ctR l t)[k] := by
  unfold fstC
  rw [List.find?_eq_some_iff_getElem]
  exact ⟨by simpa using e, k, hk, rfl, fun j hj => by simpa using h j (by omega) hj⟩
theorem NoC.all {l : List Da} {t : Ty} {k : Nat} (h : NoC l t k) (hok : TyOK l t) (hd : ¬ t.data = -1) (hi : Inh l t) : k < (ctR l t).length := by
  obtain ⟨x, hx, he⟩ := least_ctor hok hd hi
  obtain ⟨j, hj, rfl⟩ := List.getElem_of_mem hx
  by_cases e : k < (ctR l t).length
  · exact e
  · exact absurd he (h j hj (by omega))

/-- The value of least depth. -/
noncomputable def lvA (l : List Da) : Nat → Ty → Vl
  | 0, _ => .mk 0 0 []
  | n + 1, t => if t.data = -1 then .mk (-1) 0 [] else match fstC l t with
    | some x => .mk x 0 ((agR l t x).map (lvA l n))
    | none => .mk 0 0 []
theorem lvA_int {l : List Da} {n : Nat} {t : Ty} (h : t.data = -1) : lvA l (n + 1) t = .mk (-1) 0 [] := by rw [lvA, if_pos h]
theorem lvA_data {l : List Da} {n : Nat} {t : Ty} {x : Int} (h : ¬ t.data = -1) (hx : fstC l t = some x) : lvA l (n + 1) t = .mk x 0 ((agR l t x).map (lvA l n)) := by rw [lvA, if_neg h, hx]
theorem lvA_len {l : List Da} {n : Nat} {t : Ty} {x : Int} (h : ¬ t.data = -1) (hx : fstC l t = some x) : (lvA l (n + 1) t).kids.length = (agR l t x).length := by rw [lvA_data h hx]; exact List.length_map _
theorem lvA_w (l : List Da) : ∀ n t, 2 + wV (lvA l n t) ≤ 2 * 3 ^ n
  | 0, t => by rw [lvA, wV, wVs]; omega
  | n + 1, t => by
    have h3 : 1 ≤ 3 ^ n := Nat.one_le_pow _ _ (by omega)
    have h3' : 2 ≤ 2 * 3 ^ n := by omega
    have hp : 2 * 3 ^ (n + 1) = 3 * (2 * 3 ^ n) := by rw [Nat.pow_succ]; omega
    rw [lvA]
    split
    · rw [wV, wVs]; omega
    · split
      · rename_i x _
        rw [wV, wVs_sum, List.map_map, List.length_map]
        have hl := agR_len l t x
        obtain ⟨E, hE⟩ : ∃ E, E = 2 * 3 ^ n := ⟨_, rfl⟩
        have hs : ∀ L : List Ty, (L.map (wV ∘ lvA l n)).sum + 2 * L.length ≤ L.length * E := fun L => by
          induction L with
          | nil => simp
          | cons a L ih =>
            have := lvA_w l n a
            rw [← hE] at this
            simp only [List.map_cons, List.sum_cons, List.length_cons, Function.comp_apply, Nat.add_mul, Nat.one_mul]
            omega
        have h1 := hs (agR l t x)
        rw [hp, ← hE]
        rw [← hE] at h3'
        rcases (show (agR l t x).length = 0 ∨ (agR l t x).length = 1 ∨ (agR l t x).length = 2 ∨ (agR l t x).length = 3 by omega) with e | e | e | e <;> rw [e] at h1 ⊢ <;> omega
      · rw [wV, wVs]; omega
end Go.Proofs.YthecfkdilbfimaaGreat
/-
  Vl trees in blocks of their own: no part has a block of another part. No statement is proved here.
-/
namespace Go.Proofs.YthecfkdilbfimaaGreat
open Go.RowKit
set_option maxRecDepth 100000
set_option linter.unusedVariables false

/-- Trees in blocks of P; no part has a block of another part. -/
def OVs : Nat → World → (Nat → Prop) → Option Addr → List Vl → Prop
  | 0, _, _, _, _ => False
  | d + 1, w, P, A, l => l.length ≤ maxLen ∧ (0 < l.length → ∃ (g : Nat) (cs : Array Value) (Q : Nat → Nat → Prop), A = some ⟨g, 0, none⟩ ∧ P g ∧ w.heap[g]? = some (.cells cs 51 (0, 0)) ∧ (∀ k b, k < l.length → Q k b → P b ∧ b ≠ g ∧ ∀ j, j < l.length → j ≠ k → ¬ Q j b) ∧ ∀ k (h : k < l.length), ∃ A' cap, cs[k * 3]? = some (.int .i64 l[k].ctor) ∧ cs[k * 3 + 1]? = some (.int .i64 l[k].n) ∧ cs[k * 3 + 2]? = some (.slice A' l[k].kids.length cap) ∧ OVs d w (Q k) A' l[k].kids)
def OVp (d : Nat) (w : World) (P : Nat → Prop) (g : Nat) (cs : Array Value) (Q : Nat → Nat → Prop) (l : List Vl) : Prop := P g ∧ w.heap[g]? = some (.cells cs 51 (0, 0)) ∧ (∀ k b, k < l.length → Q k b → P b ∧ b ≠ g ∧ ∀ j, j < l.length → j ≠ k → ¬ Q j b) ∧ ∀ k (h : k < l.length), ∃ A' cap, cs[k * 3]? = some (.int .i64 l[k].ctor) ∧ cs[k * 3 + 1]? = some (.int .i64 l[k].n) ∧ cs[k * 3 + 2]? = some (.slice A' l[k].kids.length cap) ∧ OVs d w (Q k) A' l[k].kids
theorem OVs.parts {d : Nat} {w : World} {P : Nat → Prop} {A : Option Addr} {l : List Vl} (h : OVs d w P A l) : ∃ d', d = d' + 1 ∧ l.length ≤ maxLen ∧ (0 < l.length → ∃ g cs Q, A = some ⟨g, 0, none⟩ ∧ OVp d' w P g cs Q l) := by
  cases d with
  | zero => exact h.elim
  | succ d => exact ⟨d, rfl, h⟩
theorem OVs.mk {d : Nat} {w : World} {P : Nat → Prop} {A : Option Addr} {l : List Vl} (hl : l.length ≤ maxLen) (h : 0 < l.length → ∃ g cs Q, A = some ⟨g, 0, none⟩ ∧ OVp d w P g cs Q l) : OVs (d + 1) w P A l := ⟨hl, h⟩
theorem OVs.nil (d : Nat) (w : World) (P : Nat → Prop) (A : Option Addr) : OVs (d + 1) w P A [] := ⟨Nat.zero_le _, fun h => absurd h (Nat.not_lt_zero _)⟩
theorem OVs.wide : ∀ (d : Nat) {w : World} {P P' : Nat → Prop} {A : Option Addr} {l : List Vl}, OVs d w P A l → (∀ b, P b → P' b) → OVs d w P' A l
  | 0, _, _, _, _, _, h, _ => h.elim
  | d + 1, _, _, _, _, _, ⟨h1, h2⟩, hp => ⟨h1, fun hl => by
    obtain ⟨g, cs, Q, e, hg, hh, hq, hc⟩ := h2 hl
    exact ⟨g, cs, Q, e, hp g hg, hh, fun k b hk hb => ⟨hp b (hq k b hk hb).1, (hq k b hk hb).2⟩, hc⟩⟩
theorem OVs.fr : ∀ (d : Nat) {w w' : World} {P P' : Nat → Prop} {A : Option Addr} {l : List Vl}, OVs d w P A l → Fr P' w w' → (∀ b, P b → ¬ P' b) → OVs d w' P A l
  | 0, _, _, _, _, _, _, h, _, _ => h.elim
  | d + 1, _, _, _, _, _, _, ⟨h1, h2⟩, hf, hp => ⟨h1, fun hl => by
    obtain ⟨g, cs, Q, e, hg, hh, hq, hc⟩ := h2 hl
    refine ⟨g, cs, Q, e, hg, hf.block hh (hp g hg), hq, fun k hk => ?_⟩
    obtain ⟨A', cap, e0, e1, e8, e9⟩ := hc k hk
    exact ⟨A', cap, e0, e1, e8, OVs.fr d e9 hf (fun b hb => hp b (hq k b hk hb).1)⟩⟩
theorem OVs.up : ∀ (d : Nat) {w : World} {P : Nat → Prop} {A : Option Addr} {l : List Vl}, OVs d w P A l → OVs (d + 1) w P A l
  | 0, _, _, _, _, h => h.elim
  | d + 1, _, _, _, _, ⟨h1, h2⟩ => ⟨h1, fun hl => by
    obtain ⟨g, cs, Q, e, hg, hh, hq, hc⟩ := h2 hl
    refine ⟨g, cs, Q, e, hg, hh, hq, fun k hk => ?_⟩
    obtain ⟨A', cap, e0, e1, e8, e9⟩ := hc k hk
    exact ⟨A', cap, e0, e1, e8, OVs.up d e9⟩⟩
theorem OVs.more {d d' : Nat} {w : World} {P : Nat → Prop} {A : Option Addr} {l : List Vl} (h : OVs d w P A l) (hd : d ≤ d') : OVs d' w P A l := by
  obtain ⟨e, rfl⟩ := Nat.exists_eq_add_of_le hd
  clear hd
  induction e with
  | zero => exact h
  | succ e ih => exact OVs.up _ ih
theorem OVs.reads : ∀ (d : Nat) {w : World} {P : Nat → Prop} {A : Option Addr} {l : List Vl}, OVs (d + 1) w P A l → RVs d w w.heap.size A l
  | d, w, P, A, l, ⟨h1, h2⟩ => ⟨h1, fun k hk => by
    obtain ⟨g, cs, Q, e, hg, hh, hq, hc⟩ := h2 (by omega)
    obtain ⟨A', cap, e0, e1, e8, e9⟩ := hc k hk
    refine ⟨g, 0, e, heap_lt hh, ?_⟩
    cases d with
    | zero => exact e9.elim
    | succ d =>
      obtain ⟨q1, q2⟩ := OVs.reads d e9
      exact ⟨A', cap, by rw [cell_of_blk hh, Nat.zero_add]; exact e0, by rw [cell_of_blk hh, Nat.zero_add]; exact e1, by rw [cell_of_blk hh, Nat.zero_add]; exact e8, q1, q2⟩⟩

/-- The row of a list while it is made: k parts are there, each with blocks of its own, from lo on. -/
def RowV (d : Nat) (w : World) (lo : Nat) (og : Option Nat) (Q : Nat → Nat → Prop) (l : List Vl) (xs : List Value) (k : Nat) : Prop := ∀ j (h : j < l.length), j < k → (∀ b, Q j b → lo ≤ b ∧ b < w.heap.size ∧ some b ≠ og ∧ ∀ i, i < k → i ≠ j → ¬ Q i b) ∧ ∃ A' cap, xs[j * 3]? = some (.int .i64 l[j].ctor) ∧ xs[j * 3 + 1]? = some (.int .i64 l[j].n) ∧ xs[j * 3 + 2]? = some (.slice A' l[j].kids.length cap) ∧ OVs d w (Q j) A' l[j].kids
theorem RowV.zero (d : Nat) (w : World) (lo : Nat) (og : Option Nat) (Q : Nat → Nat → Prop) (l : List Vl) (xs : List Value) : RowV d w lo og Q l xs 0 := fun j _ h => absurd h (by omega)
theorem RowV.fr {d : Nat} {w w' : World} {lo : Nat} {og : Option Nat} {Q : Nat → Nat → Prop} {l : List Vl} {xs : List Value} {k : Nat} {P' : Nat → Prop} (h : RowV d w lo og Q l xs k) (hf : Fr P' w w') (hp : ∀ b, lo ≤ b → some b ≠ og → b < w.heap.size → ¬ P' b) : RowV d w' lo og Q l xs k := fun j hj hjk => by
  obtain ⟨h1, A', cap, e0, e1, e8, e9⟩ := h j hj hjk
  refine ⟨fun b hb => ?_, A', cap, e0, e1, e8, e9.fr d hf (fun b hb => ?_)⟩
  · obtain ⟨a1, a2, a3, a4⟩ := h1 b hb
    exact ⟨a1, Nat.lt_of_lt_of_le a2 hf.size, a3, a4⟩
  · obtain ⟨a1, a2, a3, a4⟩ := h1 b hb
    exact hp b a1 a3 a2
theorem RowV.og {d : Nat} {w : World} {lo : Nat} {og og' : Option Nat} {Q : Nat → Nat → Prop} {l : List Vl} {xs : List Value} {k : Nat} (h : RowV d w lo og Q l xs k) (hp : ∀ b, lo ≤ b → some b ≠ og → b < w.heap.size → some b ≠ og') : RowV d w lo og' Q l xs k := fun j hj hjk => by
  obtain ⟨h1, h2⟩ := h j hj hjk
  exact ⟨fun b hb => by obtain ⟨a1, a2, a3, a4⟩ := h1 b hb; exact ⟨a1, a2, hp b a1 a3 a2, a4⟩, h2⟩
/-- One part more: its blocks are new. -/
theorem RowV.more {d : Nat} {w w' : World} {lo : Nat} {og : Option Nat} {Q : Nat → Nat → Prop} {l : List Vl} {xs xs' : List Value} {k cap : Nat} {A' : Option Addr} (h : RowV d w lo og Q l xs k) (hb : Below w.heap.size w w') (hk : k < l.length) (hlo : lo ≤ w.heap.size) (hog : ∀ g, og = some g → g < w.heap.size)
    (ho : OVs d w' (Nw w w') A' l[k].kids) (hx : ∀ j c, j < k → c < 3 → xs'[j * 3 + c]? = xs[j * 3 + c]?) (e0 : xs'[k * 3]? = some (.int .i64 l[k].ctor)) (e1 : xs'[k * 3 + 1]? = some (.int .i64 l[k].n)) (e8 : xs'[k * 3 + 2]? = some (.slice A' l[k].kids.length cap)) :
    RowV d w' lo og (fun i => if i = k then Nw w w' else Q i) l xs' (k + 1) := by
  have h' := h.fr (P' := fun _ => False) (Fr.below hb) (fun _ _ _ _ h => h)
  intro j hj hjk
  by_cases e : j = k
  · subst e
    refine ⟨fun b hq => ?_, A', cap, e0, e1, e8, ?_⟩
    · replace hq : (if j = j then Nw w w' else Q j) b := hq
      rw [if_pos rfl] at hq
      refine ⟨Nat.le_trans hlo hq.1, hq.2, fun e => ?_, fun i hi hij hqi => ?_⟩
      · have := hog b e.symm; have := hq.1; omega
      · replace hqi : (if i = j then Nw w w' else Q i) b := hqi
        rw [if_neg hij] at hqi
        have := ((h i (by omega) (by omega)).1 b hqi).2.1
        have := hq.1
        omega
    · show OVs d w' (if j = j then Nw w w' else Q j) A' l[j].kids
      rw [if_pos rfl]; exact ho
  · obtain ⟨h1, A2, c2, f0, f1, f8, f9⟩ := h' j hj (by omega)
    refine ⟨fun b hq => ?_, A2, c2, (hx j 0 (by omega) (by omega)).trans f0, (hx j 1 (by omega) (by omega)).trans f1, (hx j 2 (by omega) (by omega)).trans f8, ?_⟩
    · replace hq : (if j = k then Nw w w' else Q j) b := hq
      rw [if_neg e] at hq
      obtain ⟨a1, a2, a3, a4⟩ := h1 b hq
      refine ⟨a1, a2, a3, fun i hi hij hqi => ?_⟩
      replace hqi : (if i = k then Nw w w' else Q i) b := hqi
      by_cases e2 : i = k
      · rw [if_pos e2] at hqi
        have := ((h j hj (by omega)).1 b hq).2.1
        have := hqi.1
        omega
      · rw [if_neg e2] at hqi
        exact a4 i (by omega) hij hqi
    · show OVs d w' (if j = k then Nw w w' else Q j) A2 l[j].kids
      rw [if_neg e]; exact f9
theorem OVs.of_row {d : Nat} {w : World} {lo : Nat} {v : Value} {l : List Vl} {xs : List Value} {Q : Nat → Nat → Prop} (h : w.ownsRow lo 51 3 v l.length xs) (hx : RowV d w lo v.ownBlock Q l xs l.length) (hn : l.length ≤ 1048576) : ∃ A cap, v = .slice A l.length cap ∧ OVs (d + 1) w (fun b => lo ≤ b ∧ b < w.heap.size) A l := by
  rcases h.2 with ⟨h', h0⟩ | ⟨g, cap, cur, h', hb, hg, hnc, hcm, hcs, htake⟩
  · refine ⟨none, 0, by rw [h0]; exact h', by unfold maxLen; omega, fun hl => absurd hl (by omega)⟩
  · subst h'
    refine ⟨_, cap, rfl, by unfold maxLen; omega, fun _ => ⟨g, cur, Q, rfl, ⟨hb, heap_lt hg⟩, hg, fun k b hk hq => ?_, fun k hk => ?_⟩⟩
    · obtain ⟨a1, a2, a3, a4⟩ := (hx k hk hk).1 b hq
      exact ⟨⟨a1, a2⟩, fun e => a3 (by rw [e]; rfl), a4⟩
    · obtain ⟨_, A', c', e0, e1, e8, e9⟩ := hx k hk hk
      have hat : ∀ i, i < l.length * 3 → cur[i]? = xs[i]? := fun i hi => by
        rw [← htake, List.getElem?_take_of_lt hi, Array.getElem?_toList]
      exact ⟨A', c', (hat _ (by omega)).trans e0, (hat _ (by omega)).trans e1, (hat _ (by omega)).trans e8, e9⟩
end Go.Proofs.YthecfkdilbfimaaGreat
/-
  A region whose last operation waits for all others: a condition on the world that holds until that one comes up. No statement is proved here.
-/
namespace Go.Proofs.YthecfkdilbfimaaGreat
open Go
set_option linter.unusedVariables false

section
variable {P : Program} {ops : Array Oper} {Q : Exit → Act → World → Prop} {md : Region.Mode} {S : World → Prop} {z : Nat}
/-- Whatever comes up next, the condition holds behind it, unless it is number z; and so on. -/
def Till (P : Program) (md : Region.Mode) (ops : Array Oper) (Q : Exit → Act → World → Prop) (S : World → Prop) (z : Nat) : Nat → Array Bool → Act → World → Prop
  | 0, ls, a, w => Region.ready md ops ls = [] ∧ Q .normal a w
  | n + 1, ls, a, w => (Region.ready md ops ls = [] → Q .normal a w) ∧ ∀ i ∈ Region.ready md ops ls, wpOp P ops Q i (fun b v => (i ≠ z → S v) ∧ Till P md ops Q S z n (ls.setIfInBounds i true) b v) a w
theorem Till.any : ∀ (n : Nat) (ls : Array Bool) (a : Act) (w : World), Till P md ops Q S z n ls a w → wpAny P md ops Q n ls a w
  | 0, _, _, _, h => h
  | n + 1, ls, a, w, h => ⟨h.1, fun i hi => wpOp_mono (fun b v hv => Till.any n _ b v hv.2) (h.2 i hi)⟩
/-- Does number z wait for number i? -/
def waitB (md : Region.Mode) (ops : Array Oper) (z i : Nat) : Bool := match ops[z]? with
  | some o => o.after.any fun e => Region.binds md e && e.on == i
  | none => true
theorem wait_not {i : Nat} {ls : Array Bool} (h : waitB md ops z i = true) (hi : i ∈ Region.ready md ops ls) : ¬ z ∈ Region.ready md ops ls := fun hz => by
  obtain ⟨_, o, ho, hall⟩ := mem_ready.1 hz
  obtain ⟨hun, oi, hoi, _⟩ := mem_ready.1 hi
  unfold waitB at h
  rw [ho] at h
  simp only at h
  obtain ⟨e, he, hb⟩ := Array.any_eq_true'.1 h
  simp only [Bool.and_eq_true, beq_iff_eq] at hb
  have h1 := hall e he hb.1
  rw [hb.2] at h1
  rcases Nat.lt_or_ge i ls.size with hlt | hge
  · simp [hlt] at hun h1; rw [hun] at h1; cases h1
  · simp [Array.getElem?_eq_none hge] at h1
theorem Till.first {i : Nat} {oi : Oper} {v : Value} (hi : ops[i]? = some oi) (hs : Region.noSelect ops = true) (hQ : ∀ c a w, Q (.panic c) (a.put oi.dst v) w → Q (.panic c) a w) (hw : waitB md ops z i = true) :
    ∀ (n : Nat) (ls : Array Bool) (a : Act) (w : World), (∀ j oj, ops[j]? = some oj → j ≠ i → ls.getD j true = false → (∀ e ∈ oj.after, Region.binds md e = true → e.on ≠ i) → oi.apart ops oj = true) →
      i ∈ Region.ready md ops ls → i ≠ z → YieldsIf P ops S oi v a → S w → Till P md ops Q S z n (ls.setIfInBounds i true) (a.put oi.dst v) w → Till P md ops Q S z (n + 1) ls a w := by
  intro n
  have hsel := Region.noSelect_spec hs
  induction n with
  | zero =>
    intro ls a w _ hr hz hy hS H
    refine ⟨fun h => (by rw [h] at hr; cases hr), fun j hj => ?_⟩
    by_cases e : j = i
    · subst e; exact hy.wpOp hi hS ⟨fun _ => hS, H⟩
    · have := ready_mono hj e
      rw [H.1] at this
      cases this
  | succ n ih =>
    intro ls a w hfree hr hz hy hS H
    refine ⟨fun h => (by rw [h] at hr; cases hr), fun j hj => ?_⟩
    by_cases e : j = i
    · subst e; exact hy.wpOp hi hS ⟨fun _ => hS, H⟩
    · have hjz : j ≠ z := fun ez => wait_not hw hr (ez ▸ hj)
      have h1 := H.2 j (ready_mono hj e)
      obtain ⟨hun, oj, hoj, hall⟩ := mem_ready.1 hj
      have hno : ∀ d ∈ oj.after, Region.binds md d = true → d.on ≠ i := fun d hd hb heq => by
        have h2 := hall d hd hb
        have h3 := (mem_ready.1 hr).1
        rw [heq] at h2
        rcases Nat.lt_or_ge i ls.size with hlt | hge
        · simp [hlt] at h3 h2; rw [h3] at h2; cases h2
        · simp [Array.getElem?_eq_none hge] at h2
      have h2 := wpOp_putIf hoj (hfree j oj hoj e hun hno) (fun cs b => hsel i oi cs b hi) (fun cs b => hsel j oj cs b hoj) hQ hy h1
      refine wpOp_mono (fun b v h3 => ⟨fun _ => h3.2.1 hjz, ih (ls.setIfInBounds j true) b v ?_ (ready_mono hr (Ne.symm e)) hz h3.1 (h3.2.1 hjz) ?_⟩) h2
      · intro k ok hk hki huk hnk
        refine hfree k ok hk hki ?_ hnk
        by_cases ek : j = k
        · subst ek; exact hun
        · rw [getD_set_ne true ek] at huk; exact huk
      · rw [Array.setIfInBounds_comm _ _ e]
        exact h3.2.2
theorem Till.take {i : Nat} {oi : Oper} {v : Value} {n : Nat} {ls : Array Bool} {a : Act} {w : World} (hi : ops[i]? = some oi) (hs : Region.noSelect ops = true) (hf : Region.free md ops ls i = true)
    (hr : (Region.ready md ops ls).contains i = true) (hw : (waitB md ops z i && i != z) = true) (hQ : ∀ c a w, Q (.panic c) (a.put oi.dst v) w → Q (.panic c) a w) (hS : S w) (hy : YieldsIf P ops S oi v a)
    (h : Till P md ops Q S z n (ls.setIfInBounds i true) (a.put oi.dst v) w) : Till P md ops Q S z (n + 1) ls a w := by
  rw [Bool.and_eq_true, bne_iff_ne] at hw
  exact Till.first hi hs hQ hw.1 n ls a w (Region.free_spec hi hf) (by simpa using hr) hw.2 hy hS h
theorem Till.take_ {i : Nat} {oi : Oper} {d : Option Tmp} {v : Value} {n : Nat} {ls ls' : Array Bool} {a : Act} {w : World} (hi : ops[i]? = some oi) (hd : ops[i]?.map (fun o => o.dst) = some d) (hs : Region.noSelect ops = true) (hf : Region.free md ops ls i = true)
    (hr : (Region.ready md ops ls).contains i = true) (hw : (waitB md ops z i && i != z) = true) (hQ : ∀ c a w, Q (.panic c) (a.put d v) w → Q (.panic c) a w) (hS : S w) (hy : YieldsIf P ops S oi v a) (hl : ls.setIfInBounds i true = ls')
    (h : Till P md ops Q S z n ls' (a.put d v) w) : Till P md ops Q S z (n + 1) ls a w := by
  have e : oi.dst = d := by rw [hi] at hd; injection hd
  subst e hl
  exact Till.take hi hs hf hr hw hQ hS hy h
/-- One operation comes up. -/
theorem Till.step {i : Nat} {o : Oper} {n : Nat} {ls : Array Bool} {a : Act} {w : World} (ho : ops[i]? = some o) (hw : Region.wanted o (yielded ops a.tmps) = true)
    (h : ∀ K : Act → World → Prop, (∀ b v, (i ≠ z → S v) → Till P md ops Q S z n (ls.setIfInBounds i true) b v → K b v) → o.wp P a w K Q) :
    wpOp P ops Q i (fun b v => (i ≠ z → S v) ∧ Till P md ops Q S z n (ls.setIfInBounds i true) b v) a w := by
  unfold wpOp
  simp only [ho, hw, if_true]
  exact .inl (h _ fun b v h1 h2 => ⟨h1, h2⟩)
theorem Till.all {rs : List Nat} {n : Nat} {ls : Array Bool} {a : Act} {w : World} (hr : Region.ready md ops ls = rs) (hne : rs ≠ [])
    (h : ∀ i ∈ rs, wpOp P ops Q i (fun b v => (i ≠ z → S v) ∧ Till P md ops Q S z n (ls.setIfInBounds i true) b v) a w) : Till P md ops Q S z (n + 1) ls a w :=
  ⟨fun h0 => absurd (hr ▸ h0) hne, hr ▸ h⟩
theorem Till.done {ls : Array Bool} {a : Act} {w : World} (hr : Region.ready md ops ls = []) (h : Q .normal a w) : ∀ n, Till P md ops Q S z n ls a w
  | 0 => ⟨hr, h⟩
  | _ + 1 => ⟨fun _ => h, by rw [hr]; simp⟩
theorem Till.start {id : Nat} {a : Act} {w : World} (hm : P.follows .mixedOrders = true) (h : Till P .any ops Q S z ops.size (Array.replicate ops.size false) a w.drew) : (Code.region id ops true).wp P Q a w :=
  wp_region_any hm (Till.any _ _ _ _ h)
end
end Go.Proofs.YthecfkdilbfimaaGreat
