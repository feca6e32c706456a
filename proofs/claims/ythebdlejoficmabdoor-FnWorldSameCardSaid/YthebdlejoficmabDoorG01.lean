/-
  A number looked for in a list; the index that a constructor makes. No statement is proved here.
-/
import Derived.Test.YthebdlejoficmabDoorG00
import Derived.Deep.Fields
import Derived.Deep.Slices
import Derived.Maps.OwnSet
import Derived.DeepKeys5
import Derived.Outline
import Derived.Lib.QuietBelow
import Derived.Deep.QuietTactic
import Derived.Maps.AppendAt
import Derived.Deep.RegionHeld3
import Derived.Deep.AppendLies
import Derived.Deep.RegionLaw
import Derived.Lib.SmallJoins
import Derived.Deep.RegionWith
namespace Go.Proofs.YthebdlejoficmabDoor
open Go.RowKit
set_option maxRecDepth 100000
set_option linter.unusedVariables false

def NotIn (l : List Int) (x : Int) (k : Nat) : Prop := ∀ j (h : j < l.length), j < k → ¬ l[j] = x
theorem NotIn.zero (l : List Int) (x : Int) : NotIn l x 0 := fun j _ h => absurd h (by omega)
theorem NotIn.step {l : List Int} {x : Int} {k : Nat} (h : NotIn l x k) (hk : k < l.length) (e : ¬ l[k] = x) : NotIn l x (k + 1) := by
  intro j hj hjk
  by_cases e' : j = k
  · subst e'; exact e
  · exact h j hj (by omega)
theorem NotIn.all {l : List Int} {x : Int} {k : Nat} (h : NotIn l x k) (hk : l.length ≤ k) : ¬ x ∈ l := fun hx => by
  obtain ⟨j, hj, e⟩ := List.getElem_of_mem hx
  exact h j hj (by omega) e

/-- The index of what a constructor makes for a type of an index. -/
def resI (a ix : Int) : Int := if a = 0 then ix else a
def argOf (c : Ct) (ix : Int) (a : Ty) : Ty := if a.index = -1 then ⟨a.data, resI c.index ix⟩ else a
def argT (c : Ct) (ix : Int) : List Ty := c.args.map (argOf c ix)
theorem argT_len (c : Ct) (ix : Int) : (argT c ix).length = c.args.length := List.length_map _
theorem argT_get (c : Ct) (ix : Int) (k : Nat) (h : k < c.args.length) (h' : k < (argT c ix).length) : (argT c ix)[k] = argOf c ix c.args[k] := by simp [argT]
/-- Types in a row of the call's own, the first k of a list. -/
def OTys (w : World) (lo : Nat) (v : Value) (l : List Ty) (k : Nat) : Prop := ∃ xs, w.ownsRow lo 39 2 v k xs ∧ TyRow l xs k
theorem TyRow.snoc {l : List Ty} {xs : List Value} {k : Nat} (h : TyRow l xs k) (hk : k < l.length) (hx : xs.length = k * 2) : TyRow l (xs ++ [.int .i64 l[k].data, .int .i64 l[k].index]) (k + 1) := by
  intro j hj hjk
  by_cases e : j = k
  · subst e
    constructor
    · rw [List.getElem?_append_right (by omega), hx]; simp
    · rw [List.getElem?_append_right (by omega), hx]; simp
  · obtain ⟨a, b⟩ := h j hj (by omega)
    constructor
    · rw [List.getElem?_append_left (by omega)]; exact a
    · rw [List.getElem?_append_left (by omega)]; exact b
theorem OTys.form {w : World} {lo : Nat} {v : Value} {l : List Ty} (h : OTys w lo v l l.length) (hl : l.length ≤ maxLen) : ∃ A cap, v = .slice A l.length cap ∧ RTys w w.heap.size A l := by
  obtain ⟨xs, ho, hx⟩ := h
  rcases ho.2 with ⟨rfl, h0⟩ | ⟨g, cap, cur, rfl, hb, hg, hnc, hcm, hcs, htake⟩
  · exact ⟨none, 0, by rw [h0], hl, fun k hk => absurd hk (by omega)⟩
  · refine ⟨_, cap, rfl, hl, fun k hk => ⟨g, 0, rfl, own_lt ho, ?_, ?_⟩⟩
    · rw [Nat.zero_add, ho.cellAt (k * 2) (by omega)]; exact (hx k hk hk).1
    · rw [Nat.zero_add, ho.cellAt (k * 2 + 1) (by omega)]; exact (hx k hk hk).2
theorem OTys.lower {w : World} {lo lo' : Nat} {v : Value} {l : List Ty} {k : Nat} (h : OTys w lo v l k) (hl : lo' ≤ lo) : OTys w lo' v l k := by
  obtain ⟨xs, ho, hx⟩ := h
  refine ⟨xs, ⟨ho.1, ?_⟩, hx⟩
  rcases ho.2 with h0 | ⟨g, cap, cur, a1, a2, a3⟩
  · exact .inl h0
  · exact .inr ⟨g, cap, cur, a1, by omega, a3⟩
end Go.Proofs.YthebdlejoficmabDoor
/-
  The types of the arguments of a constructor: the program's function. No statement is proved here.
-/
namespace Go.Proofs.YthebdlejoficmabDoor
open Go.RowKit
set_option maxRecDepth 100000
set_option linter.unusedVariables false

theorem argOf_same {c : Ct} {ix : Int} {a : Ty} (h : a.index = -1) : argOf c ix a = ⟨a.data, resI c.index ix⟩ := if_pos h
theorem argOf_other {c : Ct} {ix : Int} {a : Ty} (h : ¬ a.index = -1) : argOf c ix a = a := if_neg h
/-- What is stored for the element in place k. -/
theorem row_step {c : Ct} {ix : Int} {xs : List Value} {k : Nat} (h : TyRow (argT c ix) xs k) (hk : k < c.args.length) (hx : xs.length = c.args.length * 2) {u0 u1 : Int} (h0 : u0 = (argOf c ix c.args[k]).data) (h1 : u1 = (argOf c ix c.args[k]).index) :
    TyRow (argT c ix) ((xs.set (k * 2) (.int .i64 u0)).set (k * 2 + 1) (.int .i64 u1)) (k + 1) := by
  have hk' : k < (argT c ix).length := by rw [argT_len]; exact hk
  have := h.step hk' (by rw [argT_len]; exact hx)
  rw [argT_get c ix k hk hk'] at this
  rw [h0, h1]
  exact this

end Go.Proofs.YthebdlejoficmabDoor
/-
  The types of the arguments of a constructor: the document's function. No statement is proved here.
-/
namespace Go.Proofs.YthebdlejoficmabDoor
open Go.RowKit
set_option maxRecDepth 100000
set_option linter.unusedVariables false

theorem cell_two_new (w : World) (x y : Value) (t : TypeId) : ∀ j u, [x, y][j]? = some u → (w.alloc (.cells #[x, y] t)).cell? ((⟨w.heap.size, 0, none⟩ : Addr).add j) = some u := by
  intro j u hj
  match j, hj with
  | 0, hj => simp at hj; subst hj; simp [Addr.add, go_sem]
  | 1, hj => simp at hj; subst hj; simp [Addr.add, go_sem]
theorem cell_two_more (w : World) (o : Obj) (x y : Value) (t : TypeId) : ∀ j u, [x, y][j]? = some u → ((w.alloc o).alloc (.cells #[x, y] t)).cell? ((⟨w.heap.size + 1, 0, none⟩ : Addr).add j) = some u := by
  intro j u hj
  match j, hj with
  | 0, hj => simp at hj; subst hj; simp [Addr.add, go_sem]
  | 1, hj => simp at hj; subst hj; simp [Addr.add, go_sem]
theorem own_keep {w w' : World} {lo : Nat} {e : TypeId} {size n : Nat} {v : Value} {xs : List Value} (h : w.ownsRow lo e size v n xs) (hk : ∀ b, b < w.heap.size → w'.heap[b]? = w.heap[b]?) : w'.ownsRow lo e size v n xs := by
  refine ⟨h.1, ?_⟩
  rcases h.2 with h0 | ⟨g, cap, cur, a1, a2, a3, a4⟩
  · exact .inl h0
  · exact .inr ⟨g, cap, cur, a1, a2, (hk g (heap_lt a3)).trans a3, a4⟩
theorem snoc_step {c : Ct} {ix : Int} {xs : List Value} {k : Nat} (h : TyRow (argT c ix) xs k) (hk : k < c.args.length) (hx : xs.length = k * 2) {u0 u1 : Int} (h0 : u0 = (argOf c ix c.args[k]).data) (h1 : u1 = (argOf c ix c.args[k]).index) :
    TyRow (argT c ix) (xs ++ [.int .i64 u0, .int .i64 u1]) (k + 1) := by
  have hk' : k < (argT c ix).length := by rw [argT_len]; exact hk
  have := h.snoc hk' hx
  rw [argT_get c ix k hk hk'] at this
  rw [h0, h1]
  exact this

theorem own_ne {w : World} {lo size n b : Nat} {e t : TypeId} {v : Value} {xs : List Value} {cs : Array Value} (h : w.ownsRow lo e size v n xs) (hc : w.heap[b]? = some (.cells cs t (0, 0))) (hne : e ≠ t) : some b ≠ v.ownBlock := fun he => by
  rcases h.2 with ⟨rfl, _⟩ | ⟨g, cap, cur, rfl, a2, a3, a4⟩
  · simp [Value.ownBlock] at he
  · have : b = g := by simpa [Value.ownBlock] using he
    subst this
    exact other_blk a3 hc hne rfl

end Go.Proofs.YthebdlejoficmabDoor
/-
  The types of the arguments of a constructor: both functions, whole; types that are marked and looked at again. No statement is proved here.
-/
namespace Go.Proofs.YthebdlejoficmabDoor
open Go.RowKit
set_option maxRecDepth 100000
set_option linter.unusedVariables false

theorem mem_ctL {cs : List Ct} {i x : Int} : ∀ n, x ∈ ctL cs i n → ∃ m : Nat, m < n ∧ x = m
  | n + 1, h => by
    have h' : x ∈ ctL cs i n ++ (if fitsB (cs.getD n default).index i then [(n : Int)] else []) := h
    rcases List.mem_append.1 h' with h1 | h1
    · obtain ⟨m, hm, e⟩ := mem_ctL n h1
      exact ⟨m, by omega, e⟩
    · split at h1
      · exact ⟨n, by omega, by simpa using h1⟩
      · simp at h1
theorem mem_ctR {l : List Da} {t : Ty} {x : Int} (h : x ∈ ctR l t) : TyOK l t ∧ ∃ (d m : Nat) (hd : d < l.length), t.data = d ∧ x = m ∧ m < l[d].ctors.length := by
  by_cases ht : TyOK l t
  · refine ⟨ht, ?_⟩
    rcases ty_cases ht with h1 | ⟨d, h1, hd⟩
    · rw [ctR_int h1] at h; simp at h
    · obtain ⟨td, ti⟩ := t
      simp only at h1
      subst h1
      rw [ctR_data ht hd] at h
      obtain ⟨m, hm, e⟩ := mem_ctL _ h
      exact ⟨d, m, hd, rfl, e, hm⟩
  · rw [ctR_no ht] at h; simp at h
theorem args_three {l : List Da} (h : WorldOK l) {d m : Nat} (hd : d < l.length) (hm : m < l[d].ctors.length) : l[d].ctors[m].args.length ≤ 3 := by
  have h1 := h.2.1 d hd hd
  by_cases h3 : l[d].ctors[m].args.length ≤ 3
  · exact h3
  · have h2 := (data_bad (n := l.length) (all_bad hm (ctor_args (n := l.length) h3).symm)).symm
    rw [h1] at h2; cases h2

/-- The types of the arguments of a constructor for a type. -/
noncomputable def agR (l : List Da) (t : Ty) (x : Int) : List Ty := if dec (x ∈ ctR l t) then argT ((l.getD t.data.toNat default).ctors.getD x.toNat default) t.index else []
theorem agR_no {l : List Da} {t : Ty} {x : Int} (h : ¬ x ∈ ctR l t) : agR l t x = [] := by unfold agR; rw [dec_f h]; rfl
theorem agR_yes {l : List Da} {d m : Nat} {i : Int} (h : (m : Int) ∈ ctR l ⟨d, i⟩) (hd : d < l.length) (hm : m < l[d].ctors.length) : agR l ⟨d, i⟩ m = argT l[d].ctors[m] i := by
  have e : l.getD d default = l[d] := by simp [List.getD, List.getElem?_eq_getElem hd]
  have e2 : l[d].ctors.getD m default = l[d].ctors[m] := by simp [List.getD, List.getElem?_eq_getElem hm]
  unfold agR
  rw [dec_t h]
  simp only [if_true, Int.toNat_natCast, e, e2]
theorem agR_len (l : List Da) (t : Ty) (x : Int) : (agR l t x).length ≤ 3 := by
  by_cases h : x ∈ ctR l t
  · obtain ⟨ht, d, m, hd, h1, rfl, hm⟩ := mem_ctR h
    obtain ⟨td, ti⟩ := t
    simp only at h1
    subst h1
    rw [agR_yes h hd hm, argT_len]
    exact args_three ht.1 hd hm
  · rw [agR_no h]; simp

/-- A row of types whose first cells are marked. -/
def MarkedT (w : World) (lo : Nat) (v : Value) (n : Nat) (k : Int) (j : Nat) : Prop := ∃ xs, w.ownsRow lo 39 2 v n xs ∧ ∀ i, i < j * 2 → xs[i]? = some (.int .i64 (k + i))
/-- The marks lie there. -/
def RMkT (w : World) (A : Option Addr) (n : Nat) (k : Int) : Prop := ∀ j, j < n → ∃ b off, A = some ⟨b, off, none⟩ ∧ b < w.heap.size ∧ w.cell? ⟨b, off + j * 2, none⟩ = some (.int .i64 (k + 2 * j)) ∧ w.cell? ⟨b, off + j * 2 + 1, none⟩ = some (.int .i64 (k + 2 * j + 1))
theorem RMkT.at_ {w w' : World} {A : Option Addr} {n : Nat} {k : Int} (h : RMkT w A n k) (hb : Below w.heap.size w w') : RMkT w' A n k := fun j hj => by
  obtain ⟨b, off, e, hbl, h1, h2⟩ := h j hj
  exact ⟨b, off, e, Nat.lt_of_lt_of_le hbl hb.size, (hb.cell (p := ⟨b, off + j * 2, none⟩) hbl).trans h1, (hb.cell (p := ⟨b, off + j * 2 + 1, none⟩) hbl).trans h2⟩
theorem MarkedT.reads {w : World} {lo g n cap : Nat} {k : Int} (h : MarkedT w lo (.slice (some ⟨g, 0, none⟩) n cap) n k n) : RMkT w (some ⟨g, 0, none⟩) n k := fun j hj => by
  obtain ⟨xs, ho, hx⟩ := h
  refine ⟨g, 0, rfl, own_lt ho, ?_, ?_⟩
  · rw [Nat.zero_add, ho.cellAt (j * 2) (by omega), hx (j * 2) (by omega)]; congr 2; push_cast; omega
  · rw [Nat.zero_add, ho.cellAt (j * 2 + 1) (by omega), hx (j * 2 + 1) (by omega)]; congr 2; push_cast; omega

end Go.Proofs.YthebdlejoficmabDoor
/-
  The depth that a table of depths gives for a type and for a constructor: the document's functions. No statement is proved here.
-/
namespace Go.Proofs.YthebdlejoficmabDoor
open Go.RowKit
set_option maxRecDepth 100000
set_option linter.unusedVariables false

/-- The place of a data type with an index in a table. -/
def slotN (t : Ty) : Nat := (t.data * 4 + t.index).toNat
/-- The type of numbers, or a data type within n data types with an index for values. -/
def TyIn (n : Nat) (t : Ty) : Prop := t.data = -1 ∨ (0 ≤ t.data ∧ t.data < n ∧ 0 ≤ t.index ∧ t.index ≤ 3)
def dep (T : List Int) (t : Ty) : Int := if t.data = -1 then 1 else T.getD (slotN t) 0
theorem dep_int {T : List Int} {t : Ty} (h : t.data = -1) : dep T t = 1 := if_pos h
theorem dep_data {T : List Int} {t : Ty} (h : ¬ t.data = -1) (hs : slotN t < T.length) : dep T t = T[slotN t] := by
  unfold dep; rw [if_neg h]; simp [List.getD, List.getElem?_eq_getElem hs]

/-- The greatest depth of the first k arguments. -/
def maxTo (T : List Int) (l : List Ty) : Nat → Int
  | 0 => 0
  | k + 1 => if maxTo T l k < dep T (l.getD k default) then dep T (l.getD k default) else maxTo T l k
noncomputable def mostL (T : List Int) (l : List Ty) : Int := @ite _ (∃ a ∈ l, dep T a = 0) (Classical.propDecidable _) 0 (maxTo T l l.length + 1)

theorem most_no {T : List Int} {l : List Ty} {k : Nat} (hk : k < l.length) (h : dep T l[k] = 0) : 0 = mostL T l := by
  unfold mostL; rw [if_pos ⟨l[k], List.getElem_mem hk, h⟩]
theorem most_yes {T : List Int} {l : List Ty} (h : ∀ j (hj : j < l.length), ¬ dep T l[j] = 0) : maxTo T l l.length + 1 = mostL T l := by
  unfold mostL
  rw [if_neg]
  rintro ⟨a, ha, h0⟩
  obtain ⟨j, hj, rfl⟩ := List.getElem_of_mem ha
  exact h j hj h0
theorem maxTo_succ {T : List Int} {l : List Ty} {k : Nat} (hk : k < l.length) : maxTo T l (k + 1) = if maxTo T l k < dep T l[k] then dep T l[k] else maxTo T l k := by
  show (if maxTo T l k < dep T (l.getD k default) then dep T (l.getD k default) else maxTo T l k) = _
  have e : l.getD k default = l[k] := by simp [List.getD, List.getElem?_eq_getElem hk]
  rw [e]
def Known (T : List Int) (l : List Ty) (k : Nat) : Prop := ∀ j (hj : j < l.length), j < k → ¬ dep T l[j] = 0
theorem Known.zero (T : List Int) (l : List Ty) : Known T l 0 := fun j _ h => absurd h (by omega)
theorem Known.step {T : List Int} {l : List Ty} {k : Nat} (h : Known T l k) (hk : k < l.length) (e : ¬ dep T l[k] = 0) : Known T l (k + 1) := by
  intro j hj hjk
  by_cases e' : j = k
  · subst e'; exact e
  · exact h j hj (by omega)
theorem dep_bd {T : List Int} (hT : ∀ x ∈ T, 0 ≤ x ∧ x ≤ 5000) (t : Ty) : 0 ≤ dep T t ∧ dep T t ≤ 5000 := by
  unfold dep
  by_cases h : t.data = -1
  · rw [if_pos h]; omega
  · rw [if_neg h]
    by_cases hs : slotN t < T.length
    · simp only [List.getD, List.getElem?_eq_getElem hs, Option.getD_some]
      exact hT _ (List.getElem_mem hs)
    · simp [List.getD, List.getElem?_eq_none (Nat.le_of_not_lt hs)]
theorem maxTo_bd {T : List Int} (hT : ∀ x ∈ T, 0 ≤ x ∧ x ≤ 5000) (l : List Ty) : ∀ k, 0 ≤ maxTo T l k ∧ maxTo T l k ≤ 5000
  | 0 => by show 0 ≤ (0 : Int) ∧ (0 : Int) ≤ 5000; omega
  | k + 1 => by
    have h1 := maxTo_bd hT l k
    have h2 := dep_bd hT (l.getD k default)
    show 0 ≤ (if maxTo T l k < dep T (l.getD k default) then dep T (l.getD k default) else maxTo T l k) ∧ (if maxTo T l k < dep T (l.getD k default) then dep T (l.getD k default) else maxTo T l k) ≤ 5000
    split <;> omega

end Go.Proofs.YthebdlejoficmabDoor
/-
  Plain mathematics: a growing family of sets over a list comes to rest within as many steps as the list is long. No program is imported here.
-/
namespace Go.Proofs.YthebdlejoficmabDoor
section
variable {α : Type} (F : (α → Prop) → α → Prop)
/-- Those that are made within k rounds. -/
def Dk : Nat → α → Prop
  | 0 => fun _ => False
  | k + 1 => F (Dk k)
/-- The members of a list for which something holds, counted. -/
noncomputable def cnt (ts : List α) (P : α → Prop) : Nat := (ts.filter fun t => @decide (P t) (Classical.propDecidable _)).length
theorem cnt_le (ts : List α) (P : α → Prop) : cnt ts P ≤ ts.length := List.length_filter_le _ _
theorem cnt_mono : ∀ (ts : List α) (P Q : α → Prop), (∀ t ∈ ts, P t → Q t) → cnt ts P ≤ cnt ts Q
  | [], _, _, _ => Nat.le_refl _
  | t :: ts, P, Q, h => by
    have ih := cnt_mono ts P Q (fun x hx => h x (List.mem_cons_of_mem _ hx))
    unfold cnt at ih ⊢
    by_cases hp : P t
    · have hq := h t (List.mem_cons_self) hp
      rw [List.filter_cons_of_pos (by simpa using hp), List.filter_cons_of_pos (by simpa using hq)]
      simp only [List.length_cons]; omega
    · rw [List.filter_cons_of_neg (by simpa using hp)]
      by_cases hq : Q t
      · rw [List.filter_cons_of_pos (by simpa using hq)]; simp only [List.length_cons]; omega
      · rw [List.filter_cons_of_neg (by simpa using hq)]; exact ih
theorem cnt_lt : ∀ (ts : List α) (P Q : α → Prop), (∀ t ∈ ts, P t → Q t) → (∃ t ∈ ts, Q t ∧ ¬ P t) → cnt ts P + 1 ≤ cnt ts Q
  | [], _, _, _, ⟨t, ht, _⟩ => by cases ht
  | t :: ts, P, Q, h, ⟨x, hx, hq, hp⟩ => by
    have hm := cnt_mono ts P Q (fun y hy => h y (List.mem_cons_of_mem _ hy))
    by_cases ht : Q t ∧ ¬ P t
    · unfold cnt at hm ⊢
      rw [List.filter_cons_of_neg (by simpa using ht.2), List.filter_cons_of_pos (by simpa using ht.1)]
      simp only [List.length_cons]; omega
    · have hxt : x ∈ ts := by
        rcases List.mem_cons.1 hx with rfl | hx'
        · exact absurd ⟨hq, hp⟩ ht
        · exact hx'
      have ih := cnt_lt ts P Q (fun y hy => h y (List.mem_cons_of_mem _ hy)) ⟨x, hxt, hq, hp⟩
      unfold cnt at ih ⊢
      by_cases hp' : P t
      · have hq' := h t (List.mem_cons_self) hp'
        rw [List.filter_cons_of_pos (by simpa using hp'), List.filter_cons_of_pos (by simpa using hq')]
        simp only [List.length_cons]; omega
      · have hq' : ¬ Q t := fun e => ht ⟨e, hp'⟩
        rw [List.filter_cons_of_neg (by simpa using hp'), List.filter_cons_of_neg (by simpa using hq')]; exact ih

variable {F} {ts : List α} (hF : ∀ P Q : α → Prop, (∀ t ∈ ts, P t → Q t) → ∀ t ∈ ts, F P t → F Q t)
include hF
theorem Dk_step : ∀ k, ∀ t ∈ ts, Dk F k t → Dk F (k + 1) t
  | 0, _, _, h => h.elim
  | k + 1, t, ht, h => hF (Dk F k) (Dk F (k + 1)) (Dk_step k) t ht h
theorem Dk_le {j k : Nat} (h : j ≤ k) : ∀ t ∈ ts, Dk F j t → Dk F k t := by
  induction h with
  | refl => exact fun _ _ h => h
  | step _ ih => exact fun t ht h => Dk_step hF _ t ht (ih t ht h)
/-- Once a round makes nothing new, none does. -/
theorem Dk_rest {k : Nat} (h : ∀ t ∈ ts, Dk F (k + 1) t → Dk F k t) : ∀ j, k ≤ j → ∀ t ∈ ts, Dk F j t → Dk F k t := by
  intro j hj
  induction hj with
  | refl => exact fun _ _ h => h
  | step _ ih => exact fun t ht hd => h t ht (hF _ _ ih t ht hd)
/-- Whatever is made at all is made within as many rounds as there are members. -/
theorem Dk_bound {t : α} (ht : t ∈ ts) {j : Nat} (h : Dk F j t) : Dk F ts.length t := by
  by_cases hs : ∃ k, k ≤ ts.length ∧ ∀ t ∈ ts, Dk F (k + 1) t → Dk F k t
  · obtain ⟨k, hk, hr⟩ := hs
    by_cases hj : k ≤ j
    · exact Dk_le hF hk t ht (Dk_rest hF hr j hj t ht h)
    · exact Dk_le hF (by omega) t ht h
  · exfalso
    have hc : ∀ k, k ≤ ts.length + 1 → k ≤ cnt ts (Dk F k) := by
      intro k
      induction k with
      | zero => intro _; omega
      | succ k ih =>
        intro hk
        have h1 := ih (by omega)
        have h2 : ∃ t ∈ ts, Dk F (k + 1) t ∧ ¬ Dk F k t := by
          apply Classical.byContradiction
          intro hn
          apply hs
          refine ⟨k, by omega, fun t ht hd => ?_⟩
          apply Classical.byContradiction
          intro hnd
          exact hn ⟨t, ht, hd, hnd⟩
        have := cnt_lt ts (Dk F k) (Dk F (k + 1)) (Dk_step hF k) h2
        omega
    have h1 := hc (ts.length + 1) (by omega)
    have h2 := cnt_le ts (Dk F (ts.length + 1))
    omega
end
end Go.Proofs.YthebdlejoficmabDoor
/-
  What a table of depths says, and what one step does to it. No statement is proved here.
-/
namespace Go.Proofs.YthebdlejoficmabDoor
set_option linter.unusedVariables false

/-- A type is made if it is the type of numbers, or one of its constructors has arguments that are made. -/
def mkF (l : List Da) (P : Ty → Prop) (t : Ty) : Prop :=
  t.data = -1 ∨ ∃ (d : Nat) (hd : d < l.length) (m : Nat) (hm : m < l[d].ctors.length), t.data = d ∧ fitsB l[d].ctors[m].index t.index = true ∧ ∀ a ∈ argT l[d].ctors[m] t.index, P a
theorem mkF_mono {l : List Da} {P Q : Ty → Prop} (h : ∀ t, P t → Q t) (t : Ty) (hp : mkF l P t) : mkF l Q t := by
  rcases hp with h0 | ⟨d, hd, m, hm, h1, h2, h3⟩
  · exact .inl h0
  · exact .inr ⟨d, hd, m, hm, h1, h2, fun a ha => h a (h3 a ha)⟩
theorem Dk_up {l : List Da} : ∀ k t, Dk (mkF l) k t → Dk (mkF l) (k + 1) t
  | 0, _, h => h.elim
  | k + 1, t, h => mkF_mono (Dk_up k) t h
theorem Dk_up_le {l : List Da} {j k : Nat} (h : j ≤ k) : ∀ t, Dk (mkF l) j t → Dk (mkF l) k t := by
  induction h with
  | refl => exact fun _ h => h
  | step _ ih => exact fun t ht => Dk_up _ t (ih t ht)
/-- Each entry that isn't 0 is a depth of its type. -/
def Sound (l : List Da) (T : List Int) : Prop := ∀ t, TyIn l.length t → ¬ dep T t = 0 → 0 < dep T t ∧ Dk (mkF l) (dep T t).toNat t
/-- Every type that is made within k rounds has an entry of at most k. -/
def Full (l : List Da) (T : List Int) (k : Nat) (t : Ty) : Prop := Dk (mkF l) k t → ¬ dep T t = 0 ∧ dep T t ≤ k
/-- T' has entries where T has, and none is greater. -/
def Less (T T' : List Int) : Prop := ∀ t, ¬ dep T t = 0 → ¬ dep T' t = 0 ∧ dep T' t ≤ dep T t
theorem Less.refl (T : List Int) : Less T T := fun t h => ⟨h, Int.le_refl _⟩
theorem Full.less {l : List Da} {T T' : List Int} {k : Nat} {t : Ty} (h : Full l T k t) (hl : Less T T') : Full l T' k t := fun hd => by
  obtain ⟨h1, h2⟩ := h hd
  obtain ⟨h3, h4⟩ := hl t h1
  exact ⟨h3, by omega⟩
theorem maxTo_ge {T : List Int} {L : List Ty} : ∀ k, k ≤ L.length → ∀ j (hj : j < L.length), j < k → dep T L[j] ≤ maxTo T L k
  | k + 1, hk, j, hj, hjk => by
    rw [maxTo_succ (by omega)]
    by_cases e : j = k
    · subst e; split <;> omega
    · have h5 : dep T L[j] ≤ maxTo T L k := maxTo_ge k (by omega) j hj (by omega)
      split <;> omega
theorem maxTo_le {T : List Int} {L : List Ty} {b : Int} (h0 : 0 ≤ b) (h : ∀ j (hj : j < L.length), dep T L[j] ≤ b) : ∀ k, k ≤ L.length → maxTo T L k ≤ b
  | 0, _ => h0
  | k + 1, hk => by
    have h1 := maxTo_le h0 h k (by omega)
    have h2 := h k (by omega)
    rw [maxTo_succ (by omega)]
    split <;> omega
/-- What a constructor gives: nothing, or a depth of its type. -/
theorem most_sound {l : List Da} {T : List Int} {d m : Nat} {ix : Int} (hd : d < l.length) (hm : m < l[d].ctors.length) (hf : fitsB l[d].ctors[m].index ix = true) (hs : Sound l T) (hin : ∀ a ∈ argT l[d].ctors[m] ix, TyIn l.length a) (hb : ∀ x ∈ T, 0 ≤ x ∧ x ≤ 5000)
    (h : ¬ mostL T (argT l[d].ctors[m] ix) = 0) : 0 < mostL T (argT l[d].ctors[m] ix) ∧ Dk (mkF l) (mostL T (argT l[d].ctors[m] ix)).toNat ⟨d, ix⟩ := by
  by_cases hz : ∃ a ∈ argT l[d].ctors[m] ix, dep T a = 0
  · exact absurd (by unfold mostL; rw [if_pos hz]) h
  · have he : mostL T (argT l[d].ctors[m] ix) = maxTo T (argT l[d].ctors[m] ix) (argT l[d].ctors[m] ix).length + 1 := by unfold mostL; rw [if_neg hz]
    have hm0 := maxTo_bd hb (argT l[d].ctors[m] ix) (argT l[d].ctors[m] ix).length
    rw [he]
    refine ⟨by omega, ?_⟩
    rw [show (maxTo T (argT l[d].ctors[m] ix) (argT l[d].ctors[m] ix).length + 1).toNat = (maxTo T (argT l[d].ctors[m] ix) (argT l[d].ctors[m] ix).length).toNat + 1 by omega]
    have key : ∀ a ∈ argT l[d].ctors[m] ix, Dk (mkF l) (maxTo T (argT l[d].ctors[m] ix) (argT l[d].ctors[m] ix).length).toNat a := fun a ha => by
      obtain ⟨j, hj, rfl⟩ := List.getElem_of_mem ha
      have hnz : ¬ dep T (argT l[d].ctors[m] ix)[j] = 0 := fun e => hz ⟨_, ha, e⟩
      obtain ⟨h1, h2⟩ := hs _ (hin _ ha) hnz
      have h3 : dep T (argT l[d].ctors[m] ix)[j] ≤ maxTo T (argT l[d].ctors[m] ix) (argT l[d].ctors[m] ix).length := maxTo_ge _ (Nat.le_refl _) j hj hj
      exact Dk_up_le (by omega) _ h2
    exact .inr ⟨d, hd, m, hm, rfl, hf, key⟩
/-- .. and no more than one more than its arguments' depths. -/
theorem most_full {l : List Da} {T : List Int} {L : List Ty} {n : Nat} (hfull : ∀ a ∈ L, Full l T n a) (h : ∀ a ∈ L, Dk (mkF l) n a) : ¬ mostL T L = 0 ∧ mostL T L ≤ n + 1 := by
  have hz : ¬ ∃ a ∈ L, dep T a = 0 := fun ⟨a, ha, e⟩ => (hfull a ha (h a ha)).1 e
  have he : mostL T L = maxTo T L L.length + 1 := by unfold mostL; rw [if_neg hz]
  have hle := maxTo_le (T := T) (L := L) (b := n) (by omega) (fun j hj => (hfull _ (List.getElem_mem hj) (h _ (List.getElem_mem hj))).2) L.length (Nat.le_refl _)
  have hge : 0 ≤ maxTo T L L.length := by
    have : ∀ k, k ≤ L.length → 0 ≤ maxTo T L k := by
      intro k
      induction k with
      | zero => intro _; exact Int.le_refl 0
      | succ k ih =>
        intro hk
        have := ih (by omega)
        rw [maxTo_succ (by omega)]
        split <;> omega
    exact this _ (Nat.le_refl _)
  rw [he]
  omega

/-! One entry that is set. -/
theorem slot_inj {n : Nat} {t u : Ty} (ht : TyIn n t) (hu : TyIn n u) (h1 : ¬ t.data = -1) (h2 : ¬ u.data = -1) (h : slotN t = slotN u) : t = u := by
  obtain ⟨a, b⟩ := t
  obtain ⟨c, e⟩ := u
  have h3 := ht.resolve_left h1
  have h4 := hu.resolve_left h2
  unfold slotN at h
  simp only at *
  have : a = c := by omega
  have : b = e := by omega
  simp_all
theorem dep_set_same {T : List Int} {t : Ty} {v : Int} (h : ¬ t.data = -1) (hs : slotN t < T.length) : dep (T.set (slotN t) v) t = v := by
  rw [dep_data h (by simpa using hs), List.getElem_set_self]
theorem dep_set_other {T : List Int} {t : Ty} {s : Nat} {v : Int} (h : t.data = -1 ∨ ¬ slotN t = s) : dep (T.set s v) t = dep T t := by
  unfold dep
  by_cases hd : t.data = -1
  · rw [if_pos hd, if_pos hd]
  · rw [if_neg hd, if_neg hd]
    have hne := h.resolve_left hd
    simp only [List.getD]
    rw [List.getElem?_set_ne (by omega)]
theorem less_set {T : List Int} {s : Nat} {v : Int} (hs : s < T.length) (h0 : ¬ v = 0) (h : T[s] = 0 ∨ v ≤ T[s]) : Less T (T.set s v) := fun t ht => by
  by_cases e : t.data = -1 ∨ ¬ slotN t = s
  · rw [dep_set_other e]; exact ⟨ht, Int.le_refl _⟩
  · have e1 : ¬ t.data = -1 := fun h => e (.inl h)
    have e2 : slotN t = s := Classical.byContradiction fun h => e (.inr h)
    subst e2
    rw [dep_set_same e1 hs]
    rw [dep_data e1 hs] at ht ⊢
    exact ⟨h0, h.resolve_left ht⟩
theorem sound_set {l : List Da} {T : List Int} {t : Ty} {v : Int} (hT : T.length = l.length * 4) (hs : Sound l T) (ht : TyIn l.length t) (hd : ¬ t.data = -1) (hv : 0 < v) (hk : Dk (mkF l) v.toNat t) : Sound l (T.set (slotN t) v) := fun u hu h0 => by
  by_cases e : u.data = -1 ∨ ¬ slotN u = slotN t
  · rw [dep_set_other e] at h0 ⊢; exact hs u hu h0
  · have e1 : ¬ u.data = -1 := fun h => e (.inl h)
    have e2 : slotN u = slotN t := Classical.byContradiction fun h => e (.inr h)
    have e3 := slot_inj hu ht e1 hd e2
    subst e3
    have hsl : slotN u < T.length := by
      have h3 := hu.resolve_left e1
      unfold slotN; omega
    rw [dep_set_same e1 hsl]
    exact ⟨hv, hk⟩
end Go.Proofs.YthebdlejoficmabDoor
/-
  The depth that a table gives for a constructor of a valid type; the places of a table as types. No statement is proved here.
-/
namespace Go.Proofs.YthebdlejoficmabDoor
open Go.RowKit
set_option maxRecDepth 100000
set_option linter.unusedVariables false

theorem ctor_parts {n : Int} {c : Ct} (h : ctorB n c = true) : (0 ≤ c.index ∧ c.index ≤ 3) ∧ ∀ a ∈ c.args, argB n (-1) a = true := by
  refine ⟨?_, ?_⟩
  · by_cases h1 : 0 ≤ c.index ∧ c.index ≤ 3
    · exact h1
    · have := ctor_index (n := n) h1; rw [h] at this; cases this
  · intro a ha
    by_cases h2 : c.args.all (argB n (-1)) = true
    · exact List.all_eq_true.1 h2 a ha
    · have h3 : c.args.all (argB n (-1)) = false := by simpa using h2
      have := ctor_bad h3; rw [h] at this; cases this
theorem world_ctor {l : List Da} (h : WorldOK l) {d m : Nat} (hd : d < l.length) (hm : m < l[d].ctors.length) : ctorB l.length l[d].ctors[m] = true := by
  have h1 := h.2.1 d hd hd
  by_cases h2 : ctorB l.length l[d].ctors[m] = true
  · exact h2
  · have h3 : ctorB l.length l[d].ctors[m] = false := by simpa using h2
    have := data_bad (n := l.length) (all_bad hm h3); rw [h1] at this; cases this
theorem args_in {l : List Da} (h : WorldOK l) {d m : Nat} (hd : d < l.length) (hm : m < l[d].ctors.length) {ix : Int} (h0 : 0 ≤ ix) (h3 : ix ≤ 3) : ∀ a ∈ argT l[d].ctors[m] ix, TyIn l.length a := by
  intro a ha
  obtain ⟨hi, hargs⟩ := ctor_parts (world_ctor h hd hm)
  unfold argT at ha
  obtain ⟨b, hb, rfl⟩ := List.mem_map.1 ha
  have hB := hargs b hb
  by_cases hb1 : b.data = -1
  · left
    unfold argOf
    split <;> exact hb1
  · rw [argB_data hb1] at hB
    have hp := of_decide_eq_true hB
    right
    by_cases hs : b.index = -1
    · rw [argOf_same hs]
      unfold resI
      simp only
      split <;> omega
    · rw [argOf_other hs]
      omega

/-- The type of a place in the table. -/
def tyAt (s : Nat) : Ty := ⟨(s : Int) / 4, (s : Int) % 4⟩
theorem tyAt_slot (s : Nat) : slotN (tyAt s) = s := by unfold slotN tyAt; simp only; omega
theorem tyAt_data (s : Nat) : ¬ (tyAt s).data = -1 := by unfold tyAt; simp only; omega
theorem tyAt_in {n s : Nat} (h : s < n * 4) : TyIn n (tyAt s) := by right; unfold tyAt; simp only; omega
theorem tyAt_ok {l : List Da} (h : WorldOK l) {s : Nat} (hs : s < l.length * 4) : TyOK l (tyAt s) := by
  refine ⟨h, ?_⟩
  rw [argB_data (tyAt_data s)]
  exact decide_eq_true (by unfold tyAt; simp only; omega)
theorem in_tyAt {n : Nat} {t : Ty} (h : TyIn n t) (hd : ¬ t.data = -1) : t = tyAt (slotN t) ∧ slotN t < n * 4 := by
  obtain ⟨a, b⟩ := t
  have h1 := h.resolve_left hd
  unfold tyAt slotN
  simp only at *
  refine ⟨?_, by omega⟩
  have e1 : (((a * 4 + b).toNat : Nat) : Int) = a * 4 + b := by omega
  rw [e1]
  congr 1 <;> omega
theorem fits_of_mem {cs : List Ct} {i x : Int} : ∀ n, n ≤ cs.length → x ∈ ctL cs i n → ∃ (m : Nat) (hm : m < cs.length), x = m ∧ fitsB cs[m].index i = true
  | n + 1, hn, h => by
    have h' : x ∈ ctL cs i n ++ (if fitsB (cs.getD n default).index i then [(n : Int)] else []) := h
    have e : cs.getD n default = cs[n] := by simp [List.getD, List.getElem?_eq_getElem (show n < cs.length by omega)]
    rcases List.mem_append.1 h' with h1 | h1
    · exact fits_of_mem n (by omega) h1
    · rw [e] at h1
      split at h1
      · rename_i hf
        exact ⟨n, by omega, by simpa using h1, hf⟩
      · simp at h1
theorem mem_of_fits {cs : List Ct} {i : Int} {m : Nat} (hm : m < cs.length) (hf : fitsB cs[m].index i = true) : ∀ n, m < n → n ≤ cs.length → (m : Int) ∈ ctL cs i n
  | n + 1, h1, h2 => by
    by_cases e : m = n
    · subst e; rw [ctL_yes hm hf]; exact List.mem_append_right _ (by simp)
    · have := mem_of_fits hm hf n (by omega) (by omega)
      show (m : Int) ∈ ctL cs i n ++ _
      exact List.mem_append_left _ this
end Go.Proofs.YthebdlejoficmabDoor
/-
  What the three loops over a table keep, step by step. No statement is proved here.
-/
namespace Go.Proofs.YthebdlejoficmabDoor
set_option maxRecDepth 100000
set_option linter.unusedVariables false

/-- A constructor of a place has been looked at: if its arguments are made within n rounds, the entry is at most n + 1. -/
def Okc (l : List Da) (T : List Int) (n s : Nat) (x : Int) : Prop := ∀ (d : Nat) (hd : d < l.length) (m : Nat) (hm : m < l[d].ctors.length), (tyAt s).data = d → x = m →
  (∀ a ∈ argT l[d].ctors[m] (tyAt s).index, Dk (mkF l) n a) → ¬ dep T (tyAt s) = 0 ∧ dep T (tyAt s) ≤ n + 1
/-- After n passes, s places and i constructors. -/
structure St (l : List Da) (T : List Int) (n s i : Nat) : Prop where
  len : T.length = l.length * 4
  bd : ∀ x ∈ T, 0 ≤ x ∧ x ≤ 64 * n + 4 * s + i + 1
  sound : Sound l T
  full : ∀ k, k ≤ n → ∀ t, TyIn l.length t → Full l T k t
  row : ∀ a, a < s → Full l T (n + 1) (tyAt a)
  ctors : ∀ j, j < i → ∀ x, (ctR l (tyAt s))[j]? = some x → Okc l T n s x

theorem St.start (l : List Da) (T : List Int) (hl : T.length = l.length * 4) (h0 : ∀ x ∈ T, x = 0) : St l T 0 0 0 where
  len := hl
  bd := fun x hx => by have := h0 x hx; omega
  sound := fun t ht hd => by
    by_cases h : t.data = -1
    · rw [dep_int h]; exact ⟨by omega, .inl h⟩
    · have hs : slotN t < T.length := by rw [hl]; exact (in_tyAt ht h).2
      rw [dep_data h hs] at hd
      exact absurd (h0 _ (List.getElem_mem hs)) hd
  full := fun k hk t ht hd => by
    have : k = 0 := by omega
    subst this
    exact hd.elim
  row := fun a h => absurd h (by omega)
  ctors := fun j h => absurd h (by omega)

theorem Okc.less {l : List Da} {T T' : List Int} {n s : Nat} {x : Int} (h : Okc l T n s x) (hl : Less T T') : Okc l T' n s x := fun d hd m hm h1 h2 h3 => by
  obtain ⟨h4, h5⟩ := h d hd m hm h1 h2 h3
  obtain ⟨h6, h7⟩ := hl _ h4
  exact ⟨h6, by omega⟩

/-- One constructor more: the table as it was, or with the entry set. -/
theorem St.step {l : List Da} {T T' : List Int} {n s i : Nat} {d m : Nat} (h : St l T n s i) (hw : WorldOK l) (hs : s < l.length * 4) (hn : n ≤ 16) (hi : i ≤ 4)
    (hd : d < l.length) (hm : m < l[d].ctors.length) (hdt : (tyAt s).data = d) (hx : (ctR l (tyAt s))[i]? = some (m : Int)) (hf : fitsB l[d].ctors[m].index (tyAt s).index = true)
    (hT : (T' = T ∧ (mostL T (argT l[d].ctors[m] (tyAt s).index) = 0 ∨ (¬ dep T (tyAt s) = 0 ∧ dep T (tyAt s) ≤ mostL T (argT l[d].ctors[m] (tyAt s).index)))) ∨
      (T' = T.set s (mostL T (argT l[d].ctors[m] (tyAt s).index)) ∧ 0 < mostL T (argT l[d].ctors[m] (tyAt s).index) ∧ (dep T (tyAt s) = 0 ∨ mostL T (argT l[d].ctors[m] (tyAt s).index) < dep T (tyAt s)))) : St l T' n s (i + 1) := by
  have hl4 := hw.1
  have hsT : s < T.length := by rw [h.len]; exact hs
  have hix : 0 ≤ (tyAt s).index ∧ (tyAt s).index ≤ 3 := by unfold tyAt; simp only; omega
  have hin := args_in hw hd hm hix.1 hix.2
  have hb : ∀ x ∈ T, 0 ≤ x ∧ x ≤ 5000 := fun x hx => by have := h.bd x hx; omega
  have hds : dep T (tyAt s) = T[s] := by
    have e := dep_data (T := T) (tyAt_data s) (by rw [tyAt_slot]; exact hsT)
    rw [e]; congr 1; exact tyAt_slot s
  have hmb : mostL T (argT l[d].ctors[m] (tyAt s).index) ≤ 64 * n + 4 * s + i + 1 + 1 := by
    unfold mostL
    split
    · omega
    · have := maxTo_le (T := T) (L := argT l[d].ctors[m] (tyAt s).index) (b := 64 * n + 4 * s + i + 1) (by omega) (fun j hj => by
        unfold dep
        split
        · omega
        · by_cases hq : slotN (argT l[d].ctors[m] (tyAt s).index)[j] < T.length
          · simp only [List.getD, List.getElem?_eq_getElem hq, Option.getD_some]; exact (h.bd _ (List.getElem_mem hq)).2
          · simp only [List.getD, List.getElem?_eq_none (Nat.le_of_not_lt hq), Option.getD_none]; omega) _ (Nat.le_refl _)
      omega
  have hless : Less T T' := by
    rcases hT with ⟨rfl, _⟩ | ⟨rfl, h1, h2⟩
    · exact Less.refl _
    · refine less_set hsT (by omega) ?_
      rw [← hds]
      exact h2.imp id (fun h => by omega)
  have hnew : Okc l T' n s (m : Int) := fun d' hd' m' hm' e1 e2 hargs => by
    have : d' = d := by rw [hdt] at e1; omega
    subst this
    have : m' = m := by omega
    subst this
    obtain ⟨h1, h2⟩ := most_full (T := T) (n := n) (fun a ha => h.full n (Nat.le_refl _) a (hin a ha)) hargs
    rcases hT with ⟨rfl, h3 | ⟨h3, h4⟩⟩ | ⟨rfl, h3, h4⟩
    · exact absurd h3 h1
    · exact ⟨h3, by omega⟩
    · have e : dep (T.set s (mostL T (argT l[d'].ctors[m'] (tyAt s).index))) (tyAt s) = mostL T (argT l[d'].ctors[m'] (tyAt s).index) := by
        have := dep_set_same (T := T) (t := tyAt s) (v := mostL T (argT l[d'].ctors[m'] (tyAt s).index)) (tyAt_data s) (by rw [tyAt_slot]; exact hsT)
        rwa [tyAt_slot] at this
      rw [e]
      exact ⟨h1, h2⟩
  refine ⟨?_, ?_, ?_, ?_, ?_, ?_⟩
  · rcases hT with ⟨rfl, _⟩ | ⟨rfl, _⟩
    · exact h.len
    · simpa using h.len
  · intro x hx
    rcases hT with ⟨rfl, _⟩ | ⟨rfl, h1, _⟩
    · have := h.bd x hx; omega
    · rcases List.mem_or_eq_of_mem_set hx with h2 | rfl
      · have := h.bd x h2; omega
      · omega
  · rcases hT with ⟨rfl, _⟩ | ⟨rfl, h1, h2⟩
    · exact h.sound
    · have hk := (most_sound hd hm hf h.sound hin hb (by omega)).2
      have e : (⟨(d : Int), (tyAt s).index⟩ : Ty) = tyAt s := by rw [← hdt]
      rw [e] at hk
      have := sound_set h.len h.sound (tyAt_in hs) (tyAt_data s) h1 hk
      rwa [tyAt_slot] at this
  · exact fun k hk t ht => (h.full k hk t ht).less hless
  · exact fun a ha => (h.row a ha).less hless
  · intro j hj x hx'
    by_cases e : j = i
    · subst e
      rw [hx] at hx'
      cases hx'
      exact hnew
    · exact (h.ctors j (by omega) x hx').less hless
/-- One place more. -/
theorem St.place {l : List Da} {T : List Int} {n s i : Nat} (h : St l T n s i) (hw : WorldOK l) (hs : s < l.length * 4) (hi : (ctR l (tyAt s)).length ≤ i) (hi4 : i ≤ 4) : St l T n (s + 1) 0 where
  len := h.len
  bd := fun x hx => by have := h.bd x hx; omega
  sound := h.sound
  full := h.full
  row := fun a ha => by
    by_cases e : a = s
    · subst e
      intro hd
      rcases hd with h0 | ⟨d, hdl, m, hm, h1, h2, h3⟩
      · exact absurd h0 (tyAt_data a)
      · have hok := tyAt_ok hw hs
        have hmem : (m : Int) ∈ ctR l (tyAt a) := by
          have e2 : tyAt a = ⟨(d : Int), (tyAt a).index⟩ := by rw [← h1]
          rw [e2] at hok ⊢
          rw [ctR_data hok hdl]
          exact mem_of_fits hm h2 _ hm (Nat.le_refl _)
        obtain ⟨j, hj, e3⟩ := List.getElem_of_mem hmem
        have := h.ctors j (by omega) (m : Int) (by rw [List.getElem?_eq_getElem hj, e3]) d hdl m hm h1 rfl h3
        push_cast
        exact this
    · exact h.row a (by omega)
  ctors := fun j h => absurd h (by omega)
/-- One pass more. -/
theorem St.pass {l : List Da} {T : List Int} {n s : Nat} (h : St l T n s 0) (hl4 : l.length ≤ 4) (hs : s = l.length * 4) : St l T (n + 1) 0 0 where
  len := h.len
  bd := fun x hx => by have := h.bd x hx; push_cast; omega
  sound := h.sound
  full := fun k hk t ht => by
    by_cases e : k = n + 1
    · subst e
      by_cases hd : t.data = -1
      · intro _; rw [dep_int hd]; exact ⟨by omega, by push_cast; omega⟩
      · obtain ⟨e1, e2⟩ := in_tyAt ht hd
        rw [e1]
        exact h.row _ (by omega)
    · exact h.full k (by omega) t ht
  row := fun a h => absurd h (by omega)
  ctors := fun j h => absurd h (by omega)
end Go.Proofs.YthebdlejoficmabDoor
/-
  The least depth of a type; that a table of depths holds it after as many passes as there are types. No statement is proved here.
-/
namespace Go.Proofs.YthebdlejoficmabDoor
set_option maxRecDepth 100000
set_option linter.unusedVariables false

theorem least_of {P : Nat → Prop} {k : Nat} (h : P k) : ∃ n, n ≤ k ∧ P n ∧ ∀ j, j < n → ¬ P j := by
  induction k using Nat.strongRecOn with
  | ind k ih =>
    by_cases hs : ∃ j, j < k ∧ P j
    · obtain ⟨j, hj, hp⟩ := hs
      obtain ⟨n, h1, h2, h3⟩ := ih j hj hp
      exact ⟨n, by omega, h2, h3⟩
    · exact ⟨k, Nat.le_refl _, h, fun j hj hp => hs ⟨j, hj, hp⟩⟩

/-- n is the least depth of t, or 0 if t has no values. -/
def Ld (l : List Da) (t : Ty) (n : Int) : Prop := (n = 0 ∧ ∀ k, ¬ Dk (mkF l) k t) ∨ (0 < n ∧ Dk (mkF l) n.toNat t ∧ ∀ j, j < n.toNat → ¬ Dk (mkF l) j t)
theorem ld_exists (l : List Da) (t : Ty) : ∃ n, Ld l t n := by
  by_cases h : ∃ k, Dk (mkF l) k t
  · obtain ⟨k, hk⟩ := h
    obtain ⟨n, _, h2, h3⟩ := least_of (P := fun k => Dk (mkF l) k t) hk
    have hn : 0 < n := by
      rcases Nat.eq_zero_or_pos n with rfl | h
      · exact h2.elim
      · exact h
    exact ⟨(n : Int), .inr ⟨by omega, by rw [Int.toNat_natCast]; exact h2, fun j hj => h3 j (by omega)⟩⟩
  · exact ⟨0, .inl ⟨rfl, fun k hk => h ⟨k, hk⟩⟩⟩
theorem ld_unique {l : List Da} {t : Ty} {n m : Int} (h : Ld l t n) (h' : Ld l t m) : n = m := by
  rcases h with ⟨rfl, h1⟩ | ⟨h0, h1, h2⟩
  · rcases h' with ⟨rfl, _⟩ | ⟨_, h4, _⟩
    · rfl
    · exact absurd h4 (h1 _)
  · rcases h' with ⟨rfl, h3⟩ | ⟨h3, h4, h5⟩
    · exact absurd h1 (h3 _)
    · have a1 : ¬ n.toNat < m.toNat := fun h => h5 _ h h1
      have a2 : ¬ m.toNat < n.toNat := fun h => h2 _ h h4
      omega
noncomputable def ldep (l : List Da) (t : Ty) : Int := Classical.choose (ld_exists l t)
theorem ldep_is (l : List Da) (t : Ty) : Ld l t (ldep l t) := Classical.choose_spec (ld_exists l t)
theorem ldep_eq {l : List Da} {t : Ty} {n : Int} (h : Ld l t n) : n = ldep l t := ld_unique h (ldep_is l t)
theorem ldep_nonneg (l : List Da) (t : Ty) : 0 ≤ ldep l t := by
  rcases ldep_is l t with ⟨h, _⟩ | ⟨h, _⟩ <;> omega
theorem ldep_pos {l : List Da} {t : Ty} {k : Nat} (h : Dk (mkF l) k t) : 0 < ldep l t := by
  rcases ldep_is l t with ⟨_, h1⟩ | ⟨h1, _⟩
  · exact absurd h (h1 _)
  · exact h1
theorem ldep_int {l : List Da} {t : Ty} (h : t.data = -1) : (1 : Int) = ldep l t := by
  refine ldep_eq (.inr ⟨by omega, .inl h, fun j hj => ?_⟩)
  have : j = 0 := by omega
  subst this
  exact fun h => h

/-- The types of a world: that of numbers, and each data type with each index. -/
def tysN (n : Nat) : List Ty := ⟨-1, 0⟩ :: (List.range (n * 4)).map tyAt
theorem tysN_len (n : Nat) : (tysN n).length = n * 4 + 1 := by simp [tysN]
theorem mem_tys {n : Nat} {t : Ty} : t ∈ tysN n ↔ t = ⟨-1, 0⟩ ∨ (0 ≤ t.data ∧ t.data < n ∧ 0 ≤ t.index ∧ t.index ≤ 3) := by
  unfold tysN
  rw [List.mem_cons, List.mem_map]
  constructor
  · rintro (h | ⟨s, hs, rfl⟩)
    · exact .inl h
    · have := List.mem_range.1 hs
      right; unfold tyAt; simp only; omega
  · rintro (h | h)
    · exact .inl h
    · right
      have hin : TyIn n t := .inr h
      obtain ⟨e, hs⟩ := in_tyAt hin (by omega)
      exact ⟨slotN t, List.mem_range.2 hs, e.symm⟩
theorem tys_in {n : Nat} {t : Ty} (h : t ∈ tysN n) : TyIn n t := by
  rcases mem_tys.1 h with rfl | h
  · exact .inl rfl
  · exact .inr h
theorem tys_ix {n : Nat} {t : Ty} (h : t ∈ tysN n) : 0 ≤ t.index ∧ t.index ≤ 3 := by
  rcases mem_tys.1 h with rfl | h
  · exact ⟨Int.le_refl 0, by decide⟩
  · exact ⟨h.2.2.1, h.2.2.2⟩
theorem tys_bd {n : Nat} {t : Ty} (h : t ∈ tysN n) : -1 ≤ t.data ∧ t.data ≤ n := by
  rcases mem_tys.1 h with rfl | h
  · exact ⟨Int.le_refl _, by simp only; omega⟩
  · omega
theorem ok_tys {l : List Da} {t : Ty} (h : TyOK l t) : t ∈ tysN l.length := by
  obtain ⟨d, i⟩ := t
  have h2 := h.2
  by_cases h1 : d = -1
  · subst h1
    rw [argB_int rfl] at h2
    have : i = 0 := of_decide_eq_true h2
    subst this
    exact mem_tys.2 (.inl rfl)
  · rw [argB_data h1] at h2
    exact mem_tys.2 (.inr (of_decide_eq_true h2))
theorem tys_ok {l : List Da} {t : Ty} (hw : WorldOK l) (h : t ∈ tysN l.length) : TyOK l t := by
  refine ⟨hw, ?_⟩
  rcases mem_tys.1 h with rfl | h
  · rfl
  · rw [argB_data (by omega)]; exact decide_eq_true h
theorem args_tys {l : List Da} (h : WorldOK l) {d m : Nat} (hd : d < l.length) (hm : m < l[d].ctors.length) {ix : Int} (h0 : 0 ≤ ix) (h3 : ix ≤ 3) : ∀ a ∈ argT l[d].ctors[m] ix, a ∈ tysN l.length := by
  intro a ha
  obtain ⟨hi, hargs⟩ := ctor_parts (world_ctor h hd hm)
  have hin := args_in h hd hm h0 h3 a ha
  unfold argT at ha
  obtain ⟨b, hb, rfl⟩ := List.mem_map.1 ha
  have hB := hargs b hb
  by_cases hb1 : b.data = -1
  · rw [argB_int hb1] at hB
    have hb2 : b.index = 0 := of_decide_eq_true hB
    have e : argOf l[d].ctors[m] ix b = b := argOf_other (by omega)
    rw [e]
    refine mem_tys.2 (.inl ?_)
    obtain ⟨x, y⟩ := b
    simp only at hb1 hb2
    subst hb1 hb2
    rfl
  · refine mem_tys.2 (.inr ?_)
    refine hin.resolve_left ?_
    unfold argOf
    split <;> exact hb1
/-- What is made depends on the types of the world alone. -/
theorem mkF_tys {l : List Da} (h : WorldOK l) : ∀ P Q : Ty → Prop, (∀ t ∈ tysN l.length, P t → Q t) → ∀ t ∈ tysN l.length, mkF l P t → mkF l Q t := by
  intro P Q hPQ t ht hp
  rcases hp with h0 | ⟨d, hd, m, hm, h1, h2, h3⟩
  · exact .inl h0
  · exact .inr ⟨d, hd, m, hm, h1, h2, fun a ha => hPQ a (args_tys h hd hm (tys_ix ht).1 (tys_ix ht).2 a ha) (h3 a ha)⟩
/-- A table holds the least depths behind its last pass. -/
theorem dep_ldep {l : List Da} {T : List Int} (hw : WorldOK l) (h : St l T (l.length * 4 + 1) 0 0) {t : Ty} (ht : t ∈ tysN l.length) : dep T t = ldep l t := by
  have hin := tys_in ht
  have hb : ∀ j, Dk (mkF l) j t → Dk (mkF l) (l.length * 4 + 1) t := fun j hj => by
    have := Dk_bound (mkF_tys hw) ht hj
    rwa [tysN_len] at this
  by_cases h0 : dep T t = 0
  · rw [h0]
    refine ldep_eq (.inl ⟨rfl, fun k hk => ?_⟩)
    exact (h.full _ (Nat.le_refl _) t hin (hb k hk)).1 h0
  · obtain ⟨h1, h2⟩ := h.sound t hin h0
    refine ldep_eq (.inr ⟨h1, h2, fun j hj hd => ?_⟩)
    by_cases hj2 : j ≤ l.length * 4 + 1
    · have := (h.full j hj2 t hin hd).2
      omega
    · have := (h.full _ (Nat.le_refl _) t hin (hb j hd)).2
      omega
end Go.Proofs.YthebdlejoficmabDoor
/-
  What an argument of the laws reads as: lists of types, of constructors, of data types. No statement is proved here.
-/
namespace Go.Proofs.YthebdlejoficmabDoor
open Go.RowKit Go.Deep
open Go.ChangeShapes Go.WideShapes
set_option maxRecDepth 100000
set_option linter.unusedVariables false

section
variable {H : Type} {enc : TypeId × Value → H} {w : World} {spare : Nat → Bool} {held : Bool}

theorem field_at {e : TypeId} {fs : Array Field} {fuel : Nat} {cs : List Value} {x : DataW H × List MemPlace} (he : Tryd.prog.underlying e = some (.struct fs)) (hone : oneCellFields Tryd.prog fs = true) (hlen : cs.length = fs.size)
    (h : DataW.trod enc Tryd.prog w 0 spare held fuel e cs = some x) :
    ∃ m, ∀ (j : Nat) (f : Field), fs[j]? = some f → ∃ v y, cs[j]? = some v ∧ DataW.trod enc Tryd.prog w 0 spare held m f.type [v] = some y := by
  obtain ⟨ys, m, _, _, _, hyl, hf⟩ := DataW.trod_struct he h
  refine ⟨m, fun j f hj => ?_⟩
  obtain ⟨ho, hk⟩ := hone_of hone j f hj
  have hjl : j < fs.size := (Array.getElem?_eq_some_iff.1 hj).1
  have h1 := hf j f hj
  rw [ho, hk] at h1
  have hd : (cs.drop j).take 1 = [cs[j]'(by omega)] := by
    rw [List.drop_eq_getElem_cons (by omega)]; rfl
  rw [hd, List.getElem?_eq_getElem (by omega)] at h1
  exact ⟨_, _, List.getElem?_eq_getElem (by omega), h1⟩

theorem spot_of {w : World} {a : Addr} {v : Value} (h : w.cell? a = some v) : a.spot = none := by
  unfold World.cell? at h
  split at h
  · split at h
    · cases h
    · simpa using ‹¬ a.spot.isSome = true›
  · cases h

end
end Go.Proofs.YthebdlejoficmabDoor
/-
  The function FnExactWorldValid returns true for every list of data types, and the list reads behind the call as it read before. No condition.
-/
namespace Go.Proofs.YthebdlejoficmabDoor
open Go.RowKit Go.Deep
open Go.ChangeShapes Go.WideShapes Go.ChangeAt
set_option maxRecDepth 100000
set_option linter.unusedVariables false

theorem RDas.at_ {w W : World} {A : Option Addr} {l : List Da} (h : RDas w w.heap.size A l) (hb : Below w.heap.size w W) : RDas W W.heap.size A l := h.keep (fun p hp => hb.cell hp) hb.size
theorem below_then {w w1 w2 : World} (h : Below w.heap.size w w1) (h' : Below w1.heap.size w1 w2) : Below w.heap.size w w2 := h.trans (h'.mono h.size)

theorem wvOwn : ownKnob Tryd.prog.godebug = none := by kernel_rfl
theorem wvLaid : laidOutB Tryd.prog = true := by kernel_rfl

end Go.Proofs.YthebdlejoficmabDoor
/-
  A map from types to numbers that the call itself has made, as a function. No statement is proved here.
-/
namespace Go.Proofs.YthebdlejoficmabDoor
open Go.RowKit Go.Maps
set_option maxRecDepth 100000
set_option linter.unusedVariables false

def tv (t : Ty) : Value := .agg #[.int .i64 t.data, .int .i64 t.index]
theorem tv_inj {a b : Ty} (h : tv a = tv b) : a = b := by
  obtain ⟨x, y⟩ := a
  obtain ⟨z, u⟩ := b
  unfold tv at h
  simp only [Value.agg.injEq, Array.mk.injEq, List.cons.injEq, Value.int.injEq, true_and, and_true] at h
  obtain ⟨rfl, rfl⟩ := h
  rfl
theorem keyT : Keyed Tryd.prog 39 := Keyed.of_law (deep_law_gate wvLaid (of_decide_eq_true (by kernel_rfl)) (of_decide_eq_true (by kernel_rfl)) (by kernel_rfl) (by kernel_rfl))
noncomputable def keyL (t : Ty) : Lit := (keyOf Tryd.prog 39 (tv t)).getD (.bool false)
theorem key_some {t : Ty} (ht : t ∈ tysN 4) : (keyOf Tryd.prog 39 (tv t)).isSome = true := by
  obtain ⟨d, i⟩ := t
  rcases mem_tys.1 ht with h | ⟨h0, h1, h2, h3⟩
  · simp only [Ty.mk.injEq] at h
    obtain ⟨rfl, rfl⟩ := h
    kernel_rfl
  · simp only at h0 h1 h2 h3
    have hd : d = 0 ∨ d = 1 ∨ d = 2 ∨ d = 3 := by omega
    have hi : i = 0 ∨ i = 1 ∨ i = 2 ∨ i = 3 := by omega
    rcases hd with rfl | rfl | rfl | rfl <;> rcases hi with rfl | rfl | rfl | rfl <;> (show (keyOf Tryd.prog 39 (tv _)).isSome = true; kernel_rfl)
theorem key_of {t : Ty} (ht : t ∈ tysN 4) : keyOf Tryd.prog 39 (tv t) = some (keyL t) := by
  have := key_some ht
  unfold keyL
  cases h : keyOf Tryd.prog 39 (tv t)
  · rw [h] at this; cases this
  · rfl
theorem key_ne {t u : Ty} (ht : t ∈ tysN 4) (hu : u ∈ tysN 4) (h : t ≠ u) : keyL t ≠ keyL u := fun e => by
  have h1 := key_of ht
  have h2 := key_of hu
  rw [e] at h1
  exact h (tv_inj (keyT.inj h1 h2))
theorem key_is {t : Ty} (ht : t ∈ tysN 4) : WideAt.IsKeyLit (keyL t) := keyT.key (key_of ht)

/-- A map in block b, of at most n entries, that reads as F where S holds, and has no entry elsewhere. -/
def MapTy (w : World) (b n : Nat) (F : Ty → Int) (S : Ty → Prop) : Prop :=
  ∃ D : DataW Unit, w.ownsMap Tryd.prog 39 (plainElem Tryd.prog 3) b n D ∧ IsMap D ∧ ∀ t ∈ tysN 4, D.atKey (keyL t) (.lit (.int .i64 0)) = .lit (.int .i64 (if dec (S t) then F t else 0)) ∧ has D (keyL t) = dec (S t)
theorem zero3 (w : World) : (zeroValue 3).run Tryd.prog w = .ok (.int .i64 0) w := by kernel_rfl
theorem MapTy.made (w : World) (F : Ty → Int) : MapTy (w.alloc (.map #[] 0)) w.heap.size 0 F (fun _ => False) :=
  ⟨.map [], World.ownsMap_made _ _ _ _, ⟨[], rfl⟩, fun t _ => by rw [dec_f (fun h => h)]; exact ⟨rfl, rfl⟩⟩
theorem MapTy.lt {w : World} {b n : Nat} {F : Ty → Int} {S : Ty → Prop} (h : MapTy w b n F S) : b < w.heap.size := by
  obtain ⟨D, ho, _⟩ := h; exact ho.lt
theorem MapTy.keep {w w' : World} {b n n' : Nat} {F : Ty → Int} {S S' : Ty → Prop} (h : MapTy w b n F S) (hb : w'.heap[b]? = w.heap[b]?) (hn : n ≤ n') (hS : ∀ t ∈ tysN 4, (S t ↔ S' t)) : MapTy w' b n' F S' := by
  obtain ⟨D, ⟨es, clock, h1, h2, h3, h4⟩, hm, hat⟩ := h
  exact ⟨D, ⟨es, clock, hb.trans h1, h2, by omega, h4⟩, hm, fun t ht => by rw [← dec_congr (hS t ht)]; exact hat t ht⟩
theorem MapTy.below {w w' : World} {b n B : Nat} {F : Ty → Int} {S : Ty → Prop} (h : MapTy w b n F S) (hb : Below B w w') (hB : b < B) : MapTy w' b n F S :=
  h.keep (hb.block b hB) (Nat.le_refl _) (fun _ _ => Iff.rfl)
theorem MapTy.at_ {w w' : World} {b n : Nat} {F : Ty → Int} {S : Ty → Prop} (h : MapTy w b n F S) (hb : Below w.heap.size w w') : MapTy w' b n F S :=
  h.below hb h.lt
theorem MapTy.put {w : World} {b n : Nat} {D : DataW Unit} {F : Ty → Int} {S : Ty → Prop} {t : Ty} (ht : t ∈ tysN 4) (ho : w.ownsMap Tryd.prog 39 (plainElem Tryd.prog 3) b n (D.put (keyL t) (.lit (.int .i64 (F t))))) (hm : IsMap D)
    (hat : ∀ t ∈ tysN 4, D.atKey (keyL t) (.lit (.int .i64 0)) = .lit (.int .i64 (if dec (S t) then F t else 0)) ∧ has D (keyL t) = dec (S t)) : MapTy w b n F (fun u => u = t ∨ S u) := by
  refine ⟨_, ho, hm.put _ _, fun u hu => ?_⟩
  by_cases e : u = t
  · subst e
    rw [atKey_put_same hm (key_is hu), has_put_same hm (key_is hu), dec_t (Or.inl rfl)]
    exact ⟨rfl, rfl⟩
  · rw [atKey_put_other (key_ne hu ht e), has_put_other (key_ne hu ht e), (hat u hu).1, (hat u hu).2, dec_congr (show S u ↔ (u = t ∨ S u) from ⟨Or.inr, fun h => h.resolve_left e⟩)]
    exact ⟨rfl, rfl⟩
end Go.Proofs.YthebdlejoficmabDoor
/-
  Whether a type has a value with arguments of known types: the program's closure, the library's function over it, the program's function. No statement is proved here.
-/
namespace Go.Proofs.YthebdlejoficmabDoor
open Go.RowKit
set_option maxRecDepth 100000
set_option linter.unusedVariables false

/-- A map of positive numbers, behind a pointer. -/
structure MP (w : World) (bp mb n : Nat) (F : Ty → Int) (S : Ty → Prop) : Prop where
  ptr : w.cell? ⟨bp, 0, none⟩ = some (.map (some mb))
  map : MapTy w mb n F S
  pos : ∀ t ∈ tysN 4, S t → 0 < F t
theorem MP.at_ {w w' : World} {bp mb n : Nat} {F : Ty → Int} {S : Ty → Prop} (h : MP w bp mb n F S) (hb : Below w.heap.size w w') : MP w' bp mb n F S :=
  ⟨(hb.cell (p := ⟨bp, 0, none⟩) (Go.block_lt_of_cell h.ptr)).trans h.ptr, h.map.at_ hb, h.pos⟩
theorem MP.alloc {w : World} {bp mb n : Nat} {F : Ty → Int} {S : Ty → Prop} (h : MP w bp mb n F S) (o : Obj) : MP (w.alloc o) bp mb n F S :=
  h.at_ ((Below.refl _ _).alloc (Nat.le_refl _) o)

def AllTo' (S : Ty → Prop) (L : List Ty) (k : Nat) : Prop := ∀ j (h : j < L.length), j < k → S L[j]
theorem AllTo'.zero (S : Ty → Prop) (L : List Ty) : AllTo' S L 0 := fun j _ h => absurd h (by omega)
theorem AllTo'.step {S : Ty → Prop} {L : List Ty} {k : Nat} (h : AllTo' S L k) (hk : k < L.length) (e : S L[k]) : AllTo' S L (k + 1) := by
  intro j hj hjk
  by_cases e' : j = k
  · subst e'; exact e
  · exact h j hj (by omega)
theorem AllTo'.all {S : Ty → Prop} {L : List Ty} {k : Nat} (h : AllTo' S L k) (hk : L.length ≤ k) : ∀ a ∈ L, S a := fun a ha => by
  obtain ⟨j, hj, rfl⟩ := List.getElem_of_mem ha
  exact h j hj (by omega)

end Go.Proofs.YthebdlejoficmabDoor
/-
  The table of depths: the document's function. No statement is proved here.
-/
namespace Go.Proofs.YthebdlejoficmabDoor
open Go.RowKit Go.Sort
set_option maxRecDepth 100000
set_option linter.unusedVariables false

/-- A table of integers in the block B. -/
def Tab (w : World) (B N : Nat) (T : List Int) : Prop := w.ownsRow B 3 1 (.slice (some ⟨B, 0, none⟩) N N) N (T.map (Value.int .i64))
theorem Tab.cell_ {w : World} {B N : Nat} {T : List Int} (h : Tab w B N T) {s : Nat} (hs : s < N) (hl : s < T.length) : w.cell? ⟨B, s, none⟩ = some (.int .i64 T[s]) := by
  have h' : w.ownsRow B 3 1 (.slice (some ⟨B, 0, none⟩) N N) N (T.map (Value.int .i64)) := h
  rw [h'.cellAt s (by omega), List.getElem?_map, List.getElem?_eq_getElem hl]; rfl
theorem Tab.reads {w : World} {B N : Nat} {T : List Int} (h : Tab w B N T) (hl : T.length = N) (hm : N ≤ 100) : RInts w (some ⟨B, 0, none⟩) T :=
  ⟨by unfold maxLen; omega, fun k hk => ⟨B, 0, rfl, own_lt h, by rw [Nat.zero_add]; exact h.cell_ (by omega) hk⟩⟩
theorem Tab.below {w w' : World} {B N : Nat} {T : List Int} (h : Tab w B N T) (hb : Below w.heap.size w w') : Tab w' B N T := own_below h hb
theorem Tab.set {w : World} {B N s : Nat} {T : List Int} (h : Tab w B N T) (v : Int) : Tab (w.setCell ⟨B, s, none⟩ (.int .i64 v)) B N (T.set s v) := by
  have h2 := (World.ownsRow.stored h s (.int .i64 v)).1
  unfold Tab
  rw [List.map_set]
  exact h2
theorem OInts.form2 {w : World} {lo : Nat} {v : Value} {xs : List Int} (h : OInts w lo v xs) (hx : xs.length ≤ 4) : ∃ A cap, v = .slice A xs.length cap ∧ RInts w A xs ∧ ∀ b off, A = some ⟨b, off, none⟩ → lo ≤ b := by
  have hm : xs.length ≤ maxLen := by unfold maxLen; omega
  obtain ⟨A, cap, rfl, hr⟩ := h.form hm
  have h' : w.ownsRow lo 3 1 (.slice A xs.length cap) xs.length (xs.map (Value.int .i64)) := h
  refine ⟨A, cap, rfl, hr, fun b off e => ?_⟩
  rcases h'.2 with ⟨e1, _⟩ | ⟨g, cap', cur, e1, hb, _⟩
  · rw [e] at e1; simp at e1
  · rw [e] at e1; cases e1; exact hb

theorem ctor_of {l : List Da} {s : Nat} {x : Int} (h : x ∈ ctR l (tyAt s)) : ∃ (d : Nat) (hd : d < l.length) (m : Nat) (hm : m < l[d].ctors.length), (tyAt s).data = d ∧ x = m ∧ fitsB l[d].ctors[m].index (tyAt s).index = true ∧ agR l (tyAt s) x = argT l[d].ctors[m] (tyAt s).index := by
  obtain ⟨ht, d, m, hd, h1, h2, hm⟩ := mem_ctR h
  have e : tyAt s = ⟨(d : Int), (tyAt s).index⟩ := by rw [← h1]
  have h' := h
  have ht' := ht
  rw [e] at h' ht'
  rw [ctR_data ht' hd] at h'
  obtain ⟨m', hm', h3, h4⟩ := fits_of_mem _ (Nat.le_refl _) h'
  refine ⟨d, hd, m', hm', h1, h3, h4, ?_⟩
  rw [h3] at h ⊢
  rw [e] at h ⊢
  exact agR_yes h hd hm'
theorem St.step2 {l : List Da} {T T' : List Int} {n s i : Nat} {x : Int} (h : St l T n s i) (hw : WorldOK l) (hs : s < l.length * 4) (hn : n ≤ 16) (hi : i ≤ 4) (hx : (ctR l (tyAt s))[i]? = some x)
    (hT : (T' = T ∧ (mostL T (agR l (tyAt s) x) = 0 ∨ (¬ dep T (tyAt s) = 0 ∧ dep T (tyAt s) ≤ mostL T (agR l (tyAt s) x)))) ∨
      (T' = T.set s (mostL T (agR l (tyAt s) x)) ∧ 0 < mostL T (agR l (tyAt s) x) ∧ (dep T (tyAt s) = 0 ∨ mostL T (agR l (tyAt s) x) < dep T (tyAt s)))) : St l T' n s (i + 1) := by
  obtain ⟨d, hd, m, hm, h1, h2, h3, h4⟩ := ctor_of (List.mem_of_getElem? hx)
  rw [h4] at hT
  rw [h2] at hx
  exact h.step hw hs hn hi hd hm h1 hx h3 hT
theorem dep_at {T : List Int} {s : Nat} (hs : s < T.length) : dep T (tyAt s) = T[s] := by
  have e := dep_data (T := T) (tyAt_data s) (by rw [tyAt_slot]; exact hs)
  rw [e]; congr 1; exact tyAt_slot s
theorem most_nonneg {T : List Int} (hT : ∀ x ∈ T, 0 ≤ x ∧ x ≤ 5000) (L : List Ty) : 0 ≤ mostL T L := by
  have := maxTo_bd hT L L.length
  unfold mostL
  split <;> omega

theorem cell_far {w : World} {p a : Addr} {v : Value} (h : ¬ p.block = a.block) : (w.setCell p v).cell? a = w.cell? a :=
  World.cell?_setCell_other _ _ _ _ (fun e => h (by rw [e]))
end Go.Proofs.YthebdlejoficmabDoor
/-
  Whether a type has a value with arguments of known types: the program's function. No statement is proved here.
-/
namespace Go.Proofs.YthebdlejoficmabDoor
open Go.RowKit
set_option maxRecDepth 100000
set_option linter.unusedVariables false

theorem ctor_at {l : List Da} {t : Ty} {x : Int} (h : x ∈ ctR l t) : ∃ (d : Nat) (hd : d < l.length) (m : Nat) (hm : m < l[d].ctors.length), t.data = d ∧ x = m ∧ fitsB l[d].ctors[m].index t.index = true ∧ agR l t x = argT l[d].ctors[m] t.index := by
  obtain ⟨ht, d, m, hd, h1, h2, hm⟩ := mem_ctR h
  obtain ⟨td, ti⟩ := t
  simp only at h1
  subst h1
  have h' := h
  rw [ctR_data ht hd] at h'
  obtain ⟨m', hm', h3, h4⟩ := fits_of_mem _ (Nat.le_refl _) h'
  subst h3
  exact ⟨d, hd, m', hm', rfl, rfl, h4, agR_yes h hd hm'⟩
theorem mkF_iff {l : List Da} {S : Ty → Prop} {t : Ty} (hok : TyOK l t) (hd : ¬ t.data = -1) : mkF l S t ↔ ∃ x ∈ ctR l t, ∀ a ∈ agR l t x, S a := by
  constructor
  · rintro (h0 | ⟨d, hdl, m, hm, h1, h2, h3⟩)
    · exact absurd h0 hd
    · obtain ⟨td, ti⟩ := t
      simp only at h1
      subst h1
      have hx : (m : Int) ∈ ctR l ⟨d, ti⟩ := by rw [ctR_data hok hdl]; exact mem_of_fits hm h2 _ hm (Nat.le_refl _)
      exact ⟨m, hx, by rw [agR_yes hx hdl hm]; exact h3⟩
  · rintro ⟨x, hx, h⟩
    obtain ⟨d, hdl, m, hm, h1, h2, h3, h4⟩ := ctor_at hx
    rw [h4] at h
    exact .inr ⟨d, hdl, m, hm, h1, h3, h⟩
theorem tys_mono {n m : Nat} (h : n ≤ m) {t : Ty} (ht : t ∈ tysN n) : t ∈ tysN m := by
  rcases mem_tys.1 ht with h1 | h1
  · exact mem_tys.2 (.inl h1)
  · exact mem_tys.2 (.inr (by omega))
theorem args_tys4 {l : List Da} {t : Ty} (hw : WorldOK l) (ht : t ∈ tysN l.length) : ∀ x ∈ ctR l t, ∀ a ∈ agR l t x, a ∈ tysN 4 := fun x hx a ha => by
  obtain ⟨d, hdl, m, hm, h1, h2, h3, h4⟩ := ctor_at hx
  rw [h4] at ha
  exact tys_mono hw.1 (args_tys hw hdl hm (tys_ix ht).1 (tys_ix ht).2 a ha)

def NoneTo (l : List Da) (t : Ty) (S : Ty → Prop) (j : Nat) : Prop := ∀ i (h : i < (ctR l t).length), i < j → ¬ ∀ a ∈ agR l t (ctR l t)[i], S a
theorem NoneTo.zero (l : List Da) (t : Ty) (S : Ty → Prop) : NoneTo l t S 0 := fun j _ h => absurd h (by omega)
theorem NoneTo.step {l : List Da} {t : Ty} {S : Ty → Prop} {k : Nat} (h : NoneTo l t S k) (hk : k < (ctR l t).length) (e : ¬ ∀ a ∈ agR l t (ctR l t)[k], S a) : NoneTo l t S (k + 1) := by
  intro j hj hjk
  by_cases e' : j = k
  · subst e'; exact e
  · exact h j hj (by omega)
theorem NoneTo.all {l : List Da} {t : Ty} {S : Ty → Prop} {k : Nat} (h : NoneTo l t S k) (hk : (ctR l t).length ≤ k) : ¬ ∃ x ∈ ctR l t, ∀ a ∈ agR l t x, S a := fun ⟨x, hx, ha⟩ => by
  obtain ⟨j, hj, rfl⟩ := List.getElem_of_mem hx
  exact h j hj (by omega) ha
theorem agR_max (l : List Da) (t : Ty) (x : Int) : (agR l t x).length ≤ maxLen := by have := agR_len l t x; unfold maxLen; omega
theorem below_after {w wr w' : World} {B : Nat} (h : Below B w wr) (hb : Below wr.heap.size wr w') (hB : B ≤ wr.heap.size) : Below B w w' := h.trans (hb.mono hB)

end Go.Proofs.YthebdlejoficmabDoor
/-
  The types of a world in a row; the types that have a value with arguments of known types, and the others, in two rows. No statement is proved here.
-/
namespace Go.Proofs.YthebdlejoficmabDoor
open Go.RowKit
set_option maxRecDepth 100000
set_option linter.unusedVariables false

theorem types_at {n k i : Nat} (hi : i < 4) (h : k * 4 + 1 + i < (tysN n).length) : (tysN n)[k * 4 + 1 + i] = ⟨k, i⟩ := by
  have e : (tysN n)[k * 4 + 1 + i]? = some (tyAt (k * 4 + i)) := by
    rw [show k * 4 + 1 + i = (k * 4 + i) + 1 by omega]
    unfold tysN
    rw [List.getElem?_cons_succ, List.getElem?_map]
    rw [tysN_len] at h
    rw [List.getElem?_range (by omega)]
    rfl
  rw [List.getElem?_eq_getElem h] at e
  injection e with e
  rw [e]
  unfold tyAt
  congr 1 <;> omega

theorem OTys.snoc {w w1 : World} {lo : Nat} {v v' : Value} {l : List Ty} {k : Nat} {xs : List Value} {d i : Int} (hx : TyRow l xs k) (hk : k < l.length) (hxl : xs.length = k * 2) (ho : w1.ownsRow lo 39 2 v' (k + 1) (xs ++ [.int .i64 d, .int .i64 i])) (e : l[k] = ⟨d, i⟩) : OTys w1 lo v' l (k + 1) := by
  have := hx.snoc hk hxl
  rw [e] at this
  exact ⟨_, ho, this⟩

end Go.Proofs.YthebdlejoficmabDoor
/-
  The types that have a value with arguments of known types, and the others, in two rows. No statement is proved here.
-/
namespace Go.Proofs.YthebdlejoficmabDoor
open Go.RowKit
set_option maxRecDepth 100000
set_option linter.unusedVariables false

/-- Two rows that share no block. -/
def Apart (v u : Value) : Prop := ∀ g, v.ownBlock = some g → u.ownBlock = some g → False
theorem Apart.symm {v u : Value} (h : Apart v u) : Apart u v := fun g a b => h g b a
theorem Apart.ne {v u : Value} (h : Apart v u) : u.ownBlock = none ∨ u.ownBlock ≠ v.ownBlock := by
  cases e : u.ownBlock with
  | none => exact .inl rfl
  | some g => exact .inr (fun e2 => h g e2.symm e)
theorem OTys.lt {w : World} {lo : Nat} {v : Value} {l : List Ty} {k : Nat} (h : OTys w lo v l k) : ∀ g, v.ownBlock = some g → lo ≤ g ∧ g < w.heap.size := by
  obtain ⟨xs, ho, _⟩ := h
  exact ho.lt
theorem OTys.kept {w w' : World} {lo : Nat} {v u : Value} {l : List Ty} {k : Nat} (h : OTys w lo u l k) (hg : w.grownBy w' v.ownBlock) (ha : Apart v u) : OTys w' lo u l k := by
  obtain ⟨xs, ho, hx⟩ := h
  exact ⟨xs, ho.kept hg ha.ne, hx⟩
theorem OTys.alloc {w : World} {lo : Nat} {u : Value} {l : List Ty} {k : Nat} (h : OTys w lo u l k) (o : Obj) : OTys (w.alloc o) lo u l k := by
  obtain ⟨xs, ho, hx⟩ := h
  exact ⟨xs, ho.alloc o, hx⟩
theorem OTys.at_ {w w' : World} {lo : Nat} {u : Value} {l : List Ty} {k : Nat} (h : OTys w lo u l k) (hb : Below w.heap.size w w') : OTys w' lo u l k := by
  obtain ⟨xs, ho, hx⟩ := h
  exact ⟨xs, own_below ho hb, hx⟩
theorem OTys.nil (w : World) (lo : Nat) : OTys w lo (.slice none 0 0) [] 0 := ⟨[], World.ownsRow_nil _ _ _ _, TyRow.zero _ _⟩
theorem TyRow.app {l : List Ty} {xs : List Value} {t : Ty} (h : TyRow l xs l.length) (hx : xs.length = l.length * 2) : TyRow (l ++ [t]) (xs ++ [.int .i64 t.data, .int .i64 t.index]) (l.length + 1) := by
  intro j hj hjk
  by_cases e : j = l.length
  · subst e
    constructor
    · rw [List.getElem?_append_right (by omega), hx]; simp
    · rw [List.getElem?_append_right (by omega), hx]; simp
  · have hjl : j < l.length := by omega
    obtain ⟨a, b⟩ := h j hjl hjl
    rw [List.getElem_append_left hjl]
    constructor
    · rw [List.getElem?_append_left (by omega)]; exact a
    · rw [List.getElem?_append_left (by omega)]; exact b
theorem OTys.app {w : World} {lo : Nat} {v : Value} {l : List Ty} {xs : List Value} {t : Ty} (h : TyRow l xs l.length) (hx : xs.length = l.length * 2) (ho : w.ownsRow lo 39 2 v (l.length + 1) (xs ++ [.int .i64 t.data, .int .i64 t.index])) : OTys w lo v (l ++ [t]) (l ++ [t]).length := by
  have e : (l ++ [t]).length = l.length + 1 := by simp
  rw [e]
  exact ⟨_, ho, h.app hx⟩

/-- Those of the first k for which P holds. -/
noncomputable def fil (P : Ty → Prop) (U : List Ty) (k : Nat) : List Ty := (U.take k).filter (fun t => dec (P t))
theorem fil_zero (P : Ty → Prop) (U : List Ty) : fil P U 0 = [] := by simp [fil]
theorem fil_yes {P : Ty → Prop} {U : List Ty} {k : Nat} (hk : k < U.length) (h : P U[k]) : fil P U (k + 1) = fil P U k ++ [U[k]] := by
  unfold fil
  rw [List.take_succ_eq_append_getElem hk, List.filter_append]
  simp [dec_t h]
theorem fil_no {P : Ty → Prop} {U : List Ty} {k : Nat} (hk : k < U.length) (h : ¬ P U[k]) : fil P U (k + 1) = fil P U k := by
  unfold fil
  rw [List.take_succ_eq_append_getElem hk, List.filter_append]
  simp [dec_f h]
theorem fil_len (P : Ty → Prop) (U : List Ty) (k : Nat) : (fil P U k).length ≤ U.length := by
  unfold fil
  exact Nat.le_trans (List.length_filter_le _ _) (List.length_take_le' _ _)

end Go.Proofs.YthebdlejoficmabDoor
/-
  A constructor out of its text: the document's function. No statement is proved here.
-/
namespace Go.Proofs.YthebdlejoficmabDoor
open Go.RowKit
set_option maxRecDepth 100000
set_option linter.unusedVariables false

theorem cutB_pos (s : ByteArray) (c : Int) : 1 ≤ (cutB s c).length := by
  unfold cutB
  rw [cutGo_yes (cutAt_end rfl)]
  simp
theorem ext_size (s : ByteArray) (a b : Nat) : (s.extract a b).size ≤ s.size := by rw [ByteArray.size_extract]; omega
theorem cutGo_size (s : ByteArray) (c : Int) : ∀ k, ∀ x ∈ (cutGo s c k).1, x.size ≤ s.size
  | 0, x, hx => by simp [cutGo] at hx
  | k + 1, x, hx => by
    by_cases h : cutAt s c k = true
    · rw [cutGo_yes h] at hx
      simp only [List.mem_append, List.mem_cons, List.not_mem_nil, or_false] at hx
      rcases hx with hx | rfl
      · exact cutGo_size s c k x hx
      · exact ext_size _ _ _
    · rw [cutGo_no (by simpa using h)] at hx
      exact cutGo_size s c k x hx
theorem cutB_size {s : ByteArray} {c : Int} {x : ByteArray} (h : x ∈ cutB s c) : x.size ≤ s.size := cutGo_size s c _ x h

/-- A constructor out of its text without an index. -/
def ctQ (l : List ByteArray) (s : ByteArray) (ix : Int) : Ct :=
  if (cutB s 40).length < 2 ∨ ((cutB s 40).getD 1 ByteArray.empty).size = 0 then ⟨(cutB s 40).getD 0 ByteArray.empty, [], ix⟩
  else ⟨(cutB s 40).getD 0 ByteArray.empty, ((cutB (((cutB s 40).getD 1 ByteArray.empty).extract 0 (((cutB s 40).getD 1 ByteArray.empty).size - 1)) 44).take 4).map (tyP l), ix⟩
def ctP (l : List ByteArray) (s : ByteArray) : Ct :=
  if 2 < s.size ∧ ((s.data.toList.getD (s.size - 2) 0).toNat : Int) = 58 then ctQ l (s.extract 0 (s.size - 2)) (((s.data.toList.getD (s.size - 1) 0).toNat : Int) - 48) else ctQ l s 0

/-- A constructor in block b. -/
def Box3 (w : World) (b : Nat) (n : ByteArray) (v : Value) (i : Int) : Prop := w.heap[b]? = some (.cells #[.string n, v, .int .i64 i] 27 (0, 0))
theorem free_of_blk {w : World} {g : Nat} {cs : Array Value} {t : TypeId} (h : w.heap[g]? = some (.cells cs t (0, 0))) (i : Nat) : w.frozen? ⟨g, i, none⟩ = false := by
  unfold World.frozen?
  rw [h]
  simp
theorem Box3.c0 {w : World} {b : Nat} {n : ByteArray} {v : Value} {i : Int} (h : Box3 w b n v i) : w.cell? ⟨b, 0, none⟩ = some (.string n) := cell_of_blk h 0
theorem Box3.c1 {w : World} {b : Nat} {n : ByteArray} {v : Value} {i : Int} (h : Box3 w b n v i) : w.cell? ⟨b, 1, none⟩ = some v := cell_of_blk h 1
theorem Box3.c2 {w : World} {b : Nat} {n : ByteArray} {v : Value} {i : Int} (h : Box3 w b n v i) : w.cell? ⟨b, 2, none⟩ = some (.int .i64 i) := cell_of_blk h 2
theorem Box3.fz {w : World} {b : Nat} {n : ByteArray} {v : Value} {i : Int} (h : Box3 w b n v i) (o : Nat) : w.frozen? ⟨b, o, none⟩ = false := free_of_blk h o
theorem Box3.lt {w : World} {b : Nat} {n : ByteArray} {v : Value} {i : Int} (h : Box3 w b n v i) : b < w.heap.size := heap_lt h
theorem Box3.set0 {w : World} {b : Nat} {n : ByteArray} {v : Value} {i : Int} (h : Box3 w b n v i) (m : ByteArray) : Box3 (w.setCell ⟨b, 0, none⟩ (.string m)) b m v i := heap_setCell_same w b 0 _ _ (.string m) h
theorem Box3.set1 {w : World} {b : Nat} {n : ByteArray} {v : Value} {i : Int} (h : Box3 w b n v i) (u : Value) : Box3 (w.setCell ⟨b, 1, none⟩ u) b n u i := heap_setCell_same w b 1 _ _ u h
theorem Box3.keep {w w' : World} {b : Nat} {n : ByteArray} {v : Value} {i : Int} (h : Box3 w b n v i) (hk : w'.heap[b]? = w.heap[b]?) : Box3 w' b n v i := hk.trans h
theorem Box3.at_ {w w' : World} {b : Nat} {n : ByteArray} {v : Value} {i : Int} (h : Box3 w b n v i) (hb : Below w.heap.size w w') : Box3 w' b n v i := h.keep (hb.block b h.lt)

/-- What is returned: a constructor whose arguments lie in a row of the call's own. -/
def RetCt (w : World) (lo : Nat) (e : Ending) (w' : World) (c : Ct) : Prop := ∃ v, e = .returned (.agg #[.string c.name, v, .int .i64 c.index]) ∧ OTys w' lo v c.args c.args.length ∧ Below lo w w'
end Go.Proofs.YthebdlejoficmabDoor
/-
  A constructor out of its text: the document's function, the walk. No statement is proved here.
-/
namespace Go.Proofs.YthebdlejoficmabDoor
open Go.RowKit Go.Deep
set_option maxRecDepth 100000
set_option linter.unusedVariables false

theorem parseType_v (A : Option Addr) (l : List ByteArray) (cap : Nat) (s : ByteArray) (t : Ty) (ht : tyP l s = t) (w : World) (hr : RStrs w A l) (hs : s.size ≤ 1048576) :
    Calls Tryd.prog 70 #[.slice A l.length cap, .string s] w fun e w' => e = .returned (.agg #[.int .i64 t.data, .int .i64 t.index]) ∧ Below w.heap.size w w' := by
  subst ht; exact parseType_any A l cap s w hr hs
theorem getD_at {L : List ByteArray} {k : Nat} (h : k < L.length) : L.getD k ByteArray.empty = L[k] := by
  rw [List.getD_eq_getElem?_getD, List.getElem?_eq_getElem h]; rfl
theorem take_map_len (l : List ByteArray) (L : List ByteArray) {k : Nat} (h : k < L.length) : ((L.take (k + 1)).map (tyP l)) = ((L.take k).map (tyP l)) ++ [tyP l L[k]] := by
  rw [List.take_succ_eq_append_getElem h, List.map_append]; rfl
theorem OStrs.kept2 {w w' : World} {lo : Nat} {v : Value} {L : List ByteArray} (h : OStrs w lo v L) (hk : ∀ (b : Nat) (cs : Array Value), w.heap[b]? = some (Obj.cells cs 9 (0, 0)) → w'.heap[b]? = w.heap[b]?) : OStrs w' lo v L := by
  have h' : w.ownsRow lo 9 1 v L.length (L.map Value.string) := h
  refine ⟨h'.1, ?_⟩
  rcases h'.2 with h0 | ⟨g, cap, cur, a1, a2, a3, a4⟩
  · exact .inl h0
  · exact .inr ⟨g, cap, cur, a1, a2, (hk g cur a3).trans a3, a4⟩
theorem OTys.kept2 {w w' : World} {lo : Nat} {v : Value} {L : List Ty} {k : Nat} (h : OTys w lo v L k) (hk : ∀ (b : Nat) (cs : Array Value), w.heap[b]? = some (Obj.cells cs 39 (0, 0)) → w'.heap[b]? = w.heap[b]?) : OTys w' lo v L k := by
  obtain ⟨xs, ho, hx⟩ := h
  refine ⟨xs, ⟨ho.1, ?_⟩, hx⟩
  rcases ho.2 with h0 | ⟨g, cap, cur, a1, a2, a3, a4⟩
  · exact .inl h0
  · exact .inr ⟨g, cap, cur, a1, a2, (hk g cur a3).trans a3, a4⟩
theorem retCt (w w' : World) (lo : Nat) (c : Ct) (v : Value) (n : ByteArray) (i : Int) (hn : c.name = n) (hi : c.index = i) (ho : OTys w' lo v c.args c.args.length) (hb : Below lo w w') : RetCt w lo (.returned (.agg #[.string n, v, .int .i64 i])) w' c := by
  subst hn hi; exact ⟨v, rfl, ho, hb⟩
theorem ctQ_none {l : List ByteArray} {s : ByteArray} {ix : Int} (h : (cutB s 40).length < 2 ∨ ((cutB s 40).getD 1 ByteArray.empty).size = 0) : ctQ l s ix = ⟨(cutB s 40).getD 0 ByteArray.empty, [], ix⟩ := if_pos h
theorem ctQ_some {l : List ByteArray} {s : ByteArray} {ix : Int} (h : ¬ ((cutB s 40).length < 2 ∨ ((cutB s 40).getD 1 ByteArray.empty).size = 0)) : ctQ l s ix = ⟨(cutB s 40).getD 0 ByteArray.empty, ((cutB (((cutB s 40).getD 1 ByteArray.empty).extract 0 (((cutB s 40).getD 1 ByteArray.empty).size - 1)) 44).take 4).map (tyP l), ix⟩ := if_neg h
end Go.Proofs.YthebdlejoficmabDoor
/-
  The function FnExactTypeValid returns true for every list of data types and every type, and both read behind the call as they read before. No condition.
-/
namespace Go.Proofs.YthebdlejoficmabDoor
open Go.RowKit Go.Deep
open Go.ChangeShapes Go.WideShapes Go.ChangeAt
set_option maxRecDepth 100000
set_option linter.unusedVariables false

/-- A type in a block of its own. -/
def Bx (w : World) (b : Nat) (t : Ty) : Prop := w.cell? ⟨b, 0, none⟩ = some (.int .i64 t.data) ∧ w.cell? ⟨b, 1, none⟩ = some (.int .i64 t.index)
theorem Bx.at_ {w w' : World} {b : Nat} {t : Ty} (h : Bx w b t) (hb : Below w.heap.size w w') : Bx w' b t :=
  ⟨(hb.cell (p := ⟨b, 0, none⟩) (Go.block_lt_of_cell h.1)).trans h.1, (hb.cell (p := ⟨b, 1, none⟩) (Go.block_lt_of_cell h.2)).trans h.2⟩
theorem Bx.new (w : World) (t : Ty) (T : TypeId) : Bx (w.alloc (.cells #[.int .i64 t.data, .int .i64 t.index] T)) w.heap.size t := ⟨by simp [go_sem], by simp [go_sem]⟩
theorem below_drew1 {w wr : World} (h : Below w.heap.size w wr) : Below w.heap.size w wr.drew := h.drew

end Go.Proofs.YthebdlejoficmabDoor
/-
  The texts of types and constructors: the document's functions. No statement is proved here.
-/
namespace Go.Proofs.YthebdlejoficmabDoor
open Go.RowKit Go.Deep
set_option maxRecDepth 100000
set_option linter.unusedVariables false

theorem ret_str {a b : ByteArray} (h : a = b) : Ending.returned (.string a) = .returned (.string b) := by rw [h]
/-- A digit. -/
def dig (n : Int) : ByteArray := one (48 + n) ++ ⟨#[]⟩
theorem dig_size (n : Int) : (dig n).size = 1 := rfl
def ixT (i : Int) : ByteArray := if i = 0 then ⟨#[]⟩ else if i = -1 then ⟨#[42]⟩ else dig i
theorem ixT_size (i : Int) : (ixT i).size ≤ 1 := by
  unfold ixT
  split
  · exact Nat.zero_le _
  · split
    · exact Nat.le_refl _
    · rw [dig_size]; exact Nat.le_refl _
theorem dec_any (n : Int) (w : World) (h0 : 0 ≤ n) (h9 : n ≤ 9) :
    Calls Tryd.prog 66 #[.int .i64 n] w fun e w' => e = .returned (.string (dig n)) ∧ Below w.heap.size w w' := by
  have hcv := conv_one w (48 + n)
  have hos := one_size (48 + n)
  have HB : Hid (∀ o : Obj, Below w.heap.size w (w.alloc o)) := fun o => (Below.refl _ _).alloc (Nat.le_refl _) _
  have HD : Hid (dig n = one (48 + n) ++ ⟨#[]⟩) := rfl
  go_enter Tryd.func66, Tryd.ntmps66
  go_wp2_with fail
  go_loop [0, 3] (fun q t => q = .int .i64 n ∧ t = .string ⟨#[]⟩) (fun _ _ => 0)
  case atStart => exact ⟨rfl, rfl⟩
  case round =>
    obtain ⟨rfl, rfl⟩ := hrel
    go_wp2_with fail
    go_ret
    exact ⟨ret_str HD.out.symm, HB.out _⟩
theorem idx_any (i : Int) (w : World) (h0 : -1 ≤ i) (h9 : i ≤ 9) :
    Calls Tryd.prog 53 #[.int .i64 i] w fun e w' => e = .returned (.string (ixT i)) ∧ Below w.heap.size w w' := by
  by_cases h1 : i = 0
  · have q := ieq_t h1
    have HD : Hid (ixT i = ⟨#[]⟩) := if_pos h1
    clear h1
    go_enter Tryd.func53, Tryd.ntmps53
    go_wp2_with fail
    go_ret
    exact ⟨ret_str HD.out.symm, Below.refl _ _⟩
  · by_cases h2 : i = -1
    · have q := ieq_f h1
      have q2 := ieq_t h2
      have HD : Hid (ixT i = ⟨#[42]⟩) := by unfold Hid ixT; rw [if_neg h1, if_pos h2]
      clear h1 h2
      go_enter Tryd.func53, Tryd.ntmps53
      go_wp2_with fail
      go_ret
      exact ⟨ret_str HD.out.symm, Below.refl _ _⟩
    · have q := ieq_f h1
      have q2 := ieq_f h2
      have HD : Hid (ixT i = dig i) := by unfold Hid ixT; rw [if_neg h1, if_neg h2]
      have h3 : 0 ≤ i := by omega
      clear h1 h2
      go_enter Tryd.func53, Tryd.ntmps53
      go_wp2_with fail
      refine (dec_any _ _ h3 h9).mono ?_
      rintro e w1 ⟨rfl, hb⟩
      go_wp2_with fail
      go_ret
      exact ⟨ret_str HD.out.symm, hb⟩

/-- The text of a type. -/
def tyT (l : List Da) (t : Ty) : ByteArray := if t.data = -1 then ⟨#[73]⟩ else (l.getD t.data.toNat default).name ++ ixT t.index
theorem tyT_int {l : List Da} {t : Ty} (h : t.data = -1) : tyT l t = ⟨#[73]⟩ := if_pos h
theorem tyT_data {l : List Da} {d : Nat} {i : Int} (hd : d < l.length) : tyT l ⟨d, i⟩ = l[d].name ++ ixT i := by
  have e : l.getD d default = l[d] := by simp [List.getD, List.getElem?_eq_getElem hd]
  unfold tyT
  rw [if_neg (by simp only; omega)]
  simp only [Int.toNat_natCast, e]
theorem type_int (A : Option Addr) (n cap : Nat) (i : Int) (w : World) :
    Calls Tryd.prog 36 #[.slice A n cap, .agg #[.int .i64 (-1), .int .i64 i]] w fun e w' => e = .returned (.string ⟨#[73]⟩) ∧ Below w.heap.size w w' := by
  have HB : Hid (∀ o : Obj, Below w.heap.size w (w.alloc o)) := fun o => (Below.refl _ _).alloc (Nat.le_refl _) _
  go_enter Tryd.func36, Tryd.ntmps36
  go_wp2_with fail
  go_ret
  exact ⟨rfl, HB.out _⟩
set_option maxHeartbeats 800000 in
theorem type_data (A : Option Addr) (l : List Da) (cap d : Nat) (i : Int) (w : World) (hr : RDas w w.heap.size A l) (hd : d < l.length) (hn : l[d].name.size ≤ 100) (h0 : -1 ≤ i) (h9 : i ≤ 9) :
    Calls Tryd.prog 36 #[.slice A l.length cap, .agg #[.int .i64 d, .int .i64 i]] w fun e w' => e = .returned (.string (l[d].name ++ ixT i)) ∧ Below w.heap.size w w' := by
  have hm := hr.1
  unfold maxLen at hm
  obtain ⟨b, off, rfl, hbB, A', cp, c0, c1, _, _⟩ := hr.2 d hd
  clear hr c1
  have q0 : ((d : Int) == -1) = false := ieq_f (by omega)
  have hdI : (d : Int) < (l.length : Int) := by omega
  have hd0 : (0 : Int) ≤ (d : Int) := Int.natCast_nonneg _
  have hxs := ixT_size i
  generalize hw0 : w.alloc (.cells #[.int .i64 d, .int .i64 i] 39) = w0
  have x0 : w0.cell? ⟨w.heap.size, 0, none⟩ = some (.int .i64 d) := by rw [← hw0]; simp [go_sem]
  have x1 : w0.cell? ⟨w.heap.size, 1, none⟩ = some (.int .i64 i) := by rw [← hw0]; simp [go_sem]
  have x2 : w0.cell? ⟨b, off + d * 2, none⟩ = some (.string l[d].name) := by rw [← hw0]; exact (World.cell?_alloc_lt _ _ _ hbB).trans c0
  have hb0 : Below w.heap.size w w0 := by rw [← hw0]; exact (Below.refl _ _).alloc (Nat.le_refl _) _
  have HW := Lib.hid hw0
  clear hw0 c0
  go_enter Tryd.func36, Tryd.ntmps36
  go_wp2_with fail
  rw [HW.out]
  have hadd : ∀ w : World, (Op.stringOp .add l[d].name (ixT i)).run Tryd.prog w = .ok (.string (l[d].name ++ ixT i)) w := fun w => run_string_add_sum w _ _ (by omega)
  go_region_held3 (fun w' => w'.cell? ⟨w.heap.size, 0, none⟩ = some (.int .i64 d) ∧ w'.cell? ⟨w.heap.size, 1, none⟩ = some (.int .i64 i) ∧ w'.cell? ⟨b, off + d * 2, none⟩ = some (.string l[d].name)) (first | exact ⟨x0, x1, x2⟩ | exact ⟨y0, y1, y2⟩ | go_keep) (first | (go_at_call 53; refine (idx_any _ _ h0 h9).mono ?_; rintro e w1 ⟨rfl, hb1⟩; have hb1' : Below w0.heap.size w0 w1 := ⟨hb1.os, hb1.tape, hb1.output, hb1.size, hb1.block⟩; have y0 := (hb1'.cell (p := ⟨w.heap.size, 0, none⟩) (Go.block_lt_of_cell x0)).trans x0; have y1 := (hb1'.cell (p := ⟨w.heap.size, 1, none⟩) (Go.block_lt_of_cell x1)).trans x1; have y2 := (hb1'.cell (p := ⟨b, off + d * 2, none⟩) (Go.block_lt_of_cell x2)).trans x2))
  have hbF := below_after hb0 hb1' hb0.size
  go_wp2_with fail
  go_ret
  exact ⟨rfl, hbF⟩
end Go.Proofs.YthebdlejoficmabDoor
/-
  The texts of constructors and worlds: the document's functions. No statement is proved here.
-/
namespace Go.Proofs.YthebdlejoficmabDoor
open Go.RowKit Go.Deep
set_option maxRecDepth 100000
set_option linter.unusedVariables false

/-- A type that can be that of an argument; the names are not long. -/
def ArgIn (n : Nat) (t : Ty) : Prop := (t.data = -1 ∨ (0 ≤ t.data ∧ t.data < n)) ∧ -1 ≤ t.index ∧ t.index ≤ 3
def Short (l : List Da) : Prop := ∀ d (h : d < l.length), l[d].name.size ≤ 100
def CtIn (n : Nat) (c : Ct) : Prop := c.name.size ≤ 100 ∧ c.args.length ≤ 3 ∧ 0 ≤ c.index ∧ c.index ≤ 3 ∧ ∀ a ∈ c.args, ArgIn n a
theorem tyT_size {l : List Da} {t : Ty} (hs : Short l) (ht : ArgIn l.length t) : (tyT l t).size ≤ 101 := by
  obtain ⟨d, i⟩ := t
  rcases ht.1 with h | ⟨h0, h1⟩
  · rw [tyT_int h]; decide
  · simp only at h0 h1
    obtain ⟨k, rfl⟩ : ∃ k : Nat, d = k := ⟨d.toNat, by omega⟩
    rw [tyT_data (by omega : k < l.length), ByteArray.size_append]
    have := hs k (by omega)
    have := ixT_size i
    omega
theorem type_any (A : Option Addr) (l : List Da) (cap : Nat) (t : Ty) (s : ByteArray) (w : World) (hr : RDas w w.heap.size A l) (hs : Short l) (ht : ArgIn l.length t) (he : tyT l t = s) :
    Calls Tryd.prog 36 #[.slice A l.length cap, .agg #[.int .i64 t.data, .int .i64 t.index]] w fun e w' => e = .returned (.string s) ∧ Below w.heap.size w w' := by
  subst he
  obtain ⟨d, i⟩ := t
  by_cases h : d = -1
  · subst h
    rw [tyT_int rfl]
    exact type_int A l.length cap i w
  · have h1 := ht.1.resolve_left h
    simp only at h1
    obtain ⟨k, rfl⟩ : ∃ k : Nat, d = k := ⟨d.toNat, by omega⟩
    rw [tyT_data (by omega : k < l.length)]
    exact type_data A l cap k i w hr (by omega) (hs k (by omega)) ht.2.1 (by have := ht.2.2; simp only at this; omega)

def argAcc (l : List Da) (c : Ct) : Nat → ByteArray
  | 0 => c.name
  | k + 1 => (argAcc l c k ++ (if k = 0 then ⟨#[40]⟩ else ⟨#[44]⟩)) ++ tyT l (c.args.getD k default)
/-- The text of a constructor. -/
def ctT2 (l : List Da) (c : Ct) : ByteArray := if 0 < c.args.length then argAcc l c c.args.length ++ ⟨#[41]⟩ else argAcc l c c.args.length
def ctT (l : List Da) (c : Ct) : ByteArray := if 0 < c.index then (ctT2 l c ++ ⟨#[58]⟩) ++ dig c.index else ctT2 l c
theorem argAcc_at {l : List Da} {c : Ct} {k : Nat} (h : k < c.args.length) : argAcc l c (k + 1) = (argAcc l c k ++ (if k = 0 then ⟨#[40]⟩ else ⟨#[44]⟩)) ++ tyT l c.args[k] := by
  have e : c.args.getD k default = c.args[k] := by simp [List.getD, List.getElem?_eq_getElem h]
  show (argAcc l c k ++ (if k = 0 then ⟨#[40]⟩ else ⟨#[44]⟩)) ++ tyT l (c.args.getD k default) = _
  rw [e]
theorem argAcc_size {l : List Da} {c : Ct} (hs : Short l) (hc : CtIn l.length c) : ∀ k, k ≤ c.args.length → (argAcc l c k).size ≤ 100 + 102 * k
  | 0, _ => hc.1
  | k + 1, hk => by
    have h1 := argAcc_size hs hc k (by omega)
    have h2 := tyT_size hs (hc.2.2.2.2 _ (List.getElem_mem (by omega : k < c.args.length)))
    rw [argAcc_at (by omega), ByteArray.size_append, ByteArray.size_append]
    have h3 : (if k = 0 then (⟨#[40]⟩ : ByteArray) else ⟨#[44]⟩).size = 1 := by split <;> rfl
    omega
theorem ctT2_size {l : List Da} {c : Ct} (hs : Short l) (hc : CtIn l.length c) : (ctT2 l c).size ≤ 500 := by
  have h1 := argAcc_size hs hc c.args.length (Nat.le_refl _)
  have h2 := hc.2.1
  unfold ctT2
  split
  · rw [ByteArray.size_append]; have : (ByteArray.mk #[41]).size = 1 := rfl; omega
  · omega
theorem ctT_size {l : List Da} {c : Ct} (hs : Short l) (hc : CtIn l.length c) : (ctT l c).size ≤ 510 := by
  have h1 := ctT2_size hs hc
  unfold ctT
  split
  · rw [ByteArray.size_append, ByteArray.size_append, dig_size]; have : (ByteArray.mk #[58]).size = 1 := rfl; omega
  · omega

set_option maxHeartbeats 1600000 in
theorem ctorText_any (A D : Option Addr) (l : List Da) (c : Ct) (cap ep : Nat) (w : World) (hr : RDas w w.heap.size A l) (ha : RTys w w.heap.size D c.args) (hs : Short l) (hc : CtIn l.length c) :
    Calls Tryd.prog 71 #[.slice A l.length cap, .agg #[.string c.name, .slice D c.args.length ep, .int .i64 c.index]] w fun e w' => e = .returned (.string (ctT l c)) ∧ Below w.heap.size w w' := by
  have Hr := Lib.hid hr
  have HA := Lib.hid ha
  have HS := Lib.hid hs
  have HC := Lib.hid hc
  have h3 := hc.2.1
  have hi0 := hc.2.2.1
  have hi3 := hc.2.2.2.1
  have hT2 := ctT2_size hs hc
  have HZ : Hid (∀ k, k ≤ c.args.length → (argAcc l c k).size ≤ 100 + 102 * k) := argAcc_size hs hc
  clear hr ha hs hc
  generalize hw0 : w.alloc (.cells #[.string c.name, .slice D c.args.length ep, .int .i64 c.index] 27) = w0
  have x0 : w0.cell? ⟨w.heap.size, 0, none⟩ = some (.string c.name) := by rw [← hw0]; simp [go_sem]
  have HX : Hid (Box3 w0 w.heap.size c.name (.slice D c.args.length ep) c.index) := by rw [← hw0]; exact heap_alloc_new w _
  have hb0 : Below w.heap.size w w0 := by rw [← hw0]; exact (Below.refl _ _).alloc (Nat.le_refl _) _
  have HW := Lib.hid hw0
  clear hw0
  go_enter Tryd.func71, Tryd.ntmps71
  go_wp2_with fail
  rw [HW.out]
  clear HW x0
  go_loopw [5, 6] (fun t i wr => ∃ k : Nat, k ≤ c.args.length ∧ i = .int .i64 k ∧ t = .string (argAcc l c k) ∧ Below w0.heap.size w0 wr) (fun _ i _ => c.args.length - (intOf i).toNat)
  case atStart => exact ⟨0, by omega, rfl, rfl, Below.refl _ _⟩
  case round =>
    obtain ⟨k, hk, rfl, rfl, hb⟩ := hrel
    have hbx := HX.out.at_ hb
    have b0 := hbx.c0
    have b1 := hbx.c1
    have b2 := hbx.c2
    have hbw : Below w.heap.size w wr := below_after hb0 hb hb0.size
    have hz := HZ.out k hk
    by_cases hlt : k < c.args.length
    · have hkI : (k : Int) < (c.args.length : Int) := by omega
      obtain ⟨g, o, rfl, hgB, y0, y1⟩ := (HA.out.below hbw (Nat.le_refl _)).2 k hlt
      have HIN := Lib.hid (HC.out.2.2.2.2 _ (List.getElem_mem hlt))
      have HAT := Lib.hid (argAcc_at (l := l) hlt)
      have hts := tyT_size HS.out HIN.out
      have HRr : Hid (RDas wr wr.heap.size A l) := Hr.out.keep (fun p hp => hbw.cell hp) hbw.size
      generalize hu : tyT l c.args[k] = u at hts HAT
      have HU := Lib.hid hu
      generalize argAcc l c k = a at hz HAT
      clear hu
      by_cases h0 : k = 0
      · have q := ieq_t (show (k : Int) = 0 by omega)
        rw [if_pos h0] at HAT
        clear h0
        go_wp2_with fail
        refine (type_any _ l _ _ u _ HRr.out HS.out HIN.out HU.out).mono ?_
        rintro e w1 ⟨rfl, hb1⟩
        have hb2 := hb.trans (hb1.mono hb.size)
        go_wp2_with fail
        go_roundw
        case rel => exact ⟨k + 1, by omega, by go_num, by rw [HAT.out], hb2⟩
        case measure => simp [intOf]; omega
      · have q := ieq_f (show ¬ (k : Int) = 0 by omega)
        rw [if_neg h0] at HAT
        clear h0
        go_wp2_with fail
        refine (type_any _ l _ _ u _ HRr.out HS.out HIN.out HU.out).mono ?_
        rintro e w1 ⟨rfl, hb1⟩
        have hb2 := hb.trans (hb1.mono hb.size)
        go_wp2_with fail
        go_roundw
        case rel => exact ⟨k + 1, by omega, by go_num, by rw [HAT.out], hb2⟩
        case measure => simp [intOf]; omega
    · have he : k = c.args.length := by omega
      have hkI : (c.args.length : Int) ≤ (k : Int) := by omega
      by_cases hp : 0 < c.args.length
      · have hpI : (0 : Int) < (c.args.length : Int) := by omega
        have HT2 : Hid (ctT2 l c = argAcc l c k ++ ⟨#[41]⟩) := by unfold Hid ctT2; rw [if_pos hp, he]
        generalize argAcc l c k = a at hz HT2
        by_cases hx : 0 < c.index
        · have HT : Hid (ctT l c = (ctT2 l c ++ ⟨#[58]⟩) ++ dig c.index) := if_pos hx
          have hds := dig_size c.index
          generalize hdd : dig c.index = dd at hds HT
          have HDD := Lib.hid hdd
          clear hdd he
          go_wp2_with fail
          refine (dec_any _ _ hi0 (by omega)).mono ?_
          rw [HDD.out]
          rintro e w1 ⟨rfl, hb1⟩
          have hb2 := below_after hbw hb1 hbw.size
          go_wp2_with fail
          go_ret
          exact ⟨ret_str (by rw [HT.out, HT2.out]), hb2⟩
        · have HT : Hid (ctT l c = ctT2 l c) := if_neg hx
          have hxI : c.index ≤ 0 := by omega
          clear he
          go_wp2_with fail
          go_ret
          exact ⟨ret_str (by rw [HT.out, HT2.out]), hbw⟩
      · have hpI : (c.args.length : Int) ≤ 0 := by omega
        have HT2 : Hid (ctT2 l c = argAcc l c k) := by unfold Hid ctT2; rw [if_neg hp, he]
        generalize argAcc l c k = a at hz HT2
        by_cases hx : 0 < c.index
        · have HT : Hid (ctT l c = (ctT2 l c ++ ⟨#[58]⟩) ++ dig c.index) := if_pos hx
          have hds := dig_size c.index
          generalize hdd : dig c.index = dd at hds HT
          have HDD := Lib.hid hdd
          clear hdd he
          go_wp2_with fail
          refine (dec_any _ _ hi0 (by omega)).mono ?_
          rw [HDD.out]
          rintro e w1 ⟨rfl, hb1⟩
          have hb2 := below_after hbw hb1 hbw.size
          go_wp2_with fail
          go_ret
          exact ⟨ret_str (by rw [HT.out, HT2.out]), hb2⟩
        · have HT : Hid (ctT l c = ctT2 l c) := if_neg hx
          have hxI : c.index ≤ 0 := by omega
          clear he
          go_wp2_with fail
          go_ret
          exact ⟨ret_str (by rw [HT.out, HT2.out]), hbw⟩
end Go.Proofs.YthebdlejoficmabDoor
/-
  The text of a world: the document's function. No statement is proved here.
-/
namespace Go.Proofs.YthebdlejoficmabDoor
open Go.RowKit Go.Deep
set_option maxRecDepth 100000
set_option linter.unusedVariables false

theorem name_five {s : ByteArray} (h : nameB s = true) : s.size ≤ 5 := by
  by_cases h5 : s.size ≤ 5
  · exact h5
  · have := name_long (s := s) (by omega); rw [h] at this; cases this
theorem ct_in {n : Nat} {c : Ct} (h : ctorB n c = true) : CtIn n c := by
  obtain ⟨h1, h2⟩ := ctor_parts h
  have hn : nameB c.name = true ∧ c.args.length ≤ 3 := by
    unfold ctorB at h
    simp only [Bool.and_eq_true, decide_eq_true_eq] at h
    exact ⟨h.1, h.2.1⟩
  have := name_five hn.1
  refine ⟨by omega, hn.2, h1.1, h1.2, fun a ha => ?_⟩
  have hB := h2 a ha
  by_cases hb : a.data = -1
  · rw [argB_int hb] at hB
    have : a.index = 0 := of_decide_eq_true hB
    exact ⟨.inl hb, by omega, by omega⟩
  · rw [argB_data hb] at hB
    have := of_decide_eq_true hB
    exact ⟨.inr ⟨this.1, this.2.1⟩, this.2.2.1, this.2.2.2⟩
theorem world_ct_in {l : List Da} (h : WorldOK l) {d m : Nat} (hd : d < l.length) (hm : m < l[d].ctors.length) : CtIn l.length l[d].ctors[m] := ct_in (world_ctor h hd hm)
theorem world_short {l : List Da} (h : WorldOK l) : Short l := fun d hd => by
  have h1 := h.2.1 d hd hd
  unfold dataB dnameB at h1
  simp only [Bool.and_eq_true, decide_eq_true_eq] at h1
  omega
theorem world_four {l : List Da} (h : WorldOK l) {d : Nat} (hd : d < l.length) : l[d].ctors.length ≤ 4 := (data_len4 (h.2.1 d hd hd)).2

def ctsAcc (l : List Da) (base : ByteArray) (cs : List Ct) : Nat → ByteArray
  | 0 => base
  | k + 1 => (if k = 0 then ctsAcc l base cs k else ctsAcc l base cs k ++ ⟨#[124]⟩) ++ ctT l (cs.getD k default)
def headT (base : ByteArray) (d : Da) (k : Nat) : ByteArray := ((if k = 0 then base else base ++ ⟨#[59]⟩) ++ d.name) ++ ⟨#[61]⟩
def wAcc (l : List Da) : Nat → ByteArray
  | 0 => ⟨#[]⟩
  | k + 1 => ctsAcc l (headT (wAcc l k) (l.getD k default) k) (l.getD k default).ctors (l.getD k default).ctors.length
/-- The text of a world. -/
def wT (l : List Da) : ByteArray := wAcc l l.length
theorem ctsAcc_at {l : List Da} {base : ByteArray} {cs : List Ct} {k : Nat} (h : k < cs.length) : ctsAcc l base cs (k + 1) = (if k = 0 then ctsAcc l base cs k else ctsAcc l base cs k ++ ⟨#[124]⟩) ++ ctT l cs[k] := by
  have e : cs.getD k default = cs[k] := by simp [List.getD, List.getElem?_eq_getElem h]
  show (if k = 0 then ctsAcc l base cs k else ctsAcc l base cs k ++ ⟨#[124]⟩) ++ ctT l (cs.getD k default) = _
  rw [e]
theorem wAcc_at {l : List Da} {k : Nat} (h : k < l.length) : wAcc l (k + 1) = ctsAcc l (headT (wAcc l k) l[k] k) l[k].ctors l[k].ctors.length := by
  have e : l.getD k default = l[k] := by simp [List.getD, List.getElem?_eq_getElem h]
  show ctsAcc l (headT (wAcc l k) (l.getD k default) k) (l.getD k default).ctors (l.getD k default).ctors.length = _
  rw [e]
theorem ctsAcc_size {l : List Da} {base : ByteArray} {cs : List Ct} (hs : Short l) (hc : ∀ c ∈ cs, CtIn l.length c) : ∀ k, k ≤ cs.length → (ctsAcc l base cs k).size ≤ base.size + 511 * k
  | 0, _ => Nat.le_refl _
  | k + 1, hk => by
    have h1 := ctsAcc_size hs hc (base := base) k (by omega)
    have h2 := ctT_size hs (hc _ (List.getElem_mem (by omega : k < cs.length)))
    rw [ctsAcc_at (by omega), ByteArray.size_append]
    have h3 : (ByteArray.mk #[124]).size = 1 := rfl
    split
    · omega
    · rw [ByteArray.size_append]; omega
theorem headT_size (base : ByteArray) (d : Da) (k : Nat) : (headT base d k).size ≤ base.size + d.name.size + 2 := by
  have h3 : (ByteArray.mk #[59]).size = 1 := rfl
  have h4 : (ByteArray.mk #[61]).size = 1 := rfl
  unfold headT
  rw [ByteArray.size_append, ByteArray.size_append]
  split
  · omega
  · rw [ByteArray.size_append]; omega
theorem wAcc_size {l : List Da} (hw : WorldOK l) : ∀ k, k ≤ l.length → (wAcc l k).size ≤ 2200 * k
  | 0, _ => Nat.le_refl _
  | k + 1, hk => by
    have h1 := wAcc_size hw k (by omega)
    have h2 := world_short hw k (by omega)
    have h3 := world_four hw (by omega : k < l.length)
    rw [wAcc_at (by omega)]
    have h4 := ctsAcc_size (base := headT (wAcc l k) l[k] k) (world_short hw) (cs := l[k].ctors) (fun c hc => by
      obtain ⟨m, hm, rfl⟩ := List.getElem_of_mem hc
      exact world_ct_in hw (by omega) hm) l[k].ctors.length (Nat.le_refl _)
    have h5 := headT_size (wAcc l k) l[k] k
    omega

set_option maxHeartbeats 3000000 in
theorem text_any (A : Option Addr) (l : List Da) (cap : Nat) (w : World) (hr : RDas w w.heap.size A l) (hw : WorldOK l) :
    Calls Tryd.prog 60 #[.slice A l.length cap] w fun e w' => e = .returned (.string (wT l)) ∧ Below w.heap.size w w' := by
  have Hr := Lib.hid hr
  have HW := Lib.hid hw
  have hl4 := hw.1
  have HZ : Hid (∀ k, k ≤ l.length → (wAcc l k).size ≤ 2200 * k) := wAcc_size hw
  have HS := Lib.hid (world_short hw)
  clear hr hw
  go_enter Tryd.func60, Tryd.ntmps60
  go_wp2_with fail
  go_loopw [3, 4] (fun t i wr => ∃ k : Nat, k ≤ l.length ∧ i = .int .i64 k ∧ t = .string (wAcc l k) ∧ Below w.heap.size w wr) (fun _ i _ => l.length - (intOf i).toNat)
  case atStart => exact ⟨0, by omega, rfl, rfl, Below.refl _ _⟩
  case round =>
    obtain ⟨k, hk, rfl, rfl, hb⟩ := hrel
    have hz := HZ.out k hk
    by_cases hlt : k < l.length
    · have hkI : (k : Int) < (l.length : Int) := by omega
      obtain ⟨b, off, rfl, hbB, A', cp, c0, c1, hszd, hmd⟩ := (Hr.out.below hb (Nat.le_refl _)).2 k hlt
      have hnm := HS.out k hlt
      have h4 := world_four HW.out hlt
      have HMD : Hid (RCts w w.heap.size A' l[k].ctors) := hmd.keep (fun p hp => (hb.cell hp).symm) (Nat.le_refl _)
      have HAT := Lib.hid (wAcc_at hlt)
      have hhz := headT_size (wAcc l k) l[k] k
      have HCZ : Hid (∀ j, j ≤ l[k].ctors.length → (ctsAcc l (headT (wAcc l k) l[k] k) l[k].ctors j).size ≤ (headT (wAcc l k) l[k] k).size + 511 * j) := ctsAcc_size HS.out (fun c hc => by
        obtain ⟨m, hm, rfl⟩ := List.getElem_of_mem hc
        exact world_ct_in HW.out hlt hm)
      have HC1 : Hid (w.cell? ⟨b, off + k * 2 + 1, none⟩ = some (.slice A' l[k].ctors.length cp)) := (hb.cell (p := ⟨b, off + k * 2 + 1, none⟩) hbB).symm.trans c1
      clear hmd
      have HH : Hid (headT (wAcc l k) l[k] k = ((if k = 0 then wAcc l k else wAcc l k ++ ⟨#[59]⟩) ++ l[k].name) ++ ⟨#[61]⟩) := rfl
      by_cases h0 : k = 0
      all_goals
        first
          | (have q : ¬ (0 : Int) < (k : Int) := by omega
             have q' : (k : Int) ≤ 0 := by omega
             have q'' : decide (0 < k) = false := decide_eq_false (by omega)
             rw [if_pos h0] at HH)
          | (have q' : (0 : Int) < (k : Int) := by omega
             have q'' : decide (0 < k) = true := decide_eq_true (by omega)
             rw [if_neg h0] at HH)
        generalize headT (wAcc l k) l[k] k = h at hhz HAT HCZ HH
        generalize wAcc l k = a at hz HH hhz
        clear h0
        go_wp2_with fail
        obtain ⟨wo, rfl⟩ : ∃ wo : World, wo = wr := ⟨_, rfl⟩
        go_loopw [3, 5] (fun t i wi => ∃ j : Nat, j ≤ l[k].ctors.length ∧ i = .int .i64 j ∧ t = .string (ctsAcc l h l[k].ctors j) ∧ Below w.heap.size w wi) (fun _ i _ => l[k].ctors.length - (intOf i).toNat)
        case atStart => exact ⟨0, by omega, rfl, by rw [show ctsAcc l h l[k].ctors 0 = h from rfl, HH.out], hb⟩
        case round =>
          clear hb c0 c1
          obtain ⟨j, hj, rfl, rfl, hb⟩ := hrel
          have hcz := HCZ.out j hj
          have c1 : wr.cell? ⟨b, off + k * 2 + 1, none⟩ = some (.slice A' l[k].ctors.length cp) := (hb.cell (p := ⟨b, off + k * 2 + 1, none⟩) (by have := block_lt_of_cell HC1.out; simpa using this)).trans HC1.out
          by_cases hjt : j < l[k].ctors.length
          · have hjI : (j : Int) < (l[k].ctors.length : Int) := by omega
            obtain ⟨g, o, rfl, hgB, D1, ep, e0, e1, e2, hszm, hmm⟩ := (HMD.out.below hb (Nat.le_refl _)).2 j hjt
            have HIN := Lib.hid (world_ct_in HW.out hlt hjt)
            have HJ := Lib.hid (ctsAcc_at (l := l) (base := h) hjt)
            have hct := ctT_size HS.out HIN.out
            have HRr : Hid (RDas wr wr.heap.size (some ⟨b, off, none⟩) l) := Hr.out.keep (fun p hp => hb.cell hp) hb.size
            have HMM : Hid (RTys wr wr.heap.size D1 l[k].ctors[j].args) := hmm.keep (fun _ _ => rfl) hb.size
            generalize hu : ctT l l[k].ctors[j] = u at hct HJ
            have HU := Lib.hid hu
            generalize ctsAcc l h l[k].ctors j = a2 at hcz HJ
            clear hu hmm
            by_cases h1 : j = 0
            · have q2 : (j : Int) ≤ 0 := by omega
              rw [if_pos h1] at HJ
              clear h1
              go_wp2_with fail
              refine (ctorText_any _ _ l l[k].ctors[j] _ _ _ HRr.out HMM.out HS.out HIN.out).mono ?_
              rw [HU.out]
              rintro e w1 ⟨rfl, hb1⟩
              have hb2 := below_after hb hb1 hb.size
              go_wp2_with fail
              go_roundw
              case rel => first | exact ⟨j + 1, by omega, by go_num, by rw [HJ.out], hb2⟩ | ((repeat apply Exists.intro); exact ⟨⟨j + 1, by omega, by go_num, by rw [HJ.out], hb2⟩, rfl⟩)
              case measure => simp [intOf]; omega
            · have q2 : (0 : Int) < (j : Int) := by omega
              rw [if_neg h1] at HJ
              clear h1
              go_wp2_with fail
              refine (ctorText_any _ _ l l[k].ctors[j] _ _ _ HRr.out HMM.out HS.out HIN.out).mono ?_
              rw [HU.out]
              rintro e w1 ⟨rfl, hb1⟩
              have hb2 := below_after hb hb1 hb.size
              go_wp2_with fail
              go_roundw
              case rel => first | exact ⟨j + 1, by omega, by go_num, by rw [HJ.out], hb2⟩ | ((repeat apply Exists.intro); exact ⟨⟨j + 1, by omega, by go_num, by rw [HJ.out], hb2⟩, rfl⟩)
              case measure => simp [intOf]; omega
          · have he : j = l[k].ctors.length := by omega
            have hjI : (l[k].ctors.length : Int) ≤ (j : Int) := by omega
            have HE : Hid (ctsAcc l h l[k].ctors j = wAcc l (k + 1)) := by unfold Hid; rw [he, HAT.out]
            clear he
            go_wp2_with fail
            go_roundw
            case rel => exact ⟨k + 1, by omega, by go_num, by rw [HE.out], hb⟩
            case measure => simp [intOf]; omega
    · have he : k = l.length := by omega
      have hkI : (l.length : Int) ≤ (k : Int) := by omega
      have HE : Hid (wAcc l k = wT l) := by unfold Hid wT; rw [he]
      clear he
      go_wp2_with fail
      go_ret
      exact ⟨ret_str HE.out, hb⟩
end Go.Proofs.YthebdlejoficmabDoor
/-
  Rows of constructors and of data types of the call's own, by what they hold and by their kinds; worlds that read the same while nothing from a block on turns. No statement is proved here.
-/
namespace Go.Proofs.YthebdlejoficmabDoor
open Go.RowKit Go.Deep
set_option linter.unusedVariables false

/-- From block lo on, the blocks of the types T are as they were. -/
def KeepT (lo : Nat) (T : TypeId → Prop) (w w' : World) : Prop := ∀ (b : Nat) (ds : Array Value) (t : TypeId), lo ≤ b → T t → w.heap[b]? = some (Obj.cells ds t (0, 0)) → w'.heap[b]? = w.heap[b]?
def T33 (t : TypeId) : Prop := t = 39
def T31 (t : TypeId) : Prop := t = 39 ∨ t = 27
def T28 (t : TypeId) : Prop := t = 39 ∨ t = 27 ∨ t = 30
theorem KeepT.less {lo : Nat} {T S : TypeId → Prop} {w w' : World} (h : KeepT lo T w w') (hs : ∀ t, S t → T t) : KeepT lo S w w' := fun b ds t hl ht hb => h b ds t hl (hs t ht) hb
theorem KeepT.up {lo lo' : Nat} {T : TypeId → Prop} {w w' : World} (h : KeepT lo T w w') (hl : lo ≤ lo') : KeepT lo' T w w' := fun b ds t hl' ht hb => h b ds t (Nat.le_trans hl hl') ht hb
theorem KeepT.to33 {lo : Nat} {w w' : World} (h : KeepT lo T28 w w') : KeepT lo T33 w w' := h.less fun _ e => .inl e
theorem KeepT.to31 {lo : Nat} {w w' : World} (h : KeepT lo T28 w w') : KeepT lo T31 w w' := h.less fun _ e => e.elim .inl fun e => .inr (.inl e)
theorem KeepT.of31 {lo : Nat} {w w' : World} (h : KeepT lo T31 w w') : KeepT lo T33 w w' := h.less fun _ e => .inl e
theorem KeepT.below {w w' : World} (lo : Nat) (T : TypeId → Prop) (h : Below w.heap.size w w') : KeepT lo T w w' := fun b ds t _ _ hb => h.block b (heap_lt hb)
theorem KeepT.alloc (lo : Nat) (T : TypeId → Prop) (w : World) (o : Obj) : KeepT lo T w (w.alloc o) := fun b ds t _ _ hb => Below.heap_alloc _ _ _ (heap_lt hb)
theorem KeepT.trans {lo : Nat} {T : TypeId → Prop} {a b c : World} (h : KeepT lo T a b) (k : KeepT lo T b c) : KeepT lo T a c := fun g ds t hl ht hg => by
  have h1 := h g ds t hl ht hg
  exact (k g ds t hl ht (h1.trans hg)).trans h1
theorem KeepT.set {lo g : Nat} {T : TypeId → Prop} {w : World} {cs : Array Value} {t : TypeId} (hg : w.heap[g]? = some (.cells cs t (0, 0))) (hn : ¬ T t) (i : Nat) (u : Value) : KeepT lo T w (w.setCell ⟨g, i, none⟩ u) := fun b ds s hl hs hb => by
  refine Below.heap_setCell _ _ _ _ ?_
  intro e
  have e' : b = g := e
  subst e'
  rw [hg] at hb
  injection hb with hb
  injection hb with _ e
  exact hn (e ▸ hs)
theorem KeepT.setLow {lo g : Nat} {T : TypeId → Prop} {w : World} (hg : g < lo) (i : Nat) (u : Value) : KeepT lo T w (w.setCell ⟨g, i, none⟩ u) := fun b ds s hl hs hb => Below.heap_setCell _ _ _ _ (by simp only; omega)
theorem KeepT.grown {lo : Nat} {T : TypeId → Prop} {w w' : World} {v : Value} {size n : Nat} {e : TypeId} {xs : List Value} {l0 : Nat} (ho : w.ownsRow l0 e size v n xs) (hn : ¬ T e) (hg : w.grownBy w' v.ownBlock) : KeepT lo T w w' := fun b ds s hl hs hb => by
  refine hg.block b (heap_lt hb) ?_
  intro he
  rcases ho.2 with ⟨rfl, _⟩ | ⟨g, cap, cur, rfl, _, hgg, _⟩
  · simp [Value.ownBlock] at he
  · have : b = g := by simpa [Value.ownBlock] using he
    subst this
    rw [hgg] at hb
    injection hb with hb
    injection hb with _ e
    exact hn (e ▸ hs)

theorem row_keep {w w' : World} {lo size n : Nat} {e : TypeId} {v : Value} {xs : List Value} {T : TypeId → Prop} (h : w.ownsRow lo e size v n xs) (hk : KeepT lo T w w') (hT : T e) : w'.ownsRow lo e size v n xs := by
  refine ⟨h.1, ?_⟩
  rcases h.2 with h0 | ⟨g, cap, cur, a1, a2, a3, a4⟩
  · exact .inl h0
  · exact .inr ⟨g, cap, cur, a1, a2, (hk g cur e a2 hT a3).trans a3, a4⟩
theorem row_lower {w : World} {lo lo' size n : Nat} {e : TypeId} {v : Value} {xs : List Value} (h : w.ownsRow lo e size v n xs) (hl : lo' ≤ lo) : w.ownsRow lo' e size v n xs := by
  refine ⟨h.1, ?_⟩
  rcases h.2 with h0 | ⟨g, cap, cur, a1, a2, a3⟩
  · exact .inl h0
  · exact .inr ⟨g, cap, cur, a1, by omega, a3⟩
theorem OTys.keepT {w w' : World} {lo : Nat} {v : Value} {l : List Ty} {k : Nat} (h : OTys w lo v l k) (hk : KeepT lo T33 w w') : OTys w' lo v l k := by
  obtain ⟨xs, ho, hx⟩ := h
  exact ⟨xs, row_keep ho hk rfl, hx⟩

/-! What a row holds. -/
def CRow (w : World) (lo : Nat) (cs : List Ct) (xs : List Value) : Prop :=
  ∀ j (h : j < cs.length), ∃ v, xs[j * 3]? = some (.string cs[j].name) ∧ xs[j * 3 + 1]? = some v ∧ xs[j * 3 + 2]? = some (.int .i64 cs[j].index) ∧ cs[j].name.size ≤ maxLen ∧ cs[j].args.length ≤ maxLen ∧ OTys w lo v cs[j].args cs[j].args.length
def OCts (w : World) (lo : Nat) (v : Value) (cs : List Ct) : Prop := ∃ xs, w.ownsRow lo 27 3 v cs.length xs ∧ CRow w lo cs xs
def DRow (w : World) (lo : Nat) (l : List Da) (xs : List Value) : Prop :=
  ∀ j (h : j < l.length), ∃ v, xs[j * 2]? = some (.string l[j].name) ∧ xs[j * 2 + 1]? = some v ∧ l[j].name.size ≤ maxLen ∧ l[j].ctors.length ≤ maxLen ∧ OCts w lo v l[j].ctors
def ODas (w : World) (lo : Nat) (v : Value) (l : List Da) : Prop := ∃ xs, w.ownsRow lo 30 2 v l.length xs ∧ DRow w lo l xs

section
variable {w w' : World} {lo lo' : Nat} {v : Value}
theorem CRow.keepT {cs : List Ct} {xs : List Value} (h : CRow w lo cs xs) (hk : KeepT lo T33 w w') : CRow w' lo cs xs := fun j hj => by
  obtain ⟨u, h1, h2, h3, h4, h5, h6⟩ := h j hj
  exact ⟨u, h1, h2, h3, h4, h5, h6.keepT hk⟩
theorem OCts.keepT {cs : List Ct} (h : OCts w lo v cs) (hk : KeepT lo T31 w w') : OCts w' lo v cs := by
  obtain ⟨xs, ho, hx⟩ := h
  exact ⟨xs, row_keep ho hk (.inr rfl), hx.keepT hk.of31⟩
theorem DRow.keepT {l : List Da} {xs : List Value} (h : DRow w lo l xs) (hk : KeepT lo T31 w w') : DRow w' lo l xs := fun j hj => by
  obtain ⟨u, h1, h2, h3, h4, h5⟩ := h j hj
  exact ⟨u, h1, h2, h3, h4, h5.keepT hk⟩
theorem ODas.keepT {l : List Da} (h : ODas w lo v l) (hk : KeepT lo T28 w w') : ODas w' lo v l := by
  obtain ⟨xs, ho, hx⟩ := h
  exact ⟨xs, row_keep ho hk (.inr (.inr rfl)), hx.keepT hk.to31⟩
theorem OCts.lower {cs : List Ct} (h : OCts w lo v cs) (hl : lo' ≤ lo) : OCts w lo' v cs := by
  obtain ⟨xs, ho, hx⟩ := h
  refine ⟨xs, row_lower ho hl, fun j hj => ?_⟩
  obtain ⟨u, h1, h2, h3, h4, h5, h6⟩ := hx j hj
  exact ⟨u, h1, h2, h3, h4, h5, h6.lower hl⟩
theorem ODas.lower {l : List Da} (h : ODas w lo v l) (hl : lo' ≤ lo) : ODas w lo' v l := by
  obtain ⟨xs, ho, hx⟩ := h
  refine ⟨xs, row_lower ho hl, fun j hj => ?_⟩
  obtain ⟨u, h1, h2, h3, h4, h5⟩ := hx j hj
  exact ⟨u, h1, h2, h3, h4, h5.lower hl⟩
theorem CRow.nil (w : World) (lo : Nat) (xs : List Value) : CRow w lo [] xs := fun j h => absurd h (by simp)
theorem DRow.nil (w : World) (lo : Nat) (xs : List Value) : DRow w lo [] xs := fun j h => absurd h (by simp)
theorem OCts.nil (w : World) (lo : Nat) : OCts w lo (.slice none 0 0) [] := ⟨[], World.ownsRow_nil _ _ _ _, CRow.nil _ _ _⟩
theorem CRow.app {cs : List Ct} {xs : List Value} {c : Ct} {u : Value} (h : CRow w lo cs xs) (hx : xs.length = cs.length * 3) (hn : c.name.size ≤ maxLen) (ha : c.args.length ≤ maxLen) (ho : OTys w lo u c.args c.args.length) :
    CRow w lo (cs ++ [c]) (xs ++ [.string c.name, u, .int .i64 c.index]) := fun j hj => by
  by_cases e : j < cs.length
  · obtain ⟨u', h1, h2, h3, h4, h5, h6⟩ := h j e
    have e1 : (cs ++ [c])[j] = cs[j] := List.getElem_append_left e
    rw [e1]
    exact ⟨u', by rw [List.getElem?_append_left (by omega)]; exact h1, by rw [List.getElem?_append_left (by omega)]; exact h2, by rw [List.getElem?_append_left (by omega)]; exact h3, h4, h5, h6⟩
  · have ej : j = cs.length := by simp at hj; omega
    subst ej
    have e1 : (cs ++ [c])[cs.length] = c := by simp
    rw [e1]
    refine ⟨u, ?_, ?_, ?_, hn, ha, ho⟩
    · rw [List.getElem?_append_right (by omega), hx]; simp
    · rw [List.getElem?_append_right (by omega), hx]; simp
    · rw [List.getElem?_append_right (by omega), hx]; simp
theorem OCts.app {cs : List Ct} {xs : List Value} {c : Ct} {u : Value} (h : CRow w lo cs xs) (hx : xs.length = cs.length * 3) (hn : c.name.size ≤ maxLen) (ha : c.args.length ≤ maxLen) (ho : OTys w lo u c.args c.args.length)
    (hr : w.ownsRow lo 27 3 v (cs.length + 1) (xs ++ [.string c.name, u, .int .i64 c.index])) : OCts w lo v (cs ++ [c]) :=
  ⟨_, by rw [List.length_append]; exact hr, h.app hx hn ha ho⟩
theorem DRow.app {l : List Da} {xs : List Value} {d : Da} {u : Value} (h : DRow w lo l xs) (hx : xs.length = l.length * 2) (hn : d.name.size ≤ maxLen) (ha : d.ctors.length ≤ maxLen) (ho : OCts w lo u d.ctors) :
    DRow w lo (l ++ [d]) (xs ++ [.string d.name, u]) := fun j hj => by
  by_cases e : j < l.length
  · obtain ⟨u', h1, h2, h4, h5, h6⟩ := h j e
    have e1 : (l ++ [d])[j] = l[j] := List.getElem_append_left e
    rw [e1]
    exact ⟨u', by rw [List.getElem?_append_left (by omega)]; exact h1, by rw [List.getElem?_append_left (by omega)]; exact h2, h4, h5, h6⟩
  · have ej : j = l.length := by simp at hj; omega
    subst ej
    have e1 : (l ++ [d])[l.length] = d := by simp
    rw [e1]
    refine ⟨u, ?_, ?_, hn, ha, ho⟩
    · rw [List.getElem?_append_right (by omega), hx]; simp
    · rw [List.getElem?_append_right (by omega), hx]; simp
theorem ODas.app {l : List Da} {xs : List Value} {d : Da} {u : Value} (h : DRow w lo l xs) (hx : xs.length = l.length * 2) (hn : d.name.size ≤ maxLen) (ha : d.ctors.length ≤ maxLen) (ho : OCts w lo u d.ctors)
    (hr : w.ownsRow lo 30 2 v (l.length + 1) (xs ++ [.string d.name, u])) : ODas w lo v (l ++ [d]) :=
  ⟨_, by rw [List.length_append]; exact hr, h.app hx hn ha ho⟩
theorem OCts.form {cs : List Ct} (h : OCts w lo v cs) (hl : cs.length ≤ maxLen) : ∃ A cap, v = .slice A cs.length cap ∧ RCts w w.heap.size A cs := by
  obtain ⟨xs, ho, hx⟩ := h
  rcases ho.2 with ⟨rfl, h0⟩ | ⟨g, cap, cur, rfl, hb, hg, hnc, hcm, hcs, htake⟩
  · exact ⟨none, 0, by rw [h0], hl, fun k hk => absurd hk (by omega)⟩
  · refine ⟨_, cap, rfl, hl, fun k hk => ⟨g, 0, rfl, own_lt ho, ?_⟩⟩
    obtain ⟨u, h1, h2, h3, h4, h5, h6⟩ := hx k hk
    obtain ⟨A, cp, rfl, hr⟩ := h6.form h5
    refine ⟨A, cp, ?_, ?_, ?_, h4, hr⟩
    · rw [Nat.zero_add, ho.cellAt (k * 3) (by omega)]; exact h1
    · rw [Nat.zero_add, ho.cellAt (k * 3 + 1) (by omega)]; exact h2
    · rw [Nat.zero_add, ho.cellAt (k * 3 + 2) (by omega)]; exact h3
theorem ODas.form {l : List Da} (h : ODas w lo v l) (hl : l.length ≤ maxLen) : ∃ A cap, v = .slice A l.length cap ∧ RDas w w.heap.size A l := by
  obtain ⟨xs, ho, hx⟩ := h
  rcases ho.2 with ⟨rfl, h0⟩ | ⟨g, cap, cur, rfl, hb, hg, hnc, hcm, hcs, htake⟩
  · exact ⟨none, 0, by rw [h0], hl, fun k hk => absurd hk (by omega)⟩
  · refine ⟨_, cap, rfl, hl, fun k hk => ⟨g, 0, rfl, own_lt ho, ?_⟩⟩
    obtain ⟨u, h1, h2, h4, h5, h6⟩ := hx k hk
    obtain ⟨A, cp, rfl, hr⟩ := h6.form h5
    refine ⟨A, cp, ?_, ?_, h4, hr⟩
    · rw [Nat.zero_add, ho.cellAt (k * 2) (by omega)]; exact h1
    · rw [Nat.zero_add, ho.cellAt (k * 2 + 1) (by omega)]; exact h2
end

/-- From block lo on, what was there is there. -/
def Stays (lo : Nat) (w w' : World) : Prop := w.heap.size ≤ w'.heap.size ∧ ∀ b, lo ≤ b → b < w.heap.size → w'.heap[b]? = w.heap[b]?
theorem Stays.refl (lo : Nat) (w : World) : Stays lo w w := ⟨Nat.le_refl _, fun _ _ _ => rfl⟩
theorem Stays.trans {lo : Nat} {a b c : World} (h : Stays lo a b) (k : Stays lo b c) : Stays lo a c :=
  ⟨Nat.le_trans h.1 k.1, fun g hl hg => (k.2 g hl (Nat.lt_of_lt_of_le hg h.1)).trans (h.2 g hl hg)⟩
theorem Stays.below {lo : Nat} {w w' : World} (h : Below w.heap.size w w') : Stays lo w w' := ⟨h.size, fun b _ hb => h.block b hb⟩
theorem Stays.grown {lo g : Nat} {w w' : World} (h : w.grownBy w' (some g)) (hg : g < lo) : Stays lo w w' := ⟨h.size, fun b hl hb => h.block b hb (fun e => by injection e with e; omega)⟩
theorem Stays.keepT {lo : Nat} {w w' : World} (h : Stays lo w w') (T : TypeId → Prop) : KeepT lo T w w' := fun b ds t hl _ hb => h.2 b hl (heap_lt hb)
/-- The slice v reads as the list l, and does so while nothing from block lo on turns. -/
def Lies (w : World) (lo : Nat) (v : Value) (l : List Da) : Prop := ∃ A cap, v = .slice A l.length cap ∧ ∀ w', Stays lo w w' → RDas w' w'.heap.size A l
theorem Lies.at_ {w w' : World} {lo : Nat} {v : Value} {l : List Da} (h : Lies w lo v l) (hs : Stays lo w w') : Lies w' lo v l := by
  obtain ⟨A, cap, e, hr⟩ := h
  exact ⟨A, cap, e, fun w2 h2 => hr w2 (hs.trans h2)⟩
theorem Lies.form {w : World} {lo : Nat} {v : Value} {l : List Da} (h : Lies w lo v l) : ∃ A cap, v = .slice A l.length cap ∧ RDas w w.heap.size A l := by
  obtain ⟨A, cap, e, hr⟩ := h
  exact ⟨A, cap, e, hr w (Stays.refl _ _)⟩
theorem ODas.lies {w : World} {lo : Nat} {v : Value} {l : List Da} (h : ODas w lo v l) (hl : l.length ≤ maxLen) : Lies w lo v l := by
  obtain ⟨A, cap, rfl, _⟩ := h.form hl
  refine ⟨A, cap, rfl, fun w' hs => ?_⟩
  obtain ⟨A', cap', e, hr⟩ := (h.keepT (hs.keepT T28)).form hl
  injection e with e1 e2 e3
  subst e1
  exact hr
end Go.Proofs.YthebdlejoficmabDoor
/-
  Rows of the call's own by their kinds alone: what remains true of them when a cell is overwritten by one of its kind. No statement is proved here.
-/
namespace Go.Proofs.YthebdlejoficmabDoor
open Go.RowKit Go.Deep
set_option linter.unusedVariables false

def XTys (w : World) (lo N : Nat) (v : Value) (n : Nat) : Prop := ∃ xs, w.ownsRow lo 39 2 v n xs ∧ n ≤ N ∧ ∀ j, j < n → ∃ a b, xs[j * 2]? = some (.int .i64 a) ∧ xs[j * 2 + 1]? = some (.int .i64 b)
def CKind (w : World) (lo N : Nat) (xs : List Value) (j : Nat) : Prop := ∃ s u m i, xs[j * 3]? = some (.string s) ∧ s.size ≤ maxLen ∧ xs[j * 3 + 1]? = some u ∧ XTys w lo N u m ∧ xs[j * 3 + 2]? = some (.int .i64 i)
def XCts (w : World) (lo N : Nat) (v : Value) (n : Nat) : Prop := ∃ xs, w.ownsRow lo 27 3 v n xs ∧ n ≤ N ∧ ∀ j, j < n → CKind w lo N xs j
def DKind (w : World) (lo N : Nat) (xs : List Value) (j : Nat) : Prop := ∃ s u m, xs[j * 2]? = some (.string s) ∧ s.size ≤ maxLen ∧ xs[j * 2 + 1]? = some u ∧ XCts w lo N u m
def XDas (w : World) (lo N : Nat) (v : Value) (n : Nat) : Prop := ∃ xs, w.ownsRow lo 30 2 v n xs ∧ n ≤ N ∧ ∀ j, j < n → DKind w lo N xs j

section
variable {w w' : World} {lo N N' n : Nat} {v : Value}
theorem XTys.keepT (h : XTys w lo N v n) (hk : KeepT lo T33 w w') (hN : N ≤ N') : XTys w' lo N' v n := by
  obtain ⟨xs, ho, hn, hx⟩ := h
  exact ⟨xs, row_keep ho hk rfl, by omega, hx⟩
theorem CKind.keepT {xs : List Value} {j : Nat} (h : CKind w lo N xs j) (hk : KeepT lo T33 w w') (hN : N ≤ N') : CKind w' lo N' xs j := by
  obtain ⟨s, u, m, i, h1, h2, h3, h4, h5⟩ := h
  exact ⟨s, u, m, i, h1, h2, h3, h4.keepT hk hN, h5⟩
theorem XCts.keepT (h : XCts w lo N v n) (hk : KeepT lo T31 w w') (hN : N ≤ N') : XCts w' lo N' v n := by
  obtain ⟨xs, ho, hn, hx⟩ := h
  exact ⟨xs, row_keep ho hk (.inr rfl), by omega, fun j hj => (hx j hj).keepT hk.of31 hN⟩
theorem DKind.keepT {xs : List Value} {j : Nat} (h : DKind w lo N xs j) (hk : KeepT lo T31 w w') (hN : N ≤ N') : DKind w' lo N' xs j := by
  obtain ⟨s, u, m, h1, h2, h3, h4⟩ := h
  exact ⟨s, u, m, h1, h2, h3, h4.keepT hk hN⟩
theorem XDas.keepT (h : XDas w lo N v n) (hk : KeepT lo T28 w w') (hN : N ≤ N') : XDas w' lo N' v n := by
  obtain ⟨xs, ho, hn, hx⟩ := h
  exact ⟨xs, row_keep ho hk (.inr (.inr rfl)), by omega, fun j hj => (hx j hj).keepT hk.to31 hN⟩

/-- A cell of a row is overwritten. -/
theorem row_set {e : TypeId} {size g i : Nat} {xs : List Value} {u : Value} (h : w.ownsRow lo e size v n xs) : ∃ ys, (w.setCell ⟨g, i, none⟩ u).ownsRow lo e size v n ys ∧ (v.ownBlock = some g → ys = xs.set i u) ∧ (v.ownBlock ≠ some g → ys = xs) := by
  rcases h.2 with ⟨rfl, h0⟩ | ⟨g', cap, cur, rfl, hb, hg, hnc, hcm, hcs, htake⟩
  · exact ⟨xs, ⟨h.1, .inl ⟨rfl, h0⟩⟩, fun e => by simp [Value.ownBlock] at e, fun _ => rfl⟩
  · by_cases e : g' = g
    · subst e
      refine ⟨xs.set i u, ⟨by rw [List.length_set]; exact h.1, .inr ⟨g', cap, cur.setIfInBounds i u, rfl, hb, heap_setCell_same w g' i _ _ u hg, hnc, hcm, by simp [hcs], ?_⟩⟩, fun _ => rfl, fun hne => absurd rfl hne⟩
      rw [Array.toList_setIfInBounds, List.take_set, htake]
    · refine ⟨xs, ⟨h.1, .inr ⟨g', cap, cur, rfl, hb, ?_, hnc, hcm, hcs, htake⟩⟩, fun h1 => absurd (by simpa [Value.ownBlock] using h1) e, fun _ => rfl⟩
      rw [Below.heap_setCell _ _ _ _ (by simpa using e)]
      exact hg
theorem set_at {xs : List Value} {i k : Nat} {u v : Value} (h : xs[k]? = some v) : (xs.set i u)[k]? = if i = k then some u else some v := by
  rw [List.getElem?_set]
  have hk : k < xs.length := by
    rcases Nat.lt_or_ge k xs.length with h1 | h1
    · exact h1
    · rw [List.getElem?_eq_none h1] at h; cases h
  by_cases e : i = k
  · subst e; simp [hk]
  · simp [e, h]
/-- The kinds that a cell of a constructor may be overwritten by. -/
def CNew (w : World) (lo N : Nat) (i : Nat) (u : Value) : Prop := (i % 3 = 0 ∧ ∃ s, u = .string s ∧ s.size ≤ maxLen) ∨ (i % 3 = 1 ∧ ∃ m, XTys w lo N u m) ∨ (i % 3 = 2 ∧ ∃ x, u = .int .i64 x)
def DNew (w : World) (lo N : Nat) (i : Nat) (u : Value) : Prop := (i % 2 = 0 ∧ ∃ s, u = .string s ∧ s.size ≤ maxLen) ∨ (i % 2 = 1 ∧ ∃ m, XCts w lo N u m)
theorem CKind.set {xs : List Value} {i j : Nat} {u : Value} (h : CKind w lo N xs j) (hu : CNew w lo N i u) : CKind w lo N (xs.set i u) j := by
  obtain ⟨s, a, m, x, h1, h2, h3, h4, h5⟩ := h
  have e1 := set_at (i := i) (u := u) h1
  have e2 := set_at (i := i) (u := u) h3
  have e3 := set_at (i := i) (u := u) h5
  rcases hu with ⟨hi, s', rfl, hs⟩ | ⟨hi, m', hm⟩ | ⟨hi, x', rfl⟩
  · rw [if_neg (by omega)] at e2 e3
    by_cases e : i = j * 3
    · rw [if_pos e] at e1; exact ⟨s', a, m, x, e1, hs, e2, h4, e3⟩
    · rw [if_neg e] at e1; exact ⟨s, a, m, x, e1, h2, e2, h4, e3⟩
  · rw [if_neg (by omega)] at e1 e3
    by_cases e : i = j * 3 + 1
    · rw [if_pos e] at e2; exact ⟨s, u, m', x, e1, h2, e2, hm, e3⟩
    · rw [if_neg e] at e2; exact ⟨s, a, m, x, e1, h2, e2, h4, e3⟩
  · rw [if_neg (by omega)] at e1 e2
    by_cases e : i = j * 3 + 2
    · rw [if_pos e] at e3; exact ⟨s, a, m, x', e1, h2, e2, h4, e3⟩
    · rw [if_neg e] at e3; exact ⟨s, a, m, x, e1, h2, e2, h4, e3⟩
theorem DKind.set {xs : List Value} {i j : Nat} {u : Value} (h : DKind w lo N xs j) (hu : DNew w lo N i u) : DKind w lo N (xs.set i u) j := by
  obtain ⟨s, a, m, h1, h2, h3, h4⟩ := h
  have e1 := set_at (i := i) (u := u) h1
  have e2 := set_at (i := i) (u := u) h3
  rcases hu with ⟨hi, s', rfl, hs⟩ | ⟨hi, m', hm⟩
  · rw [if_neg (by omega)] at e2
    by_cases e : i = j * 2
    · rw [if_pos e] at e1; exact ⟨s', a, m, e1, hs, e2, h4⟩
    · rw [if_neg e] at e1; exact ⟨s, a, m, e1, h2, e2, h4⟩
  · rw [if_neg (by omega)] at e1
    by_cases e : i = j * 2 + 1
    · rw [if_pos e] at e2; exact ⟨s, u, m', e1, h2, e2, hm⟩
    · rw [if_neg e] at e2; exact ⟨s, a, m, e1, h2, e2, h4⟩
theorem T33_not31 : ¬ T33 27 := by unfold T33; decide
theorem T33_not28 : ¬ T33 30 := by unfold T33; decide
theorem T31_not28 : ¬ T31 30 := by unfold T31; decide
/-- A cell in a block of constructors is overwritten by one of its kind. -/
theorem XCts.set {g i : Nat} {cs : Array Value} {u : Value} (h : XCts w lo N v n) (hg : w.heap[g]? = some (.cells cs 27 (0, 0))) (hu : CNew w lo N i u) : XCts (w.setCell ⟨g, i, none⟩ u) lo N v n := by
  obtain ⟨xs, ho, hn, hx⟩ := h
  obtain ⟨ys, hy, h1, h2⟩ := row_set (g := g) (i := i) (u := u) ho
  have hk : KeepT lo T33 w (w.setCell ⟨g, i, none⟩ u) := KeepT.set hg T33_not31 i u
  by_cases e : v.ownBlock = some g
  · rw [h1 e] at hy
    exact ⟨_, hy, hn, fun j hj => ((hx j hj).set hu).keepT hk (Nat.le_refl _)⟩
  · rw [h2 e] at hy
    exact ⟨_, hy, hn, fun j hj => (hx j hj).keepT hk (Nat.le_refl _)⟩
theorem XDas.set31 {g i : Nat} {cs : Array Value} {u : Value} (h : XDas w lo N v n) (hg : w.heap[g]? = some (.cells cs 27 (0, 0))) (hu : CNew w lo N i u) : XDas (w.setCell ⟨g, i, none⟩ u) lo N v n := by
  obtain ⟨xs, ho, hn, hx⟩ := h
  obtain ⟨ys, hy, h1, h2⟩ := row_set (g := g) (i := i) (u := u) ho
  have e : v.ownBlock ≠ some g := fun e => own_ne ho hg (by decide) e.symm
  rw [h2 e] at hy
  refine ⟨_, hy, hn, fun j hj => ?_⟩
  obtain ⟨s, a, m, h1, h2, h3, h4⟩ := hx j hj
  exact ⟨s, a, m, h1, h2, h3, h4.set hg hu⟩
/-- A cell in a block of data types is overwritten by one of its kind. -/
theorem XDas.set28 {g i : Nat} {cs : Array Value} {u : Value} (h : XDas w lo N v n) (hg : w.heap[g]? = some (.cells cs 30 (0, 0))) (hu : DNew w lo N i u) : XDas (w.setCell ⟨g, i, none⟩ u) lo N v n := by
  obtain ⟨xs, ho, hn, hx⟩ := h
  obtain ⟨ys, hy, h1, h2⟩ := row_set (g := g) (i := i) (u := u) ho
  have hk : KeepT lo T31 w (w.setCell ⟨g, i, none⟩ u) := KeepT.set hg T31_not28 i u
  by_cases e : v.ownBlock = some g
  · rw [h1 e] at hy
    exact ⟨_, hy, hn, fun j hj => ((hx j hj).set hu).keepT hk (Nat.le_refl _)⟩
  · rw [h2 e] at hy
    exact ⟨_, hy, hn, fun j hj => (hx j hj).keepT hk (Nat.le_refl _)⟩

theorem XTys.nil (w : World) (lo N : Nat) : XTys w lo N (.slice none 0 0) 0 := ⟨[], World.ownsRow_nil _ _ _ _, Nat.zero_le _, fun j h => absurd h (by omega)⟩
theorem XCts.nil (w : World) (lo N : Nat) : XCts w lo N (.slice none 0 0) 0 := ⟨[], World.ownsRow_nil _ _ _ _, Nat.zero_le _, fun j h => absurd h (by omega)⟩
theorem XTys.of_row {xs : List Value} (h : w.ownsRow lo 39 2 v n xs) (hn : n ≤ N) (hx : ∀ j, j < n → ∃ a b, xs[j * 2]? = some (.int .i64 a) ∧ xs[j * 2 + 1]? = some (.int .i64 b)) : XTys w lo N v n := ⟨xs, h, hn, hx⟩
theorem get_left {xs ys : List Value} {k : Nat} {v : Value} (h : xs[k]? = some v) : (xs ++ ys)[k]? = some v := by
  have hk : k < xs.length := by
    rcases Nat.lt_or_ge k xs.length with h1 | h1
    · exact h1
    · rw [List.getElem?_eq_none h1] at h; cases h
  rw [List.getElem?_append_left hk]; exact h
theorem CKind.left {xs ys : List Value} {j : Nat} (h : CKind w lo N xs j) : CKind w lo N (xs ++ ys) j := by
  obtain ⟨s, a, m, x, h1, h2, h3, h4, h5⟩ := h
  exact ⟨s, a, m, x, get_left h1, h2, get_left h3, h4, get_left h5⟩
theorem DKind.left {xs ys : List Value} {j : Nat} (h : DKind w lo N xs j) : DKind w lo N (xs ++ ys) j := by
  obtain ⟨s, a, m, h1, h2, h3, h4⟩ := h
  exact ⟨s, a, m, get_left h1, h2, get_left h3, h4⟩
theorem XTys.app {xs : List Value} {a b : Int} (hx : ∀ j, j < n → ∃ a b, xs[j * 2]? = some (.int .i64 a) ∧ xs[j * 2 + 1]? = some (.int .i64 b)) (hl : xs.length = n * 2) (hr : w.ownsRow lo 39 2 v (n + 1) (xs ++ [.int .i64 a, .int .i64 b])) (hN : n + 1 ≤ N) : XTys w lo N v (n + 1) :=
  ⟨_, hr, hN, fun j hj => by
    by_cases e : j < n
    · obtain ⟨a, b, h1, h2⟩ := hx j e
      exact ⟨a, b, get_left h1, get_left h2⟩
    · have : j = n := by omega
      subst this
      exact ⟨a, b, by rw [List.getElem?_append_right (by omega), hl]; simp, by rw [List.getElem?_append_right (by omega), hl]; simp⟩⟩
theorem XCts.app {xs : List Value} {s : ByteArray} {u : Value} {m : Nat} {i : Int} (hx : ∀ j, j < n → CKind w lo N xs j) (hl : xs.length = n * 3) (hs : s.size ≤ maxLen) (hu : XTys w lo N u m) (hr : w.ownsRow lo 27 3 v (n + 1) (xs ++ [.string s, u, .int .i64 i])) (hN : n + 1 ≤ N) : XCts w lo N v (n + 1) :=
  ⟨_, hr, hN, fun j hj => by
    by_cases e : j < n
    · exact (hx j e).left
    · have : j = n := by omega
      subst this
      exact ⟨s, u, m, i, by rw [List.getElem?_append_right (by omega), hl]; simp, hs, by rw [List.getElem?_append_right (by omega), hl]; simp, hu, by rw [List.getElem?_append_right (by omega), hl]; simp⟩⟩
theorem XDas.app {xs : List Value} {s : ByteArray} {u : Value} {m : Nat} (hx : ∀ j, j < n → DKind w lo N xs j) (hl : xs.length = n * 2) (hs : s.size ≤ maxLen) (hu : XCts w lo N u m) (hr : w.ownsRow lo 30 2 v (n + 1) (xs ++ [.string s, u])) (hN : n + 1 ≤ N) : XDas w lo N v (n + 1) :=
  ⟨_, hr, hN, fun j hj => by
    by_cases e : j < n
    · exact (hx j e).left
    · have : j = n := by omega
      subst this
      exact ⟨s, u, m, by rw [List.getElem?_append_right (by omega), hl]; simp, hs, by rw [List.getElem?_append_right (by omega), hl]; simp, hu⟩⟩

/-- A list of what is there. -/
theorem list_of {α : Type} [Inhabited α] {P : Nat → α → Prop} : ∀ n, (∀ j, j < n → ∃ a, P j a) → ∃ l : List α, l.length = n ∧ ∀ j (h : j < l.length), P j l[j]
  | 0, _ => ⟨[], rfl, fun j h => absurd h (by simp)⟩
  | n + 1, h => by
    obtain ⟨l, hl, hp⟩ := list_of n (fun j hj => h j (by omega))
    obtain ⟨a, ha⟩ := h n (by omega)
    refine ⟨l ++ [a], by simp [hl], fun j hj => ?_⟩
    by_cases e : j < l.length
    · rw [List.getElem_append_left e]; exact hp j e
    · have e' : j = n := by simp at hj; omega
      subst e'
      have : (l ++ [a])[j] = a := by simp [hl]
      rw [this]; exact ha
theorem XTys.list (h : XTys w lo N v n) : ∃ l : List Ty, l.length = n ∧ OTys w lo v l l.length := by
  obtain ⟨xs, ho, hn, hx⟩ := h
  obtain ⟨l, hl, hp⟩ := list_of (P := fun j (t : Ty) => xs[j * 2]? = some (.int .i64 t.data) ∧ xs[j * 2 + 1]? = some (.int .i64 t.index)) n (fun j hj => by
    obtain ⟨a, b, h1, h2⟩ := hx j hj
    exact ⟨⟨a, b⟩, h1, h2⟩)
  exact ⟨l, hl, xs, by rw [hl]; exact ho, fun j hj _ => hp j hj⟩
def SmallT (N : Nat) (l : List Ty) : Prop := l.length ≤ N
def SmallC (N : Nat) (cs : List Ct) : Prop := cs.length ≤ N ∧ ∀ c ∈ cs, c.args.length ≤ N
def SmallD (N : Nat) (l : List Da) : Prop := l.length ≤ N ∧ ∀ d ∈ l, SmallC N d.ctors
theorem XCts.list (h : XCts w lo N v n) (hN : N ≤ maxLen) : ∃ cs : List Ct, cs.length = n ∧ OCts w lo v cs ∧ SmallC N cs := by
  obtain ⟨xs, ho, hn, hx⟩ := h
  obtain ⟨l, hl, hp⟩ := list_of (P := fun j (c : Ct) => (∃ v, xs[j * 3]? = some (.string c.name) ∧ xs[j * 3 + 1]? = some v ∧ xs[j * 3 + 2]? = some (.int .i64 c.index) ∧ c.name.size ≤ maxLen ∧ c.args.length ≤ maxLen ∧ OTys w lo v c.args c.args.length) ∧ c.args.length ≤ N) n (fun j hj => by
    obtain ⟨s, u, m, i, h1, h2, h3, h4, h5⟩ := hx j hj
    obtain ⟨L, hL, hO⟩ := h4.list
    have hm : m ≤ N := h4.choose_spec.2.1
    exact ⟨⟨s, L, i⟩, ⟨u, h1, h3, h5, h2, by simp only; omega, hO⟩, by simp only; omega⟩)
  refine ⟨l, hl, ⟨xs, by rw [hl]; exact ho, fun j hj => (hp j hj).1⟩, by omega, fun c hc => ?_⟩
  obtain ⟨j, hj, rfl⟩ := List.getElem_of_mem hc
  exact (hp j hj).2
theorem XDas.list (h : XDas w lo N v n) (hN : N ≤ maxLen) : ∃ l : List Da, l.length = n ∧ ODas w lo v l ∧ SmallD N l := by
  obtain ⟨xs, ho, hn, hx⟩ := h
  obtain ⟨l, hl, hp⟩ := list_of (P := fun j (d : Da) => (∃ v, xs[j * 2]? = some (.string d.name) ∧ xs[j * 2 + 1]? = some v ∧ d.name.size ≤ maxLen ∧ d.ctors.length ≤ maxLen ∧ OCts w lo v d.ctors) ∧ SmallC N d.ctors) n (fun j hj => by
    obtain ⟨s, u, m, h1, h2, h3, h4⟩ := hx j hj
    obtain ⟨L, hL, hO, hS⟩ := h4.list hN
    have hm : m ≤ N := h4.choose_spec.2.1
    exact ⟨⟨s, L⟩, ⟨u, h1, h3, h2, by simp only; omega, hO⟩, hS⟩)
  refine ⟨l, hl, ⟨xs, by rw [hl]; exact ho, fun j hj => (hp j hj).1⟩, by omega, fun c hc => ?_⟩
  obtain ⟨j, hj, rfl⟩ := List.getElem_of_mem hc
  exact (hp j hj).2
theorem XDas.lies (h : XDas w lo N v n) (hN : N ≤ maxLen) : ∃ l : List Da, l.length = n ∧ Lies w lo v l ∧ SmallD N l := by
  obtain ⟨l, hl, ho, hs⟩ := h.list hN
  exact ⟨l, hl, ho.lies (by have := hs.1; omega), hs⟩
theorem XTys.lower {lo' : Nat} (h : XTys w lo N v n) (hl : lo' ≤ lo) : XTys w lo' N v n := by
  obtain ⟨xs, ho, hn, hx⟩ := h
  exact ⟨xs, row_lower ho hl, hn, hx⟩
theorem XCts.lower {lo' : Nat} (h : XCts w lo N v n) (hl : lo' ≤ lo) : XCts w lo' N v n := by
  obtain ⟨xs, ho, hn, hx⟩ := h
  refine ⟨xs, row_lower ho hl, hn, fun j hj => ?_⟩
  obtain ⟨s, u, m, i, h1, h2, h3, h4, h5⟩ := hx j hj
  exact ⟨s, u, m, i, h1, h2, h3, h4.lower hl, h5⟩
theorem XDas.lower {lo' : Nat} (h : XDas w lo N v n) (hl : lo' ≤ lo) : XDas w lo' N v n := by
  obtain ⟨xs, ho, hn, hx⟩ := h
  refine ⟨xs, row_lower ho hl, hn, fun j hj => ?_⟩
  obtain ⟨s, u, m, h1, h2, h3, h4⟩ := hx j hj
  exact ⟨s, u, m, h1, h2, h3, h4.lower hl⟩
theorem row_form {e : TypeId} {size : Nat} {xs : List Value} (h : w.ownsRow lo e size v n xs) : ∃ A cap, v = .slice A n cap := by
  rcases h.2 with ⟨rfl, rfl⟩ | ⟨g, cap, cur, rfl, _⟩
  · exact ⟨none, 0, rfl⟩
  · exact ⟨_, _, rfl⟩
theorem XTys.form (h : XTys w lo N v n) : ∃ A cap, v = .slice A n cap := row_form h.choose_spec.1
theorem XCts.form (h : XCts w lo N v n) : ∃ A cap, v = .slice A n cap := row_form h.choose_spec.1
theorem XDas.form (h : XDas w lo N v n) : ∃ A cap, v = .slice A n cap := row_form h.choose_spec.1
theorem row_at {e : TypeId} {size : Nat} {xs : List Value} (h : w.ownsRow lo e size v n xs) (hn : 0 < n) : ∃ g cap, v = .slice (some ⟨g, 0, none⟩) n cap ∧ lo ≤ g ∧ g < w.heap.size ∧ (∃ cs, w.heap[g]? = some (.cells cs e (0, 0))) ∧ ∀ j u, xs[j]? = some u → w.cell? ⟨g, j, none⟩ = some u := by
  rcases h.2 with ⟨rfl, h0⟩ | ⟨g, cap, cur, rfl, hb, hg, hnc, hcm, hcs, htake⟩
  · omega
  · refine ⟨g, cap, rfl, hb, heap_lt hg, ⟨cur, hg⟩, fun j u hu => ?_⟩
    rw [cell_of_blk hg j]
    rw [← htake, List.getElem?_take] at hu
    split at hu
    · simpa using hu
    · cases hu
theorem XDas.at_ {k : Nat} (h : XDas w lo N v n) (hk : k < n) : ∃ g cap s u m, v = .slice (some ⟨g, 0, none⟩) n cap ∧ lo ≤ g ∧ g < w.heap.size ∧ (∃ cs, w.heap[g]? = some (.cells cs 30 (0, 0))) ∧ w.cell? ⟨g, k * 2, none⟩ = some (.string s) ∧ s.size ≤ maxLen ∧ w.cell? ⟨g, k * 2 + 1, none⟩ = some u ∧ XCts w lo N u m := by
  obtain ⟨xs, ho, hn, hx⟩ := h
  obtain ⟨g, cap, e, hl, hg, ht, hc⟩ := row_at ho (by omega)
  obtain ⟨s, u, m, h1, h2, h3, h4⟩ := hx k hk
  exact ⟨g, cap, s, u, m, e, hl, hg, ht, hc _ _ h1, h2, hc _ _ h3, h4⟩
theorem XCts.at_ {k : Nat} (h : XCts w lo N v n) (hk : k < n) : ∃ g cap s u m i, v = .slice (some ⟨g, 0, none⟩) n cap ∧ lo ≤ g ∧ g < w.heap.size ∧ (∃ cs, w.heap[g]? = some (.cells cs 27 (0, 0))) ∧ w.cell? ⟨g, k * 3, none⟩ = some (.string s) ∧ s.size ≤ maxLen ∧ w.cell? ⟨g, k * 3 + 1, none⟩ = some u ∧ XTys w lo N u m ∧ w.cell? ⟨g, k * 3 + 2, none⟩ = some (.int .i64 i) := by
  obtain ⟨xs, ho, hn, hx⟩ := h
  obtain ⟨g, cap, e, hl, hg, ht, hc⟩ := row_at ho (by omega)
  obtain ⟨s, u, m, i, h1, h2, h3, h4, h5⟩ := hx k hk
  exact ⟨g, cap, s, u, m, i, e, hl, hg, ht, hc _ _ h1, h2, hc _ _ h3, h4, hc _ _ h5⟩
theorem OTys.x {l : List Ty} (h : OTys w lo v l l.length) (hs : l.length ≤ N) : XTys w lo N v l.length := by
  obtain ⟨xs, ho, hx⟩ := h
  exact ⟨xs, ho, hs, fun j hj => ⟨_, _, (hx j hj hj).1, (hx j hj hj).2⟩⟩
theorem OCts.x {cs : List Ct} (h : OCts w lo v cs) (hs : SmallC N cs) : XCts w lo N v cs.length := by
  obtain ⟨xs, ho, hx⟩ := h
  refine ⟨xs, ho, hs.1, fun j hj => ?_⟩
  obtain ⟨u, h1, h2, h3, h4, h5, h6⟩ := hx j hj
  exact ⟨_, u, _, _, h1, h4, h2, h6.x (hs.2 _ (List.getElem_mem hj)), h3⟩
theorem ODas.x {l : List Da} (h : ODas w lo v l) (hs : SmallD N l) : XDas w lo N v l.length := by
  obtain ⟨xs, ho, hx⟩ := h
  refine ⟨xs, ho, hs.1, fun j hj => ?_⟩
  obtain ⟨u, h1, h2, h3, h4, h5⟩ := hx j hj
  exact ⟨_, u, _, h1, h3, h2, h5.x (hs.2 _ (List.getElem_mem hj))⟩
end
end Go.Proofs.YthebdlejoficmabDoor
