/-
  Whether a type has a value with arguments of known types: the program's function. No statement is proved here.
-/
import Derived.Test.YtakhobhmplneeaaY11
import Derived.Test.YtakhobhmplneeaaY07
import Derived.Maps.AppendAt
import Derived.Deep.RegionHeld3
import Derived.Deep.AppendLies
import Derived.Outline
import Derived.Deep.RegionLaw
namespace Go.Proofs.Ytakhobhmplneeaa
open Go.RowKit Go.Deep
set_option maxRecDepth 100000
set_option linter.unusedVariables false
theorem ctor_at {l : List Da} {t : Ty} {x : Int} (h : x ∈ ctR l t) : ∃ (d : Nat) (hd : d < l.length) (m : Nat) (hm : m < l[d].ctors.length), t.data = d ∧ x = m ∧ fitsB l[d].ctors[m].index t.index = true ∧ agR l t x = argT l[d].ctors[m] t.index := by
  obtain ⟨ht, d, m, hd, h1, h2, hm⟩ := mem_ctR h
  obtain ⟨td, ti⟩ := t
  simp only at h1
  subst h1
  have h' := h
  rw [ctR_data ht hd] at h'
  obtain ⟨m', hm', h3, h4⟩ := fits_of_mem _ (Nat.le_refl _) h'
  subst h3
  exact ⟨d, hd, m', hm', rfl, rfl, h4, agR_yes h hd hm'⟩
theorem mkF_iff {l : List Da} {S : Ty → Prop} {t : Ty} (hok : TyOK l t) (hd : ¬ t.data = -1) : mkF l S t ↔ ∃ x ∈ ctR l t, ∀ a ∈ agR l t x, S a := by
  constructor
  · rintro (h0 | ⟨d, hdl, m, hm, h1, h2, h3⟩)
    · exact absurd h0 hd
    · obtain ⟨td, ti⟩ := t
      simp only at h1
      subst h1
      have hx : (m : Int) ∈ ctR l ⟨d, ti⟩ := by rw [ctR_data hok hdl]; exact mem_of_fits hm h2 _ hm (Nat.le_refl _)
      exact ⟨m, hx, by rw [agR_yes hx hdl hm]; exact h3⟩
  · rintro ⟨x, hx, h⟩
    obtain ⟨d, hdl, m, hm, h1, h2, h3, h4⟩ := ctor_at hx
    rw [h4] at h
    exact .inr ⟨d, hdl, m, hm, h1, h3, h⟩
theorem below_after {w wr w' : World} {B : Nat} (h : Below B w wr) (hb : Below wr.heap.size wr w') (hB : B ≤ wr.heap.size) : Below B w w' := h.trans (hb.mono hB)
end Go.Proofs.Ytakhobhmplneeaa
/-
  The types of a world in a row; the types that have a value with arguments of known types, and the others, in two rows. No statement is proved here.
-/
namespace Go.Proofs.Ytakhobhmplneeaa
open Go.RowKit
set_option maxRecDepth 100000
set_option linter.unusedVariables false
theorem OTys.snoc {w w1 : World} {lo : Nat} {v v' : Value} {l : List Ty} {k : Nat} {xs : List Value} {d i : Int} (hx : TyRow l xs k) (hk : k < l.length) (hxl : xs.length = k * 2) (ho : w1.ownsRow lo 25 2 v' (k + 1) (xs ++ [.int .i64 d, .int .i64 i])) (e : l[k] = ⟨d, i⟩) : OTys w1 lo v' l (k + 1) := by
  have := hx.snoc hk hxl
  rw [e] at this
  exact ⟨_, ho, this⟩
end Go.Proofs.Ytakhobhmplneeaa
/-
  The types that have a value with arguments of known types, and the others, in two rows. No statement is proved here.
-/
namespace Go.Proofs.Ytakhobhmplneeaa
open Go.RowKit
set_option maxRecDepth 100000
set_option linter.unusedVariables false
/-- Two rows that share no block. -/
def Apart (v u : Value) : Prop := ∀ g, v.ownBlock = some g → u.ownBlock = some g → False
theorem Apart.symm {v u : Value} (h : Apart v u) : Apart u v := fun g a b => h g b a
theorem Apart.ne {v u : Value} (h : Apart v u) : u.ownBlock = none ∨ u.ownBlock ≠ v.ownBlock := by
  cases e : u.ownBlock with
  | none => exact .inl rfl
  | some g => exact .inr (fun e2 => h g e2.symm e)
theorem OTys.lt {w : World} {lo : Nat} {v : Value} {l : List Ty} {k : Nat} (h : OTys w lo v l k) : ∀ g, v.ownBlock = some g → lo ≤ g ∧ g < w.heap.size := by
  obtain ⟨xs, ho, _⟩ := h
  exact ho.lt
theorem OTys.kept {w w' : World} {lo : Nat} {v u : Value} {l : List Ty} {k : Nat} (h : OTys w lo u l k) (hg : w.grownBy w' v.ownBlock) (ha : Apart v u) : OTys w' lo u l k := by
  obtain ⟨xs, ho, hx⟩ := h
  exact ⟨xs, ho.kept hg ha.ne, hx⟩
theorem OTys.alloc {w : World} {lo : Nat} {u : Value} {l : List Ty} {k : Nat} (h : OTys w lo u l k) (o : Obj) : OTys (w.alloc o) lo u l k := by
  obtain ⟨xs, ho, hx⟩ := h
  exact ⟨xs, ho.alloc o, hx⟩
theorem OTys.at_ {w w' : World} {lo : Nat} {u : Value} {l : List Ty} {k : Nat} (h : OTys w lo u l k) (hb : Below w.heap.size w w') : OTys w' lo u l k := by
  obtain ⟨xs, ho, hx⟩ := h
  exact ⟨xs, own_below ho hb, hx⟩
theorem OTys.nil (w : World) (lo : Nat) : OTys w lo (.slice none 0 0) [] 0 := ⟨[], World.ownsRow_nil _ _ _ _, TyRow.zero _ _⟩
theorem TyRow.app {l : List Ty} {xs : List Value} {t : Ty} (h : TyRow l xs l.length) (hx : xs.length = l.length * 2) : TyRow (l ++ [t]) (xs ++ [.int .i64 t.data, .int .i64 t.index]) (l.length + 1) := by
  intro j hj hjk
  by_cases e : j = l.length
  · subst e
    constructor
    · rw [List.getElem?_append_right (by omega), hx]; simp
    · rw [List.getElem?_append_right (by omega), hx]; simp
  · have hjl : j < l.length := by omega
    obtain ⟨a, b⟩ := h j hjl hjl
    rw [List.getElem_append_left hjl]
    constructor
    · rw [List.getElem?_append_left (by omega)]; exact a
    · rw [List.getElem?_append_left (by omega)]; exact b
theorem OTys.app {w : World} {lo : Nat} {v : Value} {l : List Ty} {xs : List Value} {t : Ty} (h : TyRow l xs l.length) (hx : xs.length = l.length * 2) (ho : w.ownsRow lo 25 2 v (l.length + 1) (xs ++ [.int .i64 t.data, .int .i64 t.index])) : OTys w lo v (l ++ [t]) (l ++ [t]).length := by
  have e : (l ++ [t]).length = l.length + 1 := by simp
  rw [e]
  exact ⟨_, ho, h.app hx⟩
/-- Those of the first k for which P holds. -/
noncomputable def fil (P : Ty → Prop) (U : List Ty) (k : Nat) : List Ty := (U.take k).filter (fun t => dec (P t))
end Go.Proofs.Ytakhobhmplneeaa
/-
  A constructor out of its text: the document's function. No statement is proved here.
-/
namespace Go.Proofs.Ytakhobhmplneeaa
open Go.RowKit
set_option maxRecDepth 100000
set_option linter.unusedVariables false
theorem cutB_pos (s : ByteArray) (c : Int) : 1 ≤ (cutB s c).length := by
  unfold cutB
  rw [cutGo_yes (cutAt_end rfl)]
  simp
theorem ext_size (s : ByteArray) (a b : Nat) : (s.extract a b).size ≤ s.size := by rw [ByteArray.size_extract]; omega
theorem cutGo_size (s : ByteArray) (c : Int) : ∀ k, ∀ x ∈ (cutGo s c k).1, x.size ≤ s.size
  | 0, x, hx => by simp [cutGo] at hx
  | k + 1, x, hx => by
    by_cases h : cutAt s c k = true
    · rw [cutGo_yes h] at hx
      simp only [List.mem_append, List.mem_cons, List.not_mem_nil, or_false] at hx
      rcases hx with hx | rfl
      · exact cutGo_size s c k x hx
      · exact ext_size _ _ _
    · rw [cutGo_no (by simpa using h)] at hx
      exact cutGo_size s c k x hx
theorem cutB_size {s : ByteArray} {c : Int} {x : ByteArray} (h : x ∈ cutB s c) : x.size ≤ s.size := cutGo_size s c _ x h
/-- A constructor out of its text without an index. -/
def ctQ (l : List ByteArray) (s : ByteArray) (ix : Int) : Ct :=
  if (cutB s 40).length < 2 ∨ ((cutB s 40).getD 1 ByteArray.empty).size = 0 then ⟨(cutB s 40).getD 0 ByteArray.empty, [], ix⟩
  else ⟨(cutB s 40).getD 0 ByteArray.empty, ((cutB (((cutB s 40).getD 1 ByteArray.empty).extract 0 (((cutB s 40).getD 1 ByteArray.empty).size - 1)) 44).take 4).map (tyP l), ix⟩
def ctP (l : List ByteArray) (s : ByteArray) : Ct :=
  if 2 < s.size ∧ ((s.data.toList.getD (s.size - 2) 0).toNat : Int) = 58 then ctQ l (s.extract 0 (s.size - 2)) (((s.data.toList.getD (s.size - 1) 0).toNat : Int) - 48) else ctQ l s 0
/-- A constructor in block b. -/
def Box3 (w : World) (b : Nat) (n : ByteArray) (v : Value) (i : Int) : Prop := w.heap[b]? = some (.cells #[.string n, v, .int .i64 i] 105 (0, 0))
theorem free_of_blk {w : World} {g : Nat} {cs : Array Value} {t : TypeId} (h : w.heap[g]? = some (.cells cs t (0, 0))) (i : Nat) : w.frozen? ⟨g, i, none⟩ = false := by
  unfold World.frozen?
  rw [h]
  simp
theorem Box3.c0 {w : World} {b : Nat} {n : ByteArray} {v : Value} {i : Int} (h : Box3 w b n v i) : w.cell? ⟨b, 0, none⟩ = some (.string n) := cell_of_blk h 0
theorem Box3.c1 {w : World} {b : Nat} {n : ByteArray} {v : Value} {i : Int} (h : Box3 w b n v i) : w.cell? ⟨b, 1, none⟩ = some v := cell_of_blk h 1
theorem Box3.c2 {w : World} {b : Nat} {n : ByteArray} {v : Value} {i : Int} (h : Box3 w b n v i) : w.cell? ⟨b, 2, none⟩ = some (.int .i64 i) := cell_of_blk h 2
theorem Box3.fz {w : World} {b : Nat} {n : ByteArray} {v : Value} {i : Int} (h : Box3 w b n v i) (o : Nat) : w.frozen? ⟨b, o, none⟩ = false := free_of_blk h o
theorem Box3.lt {w : World} {b : Nat} {n : ByteArray} {v : Value} {i : Int} (h : Box3 w b n v i) : b < w.heap.size := heap_lt h
theorem Box3.set0 {w : World} {b : Nat} {n : ByteArray} {v : Value} {i : Int} (h : Box3 w b n v i) (m : ByteArray) : Box3 (w.setCell ⟨b, 0, none⟩ (.string m)) b m v i := heap_setCell_same w b 0 _ _ (.string m) h
theorem Box3.set1 {w : World} {b : Nat} {n : ByteArray} {v : Value} {i : Int} (h : Box3 w b n v i) (u : Value) : Box3 (w.setCell ⟨b, 1, none⟩ u) b n u i := heap_setCell_same w b 1 _ _ u h
theorem Box3.keep {w w' : World} {b : Nat} {n : ByteArray} {v : Value} {i : Int} (h : Box3 w b n v i) (hk : w'.heap[b]? = w.heap[b]?) : Box3 w' b n v i := hk.trans h
theorem Box3.at_ {w w' : World} {b : Nat} {n : ByteArray} {v : Value} {i : Int} (h : Box3 w b n v i) (hb : Below w.heap.size w w') : Box3 w' b n v i := h.keep (hb.block b h.lt)
/-- What is returned: a constructor whose arguments lie in a row of the call's own. -/
def RetCt (w : World) (lo : Nat) (e : Ending) (w' : World) (c : Ct) : Prop := ∃ v, e = .returned (.agg #[.string c.name, v, .int .i64 c.index]) ∧ OTys w' lo v c.args c.args.length ∧ Below lo w w'
end Go.Proofs.Ytakhobhmplneeaa
/-
  A constructor out of its text: the document's function, the walk. No statement is proved here.
-/
namespace Go.Proofs.Ytakhobhmplneeaa
open Go.RowKit Go.Deep
set_option maxRecDepth 100000
set_option linter.unusedVariables false
theorem parseType_v (A : Option Addr) (l : List ByteArray) (cap : Nat) (s : ByteArray) (t : Ty) (ht : tyP l s = t) (w : World) (hr : RStrs w A l) (hs : s.size ≤ 1048576) :
    Calls Try.prog 84 #[.slice A l.length cap, .string s] w fun e w' => e = .returned (.agg #[.int .i64 t.data, .int .i64 t.index]) ∧ Below w.heap.size w w' := by
  subst ht; exact parseType_any A l cap s w hr hs
theorem getD_at {L : List ByteArray} {k : Nat} (h : k < L.length) : L.getD k ByteArray.empty = L[k] := by
  rw [List.getD_eq_getElem?_getD, List.getElem?_eq_getElem h]; rfl
theorem take_map_len (l : List ByteArray) (L : List ByteArray) {k : Nat} (h : k < L.length) : ((L.take (k + 1)).map (tyP l)) = ((L.take k).map (tyP l)) ++ [tyP l L[k]] := by
  rw [List.take_succ_eq_append_getElem h, List.map_append]; rfl
theorem OStrs.kept2 {w w' : World} {lo : Nat} {v : Value} {L : List ByteArray} (h : OStrs w lo v L) (hk : ∀ (b : Nat) (cs : Array Value), w.heap[b]? = some (Obj.cells cs 9 (0, 0)) → w'.heap[b]? = w.heap[b]?) : OStrs w' lo v L := by
  have h' : w.ownsRow lo 9 1 v L.length (L.map Value.string) := h
  refine ⟨h'.1, ?_⟩
  rcases h'.2 with h0 | ⟨g, cap, cur, a1, a2, a3, a4⟩
  · exact .inl h0
  · exact .inr ⟨g, cap, cur, a1, a2, (hk g cur a3).trans a3, a4⟩
theorem OTys.kept2 {w w' : World} {lo : Nat} {v : Value} {L : List Ty} {k : Nat} (h : OTys w lo v L k) (hk : ∀ (b : Nat) (cs : Array Value), w.heap[b]? = some (Obj.cells cs 25 (0, 0)) → w'.heap[b]? = w.heap[b]?) : OTys w' lo v L k := by
  obtain ⟨xs, ho, hx⟩ := h
  refine ⟨xs, ⟨ho.1, ?_⟩, hx⟩
  rcases ho.2 with h0 | ⟨g, cap, cur, a1, a2, a3, a4⟩
  · exact .inl h0
  · exact .inr ⟨g, cap, cur, a1, a2, (hk g cur a3).trans a3, a4⟩
theorem retCt (w w' : World) (lo : Nat) (c : Ct) (v : Value) (n : ByteArray) (i : Int) (hn : c.name = n) (hi : c.index = i) (ho : OTys w' lo v c.args c.args.length) (hb : Below lo w w') : RetCt w lo (.returned (.agg #[.string n, v, .int .i64 i])) w' c := by
  subst hn hi; exact ⟨v, rfl, ho, hb⟩
theorem ctQ_none {l : List ByteArray} {s : ByteArray} {ix : Int} (h : (cutB s 40).length < 2 ∨ ((cutB s 40).getD 1 ByteArray.empty).size = 0) : ctQ l s ix = ⟨(cutB s 40).getD 0 ByteArray.empty, [], ix⟩ := if_pos h
theorem ctQ_some {l : List ByteArray} {s : ByteArray} {ix : Int} (h : ¬ ((cutB s 40).length < 2 ∨ ((cutB s 40).getD 1 ByteArray.empty).size = 0)) : ctQ l s ix = ⟨(cutB s 40).getD 0 ByteArray.empty, ((cutB (((cutB s 40).getD 1 ByteArray.empty).extract 0 (((cutB s 40).getD 1 ByteArray.empty).size - 1)) 44).take 4).map (tyP l), ix⟩ := if_neg h
end Go.Proofs.Ytakhobhmplneeaa
