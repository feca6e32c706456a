/-
  A constructor out of its text: the document's function. No statement is proved here.
-/
import Derived.Test.YteoopmogklpnoaaT06
import Derived.Test.YteoopmogklpnoaaT10
import Derived.Deep.RegionHeld3
import Derived.Deep.AppendLies
import Derived.Outline
import Derived.Deep.RegionLaw
namespace Go.Proofs.Yteoopmogklpnoaa
open Go.RowKit
set_option maxRecDepth 100000
set_option linter.unusedVariables false
theorem cutB_pos (s : ByteArray) (c : Int) : 1 ≤ (cutB s c).length := by
  unfold cutB
  rw [cutGo_yes (cutAt_end rfl)]
  simp
theorem ext_size (s : ByteArray) (a b : Nat) : (s.extract a b).size ≤ s.size := by rw [ByteArray.size_extract]; omega
theorem cutGo_size (s : ByteArray) (c : Int) : ∀ k, ∀ x ∈ (cutGo s c k).1, x.size ≤ s.size
  | 0, x, hx => by simp [cutGo] at hx
  | k + 1, x, hx => by
    by_cases h : cutAt s c k = true
    · rw [cutGo_yes h] at hx
      simp only [List.mem_append, List.mem_cons, List.not_mem_nil, or_false] at hx
      rcases hx with hx | rfl
      · exact cutGo_size s c k x hx
      · exact ext_size _ _ _
    · rw [cutGo_no (by simpa using h)] at hx
      exact cutGo_size s c k x hx
theorem cutB_size {s : ByteArray} {c : Int} {x : ByteArray} (h : x ∈ cutB s c) : x.size ≤ s.size := cutGo_size s c _ x h
/-- A constructor out of its text without an index. -/
def ctQ (l : List ByteArray) (s : ByteArray) (ix : Int) : Ct :=
  if (cutB s 40).length < 2 ∨ ((cutB s 40).getD 1 ByteArray.empty).size = 0 then ⟨(cutB s 40).getD 0 ByteArray.empty, [], ix⟩
  else ⟨(cutB s 40).getD 0 ByteArray.empty, ((cutB (((cutB s 40).getD 1 ByteArray.empty).extract 0 (((cutB s 40).getD 1 ByteArray.empty).size - 1)) 44).take 4).map (tyP l), ix⟩
def ctP (l : List ByteArray) (s : ByteArray) : Ct :=
  if 2 < s.size ∧ ((s.data.toList.getD (s.size - 2) 0).toNat : Int) = 58 then ctQ l (s.extract 0 (s.size - 2)) (((s.data.toList.getD (s.size - 1) 0).toNat : Int) - 48) else ctQ l s 0
/-- A constructor in block b. -/
def Box3 (w : World) (b : Nat) (n : ByteArray) (v : Value) (i : Int) : Prop := w.heap[b]? = some (.cells #[.string n, v, .int .i64 i] 148 (0, 0))
theorem free_of_blk {w : World} {g : Nat} {cs : Array Value} {t : TypeId} (h : w.heap[g]? = some (.cells cs t (0, 0))) (i : Nat) : w.frozen? ⟨g, i, none⟩ = false := by
  unfold World.frozen?
  rw [h]
  simp
theorem Box3.c0 {w : World} {b : Nat} {n : ByteArray} {v : Value} {i : Int} (h : Box3 w b n v i) : w.cell? ⟨b, 0, none⟩ = some (.string n) := cell_of_blk h 0
theorem Box3.c1 {w : World} {b : Nat} {n : ByteArray} {v : Value} {i : Int} (h : Box3 w b n v i) : w.cell? ⟨b, 1, none⟩ = some v := cell_of_blk h 1
theorem Box3.c2 {w : World} {b : Nat} {n : ByteArray} {v : Value} {i : Int} (h : Box3 w b n v i) : w.cell? ⟨b, 2, none⟩ = some (.int .i64 i) := cell_of_blk h 2
theorem Box3.fz {w : World} {b : Nat} {n : ByteArray} {v : Value} {i : Int} (h : Box3 w b n v i) (o : Nat) : w.frozen? ⟨b, o, none⟩ = false := free_of_blk h o
theorem Box3.lt {w : World} {b : Nat} {n : ByteArray} {v : Value} {i : Int} (h : Box3 w b n v i) : b < w.heap.size := heap_lt h
theorem Box3.set0 {w : World} {b : Nat} {n : ByteArray} {v : Value} {i : Int} (h : Box3 w b n v i) (m : ByteArray) : Box3 (w.setCell ⟨b, 0, none⟩ (.string m)) b m v i := heap_setCell_same w b 0 _ _ (.string m) h
theorem Box3.set1 {w : World} {b : Nat} {n : ByteArray} {v : Value} {i : Int} (h : Box3 w b n v i) (u : Value) : Box3 (w.setCell ⟨b, 1, none⟩ u) b n u i := heap_setCell_same w b 1 _ _ u h
theorem Box3.keep {w w' : World} {b : Nat} {n : ByteArray} {v : Value} {i : Int} (h : Box3 w b n v i) (hk : w'.heap[b]? = w.heap[b]?) : Box3 w' b n v i := hk.trans h
theorem Box3.at_ {w w' : World} {b : Nat} {n : ByteArray} {v : Value} {i : Int} (h : Box3 w b n v i) (hb : Below w.heap.size w w') : Box3 w' b n v i := h.keep (hb.block b h.lt)
/-- What is returned: a constructor whose arguments lie in a row of the call's own. -/
def RetCt (w : World) (lo : Nat) (e : Ending) (w' : World) (c : Ct) : Prop := ∃ v, e = .returned (.agg #[.string c.name, v, .int .i64 c.index]) ∧ OTys w' lo v c.args c.args.length ∧ Below lo w w'
end Go.Proofs.Yteoopmogklpnoaa
/-
  A constructor out of its text: the document's function, the walk. No statement is proved here.
-/
namespace Go.Proofs.Yteoopmogklpnoaa
open Go.RowKit Go.Deep
set_option maxRecDepth 100000
set_option linter.unusedVariables false
theorem parseType_v (A : Option Addr) (l : List ByteArray) (cap : Nat) (s : ByteArray) (t : Ty) (ht : tyP l s = t) (w : World) (hr : RStrs w A l) (hs : s.size ≤ 1048576) :
    Calls Try.prog 151 #[.slice A l.length cap, .string s] w fun e w' => e = .returned (.agg #[.int .i64 t.data, .int .i64 t.index]) ∧ Below w.heap.size w w' := by
  subst ht; exact parseType_any A l cap s w hr hs
theorem getD_at {L : List ByteArray} {k : Nat} (h : k < L.length) : L.getD k ByteArray.empty = L[k] := by
  rw [List.getD_eq_getElem?_getD, List.getElem?_eq_getElem h]; rfl
theorem take_map_len (l : List ByteArray) (L : List ByteArray) {k : Nat} (h : k < L.length) : ((L.take (k + 1)).map (tyP l)) = ((L.take k).map (tyP l)) ++ [tyP l L[k]] := by
  rw [List.take_succ_eq_append_getElem h, List.map_append]; rfl
theorem OStrs.kept2 {w w' : World} {lo : Nat} {v : Value} {L : List ByteArray} (h : OStrs w lo v L) (hk : ∀ (b : Nat) (cs : Array Value), w.heap[b]? = some (Obj.cells cs 9 (0, 0)) → w'.heap[b]? = w.heap[b]?) : OStrs w' lo v L := by
  have h' : w.ownsRow lo 9 1 v L.length (L.map Value.string) := h
  refine ⟨h'.1, ?_⟩
  rcases h'.2 with h0 | ⟨g, cap, cur, a1, a2, a3, a4⟩
  · exact .inl h0
  · exact .inr ⟨g, cap, cur, a1, a2, (hk g cur a3).trans a3, a4⟩
theorem OTys.kept2 {w w' : World} {lo : Nat} {v : Value} {L : List Ty} {k : Nat} (h : OTys w lo v L k) (hk : ∀ (b : Nat) (cs : Array Value), w.heap[b]? = some (Obj.cells cs 25 (0, 0)) → w'.heap[b]? = w.heap[b]?) : OTys w' lo v L k := by
  obtain ⟨xs, ho, hx⟩ := h
  refine ⟨xs, ⟨ho.1, ?_⟩, hx⟩
  rcases ho.2 with h0 | ⟨g, cap, cur, a1, a2, a3, a4⟩
  · exact .inl h0
  · exact .inr ⟨g, cap, cur, a1, a2, (hk g cur a3).trans a3, a4⟩
theorem retCt (w w' : World) (lo : Nat) (c : Ct) (v : Value) (n : ByteArray) (i : Int) (hn : c.name = n) (hi : c.index = i) (ho : OTys w' lo v c.args c.args.length) (hb : Below lo w w') : RetCt w lo (.returned (.agg #[.string n, v, .int .i64 i])) w' c := by
  subst hn hi; exact ⟨v, rfl, ho, hb⟩
theorem ctQ_none {l : List ByteArray} {s : ByteArray} {ix : Int} (h : (cutB s 40).length < 2 ∨ ((cutB s 40).getD 1 ByteArray.empty).size = 0) : ctQ l s ix = ⟨(cutB s 40).getD 0 ByteArray.empty, [], ix⟩ := if_pos h
theorem ctQ_some {l : List ByteArray} {s : ByteArray} {ix : Int} (h : ¬ ((cutB s 40).length < 2 ∨ ((cutB s 40).getD 1 ByteArray.empty).size = 0)) : ctQ l s ix = ⟨(cutB s 40).getD 0 ByteArray.empty, ((cutB (((cutB s 40).getD 1 ByteArray.empty).extract 0 (((cutB s 40).getD 1 ByteArray.empty).size - 1)) 44).take 4).map (tyP l), ix⟩ := if_neg h
end Go.Proofs.Yteoopmogklpnoaa
