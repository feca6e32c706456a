/-
  A constructor out of its text: the document's function, the walk. No statement is proved here.
-/
import Derived.Test.YthebdlejoficmaaDoorParseC
import Derived.Deep.RegionLaw
namespace Go.Proofs.YthebdlejoficmaaDoor
open Go.RowKit Go.Deep
set_option maxRecDepth 100000
set_option linter.unusedVariables false

theorem parseType_v (A : Option Addr) (l : List ByteArray) (cap : Nat) (s : ByteArray) (t : Ty) (ht : tyP l s = t) (w : World) (hr : RStrs w A l) (hs : s.size ≤ 1048576) :
    Calls Tryd.prog 53 #[.slice A l.length cap, .string s] w fun e w' => e = .returned (.agg #[.int .i64 t.data, .int .i64 t.index]) ∧ Below w.heap.size w w' := by
  subst ht; exact parseType_any A l cap s w hr hs
theorem getD_at {L : List ByteArray} {k : Nat} (h : k < L.length) : L.getD k ByteArray.empty = L[k] := by
  rw [List.getD_eq_getElem?_getD, List.getElem?_eq_getElem h]; rfl
theorem take_map_len (l : List ByteArray) (L : List ByteArray) {k : Nat} (h : k < L.length) : ((L.take (k + 1)).map (tyP l)) = ((L.take k).map (tyP l)) ++ [tyP l L[k]] := by
  rw [List.take_succ_eq_append_getElem h, List.map_append]; rfl
theorem OStrs.kept2 {w w' : World} {lo : Nat} {v : Value} {L : List ByteArray} (h : OStrs w lo v L) (hk : ∀ (b : Nat) (cs : Array Value), w.heap[b]? = some (Obj.cells cs 9 (0, 0)) → w'.heap[b]? = w.heap[b]?) : OStrs w' lo v L := by
  have h' : w.ownsRow lo 9 1 v L.length (L.map Value.string) := h
  refine ⟨h'.1, ?_⟩
  rcases h'.2 with h0 | ⟨g, cap, cur, a1, a2, a3, a4⟩
  · exact .inl h0
  · exact .inr ⟨g, cap, cur, a1, a2, (hk g cur a3).trans a3, a4⟩
theorem OTys.kept2 {w w' : World} {lo : Nat} {v : Value} {L : List Ty} {k : Nat} (h : OTys w lo v L k) (hk : ∀ (b : Nat) (cs : Array Value), w.heap[b]? = some (Obj.cells cs 29 (0, 0)) → w'.heap[b]? = w.heap[b]?) : OTys w' lo v L k := by
  obtain ⟨xs, ho, hx⟩ := h
  refine ⟨xs, ⟨ho.1, ?_⟩, hx⟩
  rcases ho.2 with h0 | ⟨g, cap, cur, a1, a2, a3, a4⟩
  · exact .inl h0
  · exact .inr ⟨g, cap, cur, a1, a2, (hk g cur a3).trans a3, a4⟩
theorem retCt (w w' : World) (lo : Nat) (c : Ct) (v : Value) (n : ByteArray) (i : Int) (hn : c.name = n) (hi : c.index = i) (ho : OTys w' lo v c.args c.args.length) (hb : Below lo w w') : RetCt w lo (.returned (.agg #[.string n, v, .int .i64 i])) w' c := by
  subst hn hi; exact ⟨v, rfl, ho, hb⟩
theorem ctQ_none {l : List ByteArray} {s : ByteArray} {ix : Int} (h : (cutB s 40).length < 2 ∨ ((cutB s 40).getD 1 ByteArray.empty).size = 0) : ctQ l s ix = ⟨(cutB s 40).getD 0 ByteArray.empty, [], ix⟩ := if_pos h
theorem ctQ_some {l : List ByteArray} {s : ByteArray} {ix : Int} (h : ¬ ((cutB s 40).length < 2 ∨ ((cutB s 40).getD 1 ByteArray.empty).size = 0)) : ctQ l s ix = ⟨(cutB s 40).getD 0 ByteArray.empty, ((cutB (((cutB s 40).getD 1 ByteArray.empty).extract 0 (((cutB s 40).getD 1 ByteArray.empty).size - 1)) 44).take 4).map (tyP l), ix⟩ := if_neg h
end Go.Proofs.YthebdlejoficmaaDoor
