/-
  A constructor out of its text: the document's function. No statement is proved here.
-/
import Derived.Test.YthebdlejoficmaaDoorParse
import Derived.Test.YthebdlejoficmaaDoorSplit2
import Derived.Deep.RegionHeld3
import Derived.Deep.AppendLies
import Derived.Outline
namespace Go.Proofs.YthebdlejoficmaaDoor
open Go.RowKit
set_option maxRecDepth 100000
set_option linter.unusedVariables false

theorem cutB_pos (s : ByteArray) (c : Int) : 1 ≤ (cutB s c).length := by
  unfold cutB
  rw [cutGo_yes (cutAt_end rfl)]
  simp
theorem ext_size (s : ByteArray) (a b : Nat) : (s.extract a b).size ≤ s.size := by rw [ByteArray.size_extract]; omega
theorem cutGo_size (s : ByteArray) (c : Int) : ∀ k, ∀ x ∈ (cutGo s c k).1, x.size ≤ s.size
  | 0, x, hx => by simp [cutGo] at hx
  | k + 1, x, hx => by
    by_cases h : cutAt s c k = true
    · rw [cutGo_yes h] at hx
      simp only [List.mem_append, List.mem_cons, List.not_mem_nil, or_false] at hx
      rcases hx with hx | rfl
      · exact cutGo_size s c k x hx
      · exact ext_size _ _ _
    · rw [cutGo_no (by simpa using h)] at hx
      exact cutGo_size s c k x hx
theorem cutB_size {s : ByteArray} {c : Int} {x : ByteArray} (h : x ∈ cutB s c) : x.size ≤ s.size := cutGo_size s c _ x h

/-- A constructor out of its text without an index. -/
def ctQ (l : List ByteArray) (s : ByteArray) (ix : Int) : Ct :=
  if (cutB s 40).length < 2 ∨ ((cutB s 40).getD 1 ByteArray.empty).size = 0 then ⟨(cutB s 40).getD 0 ByteArray.empty, [], ix⟩
  else ⟨(cutB s 40).getD 0 ByteArray.empty, ((cutB (((cutB s 40).getD 1 ByteArray.empty).extract 0 (((cutB s 40).getD 1 ByteArray.empty).size - 1)) 44).take 4).map (tyP l), ix⟩
def ctP (l : List ByteArray) (s : ByteArray) : Ct :=
  if 2 < s.size ∧ ((s.data.toList.getD (s.size - 2) 0).toNat : Int) = 58 then ctQ l (s.extract 0 (s.size - 2)) (((s.data.toList.getD (s.size - 1) 0).toNat : Int) - 48) else ctQ l s 0

/-- A constructor in block b. -/
def Box3 (w : World) (b : Nat) (n : ByteArray) (v : Value) (i : Int) : Prop := w.heap[b]? = some (.cells #[.string n, v, .int .i64 i] 53 (0, 0))
theorem free_of_blk {w : World} {g : Nat} {cs : Array Value} {t : TypeId} (h : w.heap[g]? = some (.cells cs t (0, 0))) (i : Nat) : w.frozen? ⟨g, i, none⟩ = false := by
  unfold World.frozen?
  rw [h]
  simp
theorem Box3.c0 {w : World} {b : Nat} {n : ByteArray} {v : Value} {i : Int} (h : Box3 w b n v i) : w.cell? ⟨b, 0, none⟩ = some (.string n) := cell_of_blk h 0
theorem Box3.c1 {w : World} {b : Nat} {n : ByteArray} {v : Value} {i : Int} (h : Box3 w b n v i) : w.cell? ⟨b, 1, none⟩ = some v := cell_of_blk h 1
theorem Box3.c2 {w : World} {b : Nat} {n : ByteArray} {v : Value} {i : Int} (h : Box3 w b n v i) : w.cell? ⟨b, 2, none⟩ = some (.int .i64 i) := cell_of_blk h 2
theorem Box3.fz {w : World} {b : Nat} {n : ByteArray} {v : Value} {i : Int} (h : Box3 w b n v i) (o : Nat) : w.frozen? ⟨b, o, none⟩ = false := free_of_blk h o
theorem Box3.lt {w : World} {b : Nat} {n : ByteArray} {v : Value} {i : Int} (h : Box3 w b n v i) : b < w.heap.size := heap_lt h
theorem Box3.set0 {w : World} {b : Nat} {n : ByteArray} {v : Value} {i : Int} (h : Box3 w b n v i) (m : ByteArray) : Box3 (w.setCell ⟨b, 0, none⟩ (.string m)) b m v i := heap_setCell_same w b 0 _ _ (.string m) h
theorem Box3.set1 {w : World} {b : Nat} {n : ByteArray} {v : Value} {i : Int} (h : Box3 w b n v i) (u : Value) : Box3 (w.setCell ⟨b, 1, none⟩ u) b n u i := heap_setCell_same w b 1 _ _ u h
theorem Box3.keep {w w' : World} {b : Nat} {n : ByteArray} {v : Value} {i : Int} (h : Box3 w b n v i) (hk : w'.heap[b]? = w.heap[b]?) : Box3 w' b n v i := hk.trans h
theorem Box3.at_ {w w' : World} {b : Nat} {n : ByteArray} {v : Value} {i : Int} (h : Box3 w b n v i) (hb : Below w.heap.size w w') : Box3 w' b n v i := h.keep (hb.block b h.lt)

/-- What is returned: a constructor whose arguments lie in a row of the call's own. -/
def RetCt (w : World) (lo : Nat) (e : Ending) (w' : World) (c : Ct) : Prop := ∃ v, e = .returned (.agg #[.string c.name, v, .int .i64 c.index]) ∧ OTys w' lo v c.args c.args.length ∧ Below lo w w'
end Go.Proofs.YthebdlejoficmaaDoor
