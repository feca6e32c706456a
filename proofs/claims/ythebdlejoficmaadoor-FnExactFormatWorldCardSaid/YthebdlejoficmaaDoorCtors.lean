/-
  The constructors that can make values of a type: the program's function and the document's. No statement is proved here.
-/
import Derived.Test.YthebdlejoficmaaDoorTypeV
import Derived.Laws.AppendOwn
import Derived.Laws.OwnMore
namespace Go.Proofs.YthebdlejoficmaaDoor
open Go.RowKit
set_option maxRecDepth 100000
set_option linter.unusedVariables false

def fitsB (a i : Int) : Bool := decide (a = 0 ∨ i = 0 ∨ a = i)
theorem fits_t {a i : Int} (h : a = 0 ∨ i = 0 ∨ a = i) : true = fitsB a i := (decide_eq_true h).symm
theorem fits_f {a i : Int} (h : ¬ (a = 0 ∨ i = 0 ∨ a = i)) : false = fitsB a i := (decide_eq_false h).symm
theorem ieq_t {a b : Int} (h : a = b) : (a == b) = true := beq_iff_eq.2 h
theorem ieq_f {a b : Int} (h : ¬ a = b) : (a == b) = false := beq_eq_false_iff_ne.2 h

/-- The places before k of the constructors that fit an index. -/
def ctL (cs : List Ct) (i : Int) : Nat → List Int
  | 0 => []
  | k + 1 => ctL cs i k ++ (if fitsB (cs.getD k default).index i then [(k : Int)] else [])
theorem ctL_yes {cs : List Ct} {i : Int} {k : Nat} (hk : k < cs.length) (h : fitsB cs[k].index i = true) : ctL cs i (k + 1) = ctL cs i k ++ [(k : Int)] := by
  show ctL cs i k ++ _ = _
  have e : cs.getD k default = cs[k] := by simp [List.getD, List.getElem?_eq_getElem hk]
  rw [e, h]; rfl
theorem ctL_no {cs : List Ct} {i : Int} {k : Nat} (hk : k < cs.length) (h : fitsB cs[k].index i = false) : ctL cs i (k + 1) = ctL cs i k := by
  show ctL cs i k ++ _ = _
  have e : cs.getD k default = cs[k] := by simp [List.getD, List.getElem?_eq_getElem hk]
  rw [e, h]; simp
theorem ctL_length (cs : List Ct) (i : Int) : ∀ k, (ctL cs i k).length ≤ k
  | 0 => Nat.le_refl _
  | k + 1 => by
    have := ctL_length cs i k
    show (ctL cs i k ++ _).length ≤ k + 1
    rw [List.length_append]
    split <;> simp <;> omega

theorem cell_two_one (w : World) (o : Obj) (x : Value) (t : TypeId) : ∀ j u, [x][j]? = some u → ((w.alloc o).alloc (.cells #[x] t)).cell? ((⟨w.heap.size + 1, 0, none⟩ : Addr).add j) = some u := by
  intro j u hj
  match j, hj with
  | 0, hj => simp at hj; subst hj; simp [Addr.add, go_sem]
/-- Integers in a row of the call's own. -/
def OInts (w : World) (lo : Nat) (v : Value) (xs : List Int) : Prop := w.ownsRow lo 3 1 v xs.length (xs.map (Value.int .i64))
theorem info3 : (Tryd.prog.info? 3).map (fun i => (i.zero, i.size, i.bytes)) = some (some (.int .i64 0), 1, 8) := by kernel_rfl

end Go.Proofs.YthebdlejoficmaaDoor
