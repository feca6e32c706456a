/-
  The types of the arguments of a constructor: the program's function. No statement is proved here.
-/
import Derived.Test.YthebdlejoficmaaDoorArgs
namespace Go.Proofs.YthebdlejoficmaaDoor
open Go.RowKit
set_option maxRecDepth 100000
set_option linter.unusedVariables false

theorem argOf_same {c : Ct} {ix : Int} {a : Ty} (h : a.index = -1) : argOf c ix a = ⟨a.data, resI c.index ix⟩ := if_pos h
theorem argOf_other {c : Ct} {ix : Int} {a : Ty} (h : ¬ a.index = -1) : argOf c ix a = a := if_neg h
/-- What is stored for the element in place k. -/
theorem row_step {c : Ct} {ix : Int} {xs : List Value} {k : Nat} (h : TyRow (argT c ix) xs k) (hk : k < c.args.length) (hx : xs.length = c.args.length * 2) {u0 u1 : Int} (h0 : u0 = (argOf c ix c.args[k]).data) (h1 : u1 = (argOf c ix c.args[k]).index) :
    TyRow (argT c ix) ((xs.set (k * 2) (.int .i64 u0)).set (k * 2 + 1) (.int .i64 u1)) (k + 1) := by
  have hk' : k < (argT c ix).length := by rw [argT_len]; exact hk
  have := h.step hk' (by rw [argT_len]; exact hx)
  rw [argT_get c ix k hk hk'] at this
  rw [h0, h1]
  exact this

end Go.Proofs.YthebdlejoficmaaDoor
