/-
  NARROWER THAN 'FOR EVERY INPUT', by the rows' own cells (each row's printed sentence says how): FnExactValueValid: loops · FnExactPartialValid: loops · FnExactKnownMore: loops · FnExactMaskValue: loops.
  DERIVED. THE GIVEN ROWS OF THIS SEAT. 4 by the template 'for every input the law returns true; each argument reads behind the call as it read before'; 0 by the template 'total and deterministic' (their statements: YtnfjjabeobcenaaTotals.lean).
  GIVEN WITH THE SEED: the statements are not yours to turn. If you find one false, say at which input.
  Laid BY PROGRAM, IN A SANDBOX (cutbox-rows.mjs): the forced cells as the released guide's own fill.sh prints them over the translation d879b96d4993104e… (all of the seat's roots in one cut). By AI agents, Wed Nov 11 2026. No macro, syntax, notation, axiom, sorry.
-/
import Derived.Test.YtnfjjabeobcenaaChecked
import GoSem.Claim
import GoSem.ClaimJoined
import GoSem.ClaimMapViews
import Derived.JoinedTies
import Derived.KernelRfl
namespace Go.Proofs.Ytnfjjabeobcenaa
/- THE CELL 'sum', in the pinned program and in every row, IS THE sha256 OF THE DUMP (.gsa) THAT YtnfjjabeobcenaaProg.lean LOADS. Nothing in Lean hashes anything: it is a label: what it is worth is what the hold of that sum in a sandbox is worth. -/
noncomputable def Try.pinned : Pinned := { name := "ytnfjjabeobcenaa", sum := "d879b96d4993104ef1871f5fdbb560e7042e217cb242587ef37dec80b344b9f5", checked := Try.checked }
namespace Rows
def none {H : Type} : Left H := { results := [], args := [] }

/-- 'laws.FnExactValueValid': WHATEVER THE INPUT: true; the input reads as it did. -/
def fnExactValueValidSpec : ChangeSpec := { name := "fnExactValueValid", fn := fun _ => fun
  | [d1, d2, d3] => { results := [.lit (.bool true)], args := [d1, d2, d3] }
  | _ => none }
def fnExactValueValidRow : OpenClaim := { program := "ytnfjjabeobcenaa", sum := "d879b96d4993104ef1871f5fdbb560e7042e217cb242587ef37dec80b344b9f5", func := "loop.example/matchcompiler/laws.FnExactValueValid", spec := "fnExactValueValid", unfollowed := true, recurses := true, loops := true, apart := false }
def FnExactValueValidSaid : Prop := fnExactValueValidRow.holds Try.pinned (OpenSpec.ofChange fnExactValueValidSpec)

/-- ITS FALSE NEIGHBOUR: 'it returns false'. Refute it at one input. -/
def fnExactValueValidWrong : ChangeSpec := { name := "fnExactValueValid", fn := fun _ => fun
  | [d1, d2, d3] => { results := [.lit (.bool false)], args := [d1, d2, d3] }
  | _ => none }
def FnExactValueValidWrongFalsely : Prop := fnExactValueValidRow.holds Try.pinned (OpenSpec.ofChange fnExactValueValidWrong)

/-- 'laws.FnExactPartialValid': WHATEVER THE INPUT: true; the input reads as it did. -/
def fnExactPartialValidSpec : ChangeSpec := { name := "fnExactPartialValid", fn := fun _ => fun
  | [d1, d2, d3] => { results := [.lit (.bool true)], args := [d1, d2, d3] }
  | _ => none }
def fnExactPartialValidRow : OpenClaim := { program := "ytnfjjabeobcenaa", sum := "d879b96d4993104ef1871f5fdbb560e7042e217cb242587ef37dec80b344b9f5", func := "loop.example/matchcompiler/laws.FnExactPartialValid", spec := "fnExactPartialValid", unfollowed := true, recurses := true, loops := true, apart := false }
def FnExactPartialValidSaid : Prop := fnExactPartialValidRow.holds Try.pinned (OpenSpec.ofChange fnExactPartialValidSpec)

/-- ITS FALSE NEIGHBOUR: 'it returns false'. Refute it at one input. -/
def fnExactPartialValidWrong : ChangeSpec := { name := "fnExactPartialValid", fn := fun _ => fun
  | [d1, d2, d3] => { results := [.lit (.bool false)], args := [d1, d2, d3] }
  | _ => none }
def FnExactPartialValidWrongFalsely : Prop := fnExactPartialValidRow.holds Try.pinned (OpenSpec.ofChange fnExactPartialValidWrong)

/-- 'laws.FnExactKnownMore': WHATEVER THE INPUT: true; the input reads as it did. -/
def fnExactKnownMoreSpec : ChangeSpec := { name := "fnExactKnownMore", fn := fun _ => fun
  | [d1, d2, d3, d4] => { results := [.lit (.bool true)], args := [d1, d2, d3, d4] }
  | _ => none }
def fnExactKnownMoreRow : OpenClaim := { program := "ytnfjjabeobcenaa", sum := "d879b96d4993104ef1871f5fdbb560e7042e217cb242587ef37dec80b344b9f5", func := "loop.example/matchcompiler/laws.FnExactKnownMore", spec := "fnExactKnownMore", unfollowed := true, recurses := true, loops := true, apart := false }
def FnExactKnownMoreSaid : Prop := fnExactKnownMoreRow.holds Try.pinned (OpenSpec.ofChange fnExactKnownMoreSpec)

/-- ITS FALSE NEIGHBOUR: 'it returns false'. Refute it at one input. -/
def fnExactKnownMoreWrong : ChangeSpec := { name := "fnExactKnownMore", fn := fun _ => fun
  | [d1, d2, d3, d4] => { results := [.lit (.bool false)], args := [d1, d2, d3, d4] }
  | _ => none }
def FnExactKnownMoreWrongFalsely : Prop := fnExactKnownMoreRow.holds Try.pinned (OpenSpec.ofChange fnExactKnownMoreWrong)

/-- 'laws.FnExactMaskValue': WHATEVER THE INPUT: true; the input reads as it did. -/
def fnExactMaskValueSpec : ChangeSpec := { name := "fnExactMaskValue", fn := fun _ => fun
  | [d1, d2, d3, d4] => { results := [.lit (.bool true)], args := [d1, d2, d3, d4] }
  | _ => none }
def fnExactMaskValueRow : OpenClaim := { program := "ytnfjjabeobcenaa", sum := "d879b96d4993104ef1871f5fdbb560e7042e217cb242587ef37dec80b344b9f5", func := "loop.example/matchcompiler/laws.FnExactMaskValue", spec := "fnExactMaskValue", unfollowed := true, recurses := true, loops := true, apart := false }
def FnExactMaskValueSaid : Prop := fnExactMaskValueRow.holds Try.pinned (OpenSpec.ofChange fnExactMaskValueSpec)

/-- ITS FALSE NEIGHBOUR: 'it returns false'. Refute it at one input. -/
def fnExactMaskValueWrong : ChangeSpec := { name := "fnExactMaskValue", fn := fun _ => fun
  | [d1, d2, d3, d4] => { results := [.lit (.bool false)], args := [d1, d2, d3, d4] }
  | _ => none }
def FnExactMaskValueWrongFalsely : Prop := fnExactMaskValueRow.holds Try.pinned (OpenSpec.ofChange fnExactMaskValueWrong)

/- THE SECOND FORM. 'bulk': how many values and letters a reading holds, each counted each time it is reached (what is shared counts as often as it is met; a slice's spare places count too). A statement '..UptoSaid' is the law's where the arguments, and the package variables that the reading takes, are together of bulk at most 1048576: NARROWER than '..Said'. Prove '..Said' where nothing that the law and all that it calls make is longer than what came in: it says more and counts as full. Else prove '..UptoSaid'. A law counts once. -/
mutual
def uptoBulk {H : Type} : DataW H → Nat
  | .lit (.string bytes) => bytes.length + 1
  | .lit _ => 1
  | .nil => 1
  | .ptr d => uptoBulk d + 1
  | .slice elems spare => uptoBulkAll elems + uptoBulkAll spare + 1
  | .agg parts => uptoBulkAll parts + 1
  | .iface _ d => uptoBulk d + 1
  | .map entries => uptoBulkEntries entries + 1
  | .held _ => 1
def uptoBulkAll {H : Type} : List (DataW H) → Nat
  | [] => 0
  | d :: r => uptoBulk d + uptoBulkAll r
def uptoBulkEntries {H : Type} : List (Lit × DataW H) → Nat
  | [] => 0
  | x :: r => uptoBulkEntry x + uptoBulkEntries r
def uptoBulkEntry {H : Type} : Lit × DataW H → Nat
  | (.string bytes, d) => bytes.length + uptoBulk d + 1
  | (_, d) => uptoBulk d + 1
 end
def uptoSmall : (H : Type) → List (DataW H) → Bool := fun _ ds => decide (uptoBulkAll ds ≤ 1048576)
def OpenSpec.upto (s : _root_.Go.ChangeSpec) : _root_.Go.OpenSpec := { _root_.Go.OpenSpec.ofChange s with cond := some uptoSmall }

/-- 'laws.FnExactValueValid', WHERE WHAT IT READS IS OF BULK AT MOST 1048576: true; the input reads as it did. -/
def fnExactValueValidUptoRow : OpenClaim := { program := "ytnfjjabeobcenaa", sum := "d879b96d4993104ef1871f5fdbb560e7042e217cb242587ef37dec80b344b9f5", func := "loop.example/matchcompiler/laws.FnExactValueValid", spec := "fnExactValueValid", unfollowed := true, recurses := true, loops := true, apart := false, narrowed := true }
def FnExactValueValidUptoSaid : Prop := fnExactValueValidUptoRow.holds Try.pinned (OpenSpec.upto fnExactValueValidSpec)

/-- 'laws.FnExactPartialValid', WHERE WHAT IT READS IS OF BULK AT MOST 1048576: true; the input reads as it did. -/
def fnExactPartialValidUptoRow : OpenClaim := { program := "ytnfjjabeobcenaa", sum := "d879b96d4993104ef1871f5fdbb560e7042e217cb242587ef37dec80b344b9f5", func := "loop.example/matchcompiler/laws.FnExactPartialValid", spec := "fnExactPartialValid", unfollowed := true, recurses := true, loops := true, apart := false, narrowed := true }
def FnExactPartialValidUptoSaid : Prop := fnExactPartialValidUptoRow.holds Try.pinned (OpenSpec.upto fnExactPartialValidSpec)

/-- 'laws.FnExactKnownMore', WHERE WHAT IT READS IS OF BULK AT MOST 1048576: true; the input reads as it did. -/
def fnExactKnownMoreUptoRow : OpenClaim := { program := "ytnfjjabeobcenaa", sum := "d879b96d4993104ef1871f5fdbb560e7042e217cb242587ef37dec80b344b9f5", func := "loop.example/matchcompiler/laws.FnExactKnownMore", spec := "fnExactKnownMore", unfollowed := true, recurses := true, loops := true, apart := false, narrowed := true }
def FnExactKnownMoreUptoSaid : Prop := fnExactKnownMoreUptoRow.holds Try.pinned (OpenSpec.upto fnExactKnownMoreSpec)

/-- 'laws.FnExactMaskValue', WHERE WHAT IT READS IS OF BULK AT MOST 1048576: true; the input reads as it did. -/
def fnExactMaskValueUptoRow : OpenClaim := { program := "ytnfjjabeobcenaa", sum := "d879b96d4993104ef1871f5fdbb560e7042e217cb242587ef37dec80b344b9f5", func := "loop.example/matchcompiler/laws.FnExactMaskValue", spec := "fnExactMaskValue", unfollowed := true, recurses := true, loops := true, apart := false, narrowed := true }
def FnExactMaskValueUptoSaid : Prop := fnExactMaskValueUptoRow.holds Try.pinned (OpenSpec.upto fnExactMaskValueSpec)

end Rows
end Go.Proofs.Ytnfjjabeobcenaa
