/-
  NARROWER THAN 'FOR EVERY INPUT', by the rows' own cells (each row's printed sentence says how): FnExactPatternValid: loops · FnExactPatternVars: loops · FnExactClauseValid: loops · FnExactGuardHolds: loops · FnExactClausesSame: loops.
  DERIVED. THE GIVEN ROWS OF THIS SEAT. 5 by the template 'for every input the law returns true; each argument reads behind the call as it read before'; 0 by the template 'total and deterministic' (their statements: YtphmhlekfmkdkaaTotals.lean).
  GIVEN WITH THE SEED: the statements are not yours to turn. If you find one false, say at which input.
  Laid BY PROGRAM, IN A SANDBOX (cutbox-rows.mjs): the forced cells as the released guide's own fill.sh prints them over the translation 0fef4550b5a8078a… (all of the seat's roots in one cut). By AI agents, Wed Nov 11 2026. No macro, syntax, notation, axiom, sorry.
-/
import Derived.Test.YtphmhlekfmkdkaaChecked
import GoSem.Claim
import GoSem.ClaimJoined
import GoSem.ClaimMapViews
import Derived.JoinedTies
import Derived.KernelRfl
namespace Go.Proofs.Ytphmhlekfmkdkaa
/- THE CELL 'sum', in the pinned program and in every row, IS THE sha256 OF THE DUMP (.gsa) THAT YtphmhlekfmkdkaaProg.lean LOADS. Nothing in Lean hashes anything: it is a label: what it is worth is what the hold of that sum in a sandbox is worth. -/
noncomputable def Try.pinned : Pinned := { name := "ytphmhlekfmkdkaa", sum := "0fef4550b5a8078a7bb125fb70c7717b7067e9ee3a14ee86501d47f884c77d43", checked := Try.checked }
namespace Rows
def none {H : Type} : Left H := { results := [], args := [] }

/-- 'laws.FnExactPatternValid': WHATEVER THE INPUT: true; the input reads as it did. -/
def fnExactPatternValidSpec : ChangeSpec := { name := "fnExactPatternValid", fn := fun _ => fun
  | [d1, d2, d3] => { results := [.lit (.bool true)], args := [d1, d2, d3] }
  | _ => none }
def fnExactPatternValidRow : OpenClaim := { program := "ytphmhlekfmkdkaa", sum := "0fef4550b5a8078a7bb125fb70c7717b7067e9ee3a14ee86501d47f884c77d43", func := "loop.example/matchcompiler/laws.FnExactPatternValid", spec := "fnExactPatternValid", inPlace := ["slices.overlaps[[]loop.example/matchcompiler/impl.VarType]"], unfollowed := true, recurses := true, loops := true, plainKeys := false, apart := false }
def FnExactPatternValidSaid : Prop := fnExactPatternValidRow.holds Try.pinned (OpenSpec.ofChange fnExactPatternValidSpec)

/-- ITS FALSE NEIGHBOUR: 'it returns false'. Refute it at one input. -/
def fnExactPatternValidWrong : ChangeSpec := { name := "fnExactPatternValid", fn := fun _ => fun
  | [d1, d2, d3] => { results := [.lit (.bool false)], args := [d1, d2, d3] }
  | _ => none }
def FnExactPatternValidWrongFalsely : Prop := fnExactPatternValidRow.holds Try.pinned (OpenSpec.ofChange fnExactPatternValidWrong)

/-- 'laws.FnExactPatternVars': WHATEVER THE INPUT: true; the input reads as it did. -/
def fnExactPatternVarsSpec : ChangeSpec := { name := "fnExactPatternVars", fn := fun _ => fun
  | [d1, d2, d3] => { results := [.lit (.bool true)], args := [d1, d2, d3] }
  | _ => none }
def fnExactPatternVarsRow : OpenClaim := { program := "ytphmhlekfmkdkaa", sum := "0fef4550b5a8078a7bb125fb70c7717b7067e9ee3a14ee86501d47f884c77d43", func := "loop.example/matchcompiler/laws.FnExactPatternVars", spec := "fnExactPatternVars", inPlace := ["slices.overlaps[[]loop.example/matchcompiler/impl.VarType]"], unfollowed := true, recurses := true, loops := true, plainKeys := false, apart := false }
def FnExactPatternVarsSaid : Prop := fnExactPatternVarsRow.holds Try.pinned (OpenSpec.ofChange fnExactPatternVarsSpec)

/-- ITS FALSE NEIGHBOUR: 'it returns false'. Refute it at one input. -/
def fnExactPatternVarsWrong : ChangeSpec := { name := "fnExactPatternVars", fn := fun _ => fun
  | [d1, d2, d3] => { results := [.lit (.bool false)], args := [d1, d2, d3] }
  | _ => none }
def FnExactPatternVarsWrongFalsely : Prop := fnExactPatternVarsRow.holds Try.pinned (OpenSpec.ofChange fnExactPatternVarsWrong)

/-- 'laws.FnExactClauseValid': WHATEVER THE INPUT: true; the input reads as it did. -/
def fnExactClauseValidSpec : ChangeSpec := { name := "fnExactClauseValid", fn := fun _ => fun
  | [d1, d2, d3] => { results := [.lit (.bool true)], args := [d1, d2, d3] }
  | _ => none }
def fnExactClauseValidRow : OpenClaim := { program := "ytphmhlekfmkdkaa", sum := "0fef4550b5a8078a7bb125fb70c7717b7067e9ee3a14ee86501d47f884c77d43", func := "loop.example/matchcompiler/laws.FnExactClauseValid", spec := "fnExactClauseValid", inPlace := ["slices.overlaps[[]loop.example/matchcompiler/impl.VarType]"], unfollowed := true, recurses := true, loops := true, plainKeys := false, apart := false }
def FnExactClauseValidSaid : Prop := fnExactClauseValidRow.holds Try.pinned (OpenSpec.ofChange fnExactClauseValidSpec)

/-- ITS FALSE NEIGHBOUR: 'it returns false'. Refute it at one input. -/
def fnExactClauseValidWrong : ChangeSpec := { name := "fnExactClauseValid", fn := fun _ => fun
  | [d1, d2, d3] => { results := [.lit (.bool false)], args := [d1, d2, d3] }
  | _ => none }
def FnExactClauseValidWrongFalsely : Prop := fnExactClauseValidRow.holds Try.pinned (OpenSpec.ofChange fnExactClauseValidWrong)

/-- 'laws.FnExactGuardHolds': WHATEVER THE INPUT: true; the input reads as it did. -/
def fnExactGuardHoldsSpec : ChangeSpec := { name := "fnExactGuardHolds", fn := fun _ => fun
  | [d1, d2] => { results := [.lit (.bool true)], args := [d1, d2] }
  | _ => none }
def fnExactGuardHoldsRow : OpenClaim := { program := "ytphmhlekfmkdkaa", sum := "0fef4550b5a8078a7bb125fb70c7717b7067e9ee3a14ee86501d47f884c77d43", func := "loop.example/matchcompiler/laws.FnExactGuardHolds", spec := "fnExactGuardHolds", unfollowed := true, recurses := true, loops := true, plainKeys := false, apart := false }
def FnExactGuardHoldsSaid : Prop := fnExactGuardHoldsRow.holds Try.pinned (OpenSpec.ofChange fnExactGuardHoldsSpec)

/-- ITS FALSE NEIGHBOUR: 'it returns false'. Refute it at one input. -/
def fnExactGuardHoldsWrong : ChangeSpec := { name := "fnExactGuardHolds", fn := fun _ => fun
  | [d1, d2] => { results := [.lit (.bool false)], args := [d1, d2] }
  | _ => none }
def FnExactGuardHoldsWrongFalsely : Prop := fnExactGuardHoldsRow.holds Try.pinned (OpenSpec.ofChange fnExactGuardHoldsWrong)

/-- 'laws.FnExactClausesSame': WHATEVER THE INPUT: true; the input reads as it did. -/
def fnExactClausesSameSpec : ChangeSpec := { name := "fnExactClausesSame", fn := fun _ => fun
  | [d1, d2] => { results := [.lit (.bool true)], args := [d1, d2] }
  | _ => none }
def fnExactClausesSameRow : OpenClaim := { program := "ytphmhlekfmkdkaa", sum := "0fef4550b5a8078a7bb125fb70c7717b7067e9ee3a14ee86501d47f884c77d43", func := "loop.example/matchcompiler/laws.FnExactClausesSame", spec := "fnExactClausesSame", unfollowed := true, recurses := true, loops := true, plainKeys := false, apart := false }
def FnExactClausesSameSaid : Prop := fnExactClausesSameRow.holds Try.pinned (OpenSpec.ofChange fnExactClausesSameSpec)

/-- ITS FALSE NEIGHBOUR: 'it returns false'. Refute it at one input. -/
def fnExactClausesSameWrong : ChangeSpec := { name := "fnExactClausesSame", fn := fun _ => fun
  | [d1, d2] => { results := [.lit (.bool false)], args := [d1, d2] }
  | _ => none }
def FnExactClausesSameWrongFalsely : Prop := fnExactClausesSameRow.holds Try.pinned (OpenSpec.ofChange fnExactClausesSameWrong)

/- THE SECOND FORM. 'bulk': how many values and letters a reading holds, each counted each time it is reached (what is shared counts as often as it is met; a slice's spare places count too). A statement '..UptoSaid' is the law's where the arguments, and the package variables that the reading takes, are together of bulk at most 1048576: NARROWER than '..Said'. Prove '..Said' where nothing that the law and all that it calls make is longer than what came in: it says more and counts as full. Else prove '..UptoSaid'. A law counts once. -/
mutual
def uptoBulk {H : Type} : DataW H → Nat
  | .lit (.string bytes) => bytes.length + 1
  | .lit _ => 1
  | .nil => 1
  | .ptr d => uptoBulk d + 1
  | .slice elems spare => uptoBulkAll elems + uptoBulkAll spare + 1
  | .agg parts => uptoBulkAll parts + 1
  | .iface _ d => uptoBulk d + 1
  | .map entries => uptoBulkEntries entries + 1
  | .held _ => 1
def uptoBulkAll {H : Type} : List (DataW H) → Nat
  | [] => 0
  | d :: r => uptoBulk d + uptoBulkAll r
def uptoBulkEntries {H : Type} : List (Lit × DataW H) → Nat
  | [] => 0
  | x :: r => uptoBulkEntry x + uptoBulkEntries r
def uptoBulkEntry {H : Type} : Lit × DataW H → Nat
  | (.string bytes, d) => bytes.length + uptoBulk d + 1
  | (_, d) => uptoBulk d + 1
 end
def uptoSmall : (H : Type) → List (DataW H) → Bool := fun _ ds => decide (uptoBulkAll ds ≤ 1048576)
def OpenSpec.upto (s : _root_.Go.ChangeSpec) : _root_.Go.OpenSpec := { _root_.Go.OpenSpec.ofChange s with cond := some uptoSmall }

/-- 'laws.FnExactPatternValid', WHERE WHAT IT READS IS OF BULK AT MOST 1048576: true; the input reads as it did. -/
def fnExactPatternValidUptoRow : OpenClaim := { program := "ytphmhlekfmkdkaa", sum := "0fef4550b5a8078a7bb125fb70c7717b7067e9ee3a14ee86501d47f884c77d43", func := "loop.example/matchcompiler/laws.FnExactPatternValid", spec := "fnExactPatternValid", inPlace := ["slices.overlaps[[]loop.example/matchcompiler/impl.VarType]"], unfollowed := true, recurses := true, loops := true, plainKeys := false, apart := false, narrowed := true }
def FnExactPatternValidUptoSaid : Prop := fnExactPatternValidUptoRow.holds Try.pinned (OpenSpec.upto fnExactPatternValidSpec)

/-- 'laws.FnExactPatternVars', WHERE WHAT IT READS IS OF BULK AT MOST 1048576: true; the input reads as it did. -/
def fnExactPatternVarsUptoRow : OpenClaim := { program := "ytphmhlekfmkdkaa", sum := "0fef4550b5a8078a7bb125fb70c7717b7067e9ee3a14ee86501d47f884c77d43", func := "loop.example/matchcompiler/laws.FnExactPatternVars", spec := "fnExactPatternVars", inPlace := ["slices.overlaps[[]loop.example/matchcompiler/impl.VarType]"], unfollowed := true, recurses := true, loops := true, plainKeys := false, apart := false, narrowed := true }
def FnExactPatternVarsUptoSaid : Prop := fnExactPatternVarsUptoRow.holds Try.pinned (OpenSpec.upto fnExactPatternVarsSpec)

/-- 'laws.FnExactClauseValid', WHERE WHAT IT READS IS OF BULK AT MOST 1048576: true; the input reads as it did. -/
def fnExactClauseValidUptoRow : OpenClaim := { program := "ytphmhlekfmkdkaa", sum := "0fef4550b5a8078a7bb125fb70c7717b7067e9ee3a14ee86501d47f884c77d43", func := "loop.example/matchcompiler/laws.FnExactClauseValid", spec := "fnExactClauseValid", inPlace := ["slices.overlaps[[]loop.example/matchcompiler/impl.VarType]"], unfollowed := true, recurses := true, loops := true, plainKeys := false, apart := false, narrowed := true }
def FnExactClauseValidUptoSaid : Prop := fnExactClauseValidUptoRow.holds Try.pinned (OpenSpec.upto fnExactClauseValidSpec)

/-- 'laws.FnExactGuardHolds', WHERE WHAT IT READS IS OF BULK AT MOST 1048576: true; the input reads as it did. -/
def fnExactGuardHoldsUptoRow : OpenClaim := { program := "ytphmhlekfmkdkaa", sum := "0fef4550b5a8078a7bb125fb70c7717b7067e9ee3a14ee86501d47f884c77d43", func := "loop.example/matchcompiler/laws.FnExactGuardHolds", spec := "fnExactGuardHolds", unfollowed := true, recurses := true, loops := true, plainKeys := false, apart := false, narrowed := true }
def FnExactGuardHoldsUptoSaid : Prop := fnExactGuardHoldsUptoRow.holds Try.pinned (OpenSpec.upto fnExactGuardHoldsSpec)

/-- 'laws.FnExactClausesSame', WHERE WHAT IT READS IS OF BULK AT MOST 1048576: true; the input reads as it did. -/
def fnExactClausesSameUptoRow : OpenClaim := { program := "ytphmhlekfmkdkaa", sum := "0fef4550b5a8078a7bb125fb70c7717b7067e9ee3a14ee86501d47f884c77d43", func := "loop.example/matchcompiler/laws.FnExactClausesSame", spec := "fnExactClausesSame", unfollowed := true, recurses := true, loops := true, plainKeys := false, apart := false, narrowed := true }
def FnExactClausesSameUptoSaid : Prop := fnExactClausesSameUptoRow.holds Try.pinned (OpenSpec.upto fnExactClausesSameSpec)

end Rows
end Go.Proofs.Ytphmhlekfmkdkaa
