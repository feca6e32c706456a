/-
  No cell of these rows narrows 'for every input' (looked for: loops, veiled, ifaces, maps, wideKeys, modest, calm, conditions, laid).
  DERIVED. THE GIVEN ROWS OF THIS SEAT. 8 by the template 'for every input the law returns true; each argument reads behind the call as it read before'; 0 by the template 'total and deterministic' (their statements: YteoopmogklpnoaaTotals.lean).
  GIVEN WITH THE SEED: the statements are not yours to turn. If you find one false, say at which input.
  Laid BY PROGRAM, IN A SANDBOX (cutbox-rows.mjs): the forced cells as the released guide's own fill.sh prints them over the translation 373cfc7acf499202… (all of the seat's roots in one cut). By AI agents, Wed Nov 11 2026. No macro, syntax, notation, axiom, sorry.
-/
import Derived.Test.YteoopmogklpnoaaChecked
import GoSem.Claim
import GoSem.ClaimJoined
import GoSem.ClaimMapViews
import Derived.JoinedTies
import Derived.KernelRfl
namespace Go.Proofs.Yteoopmogklpnoaa
/- THE CELL 'sum', in the pinned program and in every row, IS THE sha256 OF THE DUMP (.gsa) THAT YteoopmogklpnoaaProg.lean LOADS. Nothing in Lean hashes anything: it is a label: what it is worth is what the hold of that sum in a sandbox is worth. -/
noncomputable def Try.pinned : Pinned := { name := "yteoopmogklpnoaa", sum := "373cfc7acf49920274f30b69d369a455f4d20f1b66045c7cce7b2a06a3557540", checked := Try.checked }
namespace Rows
def none {H : Type} : Left H := { results := [], args := [] }

/-- 'laws.FnValueParts': WHATEVER THE INPUT: true; the input reads as it did. -/
def fnValuePartsSpec : ChangeSpec := { name := "fnValueParts", fn := fun _ => fun
  | [d] => { results := [.lit (.bool true)], args := [d] }
  | _ => none }
def fnValuePartsRow : OpenClaim := { program := "yteoopmogklpnoaa", sum := "373cfc7acf49920274f30b69d369a455f4d20f1b66045c7cce7b2a06a3557540", func := "loop.example/matchcompiler/laws.FnValueParts", spec := "fnValueParts", recurses := true, plainKeys := false, apart := false }
def FnValuePartsSaid : Prop := fnValuePartsRow.holds Try.pinned (OpenSpec.ofChange fnValuePartsSpec)

/-- ITS FALSE NEIGHBOUR: 'it returns false'. Refute it at one input. -/
def fnValuePartsWrong : ChangeSpec := { name := "fnValueParts", fn := fun _ => fun
  | [d] => { results := [.lit (.bool false)], args := [d] }
  | _ => none }
def FnValuePartsWrongFalsely : Prop := fnValuePartsRow.holds Try.pinned (OpenSpec.ofChange fnValuePartsWrong)

/-- 'laws.FnDepthOf': WHATEVER THE INPUT: true; the input reads as it did. -/
def fnDepthOfSpec : ChangeSpec := { name := "fnDepthOf", fn := fun _ => fun
  | [d] => { results := [.lit (.bool true)], args := [d] }
  | _ => none }
def fnDepthOfRow : OpenClaim := { program := "yteoopmogklpnoaa", sum := "373cfc7acf49920274f30b69d369a455f4d20f1b66045c7cce7b2a06a3557540", func := "loop.example/matchcompiler/laws.FnDepthOf", spec := "fnDepthOf", recurses := true, plainKeys := false, apart := false }
def FnDepthOfSaid : Prop := fnDepthOfRow.holds Try.pinned (OpenSpec.ofChange fnDepthOfSpec)

/-- ITS FALSE NEIGHBOUR: 'it returns false'. Refute it at one input. -/
def fnDepthOfWrong : ChangeSpec := { name := "fnDepthOf", fn := fun _ => fun
  | [d] => { results := [.lit (.bool false)], args := [d] }
  | _ => none }
def FnDepthOfWrongFalsely : Prop := fnDepthOfRow.holds Try.pinned (OpenSpec.ofChange fnDepthOfWrong)

/-- 'laws.FnCompareValues': WHATEVER THE INPUT: true; the input reads as it did. -/
def fnCompareValuesSpec : ChangeSpec := { name := "fnCompareValues", fn := fun _ => fun
  | [d1, d2] => { results := [.lit (.bool true)], args := [d1, d2] }
  | _ => none }
def fnCompareValuesRow : OpenClaim := { program := "yteoopmogklpnoaa", sum := "373cfc7acf49920274f30b69d369a455f4d20f1b66045c7cce7b2a06a3557540", func := "loop.example/matchcompiler/laws.FnCompareValues", spec := "fnCompareValues", recurses := true, plainKeys := false, apart := false }
def FnCompareValuesSaid : Prop := fnCompareValuesRow.holds Try.pinned (OpenSpec.ofChange fnCompareValuesSpec)

/-- ITS FALSE NEIGHBOUR: 'it returns false'. Refute it at one input. -/
def fnCompareValuesWrong : ChangeSpec := { name := "fnCompareValues", fn := fun _ => fun
  | [d1, d2] => { results := [.lit (.bool false)], args := [d1, d2] }
  | _ => none }
def FnCompareValuesWrongFalsely : Prop := fnCompareValuesRow.holds Try.pinned (OpenSpec.ofChange fnCompareValuesWrong)

/-- 'laws.FnLeastValue': WHATEVER THE INPUT: true; the input reads as it did. -/
def fnLeastValueSpec : ChangeSpec := { name := "fnLeastValue", fn := fun _ => fun
  | [d] => { results := [.lit (.bool true)], args := [d] }
  | _ => none }
def fnLeastValueRow : OpenClaim := { program := "yteoopmogklpnoaa", sum := "373cfc7acf49920274f30b69d369a455f4d20f1b66045c7cce7b2a06a3557540", func := "loop.example/matchcompiler/laws.FnLeastValue", spec := "fnLeastValue", unfollowed := true, recurses := true, plainKeys := false, apart := false }
def FnLeastValueSaid : Prop := fnLeastValueRow.holds Try.pinned (OpenSpec.ofChange fnLeastValueSpec)

/-- ITS FALSE NEIGHBOUR: 'it returns false'. Refute it at one input. -/
def fnLeastValueWrong : ChangeSpec := { name := "fnLeastValue", fn := fun _ => fun
  | [d] => { results := [.lit (.bool false)], args := [d] }
  | _ => none }
def FnLeastValueWrongFalsely : Prop := fnLeastValueRow.holds Try.pinned (OpenSpec.ofChange fnLeastValueWrong)

/-- 'laws.FnPatternVars': WHATEVER THE INPUT: true; the input reads as it did. -/
def fnPatternVarsSpec : ChangeSpec := { name := "fnPatternVars", fn := fun _ => fun
  | [d] => { results := [.lit (.bool true)], args := [d] }
  | _ => none }
def fnPatternVarsRow : OpenClaim := { program := "yteoopmogklpnoaa", sum := "373cfc7acf49920274f30b69d369a455f4d20f1b66045c7cce7b2a06a3557540", func := "loop.example/matchcompiler/laws.FnPatternVars", spec := "fnPatternVars", inPlace := ["slices.overlaps[[]loop.example/matchcompiler/impl.VarType]"], unfollowed := true, recurses := true, plainKeys := false, apart := false }
def FnPatternVarsSaid : Prop := fnPatternVarsRow.holds Try.pinned (OpenSpec.ofChange fnPatternVarsSpec)

/-- ITS FALSE NEIGHBOUR: 'it returns false'. Refute it at one input. -/
def fnPatternVarsWrong : ChangeSpec := { name := "fnPatternVars", fn := fun _ => fun
  | [d] => { results := [.lit (.bool false)], args := [d] }
  | _ => none }
def FnPatternVarsWrongFalsely : Prop := fnPatternVarsRow.holds Try.pinned (OpenSpec.ofChange fnPatternVarsWrong)

/-- 'laws.FnPatternWide': WHATEVER THE INPUT: true; the input reads as it did. -/
def fnPatternWideSpec : ChangeSpec := { name := "fnPatternWide", fn := fun _ => fun
  | [d] => { results := [.lit (.bool true)], args := [d] }
  | _ => none }
def fnPatternWideRow : OpenClaim := { program := "yteoopmogklpnoaa", sum := "373cfc7acf49920274f30b69d369a455f4d20f1b66045c7cce7b2a06a3557540", func := "loop.example/matchcompiler/laws.FnPatternWide", spec := "fnPatternWide", inPlace := ["slices.overlaps[[]loop.example/matchcompiler/impl.VarType]"], unfollowed := true, recurses := true, plainKeys := false, apart := false }
def FnPatternWideSaid : Prop := fnPatternWideRow.holds Try.pinned (OpenSpec.ofChange fnPatternWideSpec)

/-- ITS FALSE NEIGHBOUR: 'it returns false'. Refute it at one input. -/
def fnPatternWideWrong : ChangeSpec := { name := "fnPatternWide", fn := fun _ => fun
  | [d] => { results := [.lit (.bool false)], args := [d] }
  | _ => none }
def FnPatternWideWrongFalsely : Prop := fnPatternWideRow.holds Try.pinned (OpenSpec.ofChange fnPatternWideWrong)

/-- 'laws.FnPatternSame': WHATEVER THE INPUT: true; the input reads as it did. -/
def fnPatternSameSpec : ChangeSpec := { name := "fnPatternSame", fn := fun _ => fun
  | [d] => { results := [.lit (.bool true)], args := [d] }
  | _ => none }
def fnPatternSameRow : OpenClaim := { program := "yteoopmogklpnoaa", sum := "373cfc7acf49920274f30b69d369a455f4d20f1b66045c7cce7b2a06a3557540", func := "loop.example/matchcompiler/laws.FnPatternSame", spec := "fnPatternSame", unfollowed := true, recurses := true, plainKeys := false, apart := false }
def FnPatternSameSaid : Prop := fnPatternSameRow.holds Try.pinned (OpenSpec.ofChange fnPatternSameSpec)

/-- ITS FALSE NEIGHBOUR: 'it returns false'. Refute it at one input. -/
def fnPatternSameWrong : ChangeSpec := { name := "fnPatternSame", fn := fun _ => fun
  | [d] => { results := [.lit (.bool false)], args := [d] }
  | _ => none }
def FnPatternSameWrongFalsely : Prop := fnPatternSameRow.holds Try.pinned (OpenSpec.ofChange fnPatternSameWrong)

/-- 'laws.FnGuardHolds': WHATEVER THE INPUT: true; the input reads as it did. -/
def fnGuardHoldsSpec : ChangeSpec := { name := "fnGuardHolds", fn := fun _ => fun
  | [d1, d2] => { results := [.lit (.bool true)], args := [d1, d2] }
  | _ => none }
def fnGuardHoldsRow : OpenClaim := { program := "yteoopmogklpnoaa", sum := "373cfc7acf49920274f30b69d369a455f4d20f1b66045c7cce7b2a06a3557540", func := "loop.example/matchcompiler/laws.FnGuardHolds", spec := "fnGuardHolds", unfollowed := true, recurses := true, plainKeys := false, apart := false }
def FnGuardHoldsSaid : Prop := fnGuardHoldsRow.holds Try.pinned (OpenSpec.ofChange fnGuardHoldsSpec)

/-- ITS FALSE NEIGHBOUR: 'it returns false'. Refute it at one input. -/
def fnGuardHoldsWrong : ChangeSpec := { name := "fnGuardHolds", fn := fun _ => fun
  | [d1, d2] => { results := [.lit (.bool false)], args := [d1, d2] }
  | _ => none }
def FnGuardHoldsWrongFalsely : Prop := fnGuardHoldsRow.holds Try.pinned (OpenSpec.ofChange fnGuardHoldsWrong)

/- THE SECOND FORM. 'bulk': how many values and letters a reading holds, each counted each time it is reached (what is shared counts as often as it is met; a slice's spare places count too). A statement '..UptoSaid' is the law's where the arguments, and the package variables that the reading takes, are together of bulk at most 1048576: NARROWER than '..Said'. Prove '..Said' where nothing that the law and all that it calls make is longer than what came in: it says more and counts as full. Else prove '..UptoSaid'. A law counts once. -/
mutual
def uptoBulk {H : Type} : DataW H → Nat
  | .lit (.string bytes) => bytes.length + 1
  | .lit _ => 1
  | .nil => 1
  | .ptr d => uptoBulk d + 1
  | .slice elems spare => uptoBulkAll elems + uptoBulkAll spare + 1
  | .agg parts => uptoBulkAll parts + 1
  | .iface _ d => uptoBulk d + 1
  | .map entries => uptoBulkEntries entries + 1
  | .held _ => 1
def uptoBulkAll {H : Type} : List (DataW H) → Nat
  | [] => 0
  | d :: r => uptoBulk d + uptoBulkAll r
def uptoBulkEntries {H : Type} : List (Lit × DataW H) → Nat
  | [] => 0
  | x :: r => uptoBulkEntry x + uptoBulkEntries r
def uptoBulkEntry {H : Type} : Lit × DataW H → Nat
  | (.string bytes, d) => bytes.length + uptoBulk d + 1
  | (_, d) => uptoBulk d + 1
 end
def uptoSmall : (H : Type) → List (DataW H) → Bool := fun _ ds => decide (uptoBulkAll ds ≤ 1048576)
def OpenSpec.upto (s : _root_.Go.ChangeSpec) : _root_.Go.OpenSpec := { _root_.Go.OpenSpec.ofChange s with cond := some uptoSmall }

/-- 'laws.FnValueParts', WHERE WHAT IT READS IS OF BULK AT MOST 1048576: true; the input reads as it did. -/
def fnValuePartsUptoRow : OpenClaim := { program := "yteoopmogklpnoaa", sum := "373cfc7acf49920274f30b69d369a455f4d20f1b66045c7cce7b2a06a3557540", func := "loop.example/matchcompiler/laws.FnValueParts", spec := "fnValueParts", recurses := true, plainKeys := false, apart := false, narrowed := true }
def FnValuePartsUptoSaid : Prop := fnValuePartsUptoRow.holds Try.pinned (OpenSpec.upto fnValuePartsSpec)

/-- 'laws.FnDepthOf', WHERE WHAT IT READS IS OF BULK AT MOST 1048576: true; the input reads as it did. -/
def fnDepthOfUptoRow : OpenClaim := { program := "yteoopmogklpnoaa", sum := "373cfc7acf49920274f30b69d369a455f4d20f1b66045c7cce7b2a06a3557540", func := "loop.example/matchcompiler/laws.FnDepthOf", spec := "fnDepthOf", recurses := true, plainKeys := false, apart := false, narrowed := true }
def FnDepthOfUptoSaid : Prop := fnDepthOfUptoRow.holds Try.pinned (OpenSpec.upto fnDepthOfSpec)

/-- 'laws.FnCompareValues', WHERE WHAT IT READS IS OF BULK AT MOST 1048576: true; the input reads as it did. -/
def fnCompareValuesUptoRow : OpenClaim := { program := "yteoopmogklpnoaa", sum := "373cfc7acf49920274f30b69d369a455f4d20f1b66045c7cce7b2a06a3557540", func := "loop.example/matchcompiler/laws.FnCompareValues", spec := "fnCompareValues", recurses := true, plainKeys := false, apart := false, narrowed := true }
def FnCompareValuesUptoSaid : Prop := fnCompareValuesUptoRow.holds Try.pinned (OpenSpec.upto fnCompareValuesSpec)

/-- 'laws.FnLeastValue', WHERE WHAT IT READS IS OF BULK AT MOST 1048576: true; the input reads as it did. -/
def fnLeastValueUptoRow : OpenClaim := { program := "yteoopmogklpnoaa", sum := "373cfc7acf49920274f30b69d369a455f4d20f1b66045c7cce7b2a06a3557540", func := "loop.example/matchcompiler/laws.FnLeastValue", spec := "fnLeastValue", unfollowed := true, recurses := true, plainKeys := false, apart := false, narrowed := true }
def FnLeastValueUptoSaid : Prop := fnLeastValueUptoRow.holds Try.pinned (OpenSpec.upto fnLeastValueSpec)

/-- 'laws.FnPatternVars', WHERE WHAT IT READS IS OF BULK AT MOST 1048576: true; the input reads as it did. -/
def fnPatternVarsUptoRow : OpenClaim := { program := "yteoopmogklpnoaa", sum := "373cfc7acf49920274f30b69d369a455f4d20f1b66045c7cce7b2a06a3557540", func := "loop.example/matchcompiler/laws.FnPatternVars", spec := "fnPatternVars", inPlace := ["slices.overlaps[[]loop.example/matchcompiler/impl.VarType]"], unfollowed := true, recurses := true, plainKeys := false, apart := false, narrowed := true }
def FnPatternVarsUptoSaid : Prop := fnPatternVarsUptoRow.holds Try.pinned (OpenSpec.upto fnPatternVarsSpec)

/-- 'laws.FnPatternWide', WHERE WHAT IT READS IS OF BULK AT MOST 1048576: true; the input reads as it did. -/
def fnPatternWideUptoRow : OpenClaim := { program := "yteoopmogklpnoaa", sum := "373cfc7acf49920274f30b69d369a455f4d20f1b66045c7cce7b2a06a3557540", func := "loop.example/matchcompiler/laws.FnPatternWide", spec := "fnPatternWide", inPlace := ["slices.overlaps[[]loop.example/matchcompiler/impl.VarType]"], unfollowed := true, recurses := true, plainKeys := false, apart := false, narrowed := true }
def FnPatternWideUptoSaid : Prop := fnPatternWideUptoRow.holds Try.pinned (OpenSpec.upto fnPatternWideSpec)

/-- 'laws.FnPatternSame', WHERE WHAT IT READS IS OF BULK AT MOST 1048576: true; the input reads as it did. -/
def fnPatternSameUptoRow : OpenClaim := { program := "yteoopmogklpnoaa", sum := "373cfc7acf49920274f30b69d369a455f4d20f1b66045c7cce7b2a06a3557540", func := "loop.example/matchcompiler/laws.FnPatternSame", spec := "fnPatternSame", unfollowed := true, recurses := true, plainKeys := false, apart := false, narrowed := true }
def FnPatternSameUptoSaid : Prop := fnPatternSameUptoRow.holds Try.pinned (OpenSpec.upto fnPatternSameSpec)

/-- 'laws.FnGuardHolds', WHERE WHAT IT READS IS OF BULK AT MOST 1048576: true; the input reads as it did. -/
def fnGuardHoldsUptoRow : OpenClaim := { program := "yteoopmogklpnoaa", sum := "373cfc7acf49920274f30b69d369a455f4d20f1b66045c7cce7b2a06a3557540", func := "loop.example/matchcompiler/laws.FnGuardHolds", spec := "fnGuardHolds", unfollowed := true, recurses := true, plainKeys := false, apart := false, narrowed := true }
def FnGuardHoldsUptoSaid : Prop := fnGuardHoldsUptoRow.holds Try.pinned (OpenSpec.upto fnGuardHoldsSpec)

end Rows
end Go.Proofs.Yteoopmogklpnoaa
