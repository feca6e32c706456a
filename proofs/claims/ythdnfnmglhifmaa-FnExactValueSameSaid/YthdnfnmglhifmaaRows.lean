/-
  NARROWER THAN 'FOR EVERY INPUT', by the rows' own cells (each row's printed sentence says how): FnExactValueSame: loops · FnExactPatternSame: loops · FnExactClausesSame: loops.
  DERIVED. THE GIVEN ROWS OF THIS SEAT. 7 by the template 'for every input the law returns true; each argument reads behind the call as it read before'; 0 by the template 'total and deterministic' (their statements: YthdnfnmglhifmaaTotals.lean).
  GIVEN WITH THE SEED: the statements are not yours to turn. If you find one false, say at which input.
  Laid BY PROGRAM, IN A SANDBOX (cutbox-rows.mjs): the forced cells as the released guide's own fill.sh prints them over the translation d3fcf231058baaa8… (all of the seat's roots in one cut). By AI agents, Wed Nov 11 2026. No macro, syntax, notation, axiom, sorry.
-/
import Derived.Test.YthdnfnmglhifmaaChecked
import GoSem.Claim
import GoSem.ClaimJoined
import GoSem.ClaimMapViews
import Derived.JoinedTies
import Derived.KernelRfl
namespace Go.Proofs.Ythdnfnmglhifmaa
/- THE CELL 'sum', in the pinned program and in every row, IS THE sha256 OF THE DUMP (.gsa) THAT YthdnfnmglhifmaaProg.lean LOADS. Nothing in Lean hashes anything: it is a label: what it is worth is what the hold of that sum in a sandbox is worth. -/
noncomputable def Try.pinned : Pinned := { name := "ythdnfnmglhifmaa", sum := "d3fcf231058baaa863b6941685f40f638357229e05522ee6ebbf06bb20a6a175", checked := Try.checked }
namespace Rows
def none {H : Type} : Left H := { results := [], args := [] }

/-- 'laws.FnValueParts': WHATEVER THE INPUT: true; the input reads as it did. -/
def fnValuePartsSpec : ChangeSpec := { name := "fnValueParts", fn := fun _ => fun
  | [d] => { results := [.lit (.bool true)], args := [d] }
  | _ => none }
def fnValuePartsRow : OpenClaim := { program := "ythdnfnmglhifmaa", sum := "d3fcf231058baaa863b6941685f40f638357229e05522ee6ebbf06bb20a6a175", func := "loop.example/matchcompiler/laws.FnValueParts", spec := "fnValueParts", recurses := true, plainKeys := false, apart := false }
def FnValuePartsSaid : Prop := fnValuePartsRow.holds Try.pinned (OpenSpec.ofChange fnValuePartsSpec)

/-- ITS FALSE NEIGHBOUR: 'it returns false'. Refute it at one input. -/
def fnValuePartsWrong : ChangeSpec := { name := "fnValueParts", fn := fun _ => fun
  | [d] => { results := [.lit (.bool false)], args := [d] }
  | _ => none }
def FnValuePartsWrongFalsely : Prop := fnValuePartsRow.holds Try.pinned (OpenSpec.ofChange fnValuePartsWrong)

/-- 'laws.FnPatternVars': WHATEVER THE INPUT: true; the input reads as it did. -/
def fnPatternVarsSpec : ChangeSpec := { name := "fnPatternVars", fn := fun _ => fun
  | [d] => { results := [.lit (.bool true)], args := [d] }
  | _ => none }
def fnPatternVarsRow : OpenClaim := { program := "ythdnfnmglhifmaa", sum := "d3fcf231058baaa863b6941685f40f638357229e05522ee6ebbf06bb20a6a175", func := "loop.example/matchcompiler/laws.FnPatternVars", spec := "fnPatternVars", inPlace := ["slices.overlaps[[]loop.example/matchcompiler/impl.VarType]"], unfollowed := true, recurses := true, plainKeys := false, apart := false }
def FnPatternVarsSaid : Prop := fnPatternVarsRow.holds Try.pinned (OpenSpec.ofChange fnPatternVarsSpec)

/-- ITS FALSE NEIGHBOUR: 'it returns false'. Refute it at one input. -/
def fnPatternVarsWrong : ChangeSpec := { name := "fnPatternVars", fn := fun _ => fun
  | [d] => { results := [.lit (.bool false)], args := [d] }
  | _ => none }
def FnPatternVarsWrongFalsely : Prop := fnPatternVarsRow.holds Try.pinned (OpenSpec.ofChange fnPatternVarsWrong)

/-- 'laws.FnPatternWide': WHATEVER THE INPUT: true; the input reads as it did. -/
def fnPatternWideSpec : ChangeSpec := { name := "fnPatternWide", fn := fun _ => fun
  | [d] => { results := [.lit (.bool true)], args := [d] }
  | _ => none }
def fnPatternWideRow : OpenClaim := { program := "ythdnfnmglhifmaa", sum := "d3fcf231058baaa863b6941685f40f638357229e05522ee6ebbf06bb20a6a175", func := "loop.example/matchcompiler/laws.FnPatternWide", spec := "fnPatternWide", inPlace := ["slices.overlaps[[]loop.example/matchcompiler/impl.VarType]"], unfollowed := true, recurses := true, plainKeys := false, apart := false }
def FnPatternWideSaid : Prop := fnPatternWideRow.holds Try.pinned (OpenSpec.ofChange fnPatternWideSpec)

/-- ITS FALSE NEIGHBOUR: 'it returns false'. Refute it at one input. -/
def fnPatternWideWrong : ChangeSpec := { name := "fnPatternWide", fn := fun _ => fun
  | [d] => { results := [.lit (.bool false)], args := [d] }
  | _ => none }
def FnPatternWideWrongFalsely : Prop := fnPatternWideRow.holds Try.pinned (OpenSpec.ofChange fnPatternWideWrong)

/-- 'laws.FnGuardHolds': WHATEVER THE INPUT: true; the input reads as it did. -/
def fnGuardHoldsSpec : ChangeSpec := { name := "fnGuardHolds", fn := fun _ => fun
  | [d1, d2] => { results := [.lit (.bool true)], args := [d1, d2] }
  | _ => none }
def fnGuardHoldsRow : OpenClaim := { program := "ythdnfnmglhifmaa", sum := "d3fcf231058baaa863b6941685f40f638357229e05522ee6ebbf06bb20a6a175", func := "loop.example/matchcompiler/laws.FnGuardHolds", spec := "fnGuardHolds", unfollowed := true, recurses := true, plainKeys := false, apart := false }
def FnGuardHoldsSaid : Prop := fnGuardHoldsRow.holds Try.pinned (OpenSpec.ofChange fnGuardHoldsSpec)

/-- ITS FALSE NEIGHBOUR: 'it returns false'. Refute it at one input. -/
def fnGuardHoldsWrong : ChangeSpec := { name := "fnGuardHolds", fn := fun _ => fun
  | [d1, d2] => { results := [.lit (.bool false)], args := [d1, d2] }
  | _ => none }
def FnGuardHoldsWrongFalsely : Prop := fnGuardHoldsRow.holds Try.pinned (OpenSpec.ofChange fnGuardHoldsWrong)

/-- 'laws.FnExactValueSame': WHATEVER THE INPUT: true; the input reads as it did. -/
def fnExactValueSameSpec : ChangeSpec := { name := "fnExactValueSame", fn := fun _ => fun
  | [d1, d2] => { results := [.lit (.bool true)], args := [d1, d2] }
  | _ => none }
def fnExactValueSameRow : OpenClaim := { program := "ythdnfnmglhifmaa", sum := "d3fcf231058baaa863b6941685f40f638357229e05522ee6ebbf06bb20a6a175", func := "loop.example/matchcompiler/laws.FnExactValueSame", spec := "fnExactValueSame", recurses := true, loops := true, plainKeys := false, apart := false }
def FnExactValueSameSaid : Prop := fnExactValueSameRow.holds Try.pinned (OpenSpec.ofChange fnExactValueSameSpec)

/-- ITS FALSE NEIGHBOUR: 'it returns false'. Refute it at one input. -/
def fnExactValueSameWrong : ChangeSpec := { name := "fnExactValueSame", fn := fun _ => fun
  | [d1, d2] => { results := [.lit (.bool false)], args := [d1, d2] }
  | _ => none }
def FnExactValueSameWrongFalsely : Prop := fnExactValueSameRow.holds Try.pinned (OpenSpec.ofChange fnExactValueSameWrong)

/-- 'laws.FnExactPatternSame': WHATEVER THE INPUT: true; the input reads as it did. -/
def fnExactPatternSameSpec : ChangeSpec := { name := "fnExactPatternSame", fn := fun _ => fun
  | [d1, d2] => { results := [.lit (.bool true)], args := [d1, d2] }
  | _ => none }
def fnExactPatternSameRow : OpenClaim := { program := "ythdnfnmglhifmaa", sum := "d3fcf231058baaa863b6941685f40f638357229e05522ee6ebbf06bb20a6a175", func := "loop.example/matchcompiler/laws.FnExactPatternSame", spec := "fnExactPatternSame", unfollowed := true, recurses := true, loops := true, plainKeys := false, apart := false }
def FnExactPatternSameSaid : Prop := fnExactPatternSameRow.holds Try.pinned (OpenSpec.ofChange fnExactPatternSameSpec)

/-- ITS FALSE NEIGHBOUR: 'it returns false'. Refute it at one input. -/
def fnExactPatternSameWrong : ChangeSpec := { name := "fnExactPatternSame", fn := fun _ => fun
  | [d1, d2] => { results := [.lit (.bool false)], args := [d1, d2] }
  | _ => none }
def FnExactPatternSameWrongFalsely : Prop := fnExactPatternSameRow.holds Try.pinned (OpenSpec.ofChange fnExactPatternSameWrong)

/-- 'laws.FnExactClausesSame': WHATEVER THE INPUT: true; the input reads as it did. -/
def fnExactClausesSameSpec : ChangeSpec := { name := "fnExactClausesSame", fn := fun _ => fun
  | [d1, d2] => { results := [.lit (.bool true)], args := [d1, d2] }
  | _ => none }
def fnExactClausesSameRow : OpenClaim := { program := "ythdnfnmglhifmaa", sum := "d3fcf231058baaa863b6941685f40f638357229e05522ee6ebbf06bb20a6a175", func := "loop.example/matchcompiler/laws.FnExactClausesSame", spec := "fnExactClausesSame", unfollowed := true, recurses := true, loops := true, plainKeys := false, apart := false }
def FnExactClausesSameSaid : Prop := fnExactClausesSameRow.holds Try.pinned (OpenSpec.ofChange fnExactClausesSameSpec)

/-- ITS FALSE NEIGHBOUR: 'it returns false'. Refute it at one input. -/
def fnExactClausesSameWrong : ChangeSpec := { name := "fnExactClausesSame", fn := fun _ => fun
  | [d1, d2] => { results := [.lit (.bool false)], args := [d1, d2] }
  | _ => none }
def FnExactClausesSameWrongFalsely : Prop := fnExactClausesSameRow.holds Try.pinned (OpenSpec.ofChange fnExactClausesSameWrong)

/- THE SECOND FORM. 'bulk': how many values and letters a reading holds, each counted each time it is reached (what is shared counts as often as it is met; a slice's spare places count too). A statement '..UptoSaid' is the law's where the arguments, and the package variables that the reading takes, are together of bulk at most 1048576: NARROWER than '..Said'. Prove '..Said' where nothing that the law and all that it calls make is longer than what came in: it says more and counts as full. Else prove '..UptoSaid'. A law counts once. -/
mutual
def uptoBulk {H : Type} : DataW H → Nat
  | .lit (.string bytes) => bytes.length + 1
  | .lit _ => 1
  | .nil => 1
  | .ptr d => uptoBulk d + 1
  | .slice elems spare => uptoBulkAll elems + uptoBulkAll spare + 1
  | .agg parts => uptoBulkAll parts + 1
  | .iface _ d => uptoBulk d + 1
  | .map entries => uptoBulkEntries entries + 1
  | .held _ => 1
def uptoBulkAll {H : Type} : List (DataW H) → Nat
  | [] => 0
  | d :: r => uptoBulk d + uptoBulkAll r
def uptoBulkEntries {H : Type} : List (Lit × DataW H) → Nat
  | [] => 0
  | x :: r => uptoBulkEntry x + uptoBulkEntries r
def uptoBulkEntry {H : Type} : Lit × DataW H → Nat
  | (.string bytes, d) => bytes.length + uptoBulk d + 1
  | (_, d) => uptoBulk d + 1
 end
def uptoSmall : (H : Type) → List (DataW H) → Bool := fun _ ds => decide (uptoBulkAll ds ≤ 1048576)
def OpenSpec.upto (s : _root_.Go.ChangeSpec) : _root_.Go.OpenSpec := { _root_.Go.OpenSpec.ofChange s with cond := some uptoSmall }

/-- 'laws.FnValueParts', WHERE WHAT IT READS IS OF BULK AT MOST 1048576: true; the input reads as it did. -/
def fnValuePartsUptoRow : OpenClaim := { program := "ythdnfnmglhifmaa", sum := "d3fcf231058baaa863b6941685f40f638357229e05522ee6ebbf06bb20a6a175", func := "loop.example/matchcompiler/laws.FnValueParts", spec := "fnValueParts", recurses := true, plainKeys := false, apart := false, narrowed := true }
def FnValuePartsUptoSaid : Prop := fnValuePartsUptoRow.holds Try.pinned (OpenSpec.upto fnValuePartsSpec)

/-- 'laws.FnPatternVars', WHERE WHAT IT READS IS OF BULK AT MOST 1048576: true; the input reads as it did. -/
def fnPatternVarsUptoRow : OpenClaim := { program := "ythdnfnmglhifmaa", sum := "d3fcf231058baaa863b6941685f40f638357229e05522ee6ebbf06bb20a6a175", func := "loop.example/matchcompiler/laws.FnPatternVars", spec := "fnPatternVars", inPlace := ["slices.overlaps[[]loop.example/matchcompiler/impl.VarType]"], unfollowed := true, recurses := true, plainKeys := false, apart := false, narrowed := true }
def FnPatternVarsUptoSaid : Prop := fnPatternVarsUptoRow.holds Try.pinned (OpenSpec.upto fnPatternVarsSpec)

/-- 'laws.FnPatternWide', WHERE WHAT IT READS IS OF BULK AT MOST 1048576: true; the input reads as it did. -/
def fnPatternWideUptoRow : OpenClaim := { program := "ythdnfnmglhifmaa", sum := "d3fcf231058baaa863b6941685f40f638357229e05522ee6ebbf06bb20a6a175", func := "loop.example/matchcompiler/laws.FnPatternWide", spec := "fnPatternWide", inPlace := ["slices.overlaps[[]loop.example/matchcompiler/impl.VarType]"], unfollowed := true, recurses := true, plainKeys := false, apart := false, narrowed := true }
def FnPatternWideUptoSaid : Prop := fnPatternWideUptoRow.holds Try.pinned (OpenSpec.upto fnPatternWideSpec)

/-- 'laws.FnGuardHolds', WHERE WHAT IT READS IS OF BULK AT MOST 1048576: true; the input reads as it did. -/
def fnGuardHoldsUptoRow : OpenClaim := { program := "ythdnfnmglhifmaa", sum := "d3fcf231058baaa863b6941685f40f638357229e05522ee6ebbf06bb20a6a175", func := "loop.example/matchcompiler/laws.FnGuardHolds", spec := "fnGuardHolds", unfollowed := true, recurses := true, plainKeys := false, apart := false, narrowed := true }
def FnGuardHoldsUptoSaid : Prop := fnGuardHoldsUptoRow.holds Try.pinned (OpenSpec.upto fnGuardHoldsSpec)

/-- 'laws.FnExactValueSame', WHERE WHAT IT READS IS OF BULK AT MOST 1048576: true; the input reads as it did. -/
def fnExactValueSameUptoRow : OpenClaim := { program := "ythdnfnmglhifmaa", sum := "d3fcf231058baaa863b6941685f40f638357229e05522ee6ebbf06bb20a6a175", func := "loop.example/matchcompiler/laws.FnExactValueSame", spec := "fnExactValueSame", recurses := true, loops := true, plainKeys := false, apart := false, narrowed := true }
def FnExactValueSameUptoSaid : Prop := fnExactValueSameUptoRow.holds Try.pinned (OpenSpec.upto fnExactValueSameSpec)

/-- 'laws.FnExactPatternSame', WHERE WHAT IT READS IS OF BULK AT MOST 1048576: true; the input reads as it did. -/
def fnExactPatternSameUptoRow : OpenClaim := { program := "ythdnfnmglhifmaa", sum := "d3fcf231058baaa863b6941685f40f638357229e05522ee6ebbf06bb20a6a175", func := "loop.example/matchcompiler/laws.FnExactPatternSame", spec := "fnExactPatternSame", unfollowed := true, recurses := true, loops := true, plainKeys := false, apart := false, narrowed := true }
def FnExactPatternSameUptoSaid : Prop := fnExactPatternSameUptoRow.holds Try.pinned (OpenSpec.upto fnExactPatternSameSpec)

/-- 'laws.FnExactClausesSame', WHERE WHAT IT READS IS OF BULK AT MOST 1048576: true; the input reads as it did. -/
def fnExactClausesSameUptoRow : OpenClaim := { program := "ythdnfnmglhifmaa", sum := "d3fcf231058baaa863b6941685f40f638357229e05522ee6ebbf06bb20a6a175", func := "loop.example/matchcompiler/laws.FnExactClausesSame", spec := "fnExactClausesSame", unfollowed := true, recurses := true, loops := true, plainKeys := false, apart := false, narrowed := true }
def FnExactClausesSameUptoSaid : Prop := fnExactClausesSameUptoRow.holds Try.pinned (OpenSpec.upto fnExactClausesSameSpec)

end Rows
end Go.Proofs.Ythdnfnmglhifmaa
