/-
  NARROWER THAN 'FOR EVERY INPUT', by the rows' own cells (each row's printed sentence says how): FnExactClausesValid: loops · FnExactEmptyPattern: loops · FnExactSamplePattern: loops · FnExactMatchPattern: loops · FnExactRunClauses: loops · FnExactMeetPatterns: loops · FnExactMinusPatterns: loops · FnExactWithinPattern: loops.
  DERIVED. THE GIVEN ROWS OF THIS SEAT. 8 by the template 'for every input the law returns true; each argument reads behind the call as it read before'; 0 by the template 'total and deterministic' (their statements: YthecfkdilbfimaaGreatTotals.lean).
  GIVEN WITH THE SEED: the statements are not yours to turn. If you find one false, say at which input.
  Laid BY PROGRAM, IN A SANDBOX (cutbox-rows.mjs): the forced cells as the released guide's own fill.sh prints them over the translation 4ebee2ab22c52ad6… (all of the seat's roots in one cut). By AI agents, Wed Nov 11 2026. No macro, syntax, notation, axiom, sorry.
-/
import Derived.Test.YthecfkdilbfimaaGreatChecked
import GoSem.Claim
import GoSem.ClaimJoined
import GoSem.ClaimMapViews
import Derived.JoinedTies
import Derived.KernelRfl
namespace Go.Proofs.YthecfkdilbfimaaGreat
/- THE CELL 'sum', in the pinned program and in every row, IS THE sha256 OF THE DUMP (.gsa) THAT YthecfkdilbfimaaGreatProg.lean LOADS. Nothing in Lean hashes anything: it is a label: what it is worth is what the hold of that sum in a sandbox is worth. -/
noncomputable def Tryz.pinned : Pinned := { name := "ythecfkdilbfimaagreat", sum := "4ebee2ab22c52ad6f8646111f0a2983a4fac1879291024883e7ad8ea332f8f23", checked := Tryz.checked }
namespace Rows
def none {H : Type} : Left H := { results := [], args := [] }

/-- 'laws.FnExactClausesValid': WHATEVER THE INPUT: true; the input reads as it did. -/
def fnExactClausesValidSpec : ChangeSpec := { name := "fnExactClausesValid", fn := fun _ => fun
  | [d1, d2, d3] => { results := [.lit (.bool true)], args := [d1, d2, d3] }
  | _ => none }
def fnExactClausesValidRow : OpenClaim := { program := "ythecfkdilbfimaagreat", sum := "4ebee2ab22c52ad6f8646111f0a2983a4fac1879291024883e7ad8ea332f8f23", func := "loop.example/matchcompiler/laws.FnExactClausesValid", spec := "fnExactClausesValid", inPlace := ["slices.overlaps[[]loop.example/matchcompiler/impl.VarType]"], unfollowed := true, recurses := true, loops := true, plainKeys := false, apart := false }
def FnExactClausesValidSaid : Prop := fnExactClausesValidRow.holds Tryz.pinned (OpenSpec.ofChange fnExactClausesValidSpec)

/-- ITS FALSE NEIGHBOUR: 'it returns false'. Refute it at one input. -/
def fnExactClausesValidWrong : ChangeSpec := { name := "fnExactClausesValid", fn := fun _ => fun
  | [d1, d2, d3] => { results := [.lit (.bool false)], args := [d1, d2, d3] }
  | _ => none }
def FnExactClausesValidWrongFalsely : Prop := fnExactClausesValidRow.holds Tryz.pinned (OpenSpec.ofChange fnExactClausesValidWrong)

/-- 'laws.FnExactEmptyPattern': WHATEVER THE INPUT: true; the input reads as it did. -/
def fnExactEmptyPatternSpec : ChangeSpec := { name := "fnExactEmptyPattern", fn := fun _ => fun
  | [d1, d2, d3] => { results := [.lit (.bool true)], args := [d1, d2, d3] }
  | _ => none }
def fnExactEmptyPatternRow : OpenClaim := { program := "ythecfkdilbfimaagreat", sum := "4ebee2ab22c52ad6f8646111f0a2983a4fac1879291024883e7ad8ea332f8f23", func := "loop.example/matchcompiler/laws.FnExactEmptyPattern", spec := "fnExactEmptyPattern", inPlace := ["slices.overlaps[[]loop.example/matchcompiler/impl.VarType]"], unfollowed := true, recurses := true, loops := true, plainKeys := false, apart := false }
def FnExactEmptyPatternSaid : Prop := fnExactEmptyPatternRow.holds Tryz.pinned (OpenSpec.ofChange fnExactEmptyPatternSpec)

/-- ITS FALSE NEIGHBOUR: 'it returns false'. Refute it at one input. -/
def fnExactEmptyPatternWrong : ChangeSpec := { name := "fnExactEmptyPattern", fn := fun _ => fun
  | [d1, d2, d3] => { results := [.lit (.bool false)], args := [d1, d2, d3] }
  | _ => none }
def FnExactEmptyPatternWrongFalsely : Prop := fnExactEmptyPatternRow.holds Tryz.pinned (OpenSpec.ofChange fnExactEmptyPatternWrong)

/-- 'laws.FnExactSamplePattern': WHATEVER THE INPUT: true; the input reads as it did. -/
def fnExactSamplePatternSpec : ChangeSpec := { name := "fnExactSamplePattern", fn := fun _ => fun
  | [d1, d2, d3] => { results := [.lit (.bool true)], args := [d1, d2, d3] }
  | _ => none }
def fnExactSamplePatternRow : OpenClaim := { program := "ythecfkdilbfimaagreat", sum := "4ebee2ab22c52ad6f8646111f0a2983a4fac1879291024883e7ad8ea332f8f23", func := "loop.example/matchcompiler/laws.FnExactSamplePattern", spec := "fnExactSamplePattern", inPlace := ["slices.overlaps[[]loop.example/matchcompiler/impl.VarType]"], unfollowed := true, recurses := true, loops := true, plainKeys := false, apart := false }
def FnExactSamplePatternSaid : Prop := fnExactSamplePatternRow.holds Tryz.pinned (OpenSpec.ofChange fnExactSamplePatternSpec)

/-- ITS FALSE NEIGHBOUR: 'it returns false'. Refute it at one input. -/
def fnExactSamplePatternWrong : ChangeSpec := { name := "fnExactSamplePattern", fn := fun _ => fun
  | [d1, d2, d3] => { results := [.lit (.bool false)], args := [d1, d2, d3] }
  | _ => none }
def FnExactSamplePatternWrongFalsely : Prop := fnExactSamplePatternRow.holds Tryz.pinned (OpenSpec.ofChange fnExactSamplePatternWrong)

/-- 'laws.FnExactMatchPattern': WHATEVER THE INPUT: true; the input reads as it did. -/
def fnExactMatchPatternSpec : ChangeSpec := { name := "fnExactMatchPattern", fn := fun _ => fun
  | [d1, d2, d3, d4] => { results := [.lit (.bool true)], args := [d1, d2, d3, d4] }
  | _ => none }
def fnExactMatchPatternRow : OpenClaim := { program := "ythecfkdilbfimaagreat", sum := "4ebee2ab22c52ad6f8646111f0a2983a4fac1879291024883e7ad8ea332f8f23", func := "loop.example/matchcompiler/laws.FnExactMatchPattern", spec := "fnExactMatchPattern", inPlace := ["slices.overlaps[[]loop.example/matchcompiler/impl.VarType]"], unfollowed := true, recurses := true, loops := true, plainKeys := false, apart := false }
def FnExactMatchPatternSaid : Prop := fnExactMatchPatternRow.holds Tryz.pinned (OpenSpec.ofChange fnExactMatchPatternSpec)

/-- ITS FALSE NEIGHBOUR: 'it returns false'. Refute it at one input. -/
def fnExactMatchPatternWrong : ChangeSpec := { name := "fnExactMatchPattern", fn := fun _ => fun
  | [d1, d2, d3, d4] => { results := [.lit (.bool false)], args := [d1, d2, d3, d4] }
  | _ => none }
def FnExactMatchPatternWrongFalsely : Prop := fnExactMatchPatternRow.holds Tryz.pinned (OpenSpec.ofChange fnExactMatchPatternWrong)

/-- 'laws.FnExactRunClauses': WHATEVER THE INPUT: true; the input reads as it did. -/
def fnExactRunClausesSpec : ChangeSpec := { name := "fnExactRunClauses", fn := fun _ => fun
  | [d1, d2, d3, d4] => { results := [.lit (.bool true)], args := [d1, d2, d3, d4] }
  | _ => none }
def fnExactRunClausesRow : OpenClaim := { program := "ythecfkdilbfimaagreat", sum := "4ebee2ab22c52ad6f8646111f0a2983a4fac1879291024883e7ad8ea332f8f23", func := "loop.example/matchcompiler/laws.FnExactRunClauses", spec := "fnExactRunClauses", inPlace := ["slices.overlaps[[]loop.example/matchcompiler/impl.VarType]"], unfollowed := true, recurses := true, loops := true, plainKeys := false, apart := false }
def FnExactRunClausesSaid : Prop := fnExactRunClausesRow.holds Tryz.pinned (OpenSpec.ofChange fnExactRunClausesSpec)

/-- ITS FALSE NEIGHBOUR: 'it returns false'. Refute it at one input. -/
def fnExactRunClausesWrong : ChangeSpec := { name := "fnExactRunClauses", fn := fun _ => fun
  | [d1, d2, d3, d4] => { results := [.lit (.bool false)], args := [d1, d2, d3, d4] }
  | _ => none }
def FnExactRunClausesWrongFalsely : Prop := fnExactRunClausesRow.holds Tryz.pinned (OpenSpec.ofChange fnExactRunClausesWrong)

/-- 'laws.FnExactMeetPatterns': WHATEVER THE INPUT: true; the input reads as it did. -/
def fnExactMeetPatternsSpec : ChangeSpec := { name := "fnExactMeetPatterns", fn := fun _ => fun
  | [d1, d2, d3, d4] => { results := [.lit (.bool true)], args := [d1, d2, d3, d4] }
  | _ => none }
def fnExactMeetPatternsRow : OpenClaim := { program := "ythecfkdilbfimaagreat", sum := "4ebee2ab22c52ad6f8646111f0a2983a4fac1879291024883e7ad8ea332f8f23", func := "loop.example/matchcompiler/laws.FnExactMeetPatterns", spec := "fnExactMeetPatterns", inPlace := ["slices.overlaps[[]loop.example/matchcompiler/impl.VarType]"], unfollowed := true, recurses := true, loops := true, plainKeys := false, apart := false }
def FnExactMeetPatternsSaid : Prop := fnExactMeetPatternsRow.holds Tryz.pinned (OpenSpec.ofChange fnExactMeetPatternsSpec)

/-- ITS FALSE NEIGHBOUR: 'it returns false'. Refute it at one input. -/
def fnExactMeetPatternsWrong : ChangeSpec := { name := "fnExactMeetPatterns", fn := fun _ => fun
  | [d1, d2, d3, d4] => { results := [.lit (.bool false)], args := [d1, d2, d3, d4] }
  | _ => none }
def FnExactMeetPatternsWrongFalsely : Prop := fnExactMeetPatternsRow.holds Tryz.pinned (OpenSpec.ofChange fnExactMeetPatternsWrong)

/-- 'laws.FnExactMinusPatterns': WHATEVER THE INPUT: true; the input reads as it did. -/
def fnExactMinusPatternsSpec : ChangeSpec := { name := "fnExactMinusPatterns", fn := fun _ => fun
  | [d1, d2, d3, d4] => { results := [.lit (.bool true)], args := [d1, d2, d3, d4] }
  | _ => none }
def fnExactMinusPatternsRow : OpenClaim := { program := "ythecfkdilbfimaagreat", sum := "4ebee2ab22c52ad6f8646111f0a2983a4fac1879291024883e7ad8ea332f8f23", func := "loop.example/matchcompiler/laws.FnExactMinusPatterns", spec := "fnExactMinusPatterns", inPlace := ["slices.overlaps[[]loop.example/matchcompiler/impl.VarType]"], unfollowed := true, recurses := true, loops := true, plainKeys := false, apart := false }
def FnExactMinusPatternsSaid : Prop := fnExactMinusPatternsRow.holds Tryz.pinned (OpenSpec.ofChange fnExactMinusPatternsSpec)

/-- ITS FALSE NEIGHBOUR: 'it returns false'. Refute it at one input. -/
def fnExactMinusPatternsWrong : ChangeSpec := { name := "fnExactMinusPatterns", fn := fun _ => fun
  | [d1, d2, d3, d4] => { results := [.lit (.bool false)], args := [d1, d2, d3, d4] }
  | _ => none }
def FnExactMinusPatternsWrongFalsely : Prop := fnExactMinusPatternsRow.holds Tryz.pinned (OpenSpec.ofChange fnExactMinusPatternsWrong)

/-- 'laws.FnExactWithinPattern': WHATEVER THE INPUT: true; the input reads as it did. -/
def fnExactWithinPatternSpec : ChangeSpec := { name := "fnExactWithinPattern", fn := fun _ => fun
  | [d1, d2, d3, d4] => { results := [.lit (.bool true)], args := [d1, d2, d3, d4] }
  | _ => none }
def fnExactWithinPatternRow : OpenClaim := { program := "ythecfkdilbfimaagreat", sum := "4ebee2ab22c52ad6f8646111f0a2983a4fac1879291024883e7ad8ea332f8f23", func := "loop.example/matchcompiler/laws.FnExactWithinPattern", spec := "fnExactWithinPattern", inPlace := ["slices.overlaps[[]loop.example/matchcompiler/impl.VarType]"], unfollowed := true, recurses := true, loops := true, plainKeys := false, apart := false }
def FnExactWithinPatternSaid : Prop := fnExactWithinPatternRow.holds Tryz.pinned (OpenSpec.ofChange fnExactWithinPatternSpec)

/-- ITS FALSE NEIGHBOUR: 'it returns false'. Refute it at one input. -/
def fnExactWithinPatternWrong : ChangeSpec := { name := "fnExactWithinPattern", fn := fun _ => fun
  | [d1, d2, d3, d4] => { results := [.lit (.bool false)], args := [d1, d2, d3, d4] }
  | _ => none }
def FnExactWithinPatternWrongFalsely : Prop := fnExactWithinPatternRow.holds Tryz.pinned (OpenSpec.ofChange fnExactWithinPatternWrong)

/- THE SECOND FORM. 'bulk': how many values and letters a reading holds, each counted each time it is reached (what is shared counts as often as it is met; a slice's spare places count too). A statement '..UptoSaid' is the law's where the arguments, and the package variables that the reading takes, are together of bulk at most 1048576: NARROWER than '..Said'. Prove '..Said' where nothing that the law and all that it calls make is longer than what came in: it says more and counts as full. Else prove '..UptoSaid'. A law counts once. -/
mutual
def uptoBulk {H : Type} : DataW H → Nat
  | .lit (.string bytes) => bytes.length + 1
  | .lit _ => 1
  | .nil => 1
  | .ptr d => uptoBulk d + 1
  | .slice elems spare => uptoBulkAll elems + uptoBulkAll spare + 1
  | .agg parts => uptoBulkAll parts + 1
  | .iface _ d => uptoBulk d + 1
  | .map entries => uptoBulkEntries entries + 1
  | .held _ => 1
def uptoBulkAll {H : Type} : List (DataW H) → Nat
  | [] => 0
  | d :: r => uptoBulk d + uptoBulkAll r
def uptoBulkEntries {H : Type} : List (Lit × DataW H) → Nat
  | [] => 0
  | x :: r => uptoBulkEntry x + uptoBulkEntries r
def uptoBulkEntry {H : Type} : Lit × DataW H → Nat
  | (.string bytes, d) => bytes.length + uptoBulk d + 1
  | (_, d) => uptoBulk d + 1
 end
def uptoSmall : (H : Type) → List (DataW H) → Bool := fun _ ds => decide (uptoBulkAll ds ≤ 1048576)
def OpenSpec.upto (s : _root_.Go.ChangeSpec) : _root_.Go.OpenSpec := { _root_.Go.OpenSpec.ofChange s with cond := some uptoSmall }

/-- 'laws.FnExactClausesValid', WHERE WHAT IT READS IS OF BULK AT MOST 1048576: true; the input reads as it did. -/
def fnExactClausesValidUptoRow : OpenClaim := { program := "ythecfkdilbfimaagreat", sum := "4ebee2ab22c52ad6f8646111f0a2983a4fac1879291024883e7ad8ea332f8f23", func := "loop.example/matchcompiler/laws.FnExactClausesValid", spec := "fnExactClausesValid", inPlace := ["slices.overlaps[[]loop.example/matchcompiler/impl.VarType]"], unfollowed := true, recurses := true, loops := true, plainKeys := false, apart := false, narrowed := true }
def FnExactClausesValidUptoSaid : Prop := fnExactClausesValidUptoRow.holds Tryz.pinned (OpenSpec.upto fnExactClausesValidSpec)

/-- 'laws.FnExactEmptyPattern', WHERE WHAT IT READS IS OF BULK AT MOST 1048576: true; the input reads as it did. -/
def fnExactEmptyPatternUptoRow : OpenClaim := { program := "ythecfkdilbfimaagreat", sum := "4ebee2ab22c52ad6f8646111f0a2983a4fac1879291024883e7ad8ea332f8f23", func := "loop.example/matchcompiler/laws.FnExactEmptyPattern", spec := "fnExactEmptyPattern", inPlace := ["slices.overlaps[[]loop.example/matchcompiler/impl.VarType]"], unfollowed := true, recurses := true, loops := true, plainKeys := false, apart := false, narrowed := true }
def FnExactEmptyPatternUptoSaid : Prop := fnExactEmptyPatternUptoRow.holds Tryz.pinned (OpenSpec.upto fnExactEmptyPatternSpec)

/-- 'laws.FnExactSamplePattern', WHERE WHAT IT READS IS OF BULK AT MOST 1048576: true; the input reads as it did. -/
def fnExactSamplePatternUptoRow : OpenClaim := { program := "ythecfkdilbfimaagreat", sum := "4ebee2ab22c52ad6f8646111f0a2983a4fac1879291024883e7ad8ea332f8f23", func := "loop.example/matchcompiler/laws.FnExactSamplePattern", spec := "fnExactSamplePattern", inPlace := ["slices.overlaps[[]loop.example/matchcompiler/impl.VarType]"], unfollowed := true, recurses := true, loops := true, plainKeys := false, apart := false, narrowed := true }
def FnExactSamplePatternUptoSaid : Prop := fnExactSamplePatternUptoRow.holds Tryz.pinned (OpenSpec.upto fnExactSamplePatternSpec)

/-- 'laws.FnExactMatchPattern', WHERE WHAT IT READS IS OF BULK AT MOST 1048576: true; the input reads as it did. -/
def fnExactMatchPatternUptoRow : OpenClaim := { program := "ythecfkdilbfimaagreat", sum := "4ebee2ab22c52ad6f8646111f0a2983a4fac1879291024883e7ad8ea332f8f23", func := "loop.example/matchcompiler/laws.FnExactMatchPattern", spec := "fnExactMatchPattern", inPlace := ["slices.overlaps[[]loop.example/matchcompiler/impl.VarType]"], unfollowed := true, recurses := true, loops := true, plainKeys := false, apart := false, narrowed := true }
def FnExactMatchPatternUptoSaid : Prop := fnExactMatchPatternUptoRow.holds Tryz.pinned (OpenSpec.upto fnExactMatchPatternSpec)

/-- 'laws.FnExactRunClauses', WHERE WHAT IT READS IS OF BULK AT MOST 1048576: true; the input reads as it did. -/
def fnExactRunClausesUptoRow : OpenClaim := { program := "ythecfkdilbfimaagreat", sum := "4ebee2ab22c52ad6f8646111f0a2983a4fac1879291024883e7ad8ea332f8f23", func := "loop.example/matchcompiler/laws.FnExactRunClauses", spec := "fnExactRunClauses", inPlace := ["slices.overlaps[[]loop.example/matchcompiler/impl.VarType]"], unfollowed := true, recurses := true, loops := true, plainKeys := false, apart := false, narrowed := true }
def FnExactRunClausesUptoSaid : Prop := fnExactRunClausesUptoRow.holds Tryz.pinned (OpenSpec.upto fnExactRunClausesSpec)

/-- 'laws.FnExactMeetPatterns', WHERE WHAT IT READS IS OF BULK AT MOST 1048576: true; the input reads as it did. -/
def fnExactMeetPatternsUptoRow : OpenClaim := { program := "ythecfkdilbfimaagreat", sum := "4ebee2ab22c52ad6f8646111f0a2983a4fac1879291024883e7ad8ea332f8f23", func := "loop.example/matchcompiler/laws.FnExactMeetPatterns", spec := "fnExactMeetPatterns", inPlace := ["slices.overlaps[[]loop.example/matchcompiler/impl.VarType]"], unfollowed := true, recurses := true, loops := true, plainKeys := false, apart := false, narrowed := true }
def FnExactMeetPatternsUptoSaid : Prop := fnExactMeetPatternsUptoRow.holds Tryz.pinned (OpenSpec.upto fnExactMeetPatternsSpec)

/-- 'laws.FnExactMinusPatterns', WHERE WHAT IT READS IS OF BULK AT MOST 1048576: true; the input reads as it did. -/
def fnExactMinusPatternsUptoRow : OpenClaim := { program := "ythecfkdilbfimaagreat", sum := "4ebee2ab22c52ad6f8646111f0a2983a4fac1879291024883e7ad8ea332f8f23", func := "loop.example/matchcompiler/laws.FnExactMinusPatterns", spec := "fnExactMinusPatterns", inPlace := ["slices.overlaps[[]loop.example/matchcompiler/impl.VarType]"], unfollowed := true, recurses := true, loops := true, plainKeys := false, apart := false, narrowed := true }
def FnExactMinusPatternsUptoSaid : Prop := fnExactMinusPatternsUptoRow.holds Tryz.pinned (OpenSpec.upto fnExactMinusPatternsSpec)

/-- 'laws.FnExactWithinPattern', WHERE WHAT IT READS IS OF BULK AT MOST 1048576: true; the input reads as it did. -/
def fnExactWithinPatternUptoRow : OpenClaim := { program := "ythecfkdilbfimaagreat", sum := "4ebee2ab22c52ad6f8646111f0a2983a4fac1879291024883e7ad8ea332f8f23", func := "loop.example/matchcompiler/laws.FnExactWithinPattern", spec := "fnExactWithinPattern", inPlace := ["slices.overlaps[[]loop.example/matchcompiler/impl.VarType]"], unfollowed := true, recurses := true, loops := true, plainKeys := false, apart := false, narrowed := true }
def FnExactWithinPatternUptoSaid : Prop := fnExactWithinPatternUptoRow.holds Tryz.pinned (OpenSpec.upto fnExactWithinPatternSpec)

end Rows
end Go.Proofs.YthecfkdilbfimaaGreat
