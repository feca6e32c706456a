/-
  NARROWER THAN 'FOR EVERY INPUT', by the rows' own cells (each row's printed sentence says how): FnExactRunClauses: loops.
  DERIVED. THE GIVEN ROWS OF THIS SEAT. 10 by the template 'for every input the law returns true; each argument reads behind the call as it read before'; 0 by the template 'total and deterministic' (their statements: YthdnfnmglhifmaaGreatTotals.lean).
  GIVEN WITH THE SEED: the statements are not yours to turn. If you find one false, say at which input.
  Laid BY PROGRAM, IN A SANDBOX (cutbox-rows.mjs): the forced cells as the released guide's own fill.sh prints them over the translation 135882e81e72c769… (all of the seat's roots in one cut). By AI agents, Wed Nov 11 2026. No macro, syntax, notation, axiom, sorry.
-/
import Derived.Test.YthdnfnmglhifmaaGreatChecked
import GoSem.Claim
import GoSem.ClaimJoined
import GoSem.ClaimMapViews
import Derived.JoinedTies
import Derived.KernelRfl
namespace Go.Proofs.YthdnfnmglhifmaaGreat
/- THE CELL 'sum', in the pinned program and in every row, IS THE sha256 OF THE DUMP (.gsa) THAT YthdnfnmglhifmaaGreatProg.lean LOADS. Nothing in Lean hashes anything: it is a label: what it is worth is what the hold of that sum in a sandbox is worth. -/
noncomputable def Tryz.pinned : Pinned := { name := "ythdnfnmglhifmaagreat", sum := "135882e81e72c7694b2d3b097aae8b89f138b461b517882136404f6bd6450fca", checked := Tryz.checked }
namespace Rows
def none {H : Type} : Left H := { results := [], args := [] }

/-- 'laws.FnMatchVars': WHATEVER THE INPUT: true; the input reads as it did. -/
def fnMatchVarsSpec : ChangeSpec := { name := "fnMatchVars", fn := fun _ => fun
  | [d] => { results := [.lit (.bool true)], args := [d] }
  | _ => none }
def fnMatchVarsRow : OpenClaim := { program := "ythdnfnmglhifmaagreat", sum := "135882e81e72c7694b2d3b097aae8b89f138b461b517882136404f6bd6450fca", func := "loop.example/matchcompiler/laws.FnMatchVars", spec := "fnMatchVars", inPlace := ["slices.overlaps[[]loop.example/matchcompiler/impl.VarType]"], unfollowed := true, recurses := true, plainKeys := false, apart := false }
def FnMatchVarsSaid : Prop := fnMatchVarsRow.holds Tryz.pinned (OpenSpec.ofChange fnMatchVarsSpec)

/-- ITS FALSE NEIGHBOUR: 'it returns false'. Refute it at one input. -/
def fnMatchVarsWrong : ChangeSpec := { name := "fnMatchVars", fn := fun _ => fun
  | [d] => { results := [.lit (.bool false)], args := [d] }
  | _ => none }
def FnMatchVarsWrongFalsely : Prop := fnMatchVarsRow.holds Tryz.pinned (OpenSpec.ofChange fnMatchVarsWrong)

/-- 'laws.FnMatchOr': WHATEVER THE INPUT: true; the input reads as it did. -/
def fnMatchOrSpec : ChangeSpec := { name := "fnMatchOr", fn := fun _ => fun
  | [d] => { results := [.lit (.bool true)], args := [d] }
  | _ => none }
def fnMatchOrRow : OpenClaim := { program := "ythdnfnmglhifmaagreat", sum := "135882e81e72c7694b2d3b097aae8b89f138b461b517882136404f6bd6450fca", func := "loop.example/matchcompiler/laws.FnMatchOr", spec := "fnMatchOr", inPlace := ["slices.overlaps[[]loop.example/matchcompiler/impl.VarType]"], unfollowed := true, recurses := true, plainKeys := false, apart := false }
def FnMatchOrSaid : Prop := fnMatchOrRow.holds Tryz.pinned (OpenSpec.ofChange fnMatchOrSpec)

/-- ITS FALSE NEIGHBOUR: 'it returns false'. Refute it at one input. -/
def fnMatchOrWrong : ChangeSpec := { name := "fnMatchOr", fn := fun _ => fun
  | [d] => { results := [.lit (.bool false)], args := [d] }
  | _ => none }
def FnMatchOrWrongFalsely : Prop := fnMatchOrRow.holds Tryz.pinned (OpenSpec.ofChange fnMatchOrWrong)

/-- 'laws.FnMatchParts': WHATEVER THE INPUT: true; the input reads as it did. -/
def fnMatchPartsSpec : ChangeSpec := { name := "fnMatchParts", fn := fun _ => fun
  | [d] => { results := [.lit (.bool true)], args := [d] }
  | _ => none }
def fnMatchPartsRow : OpenClaim := { program := "ythdnfnmglhifmaagreat", sum := "135882e81e72c7694b2d3b097aae8b89f138b461b517882136404f6bd6450fca", func := "loop.example/matchcompiler/laws.FnMatchParts", spec := "fnMatchParts", inPlace := ["slices.overlaps[[]loop.example/matchcompiler/impl.VarType]"], unfollowed := true, recurses := true, plainKeys := false, apart := false }
def FnMatchPartsSaid : Prop := fnMatchPartsRow.holds Tryz.pinned (OpenSpec.ofChange fnMatchPartsSpec)

/-- ITS FALSE NEIGHBOUR: 'it returns false'. Refute it at one input. -/
def fnMatchPartsWrong : ChangeSpec := { name := "fnMatchParts", fn := fun _ => fun
  | [d] => { results := [.lit (.bool false)], args := [d] }
  | _ => none }
def FnMatchPartsWrongFalsely : Prop := fnMatchPartsRow.holds Tryz.pinned (OpenSpec.ofChange fnMatchPartsWrong)

/-- 'laws.FnRunClauses': WHATEVER THE INPUT: true; the input reads as it did. -/
def fnRunClausesSpec : ChangeSpec := { name := "fnRunClauses", fn := fun _ => fun
  | [d] => { results := [.lit (.bool true)], args := [d] }
  | _ => none }
def fnRunClausesRow : OpenClaim := { program := "ythdnfnmglhifmaagreat", sum := "135882e81e72c7694b2d3b097aae8b89f138b461b517882136404f6bd6450fca", func := "loop.example/matchcompiler/laws.FnRunClauses", spec := "fnRunClauses", inPlace := ["slices.overlaps[[]loop.example/matchcompiler/impl.VarType]"], unfollowed := true, recurses := true, plainKeys := false, apart := false }
def FnRunClausesSaid : Prop := fnRunClausesRow.holds Tryz.pinned (OpenSpec.ofChange fnRunClausesSpec)

/-- ITS FALSE NEIGHBOUR: 'it returns false'. Refute it at one input. -/
def fnRunClausesWrong : ChangeSpec := { name := "fnRunClauses", fn := fun _ => fun
  | [d] => { results := [.lit (.bool false)], args := [d] }
  | _ => none }
def FnRunClausesWrongFalsely : Prop := fnRunClausesRow.holds Tryz.pinned (OpenSpec.ofChange fnRunClausesWrong)

/-- 'laws.FnRunPrefix': WHATEVER THE INPUT: true; the input reads as it did. -/
def fnRunPrefixSpec : ChangeSpec := { name := "fnRunPrefix", fn := fun _ => fun
  | [d1, d2] => { results := [.lit (.bool true)], args := [d1, d2] }
  | _ => none }
def fnRunPrefixRow : OpenClaim := { program := "ythdnfnmglhifmaagreat", sum := "135882e81e72c7694b2d3b097aae8b89f138b461b517882136404f6bd6450fca", func := "loop.example/matchcompiler/laws.FnRunPrefix", spec := "fnRunPrefix", inPlace := ["slices.overlaps[[]loop.example/matchcompiler/impl.VarType]"], unfollowed := true, recurses := true, plainKeys := false, apart := false }
def FnRunPrefixSaid : Prop := fnRunPrefixRow.holds Tryz.pinned (OpenSpec.ofChange fnRunPrefixSpec)

/-- ITS FALSE NEIGHBOUR: 'it returns false'. Refute it at one input. -/
def fnRunPrefixWrong : ChangeSpec := { name := "fnRunPrefix", fn := fun _ => fun
  | [d1, d2] => { results := [.lit (.bool false)], args := [d1, d2] }
  | _ => none }
def FnRunPrefixWrongFalsely : Prop := fnRunPrefixRow.holds Tryz.pinned (OpenSpec.ofChange fnRunPrefixWrong)

/-- 'laws.FnRunAny': WHATEVER THE INPUT: true; the input reads as it did. -/
def fnRunAnySpec : ChangeSpec := { name := "fnRunAny", fn := fun _ => fun
  | [d] => { results := [.lit (.bool true)], args := [d] }
  | _ => none }
def fnRunAnyRow : OpenClaim := { program := "ythdnfnmglhifmaagreat", sum := "135882e81e72c7694b2d3b097aae8b89f138b461b517882136404f6bd6450fca", func := "loop.example/matchcompiler/laws.FnRunAny", spec := "fnRunAny", inPlace := ["slices.overlaps[[]loop.example/matchcompiler/impl.VarType]"], unfollowed := true, recurses := true, plainKeys := false, apart := false }
def FnRunAnySaid : Prop := fnRunAnyRow.holds Tryz.pinned (OpenSpec.ofChange fnRunAnySpec)

/-- ITS FALSE NEIGHBOUR: 'it returns false'. Refute it at one input. -/
def fnRunAnyWrong : ChangeSpec := { name := "fnRunAny", fn := fun _ => fun
  | [d] => { results := [.lit (.bool false)], args := [d] }
  | _ => none }
def FnRunAnyWrongFalsely : Prop := fnRunAnyRow.holds Tryz.pinned (OpenSpec.ofChange fnRunAnyWrong)

/-- 'laws.FnRunFront': WHATEVER THE INPUT: true; the input reads as it did. -/
def fnRunFrontSpec : ChangeSpec := { name := "fnRunFront", fn := fun _ => fun
  | [d1, d2] => { results := [.lit (.bool true)], args := [d1, d2] }
  | _ => none }
def fnRunFrontRow : OpenClaim := { program := "ythdnfnmglhifmaagreat", sum := "135882e81e72c7694b2d3b097aae8b89f138b461b517882136404f6bd6450fca", func := "loop.example/matchcompiler/laws.FnRunFront", spec := "fnRunFront", inPlace := ["slices.overlaps[[]loop.example/matchcompiler/impl.VarType]"], unfollowed := true, recurses := true, plainKeys := false, apart := false }
def FnRunFrontSaid : Prop := fnRunFrontRow.holds Tryz.pinned (OpenSpec.ofChange fnRunFrontSpec)

/-- ITS FALSE NEIGHBOUR: 'it returns false'. Refute it at one input. -/
def fnRunFrontWrong : ChangeSpec := { name := "fnRunFront", fn := fun _ => fun
  | [d1, d2] => { results := [.lit (.bool false)], args := [d1, d2] }
  | _ => none }
def FnRunFrontWrongFalsely : Prop := fnRunFrontRow.holds Tryz.pinned (OpenSpec.ofChange fnRunFrontWrong)

/-- 'laws.FnEmptyPattern': WHATEVER THE INPUT: true; the input reads as it did. -/
def fnEmptyPatternSpec : ChangeSpec := { name := "fnEmptyPattern", fn := fun _ => fun
  | [d] => { results := [.lit (.bool true)], args := [d] }
  | _ => none }
def fnEmptyPatternRow : OpenClaim := { program := "ythdnfnmglhifmaagreat", sum := "135882e81e72c7694b2d3b097aae8b89f138b461b517882136404f6bd6450fca", func := "loop.example/matchcompiler/laws.FnEmptyPattern", spec := "fnEmptyPattern", inPlace := ["slices.overlaps[[]loop.example/matchcompiler/impl.VarType]"], unfollowed := true, recurses := true, plainKeys := false, apart := false }
def FnEmptyPatternSaid : Prop := fnEmptyPatternRow.holds Tryz.pinned (OpenSpec.ofChange fnEmptyPatternSpec)

/-- ITS FALSE NEIGHBOUR: 'it returns false'. Refute it at one input. -/
def fnEmptyPatternWrong : ChangeSpec := { name := "fnEmptyPattern", fn := fun _ => fun
  | [d] => { results := [.lit (.bool false)], args := [d] }
  | _ => none }
def FnEmptyPatternWrongFalsely : Prop := fnEmptyPatternRow.holds Tryz.pinned (OpenSpec.ofChange fnEmptyPatternWrong)

/-- 'laws.FnSamplePattern': WHATEVER THE INPUT: true; the input reads as it did. -/
def fnSamplePatternSpec : ChangeSpec := { name := "fnSamplePattern", fn := fun _ => fun
  | [d] => { results := [.lit (.bool true)], args := [d] }
  | _ => none }
def fnSamplePatternRow : OpenClaim := { program := "ythdnfnmglhifmaagreat", sum := "135882e81e72c7694b2d3b097aae8b89f138b461b517882136404f6bd6450fca", func := "loop.example/matchcompiler/laws.FnSamplePattern", spec := "fnSamplePattern", inPlace := ["slices.overlaps[[]loop.example/matchcompiler/impl.VarType]"], unfollowed := true, recurses := true, plainKeys := false, apart := false }
def FnSamplePatternSaid : Prop := fnSamplePatternRow.holds Tryz.pinned (OpenSpec.ofChange fnSamplePatternSpec)

/-- ITS FALSE NEIGHBOUR: 'it returns false'. Refute it at one input. -/
def fnSamplePatternWrong : ChangeSpec := { name := "fnSamplePattern", fn := fun _ => fun
  | [d] => { results := [.lit (.bool false)], args := [d] }
  | _ => none }
def FnSamplePatternWrongFalsely : Prop := fnSamplePatternRow.holds Tryz.pinned (OpenSpec.ofChange fnSamplePatternWrong)

/-- 'laws.FnExactRunClauses': WHATEVER THE INPUT: true; the input reads as it did. -/
def fnExactRunClausesSpec : ChangeSpec := { name := "fnExactRunClauses", fn := fun _ => fun
  | [d1, d2, d3, d4] => { results := [.lit (.bool true)], args := [d1, d2, d3, d4] }
  | _ => none }
def fnExactRunClausesRow : OpenClaim := { program := "ythdnfnmglhifmaagreat", sum := "135882e81e72c7694b2d3b097aae8b89f138b461b517882136404f6bd6450fca", func := "loop.example/matchcompiler/laws.FnExactRunClauses", spec := "fnExactRunClauses", inPlace := ["slices.overlaps[[]loop.example/matchcompiler/impl.VarType]"], unfollowed := true, recurses := true, loops := true, plainKeys := false, apart := false }
def FnExactRunClausesSaid : Prop := fnExactRunClausesRow.holds Tryz.pinned (OpenSpec.ofChange fnExactRunClausesSpec)

/-- ITS FALSE NEIGHBOUR: 'it returns false'. Refute it at one input. -/
def fnExactRunClausesWrong : ChangeSpec := { name := "fnExactRunClauses", fn := fun _ => fun
  | [d1, d2, d3, d4] => { results := [.lit (.bool false)], args := [d1, d2, d3, d4] }
  | _ => none }
def FnExactRunClausesWrongFalsely : Prop := fnExactRunClausesRow.holds Tryz.pinned (OpenSpec.ofChange fnExactRunClausesWrong)

/- THE SECOND FORM. 'bulk': how many values and letters a reading holds, each counted each time it is reached (what is shared counts as often as it is met; a slice's spare places count too). A statement '..UptoSaid' is the law's where the arguments, and the package variables that the reading takes, are together of bulk at most 1048576: NARROWER than '..Said'. Prove '..Said' where nothing that the law and all that it calls make is longer than what came in: it says more and counts as full. Else prove '..UptoSaid'. A law counts once. -/
mutual
def uptoBulk {H : Type} : DataW H → Nat
  | .lit (.string bytes) => bytes.length + 1
  | .lit _ => 1
  | .nil => 1
  | .ptr d => uptoBulk d + 1
  | .slice elems spare => uptoBulkAll elems + uptoBulkAll spare + 1
  | .agg parts => uptoBulkAll parts + 1
  | .iface _ d => uptoBulk d + 1
  | .map entries => uptoBulkEntries entries + 1
  | .held _ => 1
def uptoBulkAll {H : Type} : List (DataW H) → Nat
  | [] => 0
  | d :: r => uptoBulk d + uptoBulkAll r
def uptoBulkEntries {H : Type} : List (Lit × DataW H) → Nat
  | [] => 0
  | x :: r => uptoBulkEntry x + uptoBulkEntries r
def uptoBulkEntry {H : Type} : Lit × DataW H → Nat
  | (.string bytes, d) => bytes.length + uptoBulk d + 1
  | (_, d) => uptoBulk d + 1
 end
def uptoSmall : (H : Type) → List (DataW H) → Bool := fun _ ds => decide (uptoBulkAll ds ≤ 1048576)
def OpenSpec.upto (s : _root_.Go.ChangeSpec) : _root_.Go.OpenSpec := { _root_.Go.OpenSpec.ofChange s with cond := some uptoSmall }

/-- 'laws.FnMatchVars', WHERE WHAT IT READS IS OF BULK AT MOST 1048576: true; the input reads as it did. -/
def fnMatchVarsUptoRow : OpenClaim := { program := "ythdnfnmglhifmaagreat", sum := "135882e81e72c7694b2d3b097aae8b89f138b461b517882136404f6bd6450fca", func := "loop.example/matchcompiler/laws.FnMatchVars", spec := "fnMatchVars", inPlace := ["slices.overlaps[[]loop.example/matchcompiler/impl.VarType]"], unfollowed := true, recurses := true, plainKeys := false, apart := false, narrowed := true }
def FnMatchVarsUptoSaid : Prop := fnMatchVarsUptoRow.holds Tryz.pinned (OpenSpec.upto fnMatchVarsSpec)

/-- 'laws.FnMatchOr', WHERE WHAT IT READS IS OF BULK AT MOST 1048576: true; the input reads as it did. -/
def fnMatchOrUptoRow : OpenClaim := { program := "ythdnfnmglhifmaagreat", sum := "135882e81e72c7694b2d3b097aae8b89f138b461b517882136404f6bd6450fca", func := "loop.example/matchcompiler/laws.FnMatchOr", spec := "fnMatchOr", inPlace := ["slices.overlaps[[]loop.example/matchcompiler/impl.VarType]"], unfollowed := true, recurses := true, plainKeys := false, apart := false, narrowed := true }
def FnMatchOrUptoSaid : Prop := fnMatchOrUptoRow.holds Tryz.pinned (OpenSpec.upto fnMatchOrSpec)

/-- 'laws.FnMatchParts', WHERE WHAT IT READS IS OF BULK AT MOST 1048576: true; the input reads as it did. -/
def fnMatchPartsUptoRow : OpenClaim := { program := "ythdnfnmglhifmaagreat", sum := "135882e81e72c7694b2d3b097aae8b89f138b461b517882136404f6bd6450fca", func := "loop.example/matchcompiler/laws.FnMatchParts", spec := "fnMatchParts", inPlace := ["slices.overlaps[[]loop.example/matchcompiler/impl.VarType]"], unfollowed := true, recurses := true, plainKeys := false, apart := false, narrowed := true }
def FnMatchPartsUptoSaid : Prop := fnMatchPartsUptoRow.holds Tryz.pinned (OpenSpec.upto fnMatchPartsSpec)

/-- 'laws.FnRunClauses', WHERE WHAT IT READS IS OF BULK AT MOST 1048576: true; the input reads as it did. -/
def fnRunClausesUptoRow : OpenClaim := { program := "ythdnfnmglhifmaagreat", sum := "135882e81e72c7694b2d3b097aae8b89f138b461b517882136404f6bd6450fca", func := "loop.example/matchcompiler/laws.FnRunClauses", spec := "fnRunClauses", inPlace := ["slices.overlaps[[]loop.example/matchcompiler/impl.VarType]"], unfollowed := true, recurses := true, plainKeys := false, apart := false, narrowed := true }
def FnRunClausesUptoSaid : Prop := fnRunClausesUptoRow.holds Tryz.pinned (OpenSpec.upto fnRunClausesSpec)

/-- 'laws.FnRunPrefix', WHERE WHAT IT READS IS OF BULK AT MOST 1048576: true; the input reads as it did. -/
def fnRunPrefixUptoRow : OpenClaim := { program := "ythdnfnmglhifmaagreat", sum := "135882e81e72c7694b2d3b097aae8b89f138b461b517882136404f6bd6450fca", func := "loop.example/matchcompiler/laws.FnRunPrefix", spec := "fnRunPrefix", inPlace := ["slices.overlaps[[]loop.example/matchcompiler/impl.VarType]"], unfollowed := true, recurses := true, plainKeys := false, apart := false, narrowed := true }
def FnRunPrefixUptoSaid : Prop := fnRunPrefixUptoRow.holds Tryz.pinned (OpenSpec.upto fnRunPrefixSpec)

/-- 'laws.FnRunAny', WHERE WHAT IT READS IS OF BULK AT MOST 1048576: true; the input reads as it did. -/
def fnRunAnyUptoRow : OpenClaim := { program := "ythdnfnmglhifmaagreat", sum := "135882e81e72c7694b2d3b097aae8b89f138b461b517882136404f6bd6450fca", func := "loop.example/matchcompiler/laws.FnRunAny", spec := "fnRunAny", inPlace := ["slices.overlaps[[]loop.example/matchcompiler/impl.VarType]"], unfollowed := true, recurses := true, plainKeys := false, apart := false, narrowed := true }
def FnRunAnyUptoSaid : Prop := fnRunAnyUptoRow.holds Tryz.pinned (OpenSpec.upto fnRunAnySpec)

/-- 'laws.FnRunFront', WHERE WHAT IT READS IS OF BULK AT MOST 1048576: true; the input reads as it did. -/
def fnRunFrontUptoRow : OpenClaim := { program := "ythdnfnmglhifmaagreat", sum := "135882e81e72c7694b2d3b097aae8b89f138b461b517882136404f6bd6450fca", func := "loop.example/matchcompiler/laws.FnRunFront", spec := "fnRunFront", inPlace := ["slices.overlaps[[]loop.example/matchcompiler/impl.VarType]"], unfollowed := true, recurses := true, plainKeys := false, apart := false, narrowed := true }
def FnRunFrontUptoSaid : Prop := fnRunFrontUptoRow.holds Tryz.pinned (OpenSpec.upto fnRunFrontSpec)

/-- 'laws.FnEmptyPattern', WHERE WHAT IT READS IS OF BULK AT MOST 1048576: true; the input reads as it did. -/
def fnEmptyPatternUptoRow : OpenClaim := { program := "ythdnfnmglhifmaagreat", sum := "135882e81e72c7694b2d3b097aae8b89f138b461b517882136404f6bd6450fca", func := "loop.example/matchcompiler/laws.FnEmptyPattern", spec := "fnEmptyPattern", inPlace := ["slices.overlaps[[]loop.example/matchcompiler/impl.VarType]"], unfollowed := true, recurses := true, plainKeys := false, apart := false, narrowed := true }
def FnEmptyPatternUptoSaid : Prop := fnEmptyPatternUptoRow.holds Tryz.pinned (OpenSpec.upto fnEmptyPatternSpec)

/-- 'laws.FnSamplePattern', WHERE WHAT IT READS IS OF BULK AT MOST 1048576: true; the input reads as it did. -/
def fnSamplePatternUptoRow : OpenClaim := { program := "ythdnfnmglhifmaagreat", sum := "135882e81e72c7694b2d3b097aae8b89f138b461b517882136404f6bd6450fca", func := "loop.example/matchcompiler/laws.FnSamplePattern", spec := "fnSamplePattern", inPlace := ["slices.overlaps[[]loop.example/matchcompiler/impl.VarType]"], unfollowed := true, recurses := true, plainKeys := false, apart := false, narrowed := true }
def FnSamplePatternUptoSaid : Prop := fnSamplePatternUptoRow.holds Tryz.pinned (OpenSpec.upto fnSamplePatternSpec)

/-- 'laws.FnExactRunClauses', WHERE WHAT IT READS IS OF BULK AT MOST 1048576: true; the input reads as it did. -/
def fnExactRunClausesUptoRow : OpenClaim := { program := "ythdnfnmglhifmaagreat", sum := "135882e81e72c7694b2d3b097aae8b89f138b461b517882136404f6bd6450fca", func := "loop.example/matchcompiler/laws.FnExactRunClauses", spec := "fnExactRunClauses", inPlace := ["slices.overlaps[[]loop.example/matchcompiler/impl.VarType]"], unfollowed := true, recurses := true, loops := true, plainKeys := false, apart := false, narrowed := true }
def FnExactRunClausesUptoSaid : Prop := fnExactRunClausesUptoRow.holds Tryz.pinned (OpenSpec.upto fnExactRunClausesSpec)

end Rows
end Go.Proofs.YthdnfnmglhifmaaGreat
