/-
  NARROWER THAN 'FOR EVERY INPUT', by the rows' own cells (each row's printed sentence says how): FnExactValueValid: loops · FnExactValueSame: loops · FnExactCompareValues: loops · FnExactDepthOf: loops.
  DERIVED. THE GIVEN ROWS OF THIS SEAT. 9 by the template 'for every input the law returns true; each argument reads behind the call as it read before'; 0 by the template 'total and deterministic' (their statements: YthebdlejoficmacTotals.lean).
  GIVEN WITH THE SEED: the statements are not yours to turn. If you find one false, say at which input.
  Laid BY PROGRAM, IN A SANDBOX (cutbox-rows.mjs): the forced cells as the released guide's own fill.sh prints them over the translation 3295f99c8f1a7b67… (all of the seat's roots in one cut). By AI agents, Wed Nov 11 2026. No macro, syntax, notation, axiom, sorry.
-/
import Derived.Test.YthebdlejoficmacChecked
import GoSem.Claim
import GoSem.ClaimJoined
import GoSem.ClaimMapViews
import Derived.JoinedTies
import Derived.KernelRfl
namespace Go.Proofs.Ythebdlejoficmac
/- THE CELL 'sum', in the pinned program and in every row, IS THE sha256 OF THE DUMP (.gsa) THAT YthebdlejoficmacProg.lean LOADS. Nothing in Lean hashes anything: it is a label: what it is worth is what the hold of that sum in a sandbox is worth. -/
noncomputable def Try.pinned : Pinned := { name := "ythebdlejoficmac", sum := "3295f99c8f1a7b678abb8b55528b0b8fcf3969585e127e868a69942c551a4525", checked := Try.checked }
namespace Rows
def none {H : Type} : Left H := { results := [], args := [] }

/-- 'laws.FnExactValueValid': WHATEVER THE INPUT: true; the input reads as it did. -/
def fnExactValueValidSpec : ChangeSpec := { name := "fnExactValueValid", fn := fun _ => fun
  | [d1, d2, d3] => { results := [.lit (.bool true)], args := [d1, d2, d3] }
  | _ => none }
def fnExactValueValidRow : OpenClaim := { program := "ythebdlejoficmac", sum := "3295f99c8f1a7b678abb8b55528b0b8fcf3969585e127e868a69942c551a4525", func := "loop.example/matchcompiler/laws.FnExactValueValid", spec := "fnExactValueValid", recurses := true, loops := true, plainKeys := false, apart := false }
def FnExactValueValidSaid : Prop := fnExactValueValidRow.holds Try.pinned (OpenSpec.ofChange fnExactValueValidSpec)

/-- ITS FALSE NEIGHBOUR: 'it returns false'. Refute it at one input. -/
def fnExactValueValidWrong : ChangeSpec := { name := "fnExactValueValid", fn := fun _ => fun
  | [d1, d2, d3] => { results := [.lit (.bool false)], args := [d1, d2, d3] }
  | _ => none }
def FnExactValueValidWrongFalsely : Prop := fnExactValueValidRow.holds Try.pinned (OpenSpec.ofChange fnExactValueValidWrong)

/-- 'laws.FnExactValueSame': WHATEVER THE INPUT: true; the input reads as it did. -/
def fnExactValueSameSpec : ChangeSpec := { name := "fnExactValueSame", fn := fun _ => fun
  | [d1, d2] => { results := [.lit (.bool true)], args := [d1, d2] }
  | _ => none }
def fnExactValueSameRow : OpenClaim := { program := "ythebdlejoficmac", sum := "3295f99c8f1a7b678abb8b55528b0b8fcf3969585e127e868a69942c551a4525", func := "loop.example/matchcompiler/laws.FnExactValueSame", spec := "fnExactValueSame", recurses := true, loops := true, plainKeys := false, apart := false }
def FnExactValueSameSaid : Prop := fnExactValueSameRow.holds Try.pinned (OpenSpec.ofChange fnExactValueSameSpec)

/-- ITS FALSE NEIGHBOUR: 'it returns false'. Refute it at one input. -/
def fnExactValueSameWrong : ChangeSpec := { name := "fnExactValueSame", fn := fun _ => fun
  | [d1, d2] => { results := [.lit (.bool false)], args := [d1, d2] }
  | _ => none }
def FnExactValueSameWrongFalsely : Prop := fnExactValueSameRow.holds Try.pinned (OpenSpec.ofChange fnExactValueSameWrong)

/-- 'laws.FnExactParseValue': WHATEVER THE INPUT: true; the input reads as it did. -/
def fnExactParseValueSpec : ChangeSpec := { name := "fnExactParseValue", fn := fun _ => fun
  | [d1, d2, d3] => { results := [.lit (.bool true)], args := [d1, d2, d3] }
  | _ => none }
def fnExactParseValueRow : OpenClaim := { program := "ythebdlejoficmac", sum := "3295f99c8f1a7b678abb8b55528b0b8fcf3969585e127e868a69942c551a4525", func := "loop.example/matchcompiler/laws.FnExactParseValue", spec := "fnExactParseValue", recurses := true, plainKeys := false, apart := false }
def FnExactParseValueSaid : Prop := fnExactParseValueRow.holds Try.pinned (OpenSpec.ofChange fnExactParseValueSpec)

/-- ITS FALSE NEIGHBOUR: 'it returns false'. Refute it at one input. -/
def fnExactParseValueWrong : ChangeSpec := { name := "fnExactParseValue", fn := fun _ => fun
  | [d1, d2, d3] => { results := [.lit (.bool false)], args := [d1, d2, d3] }
  | _ => none }
def FnExactParseValueWrongFalsely : Prop := fnExactParseValueRow.holds Try.pinned (OpenSpec.ofChange fnExactParseValueWrong)

/-- 'laws.FnExactValuesUpTo': WHATEVER THE INPUT: true; the input reads as it did. -/
def fnExactValuesUpToSpec : ChangeSpec := { name := "fnExactValuesUpTo", fn := fun _ => fun
  | [d1, d2, d3] => { results := [.lit (.bool true)], args := [d1, d2, d3] }
  | _ => none }
def fnExactValuesUpToRow : OpenClaim := { program := "ythebdlejoficmac", sum := "3295f99c8f1a7b678abb8b55528b0b8fcf3969585e127e868a69942c551a4525", func := "loop.example/matchcompiler/laws.FnExactValuesUpTo", spec := "fnExactValuesUpTo", unfollowed := true, recurses := true, plainKeys := false, apart := false }
def FnExactValuesUpToSaid : Prop := fnExactValuesUpToRow.holds Try.pinned (OpenSpec.ofChange fnExactValuesUpToSpec)

/-- ITS FALSE NEIGHBOUR: 'it returns false'. Refute it at one input. -/
def fnExactValuesUpToWrong : ChangeSpec := { name := "fnExactValuesUpTo", fn := fun _ => fun
  | [d1, d2, d3] => { results := [.lit (.bool false)], args := [d1, d2, d3] }
  | _ => none }
def FnExactValuesUpToWrongFalsely : Prop := fnExactValuesUpToRow.holds Try.pinned (OpenSpec.ofChange fnExactValuesUpToWrong)

/-- 'laws.FnExactLeastValue': WHATEVER THE INPUT: true; the input reads as it did. -/
def fnExactLeastValueSpec : ChangeSpec := { name := "fnExactLeastValue", fn := fun _ => fun
  | [d1, d2] => { results := [.lit (.bool true)], args := [d1, d2] }
  | _ => none }
def fnExactLeastValueRow : OpenClaim := { program := "ythebdlejoficmac", sum := "3295f99c8f1a7b678abb8b55528b0b8fcf3969585e127e868a69942c551a4525", func := "loop.example/matchcompiler/laws.FnExactLeastValue", spec := "fnExactLeastValue", unfollowed := true, recurses := true, plainKeys := false, apart := false }
def FnExactLeastValueSaid : Prop := fnExactLeastValueRow.holds Try.pinned (OpenSpec.ofChange fnExactLeastValueSpec)

/-- ITS FALSE NEIGHBOUR: 'it returns false'. Refute it at one input. -/
def fnExactLeastValueWrong : ChangeSpec := { name := "fnExactLeastValue", fn := fun _ => fun
  | [d1, d2] => { results := [.lit (.bool false)], args := [d1, d2] }
  | _ => none }
def FnExactLeastValueWrongFalsely : Prop := fnExactLeastValueRow.holds Try.pinned (OpenSpec.ofChange fnExactLeastValueWrong)

/-- 'laws.FnExactCompareValues': WHATEVER THE INPUT: true; the input reads as it did. -/
def fnExactCompareValuesSpec : ChangeSpec := { name := "fnExactCompareValues", fn := fun _ => fun
  | [d1, d2] => { results := [.lit (.bool true)], args := [d1, d2] }
  | _ => none }
def fnExactCompareValuesRow : OpenClaim := { program := "ythebdlejoficmac", sum := "3295f99c8f1a7b678abb8b55528b0b8fcf3969585e127e868a69942c551a4525", func := "loop.example/matchcompiler/laws.FnExactCompareValues", spec := "fnExactCompareValues", recurses := true, loops := true, plainKeys := false, apart := false }
def FnExactCompareValuesSaid : Prop := fnExactCompareValuesRow.holds Try.pinned (OpenSpec.ofChange fnExactCompareValuesSpec)

/-- ITS FALSE NEIGHBOUR: 'it returns false'. Refute it at one input. -/
def fnExactCompareValuesWrong : ChangeSpec := { name := "fnExactCompareValues", fn := fun _ => fun
  | [d1, d2] => { results := [.lit (.bool false)], args := [d1, d2] }
  | _ => none }
def FnExactCompareValuesWrongFalsely : Prop := fnExactCompareValuesRow.holds Try.pinned (OpenSpec.ofChange fnExactCompareValuesWrong)

/-- 'laws.FnExactDepthOf': WHATEVER THE INPUT: true; the input reads as it did. -/
def fnExactDepthOfSpec : ChangeSpec := { name := "fnExactDepthOf", fn := fun _ => fun
  | [d] => { results := [.lit (.bool true)], args := [d] }
  | _ => none }
def fnExactDepthOfRow : OpenClaim := { program := "ythebdlejoficmac", sum := "3295f99c8f1a7b678abb8b55528b0b8fcf3969585e127e868a69942c551a4525", func := "loop.example/matchcompiler/laws.FnExactDepthOf", spec := "fnExactDepthOf", recurses := true, loops := true, plainKeys := false, apart := false }
def FnExactDepthOfSaid : Prop := fnExactDepthOfRow.holds Try.pinned (OpenSpec.ofChange fnExactDepthOfSpec)

/-- ITS FALSE NEIGHBOUR: 'it returns false'. Refute it at one input. -/
def fnExactDepthOfWrong : ChangeSpec := { name := "fnExactDepthOf", fn := fun _ => fun
  | [d] => { results := [.lit (.bool false)], args := [d] }
  | _ => none }
def FnExactDepthOfWrongFalsely : Prop := fnExactDepthOfRow.holds Try.pinned (OpenSpec.ofChange fnExactDepthOfWrong)

/-- 'laws.FnLeastValue': WHATEVER THE INPUT: true; the input reads as it did. -/
def fnLeastValueSpec : ChangeSpec := { name := "fnLeastValue", fn := fun _ => fun
  | [d] => { results := [.lit (.bool true)], args := [d] }
  | _ => none }
def fnLeastValueRow : OpenClaim := { program := "ythebdlejoficmac", sum := "3295f99c8f1a7b678abb8b55528b0b8fcf3969585e127e868a69942c551a4525", func := "loop.example/matchcompiler/laws.FnLeastValue", spec := "fnLeastValue", unfollowed := true, recurses := true, plainKeys := false, apart := false }
def FnLeastValueSaid : Prop := fnLeastValueRow.holds Try.pinned (OpenSpec.ofChange fnLeastValueSpec)

/-- ITS FALSE NEIGHBOUR: 'it returns false'. Refute it at one input. -/
def fnLeastValueWrong : ChangeSpec := { name := "fnLeastValue", fn := fun _ => fun
  | [d] => { results := [.lit (.bool false)], args := [d] }
  | _ => none }
def FnLeastValueWrongFalsely : Prop := fnLeastValueRow.holds Try.pinned (OpenSpec.ofChange fnLeastValueWrong)

/-- 'laws.FnValueFound': WHATEVER THE INPUT: true; the input reads as it did. -/
def fnValueFoundSpec : ChangeSpec := { name := "fnValueFound", fn := fun _ => fun
  | [d] => { results := [.lit (.bool true)], args := [d] }
  | _ => none }
def fnValueFoundRow : OpenClaim := { program := "ythebdlejoficmac", sum := "3295f99c8f1a7b678abb8b55528b0b8fcf3969585e127e868a69942c551a4525", func := "loop.example/matchcompiler/laws.FnValueFound", spec := "fnValueFound", unfollowed := true, recurses := true, plainKeys := false, apart := false }
def FnValueFoundSaid : Prop := fnValueFoundRow.holds Try.pinned (OpenSpec.ofChange fnValueFoundSpec)

/-- ITS FALSE NEIGHBOUR: 'it returns false'. Refute it at one input. -/
def fnValueFoundWrong : ChangeSpec := { name := "fnValueFound", fn := fun _ => fun
  | [d] => { results := [.lit (.bool false)], args := [d] }
  | _ => none }
def FnValueFoundWrongFalsely : Prop := fnValueFoundRow.holds Try.pinned (OpenSpec.ofChange fnValueFoundWrong)

/- THE SECOND FORM. 'bulk': how many values and letters a reading holds, each counted each time it is reached (what is shared counts as often as it is met; a slice's spare places count too). A statement '..UptoSaid' is the law's where the arguments, and the package variables that the reading takes, are together of bulk at most 1048576: NARROWER than '..Said'. Prove '..Said' where nothing that the law and all that it calls make is longer than what came in: it says more and counts as full. Else prove '..UptoSaid'. A law counts once. -/
mutual
def uptoBulk {H : Type} : DataW H → Nat
  | .lit (.string bytes) => bytes.length + 1
  | .lit _ => 1
  | .nil => 1
  | .ptr d => uptoBulk d + 1
  | .slice elems spare => uptoBulkAll elems + uptoBulkAll spare + 1
  | .agg parts => uptoBulkAll parts + 1
  | .iface _ d => uptoBulk d + 1
  | .map entries => uptoBulkEntries entries + 1
  | .held _ => 1
def uptoBulkAll {H : Type} : List (DataW H) → Nat
  | [] => 0
  | d :: r => uptoBulk d + uptoBulkAll r
def uptoBulkEntries {H : Type} : List (Lit × DataW H) → Nat
  | [] => 0
  | x :: r => uptoBulkEntry x + uptoBulkEntries r
def uptoBulkEntry {H : Type} : Lit × DataW H → Nat
  | (.string bytes, d) => bytes.length + uptoBulk d + 1
  | (_, d) => uptoBulk d + 1
 end
def uptoSmall : (H : Type) → List (DataW H) → Bool := fun _ ds => decide (uptoBulkAll ds ≤ 1048576)
def OpenSpec.upto (s : _root_.Go.ChangeSpec) : _root_.Go.OpenSpec := { _root_.Go.OpenSpec.ofChange s with cond := some uptoSmall }

/-- 'laws.FnExactValueValid', WHERE WHAT IT READS IS OF BULK AT MOST 1048576: true; the input reads as it did. -/
def fnExactValueValidUptoRow : OpenClaim := { program := "ythebdlejoficmac", sum := "3295f99c8f1a7b678abb8b55528b0b8fcf3969585e127e868a69942c551a4525", func := "loop.example/matchcompiler/laws.FnExactValueValid", spec := "fnExactValueValid", recurses := true, loops := true, plainKeys := false, apart := false, narrowed := true }
def FnExactValueValidUptoSaid : Prop := fnExactValueValidUptoRow.holds Try.pinned (OpenSpec.upto fnExactValueValidSpec)

/-- 'laws.FnExactValueSame', WHERE WHAT IT READS IS OF BULK AT MOST 1048576: true; the input reads as it did. -/
def fnExactValueSameUptoRow : OpenClaim := { program := "ythebdlejoficmac", sum := "3295f99c8f1a7b678abb8b55528b0b8fcf3969585e127e868a69942c551a4525", func := "loop.example/matchcompiler/laws.FnExactValueSame", spec := "fnExactValueSame", recurses := true, loops := true, plainKeys := false, apart := false, narrowed := true }
def FnExactValueSameUptoSaid : Prop := fnExactValueSameUptoRow.holds Try.pinned (OpenSpec.upto fnExactValueSameSpec)

/-- 'laws.FnExactParseValue', WHERE WHAT IT READS IS OF BULK AT MOST 1048576: true; the input reads as it did. -/
def fnExactParseValueUptoRow : OpenClaim := { program := "ythebdlejoficmac", sum := "3295f99c8f1a7b678abb8b55528b0b8fcf3969585e127e868a69942c551a4525", func := "loop.example/matchcompiler/laws.FnExactParseValue", spec := "fnExactParseValue", recurses := true, plainKeys := false, apart := false, narrowed := true }
def FnExactParseValueUptoSaid : Prop := fnExactParseValueUptoRow.holds Try.pinned (OpenSpec.upto fnExactParseValueSpec)

/-- 'laws.FnExactValuesUpTo', WHERE WHAT IT READS IS OF BULK AT MOST 1048576: true; the input reads as it did. -/
def fnExactValuesUpToUptoRow : OpenClaim := { program := "ythebdlejoficmac", sum := "3295f99c8f1a7b678abb8b55528b0b8fcf3969585e127e868a69942c551a4525", func := "loop.example/matchcompiler/laws.FnExactValuesUpTo", spec := "fnExactValuesUpTo", unfollowed := true, recurses := true, plainKeys := false, apart := false, narrowed := true }
def FnExactValuesUpToUptoSaid : Prop := fnExactValuesUpToUptoRow.holds Try.pinned (OpenSpec.upto fnExactValuesUpToSpec)

/-- 'laws.FnExactLeastValue', WHERE WHAT IT READS IS OF BULK AT MOST 1048576: true; the input reads as it did. -/
def fnExactLeastValueUptoRow : OpenClaim := { program := "ythebdlejoficmac", sum := "3295f99c8f1a7b678abb8b55528b0b8fcf3969585e127e868a69942c551a4525", func := "loop.example/matchcompiler/laws.FnExactLeastValue", spec := "fnExactLeastValue", unfollowed := true, recurses := true, plainKeys := false, apart := false, narrowed := true }
def FnExactLeastValueUptoSaid : Prop := fnExactLeastValueUptoRow.holds Try.pinned (OpenSpec.upto fnExactLeastValueSpec)

/-- 'laws.FnExactCompareValues', WHERE WHAT IT READS IS OF BULK AT MOST 1048576: true; the input reads as it did. -/
def fnExactCompareValuesUptoRow : OpenClaim := { program := "ythebdlejoficmac", sum := "3295f99c8f1a7b678abb8b55528b0b8fcf3969585e127e868a69942c551a4525", func := "loop.example/matchcompiler/laws.FnExactCompareValues", spec := "fnExactCompareValues", recurses := true, loops := true, plainKeys := false, apart := false, narrowed := true }
def FnExactCompareValuesUptoSaid : Prop := fnExactCompareValuesUptoRow.holds Try.pinned (OpenSpec.upto fnExactCompareValuesSpec)

/-- 'laws.FnExactDepthOf', WHERE WHAT IT READS IS OF BULK AT MOST 1048576: true; the input reads as it did. -/
def fnExactDepthOfUptoRow : OpenClaim := { program := "ythebdlejoficmac", sum := "3295f99c8f1a7b678abb8b55528b0b8fcf3969585e127e868a69942c551a4525", func := "loop.example/matchcompiler/laws.FnExactDepthOf", spec := "fnExactDepthOf", recurses := true, loops := true, plainKeys := false, apart := false, narrowed := true }
def FnExactDepthOfUptoSaid : Prop := fnExactDepthOfUptoRow.holds Try.pinned (OpenSpec.upto fnExactDepthOfSpec)

/-- 'laws.FnLeastValue', WHERE WHAT IT READS IS OF BULK AT MOST 1048576: true; the input reads as it did. -/
def fnLeastValueUptoRow : OpenClaim := { program := "ythebdlejoficmac", sum := "3295f99c8f1a7b678abb8b55528b0b8fcf3969585e127e868a69942c551a4525", func := "loop.example/matchcompiler/laws.FnLeastValue", spec := "fnLeastValue", unfollowed := true, recurses := true, plainKeys := false, apart := false, narrowed := true }
def FnLeastValueUptoSaid : Prop := fnLeastValueUptoRow.holds Try.pinned (OpenSpec.upto fnLeastValueSpec)

/-- 'laws.FnValueFound', WHERE WHAT IT READS IS OF BULK AT MOST 1048576: true; the input reads as it did. -/
def fnValueFoundUptoRow : OpenClaim := { program := "ythebdlejoficmac", sum := "3295f99c8f1a7b678abb8b55528b0b8fcf3969585e127e868a69942c551a4525", func := "loop.example/matchcompiler/laws.FnValueFound", spec := "fnValueFound", unfollowed := true, recurses := true, plainKeys := false, apart := false, narrowed := true }
def FnValueFoundUptoSaid : Prop := fnValueFoundUptoRow.holds Try.pinned (OpenSpec.upto fnValueFoundSpec)

end Rows
end Go.Proofs.Ythebdlejoficmac
