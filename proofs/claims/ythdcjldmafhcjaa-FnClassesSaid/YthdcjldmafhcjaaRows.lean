/-
  No cell of these rows narrows 'for every input' (looked for: loops, veiled, ifaces, maps, wideKeys, modest, calm, conditions, laid).
  DERIVED. THE GIVEN ROWS OF THIS SEAT. 8 by the template 'for every input the law returns true; each argument reads behind the call as it read before'; 0 by the template 'total and deterministic' (their statements: YthdcjldmafhcjaaTotals.lean).
  GIVEN WITH THE SEED: the statements are not yours to turn. If you find one false, say at which input.
  Laid BY PROGRAM, IN A SANDBOX (cutbox-rows.mjs): the forced cells as the released guide's own fill.sh prints them over the translation 38fa5fb54b9c3250… (all of the seat's roots in one cut). By AI agents, Wed Nov 11 2026. No macro, syntax, notation, axiom, sorry.
-/
import Derived.Test.YthdcjldmafhcjaaChecked
import GoSem.Claim
import GoSem.ClaimJoined
import GoSem.ClaimMapViews
import Derived.JoinedTies
import Derived.KernelRfl
namespace Go.Proofs.Ythdcjldmafhcjaa
/- THE CELL 'sum', in the pinned program and in every row, IS THE sha256 OF THE DUMP (.gsa) THAT YthdcjldmafhcjaaProg.lean LOADS. Nothing in Lean hashes anything: it is a label: what it is worth is what the hold of that sum in a sandbox is worth. -/
noncomputable def Try.pinned : Pinned := { name := "ythdcjldmafhcjaa", sum := "38fa5fb54b9c3250b9dcb4966a359368242e1871ab431c7f2c4f2c5b19d34658", checked := Try.checked }
namespace Rows
def none {H : Type} : Left H := { results := [], args := [] }

/-- 'laws.FnClasses': WHATEVER THE INPUT: true; the input reads as it did. -/
def fnClassesSpec : ChangeSpec := { name := "fnClasses", fn := fun _ => fun
  | [d] => { results := [.lit (.bool true)], args := [d] }
  | _ => none }
def fnClassesRow : OpenClaim := { program := "ythdcjldmafhcjaa", sum := "38fa5fb54b9c3250b9dcb4966a359368242e1871ab431c7f2c4f2c5b19d34658", func := "loop.example/g03403/laws.FnClasses", spec := "fnClasses", unfollowed := true, recurses := true, apart := false }
def FnClassesSaid : Prop := fnClassesRow.holds Try.pinned (OpenSpec.ofChange fnClassesSpec)

/-- ITS FALSE NEIGHBOUR: 'it returns false'. Refute it at one input. -/
def fnClassesWrong : ChangeSpec := { name := "fnClasses", fn := fun _ => fun
  | [d] => { results := [.lit (.bool false)], args := [d] }
  | _ => none }
def FnClassesWrongFalsely : Prop := fnClassesRow.holds Try.pinned (OpenSpec.ofChange fnClassesWrong)

/-- 'laws.FnExactIsTree': WHATEVER THE INPUT: true; the input reads as it did. -/
def fnExactIsTreeSpec : ChangeSpec := { name := "fnExactIsTree", fn := fun _ => fun
  | [d] => { results := [.lit (.bool true)], args := [d] }
  | _ => none }
def fnExactIsTreeRow : OpenClaim := { program := "ythdcjldmafhcjaa", sum := "38fa5fb54b9c3250b9dcb4966a359368242e1871ab431c7f2c4f2c5b19d34658", func := "loop.example/g03403/laws.FnExactIsTree", spec := "fnExactIsTree", inPlace := ["internal/bytealg.IndexByteString"], recurses := true, apart := false }
def FnExactIsTreeSaid : Prop := fnExactIsTreeRow.holds Try.pinned (OpenSpec.ofChange fnExactIsTreeSpec)

/-- ITS FALSE NEIGHBOUR: 'it returns false'. Refute it at one input. -/
def fnExactIsTreeWrong : ChangeSpec := { name := "fnExactIsTree", fn := fun _ => fun
  | [d] => { results := [.lit (.bool false)], args := [d] }
  | _ => none }
def FnExactIsTreeWrongFalsely : Prop := fnExactIsTreeRow.holds Try.pinned (OpenSpec.ofChange fnExactIsTreeWrong)

/-- 'laws.FnExactTableOfTree': WHATEVER THE INPUT: true; the input reads as it did. -/
def fnExactTableOfTreeSpec : ChangeSpec := { name := "fnExactTableOfTree", fn := fun _ => fun
  | [d1, d2] => { results := [.lit (.bool true)], args := [d1, d2] }
  | _ => none }
def fnExactTableOfTreeRow : OpenClaim := { program := "ythdcjldmafhcjaa", sum := "38fa5fb54b9c3250b9dcb4966a359368242e1871ab431c7f2c4f2c5b19d34658", func := "loop.example/g03403/laws.FnExactTableOfTree", spec := "fnExactTableOfTree", inPlace := ["internal/bytealg.IndexByteString", "internal/bytealg.IndexString"], unfollowed := true, recurses := true, named := ["internal/bytealg.MaxLen"], apart := false }
def FnExactTableOfTreeSaid : Prop := fnExactTableOfTreeRow.holds Try.pinned (OpenSpec.ofChange fnExactTableOfTreeSpec)

/-- ITS FALSE NEIGHBOUR: 'it returns false'. Refute it at one input. -/
def fnExactTableOfTreeWrong : ChangeSpec := { name := "fnExactTableOfTree", fn := fun _ => fun
  | [d1, d2] => { results := [.lit (.bool false)], args := [d1, d2] }
  | _ => none }
def FnExactTableOfTreeWrongFalsely : Prop := fnExactTableOfTreeRow.holds Try.pinned (OpenSpec.ofChange fnExactTableOfTreeWrong)

/-- 'laws.FnExactDepthOfTree': WHATEVER THE INPUT: true; the input reads as it did. -/
def fnExactDepthOfTreeSpec : ChangeSpec := { name := "fnExactDepthOfTree", fn := fun _ => fun
  | [d] => { results := [.lit (.bool true)], args := [d] }
  | _ => none }
def fnExactDepthOfTreeRow : OpenClaim := { program := "ythdcjldmafhcjaa", sum := "38fa5fb54b9c3250b9dcb4966a359368242e1871ab431c7f2c4f2c5b19d34658", func := "loop.example/g03403/laws.FnExactDepthOfTree", spec := "fnExactDepthOfTree", inPlace := ["internal/bytealg.IndexByteString"], recurses := true, apart := false }
def FnExactDepthOfTreeSaid : Prop := fnExactDepthOfTreeRow.holds Try.pinned (OpenSpec.ofChange fnExactDepthOfTreeSpec)

/-- ITS FALSE NEIGHBOUR: 'it returns false'. Refute it at one input. -/
def fnExactDepthOfTreeWrong : ChangeSpec := { name := "fnExactDepthOfTree", fn := fun _ => fun
  | [d] => { results := [.lit (.bool false)], args := [d] }
  | _ => none }
def FnExactDepthOfTreeWrongFalsely : Prop := fnExactDepthOfTreeRow.holds Try.pinned (OpenSpec.ofChange fnExactDepthOfTreeWrong)

/-- 'laws.FnExactLeastDepth': WHATEVER THE INPUT: true; the input reads as it did. -/
def fnExactLeastDepthSpec : ChangeSpec := { name := "fnExactLeastDepth", fn := fun _ => fun
  | [d] => { results := [.lit (.bool true)], args := [d] }
  | _ => none }
def fnExactLeastDepthRow : OpenClaim := { program := "ythdcjldmafhcjaa", sum := "38fa5fb54b9c3250b9dcb4966a359368242e1871ab431c7f2c4f2c5b19d34658", func := "loop.example/g03403/laws.FnExactLeastDepth", spec := "fnExactLeastDepth", unfollowed := true, recurses := true, apart := false }
def FnExactLeastDepthSaid : Prop := fnExactLeastDepthRow.holds Try.pinned (OpenSpec.ofChange fnExactLeastDepthSpec)

/-- ITS FALSE NEIGHBOUR: 'it returns false'. Refute it at one input. -/
def fnExactLeastDepthWrong : ChangeSpec := { name := "fnExactLeastDepth", fn := fun _ => fun
  | [d] => { results := [.lit (.bool false)], args := [d] }
  | _ => none }
def FnExactLeastDepthWrongFalsely : Prop := fnExactLeastDepthRow.holds Try.pinned (OpenSpec.ofChange fnExactLeastDepthWrong)

/-- 'laws.FnExactQueriesOf': WHATEVER THE INPUT: true; the input reads as it did. -/
def fnExactQueriesOfSpec : ChangeSpec := { name := "fnExactQueriesOf", fn := fun _ => fun
  | [d1, d2] => { results := [.lit (.bool true)], args := [d1, d2] }
  | _ => none }
def fnExactQueriesOfRow : OpenClaim := { program := "ythdcjldmafhcjaa", sum := "38fa5fb54b9c3250b9dcb4966a359368242e1871ab431c7f2c4f2c5b19d34658", func := "loop.example/g03403/laws.FnExactQueriesOf", spec := "fnExactQueriesOf", inPlace := ["internal/bytealg.IndexByteString"], recurses := true, apart := false }
def FnExactQueriesOfSaid : Prop := fnExactQueriesOfRow.holds Try.pinned (OpenSpec.ofChange fnExactQueriesOfSpec)

/-- ITS FALSE NEIGHBOUR: 'it returns false'. Refute it at one input. -/
def fnExactQueriesOfWrong : ChangeSpec := { name := "fnExactQueriesOf", fn := fun _ => fun
  | [d1, d2] => { results := [.lit (.bool false)], args := [d1, d2] }
  | _ => none }
def FnExactQueriesOfWrongFalsely : Prop := fnExactQueriesOfRow.holds Try.pinned (OpenSpec.ofChange fnExactQueriesOfWrong)

/-- 'laws.FnExactAverageOf': WHATEVER THE INPUT: true; the input reads as it did. -/
def fnExactAverageOfSpec : ChangeSpec := { name := "fnExactAverageOf", fn := fun _ => fun
  | [d1, d2] => { results := [.lit (.bool true)], args := [d1, d2] }
  | _ => none }
def fnExactAverageOfRow : OpenClaim := { program := "ythdcjldmafhcjaa", sum := "38fa5fb54b9c3250b9dcb4966a359368242e1871ab431c7f2c4f2c5b19d34658", func := "loop.example/g03403/laws.FnExactAverageOf", spec := "fnExactAverageOf", inPlace := ["internal/bytealg.IndexByteString", "internal/bytealg.IndexString"], unfollowed := true, recurses := true, named := ["internal/bytealg.MaxLen"], apart := false }
def FnExactAverageOfSaid : Prop := fnExactAverageOfRow.holds Try.pinned (OpenSpec.ofChange fnExactAverageOfSpec)

/-- ITS FALSE NEIGHBOUR: 'it returns false'. Refute it at one input. -/
def fnExactAverageOfWrong : ChangeSpec := { name := "fnExactAverageOf", fn := fun _ => fun
  | [d1, d2] => { results := [.lit (.bool false)], args := [d1, d2] }
  | _ => none }
def FnExactAverageOfWrongFalsely : Prop := fnExactAverageOfRow.holds Try.pinned (OpenSpec.ofChange fnExactAverageOfWrong)

/-- 'laws.FnExactLeastAverage': WHATEVER THE INPUT: true; the input reads as it did. -/
def fnExactLeastAverageSpec : ChangeSpec := { name := "fnExactLeastAverage", fn := fun _ => fun
  | [d] => { results := [.lit (.bool true)], args := [d] }
  | _ => none }
def fnExactLeastAverageRow : OpenClaim := { program := "ythdcjldmafhcjaa", sum := "38fa5fb54b9c3250b9dcb4966a359368242e1871ab431c7f2c4f2c5b19d34658", func := "loop.example/g03403/laws.FnExactLeastAverage", spec := "fnExactLeastAverage", unfollowed := true, recurses := true, apart := false }
def FnExactLeastAverageSaid : Prop := fnExactLeastAverageRow.holds Try.pinned (OpenSpec.ofChange fnExactLeastAverageSpec)

/-- ITS FALSE NEIGHBOUR: 'it returns false'. Refute it at one input. -/
def fnExactLeastAverageWrong : ChangeSpec := { name := "fnExactLeastAverage", fn := fun _ => fun
  | [d] => { results := [.lit (.bool false)], args := [d] }
  | _ => none }
def FnExactLeastAverageWrongFalsely : Prop := fnExactLeastAverageRow.holds Try.pinned (OpenSpec.ofChange fnExactLeastAverageWrong)

/- THE SECOND FORM. 'bulk': how many values and letters a reading holds, each counted each time it is reached (what is shared counts as often as it is met; a slice's spare places count too). A statement '..UptoSaid' is the law's where the arguments, and the package variables that the reading takes, are together of bulk at most 1048576: NARROWER than '..Said'. Prove '..Said' where nothing that the law and all that it calls make is longer than what came in: it says more and counts as full. Else prove '..UptoSaid'. A law counts once. -/
mutual
def uptoBulk {H : Type} : DataW H → Nat
  | .lit (.string bytes) => bytes.length + 1
  | .lit _ => 1
  | .nil => 1
  | .ptr d => uptoBulk d + 1
  | .slice elems spare => uptoBulkAll elems + uptoBulkAll spare + 1
  | .agg parts => uptoBulkAll parts + 1
  | .iface _ d => uptoBulk d + 1
  | .map entries => uptoBulkEntries entries + 1
  | .held _ => 1
def uptoBulkAll {H : Type} : List (DataW H) → Nat
  | [] => 0
  | d :: r => uptoBulk d + uptoBulkAll r
def uptoBulkEntries {H : Type} : List (Lit × DataW H) → Nat
  | [] => 0
  | x :: r => uptoBulkEntry x + uptoBulkEntries r
def uptoBulkEntry {H : Type} : Lit × DataW H → Nat
  | (.string bytes, d) => bytes.length + uptoBulk d + 1
  | (_, d) => uptoBulk d + 1
 end
def uptoSmall : (H : Type) → List (DataW H) → Bool := fun _ ds => decide (uptoBulkAll ds ≤ 1048576)
def OpenSpec.upto (s : _root_.Go.ChangeSpec) : _root_.Go.OpenSpec := { _root_.Go.OpenSpec.ofChange s with cond := some uptoSmall }

/-- 'laws.FnClasses', WHERE WHAT IT READS IS OF BULK AT MOST 1048576: true; the input reads as it did. -/
def fnClassesUptoRow : OpenClaim := { program := "ythdcjldmafhcjaa", sum := "38fa5fb54b9c3250b9dcb4966a359368242e1871ab431c7f2c4f2c5b19d34658", func := "loop.example/g03403/laws.FnClasses", spec := "fnClasses", unfollowed := true, recurses := true, apart := false, narrowed := true }
def FnClassesUptoSaid : Prop := fnClassesUptoRow.holds Try.pinned (OpenSpec.upto fnClassesSpec)

/-- 'laws.FnExactIsTree', WHERE WHAT IT READS IS OF BULK AT MOST 1048576: true; the input reads as it did. -/
def fnExactIsTreeUptoRow : OpenClaim := { program := "ythdcjldmafhcjaa", sum := "38fa5fb54b9c3250b9dcb4966a359368242e1871ab431c7f2c4f2c5b19d34658", func := "loop.example/g03403/laws.FnExactIsTree", spec := "fnExactIsTree", inPlace := ["internal/bytealg.IndexByteString"], recurses := true, apart := false, narrowed := true }
def FnExactIsTreeUptoSaid : Prop := fnExactIsTreeUptoRow.holds Try.pinned (OpenSpec.upto fnExactIsTreeSpec)

/-- 'laws.FnExactTableOfTree', WHERE WHAT IT READS IS OF BULK AT MOST 1048576: true; the input reads as it did. -/
def fnExactTableOfTreeUptoRow : OpenClaim := { program := "ythdcjldmafhcjaa", sum := "38fa5fb54b9c3250b9dcb4966a359368242e1871ab431c7f2c4f2c5b19d34658", func := "loop.example/g03403/laws.FnExactTableOfTree", spec := "fnExactTableOfTree", inPlace := ["internal/bytealg.IndexByteString", "internal/bytealg.IndexString"], unfollowed := true, recurses := true, named := ["internal/bytealg.MaxLen"], apart := false, narrowed := true }
def FnExactTableOfTreeUptoSaid : Prop := fnExactTableOfTreeUptoRow.holds Try.pinned (OpenSpec.upto fnExactTableOfTreeSpec)

/-- 'laws.FnExactDepthOfTree', WHERE WHAT IT READS IS OF BULK AT MOST 1048576: true; the input reads as it did. -/
def fnExactDepthOfTreeUptoRow : OpenClaim := { program := "ythdcjldmafhcjaa", sum := "38fa5fb54b9c3250b9dcb4966a359368242e1871ab431c7f2c4f2c5b19d34658", func := "loop.example/g03403/laws.FnExactDepthOfTree", spec := "fnExactDepthOfTree", inPlace := ["internal/bytealg.IndexByteString"], recurses := true, apart := false, narrowed := true }
def FnExactDepthOfTreeUptoSaid : Prop := fnExactDepthOfTreeUptoRow.holds Try.pinned (OpenSpec.upto fnExactDepthOfTreeSpec)

/-- 'laws.FnExactLeastDepth', WHERE WHAT IT READS IS OF BULK AT MOST 1048576: true; the input reads as it did. -/
def fnExactLeastDepthUptoRow : OpenClaim := { program := "ythdcjldmafhcjaa", sum := "38fa5fb54b9c3250b9dcb4966a359368242e1871ab431c7f2c4f2c5b19d34658", func := "loop.example/g03403/laws.FnExactLeastDepth", spec := "fnExactLeastDepth", unfollowed := true, recurses := true, apart := false, narrowed := true }
def FnExactLeastDepthUptoSaid : Prop := fnExactLeastDepthUptoRow.holds Try.pinned (OpenSpec.upto fnExactLeastDepthSpec)

/-- 'laws.FnExactQueriesOf', WHERE WHAT IT READS IS OF BULK AT MOST 1048576: true; the input reads as it did. -/
def fnExactQueriesOfUptoRow : OpenClaim := { program := "ythdcjldmafhcjaa", sum := "38fa5fb54b9c3250b9dcb4966a359368242e1871ab431c7f2c4f2c5b19d34658", func := "loop.example/g03403/laws.FnExactQueriesOf", spec := "fnExactQueriesOf", inPlace := ["internal/bytealg.IndexByteString"], recurses := true, apart := false, narrowed := true }
def FnExactQueriesOfUptoSaid : Prop := fnExactQueriesOfUptoRow.holds Try.pinned (OpenSpec.upto fnExactQueriesOfSpec)

/-- 'laws.FnExactAverageOf', WHERE WHAT IT READS IS OF BULK AT MOST 1048576: true; the input reads as it did. -/
def fnExactAverageOfUptoRow : OpenClaim := { program := "ythdcjldmafhcjaa", sum := "38fa5fb54b9c3250b9dcb4966a359368242e1871ab431c7f2c4f2c5b19d34658", func := "loop.example/g03403/laws.FnExactAverageOf", spec := "fnExactAverageOf", inPlace := ["internal/bytealg.IndexByteString", "internal/bytealg.IndexString"], unfollowed := true, recurses := true, named := ["internal/bytealg.MaxLen"], apart := false, narrowed := true }
def FnExactAverageOfUptoSaid : Prop := fnExactAverageOfUptoRow.holds Try.pinned (OpenSpec.upto fnExactAverageOfSpec)

/-- 'laws.FnExactLeastAverage', WHERE WHAT IT READS IS OF BULK AT MOST 1048576: true; the input reads as it did. -/
def fnExactLeastAverageUptoRow : OpenClaim := { program := "ythdcjldmafhcjaa", sum := "38fa5fb54b9c3250b9dcb4966a359368242e1871ab431c7f2c4f2c5b19d34658", func := "loop.example/g03403/laws.FnExactLeastAverage", spec := "fnExactLeastAverage", unfollowed := true, recurses := true, apart := false, narrowed := true }
def FnExactLeastAverageUptoSaid : Prop := fnExactLeastAverageUptoRow.holds Try.pinned (OpenSpec.upto fnExactLeastAverageSpec)

end Rows
end Go.Proofs.Ythdcjldmafhcjaa
