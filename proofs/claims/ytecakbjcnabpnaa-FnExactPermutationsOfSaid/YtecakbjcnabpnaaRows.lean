/-
  No cell of these rows narrows 'for every input' (looked for: loops, veiled, ifaces, maps, wideKeys, modest, calm, conditions, laid).
  DERIVED. THE GIVEN ROWS OF THIS SEAT. 7 by the template 'for every input the law returns true; each argument reads behind the call as it read before'; 0 by the template 'total and deterministic' (their statements: YtecakbjcnabpnaaTotals.lean).
  GIVEN WITH THE SEED: the statements are not yours to turn. If you find one false, say at which input.
  Laid BY PROGRAM, IN A SANDBOX (cutbox-rows.mjs): the forced cells as the released guide's own fill.sh prints them over the translation 409eeb6fa3b1e7ec… (all of the seat's roots in one cut). By AI agents, Wed Nov 11 2026. No macro, syntax, notation, axiom, sorry.
-/
import Derived.Test.YtecakbjcnabpnaaChecked
import GoSem.Claim
import GoSem.ClaimJoined
import GoSem.ClaimMapViews
import Derived.JoinedTies
import Derived.KernelRfl
namespace Go.Proofs.Ytecakbjcnabpnaa
/- THE CELL 'sum', in the pinned program and in every row, IS THE sha256 OF THE DUMP (.gsa) THAT YtecakbjcnabpnaaProg.lean LOADS. Nothing in Lean hashes anything: it is a label: what it is worth is what the hold of that sum in a sandbox is worth. -/
noncomputable def Try.pinned : Pinned := { name := "ytecakbjcnabpnaa", sum := "409eeb6fa3b1e7ec38da037ea1abdc525cc7f0e96fc3f61ceb683da35efd1044", checked := Try.checked }
namespace Rows
def none {H : Type} : Left H := { results := [], args := [] }

/-- 'laws.FnRestrictions': WHATEVER THE INPUT: true; the input reads as it did. -/
def fnRestrictionsSpec : ChangeSpec := { name := "fnRestrictions", fn := fun _ => fun
  | [d] => { results := [.lit (.bool true)], args := [d] }
  | _ => none }
def fnRestrictionsRow : OpenClaim := { program := "ytecakbjcnabpnaa", sum := "409eeb6fa3b1e7ec38da037ea1abdc525cc7f0e96fc3f61ceb683da35efd1044", func := "loop.example/g03403/laws.FnRestrictions", spec := "fnRestrictions", unfollowed := true, recurses := true, apart := false }
def FnRestrictionsSaid : Prop := fnRestrictionsRow.holds Try.pinned (OpenSpec.ofChange fnRestrictionsSpec)

/-- ITS FALSE NEIGHBOUR: 'it returns false'. Refute it at one input. -/
def fnRestrictionsWrong : ChangeSpec := { name := "fnRestrictions", fn := fun _ => fun
  | [d] => { results := [.lit (.bool false)], args := [d] }
  | _ => none }
def FnRestrictionsWrongFalsely : Prop := fnRestrictionsRow.holds Try.pinned (OpenSpec.ofChange fnRestrictionsWrong)

/-- 'laws.FnExactCanonicalTable': WHATEVER THE INPUT: true; the input reads as it did. -/
def fnExactCanonicalTableSpec : ChangeSpec := { name := "fnExactCanonicalTable", fn := fun _ => fun
  | [d] => { results := [.lit (.bool true)], args := [d] }
  | _ => none }
def fnExactCanonicalTableRow : OpenClaim := { program := "ytecakbjcnabpnaa", sum := "409eeb6fa3b1e7ec38da037ea1abdc525cc7f0e96fc3f61ceb683da35efd1044", func := "loop.example/g03403/laws.FnExactCanonicalTable", spec := "fnExactCanonicalTable", unfollowed := true, recurses := true, apart := false }
def FnExactCanonicalTableSaid : Prop := fnExactCanonicalTableRow.holds Try.pinned (OpenSpec.ofChange fnExactCanonicalTableSpec)

/-- ITS FALSE NEIGHBOUR: 'it returns false'. Refute it at one input. -/
def fnExactCanonicalTableWrong : ChangeSpec := { name := "fnExactCanonicalTable", fn := fun _ => fun
  | [d] => { results := [.lit (.bool false)], args := [d] }
  | _ => none }
def FnExactCanonicalTableWrongFalsely : Prop := fnExactCanonicalTableRow.holds Try.pinned (OpenSpec.ofChange fnExactCanonicalTableWrong)

/-- 'laws.FnExactAreAlike': WHATEVER THE INPUT: true; the input reads as it did. -/
def fnExactAreAlikeSpec : ChangeSpec := { name := "fnExactAreAlike", fn := fun _ => fun
  | [d1, d2] => { results := [.lit (.bool true)], args := [d1, d2] }
  | _ => none }
def fnExactAreAlikeRow : OpenClaim := { program := "ytecakbjcnabpnaa", sum := "409eeb6fa3b1e7ec38da037ea1abdc525cc7f0e96fc3f61ceb683da35efd1044", func := "loop.example/g03403/laws.FnExactAreAlike", spec := "fnExactAreAlike", unfollowed := true, recurses := true, apart := false }
def FnExactAreAlikeSaid : Prop := fnExactAreAlikeRow.holds Try.pinned (OpenSpec.ofChange fnExactAreAlikeSpec)

/-- ITS FALSE NEIGHBOUR: 'it returns false'. Refute it at one input. -/
def fnExactAreAlikeWrong : ChangeSpec := { name := "fnExactAreAlike", fn := fun _ => fun
  | [d1, d2] => { results := [.lit (.bool false)], args := [d1, d2] }
  | _ => none }
def FnExactAreAlikeWrongFalsely : Prop := fnExactAreAlikeRow.holds Try.pinned (OpenSpec.ofChange fnExactAreAlikeWrong)

/-- 'laws.FnExactClassSize': WHATEVER THE INPUT: true; the input reads as it did. -/
def fnExactClassSizeSpec : ChangeSpec := { name := "fnExactClassSize", fn := fun _ => fun
  | [d] => { results := [.lit (.bool true)], args := [d] }
  | _ => none }
def fnExactClassSizeRow : OpenClaim := { program := "ytecakbjcnabpnaa", sum := "409eeb6fa3b1e7ec38da037ea1abdc525cc7f0e96fc3f61ceb683da35efd1044", func := "loop.example/g03403/laws.FnExactClassSize", spec := "fnExactClassSize", unfollowed := true, recurses := true, apart := false }
def FnExactClassSizeSaid : Prop := fnExactClassSizeRow.holds Try.pinned (OpenSpec.ofChange fnExactClassSizeSpec)

/-- ITS FALSE NEIGHBOUR: 'it returns false'. Refute it at one input. -/
def fnExactClassSizeWrong : ChangeSpec := { name := "fnExactClassSize", fn := fun _ => fun
  | [d] => { results := [.lit (.bool false)], args := [d] }
  | _ => none }
def FnExactClassSizeWrongFalsely : Prop := fnExactClassSizeRow.holds Try.pinned (OpenSpec.ofChange fnExactClassSizeWrong)

/-- 'laws.FnExactCountTableClasses': WHATEVER THE INPUT: true; the input reads as it did. -/
def fnExactCountTableClassesSpec : ChangeSpec := { name := "fnExactCountTableClasses", fn := fun _ => fun
  | [d] => { results := [.lit (.bool true)], args := [d] }
  | _ => none }
def fnExactCountTableClassesRow : OpenClaim := { program := "ytecakbjcnabpnaa", sum := "409eeb6fa3b1e7ec38da037ea1abdc525cc7f0e96fc3f61ceb683da35efd1044", func := "loop.example/g03403/laws.FnExactCountTableClasses", spec := "fnExactCountTableClasses", unfollowed := true, recurses := true, apart := false }
def FnExactCountTableClassesSaid : Prop := fnExactCountTableClassesRow.holds Try.pinned (OpenSpec.ofChange fnExactCountTableClassesSpec)

/-- ITS FALSE NEIGHBOUR: 'it returns false'. Refute it at one input. -/
def fnExactCountTableClassesWrong : ChangeSpec := { name := "fnExactCountTableClasses", fn := fun _ => fun
  | [d] => { results := [.lit (.bool false)], args := [d] }
  | _ => none }
def FnExactCountTableClassesWrongFalsely : Prop := fnExactCountTableClassesRow.holds Try.pinned (OpenSpec.ofChange fnExactCountTableClassesWrong)

/-- 'laws.FnExactPermutationsOf': WHATEVER THE INPUT: true; the input reads as it did. -/
def fnExactPermutationsOfSpec : ChangeSpec := { name := "fnExactPermutationsOf", fn := fun _ => fun
  | [d] => { results := [.lit (.bool true)], args := [d] }
  | _ => none }
def fnExactPermutationsOfRow : OpenClaim := { program := "ytecakbjcnabpnaa", sum := "409eeb6fa3b1e7ec38da037ea1abdc525cc7f0e96fc3f61ceb683da35efd1044", func := "loop.example/g03403/laws.FnExactPermutationsOf", spec := "fnExactPermutationsOf", recurses := true, apart := false }
def FnExactPermutationsOfSaid : Prop := fnExactPermutationsOfRow.holds Try.pinned (OpenSpec.ofChange fnExactPermutationsOfSpec)

/-- ITS FALSE NEIGHBOUR: 'it returns false'. Refute it at one input. -/
def fnExactPermutationsOfWrong : ChangeSpec := { name := "fnExactPermutationsOf", fn := fun _ => fun
  | [d] => { results := [.lit (.bool false)], args := [d] }
  | _ => none }
def FnExactPermutationsOfWrongFalsely : Prop := fnExactPermutationsOfRow.holds Try.pinned (OpenSpec.ofChange fnExactPermutationsOfWrong)

/-- 'laws.FnExactSymmetriesOf': WHATEVER THE INPUT: true; the input reads as it did. -/
def fnExactSymmetriesOfSpec : ChangeSpec := { name := "fnExactSymmetriesOf", fn := fun _ => fun
  | [d] => { results := [.lit (.bool true)], args := [d] }
  | _ => none }
def fnExactSymmetriesOfRow : OpenClaim := { program := "ytecakbjcnabpnaa", sum := "409eeb6fa3b1e7ec38da037ea1abdc525cc7f0e96fc3f61ceb683da35efd1044", func := "loop.example/g03403/laws.FnExactSymmetriesOf", spec := "fnExactSymmetriesOf", unfollowed := true, recurses := true, apart := false }
def FnExactSymmetriesOfSaid : Prop := fnExactSymmetriesOfRow.holds Try.pinned (OpenSpec.ofChange fnExactSymmetriesOfSpec)

/-- ITS FALSE NEIGHBOUR: 'it returns false'. Refute it at one input. -/
def fnExactSymmetriesOfWrong : ChangeSpec := { name := "fnExactSymmetriesOf", fn := fun _ => fun
  | [d] => { results := [.lit (.bool false)], args := [d] }
  | _ => none }
def FnExactSymmetriesOfWrongFalsely : Prop := fnExactSymmetriesOfRow.holds Try.pinned (OpenSpec.ofChange fnExactSymmetriesOfWrong)

/- THE SECOND FORM. 'bulk': how many values and letters a reading holds, each counted each time it is reached (what is shared counts as often as it is met; a slice's spare places count too). A statement '..UptoSaid' is the law's where the arguments, and the package variables that the reading takes, are together of bulk at most 1048576: NARROWER than '..Said'. Prove '..Said' where nothing that the law and all that it calls make is longer than what came in: it says more and counts as full. Else prove '..UptoSaid'. A law counts once. -/
mutual
def uptoBulk {H : Type} : DataW H → Nat
  | .lit (.string bytes) => bytes.length + 1
  | .lit _ => 1
  | .nil => 1
  | .ptr d => uptoBulk d + 1
  | .slice elems spare => uptoBulkAll elems + uptoBulkAll spare + 1
  | .agg parts => uptoBulkAll parts + 1
  | .iface _ d => uptoBulk d + 1
  | .map entries => uptoBulkEntries entries + 1
  | .held _ => 1
def uptoBulkAll {H : Type} : List (DataW H) → Nat
  | [] => 0
  | d :: r => uptoBulk d + uptoBulkAll r
def uptoBulkEntries {H : Type} : List (Lit × DataW H) → Nat
  | [] => 0
  | x :: r => uptoBulkEntry x + uptoBulkEntries r
def uptoBulkEntry {H : Type} : Lit × DataW H → Nat
  | (.string bytes, d) => bytes.length + uptoBulk d + 1
  | (_, d) => uptoBulk d + 1
 end
def uptoSmall : (H : Type) → List (DataW H) → Bool := fun _ ds => decide (uptoBulkAll ds ≤ 1048576)
def OpenSpec.upto (s : _root_.Go.ChangeSpec) : _root_.Go.OpenSpec := { _root_.Go.OpenSpec.ofChange s with cond := some uptoSmall }

/-- 'laws.FnRestrictions', WHERE WHAT IT READS IS OF BULK AT MOST 1048576: true; the input reads as it did. -/
def fnRestrictionsUptoRow : OpenClaim := { program := "ytecakbjcnabpnaa", sum := "409eeb6fa3b1e7ec38da037ea1abdc525cc7f0e96fc3f61ceb683da35efd1044", func := "loop.example/g03403/laws.FnRestrictions", spec := "fnRestrictions", unfollowed := true, recurses := true, apart := false, narrowed := true }
def FnRestrictionsUptoSaid : Prop := fnRestrictionsUptoRow.holds Try.pinned (OpenSpec.upto fnRestrictionsSpec)

/-- 'laws.FnExactCanonicalTable', WHERE WHAT IT READS IS OF BULK AT MOST 1048576: true; the input reads as it did. -/
def fnExactCanonicalTableUptoRow : OpenClaim := { program := "ytecakbjcnabpnaa", sum := "409eeb6fa3b1e7ec38da037ea1abdc525cc7f0e96fc3f61ceb683da35efd1044", func := "loop.example/g03403/laws.FnExactCanonicalTable", spec := "fnExactCanonicalTable", unfollowed := true, recurses := true, apart := false, narrowed := true }
def FnExactCanonicalTableUptoSaid : Prop := fnExactCanonicalTableUptoRow.holds Try.pinned (OpenSpec.upto fnExactCanonicalTableSpec)

/-- 'laws.FnExactAreAlike', WHERE WHAT IT READS IS OF BULK AT MOST 1048576: true; the input reads as it did. -/
def fnExactAreAlikeUptoRow : OpenClaim := { program := "ytecakbjcnabpnaa", sum := "409eeb6fa3b1e7ec38da037ea1abdc525cc7f0e96fc3f61ceb683da35efd1044", func := "loop.example/g03403/laws.FnExactAreAlike", spec := "fnExactAreAlike", unfollowed := true, recurses := true, apart := false, narrowed := true }
def FnExactAreAlikeUptoSaid : Prop := fnExactAreAlikeUptoRow.holds Try.pinned (OpenSpec.upto fnExactAreAlikeSpec)

/-- 'laws.FnExactClassSize', WHERE WHAT IT READS IS OF BULK AT MOST 1048576: true; the input reads as it did. -/
def fnExactClassSizeUptoRow : OpenClaim := { program := "ytecakbjcnabpnaa", sum := "409eeb6fa3b1e7ec38da037ea1abdc525cc7f0e96fc3f61ceb683da35efd1044", func := "loop.example/g03403/laws.FnExactClassSize", spec := "fnExactClassSize", unfollowed := true, recurses := true, apart := false, narrowed := true }
def FnExactClassSizeUptoSaid : Prop := fnExactClassSizeUptoRow.holds Try.pinned (OpenSpec.upto fnExactClassSizeSpec)

/-- 'laws.FnExactCountTableClasses', WHERE WHAT IT READS IS OF BULK AT MOST 1048576: true; the input reads as it did. -/
def fnExactCountTableClassesUptoRow : OpenClaim := { program := "ytecakbjcnabpnaa", sum := "409eeb6fa3b1e7ec38da037ea1abdc525cc7f0e96fc3f61ceb683da35efd1044", func := "loop.example/g03403/laws.FnExactCountTableClasses", spec := "fnExactCountTableClasses", unfollowed := true, recurses := true, apart := false, narrowed := true }
def FnExactCountTableClassesUptoSaid : Prop := fnExactCountTableClassesUptoRow.holds Try.pinned (OpenSpec.upto fnExactCountTableClassesSpec)

/-- 'laws.FnExactPermutationsOf', WHERE WHAT IT READS IS OF BULK AT MOST 1048576: true; the input reads as it did. -/
def fnExactPermutationsOfUptoRow : OpenClaim := { program := "ytecakbjcnabpnaa", sum := "409eeb6fa3b1e7ec38da037ea1abdc525cc7f0e96fc3f61ceb683da35efd1044", func := "loop.example/g03403/laws.FnExactPermutationsOf", spec := "fnExactPermutationsOf", recurses := true, apart := false, narrowed := true }
def FnExactPermutationsOfUptoSaid : Prop := fnExactPermutationsOfUptoRow.holds Try.pinned (OpenSpec.upto fnExactPermutationsOfSpec)

/-- 'laws.FnExactSymmetriesOf', WHERE WHAT IT READS IS OF BULK AT MOST 1048576: true; the input reads as it did. -/
def fnExactSymmetriesOfUptoRow : OpenClaim := { program := "ytecakbjcnabpnaa", sum := "409eeb6fa3b1e7ec38da037ea1abdc525cc7f0e96fc3f61ceb683da35efd1044", func := "loop.example/g03403/laws.FnExactSymmetriesOf", spec := "fnExactSymmetriesOf", unfollowed := true, recurses := true, apart := false, narrowed := true }
def FnExactSymmetriesOfUptoSaid : Prop := fnExactSymmetriesOfUptoRow.holds Try.pinned (OpenSpec.upto fnExactSymmetriesOfSpec)

end Rows
end Go.Proofs.Ytecakbjcnabpnaa
