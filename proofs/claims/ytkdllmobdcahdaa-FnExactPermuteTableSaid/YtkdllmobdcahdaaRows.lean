/-
  No cell of these rows narrows 'for every input' (looked for: loops, veiled, ifaces, maps, wideKeys, modest, calm, conditions, laid).
  DERIVED. THE GIVEN ROWS OF THIS SEAT. 10 by the template 'for every input the law returns true; each argument reads behind the call as it read before'; 0 by the template 'total and deterministic' (their statements: YtkdllmobdcahdaaTotals.lean).
  GIVEN WITH THE SEED: the statements are not yours to turn. If you find one false, say at which input.
  Laid BY PROGRAM, IN A SANDBOX (cutbox-rows.mjs): the forced cells as the released guide's own fill.sh prints them over the translation d9ea802f2276469d… (all of the seat's roots in one cut). By AI agents, Wed Nov 11 2026. No macro, syntax, notation, axiom, sorry.
-/
import Derived.Test.YtkdllmobdcahdaaChecked
import GoSem.Claim
import GoSem.ClaimJoined
import GoSem.ClaimMapViews
import Derived.JoinedTies
import Derived.KernelRfl
namespace Go.Proofs.Ytkdllmobdcahdaa
/- THE CELL 'sum', in the pinned program and in every row, IS THE sha256 OF THE DUMP (.gsa) THAT YtkdllmobdcahdaaProg.lean LOADS. Nothing in Lean hashes anything: it is a label: what it is worth is what the hold of that sum in a sandbox is worth. -/
noncomputable def Try.pinned : Pinned := { name := "ytkdllmobdcahdaa", sum := "d9ea802f2276469dc7e7c06f7f23768e548fc322334d9770a6d28cb25cf04970", checked := Try.checked }
namespace Rows
def none {H : Type} : Left H := { results := [], args := [] }

/-- 'laws.FnRestrictions': WHATEVER THE INPUT: true; the input reads as it did. -/
def fnRestrictionsSpec : ChangeSpec := { name := "fnRestrictions", fn := fun _ => fun
  | [d] => { results := [.lit (.bool true)], args := [d] }
  | _ => none }
def fnRestrictionsRow : OpenClaim := { program := "ytkdllmobdcahdaa", sum := "d9ea802f2276469dc7e7c06f7f23768e548fc322334d9770a6d28cb25cf04970", func := "loop.example/g03403/laws.FnRestrictions", spec := "fnRestrictions", unfollowed := true, recurses := true, apart := false }
def FnRestrictionsSaid : Prop := fnRestrictionsRow.holds Try.pinned (OpenSpec.ofChange fnRestrictionsSpec)

/-- ITS FALSE NEIGHBOUR: 'it returns false'. Refute it at one input. -/
def fnRestrictionsWrong : ChangeSpec := { name := "fnRestrictions", fn := fun _ => fun
  | [d] => { results := [.lit (.bool false)], args := [d] }
  | _ => none }
def FnRestrictionsWrongFalsely : Prop := fnRestrictionsRow.holds Try.pinned (OpenSpec.ofChange fnRestrictionsWrong)

/-- 'laws.FnExactVariableTable': WHATEVER THE INPUT: true; the input reads as it did. -/
def fnExactVariableTableSpec : ChangeSpec := { name := "fnExactVariableTable", fn := fun _ => fun
  | [d1, d2] => { results := [.lit (.bool true)], args := [d1, d2] }
  | _ => none }
def fnExactVariableTableRow : OpenClaim := { program := "ytkdllmobdcahdaa", sum := "d9ea802f2276469dc7e7c06f7f23768e548fc322334d9770a6d28cb25cf04970", func := "loop.example/g03403/laws.FnExactVariableTable", spec := "fnExactVariableTable", unfollowed := true, recurses := true, apart := false }
def FnExactVariableTableSaid : Prop := fnExactVariableTableRow.holds Try.pinned (OpenSpec.ofChange fnExactVariableTableSpec)

/-- ITS FALSE NEIGHBOUR: 'it returns false'. Refute it at one input. -/
def fnExactVariableTableWrong : ChangeSpec := { name := "fnExactVariableTable", fn := fun _ => fun
  | [d1, d2] => { results := [.lit (.bool false)], args := [d1, d2] }
  | _ => none }
def FnExactVariableTableWrongFalsely : Prop := fnExactVariableTableRow.holds Try.pinned (OpenSpec.ofChange fnExactVariableTableWrong)

/-- 'laws.FnExactRestrictTable': WHATEVER THE INPUT: true; the input reads as it did. -/
def fnExactRestrictTableSpec : ChangeSpec := { name := "fnExactRestrictTable", fn := fun _ => fun
  | [d1, d2, d3] => { results := [.lit (.bool true)], args := [d1, d2, d3] }
  | _ => none }
def fnExactRestrictTableRow : OpenClaim := { program := "ytkdllmobdcahdaa", sum := "d9ea802f2276469dc7e7c06f7f23768e548fc322334d9770a6d28cb25cf04970", func := "loop.example/g03403/laws.FnExactRestrictTable", spec := "fnExactRestrictTable", unfollowed := true, recurses := true, apart := false }
def FnExactRestrictTableSaid : Prop := fnExactRestrictTableRow.holds Try.pinned (OpenSpec.ofChange fnExactRestrictTableSpec)

/-- ITS FALSE NEIGHBOUR: 'it returns false'. Refute it at one input. -/
def fnExactRestrictTableWrong : ChangeSpec := { name := "fnExactRestrictTable", fn := fun _ => fun
  | [d1, d2, d3] => { results := [.lit (.bool false)], args := [d1, d2, d3] }
  | _ => none }
def FnExactRestrictTableWrongFalsely : Prop := fnExactRestrictTableRow.holds Try.pinned (OpenSpec.ofChange fnExactRestrictTableWrong)

/-- 'laws.FnExactJoinTables': WHATEVER THE INPUT: true; the input reads as it did. -/
def fnExactJoinTablesSpec : ChangeSpec := { name := "fnExactJoinTables", fn := fun _ => fun
  | [d1, d2, d3] => { results := [.lit (.bool true)], args := [d1, d2, d3] }
  | _ => none }
def fnExactJoinTablesRow : OpenClaim := { program := "ytkdllmobdcahdaa", sum := "d9ea802f2276469dc7e7c06f7f23768e548fc322334d9770a6d28cb25cf04970", func := "loop.example/g03403/laws.FnExactJoinTables", spec := "fnExactJoinTables", unfollowed := true, recurses := true, apart := false }
def FnExactJoinTablesSaid : Prop := fnExactJoinTablesRow.holds Try.pinned (OpenSpec.ofChange fnExactJoinTablesSpec)

/-- ITS FALSE NEIGHBOUR: 'it returns false'. Refute it at one input. -/
def fnExactJoinTablesWrong : ChangeSpec := { name := "fnExactJoinTables", fn := fun _ => fun
  | [d1, d2, d3] => { results := [.lit (.bool false)], args := [d1, d2, d3] }
  | _ => none }
def FnExactJoinTablesWrongFalsely : Prop := fnExactJoinTablesRow.holds Try.pinned (OpenSpec.ofChange fnExactJoinTablesWrong)

/-- 'laws.FnExactDependsOn': WHATEVER THE INPUT: true; the input reads as it did. -/
def fnExactDependsOnSpec : ChangeSpec := { name := "fnExactDependsOn", fn := fun _ => fun
  | [d1, d2] => { results := [.lit (.bool true)], args := [d1, d2] }
  | _ => none }
def fnExactDependsOnRow : OpenClaim := { program := "ytkdllmobdcahdaa", sum := "d9ea802f2276469dc7e7c06f7f23768e548fc322334d9770a6d28cb25cf04970", func := "loop.example/g03403/laws.FnExactDependsOn", spec := "fnExactDependsOn", unfollowed := true, recurses := true, apart := false }
def FnExactDependsOnSaid : Prop := fnExactDependsOnRow.holds Try.pinned (OpenSpec.ofChange fnExactDependsOnSpec)

/-- ITS FALSE NEIGHBOUR: 'it returns false'. Refute it at one input. -/
def fnExactDependsOnWrong : ChangeSpec := { name := "fnExactDependsOn", fn := fun _ => fun
  | [d1, d2] => { results := [.lit (.bool false)], args := [d1, d2] }
  | _ => none }
def FnExactDependsOnWrongFalsely : Prop := fnExactDependsOnRow.holds Try.pinned (OpenSpec.ofChange fnExactDependsOnWrong)

/-- 'laws.FnExactVariablesOf': WHATEVER THE INPUT: true; the input reads as it did. -/
def fnExactVariablesOfSpec : ChangeSpec := { name := "fnExactVariablesOf", fn := fun _ => fun
  | [d] => { results := [.lit (.bool true)], args := [d] }
  | _ => none }
def fnExactVariablesOfRow : OpenClaim := { program := "ytkdllmobdcahdaa", sum := "d9ea802f2276469dc7e7c06f7f23768e548fc322334d9770a6d28cb25cf04970", func := "loop.example/g03403/laws.FnExactVariablesOf", spec := "fnExactVariablesOf", unfollowed := true, recurses := true, apart := false }
def FnExactVariablesOfSaid : Prop := fnExactVariablesOfRow.holds Try.pinned (OpenSpec.ofChange fnExactVariablesOfSpec)

/-- ITS FALSE NEIGHBOUR: 'it returns false'. Refute it at one input. -/
def fnExactVariablesOfWrong : ChangeSpec := { name := "fnExactVariablesOf", fn := fun _ => fun
  | [d] => { results := [.lit (.bool false)], args := [d] }
  | _ => none }
def FnExactVariablesOfWrongFalsely : Prop := fnExactVariablesOfRow.holds Try.pinned (OpenSpec.ofChange fnExactVariablesOfWrong)

/-- 'laws.FnExactPermuteTable': WHATEVER THE INPUT: true; the input reads as it did. -/
def fnExactPermuteTableSpec : ChangeSpec := { name := "fnExactPermuteTable", fn := fun _ => fun
  | [d1, d2] => { results := [.lit (.bool true)], args := [d1, d2] }
  | _ => none }
def fnExactPermuteTableRow : OpenClaim := { program := "ytkdllmobdcahdaa", sum := "d9ea802f2276469dc7e7c06f7f23768e548fc322334d9770a6d28cb25cf04970", func := "loop.example/g03403/laws.FnExactPermuteTable", spec := "fnExactPermuteTable", unfollowed := true, recurses := true, apart := false }
def FnExactPermuteTableSaid : Prop := fnExactPermuteTableRow.holds Try.pinned (OpenSpec.ofChange fnExactPermuteTableSpec)

/-- ITS FALSE NEIGHBOUR: 'it returns false'. Refute it at one input. -/
def fnExactPermuteTableWrong : ChangeSpec := { name := "fnExactPermuteTable", fn := fun _ => fun
  | [d1, d2] => { results := [.lit (.bool false)], args := [d1, d2] }
  | _ => none }
def FnExactPermuteTableWrongFalsely : Prop := fnExactPermuteTableRow.holds Try.pinned (OpenSpec.ofChange fnExactPermuteTableWrong)

/-- 'laws.FnExactShiftTable': WHATEVER THE INPUT: true; the input reads as it did. -/
def fnExactShiftTableSpec : ChangeSpec := { name := "fnExactShiftTable", fn := fun _ => fun
  | [d1, d2] => { results := [.lit (.bool true)], args := [d1, d2] }
  | _ => none }
def fnExactShiftTableRow : OpenClaim := { program := "ytkdllmobdcahdaa", sum := "d9ea802f2276469dc7e7c06f7f23768e548fc322334d9770a6d28cb25cf04970", func := "loop.example/g03403/laws.FnExactShiftTable", spec := "fnExactShiftTable", unfollowed := true, recurses := true, apart := false }
def FnExactShiftTableSaid : Prop := fnExactShiftTableRow.holds Try.pinned (OpenSpec.ofChange fnExactShiftTableSpec)

/-- ITS FALSE NEIGHBOUR: 'it returns false'. Refute it at one input. -/
def fnExactShiftTableWrong : ChangeSpec := { name := "fnExactShiftTable", fn := fun _ => fun
  | [d1, d2] => { results := [.lit (.bool false)], args := [d1, d2] }
  | _ => none }
def FnExactShiftTableWrongFalsely : Prop := fnExactShiftTableRow.holds Try.pinned (OpenSpec.ofChange fnExactShiftTableWrong)

/-- 'laws.FnExactReduceTable': WHATEVER THE INPUT: true; the input reads as it did. -/
def fnExactReduceTableSpec : ChangeSpec := { name := "fnExactReduceTable", fn := fun _ => fun
  | [d] => { results := [.lit (.bool true)], args := [d] }
  | _ => none }
def fnExactReduceTableRow : OpenClaim := { program := "ytkdllmobdcahdaa", sum := "d9ea802f2276469dc7e7c06f7f23768e548fc322334d9770a6d28cb25cf04970", func := "loop.example/g03403/laws.FnExactReduceTable", spec := "fnExactReduceTable", unfollowed := true, recurses := true, apart := false }
def FnExactReduceTableSaid : Prop := fnExactReduceTableRow.holds Try.pinned (OpenSpec.ofChange fnExactReduceTableSpec)

/-- ITS FALSE NEIGHBOUR: 'it returns false'. Refute it at one input. -/
def fnExactReduceTableWrong : ChangeSpec := { name := "fnExactReduceTable", fn := fun _ => fun
  | [d] => { results := [.lit (.bool false)], args := [d] }
  | _ => none }
def FnExactReduceTableWrongFalsely : Prop := fnExactReduceTableRow.holds Try.pinned (OpenSpec.ofChange fnExactReduceTableWrong)

/-- 'laws.FnExactCubeValue': WHATEVER THE INPUT: true; the input reads as it did. -/
def fnExactCubeValueSpec : ChangeSpec := { name := "fnExactCubeValue", fn := fun _ => fun
  | [d1, d2, d3] => { results := [.lit (.bool true)], args := [d1, d2, d3] }
  | _ => none }
def fnExactCubeValueRow : OpenClaim := { program := "ytkdllmobdcahdaa", sum := "d9ea802f2276469dc7e7c06f7f23768e548fc322334d9770a6d28cb25cf04970", func := "loop.example/g03403/laws.FnExactCubeValue", spec := "fnExactCubeValue", apart := false }
def FnExactCubeValueSaid : Prop := fnExactCubeValueRow.holds Try.pinned (OpenSpec.ofChange fnExactCubeValueSpec)

/-- ITS FALSE NEIGHBOUR: 'it returns false'. Refute it at one input. -/
def fnExactCubeValueWrong : ChangeSpec := { name := "fnExactCubeValue", fn := fun _ => fun
  | [d1, d2, d3] => { results := [.lit (.bool false)], args := [d1, d2, d3] }
  | _ => none }
def FnExactCubeValueWrongFalsely : Prop := fnExactCubeValueRow.holds Try.pinned (OpenSpec.ofChange fnExactCubeValueWrong)

/- THE SECOND FORM. 'bulk': how many values and letters a reading holds, each counted each time it is reached (what is shared counts as often as it is met; a slice's spare places count too). A statement '..UptoSaid' is the law's where the arguments, and the package variables that the reading takes, are together of bulk at most 1048576: NARROWER than '..Said'. Prove '..Said' where nothing that the law and all that it calls make is longer than what came in: it says more and counts as full. Else prove '..UptoSaid'. A law counts once. -/
mutual
def uptoBulk {H : Type} : DataW H → Nat
  | .lit (.string bytes) => bytes.length + 1
  | .lit _ => 1
  | .nil => 1
  | .ptr d => uptoBulk d + 1
  | .slice elems spare => uptoBulkAll elems + uptoBulkAll spare + 1
  | .agg parts => uptoBulkAll parts + 1
  | .iface _ d => uptoBulk d + 1
  | .map entries => uptoBulkEntries entries + 1
  | .held _ => 1
def uptoBulkAll {H : Type} : List (DataW H) → Nat
  | [] => 0
  | d :: r => uptoBulk d + uptoBulkAll r
def uptoBulkEntries {H : Type} : List (Lit × DataW H) → Nat
  | [] => 0
  | x :: r => uptoBulkEntry x + uptoBulkEntries r
def uptoBulkEntry {H : Type} : Lit × DataW H → Nat
  | (.string bytes, d) => bytes.length + uptoBulk d + 1
  | (_, d) => uptoBulk d + 1
 end
def uptoSmall : (H : Type) → List (DataW H) → Bool := fun _ ds => decide (uptoBulkAll ds ≤ 1048576)
def OpenSpec.upto (s : _root_.Go.ChangeSpec) : _root_.Go.OpenSpec := { _root_.Go.OpenSpec.ofChange s with cond := some uptoSmall }

/-- 'laws.FnRestrictions', WHERE WHAT IT READS IS OF BULK AT MOST 1048576: true; the input reads as it did. -/
def fnRestrictionsUptoRow : OpenClaim := { program := "ytkdllmobdcahdaa", sum := "d9ea802f2276469dc7e7c06f7f23768e548fc322334d9770a6d28cb25cf04970", func := "loop.example/g03403/laws.FnRestrictions", spec := "fnRestrictions", unfollowed := true, recurses := true, apart := false, narrowed := true }
def FnRestrictionsUptoSaid : Prop := fnRestrictionsUptoRow.holds Try.pinned (OpenSpec.upto fnRestrictionsSpec)

/-- 'laws.FnExactVariableTable', WHERE WHAT IT READS IS OF BULK AT MOST 1048576: true; the input reads as it did. -/
def fnExactVariableTableUptoRow : OpenClaim := { program := "ytkdllmobdcahdaa", sum := "d9ea802f2276469dc7e7c06f7f23768e548fc322334d9770a6d28cb25cf04970", func := "loop.example/g03403/laws.FnExactVariableTable", spec := "fnExactVariableTable", unfollowed := true, recurses := true, apart := false, narrowed := true }
def FnExactVariableTableUptoSaid : Prop := fnExactVariableTableUptoRow.holds Try.pinned (OpenSpec.upto fnExactVariableTableSpec)

/-- 'laws.FnExactRestrictTable', WHERE WHAT IT READS IS OF BULK AT MOST 1048576: true; the input reads as it did. -/
def fnExactRestrictTableUptoRow : OpenClaim := { program := "ytkdllmobdcahdaa", sum := "d9ea802f2276469dc7e7c06f7f23768e548fc322334d9770a6d28cb25cf04970", func := "loop.example/g03403/laws.FnExactRestrictTable", spec := "fnExactRestrictTable", unfollowed := true, recurses := true, apart := false, narrowed := true }
def FnExactRestrictTableUptoSaid : Prop := fnExactRestrictTableUptoRow.holds Try.pinned (OpenSpec.upto fnExactRestrictTableSpec)

/-- 'laws.FnExactJoinTables', WHERE WHAT IT READS IS OF BULK AT MOST 1048576: true; the input reads as it did. -/
def fnExactJoinTablesUptoRow : OpenClaim := { program := "ytkdllmobdcahdaa", sum := "d9ea802f2276469dc7e7c06f7f23768e548fc322334d9770a6d28cb25cf04970", func := "loop.example/g03403/laws.FnExactJoinTables", spec := "fnExactJoinTables", unfollowed := true, recurses := true, apart := false, narrowed := true }
def FnExactJoinTablesUptoSaid : Prop := fnExactJoinTablesUptoRow.holds Try.pinned (OpenSpec.upto fnExactJoinTablesSpec)

/-- 'laws.FnExactDependsOn', WHERE WHAT IT READS IS OF BULK AT MOST 1048576: true; the input reads as it did. -/
def fnExactDependsOnUptoRow : OpenClaim := { program := "ytkdllmobdcahdaa", sum := "d9ea802f2276469dc7e7c06f7f23768e548fc322334d9770a6d28cb25cf04970", func := "loop.example/g03403/laws.FnExactDependsOn", spec := "fnExactDependsOn", unfollowed := true, recurses := true, apart := false, narrowed := true }
def FnExactDependsOnUptoSaid : Prop := fnExactDependsOnUptoRow.holds Try.pinned (OpenSpec.upto fnExactDependsOnSpec)

/-- 'laws.FnExactVariablesOf', WHERE WHAT IT READS IS OF BULK AT MOST 1048576: true; the input reads as it did. -/
def fnExactVariablesOfUptoRow : OpenClaim := { program := "ytkdllmobdcahdaa", sum := "d9ea802f2276469dc7e7c06f7f23768e548fc322334d9770a6d28cb25cf04970", func := "loop.example/g03403/laws.FnExactVariablesOf", spec := "fnExactVariablesOf", unfollowed := true, recurses := true, apart := false, narrowed := true }
def FnExactVariablesOfUptoSaid : Prop := fnExactVariablesOfUptoRow.holds Try.pinned (OpenSpec.upto fnExactVariablesOfSpec)

/-- 'laws.FnExactPermuteTable', WHERE WHAT IT READS IS OF BULK AT MOST 1048576: true; the input reads as it did. -/
def fnExactPermuteTableUptoRow : OpenClaim := { program := "ytkdllmobdcahdaa", sum := "d9ea802f2276469dc7e7c06f7f23768e548fc322334d9770a6d28cb25cf04970", func := "loop.example/g03403/laws.FnExactPermuteTable", spec := "fnExactPermuteTable", unfollowed := true, recurses := true, apart := false, narrowed := true }
def FnExactPermuteTableUptoSaid : Prop := fnExactPermuteTableUptoRow.holds Try.pinned (OpenSpec.upto fnExactPermuteTableSpec)

/-- 'laws.FnExactShiftTable', WHERE WHAT IT READS IS OF BULK AT MOST 1048576: true; the input reads as it did. -/
def fnExactShiftTableUptoRow : OpenClaim := { program := "ytkdllmobdcahdaa", sum := "d9ea802f2276469dc7e7c06f7f23768e548fc322334d9770a6d28cb25cf04970", func := "loop.example/g03403/laws.FnExactShiftTable", spec := "fnExactShiftTable", unfollowed := true, recurses := true, apart := false, narrowed := true }
def FnExactShiftTableUptoSaid : Prop := fnExactShiftTableUptoRow.holds Try.pinned (OpenSpec.upto fnExactShiftTableSpec)

/-- 'laws.FnExactReduceTable', WHERE WHAT IT READS IS OF BULK AT MOST 1048576: true; the input reads as it did. -/
def fnExactReduceTableUptoRow : OpenClaim := { program := "ytkdllmobdcahdaa", sum := "d9ea802f2276469dc7e7c06f7f23768e548fc322334d9770a6d28cb25cf04970", func := "loop.example/g03403/laws.FnExactReduceTable", spec := "fnExactReduceTable", unfollowed := true, recurses := true, apart := false, narrowed := true }
def FnExactReduceTableUptoSaid : Prop := fnExactReduceTableUptoRow.holds Try.pinned (OpenSpec.upto fnExactReduceTableSpec)

/-- 'laws.FnExactCubeValue', WHERE WHAT IT READS IS OF BULK AT MOST 1048576: true; the input reads as it did. -/
def fnExactCubeValueUptoRow : OpenClaim := { program := "ytkdllmobdcahdaa", sum := "d9ea802f2276469dc7e7c06f7f23768e548fc322334d9770a6d28cb25cf04970", func := "loop.example/g03403/laws.FnExactCubeValue", spec := "fnExactCubeValue", apart := false, narrowed := true }
def FnExactCubeValueUptoSaid : Prop := fnExactCubeValueUptoRow.holds Try.pinned (OpenSpec.upto fnExactCubeValueSpec)

end Rows
end Go.Proofs.Ytkdllmobdcahdaa
