/-
  No cell of these rows narrows 'for every input' (looked for: loops, veiled, ifaces, maps, wideKeys, modest, calm, conditions, laid).
  DERIVED. THE GIVEN ROWS OF THIS SEAT. 10 by the template 'for every input the law returns true; each argument reads behind the call as it read before'; 0 by the template 'total and deterministic' (their statements: YtchibahfkcompaaTotals.lean).
  GIVEN WITH THE SEED: the statements are not yours to turn. If you find one false, say at which input.
  Laid BY PROGRAM, IN A SANDBOX (cutbox-rows.mjs): the forced cells as the released guide's own fill.sh prints them over the translation 8a4ee7e8e1d561e9… (all of the seat's roots in one cut). By AI agents, Wed Nov 11 2026. No macro, syntax, notation, axiom, sorry.
-/
import Derived.Test.YtchibahfkcompaaChecked
import GoSem.Claim
import GoSem.ClaimJoined
import GoSem.ClaimMapViews
import Derived.JoinedTies
import Derived.KernelRfl
namespace Go.Proofs.Ytchibahfkcompaa
/- THE CELL 'sum', in the pinned program and in every row, IS THE sha256 OF THE DUMP (.gsa) THAT YtchibahfkcompaaProg.lean LOADS. Nothing in Lean hashes anything: it is a label: what it is worth is what the hold of that sum in a sandbox is worth. -/
noncomputable def Try.pinned : Pinned := { name := "ytchibahfkcompaa", sum := "8a4ee7e8e1d561e99e52caff564532178da0524a28d8983e2280e4b8f44f4935", checked := Try.checked }
namespace Rows
def none {H : Type} : Left H := { results := [], args := [] }

/-- 'laws.FnExactIsTable': WHATEVER THE INPUT: true; the input reads as it did. -/
def fnExactIsTableSpec : ChangeSpec := { name := "fnExactIsTable", fn := fun _ => fun
  | [d] => { results := [.lit (.bool true)], args := [d] }
  | _ => none }
def fnExactIsTableRow : OpenClaim := { program := "ytchibahfkcompaa", sum := "8a4ee7e8e1d561e99e52caff564532178da0524a28d8983e2280e4b8f44f4935", func := "loop.example/g03403/laws.FnExactIsTable", spec := "fnExactIsTable", apart := false }
def FnExactIsTableSaid : Prop := fnExactIsTableRow.holds Try.pinned (OpenSpec.ofChange fnExactIsTableSpec)

/-- ITS FALSE NEIGHBOUR: 'it returns false'. Refute it at one input. -/
def fnExactIsTableWrong : ChangeSpec := { name := "fnExactIsTable", fn := fun _ => fun
  | [d] => { results := [.lit (.bool false)], args := [d] }
  | _ => none }
def FnExactIsTableWrongFalsely : Prop := fnExactIsTableRow.holds Try.pinned (OpenSpec.ofChange fnExactIsTableWrong)

/-- 'laws.FnExactValueAt': WHATEVER THE INPUT: true; the input reads as it did. -/
def fnExactValueAtSpec : ChangeSpec := { name := "fnExactValueAt", fn := fun _ => fun
  | [d1, d2] => { results := [.lit (.bool true)], args := [d1, d2] }
  | _ => none }
def fnExactValueAtRow : OpenClaim := { program := "ytchibahfkcompaa", sum := "8a4ee7e8e1d561e99e52caff564532178da0524a28d8983e2280e4b8f44f4935", func := "loop.example/g03403/laws.FnExactValueAt", spec := "fnExactValueAt", apart := false }
def FnExactValueAtSaid : Prop := fnExactValueAtRow.holds Try.pinned (OpenSpec.ofChange fnExactValueAtSpec)

/-- ITS FALSE NEIGHBOUR: 'it returns false'. Refute it at one input. -/
def fnExactValueAtWrong : ChangeSpec := { name := "fnExactValueAt", fn := fun _ => fun
  | [d1, d2] => { results := [.lit (.bool false)], args := [d1, d2] }
  | _ => none }
def FnExactValueAtWrongFalsely : Prop := fnExactValueAtRow.holds Try.pinned (OpenSpec.ofChange fnExactValueAtWrong)

/-- 'laws.FnExactCountOnes': WHATEVER THE INPUT: true; the input reads as it did. -/
def fnExactCountOnesSpec : ChangeSpec := { name := "fnExactCountOnes", fn := fun _ => fun
  | [d] => { results := [.lit (.bool true)], args := [d] }
  | _ => none }
def fnExactCountOnesRow : OpenClaim := { program := "ytchibahfkcompaa", sum := "8a4ee7e8e1d561e99e52caff564532178da0524a28d8983e2280e4b8f44f4935", func := "loop.example/g03403/laws.FnExactCountOnes", spec := "fnExactCountOnes", apart := false }
def FnExactCountOnesSaid : Prop := fnExactCountOnesRow.holds Try.pinned (OpenSpec.ofChange fnExactCountOnesSpec)

/-- ITS FALSE NEIGHBOUR: 'it returns false'. Refute it at one input. -/
def fnExactCountOnesWrong : ChangeSpec := { name := "fnExactCountOnes", fn := fun _ => fun
  | [d] => { results := [.lit (.bool false)], args := [d] }
  | _ => none }
def FnExactCountOnesWrongFalsely : Prop := fnExactCountOnesRow.holds Try.pinned (OpenSpec.ofChange fnExactCountOnesWrong)

/-- 'laws.FnExactNotTable': WHATEVER THE INPUT: true; the input reads as it did. -/
def fnExactNotTableSpec : ChangeSpec := { name := "fnExactNotTable", fn := fun _ => fun
  | [d] => { results := [.lit (.bool true)], args := [d] }
  | _ => none }
def fnExactNotTableRow : OpenClaim := { program := "ytchibahfkcompaa", sum := "8a4ee7e8e1d561e99e52caff564532178da0524a28d8983e2280e4b8f44f4935", func := "loop.example/g03403/laws.FnExactNotTable", spec := "fnExactNotTable", apart := false }
def FnExactNotTableSaid : Prop := fnExactNotTableRow.holds Try.pinned (OpenSpec.ofChange fnExactNotTableSpec)

/-- ITS FALSE NEIGHBOUR: 'it returns false'. Refute it at one input. -/
def fnExactNotTableWrong : ChangeSpec := { name := "fnExactNotTable", fn := fun _ => fun
  | [d] => { results := [.lit (.bool false)], args := [d] }
  | _ => none }
def FnExactNotTableWrongFalsely : Prop := fnExactNotTableRow.holds Try.pinned (OpenSpec.ofChange fnExactNotTableWrong)

/-- 'laws.FnExactAndTables': WHATEVER THE INPUT: true; the input reads as it did. -/
def fnExactAndTablesSpec : ChangeSpec := { name := "fnExactAndTables", fn := fun _ => fun
  | [d1, d2] => { results := [.lit (.bool true)], args := [d1, d2] }
  | _ => none }
def fnExactAndTablesRow : OpenClaim := { program := "ytchibahfkcompaa", sum := "8a4ee7e8e1d561e99e52caff564532178da0524a28d8983e2280e4b8f44f4935", func := "loop.example/g03403/laws.FnExactAndTables", spec := "fnExactAndTables", apart := false }
def FnExactAndTablesSaid : Prop := fnExactAndTablesRow.holds Try.pinned (OpenSpec.ofChange fnExactAndTablesSpec)

/-- ITS FALSE NEIGHBOUR: 'it returns false'. Refute it at one input. -/
def fnExactAndTablesWrong : ChangeSpec := { name := "fnExactAndTables", fn := fun _ => fun
  | [d1, d2] => { results := [.lit (.bool false)], args := [d1, d2] }
  | _ => none }
def FnExactAndTablesWrongFalsely : Prop := fnExactAndTablesRow.holds Try.pinned (OpenSpec.ofChange fnExactAndTablesWrong)

/-- 'laws.FnExactOrTables': WHATEVER THE INPUT: true; the input reads as it did. -/
def fnExactOrTablesSpec : ChangeSpec := { name := "fnExactOrTables", fn := fun _ => fun
  | [d1, d2] => { results := [.lit (.bool true)], args := [d1, d2] }
  | _ => none }
def fnExactOrTablesRow : OpenClaim := { program := "ytchibahfkcompaa", sum := "8a4ee7e8e1d561e99e52caff564532178da0524a28d8983e2280e4b8f44f4935", func := "loop.example/g03403/laws.FnExactOrTables", spec := "fnExactOrTables", apart := false }
def FnExactOrTablesSaid : Prop := fnExactOrTablesRow.holds Try.pinned (OpenSpec.ofChange fnExactOrTablesSpec)

/-- ITS FALSE NEIGHBOUR: 'it returns false'. Refute it at one input. -/
def fnExactOrTablesWrong : ChangeSpec := { name := "fnExactOrTables", fn := fun _ => fun
  | [d1, d2] => { results := [.lit (.bool false)], args := [d1, d2] }
  | _ => none }
def FnExactOrTablesWrongFalsely : Prop := fnExactOrTablesRow.holds Try.pinned (OpenSpec.ofChange fnExactOrTablesWrong)

/-- 'laws.FnExactXorTables': WHATEVER THE INPUT: true; the input reads as it did. -/
def fnExactXorTablesSpec : ChangeSpec := { name := "fnExactXorTables", fn := fun _ => fun
  | [d1, d2] => { results := [.lit (.bool true)], args := [d1, d2] }
  | _ => none }
def fnExactXorTablesRow : OpenClaim := { program := "ytchibahfkcompaa", sum := "8a4ee7e8e1d561e99e52caff564532178da0524a28d8983e2280e4b8f44f4935", func := "loop.example/g03403/laws.FnExactXorTables", spec := "fnExactXorTables", apart := false }
def FnExactXorTablesSaid : Prop := fnExactXorTablesRow.holds Try.pinned (OpenSpec.ofChange fnExactXorTablesSpec)

/-- ITS FALSE NEIGHBOUR: 'it returns false'. Refute it at one input. -/
def fnExactXorTablesWrong : ChangeSpec := { name := "fnExactXorTables", fn := fun _ => fun
  | [d1, d2] => { results := [.lit (.bool false)], args := [d1, d2] }
  | _ => none }
def FnExactXorTablesWrongFalsely : Prop := fnExactXorTablesRow.holds Try.pinned (OpenSpec.ofChange fnExactXorTablesWrong)

/-- 'laws.FnExactVariableTable': WHATEVER THE INPUT: true; the input reads as it did. -/
def fnExactVariableTableSpec : ChangeSpec := { name := "fnExactVariableTable", fn := fun _ => fun
  | [d1, d2] => { results := [.lit (.bool true)], args := [d1, d2] }
  | _ => none }
def fnExactVariableTableRow : OpenClaim := { program := "ytchibahfkcompaa", sum := "8a4ee7e8e1d561e99e52caff564532178da0524a28d8983e2280e4b8f44f4935", func := "loop.example/g03403/laws.FnExactVariableTable", spec := "fnExactVariableTable", apart := false }
def FnExactVariableTableSaid : Prop := fnExactVariableTableRow.holds Try.pinned (OpenSpec.ofChange fnExactVariableTableSpec)

/-- ITS FALSE NEIGHBOUR: 'it returns false'. Refute it at one input. -/
def fnExactVariableTableWrong : ChangeSpec := { name := "fnExactVariableTable", fn := fun _ => fun
  | [d1, d2] => { results := [.lit (.bool false)], args := [d1, d2] }
  | _ => none }
def FnExactVariableTableWrongFalsely : Prop := fnExactVariableTableRow.holds Try.pinned (OpenSpec.ofChange fnExactVariableTableWrong)

/-- 'laws.FnExactFormatTable': WHATEVER THE INPUT: true; the input reads as it did. -/
def fnExactFormatTableSpec : ChangeSpec := { name := "fnExactFormatTable", fn := fun _ => fun
  | [d] => { results := [.lit (.bool true)], args := [d] }
  | _ => none }
def fnExactFormatTableRow : OpenClaim := { program := "ytchibahfkcompaa", sum := "8a4ee7e8e1d561e99e52caff564532178da0524a28d8983e2280e4b8f44f4935", func := "loop.example/g03403/laws.FnExactFormatTable", spec := "fnExactFormatTable", apart := false }
def FnExactFormatTableSaid : Prop := fnExactFormatTableRow.holds Try.pinned (OpenSpec.ofChange fnExactFormatTableSpec)

/-- ITS FALSE NEIGHBOUR: 'it returns false'. Refute it at one input. -/
def fnExactFormatTableWrong : ChangeSpec := { name := "fnExactFormatTable", fn := fun _ => fun
  | [d] => { results := [.lit (.bool false)], args := [d] }
  | _ => none }
def FnExactFormatTableWrongFalsely : Prop := fnExactFormatTableRow.holds Try.pinned (OpenSpec.ofChange fnExactFormatTableWrong)

/-- 'laws.FnExactIsConstant': WHATEVER THE INPUT: true; the input reads as it did. -/
def fnExactIsConstantSpec : ChangeSpec := { name := "fnExactIsConstant", fn := fun _ => fun
  | [d] => { results := [.lit (.bool true)], args := [d] }
  | _ => none }
def fnExactIsConstantRow : OpenClaim := { program := "ytchibahfkcompaa", sum := "8a4ee7e8e1d561e99e52caff564532178da0524a28d8983e2280e4b8f44f4935", func := "loop.example/g03403/laws.FnExactIsConstant", spec := "fnExactIsConstant", apart := false }
def FnExactIsConstantSaid : Prop := fnExactIsConstantRow.holds Try.pinned (OpenSpec.ofChange fnExactIsConstantSpec)

/-- ITS FALSE NEIGHBOUR: 'it returns false'. Refute it at one input. -/
def fnExactIsConstantWrong : ChangeSpec := { name := "fnExactIsConstant", fn := fun _ => fun
  | [d] => { results := [.lit (.bool false)], args := [d] }
  | _ => none }
def FnExactIsConstantWrongFalsely : Prop := fnExactIsConstantRow.holds Try.pinned (OpenSpec.ofChange fnExactIsConstantWrong)

/- THE SECOND FORM. 'bulk': how many values and letters a reading holds, each counted each time it is reached (what is shared counts as often as it is met; a slice's spare places count too). A statement '..UptoSaid' is the law's where the arguments, and the package variables that the reading takes, are together of bulk at most 1048576: NARROWER than '..Said'. Prove '..Said' where nothing that the law and all that it calls make is longer than what came in: it says more and counts as full. Else prove '..UptoSaid'. A law counts once. -/
mutual
def uptoBulk {H : Type} : DataW H → Nat
  | .lit (.string bytes) => bytes.length + 1
  | .lit _ => 1
  | .nil => 1
  | .ptr d => uptoBulk d + 1
  | .slice elems spare => uptoBulkAll elems + uptoBulkAll spare + 1
  | .agg parts => uptoBulkAll parts + 1
  | .iface _ d => uptoBulk d + 1
  | .map entries => uptoBulkEntries entries + 1
  | .held _ => 1
def uptoBulkAll {H : Type} : List (DataW H) → Nat
  | [] => 0
  | d :: r => uptoBulk d + uptoBulkAll r
def uptoBulkEntries {H : Type} : List (Lit × DataW H) → Nat
  | [] => 0
  | x :: r => uptoBulkEntry x + uptoBulkEntries r
def uptoBulkEntry {H : Type} : Lit × DataW H → Nat
  | (.string bytes, d) => bytes.length + uptoBulk d + 1
  | (_, d) => uptoBulk d + 1
 end
def uptoSmall : (H : Type) → List (DataW H) → Bool := fun _ ds => decide (uptoBulkAll ds ≤ 1048576)
def OpenSpec.upto (s : _root_.Go.ChangeSpec) : _root_.Go.OpenSpec := { _root_.Go.OpenSpec.ofChange s with cond := some uptoSmall }

/-- 'laws.FnExactIsTable', WHERE WHAT IT READS IS OF BULK AT MOST 1048576: true; the input reads as it did. -/
def fnExactIsTableUptoRow : OpenClaim := { program := "ytchibahfkcompaa", sum := "8a4ee7e8e1d561e99e52caff564532178da0524a28d8983e2280e4b8f44f4935", func := "loop.example/g03403/laws.FnExactIsTable", spec := "fnExactIsTable", apart := false, narrowed := true }
def FnExactIsTableUptoSaid : Prop := fnExactIsTableUptoRow.holds Try.pinned (OpenSpec.upto fnExactIsTableSpec)

/-- 'laws.FnExactValueAt', WHERE WHAT IT READS IS OF BULK AT MOST 1048576: true; the input reads as it did. -/
def fnExactValueAtUptoRow : OpenClaim := { program := "ytchibahfkcompaa", sum := "8a4ee7e8e1d561e99e52caff564532178da0524a28d8983e2280e4b8f44f4935", func := "loop.example/g03403/laws.FnExactValueAt", spec := "fnExactValueAt", apart := false, narrowed := true }
def FnExactValueAtUptoSaid : Prop := fnExactValueAtUptoRow.holds Try.pinned (OpenSpec.upto fnExactValueAtSpec)

/-- 'laws.FnExactCountOnes', WHERE WHAT IT READS IS OF BULK AT MOST 1048576: true; the input reads as it did. -/
def fnExactCountOnesUptoRow : OpenClaim := { program := "ytchibahfkcompaa", sum := "8a4ee7e8e1d561e99e52caff564532178da0524a28d8983e2280e4b8f44f4935", func := "loop.example/g03403/laws.FnExactCountOnes", spec := "fnExactCountOnes", apart := false, narrowed := true }
def FnExactCountOnesUptoSaid : Prop := fnExactCountOnesUptoRow.holds Try.pinned (OpenSpec.upto fnExactCountOnesSpec)

/-- 'laws.FnExactNotTable', WHERE WHAT IT READS IS OF BULK AT MOST 1048576: true; the input reads as it did. -/
def fnExactNotTableUptoRow : OpenClaim := { program := "ytchibahfkcompaa", sum := "8a4ee7e8e1d561e99e52caff564532178da0524a28d8983e2280e4b8f44f4935", func := "loop.example/g03403/laws.FnExactNotTable", spec := "fnExactNotTable", apart := false, narrowed := true }
def FnExactNotTableUptoSaid : Prop := fnExactNotTableUptoRow.holds Try.pinned (OpenSpec.upto fnExactNotTableSpec)

/-- 'laws.FnExactAndTables', WHERE WHAT IT READS IS OF BULK AT MOST 1048576: true; the input reads as it did. -/
def fnExactAndTablesUptoRow : OpenClaim := { program := "ytchibahfkcompaa", sum := "8a4ee7e8e1d561e99e52caff564532178da0524a28d8983e2280e4b8f44f4935", func := "loop.example/g03403/laws.FnExactAndTables", spec := "fnExactAndTables", apart := false, narrowed := true }
def FnExactAndTablesUptoSaid : Prop := fnExactAndTablesUptoRow.holds Try.pinned (OpenSpec.upto fnExactAndTablesSpec)

/-- 'laws.FnExactOrTables', WHERE WHAT IT READS IS OF BULK AT MOST 1048576: true; the input reads as it did. -/
def fnExactOrTablesUptoRow : OpenClaim := { program := "ytchibahfkcompaa", sum := "8a4ee7e8e1d561e99e52caff564532178da0524a28d8983e2280e4b8f44f4935", func := "loop.example/g03403/laws.FnExactOrTables", spec := "fnExactOrTables", apart := false, narrowed := true }
def FnExactOrTablesUptoSaid : Prop := fnExactOrTablesUptoRow.holds Try.pinned (OpenSpec.upto fnExactOrTablesSpec)

/-- 'laws.FnExactXorTables', WHERE WHAT IT READS IS OF BULK AT MOST 1048576: true; the input reads as it did. -/
def fnExactXorTablesUptoRow : OpenClaim := { program := "ytchibahfkcompaa", sum := "8a4ee7e8e1d561e99e52caff564532178da0524a28d8983e2280e4b8f44f4935", func := "loop.example/g03403/laws.FnExactXorTables", spec := "fnExactXorTables", apart := false, narrowed := true }
def FnExactXorTablesUptoSaid : Prop := fnExactXorTablesUptoRow.holds Try.pinned (OpenSpec.upto fnExactXorTablesSpec)

/-- 'laws.FnExactVariableTable', WHERE WHAT IT READS IS OF BULK AT MOST 1048576: true; the input reads as it did. -/
def fnExactVariableTableUptoRow : OpenClaim := { program := "ytchibahfkcompaa", sum := "8a4ee7e8e1d561e99e52caff564532178da0524a28d8983e2280e4b8f44f4935", func := "loop.example/g03403/laws.FnExactVariableTable", spec := "fnExactVariableTable", apart := false, narrowed := true }
def FnExactVariableTableUptoSaid : Prop := fnExactVariableTableUptoRow.holds Try.pinned (OpenSpec.upto fnExactVariableTableSpec)

/-- 'laws.FnExactFormatTable', WHERE WHAT IT READS IS OF BULK AT MOST 1048576: true; the input reads as it did. -/
def fnExactFormatTableUptoRow : OpenClaim := { program := "ytchibahfkcompaa", sum := "8a4ee7e8e1d561e99e52caff564532178da0524a28d8983e2280e4b8f44f4935", func := "loop.example/g03403/laws.FnExactFormatTable", spec := "fnExactFormatTable", apart := false, narrowed := true }
def FnExactFormatTableUptoSaid : Prop := fnExactFormatTableUptoRow.holds Try.pinned (OpenSpec.upto fnExactFormatTableSpec)

/-- 'laws.FnExactIsConstant', WHERE WHAT IT READS IS OF BULK AT MOST 1048576: true; the input reads as it did. -/
def fnExactIsConstantUptoRow : OpenClaim := { program := "ytchibahfkcompaa", sum := "8a4ee7e8e1d561e99e52caff564532178da0524a28d8983e2280e4b8f44f4935", func := "loop.example/g03403/laws.FnExactIsConstant", spec := "fnExactIsConstant", apart := false, narrowed := true }
def FnExactIsConstantUptoSaid : Prop := fnExactIsConstantUptoRow.holds Try.pinned (OpenSpec.upto fnExactIsConstantSpec)

end Rows
end Go.Proofs.Ytchibahfkcompaa
