/-
  No cell of these rows narrows 'for every input' (looked for: loops, veiled, ifaces, maps, wideKeys, modest, calm, conditions, laid).
  DERIVED. THE GIVEN ROWS OF THIS SEAT. 10 by the template 'for every input the law returns true; each argument reads behind the call as it read before'; 0 by the template 'total and deterministic' (their statements: YtlmhdocfdpbhmaaTotals.lean).
  GIVEN WITH THE SEED: the statements are not yours to turn. If you find one false, say at which input.
  Laid BY PROGRAM, IN A SANDBOX (cutbox-rows.mjs): the forced cells as the released guide's own fill.sh prints them over the translation e4791e6593acf0f3… (all of the seat's roots in one cut). By AI agents, Wed Nov 11 2026. No macro, syntax, notation, axiom, sorry.
-/
import Derived.Test.YtlmhdocfdpbhmaaChecked
import GoSem.Claim
import GoSem.ClaimJoined
import GoSem.ClaimMapViews
import Derived.JoinedTies
import Derived.KernelRfl
namespace Go.Proofs.Ytlmhdocfdpbhmaa
/- THE CELL 'sum', in the pinned program and in every row, IS THE sha256 OF THE DUMP (.gsa) THAT YtlmhdocfdpbhmaaProg.lean LOADS. Nothing in Lean hashes anything: it is a label: what it is worth is what the hold of that sum in a sandbox is worth. -/
noncomputable def Try.pinned : Pinned := { name := "ytlmhdocfdpbhmaa", sum := "e4791e6593acf0f31eaaf099f8bf6921352f4dcfb98590d4457c383ad636de11", checked := Try.checked }
namespace Rows
def none {H : Type} : Left H := { results := [], args := [] }

/-- 'laws.FnFormulas': WHATEVER THE INPUT: true; the input reads as it did. -/
def fnFormulasSpec : ChangeSpec := { name := "fnFormulas", fn := fun _ => fun
  | [d] => { results := [.lit (.bool true)], args := [d] }
  | _ => none }
def fnFormulasRow : OpenClaim := { program := "ytlmhdocfdpbhmaa", sum := "e4791e6593acf0f31eaaf099f8bf6921352f4dcfb98590d4457c383ad636de11", func := "loop.example/g03403/laws.FnFormulas", spec := "fnFormulas", inPlace := ["internal/bytealg.IndexByteString", "internal/bytealg.IndexString", "internal/bytealg.CountString"], unfollowed := true, recurses := true, named := ["internal/bytealg.MaxLen"], apart := false }
def FnFormulasSaid : Prop := fnFormulasRow.holds Try.pinned (OpenSpec.ofChange fnFormulasSpec)

/-- ITS FALSE NEIGHBOUR: 'it returns false'. Refute it at one input. -/
def fnFormulasWrong : ChangeSpec := { name := "fnFormulas", fn := fun _ => fun
  | [d] => { results := [.lit (.bool false)], args := [d] }
  | _ => none }
def FnFormulasWrongFalsely : Prop := fnFormulasRow.holds Try.pinned (OpenSpec.ofChange fnFormulasWrong)

/-- 'laws.FnMonotone': WHATEVER THE INPUT: true; the input reads as it did. -/
def fnMonotoneSpec : ChangeSpec := { name := "fnMonotone", fn := fun _ => fun
  | [d] => { results := [.lit (.bool true)], args := [d] }
  | _ => none }
def fnMonotoneRow : OpenClaim := { program := "ytlmhdocfdpbhmaa", sum := "e4791e6593acf0f31eaaf099f8bf6921352f4dcfb98590d4457c383ad636de11", func := "loop.example/g03403/laws.FnMonotone", spec := "fnMonotone", unfollowed := true, recurses := true, apart := false }
def FnMonotoneSaid : Prop := fnMonotoneRow.holds Try.pinned (OpenSpec.ofChange fnMonotoneSpec)

/-- ITS FALSE NEIGHBOUR: 'it returns false'. Refute it at one input. -/
def fnMonotoneWrong : ChangeSpec := { name := "fnMonotone", fn := fun _ => fun
  | [d] => { results := [.lit (.bool false)], args := [d] }
  | _ => none }
def FnMonotoneWrongFalsely : Prop := fnMonotoneRow.holds Try.pinned (OpenSpec.ofChange fnMonotoneWrong)

/-- 'laws.FnExactIsMonotone': WHATEVER THE INPUT: true; the input reads as it did. -/
def fnExactIsMonotoneSpec : ChangeSpec := { name := "fnExactIsMonotone", fn := fun _ => fun
  | [d] => { results := [.lit (.bool true)], args := [d] }
  | _ => none }
def fnExactIsMonotoneRow : OpenClaim := { program := "ytlmhdocfdpbhmaa", sum := "e4791e6593acf0f31eaaf099f8bf6921352f4dcfb98590d4457c383ad636de11", func := "loop.example/g03403/laws.FnExactIsMonotone", spec := "fnExactIsMonotone", unfollowed := true, recurses := true, apart := false }
def FnExactIsMonotoneSaid : Prop := fnExactIsMonotoneRow.holds Try.pinned (OpenSpec.ofChange fnExactIsMonotoneSpec)

/-- ITS FALSE NEIGHBOUR: 'it returns false'. Refute it at one input. -/
def fnExactIsMonotoneWrong : ChangeSpec := { name := "fnExactIsMonotone", fn := fun _ => fun
  | [d] => { results := [.lit (.bool false)], args := [d] }
  | _ => none }
def FnExactIsMonotoneWrongFalsely : Prop := fnExactIsMonotoneRow.holds Try.pinned (OpenSpec.ofChange fnExactIsMonotoneWrong)

/-- 'laws.FnExactMinimalPoints': WHATEVER THE INPUT: true; the input reads as it did. -/
def fnExactMinimalPointsSpec : ChangeSpec := { name := "fnExactMinimalPoints", fn := fun _ => fun
  | [d] => { results := [.lit (.bool true)], args := [d] }
  | _ => none }
def fnExactMinimalPointsRow : OpenClaim := { program := "ytlmhdocfdpbhmaa", sum := "e4791e6593acf0f31eaaf099f8bf6921352f4dcfb98590d4457c383ad636de11", func := "loop.example/g03403/laws.FnExactMinimalPoints", spec := "fnExactMinimalPoints", apart := false }
def FnExactMinimalPointsSaid : Prop := fnExactMinimalPointsRow.holds Try.pinned (OpenSpec.ofChange fnExactMinimalPointsSpec)

/-- ITS FALSE NEIGHBOUR: 'it returns false'. Refute it at one input. -/
def fnExactMinimalPointsWrong : ChangeSpec := { name := "fnExactMinimalPoints", fn := fun _ => fun
  | [d] => { results := [.lit (.bool false)], args := [d] }
  | _ => none }
def FnExactMinimalPointsWrongFalsely : Prop := fnExactMinimalPointsRow.holds Try.pinned (OpenSpec.ofChange fnExactMinimalPointsWrong)

/-- 'laws.FnExactMaximalZeros': WHATEVER THE INPUT: true; the input reads as it did. -/
def fnExactMaximalZerosSpec : ChangeSpec := { name := "fnExactMaximalZeros", fn := fun _ => fun
  | [d] => { results := [.lit (.bool true)], args := [d] }
  | _ => none }
def fnExactMaximalZerosRow : OpenClaim := { program := "ytlmhdocfdpbhmaa", sum := "e4791e6593acf0f31eaaf099f8bf6921352f4dcfb98590d4457c383ad636de11", func := "loop.example/g03403/laws.FnExactMaximalZeros", spec := "fnExactMaximalZeros", apart := false }
def FnExactMaximalZerosSaid : Prop := fnExactMaximalZerosRow.holds Try.pinned (OpenSpec.ofChange fnExactMaximalZerosSpec)

/-- ITS FALSE NEIGHBOUR: 'it returns false'. Refute it at one input. -/
def fnExactMaximalZerosWrong : ChangeSpec := { name := "fnExactMaximalZeros", fn := fun _ => fun
  | [d] => { results := [.lit (.bool false)], args := [d] }
  | _ => none }
def FnExactMaximalZerosWrongFalsely : Prop := fnExactMaximalZerosRow.holds Try.pinned (OpenSpec.ofChange fnExactMaximalZerosWrong)

/-- 'laws.FnExactDualTable': WHATEVER THE INPUT: true; the input reads as it did. -/
def fnExactDualTableSpec : ChangeSpec := { name := "fnExactDualTable", fn := fun _ => fun
  | [d] => { results := [.lit (.bool true)], args := [d] }
  | _ => none }
def fnExactDualTableRow : OpenClaim := { program := "ytlmhdocfdpbhmaa", sum := "e4791e6593acf0f31eaaf099f8bf6921352f4dcfb98590d4457c383ad636de11", func := "loop.example/g03403/laws.FnExactDualTable", spec := "fnExactDualTable", unfollowed := true, recurses := true, apart := false }
def FnExactDualTableSaid : Prop := fnExactDualTableRow.holds Try.pinned (OpenSpec.ofChange fnExactDualTableSpec)

/-- ITS FALSE NEIGHBOUR: 'it returns false'. Refute it at one input. -/
def fnExactDualTableWrong : ChangeSpec := { name := "fnExactDualTable", fn := fun _ => fun
  | [d] => { results := [.lit (.bool false)], args := [d] }
  | _ => none }
def FnExactDualTableWrongFalsely : Prop := fnExactDualTableRow.holds Try.pinned (OpenSpec.ofChange fnExactDualTableWrong)

/-- 'laws.FnExactIsSelfDual': WHATEVER THE INPUT: true; the input reads as it did. -/
def fnExactIsSelfDualSpec : ChangeSpec := { name := "fnExactIsSelfDual", fn := fun _ => fun
  | [d] => { results := [.lit (.bool true)], args := [d] }
  | _ => none }
def fnExactIsSelfDualRow : OpenClaim := { program := "ytlmhdocfdpbhmaa", sum := "e4791e6593acf0f31eaaf099f8bf6921352f4dcfb98590d4457c383ad636de11", func := "loop.example/g03403/laws.FnExactIsSelfDual", spec := "fnExactIsSelfDual", unfollowed := true, recurses := true, apart := false }
def FnExactIsSelfDualSaid : Prop := fnExactIsSelfDualRow.holds Try.pinned (OpenSpec.ofChange fnExactIsSelfDualSpec)

/-- ITS FALSE NEIGHBOUR: 'it returns false'. Refute it at one input. -/
def fnExactIsSelfDualWrong : ChangeSpec := { name := "fnExactIsSelfDual", fn := fun _ => fun
  | [d] => { results := [.lit (.bool false)], args := [d] }
  | _ => none }
def FnExactIsSelfDualWrongFalsely : Prop := fnExactIsSelfDualRow.holds Try.pinned (OpenSpec.ofChange fnExactIsSelfDualWrong)

/-- 'laws.FnExactCountMonotone': WHATEVER THE INPUT: true; the input reads as it did. -/
def fnExactCountMonotoneSpec : ChangeSpec := { name := "fnExactCountMonotone", fn := fun _ => fun
  | [d] => { results := [.lit (.bool true)], args := [d] }
  | _ => none }
def fnExactCountMonotoneRow : OpenClaim := { program := "ytlmhdocfdpbhmaa", sum := "e4791e6593acf0f31eaaf099f8bf6921352f4dcfb98590d4457c383ad636de11", func := "loop.example/g03403/laws.FnExactCountMonotone", spec := "fnExactCountMonotone", unfollowed := true, recurses := true, apart := false }
def FnExactCountMonotoneSaid : Prop := fnExactCountMonotoneRow.holds Try.pinned (OpenSpec.ofChange fnExactCountMonotoneSpec)

/-- ITS FALSE NEIGHBOUR: 'it returns false'. Refute it at one input. -/
def fnExactCountMonotoneWrong : ChangeSpec := { name := "fnExactCountMonotone", fn := fun _ => fun
  | [d] => { results := [.lit (.bool false)], args := [d] }
  | _ => none }
def FnExactCountMonotoneWrongFalsely : Prop := fnExactCountMonotoneRow.holds Try.pinned (OpenSpec.ofChange fnExactCountMonotoneWrong)

/-- 'laws.FnExactMonotoneHull': WHATEVER THE INPUT: true; the input reads as it did. -/
def fnExactMonotoneHullSpec : ChangeSpec := { name := "fnExactMonotoneHull", fn := fun _ => fun
  | [d] => { results := [.lit (.bool true)], args := [d] }
  | _ => none }
def fnExactMonotoneHullRow : OpenClaim := { program := "ytlmhdocfdpbhmaa", sum := "e4791e6593acf0f31eaaf099f8bf6921352f4dcfb98590d4457c383ad636de11", func := "loop.example/g03403/laws.FnExactMonotoneHull", spec := "fnExactMonotoneHull", unfollowed := true, recurses := true, apart := false }
def FnExactMonotoneHullSaid : Prop := fnExactMonotoneHullRow.holds Try.pinned (OpenSpec.ofChange fnExactMonotoneHullSpec)

/-- ITS FALSE NEIGHBOUR: 'it returns false'. Refute it at one input. -/
def fnExactMonotoneHullWrong : ChangeSpec := { name := "fnExactMonotoneHull", fn := fun _ => fun
  | [d] => { results := [.lit (.bool false)], args := [d] }
  | _ => none }
def FnExactMonotoneHullWrongFalsely : Prop := fnExactMonotoneHullRow.holds Try.pinned (OpenSpec.ofChange fnExactMonotoneHullWrong)

/-- 'laws.FnExactTableOfPoints': WHATEVER THE INPUT: true; the input reads as it did. -/
def fnExactTableOfPointsSpec : ChangeSpec := { name := "fnExactTableOfPoints", fn := fun _ => fun
  | [d1, d2] => { results := [.lit (.bool true)], args := [d1, d2] }
  | _ => none }
def fnExactTableOfPointsRow : OpenClaim := { program := "ytlmhdocfdpbhmaa", sum := "e4791e6593acf0f31eaaf099f8bf6921352f4dcfb98590d4457c383ad636de11", func := "loop.example/g03403/laws.FnExactTableOfPoints", spec := "fnExactTableOfPoints", unfollowed := true, recurses := true, apart := false }
def FnExactTableOfPointsSaid : Prop := fnExactTableOfPointsRow.holds Try.pinned (OpenSpec.ofChange fnExactTableOfPointsSpec)

/-- ITS FALSE NEIGHBOUR: 'it returns false'. Refute it at one input. -/
def fnExactTableOfPointsWrong : ChangeSpec := { name := "fnExactTableOfPoints", fn := fun _ => fun
  | [d1, d2] => { results := [.lit (.bool false)], args := [d1, d2] }
  | _ => none }
def FnExactTableOfPointsWrongFalsely : Prop := fnExactTableOfPointsRow.holds Try.pinned (OpenSpec.ofChange fnExactTableOfPointsWrong)

/- THE SECOND FORM. 'bulk': how many values and letters a reading holds, each counted each time it is reached (what is shared counts as often as it is met; a slice's spare places count too). A statement '..UptoSaid' is the law's where the arguments, and the package variables that the reading takes, are together of bulk at most 1048576: NARROWER than '..Said'. Prove '..Said' where nothing that the law and all that it calls make is longer than what came in: it says more and counts as full. Else prove '..UptoSaid'. A law counts once. -/
mutual
def uptoBulk {H : Type} : DataW H → Nat
  | .lit (.string bytes) => bytes.length + 1
  | .lit _ => 1
  | .nil => 1
  | .ptr d => uptoBulk d + 1
  | .slice elems spare => uptoBulkAll elems + uptoBulkAll spare + 1
  | .agg parts => uptoBulkAll parts + 1
  | .iface _ d => uptoBulk d + 1
  | .map entries => uptoBulkEntries entries + 1
  | .held _ => 1
def uptoBulkAll {H : Type} : List (DataW H) → Nat
  | [] => 0
  | d :: r => uptoBulk d + uptoBulkAll r
def uptoBulkEntries {H : Type} : List (Lit × DataW H) → Nat
  | [] => 0
  | x :: r => uptoBulkEntry x + uptoBulkEntries r
def uptoBulkEntry {H : Type} : Lit × DataW H → Nat
  | (.string bytes, d) => bytes.length + uptoBulk d + 1
  | (_, d) => uptoBulk d + 1
 end
def uptoSmall : (H : Type) → List (DataW H) → Bool := fun _ ds => decide (uptoBulkAll ds ≤ 1048576)
def OpenSpec.upto (s : _root_.Go.ChangeSpec) : _root_.Go.OpenSpec := { _root_.Go.OpenSpec.ofChange s with cond := some uptoSmall }

/-- 'laws.FnFormulas', WHERE WHAT IT READS IS OF BULK AT MOST 1048576: true; the input reads as it did. -/
def fnFormulasUptoRow : OpenClaim := { program := "ytlmhdocfdpbhmaa", sum := "e4791e6593acf0f31eaaf099f8bf6921352f4dcfb98590d4457c383ad636de11", func := "loop.example/g03403/laws.FnFormulas", spec := "fnFormulas", inPlace := ["internal/bytealg.IndexByteString", "internal/bytealg.IndexString", "internal/bytealg.CountString"], unfollowed := true, recurses := true, named := ["internal/bytealg.MaxLen"], apart := false, narrowed := true }
def FnFormulasUptoSaid : Prop := fnFormulasUptoRow.holds Try.pinned (OpenSpec.upto fnFormulasSpec)

/-- 'laws.FnMonotone', WHERE WHAT IT READS IS OF BULK AT MOST 1048576: true; the input reads as it did. -/
def fnMonotoneUptoRow : OpenClaim := { program := "ytlmhdocfdpbhmaa", sum := "e4791e6593acf0f31eaaf099f8bf6921352f4dcfb98590d4457c383ad636de11", func := "loop.example/g03403/laws.FnMonotone", spec := "fnMonotone", unfollowed := true, recurses := true, apart := false, narrowed := true }
def FnMonotoneUptoSaid : Prop := fnMonotoneUptoRow.holds Try.pinned (OpenSpec.upto fnMonotoneSpec)

/-- 'laws.FnExactIsMonotone', WHERE WHAT IT READS IS OF BULK AT MOST 1048576: true; the input reads as it did. -/
def fnExactIsMonotoneUptoRow : OpenClaim := { program := "ytlmhdocfdpbhmaa", sum := "e4791e6593acf0f31eaaf099f8bf6921352f4dcfb98590d4457c383ad636de11", func := "loop.example/g03403/laws.FnExactIsMonotone", spec := "fnExactIsMonotone", unfollowed := true, recurses := true, apart := false, narrowed := true }
def FnExactIsMonotoneUptoSaid : Prop := fnExactIsMonotoneUptoRow.holds Try.pinned (OpenSpec.upto fnExactIsMonotoneSpec)

/-- 'laws.FnExactMinimalPoints', WHERE WHAT IT READS IS OF BULK AT MOST 1048576: true; the input reads as it did. -/
def fnExactMinimalPointsUptoRow : OpenClaim := { program := "ytlmhdocfdpbhmaa", sum := "e4791e6593acf0f31eaaf099f8bf6921352f4dcfb98590d4457c383ad636de11", func := "loop.example/g03403/laws.FnExactMinimalPoints", spec := "fnExactMinimalPoints", apart := false, narrowed := true }
def FnExactMinimalPointsUptoSaid : Prop := fnExactMinimalPointsUptoRow.holds Try.pinned (OpenSpec.upto fnExactMinimalPointsSpec)

/-- 'laws.FnExactMaximalZeros', WHERE WHAT IT READS IS OF BULK AT MOST 1048576: true; the input reads as it did. -/
def fnExactMaximalZerosUptoRow : OpenClaim := { program := "ytlmhdocfdpbhmaa", sum := "e4791e6593acf0f31eaaf099f8bf6921352f4dcfb98590d4457c383ad636de11", func := "loop.example/g03403/laws.FnExactMaximalZeros", spec := "fnExactMaximalZeros", apart := false, narrowed := true }
def FnExactMaximalZerosUptoSaid : Prop := fnExactMaximalZerosUptoRow.holds Try.pinned (OpenSpec.upto fnExactMaximalZerosSpec)

/-- 'laws.FnExactDualTable', WHERE WHAT IT READS IS OF BULK AT MOST 1048576: true; the input reads as it did. -/
def fnExactDualTableUptoRow : OpenClaim := { program := "ytlmhdocfdpbhmaa", sum := "e4791e6593acf0f31eaaf099f8bf6921352f4dcfb98590d4457c383ad636de11", func := "loop.example/g03403/laws.FnExactDualTable", spec := "fnExactDualTable", unfollowed := true, recurses := true, apart := false, narrowed := true }
def FnExactDualTableUptoSaid : Prop := fnExactDualTableUptoRow.holds Try.pinned (OpenSpec.upto fnExactDualTableSpec)

/-- 'laws.FnExactIsSelfDual', WHERE WHAT IT READS IS OF BULK AT MOST 1048576: true; the input reads as it did. -/
def fnExactIsSelfDualUptoRow : OpenClaim := { program := "ytlmhdocfdpbhmaa", sum := "e4791e6593acf0f31eaaf099f8bf6921352f4dcfb98590d4457c383ad636de11", func := "loop.example/g03403/laws.FnExactIsSelfDual", spec := "fnExactIsSelfDual", unfollowed := true, recurses := true, apart := false, narrowed := true }
def FnExactIsSelfDualUptoSaid : Prop := fnExactIsSelfDualUptoRow.holds Try.pinned (OpenSpec.upto fnExactIsSelfDualSpec)

/-- 'laws.FnExactCountMonotone', WHERE WHAT IT READS IS OF BULK AT MOST 1048576: true; the input reads as it did. -/
def fnExactCountMonotoneUptoRow : OpenClaim := { program := "ytlmhdocfdpbhmaa", sum := "e4791e6593acf0f31eaaf099f8bf6921352f4dcfb98590d4457c383ad636de11", func := "loop.example/g03403/laws.FnExactCountMonotone", spec := "fnExactCountMonotone", unfollowed := true, recurses := true, apart := false, narrowed := true }
def FnExactCountMonotoneUptoSaid : Prop := fnExactCountMonotoneUptoRow.holds Try.pinned (OpenSpec.upto fnExactCountMonotoneSpec)

/-- 'laws.FnExactMonotoneHull', WHERE WHAT IT READS IS OF BULK AT MOST 1048576: true; the input reads as it did. -/
def fnExactMonotoneHullUptoRow : OpenClaim := { program := "ytlmhdocfdpbhmaa", sum := "e4791e6593acf0f31eaaf099f8bf6921352f4dcfb98590d4457c383ad636de11", func := "loop.example/g03403/laws.FnExactMonotoneHull", spec := "fnExactMonotoneHull", unfollowed := true, recurses := true, apart := false, narrowed := true }
def FnExactMonotoneHullUptoSaid : Prop := fnExactMonotoneHullUptoRow.holds Try.pinned (OpenSpec.upto fnExactMonotoneHullSpec)

/-- 'laws.FnExactTableOfPoints', WHERE WHAT IT READS IS OF BULK AT MOST 1048576: true; the input reads as it did. -/
def fnExactTableOfPointsUptoRow : OpenClaim := { program := "ytlmhdocfdpbhmaa", sum := "e4791e6593acf0f31eaaf099f8bf6921352f4dcfb98590d4457c383ad636de11", func := "loop.example/g03403/laws.FnExactTableOfPoints", spec := "fnExactTableOfPoints", unfollowed := true, recurses := true, apart := false, narrowed := true }
def FnExactTableOfPointsUptoSaid : Prop := fnExactTableOfPointsUptoRow.holds Try.pinned (OpenSpec.upto fnExactTableOfPointsSpec)

end Rows
end Go.Proofs.Ytlmhdocfdpbhmaa
