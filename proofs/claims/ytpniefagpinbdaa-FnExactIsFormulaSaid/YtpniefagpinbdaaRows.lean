/-
  No cell of these rows narrows 'for every input' (looked for: loops, veiled, ifaces, maps, wideKeys, modest, calm, conditions, laid).
  DERIVED. THE GIVEN ROWS OF THIS SEAT. 8 by the template 'for every input the law returns true; each argument reads behind the call as it read before'; 0 by the template 'total and deterministic' (their statements: YtpniefagpinbdaaTotals.lean).
  GIVEN WITH THE SEED: the statements are not yours to turn. If you find one false, say at which input.
  Laid BY PROGRAM, IN A SANDBOX (cutbox-rows.mjs): the forced cells as the released guide's own fill.sh prints them over the translation 1399082ea1279b81… (all of the seat's roots in one cut). By AI agents, Wed Nov 11 2026. No macro, syntax, notation, axiom, sorry.
-/
import Derived.Test.YtpniefagpinbdaaChecked
import GoSem.Claim
import GoSem.ClaimJoined
import GoSem.ClaimMapViews
import Derived.JoinedTies
import Derived.KernelRfl
namespace Go.Proofs.Ytpniefagpinbdaa
/- THE CELL 'sum', in the pinned program and in every row, IS THE sha256 OF THE DUMP (.gsa) THAT YtpniefagpinbdaaProg.lean LOADS. Nothing in Lean hashes anything: it is a label: what it is worth is what the hold of that sum in a sandbox is worth. -/
noncomputable def Try.pinned : Pinned := { name := "ytpniefagpinbdaa", sum := "1399082ea1279b81b13e50d12376dd2bf7e15c973f40cb6b62881eea7437d477", checked := Try.checked }
namespace Rows
def none {H : Type} : Left H := { results := [], args := [] }

/-- 'laws.FnExactIsFormula': WHATEVER THE INPUT: true; the input reads as it did. -/
def fnExactIsFormulaSpec : ChangeSpec := { name := "fnExactIsFormula", fn := fun _ => fun
  | [d] => { results := [.lit (.bool true)], args := [d] }
  | _ => none }
def fnExactIsFormulaRow : OpenClaim := { program := "ytpniefagpinbdaa", sum := "1399082ea1279b81b13e50d12376dd2bf7e15c973f40cb6b62881eea7437d477", func := "loop.example/g03403/laws.FnExactIsFormula", spec := "fnExactIsFormula", inPlace := ["internal/bytealg.IndexByteString"], recurses := true, apart := false }
def FnExactIsFormulaSaid : Prop := fnExactIsFormulaRow.holds Try.pinned (OpenSpec.ofChange fnExactIsFormulaSpec)

/-- ITS FALSE NEIGHBOUR: 'it returns false'. Refute it at one input. -/
def fnExactIsFormulaWrong : ChangeSpec := { name := "fnExactIsFormula", fn := fun _ => fun
  | [d] => { results := [.lit (.bool false)], args := [d] }
  | _ => none }
def FnExactIsFormulaWrongFalsely : Prop := fnExactIsFormulaRow.holds Try.pinned (OpenSpec.ofChange fnExactIsFormulaWrong)

/-- 'laws.FnExactTableOfFormula': WHATEVER THE INPUT: true; the input reads as it did. -/
def fnExactTableOfFormulaSpec : ChangeSpec := { name := "fnExactTableOfFormula", fn := fun _ => fun
  | [d1, d2] => { results := [.lit (.bool true)], args := [d1, d2] }
  | _ => none }
def fnExactTableOfFormulaRow : OpenClaim := { program := "ytpniefagpinbdaa", sum := "1399082ea1279b81b13e50d12376dd2bf7e15c973f40cb6b62881eea7437d477", func := "loop.example/g03403/laws.FnExactTableOfFormula", spec := "fnExactTableOfFormula", inPlace := ["internal/bytealg.IndexByteString", "internal/bytealg.IndexString"], unfollowed := true, recurses := true, named := ["internal/bytealg.MaxLen"], apart := false }
def FnExactTableOfFormulaSaid : Prop := fnExactTableOfFormulaRow.holds Try.pinned (OpenSpec.ofChange fnExactTableOfFormulaSpec)

/-- ITS FALSE NEIGHBOUR: 'it returns false'. Refute it at one input. -/
def fnExactTableOfFormulaWrong : ChangeSpec := { name := "fnExactTableOfFormula", fn := fun _ => fun
  | [d1, d2] => { results := [.lit (.bool false)], args := [d1, d2] }
  | _ => none }
def FnExactTableOfFormulaWrongFalsely : Prop := fnExactTableOfFormulaRow.holds Try.pinned (OpenSpec.ofChange fnExactTableOfFormulaWrong)

/-- 'laws.FnExactLeavesOf': WHATEVER THE INPUT: true; the input reads as it did. -/
def fnExactLeavesOfSpec : ChangeSpec := { name := "fnExactLeavesOf", fn := fun _ => fun
  | [d] => { results := [.lit (.bool true)], args := [d] }
  | _ => none }
def fnExactLeavesOfRow : OpenClaim := { program := "ytpniefagpinbdaa", sum := "1399082ea1279b81b13e50d12376dd2bf7e15c973f40cb6b62881eea7437d477", func := "loop.example/g03403/laws.FnExactLeavesOf", spec := "fnExactLeavesOf", inPlace := ["internal/bytealg.IndexByteString"], unfollowed := true, recurses := true, apart := false }
def FnExactLeavesOfSaid : Prop := fnExactLeavesOfRow.holds Try.pinned (OpenSpec.ofChange fnExactLeavesOfSpec)

/-- ITS FALSE NEIGHBOUR: 'it returns false'. Refute it at one input. -/
def fnExactLeavesOfWrong : ChangeSpec := { name := "fnExactLeavesOf", fn := fun _ => fun
  | [d] => { results := [.lit (.bool false)], args := [d] }
  | _ => none }
def FnExactLeavesOfWrongFalsely : Prop := fnExactLeavesOfRow.holds Try.pinned (OpenSpec.ofChange fnExactLeavesOfWrong)

/-- 'laws.FnExactDepthOf': WHATEVER THE INPUT: true; the input reads as it did. -/
def fnExactDepthOfSpec : ChangeSpec := { name := "fnExactDepthOf", fn := fun _ => fun
  | [d] => { results := [.lit (.bool true)], args := [d] }
  | _ => none }
def fnExactDepthOfRow : OpenClaim := { program := "ytpniefagpinbdaa", sum := "1399082ea1279b81b13e50d12376dd2bf7e15c973f40cb6b62881eea7437d477", func := "loop.example/g03403/laws.FnExactDepthOf", spec := "fnExactDepthOf", inPlace := ["internal/bytealg.IndexByteString"], unfollowed := true, recurses := true, apart := false }
def FnExactDepthOfSaid : Prop := fnExactDepthOfRow.holds Try.pinned (OpenSpec.ofChange fnExactDepthOfSpec)

/-- ITS FALSE NEIGHBOUR: 'it returns false'. Refute it at one input. -/
def fnExactDepthOfWrong : ChangeSpec := { name := "fnExactDepthOf", fn := fun _ => fun
  | [d] => { results := [.lit (.bool false)], args := [d] }
  | _ => none }
def FnExactDepthOfWrongFalsely : Prop := fnExactDepthOfRow.holds Try.pinned (OpenSpec.ofChange fnExactDepthOfWrong)

/-- 'laws.FnExactPushNegations': WHATEVER THE INPUT: true; the input reads as it did. -/
def fnExactPushNegationsSpec : ChangeSpec := { name := "fnExactPushNegations", fn := fun _ => fun
  | [d] => { results := [.lit (.bool true)], args := [d] }
  | _ => none }
def fnExactPushNegationsRow : OpenClaim := { program := "ytpniefagpinbdaa", sum := "1399082ea1279b81b13e50d12376dd2bf7e15c973f40cb6b62881eea7437d477", func := "loop.example/g03403/laws.FnExactPushNegations", spec := "fnExactPushNegations", inPlace := ["internal/bytealg.IndexByteString"], unfollowed := true, recurses := true, apart := false }
def FnExactPushNegationsSaid : Prop := fnExactPushNegationsRow.holds Try.pinned (OpenSpec.ofChange fnExactPushNegationsSpec)

/-- ITS FALSE NEIGHBOUR: 'it returns false'. Refute it at one input. -/
def fnExactPushNegationsWrong : ChangeSpec := { name := "fnExactPushNegations", fn := fun _ => fun
  | [d] => { results := [.lit (.bool false)], args := [d] }
  | _ => none }
def FnExactPushNegationsWrongFalsely : Prop := fnExactPushNegationsRow.holds Try.pinned (OpenSpec.ofChange fnExactPushNegationsWrong)

/-- 'laws.FnExactIsMonotoneFormula': WHATEVER THE INPUT: true; the input reads as it did. -/
def fnExactIsMonotoneFormulaSpec : ChangeSpec := { name := "fnExactIsMonotoneFormula", fn := fun _ => fun
  | [d] => { results := [.lit (.bool true)], args := [d] }
  | _ => none }
def fnExactIsMonotoneFormulaRow : OpenClaim := { program := "ytpniefagpinbdaa", sum := "1399082ea1279b81b13e50d12376dd2bf7e15c973f40cb6b62881eea7437d477", func := "loop.example/g03403/laws.FnExactIsMonotoneFormula", spec := "fnExactIsMonotoneFormula", inPlace := ["internal/bytealg.IndexByteString", "internal/bytealg.IndexString"], recurses := true, named := ["internal/bytealg.MaxLen"], apart := false }
def FnExactIsMonotoneFormulaSaid : Prop := fnExactIsMonotoneFormulaRow.holds Try.pinned (OpenSpec.ofChange fnExactIsMonotoneFormulaSpec)

/-- ITS FALSE NEIGHBOUR: 'it returns false'. Refute it at one input. -/
def fnExactIsMonotoneFormulaWrong : ChangeSpec := { name := "fnExactIsMonotoneFormula", fn := fun _ => fun
  | [d] => { results := [.lit (.bool false)], args := [d] }
  | _ => none }
def FnExactIsMonotoneFormulaWrongFalsely : Prop := fnExactIsMonotoneFormulaRow.holds Try.pinned (OpenSpec.ofChange fnExactIsMonotoneFormulaWrong)

/-- 'laws.FnExactIsReadOnce': WHATEVER THE INPUT: true; the input reads as it did. -/
def fnExactIsReadOnceSpec : ChangeSpec := { name := "fnExactIsReadOnce", fn := fun _ => fun
  | [d] => { results := [.lit (.bool true)], args := [d] }
  | _ => none }
def fnExactIsReadOnceRow : OpenClaim := { program := "ytpniefagpinbdaa", sum := "1399082ea1279b81b13e50d12376dd2bf7e15c973f40cb6b62881eea7437d477", func := "loop.example/g03403/laws.FnExactIsReadOnce", spec := "fnExactIsReadOnce", inPlace := ["internal/bytealg.IndexByteString", "internal/bytealg.CountString", "internal/bytealg.IndexString"], recurses := true, named := ["internal/bytealg.MaxLen"], apart := false }
def FnExactIsReadOnceSaid : Prop := fnExactIsReadOnceRow.holds Try.pinned (OpenSpec.ofChange fnExactIsReadOnceSpec)

/-- ITS FALSE NEIGHBOUR: 'it returns false'. Refute it at one input. -/
def fnExactIsReadOnceWrong : ChangeSpec := { name := "fnExactIsReadOnce", fn := fun _ => fun
  | [d] => { results := [.lit (.bool false)], args := [d] }
  | _ => none }
def FnExactIsReadOnceWrongFalsely : Prop := fnExactIsReadOnceRow.holds Try.pinned (OpenSpec.ofChange fnExactIsReadOnceWrong)

/-- 'laws.FnExactDualFormula': WHATEVER THE INPUT: true; the input reads as it did. -/
def fnExactDualFormulaSpec : ChangeSpec := { name := "fnExactDualFormula", fn := fun _ => fun
  | [d] => { results := [.lit (.bool true)], args := [d] }
  | _ => none }
def fnExactDualFormulaRow : OpenClaim := { program := "ytpniefagpinbdaa", sum := "1399082ea1279b81b13e50d12376dd2bf7e15c973f40cb6b62881eea7437d477", func := "loop.example/g03403/laws.FnExactDualFormula", spec := "fnExactDualFormula", inPlace := ["internal/bytealg.IndexByteString", "internal/bytealg.IndexString"], recurses := true, named := ["internal/bytealg.MaxLen"], apart := false }
def FnExactDualFormulaSaid : Prop := fnExactDualFormulaRow.holds Try.pinned (OpenSpec.ofChange fnExactDualFormulaSpec)

/-- ITS FALSE NEIGHBOUR: 'it returns false'. Refute it at one input. -/
def fnExactDualFormulaWrong : ChangeSpec := { name := "fnExactDualFormula", fn := fun _ => fun
  | [d] => { results := [.lit (.bool false)], args := [d] }
  | _ => none }
def FnExactDualFormulaWrongFalsely : Prop := fnExactDualFormulaRow.holds Try.pinned (OpenSpec.ofChange fnExactDualFormulaWrong)

/- THE SECOND FORM. 'bulk': how many values and letters a reading holds, each counted each time it is reached (what is shared counts as often as it is met; a slice's spare places count too). A statement '..UptoSaid' is the law's where the arguments, and the package variables that the reading takes, are together of bulk at most 1048576: NARROWER than '..Said'. Prove '..Said' where nothing that the law and all that it calls make is longer than what came in: it says more and counts as full. Else prove '..UptoSaid'. A law counts once. -/
mutual
def uptoBulk {H : Type} : DataW H → Nat
  | .lit (.string bytes) => bytes.length + 1
  | .lit _ => 1
  | .nil => 1
  | .ptr d => uptoBulk d + 1
  | .slice elems spare => uptoBulkAll elems + uptoBulkAll spare + 1
  | .agg parts => uptoBulkAll parts + 1
  | .iface _ d => uptoBulk d + 1
  | .map entries => uptoBulkEntries entries + 1
  | .held _ => 1
def uptoBulkAll {H : Type} : List (DataW H) → Nat
  | [] => 0
  | d :: r => uptoBulk d + uptoBulkAll r
def uptoBulkEntries {H : Type} : List (Lit × DataW H) → Nat
  | [] => 0
  | x :: r => uptoBulkEntry x + uptoBulkEntries r
def uptoBulkEntry {H : Type} : Lit × DataW H → Nat
  | (.string bytes, d) => bytes.length + uptoBulk d + 1
  | (_, d) => uptoBulk d + 1
 end
def uptoSmall : (H : Type) → List (DataW H) → Bool := fun _ ds => decide (uptoBulkAll ds ≤ 1048576)
def OpenSpec.upto (s : _root_.Go.ChangeSpec) : _root_.Go.OpenSpec := { _root_.Go.OpenSpec.ofChange s with cond := some uptoSmall }

/-- 'laws.FnExactIsFormula', WHERE WHAT IT READS IS OF BULK AT MOST 1048576: true; the input reads as it did. -/
def fnExactIsFormulaUptoRow : OpenClaim := { program := "ytpniefagpinbdaa", sum := "1399082ea1279b81b13e50d12376dd2bf7e15c973f40cb6b62881eea7437d477", func := "loop.example/g03403/laws.FnExactIsFormula", spec := "fnExactIsFormula", inPlace := ["internal/bytealg.IndexByteString"], recurses := true, apart := false, narrowed := true }
def FnExactIsFormulaUptoSaid : Prop := fnExactIsFormulaUptoRow.holds Try.pinned (OpenSpec.upto fnExactIsFormulaSpec)

/-- 'laws.FnExactTableOfFormula', WHERE WHAT IT READS IS OF BULK AT MOST 1048576: true; the input reads as it did. -/
def fnExactTableOfFormulaUptoRow : OpenClaim := { program := "ytpniefagpinbdaa", sum := "1399082ea1279b81b13e50d12376dd2bf7e15c973f40cb6b62881eea7437d477", func := "loop.example/g03403/laws.FnExactTableOfFormula", spec := "fnExactTableOfFormula", inPlace := ["internal/bytealg.IndexByteString", "internal/bytealg.IndexString"], unfollowed := true, recurses := true, named := ["internal/bytealg.MaxLen"], apart := false, narrowed := true }
def FnExactTableOfFormulaUptoSaid : Prop := fnExactTableOfFormulaUptoRow.holds Try.pinned (OpenSpec.upto fnExactTableOfFormulaSpec)

/-- 'laws.FnExactLeavesOf', WHERE WHAT IT READS IS OF BULK AT MOST 1048576: true; the input reads as it did. -/
def fnExactLeavesOfUptoRow : OpenClaim := { program := "ytpniefagpinbdaa", sum := "1399082ea1279b81b13e50d12376dd2bf7e15c973f40cb6b62881eea7437d477", func := "loop.example/g03403/laws.FnExactLeavesOf", spec := "fnExactLeavesOf", inPlace := ["internal/bytealg.IndexByteString"], unfollowed := true, recurses := true, apart := false, narrowed := true }
def FnExactLeavesOfUptoSaid : Prop := fnExactLeavesOfUptoRow.holds Try.pinned (OpenSpec.upto fnExactLeavesOfSpec)

/-- 'laws.FnExactDepthOf', WHERE WHAT IT READS IS OF BULK AT MOST 1048576: true; the input reads as it did. -/
def fnExactDepthOfUptoRow : OpenClaim := { program := "ytpniefagpinbdaa", sum := "1399082ea1279b81b13e50d12376dd2bf7e15c973f40cb6b62881eea7437d477", func := "loop.example/g03403/laws.FnExactDepthOf", spec := "fnExactDepthOf", inPlace := ["internal/bytealg.IndexByteString"], unfollowed := true, recurses := true, apart := false, narrowed := true }
def FnExactDepthOfUptoSaid : Prop := fnExactDepthOfUptoRow.holds Try.pinned (OpenSpec.upto fnExactDepthOfSpec)

/-- 'laws.FnExactPushNegations', WHERE WHAT IT READS IS OF BULK AT MOST 1048576: true; the input reads as it did. -/
def fnExactPushNegationsUptoRow : OpenClaim := { program := "ytpniefagpinbdaa", sum := "1399082ea1279b81b13e50d12376dd2bf7e15c973f40cb6b62881eea7437d477", func := "loop.example/g03403/laws.FnExactPushNegations", spec := "fnExactPushNegations", inPlace := ["internal/bytealg.IndexByteString"], unfollowed := true, recurses := true, apart := false, narrowed := true }
def FnExactPushNegationsUptoSaid : Prop := fnExactPushNegationsUptoRow.holds Try.pinned (OpenSpec.upto fnExactPushNegationsSpec)

/-- 'laws.FnExactIsMonotoneFormula', WHERE WHAT IT READS IS OF BULK AT MOST 1048576: true; the input reads as it did. -/
def fnExactIsMonotoneFormulaUptoRow : OpenClaim := { program := "ytpniefagpinbdaa", sum := "1399082ea1279b81b13e50d12376dd2bf7e15c973f40cb6b62881eea7437d477", func := "loop.example/g03403/laws.FnExactIsMonotoneFormula", spec := "fnExactIsMonotoneFormula", inPlace := ["internal/bytealg.IndexByteString", "internal/bytealg.IndexString"], recurses := true, named := ["internal/bytealg.MaxLen"], apart := false, narrowed := true }
def FnExactIsMonotoneFormulaUptoSaid : Prop := fnExactIsMonotoneFormulaUptoRow.holds Try.pinned (OpenSpec.upto fnExactIsMonotoneFormulaSpec)

/-- 'laws.FnExactIsReadOnce', WHERE WHAT IT READS IS OF BULK AT MOST 1048576: true; the input reads as it did. -/
def fnExactIsReadOnceUptoRow : OpenClaim := { program := "ytpniefagpinbdaa", sum := "1399082ea1279b81b13e50d12376dd2bf7e15c973f40cb6b62881eea7437d477", func := "loop.example/g03403/laws.FnExactIsReadOnce", spec := "fnExactIsReadOnce", inPlace := ["internal/bytealg.IndexByteString", "internal/bytealg.CountString", "internal/bytealg.IndexString"], recurses := true, named := ["internal/bytealg.MaxLen"], apart := false, narrowed := true }
def FnExactIsReadOnceUptoSaid : Prop := fnExactIsReadOnceUptoRow.holds Try.pinned (OpenSpec.upto fnExactIsReadOnceSpec)

/-- 'laws.FnExactDualFormula', WHERE WHAT IT READS IS OF BULK AT MOST 1048576: true; the input reads as it did. -/
def fnExactDualFormulaUptoRow : OpenClaim := { program := "ytpniefagpinbdaa", sum := "1399082ea1279b81b13e50d12376dd2bf7e15c973f40cb6b62881eea7437d477", func := "loop.example/g03403/laws.FnExactDualFormula", spec := "fnExactDualFormula", inPlace := ["internal/bytealg.IndexByteString", "internal/bytealg.IndexString"], recurses := true, named := ["internal/bytealg.MaxLen"], apart := false, narrowed := true }
def FnExactDualFormulaUptoSaid : Prop := fnExactDualFormulaUptoRow.holds Try.pinned (OpenSpec.upto fnExactDualFormulaSpec)

end Rows
end Go.Proofs.Ytpniefagpinbdaa
