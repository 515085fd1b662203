/-
  No cell of these rows narrows 'for every input' (looked for: loops, veiled, ifaces, maps, wideKeys, modest, calm, conditions, laid).
  DERIVED. THE GIVEN ROWS OF THIS SEAT. 4 by the template 'for every input the law returns true; each argument reads behind the call as it read before'; 0 by the template 'total and deterministic' (their statements: YtafblnhfnjfhcaaTotals.lean).
  GIVEN WITH THE SEED: the statements are not yours to turn. If you find one false, say at which input.
  Laid BY PROGRAM, IN A SANDBOX (cutbox-rows.mjs): the forced cells as the released guide's own fill.sh prints them over the translation e7d4fe65c9c141da… (all of the seat's roots in one cut). By AI agents, Wed Nov 11 2026. No macro, syntax, notation, axiom, sorry.
-/
import Derived.Test.YtafblnhfnjfhcaaChecked
import GoSem.Claim
import GoSem.ClaimJoined
import GoSem.ClaimMapViews
import Derived.JoinedTies
import Derived.KernelRfl
namespace Go.Proofs.Ytafblnhfnjfhcaa
/- THE CELL 'sum', in the pinned program and in every row, IS THE sha256 OF THE DUMP (.gsa) THAT YtafblnhfnjfhcaaProg.lean LOADS. Nothing in Lean hashes anything: it is a label: what it is worth is what the hold of that sum in a sandbox is worth. -/
noncomputable def Try.pinned : Pinned := { name := "ytafblnhfnjfhcaa", sum := "e7d4fe65c9c141dad1de0cfbe0e5b07c5e792395e1f9e4008c56f9ca7cea86ce", checked := Try.checked }
namespace Rows
def none {H : Type} : Left H := { results := [], args := [] }

/-- 'laws.FnExactInfluenceOf': WHATEVER THE INPUT: true; the input reads as it did. -/
def fnExactInfluenceOfSpec : ChangeSpec := { name := "fnExactInfluenceOf", fn := fun _ => fun
  | [d1, d2] => { results := [.lit (.bool true)], args := [d1, d2] }
  | _ => none }
def fnExactInfluenceOfRow : OpenClaim := { program := "ytafblnhfnjfhcaa", sum := "e7d4fe65c9c141dad1de0cfbe0e5b07c5e792395e1f9e4008c56f9ca7cea86ce", func := "loop.example/g03403/laws.FnExactInfluenceOf", spec := "fnExactInfluenceOf", unfollowed := true, recurses := true, apart := false }
def FnExactInfluenceOfSaid : Prop := fnExactInfluenceOfRow.holds Try.pinned (OpenSpec.ofChange fnExactInfluenceOfSpec)

/-- ITS FALSE NEIGHBOUR: 'it returns false'. Refute it at one input. -/
def fnExactInfluenceOfWrong : ChangeSpec := { name := "fnExactInfluenceOf", fn := fun _ => fun
  | [d1, d2] => { results := [.lit (.bool false)], args := [d1, d2] }
  | _ => none }
def FnExactInfluenceOfWrongFalsely : Prop := fnExactInfluenceOfRow.holds Try.pinned (OpenSpec.ofChange fnExactInfluenceOfWrong)

/-- 'laws.FnExactTotalInfluence': WHATEVER THE INPUT: true; the input reads as it did. -/
def fnExactTotalInfluenceSpec : ChangeSpec := { name := "fnExactTotalInfluence", fn := fun _ => fun
  | [d] => { results := [.lit (.bool true)], args := [d] }
  | _ => none }
def fnExactTotalInfluenceRow : OpenClaim := { program := "ytafblnhfnjfhcaa", sum := "e7d4fe65c9c141dad1de0cfbe0e5b07c5e792395e1f9e4008c56f9ca7cea86ce", func := "loop.example/g03403/laws.FnExactTotalInfluence", spec := "fnExactTotalInfluence", unfollowed := true, recurses := true, apart := false }
def FnExactTotalInfluenceSaid : Prop := fnExactTotalInfluenceRow.holds Try.pinned (OpenSpec.ofChange fnExactTotalInfluenceSpec)

/-- ITS FALSE NEIGHBOUR: 'it returns false'. Refute it at one input. -/
def fnExactTotalInfluenceWrong : ChangeSpec := { name := "fnExactTotalInfluence", fn := fun _ => fun
  | [d] => { results := [.lit (.bool false)], args := [d] }
  | _ => none }
def FnExactTotalInfluenceWrongFalsely : Prop := fnExactTotalInfluenceRow.holds Try.pinned (OpenSpec.ofChange fnExactTotalInfluenceWrong)

/-- 'laws.FnExactVarianceOf': WHATEVER THE INPUT: true; the input reads as it did. -/
def fnExactVarianceOfSpec : ChangeSpec := { name := "fnExactVarianceOf", fn := fun _ => fun
  | [d] => { results := [.lit (.bool true)], args := [d] }
  | _ => none }
def fnExactVarianceOfRow : OpenClaim := { program := "ytafblnhfnjfhcaa", sum := "e7d4fe65c9c141dad1de0cfbe0e5b07c5e792395e1f9e4008c56f9ca7cea86ce", func := "loop.example/g03403/laws.FnExactVarianceOf", spec := "fnExactVarianceOf", apart := false }
def FnExactVarianceOfSaid : Prop := fnExactVarianceOfRow.holds Try.pinned (OpenSpec.ofChange fnExactVarianceOfSpec)

/-- ITS FALSE NEIGHBOUR: 'it returns false'. Refute it at one input. -/
def fnExactVarianceOfWrong : ChangeSpec := { name := "fnExactVarianceOf", fn := fun _ => fun
  | [d] => { results := [.lit (.bool false)], args := [d] }
  | _ => none }
def FnExactVarianceOfWrongFalsely : Prop := fnExactVarianceOfRow.holds Try.pinned (OpenSpec.ofChange fnExactVarianceOfWrong)

/-- 'laws.FnExactMostInfluential': WHATEVER THE INPUT: true; the input reads as it did. -/
def fnExactMostInfluentialSpec : ChangeSpec := { name := "fnExactMostInfluential", fn := fun _ => fun
  | [d] => { results := [.lit (.bool true)], args := [d] }
  | _ => none }
def fnExactMostInfluentialRow : OpenClaim := { program := "ytafblnhfnjfhcaa", sum := "e7d4fe65c9c141dad1de0cfbe0e5b07c5e792395e1f9e4008c56f9ca7cea86ce", func := "loop.example/g03403/laws.FnExactMostInfluential", spec := "fnExactMostInfluential", unfollowed := true, recurses := true, apart := false }
def FnExactMostInfluentialSaid : Prop := fnExactMostInfluentialRow.holds Try.pinned (OpenSpec.ofChange fnExactMostInfluentialSpec)

/-- ITS FALSE NEIGHBOUR: 'it returns false'. Refute it at one input. -/
def fnExactMostInfluentialWrong : ChangeSpec := { name := "fnExactMostInfluential", fn := fun _ => fun
  | [d] => { results := [.lit (.bool false)], args := [d] }
  | _ => none }
def FnExactMostInfluentialWrongFalsely : Prop := fnExactMostInfluentialRow.holds Try.pinned (OpenSpec.ofChange fnExactMostInfluentialWrong)

/- THE SECOND FORM. 'bulk': how many values and letters a reading holds, each counted each time it is reached (what is shared counts as often as it is met; a slice's spare places count too). A statement '..UptoSaid' is the law's where the arguments, and the package variables that the reading takes, are together of bulk at most 1048576: NARROWER than '..Said'. Prove '..Said' where nothing that the law and all that it calls make is longer than what came in: it says more and counts as full. Else prove '..UptoSaid'. A law counts once. -/
mutual
def uptoBulk {H : Type} : DataW H → Nat
  | .lit (.string bytes) => bytes.length + 1
  | .lit _ => 1
  | .nil => 1
  | .ptr d => uptoBulk d + 1
  | .slice elems spare => uptoBulkAll elems + uptoBulkAll spare + 1
  | .agg parts => uptoBulkAll parts + 1
  | .iface _ d => uptoBulk d + 1
  | .map entries => uptoBulkEntries entries + 1
  | .held _ => 1
def uptoBulkAll {H : Type} : List (DataW H) → Nat
  | [] => 0
  | d :: r => uptoBulk d + uptoBulkAll r
def uptoBulkEntries {H : Type} : List (Lit × DataW H) → Nat
  | [] => 0
  | x :: r => uptoBulkEntry x + uptoBulkEntries r
def uptoBulkEntry {H : Type} : Lit × DataW H → Nat
  | (.string bytes, d) => bytes.length + uptoBulk d + 1
  | (_, d) => uptoBulk d + 1
 end
def uptoSmall : (H : Type) → List (DataW H) → Bool := fun _ ds => decide (uptoBulkAll ds ≤ 1048576)
def OpenSpec.upto (s : _root_.Go.ChangeSpec) : _root_.Go.OpenSpec := { _root_.Go.OpenSpec.ofChange s with cond := some uptoSmall }

/-- 'laws.FnExactInfluenceOf', WHERE WHAT IT READS IS OF BULK AT MOST 1048576: true; the input reads as it did. -/
def fnExactInfluenceOfUptoRow : OpenClaim := { program := "ytafblnhfnjfhcaa", sum := "e7d4fe65c9c141dad1de0cfbe0e5b07c5e792395e1f9e4008c56f9ca7cea86ce", func := "loop.example/g03403/laws.FnExactInfluenceOf", spec := "fnExactInfluenceOf", unfollowed := true, recurses := true, apart := false, narrowed := true }
def FnExactInfluenceOfUptoSaid : Prop := fnExactInfluenceOfUptoRow.holds Try.pinned (OpenSpec.upto fnExactInfluenceOfSpec)

/-- 'laws.FnExactTotalInfluence', WHERE WHAT IT READS IS OF BULK AT MOST 1048576: true; the input reads as it did. -/
def fnExactTotalInfluenceUptoRow : OpenClaim := { program := "ytafblnhfnjfhcaa", sum := "e7d4fe65c9c141dad1de0cfbe0e5b07c5e792395e1f9e4008c56f9ca7cea86ce", func := "loop.example/g03403/laws.FnExactTotalInfluence", spec := "fnExactTotalInfluence", unfollowed := true, recurses := true, apart := false, narrowed := true }
def FnExactTotalInfluenceUptoSaid : Prop := fnExactTotalInfluenceUptoRow.holds Try.pinned (OpenSpec.upto fnExactTotalInfluenceSpec)

/-- 'laws.FnExactVarianceOf', WHERE WHAT IT READS IS OF BULK AT MOST 1048576: true; the input reads as it did. -/
def fnExactVarianceOfUptoRow : OpenClaim := { program := "ytafblnhfnjfhcaa", sum := "e7d4fe65c9c141dad1de0cfbe0e5b07c5e792395e1f9e4008c56f9ca7cea86ce", func := "loop.example/g03403/laws.FnExactVarianceOf", spec := "fnExactVarianceOf", apart := false, narrowed := true }
def FnExactVarianceOfUptoSaid : Prop := fnExactVarianceOfUptoRow.holds Try.pinned (OpenSpec.upto fnExactVarianceOfSpec)

/-- 'laws.FnExactMostInfluential', WHERE WHAT IT READS IS OF BULK AT MOST 1048576: true; the input reads as it did. -/
def fnExactMostInfluentialUptoRow : OpenClaim := { program := "ytafblnhfnjfhcaa", sum := "e7d4fe65c9c141dad1de0cfbe0e5b07c5e792395e1f9e4008c56f9ca7cea86ce", func := "loop.example/g03403/laws.FnExactMostInfluential", spec := "fnExactMostInfluential", unfollowed := true, recurses := true, apart := false, narrowed := true }
def FnExactMostInfluentialUptoSaid : Prop := fnExactMostInfluentialUptoRow.holds Try.pinned (OpenSpec.upto fnExactMostInfluentialSpec)

end Rows
end Go.Proofs.Ytafblnhfnjfhcaa
