/-
  No cell of these rows narrows 'for every input' (looked for: loops, veiled, ifaces, maps, wideKeys, modest, calm, conditions, laid).
  DERIVED. THE GIVEN ROWS OF THIS SEAT. 8 by the template 'for every input the law returns true; each argument reads behind the call as it read before'; 0 by the template 'total and deterministic' (their statements: YtbgjiblfnljigaaTotals.lean).
  GIVEN WITH THE SEED: the statements are not yours to turn. If you find one false, say at which input.
  Laid BY PROGRAM, IN A SANDBOX (cutbox-rows.mjs): the forced cells as the released guide's own fill.sh prints them over the translation 8245af117e56e11f… (all of the seat's roots in one cut). By AI agents, Wed Nov 11 2026. No macro, syntax, notation, axiom, sorry.
-/
import Derived.Test.YtbgjiblfnljigaaChecked
import GoSem.Claim
import GoSem.ClaimJoined
import GoSem.ClaimMapViews
import Derived.JoinedTies
import Derived.KernelRfl
namespace Go.Proofs.Ytbgjiblfnljigaa
/- THE CELL 'sum', in the pinned program and in every row, IS THE sha256 OF THE DUMP (.gsa) THAT YtbgjiblfnljigaaProg.lean LOADS. Nothing in Lean hashes anything: it is a label: what it is worth is what the hold of that sum in a sandbox is worth. -/
noncomputable def Try.pinned : Pinned := { name := "ytbgjiblfnljigaa", sum := "8245af117e56e11f9efac36a9c1c73fb429ebcfd48053ab5897841289eec008a", checked := Try.checked }
namespace Rows
def none {H : Type} : Left H := { results := [], args := [] }

/-- 'laws.FnExactSensitivityAt': WHATEVER THE INPUT: true; the input reads as it did. -/
def fnExactSensitivityAtSpec : ChangeSpec := { name := "fnExactSensitivityAt", fn := fun _ => fun
  | [d1, d2] => { results := [.lit (.bool true)], args := [d1, d2] }
  | _ => none }
def fnExactSensitivityAtRow : OpenClaim := { program := "ytbgjiblfnljigaa", sum := "8245af117e56e11f9efac36a9c1c73fb429ebcfd48053ab5897841289eec008a", func := "loop.example/g03403/laws.FnExactSensitivityAt", spec := "fnExactSensitivityAt", apart := false }
def FnExactSensitivityAtSaid : Prop := fnExactSensitivityAtRow.holds Try.pinned (OpenSpec.ofChange fnExactSensitivityAtSpec)

/-- ITS FALSE NEIGHBOUR: 'it returns false'. Refute it at one input. -/
def fnExactSensitivityAtWrong : ChangeSpec := { name := "fnExactSensitivityAt", fn := fun _ => fun
  | [d1, d2] => { results := [.lit (.bool false)], args := [d1, d2] }
  | _ => none }
def FnExactSensitivityAtWrongFalsely : Prop := fnExactSensitivityAtRow.holds Try.pinned (OpenSpec.ofChange fnExactSensitivityAtWrong)

/-- 'laws.FnExactSensitivityOf': WHATEVER THE INPUT: true; the input reads as it did. -/
def fnExactSensitivityOfSpec : ChangeSpec := { name := "fnExactSensitivityOf", fn := fun _ => fun
  | [d] => { results := [.lit (.bool true)], args := [d] }
  | _ => none }
def fnExactSensitivityOfRow : OpenClaim := { program := "ytbgjiblfnljigaa", sum := "8245af117e56e11f9efac36a9c1c73fb429ebcfd48053ab5897841289eec008a", func := "loop.example/g03403/laws.FnExactSensitivityOf", spec := "fnExactSensitivityOf", unfollowed := true, recurses := true, apart := false }
def FnExactSensitivityOfSaid : Prop := fnExactSensitivityOfRow.holds Try.pinned (OpenSpec.ofChange fnExactSensitivityOfSpec)

/-- ITS FALSE NEIGHBOUR: 'it returns false'. Refute it at one input. -/
def fnExactSensitivityOfWrong : ChangeSpec := { name := "fnExactSensitivityOf", fn := fun _ => fun
  | [d] => { results := [.lit (.bool false)], args := [d] }
  | _ => none }
def FnExactSensitivityOfWrongFalsely : Prop := fnExactSensitivityOfRow.holds Try.pinned (OpenSpec.ofChange fnExactSensitivityOfWrong)

/-- 'laws.FnExactIsSensitiveBlock': WHATEVER THE INPUT: true; the input reads as it did. -/
def fnExactIsSensitiveBlockSpec : ChangeSpec := { name := "fnExactIsSensitiveBlock", fn := fun _ => fun
  | [d1, d2, d3] => { results := [.lit (.bool true)], args := [d1, d2, d3] }
  | _ => none }
def fnExactIsSensitiveBlockRow : OpenClaim := { program := "ytbgjiblfnljigaa", sum := "8245af117e56e11f9efac36a9c1c73fb429ebcfd48053ab5897841289eec008a", func := "loop.example/g03403/laws.FnExactIsSensitiveBlock", spec := "fnExactIsSensitiveBlock", apart := false }
def FnExactIsSensitiveBlockSaid : Prop := fnExactIsSensitiveBlockRow.holds Try.pinned (OpenSpec.ofChange fnExactIsSensitiveBlockSpec)

/-- ITS FALSE NEIGHBOUR: 'it returns false'. Refute it at one input. -/
def fnExactIsSensitiveBlockWrong : ChangeSpec := { name := "fnExactIsSensitiveBlock", fn := fun _ => fun
  | [d1, d2, d3] => { results := [.lit (.bool false)], args := [d1, d2, d3] }
  | _ => none }
def FnExactIsSensitiveBlockWrongFalsely : Prop := fnExactIsSensitiveBlockRow.holds Try.pinned (OpenSpec.ofChange fnExactIsSensitiveBlockWrong)

/-- 'laws.FnExactMinimalBlocks': WHATEVER THE INPUT: true; the input reads as it did. -/
def fnExactMinimalBlocksSpec : ChangeSpec := { name := "fnExactMinimalBlocks", fn := fun _ => fun
  | [d1, d2] => { results := [.lit (.bool true)], args := [d1, d2] }
  | _ => none }
def fnExactMinimalBlocksRow : OpenClaim := { program := "ytbgjiblfnljigaa", sum := "8245af117e56e11f9efac36a9c1c73fb429ebcfd48053ab5897841289eec008a", func := "loop.example/g03403/laws.FnExactMinimalBlocks", spec := "fnExactMinimalBlocks", apart := false }
def FnExactMinimalBlocksSaid : Prop := fnExactMinimalBlocksRow.holds Try.pinned (OpenSpec.ofChange fnExactMinimalBlocksSpec)

/-- ITS FALSE NEIGHBOUR: 'it returns false'. Refute it at one input. -/
def fnExactMinimalBlocksWrong : ChangeSpec := { name := "fnExactMinimalBlocks", fn := fun _ => fun
  | [d1, d2] => { results := [.lit (.bool false)], args := [d1, d2] }
  | _ => none }
def FnExactMinimalBlocksWrongFalsely : Prop := fnExactMinimalBlocksRow.holds Try.pinned (OpenSpec.ofChange fnExactMinimalBlocksWrong)

/-- 'laws.FnExactBlockSensitivityAt': WHATEVER THE INPUT: true; the input reads as it did. -/
def fnExactBlockSensitivityAtSpec : ChangeSpec := { name := "fnExactBlockSensitivityAt", fn := fun _ => fun
  | [d1, d2] => { results := [.lit (.bool true)], args := [d1, d2] }
  | _ => none }
def fnExactBlockSensitivityAtRow : OpenClaim := { program := "ytbgjiblfnljigaa", sum := "8245af117e56e11f9efac36a9c1c73fb429ebcfd48053ab5897841289eec008a", func := "loop.example/g03403/laws.FnExactBlockSensitivityAt", spec := "fnExactBlockSensitivityAt", recurses := true, apart := false }
def FnExactBlockSensitivityAtSaid : Prop := fnExactBlockSensitivityAtRow.holds Try.pinned (OpenSpec.ofChange fnExactBlockSensitivityAtSpec)

/-- ITS FALSE NEIGHBOUR: 'it returns false'. Refute it at one input. -/
def fnExactBlockSensitivityAtWrong : ChangeSpec := { name := "fnExactBlockSensitivityAt", fn := fun _ => fun
  | [d1, d2] => { results := [.lit (.bool false)], args := [d1, d2] }
  | _ => none }
def FnExactBlockSensitivityAtWrongFalsely : Prop := fnExactBlockSensitivityAtRow.holds Try.pinned (OpenSpec.ofChange fnExactBlockSensitivityAtWrong)

/-- 'laws.FnExactBlockSensitivityOf': WHATEVER THE INPUT: true; the input reads as it did. -/
def fnExactBlockSensitivityOfSpec : ChangeSpec := { name := "fnExactBlockSensitivityOf", fn := fun _ => fun
  | [d] => { results := [.lit (.bool true)], args := [d] }
  | _ => none }
def fnExactBlockSensitivityOfRow : OpenClaim := { program := "ytbgjiblfnljigaa", sum := "8245af117e56e11f9efac36a9c1c73fb429ebcfd48053ab5897841289eec008a", func := "loop.example/g03403/laws.FnExactBlockSensitivityOf", spec := "fnExactBlockSensitivityOf", unfollowed := true, recurses := true, apart := false }
def FnExactBlockSensitivityOfSaid : Prop := fnExactBlockSensitivityOfRow.holds Try.pinned (OpenSpec.ofChange fnExactBlockSensitivityOfSpec)

/-- ITS FALSE NEIGHBOUR: 'it returns false'. Refute it at one input. -/
def fnExactBlockSensitivityOfWrong : ChangeSpec := { name := "fnExactBlockSensitivityOf", fn := fun _ => fun
  | [d] => { results := [.lit (.bool false)], args := [d] }
  | _ => none }
def FnExactBlockSensitivityOfWrongFalsely : Prop := fnExactBlockSensitivityOfRow.holds Try.pinned (OpenSpec.ofChange fnExactBlockSensitivityOfWrong)

/-- 'laws.FnExactSensitiveEdges': WHATEVER THE INPUT: true; the input reads as it did. -/
def fnExactSensitiveEdgesSpec : ChangeSpec := { name := "fnExactSensitiveEdges", fn := fun _ => fun
  | [d] => { results := [.lit (.bool true)], args := [d] }
  | _ => none }
def fnExactSensitiveEdgesRow : OpenClaim := { program := "ytbgjiblfnljigaa", sum := "8245af117e56e11f9efac36a9c1c73fb429ebcfd48053ab5897841289eec008a", func := "loop.example/g03403/laws.FnExactSensitiveEdges", spec := "fnExactSensitiveEdges", apart := false }
def FnExactSensitiveEdgesSaid : Prop := fnExactSensitiveEdgesRow.holds Try.pinned (OpenSpec.ofChange fnExactSensitiveEdgesSpec)

/-- ITS FALSE NEIGHBOUR: 'it returns false'. Refute it at one input. -/
def fnExactSensitiveEdgesWrong : ChangeSpec := { name := "fnExactSensitiveEdges", fn := fun _ => fun
  | [d] => { results := [.lit (.bool false)], args := [d] }
  | _ => none }
def FnExactSensitiveEdgesWrongFalsely : Prop := fnExactSensitiveEdgesRow.holds Try.pinned (OpenSpec.ofChange fnExactSensitiveEdgesWrong)

/-- 'laws.FnCertificates': WHATEVER THE INPUT: true; the input reads as it did. -/
def fnCertificatesSpec : ChangeSpec := { name := "fnCertificates", fn := fun _ => fun
  | [d] => { results := [.lit (.bool true)], args := [d] }
  | _ => none }
def fnCertificatesRow : OpenClaim := { program := "ytbgjiblfnljigaa", sum := "8245af117e56e11f9efac36a9c1c73fb429ebcfd48053ab5897841289eec008a", func := "loop.example/g03403/laws.FnCertificates", spec := "fnCertificates", unfollowed := true, recurses := true, apart := false }
def FnCertificatesSaid : Prop := fnCertificatesRow.holds Try.pinned (OpenSpec.ofChange fnCertificatesSpec)

/-- ITS FALSE NEIGHBOUR: 'it returns false'. Refute it at one input. -/
def fnCertificatesWrong : ChangeSpec := { name := "fnCertificates", fn := fun _ => fun
  | [d] => { results := [.lit (.bool false)], args := [d] }
  | _ => none }
def FnCertificatesWrongFalsely : Prop := fnCertificatesRow.holds Try.pinned (OpenSpec.ofChange fnCertificatesWrong)

/- THE SECOND FORM. 'bulk': how many values and letters a reading holds, each counted each time it is reached (what is shared counts as often as it is met; a slice's spare places count too). A statement '..UptoSaid' is the law's where the arguments, and the package variables that the reading takes, are together of bulk at most 1048576: NARROWER than '..Said'. Prove '..Said' where nothing that the law and all that it calls make is longer than what came in: it says more and counts as full. Else prove '..UptoSaid'. A law counts once. -/
mutual
def uptoBulk {H : Type} : DataW H → Nat
  | .lit (.string bytes) => bytes.length + 1
  | .lit _ => 1
  | .nil => 1
  | .ptr d => uptoBulk d + 1
  | .slice elems spare => uptoBulkAll elems + uptoBulkAll spare + 1
  | .agg parts => uptoBulkAll parts + 1
  | .iface _ d => uptoBulk d + 1
  | .map entries => uptoBulkEntries entries + 1
  | .held _ => 1
def uptoBulkAll {H : Type} : List (DataW H) → Nat
  | [] => 0
  | d :: r => uptoBulk d + uptoBulkAll r
def uptoBulkEntries {H : Type} : List (Lit × DataW H) → Nat
  | [] => 0
  | x :: r => uptoBulkEntry x + uptoBulkEntries r
def uptoBulkEntry {H : Type} : Lit × DataW H → Nat
  | (.string bytes, d) => bytes.length + uptoBulk d + 1
  | (_, d) => uptoBulk d + 1
 end
def uptoSmall : (H : Type) → List (DataW H) → Bool := fun _ ds => decide (uptoBulkAll ds ≤ 1048576)
def OpenSpec.upto (s : _root_.Go.ChangeSpec) : _root_.Go.OpenSpec := { _root_.Go.OpenSpec.ofChange s with cond := some uptoSmall }

/-- 'laws.FnExactSensitivityAt', WHERE WHAT IT READS IS OF BULK AT MOST 1048576: true; the input reads as it did. -/
def fnExactSensitivityAtUptoRow : OpenClaim := { program := "ytbgjiblfnljigaa", sum := "8245af117e56e11f9efac36a9c1c73fb429ebcfd48053ab5897841289eec008a", func := "loop.example/g03403/laws.FnExactSensitivityAt", spec := "fnExactSensitivityAt", apart := false, narrowed := true }
def FnExactSensitivityAtUptoSaid : Prop := fnExactSensitivityAtUptoRow.holds Try.pinned (OpenSpec.upto fnExactSensitivityAtSpec)

/-- 'laws.FnExactSensitivityOf', WHERE WHAT IT READS IS OF BULK AT MOST 1048576: true; the input reads as it did. -/
def fnExactSensitivityOfUptoRow : OpenClaim := { program := "ytbgjiblfnljigaa", sum := "8245af117e56e11f9efac36a9c1c73fb429ebcfd48053ab5897841289eec008a", func := "loop.example/g03403/laws.FnExactSensitivityOf", spec := "fnExactSensitivityOf", unfollowed := true, recurses := true, apart := false, narrowed := true }
def FnExactSensitivityOfUptoSaid : Prop := fnExactSensitivityOfUptoRow.holds Try.pinned (OpenSpec.upto fnExactSensitivityOfSpec)

/-- 'laws.FnExactIsSensitiveBlock', WHERE WHAT IT READS IS OF BULK AT MOST 1048576: true; the input reads as it did. -/
def fnExactIsSensitiveBlockUptoRow : OpenClaim := { program := "ytbgjiblfnljigaa", sum := "8245af117e56e11f9efac36a9c1c73fb429ebcfd48053ab5897841289eec008a", func := "loop.example/g03403/laws.FnExactIsSensitiveBlock", spec := "fnExactIsSensitiveBlock", apart := false, narrowed := true }
def FnExactIsSensitiveBlockUptoSaid : Prop := fnExactIsSensitiveBlockUptoRow.holds Try.pinned (OpenSpec.upto fnExactIsSensitiveBlockSpec)

/-- 'laws.FnExactMinimalBlocks', WHERE WHAT IT READS IS OF BULK AT MOST 1048576: true; the input reads as it did. -/
def fnExactMinimalBlocksUptoRow : OpenClaim := { program := "ytbgjiblfnljigaa", sum := "8245af117e56e11f9efac36a9c1c73fb429ebcfd48053ab5897841289eec008a", func := "loop.example/g03403/laws.FnExactMinimalBlocks", spec := "fnExactMinimalBlocks", apart := false, narrowed := true }
def FnExactMinimalBlocksUptoSaid : Prop := fnExactMinimalBlocksUptoRow.holds Try.pinned (OpenSpec.upto fnExactMinimalBlocksSpec)

/-- 'laws.FnExactBlockSensitivityAt', WHERE WHAT IT READS IS OF BULK AT MOST 1048576: true; the input reads as it did. -/
def fnExactBlockSensitivityAtUptoRow : OpenClaim := { program := "ytbgjiblfnljigaa", sum := "8245af117e56e11f9efac36a9c1c73fb429ebcfd48053ab5897841289eec008a", func := "loop.example/g03403/laws.FnExactBlockSensitivityAt", spec := "fnExactBlockSensitivityAt", recurses := true, apart := false, narrowed := true }
def FnExactBlockSensitivityAtUptoSaid : Prop := fnExactBlockSensitivityAtUptoRow.holds Try.pinned (OpenSpec.upto fnExactBlockSensitivityAtSpec)

/-- 'laws.FnExactBlockSensitivityOf', WHERE WHAT IT READS IS OF BULK AT MOST 1048576: true; the input reads as it did. -/
def fnExactBlockSensitivityOfUptoRow : OpenClaim := { program := "ytbgjiblfnljigaa", sum := "8245af117e56e11f9efac36a9c1c73fb429ebcfd48053ab5897841289eec008a", func := "loop.example/g03403/laws.FnExactBlockSensitivityOf", spec := "fnExactBlockSensitivityOf", unfollowed := true, recurses := true, apart := false, narrowed := true }
def FnExactBlockSensitivityOfUptoSaid : Prop := fnExactBlockSensitivityOfUptoRow.holds Try.pinned (OpenSpec.upto fnExactBlockSensitivityOfSpec)

/-- 'laws.FnExactSensitiveEdges', WHERE WHAT IT READS IS OF BULK AT MOST 1048576: true; the input reads as it did. -/
def fnExactSensitiveEdgesUptoRow : OpenClaim := { program := "ytbgjiblfnljigaa", sum := "8245af117e56e11f9efac36a9c1c73fb429ebcfd48053ab5897841289eec008a", func := "loop.example/g03403/laws.FnExactSensitiveEdges", spec := "fnExactSensitiveEdges", apart := false, narrowed := true }
def FnExactSensitiveEdgesUptoSaid : Prop := fnExactSensitiveEdgesUptoRow.holds Try.pinned (OpenSpec.upto fnExactSensitiveEdgesSpec)

/-- 'laws.FnCertificates', WHERE WHAT IT READS IS OF BULK AT MOST 1048576: true; the input reads as it did. -/
def fnCertificatesUptoRow : OpenClaim := { program := "ytbgjiblfnljigaa", sum := "8245af117e56e11f9efac36a9c1c73fb429ebcfd48053ab5897841289eec008a", func := "loop.example/g03403/laws.FnCertificates", spec := "fnCertificates", unfollowed := true, recurses := true, apart := false, narrowed := true }
def FnCertificatesUptoSaid : Prop := fnCertificatesUptoRow.holds Try.pinned (OpenSpec.upto fnCertificatesSpec)

end Rows
end Go.Proofs.Ytbgjiblfnljigaa
