/-
  No cell of these rows narrows 'for every input' (looked for: loops, veiled, ifaces, maps, wideKeys, modest, calm, conditions, laid).
  DERIVED. THE GIVEN ROWS OF THIS SEAT. 6 by the template 'for every input the law returns true; each argument reads behind the call as it read before'; 0 by the template 'total and deterministic' (their statements: YtbkkohkigpkddaaTotals.lean).
  GIVEN WITH THE SEED: the statements are not yours to turn. If you find one false, say at which input.
  Laid BY PROGRAM, IN A SANDBOX (cutbox-rows.mjs): the forced cells as the released guide's own fill.sh prints them over the translation 75c360b0cb3935a5… (all of the seat's roots in one cut). By AI agents, Wed Nov 11 2026. No macro, syntax, notation, axiom, sorry.
-/
import Derived.Test.YtbkkohkigpkddaaChecked
import GoSem.Claim
import GoSem.ClaimJoined
import GoSem.ClaimMapViews
import Derived.JoinedTies
import Derived.KernelRfl
namespace Go.Proofs.Ytbkkohkigpkddaa
/- THE CELL 'sum', in the pinned program and in every row, IS THE sha256 OF THE DUMP (.gsa) THAT YtbkkohkigpkddaaProg.lean LOADS. Nothing in Lean hashes anything: it is a label: what it is worth is what the hold of that sum in a sandbox is worth. -/
noncomputable def Try.pinned : Pinned := { name := "ytbkkohkigpkddaa", sum := "75c360b0cb3935a5c6e5cbb80487f9dd2d8a22627353999ee32b87a747528fc4", checked := Try.checked }
namespace Rows
def none {H : Type} : Left H := { results := [], args := [] }

/-- 'laws.FnExactIsAffine': WHATEVER THE INPUT: true; the input reads as it did. -/
def fnExactIsAffineSpec : ChangeSpec := { name := "fnExactIsAffine", fn := fun _ => fun
  | [d] => { results := [.lit (.bool true)], args := [d] }
  | _ => none }
def fnExactIsAffineRow : OpenClaim := { program := "ytbkkohkigpkddaa", sum := "75c360b0cb3935a5c6e5cbb80487f9dd2d8a22627353999ee32b87a747528fc4", func := "loop.example/g03403/laws.FnExactIsAffine", spec := "fnExactIsAffine", unfollowed := true, recurses := true, apart := false }
def FnExactIsAffineSaid : Prop := fnExactIsAffineRow.holds Try.pinned (OpenSpec.ofChange fnExactIsAffineSpec)

/-- ITS FALSE NEIGHBOUR: 'it returns false'. Refute it at one input. -/
def fnExactIsAffineWrong : ChangeSpec := { name := "fnExactIsAffine", fn := fun _ => fun
  | [d] => { results := [.lit (.bool false)], args := [d] }
  | _ => none }
def FnExactIsAffineWrongFalsely : Prop := fnExactIsAffineRow.holds Try.pinned (OpenSpec.ofChange fnExactIsAffineWrong)

/-- 'laws.FnExactAffineTable': WHATEVER THE INPUT: true; the input reads as it did. -/
def fnExactAffineTableSpec : ChangeSpec := { name := "fnExactAffineTable", fn := fun _ => fun
  | [d1, d2, d3] => { results := [.lit (.bool true)], args := [d1, d2, d3] }
  | _ => none }
def fnExactAffineTableRow : OpenClaim := { program := "ytbkkohkigpkddaa", sum := "75c360b0cb3935a5c6e5cbb80487f9dd2d8a22627353999ee32b87a747528fc4", func := "loop.example/g03403/laws.FnExactAffineTable", spec := "fnExactAffineTable", unfollowed := true, recurses := true, apart := false }
def FnExactAffineTableSaid : Prop := fnExactAffineTableRow.holds Try.pinned (OpenSpec.ofChange fnExactAffineTableSpec)

/-- ITS FALSE NEIGHBOUR: 'it returns false'. Refute it at one input. -/
def fnExactAffineTableWrong : ChangeSpec := { name := "fnExactAffineTable", fn := fun _ => fun
  | [d1, d2, d3] => { results := [.lit (.bool false)], args := [d1, d2, d3] }
  | _ => none }
def FnExactAffineTableWrongFalsely : Prop := fnExactAffineTableRow.holds Try.pinned (OpenSpec.ofChange fnExactAffineTableWrong)

/-- 'laws.FnExactNearestAffine': WHATEVER THE INPUT: true; the input reads as it did. -/
def fnExactNearestAffineSpec : ChangeSpec := { name := "fnExactNearestAffine", fn := fun _ => fun
  | [d] => { results := [.lit (.bool true)], args := [d] }
  | _ => none }
def fnExactNearestAffineRow : OpenClaim := { program := "ytbkkohkigpkddaa", sum := "75c360b0cb3935a5c6e5cbb80487f9dd2d8a22627353999ee32b87a747528fc4", func := "loop.example/g03403/laws.FnExactNearestAffine", spec := "fnExactNearestAffine", unfollowed := true, recurses := true, apart := false }
def FnExactNearestAffineSaid : Prop := fnExactNearestAffineRow.holds Try.pinned (OpenSpec.ofChange fnExactNearestAffineSpec)

/-- ITS FALSE NEIGHBOUR: 'it returns false'. Refute it at one input. -/
def fnExactNearestAffineWrong : ChangeSpec := { name := "fnExactNearestAffine", fn := fun _ => fun
  | [d] => { results := [.lit (.bool false)], args := [d] }
  | _ => none }
def FnExactNearestAffineWrongFalsely : Prop := fnExactNearestAffineRow.holds Try.pinned (OpenSpec.ofChange fnExactNearestAffineWrong)

/-- 'laws.FnExactTestRejects': WHATEVER THE INPUT: true; the input reads as it did. -/
def fnExactTestRejectsSpec : ChangeSpec := { name := "fnExactTestRejects", fn := fun _ => fun
  | [d] => { results := [.lit (.bool true)], args := [d] }
  | _ => none }
def fnExactTestRejectsRow : OpenClaim := { program := "ytbkkohkigpkddaa", sum := "75c360b0cb3935a5c6e5cbb80487f9dd2d8a22627353999ee32b87a747528fc4", func := "loop.example/g03403/laws.FnExactTestRejects", spec := "fnExactTestRejects", apart := false }
def FnExactTestRejectsSaid : Prop := fnExactTestRejectsRow.holds Try.pinned (OpenSpec.ofChange fnExactTestRejectsSpec)

/-- ITS FALSE NEIGHBOUR: 'it returns false'. Refute it at one input. -/
def fnExactTestRejectsWrong : ChangeSpec := { name := "fnExactTestRejects", fn := fun _ => fun
  | [d] => { results := [.lit (.bool false)], args := [d] }
  | _ => none }
def FnExactTestRejectsWrongFalsely : Prop := fnExactTestRejectsRow.holds Try.pinned (OpenSpec.ofChange fnExactTestRejectsWrong)

/-- 'laws.FnExactDistanceBetween': WHATEVER THE INPUT: true; the input reads as it did. -/
def fnExactDistanceBetweenSpec : ChangeSpec := { name := "fnExactDistanceBetween", fn := fun _ => fun
  | [d1, d2] => { results := [.lit (.bool true)], args := [d1, d2] }
  | _ => none }
def fnExactDistanceBetweenRow : OpenClaim := { program := "ytbkkohkigpkddaa", sum := "75c360b0cb3935a5c6e5cbb80487f9dd2d8a22627353999ee32b87a747528fc4", func := "loop.example/g03403/laws.FnExactDistanceBetween", spec := "fnExactDistanceBetween", unfollowed := true, recurses := true, apart := false }
def FnExactDistanceBetweenSaid : Prop := fnExactDistanceBetweenRow.holds Try.pinned (OpenSpec.ofChange fnExactDistanceBetweenSpec)

/-- ITS FALSE NEIGHBOUR: 'it returns false'. Refute it at one input. -/
def fnExactDistanceBetweenWrong : ChangeSpec := { name := "fnExactDistanceBetween", fn := fun _ => fun
  | [d1, d2] => { results := [.lit (.bool false)], args := [d1, d2] }
  | _ => none }
def FnExactDistanceBetweenWrongFalsely : Prop := fnExactDistanceBetweenRow.holds Try.pinned (OpenSpec.ofChange fnExactDistanceBetweenWrong)

/-- 'laws.FnExactIsJunta': WHATEVER THE INPUT: true; the input reads as it did. -/
def fnExactIsJuntaSpec : ChangeSpec := { name := "fnExactIsJunta", fn := fun _ => fun
  | [d1, d2] => { results := [.lit (.bool true)], args := [d1, d2] }
  | _ => none }
def fnExactIsJuntaRow : OpenClaim := { program := "ytbkkohkigpkddaa", sum := "75c360b0cb3935a5c6e5cbb80487f9dd2d8a22627353999ee32b87a747528fc4", func := "loop.example/g03403/laws.FnExactIsJunta", spec := "fnExactIsJunta", unfollowed := true, recurses := true, apart := false }
def FnExactIsJuntaSaid : Prop := fnExactIsJuntaRow.holds Try.pinned (OpenSpec.ofChange fnExactIsJuntaSpec)

/-- ITS FALSE NEIGHBOUR: 'it returns false'. Refute it at one input. -/
def fnExactIsJuntaWrong : ChangeSpec := { name := "fnExactIsJunta", fn := fun _ => fun
  | [d1, d2] => { results := [.lit (.bool false)], args := [d1, d2] }
  | _ => none }
def FnExactIsJuntaWrongFalsely : Prop := fnExactIsJuntaRow.holds Try.pinned (OpenSpec.ofChange fnExactIsJuntaWrong)

/- THE SECOND FORM. 'bulk': how many values and letters a reading holds, each counted each time it is reached (what is shared counts as often as it is met; a slice's spare places count too). A statement '..UptoSaid' is the law's where the arguments, and the package variables that the reading takes, are together of bulk at most 1048576: NARROWER than '..Said'. Prove '..Said' where nothing that the law and all that it calls make is longer than what came in: it says more and counts as full. Else prove '..UptoSaid'. A law counts once. -/
mutual
def uptoBulk {H : Type} : DataW H → Nat
  | .lit (.string bytes) => bytes.length + 1
  | .lit _ => 1
  | .nil => 1
  | .ptr d => uptoBulk d + 1
  | .slice elems spare => uptoBulkAll elems + uptoBulkAll spare + 1
  | .agg parts => uptoBulkAll parts + 1
  | .iface _ d => uptoBulk d + 1
  | .map entries => uptoBulkEntries entries + 1
  | .held _ => 1
def uptoBulkAll {H : Type} : List (DataW H) → Nat
  | [] => 0
  | d :: r => uptoBulk d + uptoBulkAll r
def uptoBulkEntries {H : Type} : List (Lit × DataW H) → Nat
  | [] => 0
  | x :: r => uptoBulkEntry x + uptoBulkEntries r
def uptoBulkEntry {H : Type} : Lit × DataW H → Nat
  | (.string bytes, d) => bytes.length + uptoBulk d + 1
  | (_, d) => uptoBulk d + 1
 end
def uptoSmall : (H : Type) → List (DataW H) → Bool := fun _ ds => decide (uptoBulkAll ds ≤ 1048576)
def OpenSpec.upto (s : _root_.Go.ChangeSpec) : _root_.Go.OpenSpec := { _root_.Go.OpenSpec.ofChange s with cond := some uptoSmall }

/-- 'laws.FnExactIsAffine', WHERE WHAT IT READS IS OF BULK AT MOST 1048576: true; the input reads as it did. -/
def fnExactIsAffineUptoRow : OpenClaim := { program := "ytbkkohkigpkddaa", sum := "75c360b0cb3935a5c6e5cbb80487f9dd2d8a22627353999ee32b87a747528fc4", func := "loop.example/g03403/laws.FnExactIsAffine", spec := "fnExactIsAffine", unfollowed := true, recurses := true, apart := false, narrowed := true }
def FnExactIsAffineUptoSaid : Prop := fnExactIsAffineUptoRow.holds Try.pinned (OpenSpec.upto fnExactIsAffineSpec)

/-- 'laws.FnExactAffineTable', WHERE WHAT IT READS IS OF BULK AT MOST 1048576: true; the input reads as it did. -/
def fnExactAffineTableUptoRow : OpenClaim := { program := "ytbkkohkigpkddaa", sum := "75c360b0cb3935a5c6e5cbb80487f9dd2d8a22627353999ee32b87a747528fc4", func := "loop.example/g03403/laws.FnExactAffineTable", spec := "fnExactAffineTable", unfollowed := true, recurses := true, apart := false, narrowed := true }
def FnExactAffineTableUptoSaid : Prop := fnExactAffineTableUptoRow.holds Try.pinned (OpenSpec.upto fnExactAffineTableSpec)

/-- 'laws.FnExactNearestAffine', WHERE WHAT IT READS IS OF BULK AT MOST 1048576: true; the input reads as it did. -/
def fnExactNearestAffineUptoRow : OpenClaim := { program := "ytbkkohkigpkddaa", sum := "75c360b0cb3935a5c6e5cbb80487f9dd2d8a22627353999ee32b87a747528fc4", func := "loop.example/g03403/laws.FnExactNearestAffine", spec := "fnExactNearestAffine", unfollowed := true, recurses := true, apart := false, narrowed := true }
def FnExactNearestAffineUptoSaid : Prop := fnExactNearestAffineUptoRow.holds Try.pinned (OpenSpec.upto fnExactNearestAffineSpec)

/-- 'laws.FnExactTestRejects', WHERE WHAT IT READS IS OF BULK AT MOST 1048576: true; the input reads as it did. -/
def fnExactTestRejectsUptoRow : OpenClaim := { program := "ytbkkohkigpkddaa", sum := "75c360b0cb3935a5c6e5cbb80487f9dd2d8a22627353999ee32b87a747528fc4", func := "loop.example/g03403/laws.FnExactTestRejects", spec := "fnExactTestRejects", apart := false, narrowed := true }
def FnExactTestRejectsUptoSaid : Prop := fnExactTestRejectsUptoRow.holds Try.pinned (OpenSpec.upto fnExactTestRejectsSpec)

/-- 'laws.FnExactDistanceBetween', WHERE WHAT IT READS IS OF BULK AT MOST 1048576: true; the input reads as it did. -/
def fnExactDistanceBetweenUptoRow : OpenClaim := { program := "ytbkkohkigpkddaa", sum := "75c360b0cb3935a5c6e5cbb80487f9dd2d8a22627353999ee32b87a747528fc4", func := "loop.example/g03403/laws.FnExactDistanceBetween", spec := "fnExactDistanceBetween", unfollowed := true, recurses := true, apart := false, narrowed := true }
def FnExactDistanceBetweenUptoSaid : Prop := fnExactDistanceBetweenUptoRow.holds Try.pinned (OpenSpec.upto fnExactDistanceBetweenSpec)

/-- 'laws.FnExactIsJunta', WHERE WHAT IT READS IS OF BULK AT MOST 1048576: true; the input reads as it did. -/
def fnExactIsJuntaUptoRow : OpenClaim := { program := "ytbkkohkigpkddaa", sum := "75c360b0cb3935a5c6e5cbb80487f9dd2d8a22627353999ee32b87a747528fc4", func := "loop.example/g03403/laws.FnExactIsJunta", spec := "fnExactIsJunta", unfollowed := true, recurses := true, apart := false, narrowed := true }
def FnExactIsJuntaUptoSaid : Prop := fnExactIsJuntaUptoRow.holds Try.pinned (OpenSpec.upto fnExactIsJuntaSpec)

end Rows
end Go.Proofs.Ytbkkohkigpkddaa
