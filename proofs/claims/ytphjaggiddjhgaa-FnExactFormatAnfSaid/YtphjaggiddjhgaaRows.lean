/-
  No cell of these rows narrows 'for every input' (looked for: loops, veiled, ifaces, maps, wideKeys, modest, calm, conditions, laid).
  DERIVED. THE GIVEN ROWS OF THIS SEAT. 5 by the template 'for every input the law returns true; each argument reads behind the call as it read before'; 0 by the template 'total and deterministic' (their statements: YtphjaggiddjhgaaTotals.lean).
  GIVEN WITH THE SEED: the statements are not yours to turn. If you find one false, say at which input.
  Laid BY PROGRAM, IN A SANDBOX (cutbox-rows.mjs): the forced cells as the released guide's own fill.sh prints them over the translation dde1105ac86674ac… (all of the seat's roots in one cut). By AI agents, Wed Nov 11 2026. No macro, syntax, notation, axiom, sorry.
-/
import Derived.Test.YtphjaggiddjhgaaChecked
import GoSem.Claim
import GoSem.ClaimJoined
import GoSem.ClaimMapViews
import Derived.JoinedTies
import Derived.KernelRfl
namespace Go.Proofs.Ytphjaggiddjhgaa
/- THE CELL 'sum', in the pinned program and in every row, IS THE sha256 OF THE DUMP (.gsa) THAT YtphjaggiddjhgaaProg.lean LOADS. Nothing in Lean hashes anything: it is a label: what it is worth is what the hold of that sum in a sandbox is worth. -/
noncomputable def Try.pinned : Pinned := { name := "ytphjaggiddjhgaa", sum := "dde1105ac86674ac1674aea64a31f3fffc551b67b76b67effa7bcde6c61752e9", checked := Try.checked }
namespace Rows
def none {H : Type} : Left H := { results := [], args := [] }

/-- 'laws.FnExactAnfOf': WHATEVER THE INPUT: true; the input reads as it did. -/
def fnExactAnfOfSpec : ChangeSpec := { name := "fnExactAnfOf", fn := fun _ => fun
  | [d] => { results := [.lit (.bool true)], args := [d] }
  | _ => none }
def fnExactAnfOfRow : OpenClaim := { program := "ytphjaggiddjhgaa", sum := "dde1105ac86674ac1674aea64a31f3fffc551b67b76b67effa7bcde6c61752e9", func := "loop.example/g03403/laws.FnExactAnfOf", spec := "fnExactAnfOf", unfollowed := true, recurses := true, apart := false }
def FnExactAnfOfSaid : Prop := fnExactAnfOfRow.holds Try.pinned (OpenSpec.ofChange fnExactAnfOfSpec)

/-- ITS FALSE NEIGHBOUR: 'it returns false'. Refute it at one input. -/
def fnExactAnfOfWrong : ChangeSpec := { name := "fnExactAnfOf", fn := fun _ => fun
  | [d] => { results := [.lit (.bool false)], args := [d] }
  | _ => none }
def FnExactAnfOfWrongFalsely : Prop := fnExactAnfOfRow.holds Try.pinned (OpenSpec.ofChange fnExactAnfOfWrong)

/-- 'laws.FnExactDegreeMod2': WHATEVER THE INPUT: true; the input reads as it did. -/
def fnExactDegreeMod2Spec : ChangeSpec := { name := "fnExactDegreeMod2", fn := fun _ => fun
  | [d] => { results := [.lit (.bool true)], args := [d] }
  | _ => none }
def fnExactDegreeMod2Row : OpenClaim := { program := "ytphjaggiddjhgaa", sum := "dde1105ac86674ac1674aea64a31f3fffc551b67b76b67effa7bcde6c61752e9", func := "loop.example/g03403/laws.FnExactDegreeMod2", spec := "fnExactDegreeMod2", unfollowed := true, recurses := true, apart := false }
def FnExactDegreeMod2Said : Prop := fnExactDegreeMod2Row.holds Try.pinned (OpenSpec.ofChange fnExactDegreeMod2Spec)

/-- ITS FALSE NEIGHBOUR: 'it returns false'. Refute it at one input. -/
def fnExactDegreeMod2Wrong : ChangeSpec := { name := "fnExactDegreeMod2", fn := fun _ => fun
  | [d] => { results := [.lit (.bool false)], args := [d] }
  | _ => none }
def FnExactDegreeMod2WrongFalsely : Prop := fnExactDegreeMod2Row.holds Try.pinned (OpenSpec.ofChange fnExactDegreeMod2Wrong)

/-- 'laws.FnExactRealCoefficients': WHATEVER THE INPUT: true; the input reads as it did. -/
def fnExactRealCoefficientsSpec : ChangeSpec := { name := "fnExactRealCoefficients", fn := fun _ => fun
  | [d] => { results := [.lit (.bool true)], args := [d] }
  | _ => none }
def fnExactRealCoefficientsRow : OpenClaim := { program := "ytphjaggiddjhgaa", sum := "dde1105ac86674ac1674aea64a31f3fffc551b67b76b67effa7bcde6c61752e9", func := "loop.example/g03403/laws.FnExactRealCoefficients", spec := "fnExactRealCoefficients", recurses := true, apart := false }
def FnExactRealCoefficientsSaid : Prop := fnExactRealCoefficientsRow.holds Try.pinned (OpenSpec.ofChange fnExactRealCoefficientsSpec)

/-- ITS FALSE NEIGHBOUR: 'it returns false'. Refute it at one input. -/
def fnExactRealCoefficientsWrong : ChangeSpec := { name := "fnExactRealCoefficients", fn := fun _ => fun
  | [d] => { results := [.lit (.bool false)], args := [d] }
  | _ => none }
def FnExactRealCoefficientsWrongFalsely : Prop := fnExactRealCoefficientsRow.holds Try.pinned (OpenSpec.ofChange fnExactRealCoefficientsWrong)

/-- 'laws.FnExactRealDegree': WHATEVER THE INPUT: true; the input reads as it did. -/
def fnExactRealDegreeSpec : ChangeSpec := { name := "fnExactRealDegree", fn := fun _ => fun
  | [d] => { results := [.lit (.bool true)], args := [d] }
  | _ => none }
def fnExactRealDegreeRow : OpenClaim := { program := "ytphjaggiddjhgaa", sum := "dde1105ac86674ac1674aea64a31f3fffc551b67b76b67effa7bcde6c61752e9", func := "loop.example/g03403/laws.FnExactRealDegree", spec := "fnExactRealDegree", unfollowed := true, recurses := true, apart := false }
def FnExactRealDegreeSaid : Prop := fnExactRealDegreeRow.holds Try.pinned (OpenSpec.ofChange fnExactRealDegreeSpec)

/-- ITS FALSE NEIGHBOUR: 'it returns false'. Refute it at one input. -/
def fnExactRealDegreeWrong : ChangeSpec := { name := "fnExactRealDegree", fn := fun _ => fun
  | [d] => { results := [.lit (.bool false)], args := [d] }
  | _ => none }
def FnExactRealDegreeWrongFalsely : Prop := fnExactRealDegreeRow.holds Try.pinned (OpenSpec.ofChange fnExactRealDegreeWrong)

/-- 'laws.FnExactFormatAnf': WHATEVER THE INPUT: true; the input reads as it did. -/
def fnExactFormatAnfSpec : ChangeSpec := { name := "fnExactFormatAnf", fn := fun _ => fun
  | [d] => { results := [.lit (.bool true)], args := [d] }
  | _ => none }
def fnExactFormatAnfRow : OpenClaim := { program := "ytphjaggiddjhgaa", sum := "dde1105ac86674ac1674aea64a31f3fffc551b67b76b67effa7bcde6c61752e9", func := "loop.example/g03403/laws.FnExactFormatAnf", spec := "fnExactFormatAnf", inPlace := ["internal/abi.NoEscape", "internal/bytealg.MakeNoZero"], unfollowed := true, recurses := true, apart := false }
def FnExactFormatAnfSaid : Prop := fnExactFormatAnfRow.holds Try.pinned (OpenSpec.ofChange fnExactFormatAnfSpec)

/-- ITS FALSE NEIGHBOUR: 'it returns false'. Refute it at one input. -/
def fnExactFormatAnfWrong : ChangeSpec := { name := "fnExactFormatAnf", fn := fun _ => fun
  | [d] => { results := [.lit (.bool false)], args := [d] }
  | _ => none }
def FnExactFormatAnfWrongFalsely : Prop := fnExactFormatAnfRow.holds Try.pinned (OpenSpec.ofChange fnExactFormatAnfWrong)

/- THE SECOND FORM. 'bulk': how many values and letters a reading holds, each counted each time it is reached (what is shared counts as often as it is met; a slice's spare places count too). A statement '..UptoSaid' is the law's where the arguments, and the package variables that the reading takes, are together of bulk at most 1048576: NARROWER than '..Said'. Prove '..Said' where nothing that the law and all that it calls make is longer than what came in: it says more and counts as full. Else prove '..UptoSaid'. A law counts once. -/
mutual
def uptoBulk {H : Type} : DataW H → Nat
  | .lit (.string bytes) => bytes.length + 1
  | .lit _ => 1
  | .nil => 1
  | .ptr d => uptoBulk d + 1
  | .slice elems spare => uptoBulkAll elems + uptoBulkAll spare + 1
  | .agg parts => uptoBulkAll parts + 1
  | .iface _ d => uptoBulk d + 1
  | .map entries => uptoBulkEntries entries + 1
  | .held _ => 1
def uptoBulkAll {H : Type} : List (DataW H) → Nat
  | [] => 0
  | d :: r => uptoBulk d + uptoBulkAll r
def uptoBulkEntries {H : Type} : List (Lit × DataW H) → Nat
  | [] => 0
  | x :: r => uptoBulkEntry x + uptoBulkEntries r
def uptoBulkEntry {H : Type} : Lit × DataW H → Nat
  | (.string bytes, d) => bytes.length + uptoBulk d + 1
  | (_, d) => uptoBulk d + 1
 end
def uptoSmall : (H : Type) → List (DataW H) → Bool := fun _ ds => decide (uptoBulkAll ds ≤ 1048576)
def OpenSpec.upto (s : _root_.Go.ChangeSpec) : _root_.Go.OpenSpec := { _root_.Go.OpenSpec.ofChange s with cond := some uptoSmall }

/-- 'laws.FnExactAnfOf', WHERE WHAT IT READS IS OF BULK AT MOST 1048576: true; the input reads as it did. -/
def fnExactAnfOfUptoRow : OpenClaim := { program := "ytphjaggiddjhgaa", sum := "dde1105ac86674ac1674aea64a31f3fffc551b67b76b67effa7bcde6c61752e9", func := "loop.example/g03403/laws.FnExactAnfOf", spec := "fnExactAnfOf", unfollowed := true, recurses := true, apart := false, narrowed := true }
def FnExactAnfOfUptoSaid : Prop := fnExactAnfOfUptoRow.holds Try.pinned (OpenSpec.upto fnExactAnfOfSpec)

/-- 'laws.FnExactDegreeMod2', WHERE WHAT IT READS IS OF BULK AT MOST 1048576: true; the input reads as it did. -/
def fnExactDegreeMod2UptoRow : OpenClaim := { program := "ytphjaggiddjhgaa", sum := "dde1105ac86674ac1674aea64a31f3fffc551b67b76b67effa7bcde6c61752e9", func := "loop.example/g03403/laws.FnExactDegreeMod2", spec := "fnExactDegreeMod2", unfollowed := true, recurses := true, apart := false, narrowed := true }
def FnExactDegreeMod2UptoSaid : Prop := fnExactDegreeMod2UptoRow.holds Try.pinned (OpenSpec.upto fnExactDegreeMod2Spec)

/-- 'laws.FnExactRealCoefficients', WHERE WHAT IT READS IS OF BULK AT MOST 1048576: true; the input reads as it did. -/
def fnExactRealCoefficientsUptoRow : OpenClaim := { program := "ytphjaggiddjhgaa", sum := "dde1105ac86674ac1674aea64a31f3fffc551b67b76b67effa7bcde6c61752e9", func := "loop.example/g03403/laws.FnExactRealCoefficients", spec := "fnExactRealCoefficients", recurses := true, apart := false, narrowed := true }
def FnExactRealCoefficientsUptoSaid : Prop := fnExactRealCoefficientsUptoRow.holds Try.pinned (OpenSpec.upto fnExactRealCoefficientsSpec)

/-- 'laws.FnExactRealDegree', WHERE WHAT IT READS IS OF BULK AT MOST 1048576: true; the input reads as it did. -/
def fnExactRealDegreeUptoRow : OpenClaim := { program := "ytphjaggiddjhgaa", sum := "dde1105ac86674ac1674aea64a31f3fffc551b67b76b67effa7bcde6c61752e9", func := "loop.example/g03403/laws.FnExactRealDegree", spec := "fnExactRealDegree", unfollowed := true, recurses := true, apart := false, narrowed := true }
def FnExactRealDegreeUptoSaid : Prop := fnExactRealDegreeUptoRow.holds Try.pinned (OpenSpec.upto fnExactRealDegreeSpec)

/-- 'laws.FnExactFormatAnf', WHERE WHAT IT READS IS OF BULK AT MOST 1048576: true; the input reads as it did. -/
def fnExactFormatAnfUptoRow : OpenClaim := { program := "ytphjaggiddjhgaa", sum := "dde1105ac86674ac1674aea64a31f3fffc551b67b76b67effa7bcde6c61752e9", func := "loop.example/g03403/laws.FnExactFormatAnf", spec := "fnExactFormatAnf", inPlace := ["internal/abi.NoEscape", "internal/bytealg.MakeNoZero"], unfollowed := true, recurses := true, apart := false, narrowed := true }
def FnExactFormatAnfUptoSaid : Prop := fnExactFormatAnfUptoRow.holds Try.pinned (OpenSpec.upto fnExactFormatAnfSpec)

end Rows
end Go.Proofs.Ytphjaggiddjhgaa
