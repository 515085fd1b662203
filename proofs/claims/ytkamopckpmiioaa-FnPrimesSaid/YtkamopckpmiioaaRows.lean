/-
  No cell of these rows narrows 'for every input' (looked for: loops, veiled, ifaces, maps, wideKeys, modest, calm, conditions, laid).
  DERIVED. THE GIVEN ROWS OF THIS SEAT. 11 by the template 'for every input the law returns true; each argument reads behind the call as it read before'; 0 by the template 'total and deterministic' (their statements: YtkamopckpmiioaaTotals.lean).
  GIVEN WITH THE SEED: the statements are not yours to turn. If you find one false, say at which input.
  Laid BY PROGRAM, IN A SANDBOX (cutbox-rows.mjs): the forced cells as the released guide's own fill.sh prints them over the translation 38294ccb60fe9739… (all of the seat's roots in one cut). By AI agents, Wed Nov 11 2026. No macro, syntax, notation, axiom, sorry.
-/
import Derived.Test.YtkamopckpmiioaaChecked
import GoSem.Claim
import GoSem.ClaimJoined
import GoSem.ClaimMapViews
import Derived.JoinedTies
import Derived.KernelRfl
namespace Go.Proofs.Ytkamopckpmiioaa
/- THE CELL 'sum', in the pinned program and in every row, IS THE sha256 OF THE DUMP (.gsa) THAT YtkamopckpmiioaaProg.lean LOADS. Nothing in Lean hashes anything: it is a label: what it is worth is what the hold of that sum in a sandbox is worth. -/
noncomputable def Try.pinned : Pinned := { name := "ytkamopckpmiioaa", sum := "38294ccb60fe9739c30725567040ef2e539e7b0e3a35cbb60981c72279f2867f", checked := Try.checked }
namespace Rows
def none {H : Type} : Left H := { results := [], args := [] }

/-- 'laws.FnExactIsTerm': WHATEVER THE INPUT: true; the input reads as it did. -/
def fnExactIsTermSpec : ChangeSpec := { name := "fnExactIsTerm", fn := fun _ => fun
  | [d1, d2] => { results := [.lit (.bool true)], args := [d1, d2] }
  | _ => none }
def fnExactIsTermRow : OpenClaim := { program := "ytkamopckpmiioaa", sum := "38294ccb60fe9739c30725567040ef2e539e7b0e3a35cbb60981c72279f2867f", func := "loop.example/g03403/laws.FnExactIsTerm", spec := "fnExactIsTerm", apart := false }
def FnExactIsTermSaid : Prop := fnExactIsTermRow.holds Try.pinned (OpenSpec.ofChange fnExactIsTermSpec)

/-- ITS FALSE NEIGHBOUR: 'it returns false'. Refute it at one input. -/
def fnExactIsTermWrong : ChangeSpec := { name := "fnExactIsTerm", fn := fun _ => fun
  | [d1, d2] => { results := [.lit (.bool false)], args := [d1, d2] }
  | _ => none }
def FnExactIsTermWrongFalsely : Prop := fnExactIsTermRow.holds Try.pinned (OpenSpec.ofChange fnExactIsTermWrong)

/-- 'laws.FnExactTermHolds': WHATEVER THE INPUT: true; the input reads as it did. -/
def fnExactTermHoldsSpec : ChangeSpec := { name := "fnExactTermHolds", fn := fun _ => fun
  | [d1, d2] => { results := [.lit (.bool true)], args := [d1, d2] }
  | _ => none }
def fnExactTermHoldsRow : OpenClaim := { program := "ytkamopckpmiioaa", sum := "38294ccb60fe9739c30725567040ef2e539e7b0e3a35cbb60981c72279f2867f", func := "loop.example/g03403/laws.FnExactTermHolds", spec := "fnExactTermHolds", apart := false }
def FnExactTermHoldsSaid : Prop := fnExactTermHoldsRow.holds Try.pinned (OpenSpec.ofChange fnExactTermHoldsSpec)

/-- ITS FALSE NEIGHBOUR: 'it returns false'. Refute it at one input. -/
def fnExactTermHoldsWrong : ChangeSpec := { name := "fnExactTermHolds", fn := fun _ => fun
  | [d1, d2] => { results := [.lit (.bool false)], args := [d1, d2] }
  | _ => none }
def FnExactTermHoldsWrongFalsely : Prop := fnExactTermHoldsRow.holds Try.pinned (OpenSpec.ofChange fnExactTermHoldsWrong)

/-- 'laws.FnExactFormatTerm': WHATEVER THE INPUT: true; the input reads as it did. -/
def fnExactFormatTermSpec : ChangeSpec := { name := "fnExactFormatTerm", fn := fun _ => fun
  | [d1, d2] => { results := [.lit (.bool true)], args := [d1, d2] }
  | _ => none }
def fnExactFormatTermRow : OpenClaim := { program := "ytkamopckpmiioaa", sum := "38294ccb60fe9739c30725567040ef2e539e7b0e3a35cbb60981c72279f2867f", func := "loop.example/g03403/laws.FnExactFormatTerm", spec := "fnExactFormatTerm", inPlace := ["internal/abi.NoEscape"], apart := false }
def FnExactFormatTermSaid : Prop := fnExactFormatTermRow.holds Try.pinned (OpenSpec.ofChange fnExactFormatTermSpec)

/-- ITS FALSE NEIGHBOUR: 'it returns false'. Refute it at one input. -/
def fnExactFormatTermWrong : ChangeSpec := { name := "fnExactFormatTerm", fn := fun _ => fun
  | [d1, d2] => { results := [.lit (.bool false)], args := [d1, d2] }
  | _ => none }
def FnExactFormatTermWrongFalsely : Prop := fnExactFormatTermRow.holds Try.pinned (OpenSpec.ofChange fnExactFormatTermWrong)

/-- 'laws.FnExactParseTerm': WHATEVER THE INPUT: true; the input reads as it did. -/
def fnExactParseTermSpec : ChangeSpec := { name := "fnExactParseTerm", fn := fun _ => fun
  | [d1, d2] => { results := [.lit (.bool true)], args := [d1, d2] }
  | _ => none }
def fnExactParseTermRow : OpenClaim := { program := "ytkamopckpmiioaa", sum := "38294ccb60fe9739c30725567040ef2e539e7b0e3a35cbb60981c72279f2867f", func := "loop.example/g03403/laws.FnExactParseTerm", spec := "fnExactParseTerm", inPlace := ["internal/abi.NoEscape"], apart := false }
def FnExactParseTermSaid : Prop := fnExactParseTermRow.holds Try.pinned (OpenSpec.ofChange fnExactParseTermSpec)

/-- ITS FALSE NEIGHBOUR: 'it returns false'. Refute it at one input. -/
def fnExactParseTermWrong : ChangeSpec := { name := "fnExactParseTerm", fn := fun _ => fun
  | [d1, d2] => { results := [.lit (.bool false)], args := [d1, d2] }
  | _ => none }
def FnExactParseTermWrongFalsely : Prop := fnExactParseTermRow.holds Try.pinned (OpenSpec.ofChange fnExactParseTermWrong)

/-- 'laws.FnExactIsImplicant': WHATEVER THE INPUT: true; the input reads as it did. -/
def fnExactIsImplicantSpec : ChangeSpec := { name := "fnExactIsImplicant", fn := fun _ => fun
  | [d1, d2] => { results := [.lit (.bool true)], args := [d1, d2] }
  | _ => none }
def fnExactIsImplicantRow : OpenClaim := { program := "ytkamopckpmiioaa", sum := "38294ccb60fe9739c30725567040ef2e539e7b0e3a35cbb60981c72279f2867f", func := "loop.example/g03403/laws.FnExactIsImplicant", spec := "fnExactIsImplicant", apart := false }
def FnExactIsImplicantSaid : Prop := fnExactIsImplicantRow.holds Try.pinned (OpenSpec.ofChange fnExactIsImplicantSpec)

/-- ITS FALSE NEIGHBOUR: 'it returns false'. Refute it at one input. -/
def fnExactIsImplicantWrong : ChangeSpec := { name := "fnExactIsImplicant", fn := fun _ => fun
  | [d1, d2] => { results := [.lit (.bool false)], args := [d1, d2] }
  | _ => none }
def FnExactIsImplicantWrongFalsely : Prop := fnExactIsImplicantRow.holds Try.pinned (OpenSpec.ofChange fnExactIsImplicantWrong)

/-- 'laws.FnExactIsPrimeTerm': WHATEVER THE INPUT: true; the input reads as it did. -/
def fnExactIsPrimeTermSpec : ChangeSpec := { name := "fnExactIsPrimeTerm", fn := fun _ => fun
  | [d1, d2] => { results := [.lit (.bool true)], args := [d1, d2] }
  | _ => none }
def fnExactIsPrimeTermRow : OpenClaim := { program := "ytkamopckpmiioaa", sum := "38294ccb60fe9739c30725567040ef2e539e7b0e3a35cbb60981c72279f2867f", func := "loop.example/g03403/laws.FnExactIsPrimeTerm", spec := "fnExactIsPrimeTerm", apart := false }
def FnExactIsPrimeTermSaid : Prop := fnExactIsPrimeTermRow.holds Try.pinned (OpenSpec.ofChange fnExactIsPrimeTermSpec)

/-- ITS FALSE NEIGHBOUR: 'it returns false'. Refute it at one input. -/
def fnExactIsPrimeTermWrong : ChangeSpec := { name := "fnExactIsPrimeTerm", fn := fun _ => fun
  | [d1, d2] => { results := [.lit (.bool false)], args := [d1, d2] }
  | _ => none }
def FnExactIsPrimeTermWrongFalsely : Prop := fnExactIsPrimeTermRow.holds Try.pinned (OpenSpec.ofChange fnExactIsPrimeTermWrong)

/-- 'laws.FnExactPrimesOf': WHATEVER THE INPUT: true; the input reads as it did. -/
def fnExactPrimesOfSpec : ChangeSpec := { name := "fnExactPrimesOf", fn := fun _ => fun
  | [d] => { results := [.lit (.bool true)], args := [d] }
  | _ => none }
def fnExactPrimesOfRow : OpenClaim := { program := "ytkamopckpmiioaa", sum := "38294ccb60fe9739c30725567040ef2e539e7b0e3a35cbb60981c72279f2867f", func := "loop.example/g03403/laws.FnExactPrimesOf", spec := "fnExactPrimesOf", unfollowed := true, recurses := true, apart := false }
def FnExactPrimesOfSaid : Prop := fnExactPrimesOfRow.holds Try.pinned (OpenSpec.ofChange fnExactPrimesOfSpec)

/-- ITS FALSE NEIGHBOUR: 'it returns false'. Refute it at one input. -/
def fnExactPrimesOfWrong : ChangeSpec := { name := "fnExactPrimesOf", fn := fun _ => fun
  | [d] => { results := [.lit (.bool false)], args := [d] }
  | _ => none }
def FnExactPrimesOfWrongFalsely : Prop := fnExactPrimesOfRow.holds Try.pinned (OpenSpec.ofChange fnExactPrimesOfWrong)

/-- 'laws.FnExactEssentialPrimes': WHATEVER THE INPUT: true; the input reads as it did. -/
def fnExactEssentialPrimesSpec : ChangeSpec := { name := "fnExactEssentialPrimes", fn := fun _ => fun
  | [d] => { results := [.lit (.bool true)], args := [d] }
  | _ => none }
def fnExactEssentialPrimesRow : OpenClaim := { program := "ytkamopckpmiioaa", sum := "38294ccb60fe9739c30725567040ef2e539e7b0e3a35cbb60981c72279f2867f", func := "loop.example/g03403/laws.FnExactEssentialPrimes", spec := "fnExactEssentialPrimes", unfollowed := true, recurses := true, apart := false }
def FnExactEssentialPrimesSaid : Prop := fnExactEssentialPrimesRow.holds Try.pinned (OpenSpec.ofChange fnExactEssentialPrimesSpec)

/-- ITS FALSE NEIGHBOUR: 'it returns false'. Refute it at one input. -/
def fnExactEssentialPrimesWrong : ChangeSpec := { name := "fnExactEssentialPrimes", fn := fun _ => fun
  | [d] => { results := [.lit (.bool false)], args := [d] }
  | _ => none }
def FnExactEssentialPrimesWrongFalsely : Prop := fnExactEssentialPrimesRow.holds Try.pinned (OpenSpec.ofChange fnExactEssentialPrimesWrong)

/-- 'laws.FnExactMinimalSum': WHATEVER THE INPUT: true; the input reads as it did. -/
def fnExactMinimalSumSpec : ChangeSpec := { name := "fnExactMinimalSum", fn := fun _ => fun
  | [d] => { results := [.lit (.bool true)], args := [d] }
  | _ => none }
def fnExactMinimalSumRow : OpenClaim := { program := "ytkamopckpmiioaa", sum := "38294ccb60fe9739c30725567040ef2e539e7b0e3a35cbb60981c72279f2867f", func := "loop.example/g03403/laws.FnExactMinimalSum", spec := "fnExactMinimalSum", unfollowed := true, recurses := true, apart := false }
def FnExactMinimalSumSaid : Prop := fnExactMinimalSumRow.holds Try.pinned (OpenSpec.ofChange fnExactMinimalSumSpec)

/-- ITS FALSE NEIGHBOUR: 'it returns false'. Refute it at one input. -/
def fnExactMinimalSumWrong : ChangeSpec := { name := "fnExactMinimalSum", fn := fun _ => fun
  | [d] => { results := [.lit (.bool false)], args := [d] }
  | _ => none }
def FnExactMinimalSumWrongFalsely : Prop := fnExactMinimalSumRow.holds Try.pinned (OpenSpec.ofChange fnExactMinimalSumWrong)

/-- 'laws.FnExactTableOfTerms': WHATEVER THE INPUT: true; the input reads as it did. -/
def fnExactTableOfTermsSpec : ChangeSpec := { name := "fnExactTableOfTerms", fn := fun _ => fun
  | [d1, d2] => { results := [.lit (.bool true)], args := [d1, d2] }
  | _ => none }
def fnExactTableOfTermsRow : OpenClaim := { program := "ytkamopckpmiioaa", sum := "38294ccb60fe9739c30725567040ef2e539e7b0e3a35cbb60981c72279f2867f", func := "loop.example/g03403/laws.FnExactTableOfTerms", spec := "fnExactTableOfTerms", apart := false }
def FnExactTableOfTermsSaid : Prop := fnExactTableOfTermsRow.holds Try.pinned (OpenSpec.ofChange fnExactTableOfTermsSpec)

/-- ITS FALSE NEIGHBOUR: 'it returns false'. Refute it at one input. -/
def fnExactTableOfTermsWrong : ChangeSpec := { name := "fnExactTableOfTerms", fn := fun _ => fun
  | [d1, d2] => { results := [.lit (.bool false)], args := [d1, d2] }
  | _ => none }
def FnExactTableOfTermsWrongFalsely : Prop := fnExactTableOfTermsRow.holds Try.pinned (OpenSpec.ofChange fnExactTableOfTermsWrong)

/-- 'laws.FnPrimes': WHATEVER THE INPUT: true; the input reads as it did. -/
def fnPrimesSpec : ChangeSpec := { name := "fnPrimes", fn := fun _ => fun
  | [d] => { results := [.lit (.bool true)], args := [d] }
  | _ => none }
def fnPrimesRow : OpenClaim := { program := "ytkamopckpmiioaa", sum := "38294ccb60fe9739c30725567040ef2e539e7b0e3a35cbb60981c72279f2867f", func := "loop.example/g03403/laws.FnPrimes", spec := "fnPrimes", inPlace := ["internal/abi.NoEscape"], unfollowed := true, recurses := true, apart := false }
def FnPrimesSaid : Prop := fnPrimesRow.holds Try.pinned (OpenSpec.ofChange fnPrimesSpec)

/-- ITS FALSE NEIGHBOUR: 'it returns false'. Refute it at one input. -/
def fnPrimesWrong : ChangeSpec := { name := "fnPrimes", fn := fun _ => fun
  | [d] => { results := [.lit (.bool false)], args := [d] }
  | _ => none }
def FnPrimesWrongFalsely : Prop := fnPrimesRow.holds Try.pinned (OpenSpec.ofChange fnPrimesWrong)

/- THE SECOND FORM. 'bulk': how many values and letters a reading holds, each counted each time it is reached (what is shared counts as often as it is met; a slice's spare places count too). A statement '..UptoSaid' is the law's where the arguments, and the package variables that the reading takes, are together of bulk at most 1048576: NARROWER than '..Said'. Prove '..Said' where nothing that the law and all that it calls make is longer than what came in: it says more and counts as full. Else prove '..UptoSaid'. A law counts once. -/
mutual
def uptoBulk {H : Type} : DataW H → Nat
  | .lit (.string bytes) => bytes.length + 1
  | .lit _ => 1
  | .nil => 1
  | .ptr d => uptoBulk d + 1
  | .slice elems spare => uptoBulkAll elems + uptoBulkAll spare + 1
  | .agg parts => uptoBulkAll parts + 1
  | .iface _ d => uptoBulk d + 1
  | .map entries => uptoBulkEntries entries + 1
  | .held _ => 1
def uptoBulkAll {H : Type} : List (DataW H) → Nat
  | [] => 0
  | d :: r => uptoBulk d + uptoBulkAll r
def uptoBulkEntries {H : Type} : List (Lit × DataW H) → Nat
  | [] => 0
  | x :: r => uptoBulkEntry x + uptoBulkEntries r
def uptoBulkEntry {H : Type} : Lit × DataW H → Nat
  | (.string bytes, d) => bytes.length + uptoBulk d + 1
  | (_, d) => uptoBulk d + 1
 end
def uptoSmall : (H : Type) → List (DataW H) → Bool := fun _ ds => decide (uptoBulkAll ds ≤ 1048576)
def OpenSpec.upto (s : _root_.Go.ChangeSpec) : _root_.Go.OpenSpec := { _root_.Go.OpenSpec.ofChange s with cond := some uptoSmall }

/-- 'laws.FnExactIsTerm', WHERE WHAT IT READS IS OF BULK AT MOST 1048576: true; the input reads as it did. -/
def fnExactIsTermUptoRow : OpenClaim := { program := "ytkamopckpmiioaa", sum := "38294ccb60fe9739c30725567040ef2e539e7b0e3a35cbb60981c72279f2867f", func := "loop.example/g03403/laws.FnExactIsTerm", spec := "fnExactIsTerm", apart := false, narrowed := true }
def FnExactIsTermUptoSaid : Prop := fnExactIsTermUptoRow.holds Try.pinned (OpenSpec.upto fnExactIsTermSpec)

/-- 'laws.FnExactTermHolds', WHERE WHAT IT READS IS OF BULK AT MOST 1048576: true; the input reads as it did. -/
def fnExactTermHoldsUptoRow : OpenClaim := { program := "ytkamopckpmiioaa", sum := "38294ccb60fe9739c30725567040ef2e539e7b0e3a35cbb60981c72279f2867f", func := "loop.example/g03403/laws.FnExactTermHolds", spec := "fnExactTermHolds", apart := false, narrowed := true }
def FnExactTermHoldsUptoSaid : Prop := fnExactTermHoldsUptoRow.holds Try.pinned (OpenSpec.upto fnExactTermHoldsSpec)

/-- 'laws.FnExactFormatTerm', WHERE WHAT IT READS IS OF BULK AT MOST 1048576: true; the input reads as it did. -/
def fnExactFormatTermUptoRow : OpenClaim := { program := "ytkamopckpmiioaa", sum := "38294ccb60fe9739c30725567040ef2e539e7b0e3a35cbb60981c72279f2867f", func := "loop.example/g03403/laws.FnExactFormatTerm", spec := "fnExactFormatTerm", inPlace := ["internal/abi.NoEscape"], apart := false, narrowed := true }
def FnExactFormatTermUptoSaid : Prop := fnExactFormatTermUptoRow.holds Try.pinned (OpenSpec.upto fnExactFormatTermSpec)

/-- 'laws.FnExactParseTerm', WHERE WHAT IT READS IS OF BULK AT MOST 1048576: true; the input reads as it did. -/
def fnExactParseTermUptoRow : OpenClaim := { program := "ytkamopckpmiioaa", sum := "38294ccb60fe9739c30725567040ef2e539e7b0e3a35cbb60981c72279f2867f", func := "loop.example/g03403/laws.FnExactParseTerm", spec := "fnExactParseTerm", inPlace := ["internal/abi.NoEscape"], apart := false, narrowed := true }
def FnExactParseTermUptoSaid : Prop := fnExactParseTermUptoRow.holds Try.pinned (OpenSpec.upto fnExactParseTermSpec)

/-- 'laws.FnExactIsImplicant', WHERE WHAT IT READS IS OF BULK AT MOST 1048576: true; the input reads as it did. -/
def fnExactIsImplicantUptoRow : OpenClaim := { program := "ytkamopckpmiioaa", sum := "38294ccb60fe9739c30725567040ef2e539e7b0e3a35cbb60981c72279f2867f", func := "loop.example/g03403/laws.FnExactIsImplicant", spec := "fnExactIsImplicant", apart := false, narrowed := true }
def FnExactIsImplicantUptoSaid : Prop := fnExactIsImplicantUptoRow.holds Try.pinned (OpenSpec.upto fnExactIsImplicantSpec)

/-- 'laws.FnExactIsPrimeTerm', WHERE WHAT IT READS IS OF BULK AT MOST 1048576: true; the input reads as it did. -/
def fnExactIsPrimeTermUptoRow : OpenClaim := { program := "ytkamopckpmiioaa", sum := "38294ccb60fe9739c30725567040ef2e539e7b0e3a35cbb60981c72279f2867f", func := "loop.example/g03403/laws.FnExactIsPrimeTerm", spec := "fnExactIsPrimeTerm", apart := false, narrowed := true }
def FnExactIsPrimeTermUptoSaid : Prop := fnExactIsPrimeTermUptoRow.holds Try.pinned (OpenSpec.upto fnExactIsPrimeTermSpec)

/-- 'laws.FnExactPrimesOf', WHERE WHAT IT READS IS OF BULK AT MOST 1048576: true; the input reads as it did. -/
def fnExactPrimesOfUptoRow : OpenClaim := { program := "ytkamopckpmiioaa", sum := "38294ccb60fe9739c30725567040ef2e539e7b0e3a35cbb60981c72279f2867f", func := "loop.example/g03403/laws.FnExactPrimesOf", spec := "fnExactPrimesOf", unfollowed := true, recurses := true, apart := false, narrowed := true }
def FnExactPrimesOfUptoSaid : Prop := fnExactPrimesOfUptoRow.holds Try.pinned (OpenSpec.upto fnExactPrimesOfSpec)

/-- 'laws.FnExactEssentialPrimes', WHERE WHAT IT READS IS OF BULK AT MOST 1048576: true; the input reads as it did. -/
def fnExactEssentialPrimesUptoRow : OpenClaim := { program := "ytkamopckpmiioaa", sum := "38294ccb60fe9739c30725567040ef2e539e7b0e3a35cbb60981c72279f2867f", func := "loop.example/g03403/laws.FnExactEssentialPrimes", spec := "fnExactEssentialPrimes", unfollowed := true, recurses := true, apart := false, narrowed := true }
def FnExactEssentialPrimesUptoSaid : Prop := fnExactEssentialPrimesUptoRow.holds Try.pinned (OpenSpec.upto fnExactEssentialPrimesSpec)

/-- 'laws.FnExactMinimalSum', WHERE WHAT IT READS IS OF BULK AT MOST 1048576: true; the input reads as it did. -/
def fnExactMinimalSumUptoRow : OpenClaim := { program := "ytkamopckpmiioaa", sum := "38294ccb60fe9739c30725567040ef2e539e7b0e3a35cbb60981c72279f2867f", func := "loop.example/g03403/laws.FnExactMinimalSum", spec := "fnExactMinimalSum", unfollowed := true, recurses := true, apart := false, narrowed := true }
def FnExactMinimalSumUptoSaid : Prop := fnExactMinimalSumUptoRow.holds Try.pinned (OpenSpec.upto fnExactMinimalSumSpec)

/-- 'laws.FnExactTableOfTerms', WHERE WHAT IT READS IS OF BULK AT MOST 1048576: true; the input reads as it did. -/
def fnExactTableOfTermsUptoRow : OpenClaim := { program := "ytkamopckpmiioaa", sum := "38294ccb60fe9739c30725567040ef2e539e7b0e3a35cbb60981c72279f2867f", func := "loop.example/g03403/laws.FnExactTableOfTerms", spec := "fnExactTableOfTerms", apart := false, narrowed := true }
def FnExactTableOfTermsUptoSaid : Prop := fnExactTableOfTermsUptoRow.holds Try.pinned (OpenSpec.upto fnExactTableOfTermsSpec)

/-- 'laws.FnPrimes', WHERE WHAT IT READS IS OF BULK AT MOST 1048576: true; the input reads as it did. -/
def fnPrimesUptoRow : OpenClaim := { program := "ytkamopckpmiioaa", sum := "38294ccb60fe9739c30725567040ef2e539e7b0e3a35cbb60981c72279f2867f", func := "loop.example/g03403/laws.FnPrimes", spec := "fnPrimes", inPlace := ["internal/abi.NoEscape"], unfollowed := true, recurses := true, apart := false, narrowed := true }
def FnPrimesUptoSaid : Prop := fnPrimesUptoRow.holds Try.pinned (OpenSpec.upto fnPrimesSpec)

end Rows
end Go.Proofs.Ytkamopckpmiioaa
