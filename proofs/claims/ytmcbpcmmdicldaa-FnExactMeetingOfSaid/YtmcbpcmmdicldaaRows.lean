/-
  No cell of these rows narrows 'for every input' (looked for: loops, veiled, ifaces, maps, wideKeys, modest, calm, conditions, laid).
  DERIVED. THE GIVEN ROWS OF THIS SEAT. 5 by the template 'for every input the law returns true; each argument reads behind the call as it read before'; 0 by the template 'total and deterministic' (their statements: YtmcbpcmmdicldaaTotals.lean).
  GIVEN WITH THE SEED: the statements are not yours to turn. If you find one false, say at which input.
  Laid BY PROGRAM, IN A SANDBOX (cutbox-rows.mjs): the forced cells as the released guide's own fill.sh prints them over the translation f60566aacf6ed957… (all of the seat's roots in one cut). By AI agents, Wed Nov 11 2026. No macro, syntax, notation, axiom, sorry.
-/
import Derived.Test.YtmcbpcmmdicldaaChecked
import GoSem.Claim
import GoSem.ClaimJoined
import GoSem.ClaimMapViews
import Derived.JoinedTies
import Derived.KernelRfl
namespace Go.Proofs.Ytmcbpcmmdicldaa
/- THE CELL 'sum', in the pinned program and in every row, IS THE sha256 OF THE DUMP (.gsa) THAT YtmcbpcmmdicldaaProg.lean LOADS. Nothing in Lean hashes anything: it is a label: what it is worth is what the hold of that sum in a sandbox is worth. -/
noncomputable def Try.pinned : Pinned := { name := "ytmcbpcmmdicldaa", sum := "f60566aacf6ed95756247cc6f1c5be3e9eb2a1d1607ee7d9aad61ce3f9c4dc38", checked := Try.checked }
namespace Rows
def none {H : Type} : Left H := { results := [], args := [] }

/-- 'laws.FnExactCertificateAt': WHATEVER THE INPUT: true; the input reads as it did. -/
def fnExactCertificateAtSpec : ChangeSpec := { name := "fnExactCertificateAt", fn := fun _ => fun
  | [d1, d2] => { results := [.lit (.bool true)], args := [d1, d2] }
  | _ => none }
def fnExactCertificateAtRow : OpenClaim := { program := "ytmcbpcmmdicldaa", sum := "f60566aacf6ed95756247cc6f1c5be3e9eb2a1d1607ee7d9aad61ce3f9c4dc38", func := "loop.example/g03403/laws.FnExactCertificateAt", spec := "fnExactCertificateAt", unfollowed := true, recurses := true, apart := false }
def FnExactCertificateAtSaid : Prop := fnExactCertificateAtRow.holds Try.pinned (OpenSpec.ofChange fnExactCertificateAtSpec)

/-- ITS FALSE NEIGHBOUR: 'it returns false'. Refute it at one input. -/
def fnExactCertificateAtWrong : ChangeSpec := { name := "fnExactCertificateAt", fn := fun _ => fun
  | [d1, d2] => { results := [.lit (.bool false)], args := [d1, d2] }
  | _ => none }
def FnExactCertificateAtWrongFalsely : Prop := fnExactCertificateAtRow.holds Try.pinned (OpenSpec.ofChange fnExactCertificateAtWrong)

/-- 'laws.FnExactCertificateSet': WHATEVER THE INPUT: true; the input reads as it did. -/
def fnExactCertificateSetSpec : ChangeSpec := { name := "fnExactCertificateSet", fn := fun _ => fun
  | [d1, d2] => { results := [.lit (.bool true)], args := [d1, d2] }
  | _ => none }
def fnExactCertificateSetRow : OpenClaim := { program := "ytmcbpcmmdicldaa", sum := "f60566aacf6ed95756247cc6f1c5be3e9eb2a1d1607ee7d9aad61ce3f9c4dc38", func := "loop.example/g03403/laws.FnExactCertificateSet", spec := "fnExactCertificateSet", unfollowed := true, recurses := true, apart := false }
def FnExactCertificateSetSaid : Prop := fnExactCertificateSetRow.holds Try.pinned (OpenSpec.ofChange fnExactCertificateSetSpec)

/-- ITS FALSE NEIGHBOUR: 'it returns false'. Refute it at one input. -/
def fnExactCertificateSetWrong : ChangeSpec := { name := "fnExactCertificateSet", fn := fun _ => fun
  | [d1, d2] => { results := [.lit (.bool false)], args := [d1, d2] }
  | _ => none }
def FnExactCertificateSetWrongFalsely : Prop := fnExactCertificateSetRow.holds Try.pinned (OpenSpec.ofChange fnExactCertificateSetWrong)

/-- 'laws.FnExactCertificateOf': WHATEVER THE INPUT: true; the input reads as it did. -/
def fnExactCertificateOfSpec : ChangeSpec := { name := "fnExactCertificateOf", fn := fun _ => fun
  | [d1, d2] => { results := [.lit (.bool true)], args := [d1, d2] }
  | _ => none }
def fnExactCertificateOfRow : OpenClaim := { program := "ytmcbpcmmdicldaa", sum := "f60566aacf6ed95756247cc6f1c5be3e9eb2a1d1607ee7d9aad61ce3f9c4dc38", func := "loop.example/g03403/laws.FnExactCertificateOf", spec := "fnExactCertificateOf", unfollowed := true, recurses := true, apart := false }
def FnExactCertificateOfSaid : Prop := fnExactCertificateOfRow.holds Try.pinned (OpenSpec.ofChange fnExactCertificateOfSpec)

/-- ITS FALSE NEIGHBOUR: 'it returns false'. Refute it at one input. -/
def fnExactCertificateOfWrong : ChangeSpec := { name := "fnExactCertificateOf", fn := fun _ => fun
  | [d1, d2] => { results := [.lit (.bool false)], args := [d1, d2] }
  | _ => none }
def FnExactCertificateOfWrongFalsely : Prop := fnExactCertificateOfRow.holds Try.pinned (OpenSpec.ofChange fnExactCertificateOfWrong)

/-- 'laws.FnExactIsCertificate': WHATEVER THE INPUT: true; the input reads as it did. -/
def fnExactIsCertificateSpec : ChangeSpec := { name := "fnExactIsCertificate", fn := fun _ => fun
  | [d1, d2, d3] => { results := [.lit (.bool true)], args := [d1, d2, d3] }
  | _ => none }
def fnExactIsCertificateRow : OpenClaim := { program := "ytmcbpcmmdicldaa", sum := "f60566aacf6ed95756247cc6f1c5be3e9eb2a1d1607ee7d9aad61ce3f9c4dc38", func := "loop.example/g03403/laws.FnExactIsCertificate", spec := "fnExactIsCertificate", apart := false }
def FnExactIsCertificateSaid : Prop := fnExactIsCertificateRow.holds Try.pinned (OpenSpec.ofChange fnExactIsCertificateSpec)

/-- ITS FALSE NEIGHBOUR: 'it returns false'. Refute it at one input. -/
def fnExactIsCertificateWrong : ChangeSpec := { name := "fnExactIsCertificate", fn := fun _ => fun
  | [d1, d2, d3] => { results := [.lit (.bool false)], args := [d1, d2, d3] }
  | _ => none }
def FnExactIsCertificateWrongFalsely : Prop := fnExactIsCertificateRow.holds Try.pinned (OpenSpec.ofChange fnExactIsCertificateWrong)

/-- 'laws.FnExactMeetingOf': WHATEVER THE INPUT: true; the input reads as it did. -/
def fnExactMeetingOfSpec : ChangeSpec := { name := "fnExactMeetingOf", fn := fun _ => fun
  | [d] => { results := [.lit (.bool true)], args := [d] }
  | _ => none }
def fnExactMeetingOfRow : OpenClaim := { program := "ytmcbpcmmdicldaa", sum := "f60566aacf6ed95756247cc6f1c5be3e9eb2a1d1607ee7d9aad61ce3f9c4dc38", func := "loop.example/g03403/laws.FnExactMeetingOf", spec := "fnExactMeetingOf", unfollowed := true, recurses := true, apart := false }
def FnExactMeetingOfSaid : Prop := fnExactMeetingOfRow.holds Try.pinned (OpenSpec.ofChange fnExactMeetingOfSpec)

/-- ITS FALSE NEIGHBOUR: 'it returns false'. Refute it at one input. -/
def fnExactMeetingOfWrong : ChangeSpec := { name := "fnExactMeetingOf", fn := fun _ => fun
  | [d] => { results := [.lit (.bool false)], args := [d] }
  | _ => none }
def FnExactMeetingOfWrongFalsely : Prop := fnExactMeetingOfRow.holds Try.pinned (OpenSpec.ofChange fnExactMeetingOfWrong)

/- THE SECOND FORM. 'bulk': how many values and letters a reading holds, each counted each time it is reached (what is shared counts as often as it is met; a slice's spare places count too). A statement '..UptoSaid' is the law's where the arguments, and the package variables that the reading takes, are together of bulk at most 1048576: NARROWER than '..Said'. Prove '..Said' where nothing that the law and all that it calls make is longer than what came in: it says more and counts as full. Else prove '..UptoSaid'. A law counts once. -/
mutual
def uptoBulk {H : Type} : DataW H → Nat
  | .lit (.string bytes) => bytes.length + 1
  | .lit _ => 1
  | .nil => 1
  | .ptr d => uptoBulk d + 1
  | .slice elems spare => uptoBulkAll elems + uptoBulkAll spare + 1
  | .agg parts => uptoBulkAll parts + 1
  | .iface _ d => uptoBulk d + 1
  | .map entries => uptoBulkEntries entries + 1
  | .held _ => 1
def uptoBulkAll {H : Type} : List (DataW H) → Nat
  | [] => 0
  | d :: r => uptoBulk d + uptoBulkAll r
def uptoBulkEntries {H : Type} : List (Lit × DataW H) → Nat
  | [] => 0
  | x :: r => uptoBulkEntry x + uptoBulkEntries r
def uptoBulkEntry {H : Type} : Lit × DataW H → Nat
  | (.string bytes, d) => bytes.length + uptoBulk d + 1
  | (_, d) => uptoBulk d + 1
 end
def uptoSmall : (H : Type) → List (DataW H) → Bool := fun _ ds => decide (uptoBulkAll ds ≤ 1048576)
def OpenSpec.upto (s : _root_.Go.ChangeSpec) : _root_.Go.OpenSpec := { _root_.Go.OpenSpec.ofChange s with cond := some uptoSmall }

/-- 'laws.FnExactCertificateAt', WHERE WHAT IT READS IS OF BULK AT MOST 1048576: true; the input reads as it did. -/
def fnExactCertificateAtUptoRow : OpenClaim := { program := "ytmcbpcmmdicldaa", sum := "f60566aacf6ed95756247cc6f1c5be3e9eb2a1d1607ee7d9aad61ce3f9c4dc38", func := "loop.example/g03403/laws.FnExactCertificateAt", spec := "fnExactCertificateAt", unfollowed := true, recurses := true, apart := false, narrowed := true }
def FnExactCertificateAtUptoSaid : Prop := fnExactCertificateAtUptoRow.holds Try.pinned (OpenSpec.upto fnExactCertificateAtSpec)

/-- 'laws.FnExactCertificateSet', WHERE WHAT IT READS IS OF BULK AT MOST 1048576: true; the input reads as it did. -/
def fnExactCertificateSetUptoRow : OpenClaim := { program := "ytmcbpcmmdicldaa", sum := "f60566aacf6ed95756247cc6f1c5be3e9eb2a1d1607ee7d9aad61ce3f9c4dc38", func := "loop.example/g03403/laws.FnExactCertificateSet", spec := "fnExactCertificateSet", unfollowed := true, recurses := true, apart := false, narrowed := true }
def FnExactCertificateSetUptoSaid : Prop := fnExactCertificateSetUptoRow.holds Try.pinned (OpenSpec.upto fnExactCertificateSetSpec)

/-- 'laws.FnExactCertificateOf', WHERE WHAT IT READS IS OF BULK AT MOST 1048576: true; the input reads as it did. -/
def fnExactCertificateOfUptoRow : OpenClaim := { program := "ytmcbpcmmdicldaa", sum := "f60566aacf6ed95756247cc6f1c5be3e9eb2a1d1607ee7d9aad61ce3f9c4dc38", func := "loop.example/g03403/laws.FnExactCertificateOf", spec := "fnExactCertificateOf", unfollowed := true, recurses := true, apart := false, narrowed := true }
def FnExactCertificateOfUptoSaid : Prop := fnExactCertificateOfUptoRow.holds Try.pinned (OpenSpec.upto fnExactCertificateOfSpec)

/-- 'laws.FnExactIsCertificate', WHERE WHAT IT READS IS OF BULK AT MOST 1048576: true; the input reads as it did. -/
def fnExactIsCertificateUptoRow : OpenClaim := { program := "ytmcbpcmmdicldaa", sum := "f60566aacf6ed95756247cc6f1c5be3e9eb2a1d1607ee7d9aad61ce3f9c4dc38", func := "loop.example/g03403/laws.FnExactIsCertificate", spec := "fnExactIsCertificate", apart := false, narrowed := true }
def FnExactIsCertificateUptoSaid : Prop := fnExactIsCertificateUptoRow.holds Try.pinned (OpenSpec.upto fnExactIsCertificateSpec)

/-- 'laws.FnExactMeetingOf', WHERE WHAT IT READS IS OF BULK AT MOST 1048576: true; the input reads as it did. -/
def fnExactMeetingOfUptoRow : OpenClaim := { program := "ytmcbpcmmdicldaa", sum := "f60566aacf6ed95756247cc6f1c5be3e9eb2a1d1607ee7d9aad61ce3f9c4dc38", func := "loop.example/g03403/laws.FnExactMeetingOf", spec := "fnExactMeetingOf", unfollowed := true, recurses := true, apart := false, narrowed := true }
def FnExactMeetingOfUptoSaid : Prop := fnExactMeetingOfUptoRow.holds Try.pinned (OpenSpec.upto fnExactMeetingOfSpec)

end Rows
end Go.Proofs.Ytmcbpcmmdicldaa
