/-
  No cell of these rows narrows 'for every input' (looked for: loops, veiled, ifaces, maps, wideKeys, modest, calm, conditions, laid).
  DERIVED. THE GIVEN ROWS OF THIS SEAT. 6 by the template 'for every input the law returns true; each argument reads behind the call as it read before'; 0 by the template 'total and deterministic' (their statements: YtdhdkonokbkdoaaTotals.lean).
  GIVEN WITH THE SEED: the statements are not yours to turn. If you find one false, say at which input.
  Laid BY PROGRAM, IN A SANDBOX (cutbox-rows.mjs): the forced cells as the released guide's own fill.sh prints them over the translation 3fd946e3b6373502… (all of the seat's roots in one cut). By AI agents, Wed Nov 11 2026. No macro, syntax, notation, axiom, sorry.
-/
import Derived.Test.YtdhdkonokbkdoaaChecked
import GoSem.Claim
import GoSem.ClaimJoined
import GoSem.ClaimMapViews
import Derived.JoinedTies
import Derived.KernelRfl
namespace Go.Proofs.Ytdhdkonokbkdoaa
/- THE CELL 'sum', in the pinned program and in every row, IS THE sha256 OF THE DUMP (.gsa) THAT YtdhdkonokbkdoaaProg.lean LOADS. Nothing in Lean hashes anything: it is a label: what it is worth is what the hold of that sum in a sandbox is worth. -/
noncomputable def Try.pinned : Pinned := { name := "ytdhdkonokbkdoaa", sum := "3fd946e3b63735024d7f4b0cb0e5c6ff1069eb09606bd1b0344c357024ba577d", checked := Try.checked }
namespace Rows
def none {H : Type} : Left H := { results := [], args := [] }

/-- 'laws.FnAdversaries': WHATEVER THE INPUT: true; the input reads as it did. -/
def fnAdversariesSpec : ChangeSpec := { name := "fnAdversaries", fn := fun _ => fun
  | [d] => { results := [.lit (.bool true)], args := [d] }
  | _ => none }
def fnAdversariesRow : OpenClaim := { program := "ytdhdkonokbkdoaa", sum := "3fd946e3b63735024d7f4b0cb0e5c6ff1069eb09606bd1b0344c357024ba577d", func := "loop.example/g03403/laws.FnAdversaries", spec := "fnAdversaries", unfollowed := true, recurses := true, apart := false }
def FnAdversariesSaid : Prop := fnAdversariesRow.holds Try.pinned (OpenSpec.ofChange fnAdversariesSpec)

/-- ITS FALSE NEIGHBOUR: 'it returns false'. Refute it at one input. -/
def fnAdversariesWrong : ChangeSpec := { name := "fnAdversaries", fn := fun _ => fun
  | [d] => { results := [.lit (.bool false)], args := [d] }
  | _ => none }
def FnAdversariesWrongFalsely : Prop := fnAdversariesRow.holds Try.pinned (OpenSpec.ofChange fnAdversariesWrong)

/-- 'laws.FnExactAdversaryAnswer': WHATEVER THE INPUT: true; the input reads as it did. -/
def fnExactAdversaryAnswerSpec : ChangeSpec := { name := "fnExactAdversaryAnswer", fn := fun _ => fun
  | [d1, d2, d3, d4] => { results := [.lit (.bool true)], args := [d1, d2, d3, d4] }
  | _ => none }
def fnExactAdversaryAnswerRow : OpenClaim := { program := "ytdhdkonokbkdoaa", sum := "3fd946e3b63735024d7f4b0cb0e5c6ff1069eb09606bd1b0344c357024ba577d", func := "loop.example/g03403/laws.FnExactAdversaryAnswer", spec := "fnExactAdversaryAnswer", unfollowed := true, recurses := true, apart := false }
def FnExactAdversaryAnswerSaid : Prop := fnExactAdversaryAnswerRow.holds Try.pinned (OpenSpec.ofChange fnExactAdversaryAnswerSpec)

/-- ITS FALSE NEIGHBOUR: 'it returns false'. Refute it at one input. -/
def fnExactAdversaryAnswerWrong : ChangeSpec := { name := "fnExactAdversaryAnswer", fn := fun _ => fun
  | [d1, d2, d3, d4] => { results := [.lit (.bool false)], args := [d1, d2, d3, d4] }
  | _ => none }
def FnExactAdversaryAnswerWrongFalsely : Prop := fnExactAdversaryAnswerRow.holds Try.pinned (OpenSpec.ofChange fnExactAdversaryAnswerWrong)

/-- 'laws.FnExactPlayAgainst': WHATEVER THE INPUT: true; the input reads as it did. -/
def fnExactPlayAgainstSpec : ChangeSpec := { name := "fnExactPlayAgainst", fn := fun _ => fun
  | [d1, d2] => { results := [.lit (.bool true)], args := [d1, d2] }
  | _ => none }
def fnExactPlayAgainstRow : OpenClaim := { program := "ytdhdkonokbkdoaa", sum := "3fd946e3b63735024d7f4b0cb0e5c6ff1069eb09606bd1b0344c357024ba577d", func := "loop.example/g03403/laws.FnExactPlayAgainst", spec := "fnExactPlayAgainst", unfollowed := true, recurses := true, apart := false }
def FnExactPlayAgainstSaid : Prop := fnExactPlayAgainstRow.holds Try.pinned (OpenSpec.ofChange fnExactPlayAgainstSpec)

/-- ITS FALSE NEIGHBOUR: 'it returns false'. Refute it at one input. -/
def fnExactPlayAgainstWrong : ChangeSpec := { name := "fnExactPlayAgainst", fn := fun _ => fun
  | [d1, d2] => { results := [.lit (.bool false)], args := [d1, d2] }
  | _ => none }
def FnExactPlayAgainstWrongFalsely : Prop := fnExactPlayAgainstRow.holds Try.pinned (OpenSpec.ofChange fnExactPlayAgainstWrong)

/-- 'laws.FnExactIsEvasive': WHATEVER THE INPUT: true; the input reads as it did. -/
def fnExactIsEvasiveSpec : ChangeSpec := { name := "fnExactIsEvasive", fn := fun _ => fun
  | [d] => { results := [.lit (.bool true)], args := [d] }
  | _ => none }
def fnExactIsEvasiveRow : OpenClaim := { program := "ytdhdkonokbkdoaa", sum := "3fd946e3b63735024d7f4b0cb0e5c6ff1069eb09606bd1b0344c357024ba577d", func := "loop.example/g03403/laws.FnExactIsEvasive", spec := "fnExactIsEvasive", unfollowed := true, recurses := true, apart := false }
def FnExactIsEvasiveSaid : Prop := fnExactIsEvasiveRow.holds Try.pinned (OpenSpec.ofChange fnExactIsEvasiveSpec)

/-- ITS FALSE NEIGHBOUR: 'it returns false'. Refute it at one input. -/
def fnExactIsEvasiveWrong : ChangeSpec := { name := "fnExactIsEvasive", fn := fun _ => fun
  | [d] => { results := [.lit (.bool false)], args := [d] }
  | _ => none }
def FnExactIsEvasiveWrongFalsely : Prop := fnExactIsEvasiveRow.holds Try.pinned (OpenSpec.ofChange fnExactIsEvasiveWrong)

/-- 'laws.FnExactAskedOf': WHATEVER THE INPUT: true; the input reads as it did. -/
def fnExactAskedOfSpec : ChangeSpec := { name := "fnExactAskedOf", fn := fun _ => fun
  | [d1, d2, d3] => { results := [.lit (.bool true)], args := [d1, d2, d3] }
  | _ => none }
def fnExactAskedOfRow : OpenClaim := { program := "ytdhdkonokbkdoaa", sum := "3fd946e3b63735024d7f4b0cb0e5c6ff1069eb09606bd1b0344c357024ba577d", func := "loop.example/g03403/laws.FnExactAskedOf", spec := "fnExactAskedOf", unfollowed := true, recurses := true, apart := false }
def FnExactAskedOfSaid : Prop := fnExactAskedOfRow.holds Try.pinned (OpenSpec.ofChange fnExactAskedOfSpec)

/-- ITS FALSE NEIGHBOUR: 'it returns false'. Refute it at one input. -/
def fnExactAskedOfWrong : ChangeSpec := { name := "fnExactAskedOf", fn := fun _ => fun
  | [d1, d2, d3] => { results := [.lit (.bool false)], args := [d1, d2, d3] }
  | _ => none }
def FnExactAskedOfWrongFalsely : Prop := fnExactAskedOfRow.holds Try.pinned (OpenSpec.ofChange fnExactAskedOfWrong)

/-- 'laws.FnExactForcedLeft': WHATEVER THE INPUT: true; the input reads as it did. -/
def fnExactForcedLeftSpec : ChangeSpec := { name := "fnExactForcedLeft", fn := fun _ => fun
  | [d1, d2, d3] => { results := [.lit (.bool true)], args := [d1, d2, d3] }
  | _ => none }
def fnExactForcedLeftRow : OpenClaim := { program := "ytdhdkonokbkdoaa", sum := "3fd946e3b63735024d7f4b0cb0e5c6ff1069eb09606bd1b0344c357024ba577d", func := "loop.example/g03403/laws.FnExactForcedLeft", spec := "fnExactForcedLeft", unfollowed := true, recurses := true, apart := false }
def FnExactForcedLeftSaid : Prop := fnExactForcedLeftRow.holds Try.pinned (OpenSpec.ofChange fnExactForcedLeftSpec)

/-- ITS FALSE NEIGHBOUR: 'it returns false'. Refute it at one input. -/
def fnExactForcedLeftWrong : ChangeSpec := { name := "fnExactForcedLeft", fn := fun _ => fun
  | [d1, d2, d3] => { results := [.lit (.bool false)], args := [d1, d2, d3] }
  | _ => none }
def FnExactForcedLeftWrongFalsely : Prop := fnExactForcedLeftRow.holds Try.pinned (OpenSpec.ofChange fnExactForcedLeftWrong)

/- THE SECOND FORM. 'bulk': how many values and letters a reading holds, each counted each time it is reached (what is shared counts as often as it is met; a slice's spare places count too). A statement '..UptoSaid' is the law's where the arguments, and the package variables that the reading takes, are together of bulk at most 1048576: NARROWER than '..Said'. Prove '..Said' where nothing that the law and all that it calls make is longer than what came in: it says more and counts as full. Else prove '..UptoSaid'. A law counts once. -/
mutual
def uptoBulk {H : Type} : DataW H → Nat
  | .lit (.string bytes) => bytes.length + 1
  | .lit _ => 1
  | .nil => 1
  | .ptr d => uptoBulk d + 1
  | .slice elems spare => uptoBulkAll elems + uptoBulkAll spare + 1
  | .agg parts => uptoBulkAll parts + 1
  | .iface _ d => uptoBulk d + 1
  | .map entries => uptoBulkEntries entries + 1
  | .held _ => 1
def uptoBulkAll {H : Type} : List (DataW H) → Nat
  | [] => 0
  | d :: r => uptoBulk d + uptoBulkAll r
def uptoBulkEntries {H : Type} : List (Lit × DataW H) → Nat
  | [] => 0
  | x :: r => uptoBulkEntry x + uptoBulkEntries r
def uptoBulkEntry {H : Type} : Lit × DataW H → Nat
  | (.string bytes, d) => bytes.length + uptoBulk d + 1
  | (_, d) => uptoBulk d + 1
 end
def uptoSmall : (H : Type) → List (DataW H) → Bool := fun _ ds => decide (uptoBulkAll ds ≤ 1048576)
def OpenSpec.upto (s : _root_.Go.ChangeSpec) : _root_.Go.OpenSpec := { _root_.Go.OpenSpec.ofChange s with cond := some uptoSmall }

/-- 'laws.FnAdversaries', WHERE WHAT IT READS IS OF BULK AT MOST 1048576: true; the input reads as it did. -/
def fnAdversariesUptoRow : OpenClaim := { program := "ytdhdkonokbkdoaa", sum := "3fd946e3b63735024d7f4b0cb0e5c6ff1069eb09606bd1b0344c357024ba577d", func := "loop.example/g03403/laws.FnAdversaries", spec := "fnAdversaries", unfollowed := true, recurses := true, apart := false, narrowed := true }
def FnAdversariesUptoSaid : Prop := fnAdversariesUptoRow.holds Try.pinned (OpenSpec.upto fnAdversariesSpec)

/-- 'laws.FnExactAdversaryAnswer', WHERE WHAT IT READS IS OF BULK AT MOST 1048576: true; the input reads as it did. -/
def fnExactAdversaryAnswerUptoRow : OpenClaim := { program := "ytdhdkonokbkdoaa", sum := "3fd946e3b63735024d7f4b0cb0e5c6ff1069eb09606bd1b0344c357024ba577d", func := "loop.example/g03403/laws.FnExactAdversaryAnswer", spec := "fnExactAdversaryAnswer", unfollowed := true, recurses := true, apart := false, narrowed := true }
def FnExactAdversaryAnswerUptoSaid : Prop := fnExactAdversaryAnswerUptoRow.holds Try.pinned (OpenSpec.upto fnExactAdversaryAnswerSpec)

/-- 'laws.FnExactPlayAgainst', WHERE WHAT IT READS IS OF BULK AT MOST 1048576: true; the input reads as it did. -/
def fnExactPlayAgainstUptoRow : OpenClaim := { program := "ytdhdkonokbkdoaa", sum := "3fd946e3b63735024d7f4b0cb0e5c6ff1069eb09606bd1b0344c357024ba577d", func := "loop.example/g03403/laws.FnExactPlayAgainst", spec := "fnExactPlayAgainst", unfollowed := true, recurses := true, apart := false, narrowed := true }
def FnExactPlayAgainstUptoSaid : Prop := fnExactPlayAgainstUptoRow.holds Try.pinned (OpenSpec.upto fnExactPlayAgainstSpec)

/-- 'laws.FnExactIsEvasive', WHERE WHAT IT READS IS OF BULK AT MOST 1048576: true; the input reads as it did. -/
def fnExactIsEvasiveUptoRow : OpenClaim := { program := "ytdhdkonokbkdoaa", sum := "3fd946e3b63735024d7f4b0cb0e5c6ff1069eb09606bd1b0344c357024ba577d", func := "loop.example/g03403/laws.FnExactIsEvasive", spec := "fnExactIsEvasive", unfollowed := true, recurses := true, apart := false, narrowed := true }
def FnExactIsEvasiveUptoSaid : Prop := fnExactIsEvasiveUptoRow.holds Try.pinned (OpenSpec.upto fnExactIsEvasiveSpec)

/-- 'laws.FnExactAskedOf', WHERE WHAT IT READS IS OF BULK AT MOST 1048576: true; the input reads as it did. -/
def fnExactAskedOfUptoRow : OpenClaim := { program := "ytdhdkonokbkdoaa", sum := "3fd946e3b63735024d7f4b0cb0e5c6ff1069eb09606bd1b0344c357024ba577d", func := "loop.example/g03403/laws.FnExactAskedOf", spec := "fnExactAskedOf", unfollowed := true, recurses := true, apart := false, narrowed := true }
def FnExactAskedOfUptoSaid : Prop := fnExactAskedOfUptoRow.holds Try.pinned (OpenSpec.upto fnExactAskedOfSpec)

/-- 'laws.FnExactForcedLeft', WHERE WHAT IT READS IS OF BULK AT MOST 1048576: true; the input reads as it did. -/
def fnExactForcedLeftUptoRow : OpenClaim := { program := "ytdhdkonokbkdoaa", sum := "3fd946e3b63735024d7f4b0cb0e5c6ff1069eb09606bd1b0344c357024ba577d", func := "loop.example/g03403/laws.FnExactForcedLeft", spec := "fnExactForcedLeft", unfollowed := true, recurses := true, apart := false, narrowed := true }
def FnExactForcedLeftUptoSaid : Prop := fnExactForcedLeftUptoRow.holds Try.pinned (OpenSpec.upto fnExactForcedLeftSpec)

end Rows
end Go.Proofs.Ytdhdkonokbkdoaa
