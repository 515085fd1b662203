/-
  The three draws of the law of chapter 1.
-/
import Derived.Test.YtlmhdocfdpbhmaaDrawA
namespace Go.Proofs.Ytlmhdocfdpbhmaa
open Go.RowKit Plain
set_option linter.unusedVariables false

theorem belowGrown {w w1 w2 : World} {b : Nat} (h : Below w.heap.size w w1) (hg : w1.grownBy w2 (some b)) (hb : w.heap.size ≤ b) : Below w.heap.size w w2 :=
  h.grown hg h.size (fun k hk => by cases hk; exact hb)

/-- Some number in the range of an int. -/
def SomeNum (w : World) (e : Ending) (w' : World) : Prop := ∃ n : Int, e = .returned (.int .i64 n) ∧ In64 n ∧ Below w.heap.size w w'
/-- Some text of at most 40 bytes. -/
def SomeText (w : World) (e : Ending) (w' : World) : Prop := ∃ l : List UInt8, e = .returned (.string ⟨l.toArray⟩) ∧ l.length ≤ 40 ∧ Below w.heap.size w w'
/-- Two numbers. -/
def SomeTwo (w : World) (e : Ending) (w' : World) : Prop := ∃ n m : Int, e = .returned (.tuple #[.int .i64 n, .int .i64 m]) ∧ In64 n ∧ -1 ≤ m ∧ m ≤ 8 ∧ Below w.heap.size w w'

set_option maxRecDepth 100000 in
theorem Draw.big (a : Option Addr) (len cap : Nat) (hl : (len : Int) ≤ 9223372036854775807) (w : World) :
    Calls Try.prog 13 #[.slice a len cap] w fun e w' => e = .returned (.bool (decide (1048576 < (len : Int)))) ∧ w = w' := by
  go_enter Try.func13, Try.ntmps13
  go_wp2
  go_ret
  exact ⟨rfl, rfl⟩
end Go.Proofs.Ytlmhdocfdpbhmaa
