/-
  Contract of the model's small test of ranges.
-/
import Derived.Test.YtchibahfkcompaaDoorBase0
namespace Go.Proofs.YtchibahfkcompaaDoor
open Go.RowKit
set_option linter.unusedVariables false

def inB (x a b : Int) : Bool := decide (a ≤ x ∧ x ≤ b)
theorem inB_yes {x a b : Int} (h : a ≤ x ∧ x ≤ b) : inB x a b = true := decide_eq_true h
theorem inB_no {x a b : Int} (h : ¬ (a ≤ x ∧ x ≤ b)) : inB x a b = false := decide_eq_false h
end Go.Proofs.YtchibahfkcompaaDoor
