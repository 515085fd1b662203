/-
  Terms: when they hold, their words, implicants, prime terms; of the program and of its model.
-/
import Derived.Test.YtphjaggiddjhgaaDoorTrmA

namespace Go.Proofs.YtphjaggiddjhgaaDoor
open Go.RowKit Plain
set_option linter.unusedVariables false

theorem hold_beq (m v x : Nat) : (((x &&& m : Nat) : Int) == (v : Int)) = decide (x &&& m = v) := by
  by_cases h : x &&& m = v
  · rw [h]; simp
  · rw [decide_eq_false h, beq_eq_false_iff_ne]; omega

end Go.Proofs.YtphjaggiddjhgaaDoor
