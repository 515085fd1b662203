/-
  Chapter 12, numbers only: the dual of a bent table.
-/
import Derived.Test.YtechkghnmgimbaaSpcQ
import Derived.Test.YtechkghnmgimbaaPlainR
namespace Go.Proofs.Ytechkghnmgimbaa
open Go.RowKit Plain
set_option linter.unusedVariables false

/-- Is the value of the set u negative? -/
def Plain.dulB (a M u : Nat) : Nat := if spcN a M u < 0 then 1 else 0
theorem dulB_lt (a M u : Nat) : dulB a M u < 2 := by unfold Plain.dulB; split <;> omega
theorem dulB_yes {a M u : Nat} (h : spcN a M u < 0) : dulB a M u = 1 := if_pos h
theorem dulB_no {a M u : Nat} (h : ¬ spcN a M u < 0) : dulB a M u = 0 := if_neg h
def Plain.dulW (n a : Nat) : Nat := tabN (dulB a (2 ^ n)) (2 ^ n)
end Go.Proofs.Ytechkghnmgimbaa
