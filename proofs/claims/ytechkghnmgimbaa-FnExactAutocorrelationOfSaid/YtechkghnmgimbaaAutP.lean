/-
  Chapter 12, numbers only: the term of the autocorrelation.
-/
import Derived.Test.YtechkghnmgimbaaSpcP
namespace Go.Proofs.Ytechkghnmgimbaa
open Go.RowKit Plain
set_option linter.unusedVariables false

/-- The term of the autocorrelation. -/
def Plain.autV (a s x : Nat) : Int := 1 - 2 * (((bitN a x + bitN a (x ^^^ s)) % 2 : Nat) : Int)
theorem autV_one (a s x : Nat) : autV a s x = 1 ∨ autV a s x = -1 := by
  unfold Plain.autV
  rcases Nat.mod_two_eq_zero_or_one (bitN a x + bitN a (x ^^^ s)) with h | h <;> rw [h] <;> simp
/-- The value at the shift u. -/
def Plain.autN (a M u : Nat) : Int := sumT (autV a) u M
theorem autN_lim (a M u : Nat) : -(M : Int) ≤ autN a M u ∧ autN a M u ≤ (M : Int) := sumT_lim (autV_one a) u M
end Go.Proofs.Ytechkghnmgimbaa
