/-
  Chapter 12, numbers only: the term of the autocorrelation.
-/
import Derived.Test.YtechkghnmgimbaaSpcP
namespace Go.Proofs.Ytechkghnmgimbaa
open Go.RowKit Plain
set_option linter.unusedVariables false

/-- The term of the autocorrelation. -/
def Plain.autV (a s x : Nat) : Int := 1 - 2 * (((bitN a x + bitN a (x ^^^ s)) % 2 : Nat) : Int)
theorem autV_one (a s x : Nat) : autV a s x = 1 ∨ autV a s x = -1 := by
  unfold Plain.autV
  rcases Nat.mod_two_eq_zero_or_one (bitN a x + bitN a (x ^^^ s)) with h | h <;> rw [h] <;> simp
/-- The value at the shift u. -/
def Plain.autN (a M u : Nat) : Int := sumT (autV a) u M
theorem autN_lim (a M u : Nat) : -(M : Int) ≤ autN a M u ∧ autN a M u ≤ (M : Int) := sumT_lim (autV_one a) u M
/-- The linear structures below k. -/
def Plain.linL (a M : Nat) : Nat → List Int
  | 0 => []
  | k + 1 => if (autN a M k).natAbs = M then linL a M k ++ [(k : Int)] else linL a M k
theorem linL_on {a M k : Nat} (h : (autN a M k).natAbs = M) : linL a M (k + 1) = linL a M k ++ [(k : Int)] := if_pos h
theorem linL_off {a M k : Nat} (h : (autN a M k).natAbs ≠ M) : linL a M (k + 1) = linL a M k := if_neg h
theorem linL_len (a M : Nat) : ∀ k, (linL a M k).length ≤ k := by
  intro k
  induction k with
  | zero => exact Nat.le_refl _
  | succ k ih =>
    by_cases h : (autN a M k).natAbs = M
    · rw [linL_on h, List.length_append, List.length_singleton]; omega
    · rw [linL_off h]; omega
theorem linL_mem (a M : Nat) : ∀ k, ∀ x ∈ linL a M k, 0 ≤ x ∧ x < (k : Int) := by
  intro k
  induction k with
  | zero => intro x hx; cases hx
  | succ k ih =>
    intro x hx
    by_cases h : (autN a M k).natAbs = M
    · rw [linL_on h, List.mem_append, List.mem_singleton] at hx
      rcases hx with hx | rfl
      · have := ih x hx; omega
      · omega
    · rw [linL_off h] at hx
      have := ih x hx; omega
end Go.Proofs.Ytechkghnmgimbaa
