/-
  Chapter 11, the model: DegreeMod2, RealCoefficients, RealDegree.
-/
import Derived.Test.YtphjaggiddjhgaaDoorDegM
namespace Go.Proofs.YtphjaggiddjhgaaDoor
open Go.RowKit Plain
set_option linter.unusedVariables false

theorem sumF_bound (w m x : Nat) : -(x : Int) ≤ sumF (-1) (valZ w) m x ∧ sumF (-1) (valZ w) m x ≤ (x : Int) := by
  induction x with
  | zero => exact ⟨Int.le_refl _, Int.le_refl _⟩
  | succ x ih =>
    have hb := bitN_lt w x
    by_cases h : x &&& m = x
    · rw [sumF_yes h, show valZ w x = (bitN w x : Int) from rfl]
      unfold sgn
      split
      · rw [Int.neg_mul, Int.one_mul]; omega
      · rw [Int.one_mul]; omega
    · rw [sumF_no h]; omega
theorem sumF_neg {w m x : Nat} (h : x &&& m = x) (hp : popN (m ^^^ x) % 2 = 1) : sumF (-1) (valZ w) m (x + 1) = sumF (-1) (valZ w) m x - (bitN w x : Int) := by
  rw [sumF_yes h]; unfold sgn valZ; rw [if_pos hp]; omega
theorem sumF_pos {w m x : Nat} (h : x &&& m = x) (hp : popN (m ^^^ x) % 2 ≠ 1) : sumF (-1) (valZ w) m (x + 1) = sumF (-1) (valZ w) m x + (bitN w x : Int) := by
  rw [sumF_yes h]; unfold sgn valZ; rw [if_neg hp]; omega

theorem recT_ok (n a : Int) : (recT n a).length ≤ 32 ∧ ∀ y ∈ recT n a, -9223372036854775808 ≤ y ∧ y ≤ 9223372036854775807 := by
  cases h : isT n a with
  | false => rw [recT_no h]; exact ⟨by decide, fun y hy => absurd hy (by simp)⟩
  | true =>
    obtain ⟨n, a, rfl, rfl, hn, ha⟩ := isT_nat h
    rw [recT_yes h, reL_len]
    exact ⟨two_pow_le n hn, fun y hy => by have := reL_bound hn y hy; omega⟩

end Go.Proofs.YtphjaggiddjhgaaDoor
