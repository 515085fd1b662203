/-
  RestrictTable of the program and of its model.
  RestrictTable of the program.
  RestrictTable of the model, and both at every argument.
-/
import Derived.Test.YtafblnhfnjfhcaaResB

namespace Go.Proofs.Ytafblnhfnjfhcaa
open Go.RowKit Plain
set_option linter.unusedVariables false

/-- The word of the restriction. -/
def Plain.restW (n a i b : Nat) : Nat := tabN (fun x => bitN a (insN x i b)) (2 ^ (n - 1))
/-- What RestrictTable answers. -/
def Plain.resT (n a i b : Int) : Int × Int × Bool :=
  if isT n a = true ∧ (0 ≤ i ∧ i ≤ n - 1) ∧ (0 ≤ b ∧ b ≤ 1) then (n - 1, (restW n.toNat a.toNat i.toNat b.toNat : Int), true) else (0, 0, false)
theorem resT_yes {n a i b : Nat} (ht : isT n a = true) (hi : (i : Int) ≤ (n : Int) - 1) (hb : (b : Int) ≤ 1) : resT n a i b = ((n : Int) - 1, (restW n a i b : Int), true) := by
  unfold resT; rw [if_pos ⟨ht, ⟨by omega, hi⟩, by omega, hb⟩]; rfl
theorem resT_no {n a i b : Int} (h : ¬ (isT n a = true ∧ (0 ≤ i ∧ i ≤ n - 1) ∧ (0 ≤ b ∧ b ≤ 1))) : resT n a i b = (0, 0, false) := if_neg h

theorem bitN_any {a x : Nat} : bitN a x < 2 := bitN_lt a x
theorem restW_bound (n a i b : Nat) (hn : n ≤ 5) : (restW n a i b : Int) ≤ 4294967295 :=
  tabN_bound _ _ (by have := two_pow_le n hn; have h2 : 2 ^ (n - 1) ≤ 2 ^ n := Nat.pow_le_pow_right (by decide) (by omega); omega)

end Go.Proofs.Ytafblnhfnjfhcaa

namespace Go.Proofs.Ytafblnhfnjfhcaa
open Go.RowKit Plain
set_option linter.unusedVariables false

end Go.Proofs.Ytafblnhfnjfhcaa

namespace Go.Proofs.Ytafblnhfnjfhcaa
open Go.RowKit Plain
set_option linter.unusedVariables false

theorem mulbit_i64 (a u y : Nat) (ha : (a : Int) ≤ 4294967295) (hu : u < 2) (hy : y ≤ 32) : Go.bits .or .i64 (a : Int) (wrap64 ((u : Int) * (2 : Int) ^ y)) = ((a ||| u * 2 ^ y : Nat) : Int) := by
  have hp := pow_bound y hy
  rw [up2]
  generalize 2 ^ y = p at hp ⊢
  rcases (show u = 0 ∨ u = 1 by omega) with rfl | rfl
  · simp only [Nat.zero_mul]
    rw [show wrap64 (((0 : Nat) : Int) * (p : Int)) = ((0 : Nat) : Int) by rw [IntWalk.wrap64_in _ ⟨by omega, by omega⟩]; omega]
    exact or64 a 0 (by omega) (by omega)
  · rw [show wrap64 (((1 : Nat) : Int) * (p : Int)) = ((1 * p : Nat) : Int) by rw [IntWalk.wrap64_in _ ⟨by omega, by omega⟩]; omega]
    exact or64 a _ (by omega) (by omega)

end Go.Proofs.Ytafblnhfnjfhcaa
