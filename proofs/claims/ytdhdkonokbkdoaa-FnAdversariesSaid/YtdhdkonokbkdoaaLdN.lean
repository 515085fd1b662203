/-
  Chapter 7: the least sum of the model (l7Average), LeastDepth and LeastAverage of the model.
-/
import Derived.Test.YtdhdkonokbkdoaaLdM
namespace Go.Proofs.Ytdhdkonokbkdoaa
open Go.RowKit Plain
set_option linter.unusedVariables false

theorem JA_64 : ∀ k, k ≤ 4 → k * 2 ^ k ≤ 64 := by
  intro k hk
  have : k = 0 ∨ k = 1 ∨ k = 2 ∨ k = 3 ∨ k = 4 := by omega
  rcases this with rfl | rfl | rfl | rfl | rfl <;> decide


/-- What LeastDepth and LeastAverage answer. -/
def Plain.ldT (n a : Int) : Int := if isT n a = true ∧ n ≤ 4 then (cst JD n.toNat a.toNat : Int) else -1
def Plain.laT (n a : Int) : Int := if isT n a = true ∧ n ≤ 4 then (cst JA n.toNat a.toNat : Int) else -1
theorem ldT_yes {n a : Nat} (hn : n ≤ 4) (ha : a ≤ fullN n) : ldT n a = (cst JD n a : Int) := if_pos ⟨isT_yes (by omega) ha, by omega⟩
theorem laT_yes {n a : Nat} (hn : n ≤ 4) (ha : a ≤ fullN n) : laT n a = (cst JA n a : Int) := if_pos ⟨isT_yes (by omega) ha, by omega⟩
theorem ldT_no {n a : Int} (h : ¬ (isT n a = true ∧ n ≤ 4)) : ldT n a = -1 := if_neg h
theorem laT_no {n a : Int} (h : ¬ (isT n a = true ∧ n ≤ 4)) : laT n a = -1 := if_neg h

end Go.Proofs.Ytdhdkonokbkdoaa
