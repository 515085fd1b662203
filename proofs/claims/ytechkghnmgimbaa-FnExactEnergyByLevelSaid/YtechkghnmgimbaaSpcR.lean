/-
  Chapter 13, numbers only: the squares of the spectrum, summed by the number of variables.
-/
import Derived.Test.YtechkghnmgimbaaSpcQ
namespace Go.Proofs.Ytechkghnmgimbaa
open Go.RowKit Plain
set_option linter.unusedVariables false

/-- The squares of the first k values at sets of j variables. -/
def Plain.enA (a M j : Nat) : Nat → Int
  | 0 => 0
  | k + 1 => enA a M j k + if popN k = j then spcN a M k * spcN a M k else 0
theorem enA_on {a M j k : Nat} (h : popN k = j) : enA a M j (k + 1) = enA a M j k + spcN a M k * spcN a M k := by
  show enA a M j k + (if _ then _ else _) = _
  rw [if_pos h]
theorem enA_off {a M j k : Nat} (h : popN k ≠ j) : enA a M j (k + 1) = enA a M j k := by
  show enA a M j k + (if _ then _ else _) = _
  rw [if_neg h]; omega
theorem enA_lim {a M : Nat} (hM : (M : Int) ≤ 32) (j : Nat) : ∀ k : Nat, 0 ≤ enA a M j k ∧ enA a M j k ≤ 1024 * (k : Int) := by
  intro k
  induction k with
  | zero => exact ⟨Int.le_refl _, by simp [Plain.enA]⟩
  | succ k ih =>
    have hq := sq_lim (spcN_lim a M k) hM
    by_cases e : popN k = j
    · rw [enA_on e]; omega
    · rw [enA_off e]; omega
/-- All of them, by the number of variables. -/
def Plain.engL (n a M k : Nat) : List Int := (List.range (n + 1)).map fun j => enA a M j k
theorem engL_len (n a M k : Nat) : (engL n a M k).length = n + 1 := by simp [Plain.engL]
theorem engL_getD {n a M k j : Nat} (h : j ≤ n) : (engL n a M k).getD j 0 = enA a M j k := by
  simp [Plain.engL, List.getD_eq_getElem?_getD, show j < n + 1 by omega]
theorem engL_zero (n a M : Nat) : engL n a M 0 = List.replicate (n + 1) 0 := by
  apply List.ext_getElem?
  intro i
  by_cases h : i < n + 1 <;> simp [Plain.engL, Plain.enA, h]
theorem engL_succ {n a M k : Nat} : engL n a M (k + 1) = (engL n a M k).set (popN k) (enA a M (popN k) k + spcN a M k * spcN a M k) := by
  apply List.ext_getElem?
  intro i
  rw [List.getElem?_set]
  by_cases e : popN k = i
  · subst e
    by_cases h : popN k < n + 1
    · rw [if_pos rfl, if_pos (by rw [engL_len]; exact h)]
      simp only [Plain.engL, List.getElem?_map, List.getElem?_range h, Option.map_some]
      rw [enA_on rfl]
    · rw [if_pos rfl, if_neg (by rw [engL_len]; exact h)]
      exact List.getElem?_eq_none (by rw [engL_len]; omega)
  · rw [if_neg e]
    by_cases h : i < n + 1
    · simp only [Plain.engL, List.getElem?_map, List.getElem?_range h, Option.map_some]
      rw [enA_off e]
    · rw [List.getElem?_eq_none (by rw [engL_len]; omega), List.getElem?_eq_none (by rw [engL_len]; omega)]
theorem engL_mem {n a M : Nat} (hM : (M : Int) ≤ 32) (k : Nat) (hk : (k : Int) ≤ 32) : ∀ x ∈ engL n a M k, -9223372036854775808 ≤ x ∧ x ≤ 9223372036854775807 := by
  intro x hx
  simp only [Plain.engL, List.mem_map, List.mem_range] at hx
  obtain ⟨j, _, rfl⟩ := hx
  have := enA_lim (a := a) hM j k
  omega
end Go.Proofs.Ytechkghnmgimbaa
