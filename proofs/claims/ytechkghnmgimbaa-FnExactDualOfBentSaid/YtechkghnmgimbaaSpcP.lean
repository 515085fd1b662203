/-
  Chapter 12, numbers only: sums of terms.
-/
import Derived.Test.YtechkghnmgimbaaPlainC
import Derived.Test.YtechkghnmgimbaaWords
import Derived.RowKit
import Derived.Laws.MakeOwn
namespace Go.Proofs.Ytechkghnmgimbaa
open Go.RowKit Plain
set_option linter.unusedVariables false

/-- The sum of the terms of the set s below k. -/
def Plain.sumT (tv : Nat → Nat → Int) (s : Nat) : Nat → Int
  | 0 => 0
  | k + 1 => sumT tv s k + tv s k
theorem sumT_lim {tv : Nat → Nat → Int} (h : ∀ s x, tv s x = 1 ∨ tv s x = -1) (s : Nat) : ∀ k : Nat, -(k : Int) ≤ sumT tv s k ∧ sumT tv s k ≤ (k : Int) := by
  intro k
  induction k with
  | zero => exact ⟨Int.le_refl _, Int.le_refl _⟩
  | succ k ih =>
    show -((k + 1 : Nat) : Int) ≤ sumT tv s k + tv s k ∧ sumT tv s k + tv s k ≤ ((k + 1 : Nat) : Int)
    rcases h s k with e | e <;> rw [e] <;> omega

/-- The term of the spectrum. -/
def Plain.spcV (a s x : Nat) : Int := 1 - 2 * (((bitN a x + popN (s &&& x)) % 2 : Nat) : Int)
theorem spcV_one (a s x : Nat) : spcV a s x = 1 ∨ spcV a s x = -1 := by
  unfold Plain.spcV
  rcases Nat.mod_two_eq_zero_or_one (bitN a x + popN (s &&& x)) with h | h <;> rw [h] <;> simp

theorem xor_bits {p q : Nat} (hp : p < 2) (hq : q < 2) : p ^^^ q = (p + q) % 2 := by
  have : p = 0 ∨ p = 1 := by omega
  have : q = 0 ∨ q = 1 := by omega
  rcases ‹p = 0 ∨ p = 1› with rfl | rfl <;> rcases ‹q = 0 ∨ q = 1› with rfl | rfl <;> rfl

/-- What the j-th number comes to. -/
def Wk.val (tv : Nat → Nat → Int) (n j : Nat) : Value := .int .i64 (sumT tv j n)
def Wk.vals (tv : Nat → Nat → Int) (n : Nat) : List Value := (List.range n).map (Wk.val tv n)

/-- The row of sums, j of n being written. -/
def Wk.rowS (tv : Nat → Nat → Int) (n j : Nat) : Array Value := ((List.range n).map fun i => if i < j then Wk.val tv n i else .int .i64 0).toArray
theorem Wk.rowS_size (tv : Nat → Nat → Int) (n j : Nat) : (Wk.rowS tv n j).size = n := by simp [Wk.rowS]
theorem Wk.rowS_get (tv : Nat → Nat → Int) {n j i : Nat} (h : i < n) : (Wk.rowS tv n j)[i]? = some (if i < j then Wk.val tv n i else .int .i64 0) := by simp [Wk.rowS, h]
theorem Wk.rowS_zero (tv : Nat → Nat → Int) (n : Nat) : madeCells #[.int .i64 0] n = Wk.rowS tv n 0 := by
  apply Array.ext_getElem?
  intro i
  by_cases h : i < n
  · rw [Wk.rowS_get tv h]
    simp [madeCells, h, Nat.mod_one]
  · rw [Array.getElem?_eq_none (by rw [size_madeCells]; simpa using h), Array.getElem?_eq_none (by rw [Wk.rowS_size]; omega)]
theorem Wk.rowS_set (tv : Nat → Nat → Int) {n j : Nat} (h : j < n) : (Wk.rowS tv n j).setIfInBounds j (Wk.val tv n j) = Wk.rowS tv n (j + 1) := by
  apply Array.ext_getElem?
  intro i
  rw [Array.getElem?_setIfInBounds, Wk.rowS_size]
  by_cases hi : i < n
  · rw [Wk.rowS_get tv hi, Wk.rowS_get tv hi]
    by_cases e : j = i
    · subst e
      rw [if_pos rfl, if_pos h, if_pos (by omega)]
    · rw [if_neg e]
      by_cases hl : i < j
      · rw [if_pos hl, if_pos (by omega)]
      · rw [if_neg hl, if_neg (by omega)]
  · rw [Array.getElem?_eq_none (by rw [Wk.rowS_size]; omega), Array.getElem?_eq_none (by rw [Wk.rowS_size]; omega)]
    by_cases e : j = i
    · omega
    · rw [if_neg e]
theorem Wk.rowS_full (tv : Nat → Nat → Int) (n : Nat) : Wk.rowS tv n n = (Wk.vals tv n).toArray := by
  unfold Wk.rowS Wk.vals
  congr 1
  apply List.map_congr_left
  intro i hi
  rw [if_pos (List.mem_range.1 hi)]
/-- The boxes of the numbers below j. -/
def Wk.kbs (t : TypeId) (j : Nat) : List Obj := (List.range j).map fun (i : Nat) => .cells #[.int .i64 (i : Int)] t
theorem Wk.kbs_len (t : TypeId) (j : Nat) : (Wk.kbs t j).length = j := by simp [Wk.kbs]
theorem Wk.kbs_succ (t : TypeId) (j : Nat) : Wk.kbs t (j + 1) = Wk.kbs t j ++ [.cells #[.int .i64 j] t] := by simp [Wk.kbs, List.range_succ]
theorem Wk.kbs_get (t : TypeId) {j i : Nat} (h : i < j) : (Wk.kbs t j)[i]? = some (.cells #[.int .i64 i] t) := by simp [Wk.kbs, h]
end Go.Proofs.Ytechkghnmgimbaa
