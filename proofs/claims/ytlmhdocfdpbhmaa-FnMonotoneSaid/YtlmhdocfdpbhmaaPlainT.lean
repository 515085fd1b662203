/-
  Plain mathematics of tables (chapter 2): numbers alone, no program.
-/
import Derived.KernelRfl
import Derived.Lib.Hide
namespace Go.Proofs.Ytlmhdocfdpbhmaa.Plain

/-- The word of the constant 1 of n variables. -/
def fullN (n : Nat) : Nat := 2 ^ (2 ^ n) - 1
/-- Is this a table? -/
def isT (n wd : Int) : Bool := decide (0 ≤ n ∧ n ≤ 5 ∧ 0 ≤ wd ∧ wd ≤ (fullN n.toNat : Int))

theorem fullN_0 : fullN 0 = 1 := rfl
theorem fullN_1 : fullN 1 = 3 := rfl
theorem fullN_2 : fullN 2 = 15 := rfl
theorem fullN_3 : fullN 3 = 255 := rfl
theorem fullN_4 : fullN 4 = 65535 := by decide +kernel
theorem fullN_5 : fullN 5 = 4294967295 := by decide +kernel

theorem cases5 (n : Nat) (h : n ≤ 5) : n = 0 ∨ n = 1 ∨ n = 2 ∨ n = 3 ∨ n = 4 ∨ n = 5 := by omega

theorem fullN_le (n : Nat) (h : n ≤ 5) : (fullN n : Int) ≤ 4294967295 := by
  rcases cases5 n h with rfl | rfl | rfl | rfl | rfl | rfl
  · rw [fullN_0]; decide
  · rw [fullN_1]; decide
  · rw [fullN_2]; decide
  · rw [fullN_3]; decide
  · rw [fullN_4]; decide
  · rw [fullN_5]; decide

theorem isT_iff {n wd : Int} : isT n wd = true ↔ 0 ≤ n ∧ n ≤ 5 ∧ 0 ≤ wd ∧ wd ≤ (fullN n.toNat : Int) := decide_eq_true_iff
theorem isT_yes {n : Nat} {wd : Nat} (hn : n ≤ 5) (h : wd ≤ fullN n) : isT n wd = true := isT_iff.2 ⟨by omega, by omega, by omega, by simpa using h⟩
theorem isT_no {n wd : Int} (h : ¬ (0 ≤ n ∧ n ≤ 5 ∧ 0 ≤ wd ∧ wd ≤ (fullN n.toNat : Int))) : isT n wd = false := decide_eq_false h
theorem isT_out {n wd : Int} (h : ¬ (0 ≤ n ∧ n ≤ 5)) : isT n wd = false := isT_no fun hh => h ⟨hh.1, hh.2.1⟩

/-- A table is one of natural numbers within bounds. -/
theorem isT_nat {n wd : Int} (h : isT n wd = true) : ∃ m x : Nat, n = m ∧ wd = x ∧ m ≤ 5 ∧ x ≤ fullN m := by
  obtain ⟨h1, h2, h3, h4⟩ := isT_iff.1 h
  obtain ⟨m, rfl⟩ := Int.eq_ofNat_of_zero_le h1
  obtain ⟨x, rfl⟩ := Int.eq_ofNat_of_zero_le h3
  exact ⟨m, x, rfl, rfl, by omega, by simpa using h4⟩

theorem two_pow_le (m : Nat) (h : m ≤ 5) : 2 ^ m ≤ 32 := by
  rcases cases5 m h with rfl | rfl | rfl | rfl | rfl | rfl <;> decide

theorem fullN_lt {n : Nat} (x : Nat) (h : x ≤ fullN n) : x < 2 ^ (2 ^ n) := by
  have : 0 < 2 ^ (2 ^ n) := Nat.pow_pos (by omega)
  unfold fullN at h; omega

end Go.Proofs.Ytlmhdocfdpbhmaa.Plain
