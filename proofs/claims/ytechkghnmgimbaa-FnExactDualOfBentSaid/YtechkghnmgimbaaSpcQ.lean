/-
  Chapter 12, numbers only: whether all values are as large, the greatest of them, and the sets with a value other than 0.
-/
import Derived.Test.YtechkghnmgimbaaSpcP
namespace Go.Proofs.Ytechkghnmgimbaa
open Go.RowKit Plain
set_option linter.unusedVariables false

/-- The value of the set u. -/
def Plain.spcN (a M u : Nat) : Int := sumT (spcV a) u M
theorem spcN_lim (a M u : Nat) : -(M : Int) ≤ spcN a M u ∧ spcN a M u ≤ (M : Int) := sumT_lim (spcV_one a) u M

/-- Are the first k values as large as the first? -/
def Plain.flatB (a M : Nat) : Nat → Bool
  | 0 => true
  | k + 1 => flatB a M k && decide ((spcN a M k).natAbs = (spcN a M 0).natAbs)
theorem flatB_one (a M : Nat) : flatB a M 1 = true := by simp [Plain.flatB]
theorem flatB_no {a M k : Nat} (h : flatB a M k = false) : ∀ m, k ≤ m → flatB a M m = false := by
  intro m
  induction m with
  | zero => intro hk; obtain rfl : k = 0 := by omega
            exact h
  | succ m ih =>
    intro hk
    by_cases e : k = m + 1
    · subst e; exact h
    · show (flatB a M m && _) = false
      rw [ih (by omega), Bool.false_and]
theorem flatB_off {a M k m : Nat} (hk : k < m) (h : (spcN a M k).natAbs ≠ (spcN a M 0).natAbs) : flatB a M m = false :=
  flatB_no (k := k + 1) (by show (_ && decide _) = false; rw [decide_eq_false h, Bool.and_false]) m hk
theorem flatB_on {a M k : Nat} (h : flatB a M k = true) (e : (spcN a M k).natAbs = (spcN a M 0).natAbs) : flatB a M (k + 1) = true := by
  show (_ && decide _) = true
  rw [h, decide_eq_true e]; rfl
/-- Is the table bent? -/
def Plain.bentB (n a : Nat) : Bool := flatB a (2 ^ n) (2 ^ n) && (decide (n = 2) || decide (n = 4))
theorem sq_abs (x y : Int) : x * x = y * y ↔ x.natAbs = y.natAbs := by
  rw [← Int.natAbs_mul_self (a := x), ← Int.natAbs_mul_self (a := y), Int.natCast_inj]
  exact Nat.mul_self_inj
theorem sq_lim {x : Int} {M : Nat} (h : -(M : Int) ≤ x ∧ x ≤ (M : Int)) (hM : (M : Int) ≤ 32) : 0 ≤ x * x ∧ x * x ≤ 1024 := by
  rw [← Int.natAbs_mul_self (a := x)]
  have h1 : x.natAbs * x.natAbs ≤ 32 * 32 := Nat.mul_le_mul (by omega) (by omega)
  generalize x.natAbs * x.natAbs = q at *
  omega

/-- The greatest of the first k values, without their signs. -/
def Plain.grtA (a M : Nat) : Nat → Nat
  | 0 => 0
  | k + 1 => max (grtA a M k) (spcN a M k).natAbs
theorem grtA_le (a M : Nat) : ∀ k, grtA a M k ≤ M := by
  intro k
  induction k with
  | zero => exact Nat.zero_le _
  | succ k ih =>
    have := spcN_lim a M k
    show max (grtA a M k) (spcN a M k).natAbs ≤ M
    omega
/-- Half of what it lacks to the number of inputs. -/
def Plain.nonN (n a : Nat) : Nat := (2 ^ n - grtA a (2 ^ n) (2 ^ n)) / 2

theorem pop_pos : ∀ q : Nat, q ≠ 0 → 1 ≤ popN q := by
  intro q
  induction q using Nat.strongRecOn with
  | ind q ih =>
    intro h0
    rw [popN_half]
    by_cases e : q % 2 = 1
    · omega
    · have := ih (q / 2) (by omega) (by omega)
      omega
/-- The immunity, by the sets below k. -/
def Plain.corN (n a M : Nat) : Nat → Nat
  | 0 => n
  | k + 1 => if k ≠ 0 ∧ spcN a M k ≠ 0 then min (corN n a M k) (popN k - 1) else corN n a M k
theorem corN_one (n a M : Nat) : corN n a M 1 = n := by simp [Plain.corN]
theorem corN_le (n a M : Nat) : ∀ k, corN n a M k ≤ n := by
  intro k
  induction k with
  | zero => exact Nat.le_refl _
  | succ k ih =>
    show (if _ then _ else _) ≤ n
    split
    · exact Nat.le_trans (Nat.min_le_left _ _) ih
    · exact ih
theorem corN_off {n a M k : Nat} (h : spcN a M k = 0) : corN n a M (k + 1) = corN n a M k := by
  show (if _ then _ else _) = _
  rw [if_neg (fun hh => hh.2 h)]
theorem corN_on {n a M k : Nat} (h0 : k ≠ 0) (h : spcN a M k ≠ 0) : corN n a M (k + 1) = min (corN n a M k) (popN k - 1) := by
  show (if _ then _ else _) = _
  rw [if_pos ⟨h0, h⟩]
end Go.Proofs.Ytechkghnmgimbaa
