/-
  Chapter 14, numbers only: sums of variables; distances; the nearest sum; the pairs of inputs that the test rejects.
-/
import Derived.Test.YtbkkohkigpkddaaSumN
import Derived.Test.YtbkkohkigpkddaaWords
namespace Go.Proofs.Ytbkkohkigpkddaa
open Go.RowKit Plain
set_option linter.unusedVariables false

/-- The value at x of the sum of the variables of u and of b. -/
def Plain.affB (u b x : Nat) : Nat := (popN (u &&& x) + b) % 2
theorem affB_lt (u b x : Nat) : affB u b x < 2 := Nat.mod_lt _ (by decide)
def Plain.affW (n u b : Nat) : Nat := tabN (affB u b) (2 ^ n)
theorem affW_lt (n u b : Nat) : affW n u b < 2 ^ 2 ^ n := tabN_lt _ _

/-- At how many of the first k inputs do f and g differ? -/
def Plain.disN (f g : Nat → Nat) (k : Nat) : Nat := sumN (fun x => (f x + g x) % 2) k
theorem disN_on {f g : Nat → Nat} {k : Nat} (hf : f k < 2) (hg : g k < 2) (h : f k ≠ g k) : disN f g (k + 1) = disN f g k + 1 := by
  show disN f g k + (f k + g k) % 2 = _
  omega
theorem disN_off {f g : Nat → Nat} {k : Nat} (h : f k = g k) : disN f g (k + 1) = disN f g k := by
  show disN f g k + (f k + g k) % 2 = _
  omega
theorem disN_le (f g : Nat → Nat) : ∀ k, disN f g k ≤ k := by
  intro k
  induction k with
  | zero => exact Nat.le_refl _
  | succ k ih =>
    have := Nat.mod_lt (f k + g k) (show 2 > 0 by decide)
    show disN f g k + (f k + g k) % 2 ≤ k + 1
    omega
theorem dis_ones {n a c : Nat} (ha : a < 2 ^ 2 ^ n) (hc : c < 2 ^ 2 ^ n) : popN (a ^^^ c) = disN (bitN a) (bitN c) (2 ^ n) := by
  rw [popN_sum (2 ^ n) _ (Nat.xor_lt_two_pow ha hc)]
  exact sumN_congr fun x _ => bitN_xor a c x
theorem dis_aff {n a : Nat} (u b : Nat) (ha : a < 2 ^ 2 ^ n) : popN (a ^^^ affW n u b) = disN (bitN a) (affB u b) (2 ^ n) := by
  rw [dis_ones ha (affW_lt n u b)]
  refine sumN_congr fun x hx => ?_
  unfold Plain.affW
  rw [tabN_bitN (affB u b) _ _ hx (affB_lt _ _ _)]

/-- The distance to the sum with the number j: its set is j / 2, its constant j % 2. -/
def Plain.nrD (n a j : Nat) : Nat := disN (bitN a) (affB (j / 2) (j % 2)) (2 ^ n)
theorem nrD_le {n : Nat} (hn : n ≤ 5) (a j : Nat) : nrD n a j ≤ 32 := by
  have h1 := disN_le (bitN a) (affB (j / 2) (j % 2)) (2 ^ n)
  have h2 : 2 ^ n ≤ 32 := Nat.pow_le_pow_right (n := 2) (by decide) hn
  exact Nat.le_trans h1 h2
/-- The first of the sums below k that is nearest. -/
def Plain.nrJ (n a : Nat) : Nat → Nat
  | 0 => 0
  | k + 1 => if nrD n a k < nrD n a (nrJ n a k) then k else nrJ n a k
theorem nrJ_on {n a k : Nat} (h : nrD n a k < nrD n a (nrJ n a k)) : nrJ n a (k + 1) = k := if_pos h
theorem nrJ_off {n a k : Nat} (h : ¬ nrD n a k < nrD n a (nrJ n a k)) : nrJ n a (k + 1) = nrJ n a k := if_neg h
theorem nrJ_one (n a : Nat) : nrJ n a 1 = 0 := nrJ_off (Nat.lt_irrefl _)
theorem nrJ_lt (n a : Nat) : ∀ k, 0 < k → nrJ n a k < k := by
  intro k
  induction k with
  | zero => intro h; omega
  | succ k ih =>
    intro _
    by_cases h : nrD n a k < nrD n a (nrJ n a k)
    · rw [nrJ_on h]; omega
    · rw [nrJ_off h]
      cases k with
      | zero => exact Nat.zero_lt_one
      | succ k => have := ih (by omega); omega
/-- The least distance so far. -/
def Plain.nrS (n a k : Nat) : Nat := if k = 0 then 100 else nrD n a (nrJ n a k)
theorem nrS_step {n a k : Nat} : nrS n a (k + 1) = nrD n a (nrJ n a (k + 1)) := if_neg (by omega)
theorem nrS_on {n a k : Nat} (hn : n ≤ 5) (h : nrD n a k < nrS n a k) : nrJ n a (k + 1) = k ∧ nrS n a (k + 1) = nrD n a k := by
  have e : nrJ n a (k + 1) = k := by
    by_cases h0 : k = 0
    · subst h0; exact nrJ_one n a
    · exact nrJ_on (by unfold Plain.nrS at h; rwa [if_neg h0] at h)
  exact ⟨e, by rw [nrS_step, e]⟩
theorem nrS_off {n a k : Nat} (hn : n ≤ 5) (h : ¬ nrD n a k < nrS n a k) : nrJ n a (k + 1) = nrJ n a k ∧ nrS n a (k + 1) = nrS n a k := by
  have h0 : k ≠ 0 := by
    rintro rfl
    have := nrD_le hn a 0
    exact h (by unfold Plain.nrS; rw [if_pos rfl]; omega)
  have e : nrJ n a (k + 1) = nrJ n a k := nrJ_off (by unfold Plain.nrS at h; rwa [if_neg h0] at h)
  refine ⟨e, ?_⟩
  rw [nrS_step, e]
  unfold Plain.nrS
  rw [if_neg h0]
theorem nrS_le {n : Nat} (hn : n ≤ 5) (a k : Nat) : nrS n a k ≤ 100 := by
  unfold Plain.nrS
  split
  · exact Nat.le_refl _
  · have := nrD_le hn a (nrJ n a k); omega

/-- Does the test reject the pair of x and y? -/
def Plain.rejB (a x y : Nat) : Nat := (bitN a x + bitN a y + bitN a (x ^^^ y)) % 2
theorem rejB_lt (a x y : Nat) : rejB a x y < 2 := Nat.mod_lt _ (by decide)
def Plain.rejR (a x k : Nat) : Nat := sumN (rejB a x) k
theorem rejR_le (a x : Nat) : ∀ k, rejR a x k ≤ k := by
  intro k
  induction k with
  | zero => exact Nat.le_refl _
  | succ k ih =>
    have := rejB_lt a x k
    show rejR a x k + rejB a x k ≤ k + 1
    omega
def Plain.rejN (a M k : Nat) : Nat := sumN (fun x => rejR a x M) k
theorem rejN_le (a M : Nat) : ∀ k, rejN a M k ≤ M * k := by
  intro k
  induction k with
  | zero => exact Nat.zero_le _
  | succ k ih =>
    have := rejR_le a k M
    show rejN a M k + rejR a k M ≤ M * (k + 1)
    rw [Nat.mul_succ]; omega
theorem rej_one (p q r : Nat) : (p ^^^ q ^^^ r) &&& 1 = (p % 2 + q % 2 + r % 2) % 2 := by
  have hb : ∀ t : Nat, t % 2 = bitN t 0 := fun t => by unfold Plain.bitN; rw [Nat.pow_zero, Nat.div_one]
  rw [Nat.and_one_is_mod, hb, bitN_xor, bitN_xor, ← hb, ← hb, ← hb]
  omega
theorem rej_bits (a x y : Nat) : ((a / 2 ^ x) ^^^ (a / 2 ^ y) ^^^ (a / 2 ^ (x ^^^ y))) &&& 1 = rejB a x y := by
  rw [rej_one]; rfl
end Go.Proofs.Ytbkkohkigpkddaa
