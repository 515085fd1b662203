/-
  Chapter 13, numbers only: the inputs at which a variable matters, counted by variables and by inputs; the first variable that matters most.
-/
import Derived.Test.YtafblnhfnjfhcaaSumN
import Derived.Test.YtafblnhfnjfhcaaSenP
import Derived.Test.YtafblnhfnjfhcaaResH
namespace Go.Proofs.Ytafblnhfnjfhcaa
open Go.RowKit Plain
set_option linter.unusedVariables false

/-- Does the variable i matter at x? -/
def Plain.infB (a i x : Nat) : Nat := (bitN a x + bitN a (x ^^^ 2 ^ i)) % 2
/-- How often does it matter? -/
def Plain.infN (n a i : Nat) : Nat := sumN (infB a i) (2 ^ n)
/-- .. and all variables below k together. -/
def Plain.totN (n a k : Nat) : Nat := sumN (infN n a) k
theorem infB_lt (a i x : Nat) : infB a i x < 2 := Nat.mod_lt _ (by decide)
theorem sumN_le {f : Nat → Nat} {c : Nat} (h : ∀ x, f x ≤ c) : ∀ k, sumN f k ≤ c * k := by
  intro k
  induction k with
  | zero => exact Nat.zero_le _
  | succ k ih =>
    have := h k
    show sumN f k + f k ≤ c * (k + 1)
    rw [Nat.mul_succ]; omega

theorem infS_le (a i k : Nat) : sumN (infB a i) k ≤ k := by
  have := sumN_le (f := infB a i) (c := 1) (fun x => by have := infB_lt a i x; omega) k
  omega
theorem pow_32 {n : Nat} (hn : n ≤ 5) : 2 ^ n ≤ 32 := Nat.pow_le_pow_right (n := 2) (by decide) hn
theorem inf_32 {n : Nat} (hn : n ≤ 5) (a i : Nat) : infN n a i ≤ 32 := Nat.le_trans (infS_le a i _) (pow_32 hn)

theorem bitN_xor (a b x : Nat) : bitN (a ^^^ b) x = (bitN a x + bitN b x) % 2 := by
  rw [bitN_test, bitN_test, bitN_test, Nat.testBit_xor]
  cases a.testBit x <;> cases b.testBit x <;> rfl
theorem infB_sen (a i x : Nat) : infB a i x = if senB a x (2 ^ i) = true then 1 else 0 := by
  unfold Plain.infB Plain.senB
  rcases bitN_cases a x with h | h <;> rcases bitN_cases a (x ^^^ 2 ^ i) with h' | h' <;> rw [h, h'] <;> rfl
theorem senN_sum (a x : Nat) : ∀ k, senN a x k = sumN (fun i => infB a i x) k := by
  intro k
  induction k with
  | zero => rfl
  | succ k ih =>
    show _ = sumN (fun i => infB a i x) k + infB a k x
    rw [infB_sen, ← ih]
    cases h : senB a x (2 ^ k) with
    | true => rw [senN_yes h]; rfl
    | false => rw [senN_no h]; rfl
theorem sumS_sum (n a : Nat) : ∀ k, sumS n a k = sumN (fun x => senN a x n) k := by
  intro k
  induction k with
  | zero => rfl
  | succ k ih => show sumS n a k + senN a k n = sumN (fun x => senN a x n) k + senN a k n; rw [ih]

theorem tot_sum (n a : Nat) : totN n a n = sumS n a (2 ^ n) := by
  rw [sumS_sum]
  unfold Plain.totN Plain.infN
  rw [sumN_swap (fun i x => infB a i x)]
  exact sumN_congr fun x _ => (senN_sum a x n).symm

theorem sumN_mod (f g : Nat → Nat) : ∀ k, sumN (fun x => (f x + g x) % 2) k % 2 = (sumN f k + sumN g k) % 2 := by
  intro k
  induction k with
  | zero => rfl
  | succ k ih =>
    show (sumN (fun x => (f x + g x) % 2) k + (f k + g k) % 2) % 2 = (sumN f k + f k + (sumN g k + g k)) % 2
    omega
theorem inf_even {n i : Nat} (a : Nat) (hi : i < n) : infN n a i % 2 = 0 := by
  have hp : 2 ^ i < 2 ^ n := Nat.pow_lt_pow_right (by decide) hi
  have e : sumN (fun x => bitN a (x ^^^ 2 ^ i)) (2 ^ n) = sumN (bitN a) (2 ^ n) :=
    sumN_perm (bitN a) (fun x => x ^^^ 2 ^ i) (fun x => x ^^^ 2 ^ i) (2 ^ n) (fun y hy => Nat.xor_lt_two_pow hy hp) (fun y hy => Nat.xor_lt_two_pow hy hp) (fun x _ => xor_back x _) (fun x _ => xor_back x _)
  unfold Plain.infN
  show sumN (fun x => (bitN a x + bitN a (x ^^^ 2 ^ i)) % 2) (2 ^ n) % 2 = 0
  rw [sumN_mod (bitN a) (fun x => bitN a (x ^^^ 2 ^ i)), e]
  omega
theorem tot_even (n a : Nat) : totN n a n % 2 = 0 := by
  have key : ∀ k, k ≤ n → totN n a k % 2 = 0 := by
    intro k
    induction k with
    | zero => intro _; rfl
    | succ k ih =>
      intro hk
      have h1 := ih (by omega)
      have h2 := inf_even a (show k < n by omega)
      show (totN n a k + infN n a k) % 2 = 0
      omega
  exact key n (Nat.le_refl _)
/-- Twice the edges. -/
theorem tot_edges (n a : Nat) : (2 * (sumS n a (2 ^ n) / 2) : Nat) = totN n a n := by
  have h := tot_even n a
  rw [tot_sum] at h ⊢
  omega
theorem tot_160 {n k : Nat} (hn : n ≤ 5) (a : Nat) (hk : k ≤ n) : totN n a k ≤ 160 := by
  have := sumN_le (f := infN n a) (c := 32) (fun i => inf_32 hn a i) k
  have : 32 * k ≤ 160 := by omega
  unfold Plain.totN
  omega

/-- What CountOnes answers for the table of changes. -/
theorem inf_ones {n a i : Nat} (ha : a < 2 ^ 2 ^ n) (hi : i < n) : popN (a ^^^ shiW n a (2 ^ i)) = infN n a i := by
  have hs : shiW n a (2 ^ i) < 2 ^ 2 ^ n := tabN_lt _ _
  rw [popN_sum (2 ^ n) _ (Nat.xor_lt_two_pow ha hs)]
  unfold Plain.infN
  refine sumN_congr fun x hx => ?_
  rw [bitN_xor]
  unfold Plain.infB shiW
  rw [tabN_bitN (shiV a (2 ^ i)) _ _ hx (by unfold shiV; exact bitN_lt _ _)]
  rfl

/-- The first of the variables below k that matters most, and how often it does. -/
def Plain.mstN (n a : Nat) : Nat → Int × Int
  | 0 => (-1, -1)
  | k + 1 => if (mstN n a k).2 < (infN n a k : Int) then ((k : Int), (infN n a k : Int)) else mstN n a k
theorem mst_is (n a : Nat) : ∀ k, (k = 0 ∧ mstN n a k = (-1, -1)) ∨ ∃ j, j < k ∧ mstN n a k = ((j : Int), (infN n a j : Int)) := by
  intro k
  induction k with
  | zero => exact .inl ⟨rfl, rfl⟩
  | succ k ih =>
    right
    by_cases h : (mstN n a k).2 < (infN n a k : Int)
    · exact ⟨k, Nat.lt_succ_self k, if_pos h⟩
    · rcases ih with ⟨_, e⟩ | ⟨j, hj, e⟩
      · exact absurd (show (mstN n a k).2 < (infN n a k : Int) by rw [e]; show (-1 : Int) < _; omega) h
      · exact ⟨j, by omega, (if_neg h).trans e⟩
theorem mst_yes {n a k : Nat} (h : (mstN n a k).2 < (infN n a k : Int)) : mstN n a (k + 1) = ((k : Int), (infN n a k : Int)) := if_pos h
theorem mst_no {n a k : Nat} (h : ¬ (mstN n a k).2 < (infN n a k : Int)) : mstN n a (k + 1) = mstN n a k := if_neg h

/-- What the functions answer. -/
def Plain.infT (n a i : Int) : Int := if isT n a = true ∧ (0 ≤ i ∧ i ≤ n - 1) then (infN n.toNat a.toNat i.toNat : Int) else -1
theorem infT_yes {n a i : Nat} (ht : isT n a = true) (hi : (i : Int) ≤ (n : Int) - 1) : infT n a i = (infN n a i : Int) := if_pos ⟨ht, by omega, hi⟩
theorem infT_no {n a i : Int} (h : ¬ (isT n a = true ∧ (0 ≤ i ∧ i ≤ n - 1))) : infT n a i = -1 := if_neg h
def Plain.totT (n a : Int) : Int := if isT n a = true then (totN n.toNat a.toNat n.toNat : Int) else -1
theorem totT_yes {n a : Nat} (ht : isT n a = true) : totT n a = (totN n a n : Int) := if_pos ht
theorem totT_no {n a : Int} (ht : isT n a = false) : totT n a = -1 := if_neg (by rw [ht]; decide)
def Plain.varT13 (n a : Int) : Int := if isT n a = true then (popN a.toNat : Int) * (2 ^ n.toNat - (popN a.toNat : Int)) else -1
theorem varT13_yes {n a : Nat} (ht : isT n a = true) : varT13 n a = (popN a : Int) * (2 ^ n - (popN a : Int)) := if_pos ht
theorem varT13_no {n a : Int} (ht : isT n a = false) : varT13 n a = -1 := if_neg (by rw [ht]; decide)
def Plain.mstT (n a : Int) : Int := if isT n a = true then (mstN n.toNat a.toNat n.toNat).1 else -1
theorem mstT_yes {n a : Nat} (ht : isT n a = true) : mstT n a = (mstN n a n).1 := if_pos ht
theorem mstT_no {n a : Int} (ht : isT n a = false) : mstT n a = -1 := if_neg (by rw [ht]; decide)
end Go.Proofs.Ytafblnhfnjfhcaa
