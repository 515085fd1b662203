/-
  Plain mathematics of chapter 3: words made value by value, bits put in and taken out of inputs.
-/
import Derived.Test.YtlmhdocfdpbhmaaWords
namespace Go.Proofs.Ytlmhdocfdpbhmaa
open Plain Go.RowKit
set_option linter.unusedVariables false

theorem bitN_test (a x : Nat) : bitN a x = (a.testBit x).toNat := by
  rw [Nat.testBit_eq_decide_div_mod_eq]
  unfold Plain.bitN
  have h : a / 2 ^ x % 2 < 2 := Nat.mod_lt _ (by decide)
  by_cases h1 : a / 2 ^ x % 2 = 1
  · rw [h1]; rfl
  · have : a / 2 ^ x % 2 = 0 := by omega
    rw [this]; rfl
theorem bitN_one (a x : Nat) : (bitN a x = 1) ↔ a.testBit x = true := by
  rw [bitN_test]; cases a.testBit x <;> decide

/-- The word whose bit x is 1 where v x is 1, of the first k inputs. -/
def Plain.tabN (v : Nat → Nat) : Nat → Nat
  | 0 => 0
  | x + 1 => if v x = 1 then tabN v x ||| 2 ^ x else tabN v x
theorem tabN_yes {v : Nat → Nat} {x : Nat} (h : v x = 1) : tabN v (x + 1) = tabN v x ||| 2 ^ x := by show (if _ then _ else _) = _; rw [if_pos h]
theorem tabN_no {v : Nat → Nat} {x : Nat} (h : v x ≠ 1) : tabN v (x + 1) = tabN v x := by show (if _ then _ else _) = _; rw [if_neg h]
theorem tabN_mul {v : Nat → Nat} {x : Nat} (h : v x < 2) : tabN v (x + 1) = tabN v x ||| v x * 2 ^ x := by
  rcases (show v x = 0 ∨ v x = 1 by omega) with h0 | h0
  · rw [tabN_no (by omega), h0, Nat.zero_mul, Nat.or_zero]
  · rw [tabN_yes h0, h0, Nat.one_mul]
theorem tabN_lt (v : Nat → Nat) (x : Nat) : tabN v x < 2 ^ x := by
  induction x with
  | zero => exact Nat.one_pos
  | succ x ih =>
    unfold tabN
    have hx : 2 ^ x < 2 ^ (x + 1) := Nat.pow_lt_pow_right (by decide) (by omega)
    split
    · exact Nat.or_lt_two_pow (by omega) hx
    · omega
theorem tabN_bit (v : Nat → Nat) (k z : Nat) : (tabN v k).testBit z = decide (z < k ∧ v z = 1) := by
  induction k with
  | zero => simp [tabN]
  | succ k ih =>
    by_cases h : v k = 1
    · rw [tabN_yes h, Nat.testBit_or, ih, Nat.testBit_two_pow]
      by_cases hz : k = z
      · subst hz; simp [h]
      · rw [Bool.eq_iff_iff]; simp [hz]; omega
    · rw [tabN_no h, ih, Bool.eq_iff_iff]
      simp only [decide_eq_true_eq]
      constructor
      · rintro ⟨h1, h2⟩; exact ⟨by omega, h2⟩
      · rintro ⟨h1, h2⟩
        refine ⟨?_, h2⟩
        rcases (show z < k ∨ z = k by omega) with h3 | rfl
        · exact h3
        · exact absurd h2 h
theorem tabN_congr {u v : Nat → Nat} {k : Nat} (h : ∀ x, x < k → u x = v x) : tabN u k = tabN v k := by
  apply Nat.eq_of_testBit_eq
  intro z
  rw [tabN_bit, tabN_bit, Bool.eq_iff_iff]
  simp only [decide_eq_true_eq]
  constructor
  · rintro ⟨h1, h2⟩; exact ⟨h1, by rw [← h z h1]; exact h2⟩
  · rintro ⟨h1, h2⟩; exact ⟨h1, by rw [h z h1]; exact h2⟩
theorem tabN_bound (v : Nat → Nat) (x : Nat) (hx : x ≤ 32) : (tabN v x : Int) ≤ 4294967295 := by
  have h1 := tabN_lt v x
  have h2 : 2 ^ x ≤ 2 ^ 32 := Nat.pow_le_pow_right (by decide) hx
  omega
theorem tabN_full (v : Nat → Nat) (n : Nat) : tabN v (2 ^ n) ≤ fullN n := by
  have h1 := tabN_lt v (2 ^ n)
  unfold fullN; omega
theorem tabN_self (a k : Nat) (h : a < 2 ^ k) : tabN (bitN a) k = a := by
  apply Nat.eq_of_testBit_eq
  intro z
  rw [tabN_bit, Bool.eq_iff_iff]
  simp only [decide_eq_true_eq, bitN_one]
  constructor
  · exact fun h => h.2
  · intro hz
    refine ⟨?_, hz⟩
    rcases Nat.lt_or_ge z k with h1 | h1
    · exact h1
    · rw [Nat.testBit_lt_two_pow (Nat.lt_of_lt_of_le h (Nat.pow_le_pow_right (by decide) h1))] at hz
      cases hz
theorem tabN_same {u v : Nat → Nat} {k : Nat} (h : tabN u k = tabN v k) (hu : ∀ x, x < k → u x < 2) (hv : ∀ x, x < k → v x < 2) (x : Nat) (hx : x < k) : u x = v x := by
  have hb : (tabN u k).testBit x = (tabN v k).testBit x := by rw [h]
  rw [tabN_bit, tabN_bit, Bool.eq_iff_iff] at hb
  simp only [decide_eq_true_eq] at hb
  have h1 := hu x hx
  have h2 := hv x hx
  by_cases hc : u x = 1
  · have := hb.1 ⟨hx, hc⟩; omega
  · by_cases hd : v x = 1
    · have := hb.2 ⟨hx, hd⟩; omega
    · omega
theorem tabN_bitN (v : Nat → Nat) (k z : Nat) (hz : z < k) (hv : v z < 2) : bitN (tabN v k) z = v z := by
  have h := tabN_bit v k z
  rw [bitN_test, h]
  rcases (show v z = 0 ∨ v z = 1 by omega) with h0 | h0 <;> simp [h0, hz]

/-- The word to which 'v x' is added at the place 'y x', for the first k inputs. -/
def Plain.scN (y v : Nat → Nat) : Nat → Nat
  | 0 => 0
  | x + 1 => scN y v x ||| v x * 2 ^ y x
theorem mulBit {u p z : Nat} (hu : u < 2) : (u * 2 ^ p).testBit z = decide (p = z ∧ u = 1) := by
  rcases (show u = 0 ∨ u = 1 by omega) with rfl | rfl
  · simp
  · rw [Nat.one_mul, Nat.testBit_two_pow]; simp
theorem scN_bit (y v : Nat → Nat) (k z : Nat) (hv : ∀ x, x < k → v x < 2) : (scN y v k).testBit z = true ↔ ∃ x, x < k ∧ y x = z ∧ v x = 1 := by
  induction k with
  | zero => simp [scN]
  | succ k ih =>
    show ((scN y v k ||| v k * 2 ^ y k).testBit z = true) ↔ _
    rw [Nat.testBit_or, mulBit (hv k (by omega)), Bool.or_eq_true, ih (fun x hx => hv x (by omega))]
    constructor
    · rintro (⟨x, h1, h2, h3⟩ | h)
      · exact ⟨x, by omega, h2, h3⟩
      · have := of_decide_eq_true h; exact ⟨k, by omega, this.1, this.2⟩
    · rintro ⟨x, h1, h2, h3⟩
      rcases (show x < k ∨ x = k by omega) with h4 | rfl
      · exact .inl ⟨x, h4, h2, h3⟩
      · exact .inr (decide_eq_true ⟨h2, h3⟩)
theorem scN_lt (y v : Nat → Nat) (k m : Nat) (hv : ∀ x, x < k → v x < 2) (hy : ∀ x, x < k → y x < m) : scN y v k < 2 ^ m := by
  induction k with
  | zero => exact Nat.two_pow_pos m
  | succ k ih =>
    refine Nat.or_lt_two_pow (ih (fun x hx => hv x (by omega)) (fun x hx => hy x (by omega))) ?_
    have h1 := hv k (by omega)
    have h2 : 2 ^ y k < 2 ^ m := Nat.pow_lt_pow_right (by decide) (hy k (by omega))
    rcases (show v k = 0 ∨ v k = 1 by omega) with h0 | h0
    · rw [h0, Nat.zero_mul]; exact Nat.two_pow_pos m
    · rw [h0, Nat.one_mul]; exact h2
/-- Scattering by y is gathering by its inverse g. -/
theorem scN_gather (y g v : Nat → Nat) (k : Nat) (hv : ∀ x, x < k → v x < 2) (hy : ∀ x, x < k → y x < k) (hg : ∀ z, z < k → g z < k) (h1 : ∀ x, x < k → g (y x) = x) (h2 : ∀ z, z < k → y (g z) = z) :
    scN y v k = tabN (fun z => v (g z)) k := by
  apply Nat.eq_of_testBit_eq
  intro z
  rw [tabN_bit, Bool.eq_iff_iff, scN_bit y v k z hv]
  simp only [decide_eq_true_eq]
  constructor
  · rintro ⟨x, hx, rfl, hvx⟩
    exact ⟨hy x hx, by rw [h1 x hx]; exact hvx⟩
  · rintro ⟨hz, hvz⟩
    exact ⟨g z, hg z hz, h2 z hz, hvz⟩

/-- x with the bit b put in at place i; x with bit i taken out. -/
def Plain.insN (x i b : Nat) : Nat := x / 2 ^ i * 2 ^ (i + 1) + b * 2 ^ i + x % 2 ^ i
def Plain.remN (x i : Nat) : Nat := x / 2 ^ (i + 1) * 2 ^ i + x % 2 ^ i

theorem ins_all : ∀ x, x < 32 → ∀ i, i < 6 → ∀ b, b < 2 → insN x i b < 64 ∧ remN (insN x i b) i = x ∧ bitN (insN x i b) i = b ∧
    Go.bits .or .i64 (Go.bits .or .i64 (wrap64 (wrap64 ((x : Int) - Go.bits .and .i64 (x : Int) (wrap64 (wrap64 (2 ^ i) - 1))) * 2)) (wrap64 ((b : Int) * 2 ^ i))) (Go.bits .and .i64 (x : Int) (wrap64 (wrap64 (2 ^ i) - 1))) = (insN x i b : Int) ∧
    Go.bits .or .i64 (Go.bits .or .i64 (wrap64 ((x : Int) / 2 ^ i * 2 ^ (i + 1))) (wrap64 ((b : Int) * 2 ^ i))) (Go.bits .and .i64 (x : Int) (wrap64 (wrap64 (2 ^ i) - 1))) = (insN x i b : Int) := by decide +kernel
theorem rem_all : ∀ z, z < 64 → ∀ i, i < 6 → remN z i < 32 ∧ insN (remN z i) i (bitN z i) = z ∧
    Go.bits .or .i64 (wrap64 ((z : Int) / 2 ^ (i + 1) * 2 ^ i)) (Go.bits .and .i64 (z : Int) (wrap64 (wrap64 (2 ^ i) - 1))) = (remN z i : Int) := by decide +kernel
/-- The sizes: n variables without one, with one more. -/
theorem ins_size : ∀ n, n < 6 → ∀ x, x < 2 ^ n → x < 32 → ∀ i, i ≤ n → ∀ b, b < 2 → insN x i b < 2 ^ (n + 1) := by decide +kernel
theorem rem_size : ∀ n, n < 6 → ∀ z, z < 2 ^ (n + 1) → z < 64 → ∀ i, i ≤ n → remN z i < 2 ^ n := by decide +kernel
end Go.Proofs.Ytlmhdocfdpbhmaa
