/-
  Plain mathematics: how many bits of a number are 1, by halving and by adding in parallel.
-/
import Derived.KernelRfl
namespace Go.Proofs.Ytlmhdocfdpbhmaa.Plain

/-- How many bits are 1. -/
def popN (x : Nat) : Nat := if x = 0 then 0 else x % 2 + popN (x / 2)
  termination_by x
  decreasing_by omega

theorem popN_zero : popN 0 = 0 := by rw [popN]; rfl
theorem popN_half (x : Nat) : popN x = x % 2 + popN (x / 2) := by
  by_cases h : x = 0
  · subst h; rw [popN_zero]
  · rw [popN, if_neg h]

theorem popN_le (k : Nat) : ∀ x, x < 2 ^ k → popN x ≤ k := by
  induction k with
  | zero =>
    intro x h
    have hx : x = 0 := by simpa using h
    subst hx
    rw [popN_zero]
    exact Nat.le_refl 0
  | succ k ih =>
    intro x h
    rw [popN_half]
    have := ih (x / 2) (by rw [Nat.pow_succ] at h; omega)
    omega

def p8 (b : Nat) : Nat := b % 2 + (b / 2 % 2 + (b / 4 % 2 + (b / 8 % 2 + (b / 16 % 2 + (b / 32 % 2 + (b / 64 % 2 + b / 128 % 2))))))

theorem popN_byte (a b : Nat) (h : b < 256) : popN (256 * a + b) = p8 b + popN a := by
  rw [popN_half, popN_half (_ / 2), popN_half (_ / 2 / 2), popN_half (_ / 2 / 2 / 2), popN_half (_ / 2 / 2 / 2 / 2), popN_half (_ / 2 / 2 / 2 / 2 / 2), popN_half (_ / 2 / 2 / 2 / 2 / 2 / 2), popN_half (_ / 2 / 2 / 2 / 2 / 2 / 2 / 2)]
  rw [show (256 * a + b) / 2 / 2 / 2 / 2 / 2 / 2 / 2 / 2 = a by omega]
  unfold p8
  omega

theorem and_byte (a b c d : Nat) (hb : b < 256) (hd : d < 256) : (256 * a + b) &&& (256 * c + d) = 256 * (a &&& c) + (b &&& d) := by
  have h : (b &&& d) < 2 ^ 8 := Nat.and_lt_two_pow _ (by omega)
  apply Nat.eq_of_testBit_eq
  intro j
  rw [show (256 : Nat) = 2 ^ 8 from rfl] at *
  rw [Nat.testBit_and, Nat.testBit_two_pow_mul_add _ hb, Nat.testBit_two_pow_mul_add _ hd, Nat.testBit_two_pow_mul_add _ h]
  by_cases hj : j < 8
  · simp [hj]
  · simp [hj]

def st1 (m x : Nat) : Nat := (x / 2 &&& m) + (x &&& m)
def st2 (m x : Nat) : Nat := (x / 4 &&& m) + (x &&& m)
def st3 (m x : Nat) : Nat := (x / 16 + x) &&& m

theorem d1 : ∀ t, t < 2 → ∀ b, b < 256 → (128 * t + b / 2) &&& 85 = b / 2 &&& 85 := by decide +kernel
theorem d2 : ∀ t, t < 4 → ∀ b, b < 256 → (64 * t + b / 4) &&& 51 = b / 4 &&& 51 := by decide +kernel
theorem d3 : ∀ t, t < 5 → ∀ b, b < 69 → (16 * t + b / 16 + b) &&& 15 = (b / 16 + b) &&& 15 := by decide +kernel

theorem st1_byte (m a b : Nat) (h : b < 256) : st1 (256 * m + 85) (256 * a + b) = 256 * st1 m a + st1 85 b := by
  unfold st1
  have e : (256 * a + b) / 2 = 256 * (a / 2) + (128 * (a % 2) + b / 2) := by omega
  rw [e, and_byte _ _ _ _ (by omega) (by omega), and_byte _ _ _ _ h (by omega), d1 _ (by omega) b h]
  omega
theorem st2_byte (m a b : Nat) (h : b < 256) : st2 (256 * m + 51) (256 * a + b) = 256 * st2 m a + st2 51 b := by
  unfold st2
  have e : (256 * a + b) / 4 = 256 * (a / 4) + (64 * (a % 4) + b / 4) := by omega
  rw [e, and_byte _ _ _ _ (by omega) (by omega), and_byte _ _ _ _ h (by omega), d2 _ (by omega) b h]
  omega
theorem st3_byte (m a b : Nat) (h : b < 69) (ha : a % 16 < 5) : st3 (256 * m + 15) (256 * a + b) = 256 * st3 m a + st3 15 b := by
  unfold st3
  have e : (256 * a + b) / 16 + (256 * a + b) = 256 * (a / 16 + a) + (16 * (a % 16) + b / 16 + b) := by omega
  rw [e, and_byte _ _ _ _ (by omega) (by omega), d3 _ ha b h]

theorem b1 : ∀ b, b < 256 → st1 85 b < 171 := by decide +kernel
theorem b2 : ∀ b, b < 256 → st2 51 (st1 85 b) < 69 ∧ st2 51 (st1 85 b) % 16 < 5 := by decide +kernel
theorem b3 : ∀ b, b < 256 → st3 15 (st2 51 (st1 85 b)) = p8 b := by decide +kernel
theorem p8_le : ∀ b, b < 256 → p8 b ≤ 8 := by decide +kernel

theorem st1_zero (m : Nat) : st1 m 0 = 0 := by simp [st1]
theorem st2_zero (m : Nat) : st2 m 0 = 0 := by simp [st2]
theorem st3_zero (m : Nat) : st3 m 0 = 0 := by simp [st3]

theorem four_bytes (x : Nat) (h : x < 4294967296) : ∃ a b c d : Nat, a < 256 ∧ b < 256 ∧ c < 256 ∧ d < 256 ∧ x = 256 * (256 * (256 * (256 * 0 + d) + c) + b) + a :=
  ⟨x % 256, x / 256 % 256, x / 65536 % 256, x / 16777216, by omega, by omega, by omega, by omega, by omega⟩

def sum32 (x : Nat) : Nat := st3 1085102592571150095 (st2 3689348814741910323 (st1 6148914691236517205 x))
def fold32 (y : Nat) : Nat := y + y / 256 + (y + y / 256) / 65536 + (y + y / 256 + (y + y / 256) / 65536) / 4294967296

theorem sum32_bytes (a b c d : Nat) (ha : a < 256) (hb : b < 256) (hc : c < 256) (hd : d < 256) :
    sum32 (256 * (256 * (256 * (256 * 0 + d) + c) + b) + a) = 256 * (256 * (256 * p8 d + p8 c) + p8 b) + p8 a := by
  unfold sum32
  rw [show (6148914691236517205 : Nat) = 256 * (256 * (256 * (256 * 1431655765 + 85) + 85) + 85) + 85 by decide, st1_byte _ _ _ ha, st1_byte _ _ _ hb, st1_byte _ _ _ hc, st1_byte _ _ _ hd, st1_zero]
  have h1a := b1 a ha; have h1b := b1 b hb; have h1c := b1 c hc; have h1d := b1 d hd
  rw [show (3689348814741910323 : Nat) = 256 * (256 * (256 * (256 * 858993459 + 51) + 51) + 51) + 51 by decide, st2_byte _ _ _ (by omega), st2_byte _ _ _ (by omega), st2_byte _ _ _ (by omega), st2_byte _ _ _ (by omega), st2_zero]
  have h2a := b2 a ha; have h2b := b2 b hb; have h2c := b2 c hc; have h2d := b2 d hd
  rw [show (1085102592571150095 : Nat) = 256 * (256 * (256 * (256 * 252645135 + 15) + 15) + 15) + 15 by decide, st3_byte _ _ _ h2a.1 (by omega), st3_byte _ _ _ h2b.1 (by omega), st3_byte _ _ _ h2c.1 (by omega), st3_byte _ _ _ h2d.1 (by omega), st3_zero, b3 a ha, b3 b hb, b3 c hc, b3 d hd]
  rw [Nat.mul_zero, Nat.zero_add]

theorem fold32_pop (x : Nat) (h : x < 4294967296) : sum32 x < 4294967296 ∧ fold32 (sum32 x) % 128 = popN x := by
  obtain ⟨a, b, c, d, ha, hb, hc, hd, rfl⟩ := four_bytes x h
  rw [sum32_bytes a b c d ha hb hc hd, popN_byte _ _ ha, popN_byte _ _ hb, popN_byte _ _ hc, popN_byte _ _ hd, popN_zero]
  have qa := p8_le a ha; have qb := p8_le b hb; have qc := p8_le c hc; have qd := p8_le d hd
  generalize p8 a = a at *
  generalize p8 b = b at *
  generalize p8 c = c at *
  generalize p8 d = d at *
  refine ⟨by omega, ?_⟩
  have e1 : (256 * (256 * (256 * d + c) + b) + a) / 256 = 256 * (256 * d + c) + b := by omega
  have e2 : (256 * (256 * (256 * d + c) + b) + a + (256 * (256 * d + c) + b)) / 65536 = 256 * d + c + d := by omega
  have e3 : (256 * (256 * (256 * d + c) + b) + a + (256 * (256 * d + c) + b) + (256 * d + c + d)) / 4294967296 = 0 := by omega
  unfold fold32
  rw [e1, e2, e3]
  omega
end Go.Proofs.Ytlmhdocfdpbhmaa.Plain
