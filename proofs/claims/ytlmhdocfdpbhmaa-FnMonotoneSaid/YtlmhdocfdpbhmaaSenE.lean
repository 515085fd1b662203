/-
  The edges at which the value changes: l10At and SensitiveEdges of the model.
-/
import Derived.Test.YtlmhdocfdpbhmaaSenP
import Derived.Test.YtlmhdocfdpbhmaaResB
import Derived.Deep.RegionHeld3
import Derived.Shelf.Abstract
namespace Go.Proofs.Ytlmhdocfdpbhmaa
open Go.RowKit Plain
set_option linter.unusedVariables false
attribute [local go_sem ↓] Go.wp_at_zero Go.wp_at_succ

/-- What SensitiveEdges answers. -/
def Plain.edgT (n a : Int) : Int := if isT n a = true then ((sumS n.toNat a.toNat (2 ^ n.toNat) / 2 : Nat) : Int) else -1

theorem edgT_yes {n a : Nat} (ht : isT n a = true) : edgT n a = ((sumS n a (2 ^ n) / 2 : Nat) : Int) := if_pos ht

theorem edgT_no {n a : Int} (ht : isT n a = false) : edgT n a = -1 := if_neg (by rw [ht]; decide)

theorem sumS_160 {n : Nat} (hn : n ≤ 5) (a k : Nat) (hk : k ≤ 32) : sumS n a k ≤ 160 := by
  have h1 := sumS_le n a k
  have h2 : n * k ≤ 5 * 32 := Nat.mul_le_mul hn hk
  omega

theorem shl_one (i : Nat) (hi : i < 5) : IntKind.i64.wrap ((2 : Int) ^ i) = ((2 ^ i : Nat) : Int) := by
  rcases (show i = 0 ∨ i = 1 ∨ i = 2 ∨ i = 3 ∨ i = 4 by omega) with rfl | rfl | rfl | rfl | rfl <;> decide +kernel

theorem shl_one64 (i : Nat) (hi : i < 5) : wrap64 ((2 : Int) ^ i) = ((2 ^ i : Nat) : Int) := by
  rcases (show i = 0 ∨ i = 1 ∨ i = 2 ∨ i = 3 ∨ i = 4 by omega) with rfl | rfl | rfl | rfl | rfl <;> decide +kernel

theorem xor_mod (p q : Nat) : (p ^^^ q) % 2 = if (p % 2 != q % 2) = true then 1 else 0 := by
  have h := Nat.testBit_xor p q 0
  simp only [Nat.testBit_zero] at h
  have h1 : (p ^^^ q) % 2 < 2 := Nat.mod_lt _ (by decide)
  have h2 : p % 2 < 2 := Nat.mod_lt _ (by decide)
  have h3 : q % 2 < 2 := Nat.mod_lt _ (by decide)
  generalize (p ^^^ q) % 2 = z at *
  generalize p % 2 = c at *
  generalize q % 2 = d at *
  have hz : z = 0 ∨ z = 1 := by omega
  have hc : c = 0 ∨ c = 1 := by omega
  have hd : d = 0 ∨ d = 1 := by omega
  rcases hz with rfl | rfl <;> rcases hc with rfl | rfl <;> rcases hd with rfl | rfl <;> first | rfl | (exact absurd h (by decide))

theorem div_lim (a x : Nat) (ha : (a : Int) ≤ 4294967295) : ((a / 2 ^ x : Nat) : Int) ≤ 4294967295 := down_le a x _ ha

/-- The bit that tells whether the value changes. -/
theorem chg_bit (a x y : Nat) (ha : (a : Int) ≤ 4294967295) : ∃ z : Nat, Go.bits .xor .i64 ((a : Int) / 2 ^ x) ((a : Int) / 2 ^ y) = (z : Int) ∧ Go.bits .and .i64 (z : Int) 1 = (((if (bitN a x != bitN a y) = true then 1 else 0 : Nat)) : Int) := by
  have h1 := div_lim a x ha
  have h2 := div_lim a y ha
  refine ⟨(a / 2 ^ x) ^^^ (a / 2 ^ y), ?_, ?_⟩
  · rw [down2, down2]; exact xor64 _ _ (by omega) (by omega)
  · have hl : (a / 2 ^ x) ^^^ (a / 2 ^ y) < 2 ^ 32 := Nat.xor_lt_two_pow (by omega) (by omega)
    rw [and1_i64 _ (by omega), xor_mod]
    rfl

end Go.Proofs.Ytlmhdocfdpbhmaa
