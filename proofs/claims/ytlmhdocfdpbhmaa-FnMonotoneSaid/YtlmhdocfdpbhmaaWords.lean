/-
  Single bits of ints and of unsigned words, as numbers.
-/
import Derived.Test.YtlmhdocfdpbhmaaBits
import Derived.Test.YtlmhdocfdpbhmaaPlainT
namespace Go.Proofs.Ytlmhdocfdpbhmaa
open Plain

/-- Bit x of a. -/
def Plain.bitN (a x : Nat) : Nat := a / 2 ^ x % 2
theorem Plain.bitN_lt (a x : Nat) : bitN a x < 2 := Nat.mod_lt _ (by decide)
theorem Plain.bitN_cases (a x : Nat) : bitN a x = 0 ∨ bitN a x = 1 := by have := bitN_lt a x; omega

theorem down2 (a x : Nat) : ((a : Int) / 2 ^ x) = ((a / 2 ^ x : Nat) : Int) := by rw [Int.natCast_ediv, Int.natCast_pow]; rfl

theorem and1_i64 (a : Nat) (ha : (a : Int) ≤ 9223372036854775807) : bits .and .i64 (a : Int) 1 = ((a % 2 : Nat) : Int) := by
  have h := and64 a 1 ha (by decide)
  rw [Nat.and_one_is_mod] at h
  exact h

theorem upU64 (a : Nat) (ha : (a : Int) ≤ 18446744073709551615) : (BitVec.ofInt 64 (a : Int)).toNat = a := by
  rw [BitVec.ofInt_natCast, BitVec.toNat_ofNat]; exact Nat.mod_eq_of_lt (by omega)

theorem andU64 (a b : Nat) (ha : (a : Int) ≤ 18446744073709551615) (hb : (b : Int) ≤ 18446744073709551615) : bits .and .u64 (a : Int) (b : Int) = ((a &&& b : Nat) : Int) := by
  have hx : a &&& b < 2 ^ 64 := Nat.and_lt_two_pow _ (by omega)
  show IntKind.u64.wrap ((BitVec.ofInt 64 (a : Int) &&& BitVec.ofInt 64 (b : Int)).toNat : Int) = _
  rw [BitVec.toNat_and, upU64 a ha, upU64 b hb, IntKind.wrap_u64]
  omega

theorem orU64 (a b : Nat) (ha : (a : Int) ≤ 18446744073709551615) (hb : (b : Int) ≤ 18446744073709551615) : bits .or .u64 (a : Int) (b : Int) = ((a ||| b : Nat) : Int) := by
  have hx : a ||| b < 2 ^ 64 := Nat.or_lt_two_pow (by omega) (by omega)
  show IntKind.u64.wrap ((BitVec.ofInt 64 (a : Int) ||| BitVec.ofInt 64 (b : Int)).toNat : Int) = _
  rw [BitVec.toNat_or, upU64 a ha, upU64 b hb, IntKind.wrap_u64]
  omega

theorem xorU64 (a b : Nat) (ha : (a : Int) ≤ 18446744073709551615) (hb : (b : Int) ≤ 18446744073709551615) : bits .xor .u64 (a : Int) (b : Int) = ((a ^^^ b : Nat) : Int) := by
  have hx : a ^^^ b < 2 ^ 64 := Nat.xor_lt_two_pow (by omega) (by omega)
  show IntKind.u64.wrap ((BitVec.ofInt 64 (a : Int) ^^^ BitVec.ofInt 64 (b : Int)).toNat : Int) = _
  rw [BitVec.toNat_xor, upU64 a ha, upU64 b hb, IntKind.wrap_u64]
  omega

theorem and1_u64 (a : Nat) (ha : (a : Int) ≤ 18446744073709551615) : bits .and .u64 (a : Int) 1 = ((a % 2 : Nat) : Int) := by
  have h := andU64 a 1 ha (by decide)
  rw [Nat.and_one_is_mod] at h
  exact h

theorem down_le (a x : Nat) (b : Int) (ha : (a : Int) ≤ b) : ((a / 2 ^ x : Nat) : Int) ≤ b := by
  have := Nat.div_le_self a (2 ^ x); omega

theorem bit_i64 (a x : Nat) (ha : (a : Int) ≤ 9223372036854775807) : bits .and .i64 ((a : Int) / 2 ^ x) 1 = ((bitN a x : Nat) : Int) := by
  rw [down2, and1_i64 _ (down_le a x _ ha)]; rfl

theorem bit_u64 (a x : Nat) (ha : (a : Int) ≤ 18446744073709551615) : bits .and .u64 ((a : Int) / 2 ^ x) 1 = ((bitN a x : Nat) : Int) := by
  rw [down2, and1_u64 _ (down_le a x _ ha)]; rfl

end Go.Proofs.Ytlmhdocfdpbhmaa
