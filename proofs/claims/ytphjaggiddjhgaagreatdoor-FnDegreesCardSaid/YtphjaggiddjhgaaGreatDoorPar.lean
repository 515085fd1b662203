/-
  ParseTable of the program and of its model: the length is a power of two, and each byte is a digit 0 or 1.
-/
import Derived.Test.YtphjaggiddjhgaaGreatDoorTabK
import Derived.Test.YtphjaggiddjhgaaGreatDoorTz
namespace Go.Proofs.YtphjaggiddjhgaaGreatDoor
open Go.RowKit Plain
set_option linter.unusedVariables false

/-- The word of the first k digits. -/
def Plain.parW (s : ByteArray) : Nat → Nat
  | 0 => 0
  | k + 1 => if s.data.toList.getD k 0 = 49 then parW s k ||| 2 ^ k else parW s k

theorem parW_lt (s : ByteArray) (x : Nat) : parW s x < 2 ^ x := by
  induction x with
  | zero => exact Nat.one_pos
  | succ x ih =>
    unfold parW
    have hx : 2 ^ x < 2 ^ (x + 1) := Nat.pow_lt_pow_right (by decide) (by omega)
    split
    · exact Nat.or_lt_two_pow (by omega) hx
    · omega

theorem parW_bound (s : ByteArray) (x : Nat) (hx : x ≤ 32) : (parW s x : Int) ≤ 4294967295 := by
  have h1 := parW_lt s x
  have h2 : 2 ^ x ≤ 2 ^ 32 := Nat.pow_le_pow_right (by decide) hx
  omega

theorem getD_byte (s : ByteArray) (k : Nat) (h : k < s.size) : s.data.toList.getD k 0 = s[k] := by
  have h' : k < s.data.toList.length := by simpa using h
  rw [List.getD_eq_getElem?_getD, List.getElem?_eq_getElem h']
  rfl

theorem parW_one {s : ByteArray} {k : Nat} (h : k < s.size) (hc : s[k] = 49) : parW s (k + 1) = parW s k ||| 2 ^ k := by
  show (if _ then _ else _) = _
  rw [getD_byte s k h, if_pos hc]

theorem parW_zero {s : ByteArray} {k : Nat} (h : k < s.size) (hc : s[k] = 48) : parW s (k + 1) = parW s k := by
  show (if _ then _ else _) = _
  rw [getD_byte s k h, if_neg (by rw [hc]; decide)]

theorem byteTest (c : UInt8) (k : Nat) (hk : k < 256) : ((c.toNat : Int) == (k : Int)) = decide (c = UInt8.ofNat k) := by
  have e : ((c.toNat : Int) == (k : Int)) = decide ((c.toNat : Int) = (k : Int)) := rfl
  rw [e]
  congr 1
  rw [eq_iff_iff]
  constructor
  · intro h
    apply UInt8.toNat_inj.1
    rw [UInt8.toNat_ofNat']; omega
  · intro h
    subst h
    rw [UInt8.toNat_ofNat']; omega

theorem is48 (c : UInt8) (h : c = 48) : ((c.toNat : Int) == 48) = true ∧ ((c.toNat : Int) == 49) = false := by subst h; exact ⟨rfl, rfl⟩
theorem is49 (c : UInt8) (h : c = 49) : ((c.toNat : Int) == 48) = false ∧ ((c.toNat : Int) == 49) = true := by subst h; exact ⟨rfl, rfl⟩
theorem isNot (c : UInt8) (h : ¬ (c = 48 ∨ c = 49)) : ((c.toNat : Int) == 48) = false ∧ ((c.toNat : Int) == 49) = false := by
  refine ⟨?_, ?_⟩
  · have := byteTest c 48 (by decide)
    rw [show ((48 : Nat) : Int) = 48 from rfl] at this
    rw [this]; exact decide_eq_false fun e => h (.inl e)
  · have := byteTest c 49 (by decide)
    rw [show ((49 : Nat) : Int) = 49 from rfl] at this
    rw [this]; exact decide_eq_false fun e => h (.inr e)

/-- The first bytes are digits. -/
def Digs01 (s : ByteArray) (k : Nat) : Prop := ∀ j, (h : j < s.size) → j < k → s[j] = 48 ∨ s[j] = 49

theorem first_bad (s : ByteArray) : ∀ k, k ≤ s.size → Digs01 s k ∨ ∃ b, ∃ h : b < s.size, b < k ∧ Digs01 s b ∧ ¬ (s[b] = 48 ∨ s[b] = 49) := by
  intro k
  induction k with
  | zero => intro _; exact .inl fun j _ h => absurd h (by omega)
  | succ k ih =>
    intro hk
    rcases ih (by omega) with h | ⟨b, hb, hl, h1, h2⟩
    · by_cases hc : s[k]'(by omega) = 48 ∨ s[k]'(by omega) = 49
      · refine .inl fun j hj hl => ?_
        by_cases he : j = k
        · subst he; exact hc
        · exact h j hj (by omega)
      · exact .inr ⟨k, by omega, by omega, h, hc⟩
    · exact .inr ⟨b, hb, by omega, h1, h2⟩

/-- The test of a length against 2^n. -/
theorem len_test (z n : Nat) (m : Nat) (hz : z = 2 ^ m) (hn : n < m) (hm : m ≤ 5) : ((z : Int) == (2 : Int) ^ n) = false ∧ ((z : Int) != (2 : Int) ^ n) = true := by
  have h : (z : Int) ≠ (2 : Int) ^ n := by
    rw [up2, hz]
    have := Nat.pow_lt_pow_right (a := 2) (by decide) hn
    omega
  exact ⟨by simpa using h, by simpa using h⟩
theorem len_same (z m : Nat) (hz : z = 2 ^ m) : ((z : Int) == (2 : Int) ^ m) = true ∧ ((z : Int) != (2 : Int) ^ m) = false := by
  have h : (z : Int) = (2 : Int) ^ m := by rw [up2, hz]
  exact ⟨by simpa using h, by simpa using h⟩

theorem not_pow (z : Nat) (hz : ∀ m, m ≤ 5 → z ≠ 2 ^ m) (n : Nat) (hn : n ≤ 5) : ((z : Int) == (2 : Int) ^ n) = false ∧ ((z : Int) != (2 : Int) ^ n) = true := by
  have h : (z : Int) ≠ (2 : Int) ^ n := by
    rw [up2]
    have := hz n hn
    omega
  exact ⟨by simpa using h, by simpa using h⟩

end Go.Proofs.YtphjaggiddjhgaaGreatDoor
