/-
  Plain mathematics of the decimal digits.
-/
import Derived.Lib.ItoaLen
import Derived.Lib.AtoiAll
namespace Go.Proofs.YtdhdkonokbkdoaaGreatDoor.Plain
open Go.Lib

/-- The letter of a digit. -/
def digC (r : Nat) : UInt8 := UInt8.ofNat (48 + r)
/-- The digits of a number, none for 0. -/
def dd (m : Nat) : List UInt8 := if m = 0 then [] else decDigits m
theorem dd_zero : dd 0 = [] := rfl
theorem dd_pos {m : Nat} (h : m ≠ 0) : dd m = decDigits m := if_neg h
theorem dd_step {m : Nat} (h : m ≠ 0) : dd m = dd (m / 10) ++ [digC (m % 10)] := by
  unfold digC
  rw [dd_pos h]
  by_cases h10 : m < 10
  · rw [decDigits_one h10, show m / 10 = 0 by omega, dd_zero, show m % 10 = m by omega]; rfl
  · rw [dd_pos (show m / 10 ≠ 0 by omega)]
    rw [decDigits, dif_neg h10]

/-- What is still to come ahead of what has come are the digits of the whole. -/
def DRest (m0 m : Nat) (out : List UInt8) : Prop := dd m ++ out = dd m0
theorem DRest.start (m : Nat) : DRest m m [] := by unfold DRest; simp
theorem DRest.next {m0 m : Nat} {out : List UInt8} (h : DRest m0 m out) (hm : m ≠ 0) : DRest m0 (m / 10) ([digC (m % 10)] ++ out) := by
  unfold DRest at h ⊢
  rw [dd_step hm] at h
  rw [← h]; simp
theorem dd_len {m : Nat} (h : (m : Int) ≤ 9223372036854775808) : (dd m).length ≤ 20 := by
  unfold dd
  split
  · simp
  · rw [decDigits_length]
    exact nDigits_le20 m (by omega)
theorem DRest.len {m0 m : Nat} {out : List UInt8} (h : DRest m0 m out) (h0 : (m0 : Int) ≤ 9223372036854775808) : out.length ≤ 20 := by
  have := congrArg List.length h
  have h2 := dd_len h0
  rw [List.length_append] at this
  omega
theorem DRest.last {m0 : Nat} {out : List UInt8} (h : DRest m0 0 out) : out = dd m0 := h

theorem itoa_zero : itoa 0 = [48] := by unfold itoa; simp; rw [decDigits_one (by omega)]; rfl
theorem itoa_pos {m : Nat} (h : m ≠ 0) : itoa (m : Int) = dd m := by
  unfold itoa
  rw [if_neg (by omega), dd_pos h, Int.toNat_natCast]
theorem itoa_neg {m : Nat} (h : m ≠ 0) : itoa (-(m : Int)) = [45] ++ dd m := by
  unfold itoa
  rw [if_pos (by omega), dd_pos h, Int.natAbs_neg, Int.natAbs_natCast]; rfl

theorem neg_rem (m : Nat) : (-(m : Int)).tmod 10 = -((m % 10 : Nat) : Int) := by
  rw [Int.neg_tmod]; rfl
theorem neg_quo (m : Nat) : (-(m : Int)).tdiv 10 = -((m / 10 : Nat) : Int) := by
  rw [Int.neg_tdiv]; rfl

end Go.Proofs.YtdhdkonokbkdoaaGreatDoor.Plain
