/-
  VariableTable of the program and of its model: both set the bits of the inputs whose bit i is 1, one after the other.
-/
import Derived.Test.YtechkghnmgimbaaTabE
namespace Go.Proofs.Ytechkghnmgimbaa
open Go.RowKit Plain
set_option linter.unusedVariables false

/-- The word after x inputs. -/
def Plain.varW (i : Nat) : Nat → Nat
  | 0 => 0
  | x + 1 => if bitN x i = 1 then varW i x ||| 2 ^ x else varW i x
theorem varW_lt (i x : Nat) : varW i x < 2 ^ x := by
  induction x with
  | zero => exact Nat.one_pos
  | succ x ih =>
    unfold varW
    have hx : 2 ^ x < 2 ^ (x + 1) := Nat.pow_lt_pow_right (by decide) (by omega)
    split
    · exact Nat.or_lt_two_pow (by omega) hx
    · omega
theorem varW_yes {i x : Nat} (h : bitN x i = 1) : varW i (x + 1) = varW i x ||| 2 ^ x := by show (if _ then _ else _) = _; rw [if_pos h]
theorem varW_no {i x : Nat} (h : bitN x i ≠ 1) : varW i (x + 1) = varW i x := by show (if _ then _ else _) = _; rw [if_neg h]
theorem varW_bound (i x : Nat) (hx : x ≤ 32) : (varW i x : Int) ≤ 4294967295 := by
  have h1 := varW_lt i x
  have h2 : 2 ^ x ≤ 2 ^ 32 := Nat.pow_le_pow_right (by decide) hx
  omega
theorem pow_bound (x : Nat) (hx : x ≤ 32) : ((2 ^ x : Nat) : Int) ≤ 4294967296 := by
  have h2 : 2 ^ x ≤ 2 ^ 32 := Nat.pow_le_pow_right (by decide) hx
  omega

theorem up2 (y : Nat) : ((2 : Int) ^ y) = ((2 ^ y : Nat) : Int) := (Int.natCast_pow 2 y).symm
theorem orbit_i64 (a y : Nat) (ha : (a : Int) ≤ 4294967295) (hy : y ≤ 32) : Go.bits .or .i64 (a : Int) (wrap64 ((2 : Int) ^ y)) = ((a ||| 2 ^ y : Nat) : Int) := by
  have hp := pow_bound y hy
  rw [up2]
  generalize 2 ^ y = p at hp ⊢
  rw [IntWalk.wrap64_in _ ⟨by omega, by omega⟩]
  exact or64 a p (by omega) (by omega)
theorem orbit_u64 (a y : Nat) (ha : (a : Int) ≤ 4294967295) (hy : y ≤ 32) : Go.bits .or .u64 (a : Int) (IntKind.u64.wrap ((2 : Int) ^ y)) = ((a ||| 2 ^ y : Nat) : Int) := by
  have hp := pow_bound y hy
  rw [up2]
  generalize 2 ^ y = p at hp ⊢
  rw [show IntKind.u64.wrap (p : Int) = (p : Int) by rw [IntKind.wrap_u64]; omega]
  exact orU64 a p (by omega) (by omega)

theorem Tab.withBit (a x : Nat) (ha : (a : Int) ≤ 4294967295) (hx : x ≤ 32) (w : World) :
    Calls Try.prog 66 #[.int .u64 a, .int .i64 x] w fun e w' => e = .returned (.int .u64 ((a ||| 2 ^ x : Nat) : Int)) ∧ w = w' := by
  have H := Lib.hid (orbit_u64 a x ha hx)
  go_enter Try.func66, Try.ntmps66
  go_wp2
  go_ret
  exact ⟨ret_int H.out, rfl⟩

/-- word.table makes one box. -/
theorem Tab.tableX' (n a : Nat) (ha : (a : Int) ≤ 9223372036854775807) (w : World) :
    Calls Try.prog 67 #[.int .u64 a, .int .i64 n] w fun e w' => e = .returned (.agg #[.int .i64 n, .int .i64 a]) ∧ w.alloc (.cells #[.int .i64 n, .int .i64 a] 26) = w' := by
  go_enter Try.func67, Try.ntmps67
  go_wp2
  exact bodyPost_ret (v := .agg #[.int .i64 n, .int .i64 a]) (by simp [results, Try.results67, go_sem]) rfl ⟨rfl, rfl⟩

/-- What VariableTable answers. -/
def Plain.varT (n i : Int) : Int × Int × Bool := if (0 ≤ n ∧ n ≤ 5) ∧ 0 ≤ i ∧ i ≤ n - 1 then (n, (varW i.toNat (2 ^ n.toNat) : Int), true) else (0, 0, false)

theorem Tab.bits_yes (n : Int) (h : 0 ≤ n ∧ n ≤ 5) (w : World) :
    Calls Try.prog 53 #[.int .i64 n] w fun e w' => e = .returned (.bool true) ∧ w = w' :=
  (Tab.bits n w).mono fun e w'' ⟨h1, h2⟩ => ⟨by rw [h1, inB_yes h], h2⟩

theorem Tab.bits_no (n : Int) (h : ¬ (0 ≤ n ∧ n ≤ 5)) (w : World) :
    Calls Try.prog 53 #[.int .i64 n] w fun e w' => e = .returned (.bool false) ∧ w = w' :=
  (Tab.bits n w).mono fun e w'' ⟨h1, h2⟩ => ⟨by rw [h1, inB_no h], h2⟩

theorem varT_yes (n i : Nat) (hn : n ≤ 5) (hi : (i : Int) ≤ (n : Int) - 1) : varT n i = ((n : Int), (varW i (2 ^ n) : Int), true) := by
  unfold varT; rw [if_pos ⟨⟨by omega, by omega⟩, by omega, hi⟩]; rfl
theorem varT_no {n i : Int} (h : ¬ ((0 ≤ n ∧ n ≤ 5) ∧ 0 ≤ i ∧ i ≤ n - 1)) : varT n i = (0, 0, false) := if_neg h
end Go.Proofs.Ytechkghnmgimbaa
