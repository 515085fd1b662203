/-
  ValueAt of the program and of its model: both answer 'Plain.valAt'.
  ValueAt of the program; CountOnes of both but for the counting; NotTable.
-/
import Derived.Test.YtechkghnmgimbaaQTabC
import Derived.Test.YtechkghnmgimbaaWords

namespace Go.Proofs.Ytechkghnmgimbaa.Q
set_option linter.unusedSimpArgs false
theorem Plain.qTabE : True := trivial
open Go.RowKit Go.Proofs.Ytechkghnmgimbaa.Plain Go.Proofs.Ytechkghnmgimbaa.Q.Plain
set_option linter.unusedVariables false

/-- What ValueAt answers. -/
def Plain.valAt (n a x : Int) : Int := if isT n a = true ∧ 0 ≤ x ∧ x < 2 ^ n.toNat then (bitN a.toNat x.toNat : Int) else -1

def Plain.inpB (n : Nat) (x : Int) : Bool := decide (0 ≤ x ∧ x < 2 ^ n)
theorem inpB_yes {n : Nat} {x : Int} (h : 0 ≤ x ∧ x < 2 ^ n) : inpB n x = true := decide_eq_true h
theorem inpB_no {n : Nat} {x : Int} (h : ¬ (0 ≤ x ∧ x < 2 ^ n)) : inpB n x = false := decide_eq_false h
theorem two_pow_int (n : Nat) (hn : n ≤ 5) : (1 : Int) ≤ 2 ^ n ∧ (2 : Int) ^ n ≤ 32 := by
  rcases cases5 n hn with rfl | rfl | rfl | rfl | rfl | rfl <;> decide

theorem Tab.at (a x : Nat) (ha : (a : Int) ≤ 18446744073709551615) (hx : x ≤ 63) (w : World) :
    Calls Tq.prog 41 #[.int .u64 a, .int .i64 x] w fun e w' => e = .returned (.int .i64 (bitN a x : Int)) ∧ w = w' := by
  have H := Lib.hid (bit_u64 a x ha)
  go_enter Tq.func41, Tq.ntmps41
  go_wp2
  go_ret
  refine ⟨ret_int ?_, rfl⟩
  have := bitN_lt a x
  rw [H.out, IntWalk.wrap64_in _ ⟨by omega, by omega⟩]

theorem valAt_in (n a x : Nat) (hn : n ≤ 5) (ha : a ≤ fullN n) (hx : (x : Int) < 2 ^ n) : valAt n a x = (bitN a x : Int) := by
  unfold valAt; rw [if_pos ⟨isT_yes hn ha, by omega, hx⟩]; rfl
theorem valAt_no (n a x : Int) (ht : isT n a = false) : valAt n a x = -1 := by
  unfold valAt; rw [if_neg]; rintro ⟨h, _⟩; rw [h] at ht; cases ht
theorem valAt_out (n a : Nat) (x : Int) (hx : ¬ (0 ≤ x ∧ x < 2 ^ n)) : valAt n a x = -1 := by
  unfold valAt; rw [if_neg]; rintro ⟨_, h⟩; exact hx h

end Go.Proofs.Ytechkghnmgimbaa.Q

namespace Go.Proofs.Ytechkghnmgimbaa.Q
set_option linter.unusedSimpArgs false
open Go.RowKit Go.Proofs.Ytechkghnmgimbaa.Plain Go.Proofs.Ytechkghnmgimbaa.Q.Plain
set_option linter.unusedVariables false

theorem Tab.table (n a : Nat) (ha : (a : Int) ≤ 9223372036854775807) (w : World) :
    Calls Tq.prog 67 #[.int .u64 a, .int .i64 n] w fun e w' => e = .returned (.agg #[.int .i64 n, .int .i64 a]) ∧ Below w.heap.size w w' := by
  go_enter Tq.func67, Tq.ntmps67
  go_wp2
  exact bodyPost_ret (v := .agg #[.int .i64 n, .int .i64 a]) (by simp [results, Tq.results67, go_sem]) rfl ⟨rfl, (Below.refl _ _).alloc (Nat.le_refl _) _⟩

end Go.Proofs.Ytechkghnmgimbaa.Q
