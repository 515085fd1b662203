/-
  ValueAt of the program and of its model: both answer 'Plain.valAt'.
  ValueAt of the program; CountOnes of both but for the counting; NotTable.
-/
import Derived.Test.YtlmhdocfdpbhmaaTabC
import Derived.Test.YtlmhdocfdpbhmaaWords

namespace Go.Proofs.Ytlmhdocfdpbhmaa
open Go.RowKit Plain
set_option linter.unusedVariables false

/-- What ValueAt answers. -/
def Plain.valAt (n a x : Int) : Int := if isT n a = true ∧ 0 ≤ x ∧ x < 2 ^ n.toNat then (bitN a.toNat x.toNat : Int) else -1

def Plain.inpB (n : Nat) (x : Int) : Bool := decide (0 ≤ x ∧ x < 2 ^ n)
theorem inpB_yes {n : Nat} {x : Int} (h : 0 ≤ x ∧ x < 2 ^ n) : inpB n x = true := decide_eq_true h
theorem inpB_no {n : Nat} {x : Int} (h : ¬ (0 ≤ x ∧ x < 2 ^ n)) : inpB n x = false := decide_eq_false h
theorem two_pow_int (n : Nat) (hn : n ≤ 5) : (1 : Int) ≤ 2 ^ n ∧ (2 : Int) ^ n ≤ 32 := by
  rcases cases5 n hn with rfl | rfl | rfl | rfl | rfl | rfl <;> decide

theorem Tab.input (n : Nat) (x : Int) (hn : n ≤ 5) (w : World) :
    Calls Try.prog 94 #[.int .i64 n, .int .i64 x] w fun e w' => e = .returned (.bool (inpB n x)) ∧ w = w' := by
  by_cases hx : 0 ≤ x
  · go_enter Try.func94, Try.ntmps94
    go_wp2_with (go_at_call 88; refine (Tab.count n hn _).mono ?_; rintro e w' ⟨rfl, rfl⟩)
    go_ret
    exact ⟨ret_bool (by unfold inpB; simp [hx]), rfl⟩
  · go_enter Try.func94, Try.ntmps94
    go_wp2_with (go_at_call 88; refine (Tab.count n hn _).mono ?_; rintro e w' ⟨rfl, rfl⟩)
    go_ret
    exact ⟨ret_bool (inpB_no (by omega)).symm, rfl⟩

theorem Tab.at (a x : Nat) (ha : (a : Int) ≤ 18446744073709551615) (hx : x ≤ 63) (w : World) :
    Calls Try.prog 91 #[.int .u64 a, .int .i64 x] w fun e w' => e = .returned (.int .i64 (bitN a x : Int)) ∧ w = w' := by
  have H := Lib.hid (bit_u64 a x ha)
  go_enter Try.func91, Try.ntmps91
  go_wp2
  go_ret
  refine ⟨ret_int ?_, rfl⟩
  have := bitN_lt a x
  rw [H.out, IntWalk.wrap64_in _ ⟨by omega, by omega⟩]

theorem valAt_in (n a x : Nat) (hn : n ≤ 5) (ha : a ≤ fullN n) (hx : (x : Int) < 2 ^ n) : valAt n a x = (bitN a x : Int) := by
  unfold valAt; rw [if_pos ⟨isT_yes hn ha, by omega, hx⟩]; rfl
theorem valAt_no (n a x : Int) (ht : isT n a = false) : valAt n a x = -1 := by
  unfold valAt; rw [if_neg]; rintro ⟨h, _⟩; rw [h] at ht; cases ht
theorem valAt_out (n a : Nat) (x : Int) (hx : ¬ (0 ≤ x ∧ x < 2 ^ n)) : valAt n a x = -1 := by
  unfold valAt; rw [if_neg]; rintro ⟨_, h⟩; exact hx h

end Go.Proofs.Ytlmhdocfdpbhmaa

namespace Go.Proofs.Ytlmhdocfdpbhmaa
open Go.RowKit Plain
set_option linter.unusedVariables false

theorem Tab.fullM (n : Nat) (hn : n ≤ 5) (w : World) :
    Calls Try.prog 77 #[.int .i64 n] w fun e w' => e = .returned (.int .i64 (fullN n : Int)) ∧ w = w' := by
  rcases cases5 n hn with rfl | rfl | rfl | rfl | rfl | rfl
  all_goals
    clear hn
    go_enter Try.func77, Try.ntmps77
    go_wp2
    go_ret
    first | rw [fullN_0] | rw [fullN_1] | rw [fullN_2] | rw [fullN_3] | rw [fullN_4] | rw [fullN_5]
    exact ⟨rfl, rfl⟩

theorem Tab.table (n a : Nat) (ha : (a : Int) ≤ 9223372036854775807) (w : World) :
    Calls Try.prog 93 #[.int .u64 a, .int .i64 n] w fun e w' => e = .returned (.agg #[.int .i64 n, .int .i64 a]) ∧ Below w.heap.size w w' := by
  go_enter Try.func93, Try.ntmps93
  go_wp2
  exact bodyPost_ret (v := .agg #[.int .i64 n, .int .i64 a]) (by simp [results, Try.results93, go_sem]) rfl ⟨rfl, (Below.refl _ _).alloc (Nat.le_refl _) _⟩

end Go.Proofs.Ytlmhdocfdpbhmaa
