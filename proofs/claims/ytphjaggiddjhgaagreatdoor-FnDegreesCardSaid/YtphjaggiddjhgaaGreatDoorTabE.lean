/-
  ValueAt of the program and of its model: both answer 'Plain.valAt'.
  ValueAt of the program; CountOnes of both but for the counting; NotTable.
-/
import Derived.Test.YtphjaggiddjhgaaGreatDoorTabC
import Derived.Test.YtphjaggiddjhgaaGreatDoorWords

namespace Go.Proofs.YtphjaggiddjhgaaGreatDoor
open Go.RowKit Plain
set_option linter.unusedVariables false

/-- What ValueAt answers. -/
def Plain.valAt (n a x : Int) : Int := if isT n a = true ∧ 0 ≤ x ∧ x < 2 ^ n.toNat then (bitN a.toNat x.toNat : Int) else -1

def Plain.inpB (n : Nat) (x : Int) : Bool := decide (0 ≤ x ∧ x < 2 ^ n)
theorem inpB_yes {n : Nat} {x : Int} (h : 0 ≤ x ∧ x < 2 ^ n) : inpB n x = true := decide_eq_true h
theorem inpB_no {n : Nat} {x : Int} (h : ¬ (0 ≤ x ∧ x < 2 ^ n)) : inpB n x = false := decide_eq_false h
theorem two_pow_int (n : Nat) (hn : n ≤ 5) : (1 : Int) ≤ 2 ^ n ∧ (2 : Int) ^ n ≤ 32 := by
  rcases cases5 n hn with rfl | rfl | rfl | rfl | rfl | rfl <;> decide

theorem Tab.input (n : Nat) (x : Int) (hn : n ≤ 5) (w : World) :
    Calls Tryz.prog 52 #[.int .i64 n, .int .i64 x] w fun e w' => e = .returned (.bool (inpB n x)) ∧ w = w' := by
  by_cases hx : 0 ≤ x
  · go_enter Tryz.func52, Tryz.ntmps52
    go_wp2_with (go_at_call 33; refine (Tab.count n hn _).mono ?_; rintro e w' ⟨rfl, rfl⟩)
    go_ret
    exact ⟨ret_bool (by unfold inpB; simp [hx]), rfl⟩
  · go_enter Tryz.func52, Tryz.ntmps52
    go_wp2_with (go_at_call 33; refine (Tab.count n hn _).mono ?_; rintro e w' ⟨rfl, rfl⟩)
    go_ret
    exact ⟨ret_bool (inpB_no (by omega)).symm, rfl⟩

theorem Tab.at (a x : Nat) (ha : (a : Int) ≤ 18446744073709551615) (hx : x ≤ 63) (w : World) :
    Calls Tryz.prog 34 #[.int .u64 a, .int .i64 x] w fun e w' => e = .returned (.int .i64 (bitN a x : Int)) ∧ w = w' := by
  have H := Lib.hid (bit_u64 a x ha)
  go_enter Tryz.func34, Tryz.ntmps34
  go_wp2
  go_ret
  refine ⟨ret_int ?_, rfl⟩
  have := bitN_lt a x
  rw [H.out, IntWalk.wrap64_in _ ⟨by omega, by omega⟩]

theorem valAt_in (n a x : Nat) (hn : n ≤ 5) (ha : a ≤ fullN n) (hx : (x : Int) < 2 ^ n) : valAt n a x = (bitN a x : Int) := by
  unfold valAt; rw [if_pos ⟨isT_yes hn ha, by omega, hx⟩]; rfl
theorem valAt_no (n a x : Int) (ht : isT n a = false) : valAt n a x = -1 := by
  unfold valAt; rw [if_neg]; rintro ⟨h, _⟩; rw [h] at ht; cases ht
theorem valAt_out (n a : Nat) (x : Int) (hx : ¬ (0 ≤ x ∧ x < 2 ^ n)) : valAt n a x = -1 := by
  unfold valAt; rw [if_neg]; rintro ⟨_, h⟩; exact hx h

end Go.Proofs.YtphjaggiddjhgaaGreatDoor

namespace Go.Proofs.YtphjaggiddjhgaaGreatDoor
open Go.RowKit Plain
set_option linter.unusedVariables false

theorem Tab.valI_in (n a x : Nat) (hn : n ≤ 5) (ha : a ≤ fullN n) (hx : (x : Int) < 2 ^ n) (w : World) :
    Calls Tryz.prog 20 #[.agg #[.int .i64 n, .int .i64 a], .int .i64 x] w fun e w' => e = .returned (.int .i64 (bitN a x : Int)) ∧ Below w.heap.size w w' := by
  have ht := Lib.hid (isT_yes hn ha)
  have hf := fullN_le n hn
  have hl : (a : Int) ≤ 4294967295 := by omega
  have HI := Lib.hid (inpB_yes (n := n) (x := (x : Int)) ⟨by omega, hx⟩)
  obtain ⟨hp1, hp2⟩ := two_pow_int n hn
  have hx1 : (x : Int) ≤ 63 := by omega
  clear ha hf hx hp1 hp2
  go_enter Tryz.func20, Tryz.ntmps20
  go_wp2_with fail
  refine (Tab.impl _ _ (by omega) _).mono ?_
  rintro e w1 ⟨rfl, hb1⟩
  obtain ⟨hc1, hf1⟩ := bcell hb1
  rw [ht.out]
  go_wp2_with fail
  refine (Tab.input _ _ hn _).mono ?_
  rintro e w2 ⟨rfl, rfl⟩
  rw [HI.out]
  go_wp2_with fail
  refine (Tab.at _ _ (by omega) (by omega) _).mono ?_
  rintro e w2 ⟨rfl, rfl⟩
  go_wp2
  go_ret
  exact ⟨rfl, ((Below.refl _ _).alloc (Nat.le_refl _) _).trans (hb1.mono (by simp))⟩

theorem Tab.valI_no (n : Int) (a x : Int) (hb : -9223372036854775808 ≤ a ∧ a ≤ 9223372036854775807) (ht : isT n a = false) (w : World) :
    Calls Tryz.prog 20 #[.agg #[.int .i64 n, .int .i64 a], .int .i64 x] w fun e w' => e = .returned (.int .i64 (-1)) ∧ Below w.heap.size w w' := by
  have H := Lib.hid ht
  have HB := Lib.hid hb
  clear ht hb
  go_enter Tryz.func20, Tryz.ntmps20
  go_wp2_with fail
  refine (Tab.impl _ _ HB.out _).mono ?_
  rintro e w1 ⟨rfl, hb1⟩
  rw [H.out]
  go_wp2
  go_ret
  exact ⟨rfl, ((Below.refl _ _).alloc (Nat.le_refl _) _).trans (hb1.mono (by simp))⟩

theorem Tab.valI_out (n a : Nat) (x : Int) (hn : n ≤ 5) (ha : a ≤ fullN n) (hx : ¬ (0 ≤ x ∧ x < 2 ^ n)) (w : World) :
    Calls Tryz.prog 20 #[.agg #[.int .i64 n, .int .i64 a], .int .i64 x] w fun e w' => e = .returned (.int .i64 (-1)) ∧ Below w.heap.size w w' := by
  have ht := Lib.hid (isT_yes hn ha)
  have hf := fullN_le n hn
  have hl : (a : Int) ≤ 4294967295 := by omega
  have HI := Lib.hid (inpB_no hx)
  clear ha hx hf
  go_enter Tryz.func20, Tryz.ntmps20
  go_wp2_with fail
  refine (Tab.impl _ _ (by omega) _).mono ?_
  rintro e w1 ⟨rfl, hb1⟩
  obtain ⟨hc1, hf1⟩ := bcell hb1
  rw [ht.out]
  go_wp2_with fail
  refine (Tab.input _ _ hn _).mono ?_
  rintro e w2 ⟨rfl, rfl⟩
  rw [HI.out]
  go_wp2
  go_ret
  exact ⟨rfl, ((Below.refl _ _).alloc (Nat.le_refl _) _).trans (hb1.mono (by simp))⟩

/-- ValueAt of the program. -/
theorem Tab.valI (n a x : Int) (hb : -9223372036854775808 ≤ a ∧ a ≤ 9223372036854775807) (w : World) :
    Calls Tryz.prog 20 #[.agg #[.int .i64 n, .int .i64 a], .int .i64 x] w fun e w' => e = .returned (.int .i64 (valAt n a x)) ∧ Below w.heap.size w w' := by
  by_cases ht : isT n a = true
  · obtain ⟨m, b, rfl, rfl, hm, hb⟩ := isT_nat ht
    by_cases hx : 0 ≤ x ∧ x < 2 ^ m
    · obtain ⟨y, rfl⟩ := Int.eq_ofNat_of_zero_le hx.1
      rw [valAt_in m b y hm hb hx.2]
      exact Tab.valI_in m b y hm hb hx.2 w
    · rw [valAt_out m b x hx]
      exact Tab.valI_out m b x hm hb hx w
  · rw [valAt_no n a x (by simpa using ht)]
    exact Tab.valI_no n a x hb (by simpa using ht) w

theorem Tab.fullM (n : Nat) (hn : n ≤ 5) (w : World) :
    Calls Tryz.prog 76 #[.int .i64 n] w fun e w' => e = .returned (.int .i64 (fullN n : Int)) ∧ w = w' := by
  rcases cases5 n hn with rfl | rfl | rfl | rfl | rfl | rfl
  all_goals
    clear hn
    go_enter Tryz.func76, Tryz.ntmps76
    go_wp2
    go_ret
    first | rw [fullN_0] | rw [fullN_1] | rw [fullN_2] | rw [fullN_3] | rw [fullN_4] | rw [fullN_5]
    exact ⟨rfl, rfl⟩

theorem Tab.table (n a : Nat) (ha : (a : Int) ≤ 9223372036854775807) (w : World) :
    Calls Tryz.prog 49 #[.int .u64 a, .int .i64 n] w fun e w' => e = .returned (.agg #[.int .i64 n, .int .i64 a]) ∧ Below w.heap.size w w' := by
  go_enter Tryz.func49, Tryz.ntmps49
  go_wp2
  exact bodyPost_ret (v := .agg #[.int .i64 n, .int .i64 a]) (by simp [results, Tryz.results49, go_sem]) rfl ⟨rfl, (Below.refl _ _).alloc (Nat.le_refl _) _⟩

end Go.Proofs.YtphjaggiddjhgaaGreatDoor
