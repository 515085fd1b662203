/-
  CountOnes, NotTable and IsConstant of the program and of its model.
-/
import Derived.Test.YtecakbjcnabpnaaTabH
import Derived.Deep.RegionHeld3
import Derived.Deep.DrawnRows
namespace Go.Proofs.Ytecakbjcnabpnaa
open Go.RowKit Plain
set_option linter.unusedVariables false
attribute [local go_sem ↓] Go.wp_at_zero Go.wp_at_succ

/-- What CountOnes answers. -/
def Plain.cntT (n a : Int) : Int := if isT n a = true then (popN a.toNat : Int) else -1
theorem cntT_yes (n a : Nat) (hn : n ≤ 5) (ha : a ≤ fullN n) : cntT n a = (popN a : Int) := by unfold cntT; rw [if_pos (isT_yes hn ha)]; rfl
theorem cntT_no {n a : Int} (h : isT n a = false) : cntT n a = -1 := by unfold cntT; rw [if_neg (by rw [h]; decide)]

theorem Tab.cntI_yes (n a : Nat) (hn : n ≤ 5) (ha : a ≤ fullN n) (w : World) :
    Calls Try.prog 21 #[.agg #[.int .i64 n, .int .i64 a]] w fun e w' => e = .returned (.int .i64 (popN a : Int)) ∧ Below w.heap.size w w' := by
  have ht := Lib.hid (isT_yes hn ha)
  have hf := fullN_le n hn
  have hl : (a : Int) ≤ 4294967295 := by omega
  clear ha hf
  go_enter Try.func21, Try.ntmps21
  go_wp2_with fail
  refine (Tab.impl _ _ (by omega) _).mono ?_
  rintro e w1 ⟨rfl, hb1⟩
  obtain ⟨hc1, hf1⟩ := bcell hb1
  rw [ht.out]
  go_wp2_with fail
  refine (Tab.ones _ hl _).mono ?_
  rintro e w2 ⟨rfl, rfl⟩
  go_wp2
  go_ret
  exact ⟨rfl, ((Below.refl _ _).alloc (Nat.le_refl _) _).trans (hb1.mono (by simp))⟩

theorem Tab.cntI_no (n a : Int) (hb : -9223372036854775808 ≤ a ∧ a ≤ 9223372036854775807) (ht : isT n a = false) (w : World) :
    Calls Try.prog 21 #[.agg #[.int .i64 n, .int .i64 a]] w fun e w' => e = .returned (.int .i64 (-1)) ∧ Below w.heap.size w w' := by
  have H := Lib.hid ht
  have HB := Lib.hid hb
  clear ht hb
  go_enter Try.func21, Try.ntmps21
  go_wp2_with fail
  refine (Tab.impl _ _ HB.out _).mono ?_
  rintro e w1 ⟨rfl, hb1⟩
  rw [H.out]
  go_wp2
  go_ret
  exact ⟨rfl, ((Below.refl _ _).alloc (Nat.le_refl _) _).trans (hb1.mono (by simp))⟩

/-- CountOnes of the program. -/
theorem Tab.cntI (n a : Int) (hb : -9223372036854775808 ≤ a ∧ a ≤ 9223372036854775807) (w : World) :
    Calls Try.prog 21 #[.agg #[.int .i64 n, .int .i64 a]] w fun e w' => e = .returned (.int .i64 (cntT n a)) ∧ Below w.heap.size w w' := by
  by_cases ht : isT n a = true
  · obtain ⟨m, b, rfl, rfl, hm, hb⟩ := isT_nat ht
    rw [cntT_yes m b hm hb]
    exact Tab.cntI_yes m b hm hb w
  · rw [cntT_no (by simpa using ht)]
    exact Tab.cntI_no n a hb (by simpa using ht) w

/-! ### NotTable -/
theorem andnot_full (n x : Nat) (hn : n ≤ 5) (hx : x ≤ fullN n) : Go.bits .andNot .u64 (fullN n : Int) (x : Int) = ((fullN n - x : Nat) : Int) := by
  have hf := fullN_le n hn
  have hm : fullN n &&& (18446744073709551615 - x) = fullN n - x := by
    rw [Nat.and_comm]
    rcases cases5 n hn with rfl | rfl | rfl | rfl | rfl | rfl
    · rw [fullN_0] at hx ⊢; rw [show (1 : Nat) = 2 ^ 1 - 1 by decide, Nat.and_two_pow_sub_one_eq_mod]; omega
    · rw [fullN_1] at hx ⊢; rw [show (3 : Nat) = 2 ^ 2 - 1 by decide, Nat.and_two_pow_sub_one_eq_mod]; omega
    · rw [fullN_2] at hx ⊢; rw [show (15 : Nat) = 2 ^ 4 - 1 by decide, Nat.and_two_pow_sub_one_eq_mod]; omega
    · rw [fullN_3] at hx ⊢; rw [show (255 : Nat) = 2 ^ 8 - 1 by decide, Nat.and_two_pow_sub_one_eq_mod]; omega
    · rw [fullN_4] at hx ⊢; rw [show (65535 : Nat) = 2 ^ 16 - 1 by decide, Nat.and_two_pow_sub_one_eq_mod]; omega
    · rw [fullN_5] at hx ⊢; rw [show (4294967295 : Nat) = 2 ^ 32 - 1 by decide, Nat.and_two_pow_sub_one_eq_mod]; omega
  show IntKind.u64.wrap ((BitVec.ofInt 64 (fullN n : Int) &&& ~~~ BitVec.ofInt 64 (x : Int)).toNat : Int) = _
  rw [BitVec.toNat_and, BitVec.toNat_not, upU64 _ (by omega), upU64 _ (by omega), IntKind.wrap_u64]
  rw [show 2 ^ 64 - 1 - x = 18446744073709551615 - x by omega, hm]
  omega

/-- word.table makes one box. -/
theorem Tab.tableX (n a : Nat) (ha : (a : Int) ≤ 9223372036854775807) (w : World) :
    Calls Try.prog 93 #[.int .u64 a, .int .i64 n] w fun e w' => e = .returned (.agg #[.int .i64 n, .int .i64 a]) ∧ w.alloc (.cells #[.int .i64 n, .int .i64 a] 25) = w' := by
  go_enter Try.func93, Try.ntmps93
  go_wp2
  exact bodyPost_ret (v := .agg #[.int .i64 n, .int .i64 a]) (by simp [results, Try.results93, go_sem]) rfl ⟨rfl, rfl⟩

/-- What NotTable answers: a number of variables, a word, and whether there is a table. -/
def Plain.notT (n a : Int) : Int × Int × Bool := if isT n a = true then (n, ((fullN n.toNat - a.toNat : Nat) : Int), true) else (0, 0, false)
theorem notT_yes (n a : Nat) (hn : n ≤ 5) (ha : a ≤ fullN n) : notT n a = ((n : Int), ((fullN n - a : Nat) : Int), true) := by unfold notT; rw [if_pos (isT_yes hn ha)]; rfl
theorem notT_no {n a : Int} (h : isT n a = false) : notT n a = (0, 0, false) := by unfold notT; rw [if_neg (by rw [h]; decide)]
end Go.Proofs.Ytecakbjcnabpnaa
