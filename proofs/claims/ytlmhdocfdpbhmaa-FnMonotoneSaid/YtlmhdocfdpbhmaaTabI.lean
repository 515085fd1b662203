/-
  How many bits are 1: math/bits.OnesCount64 at numbers of 32 bits, the model's loop; CountOnes of both.
  CountOnes, NotTable and IsConstant of the program and of its model.
-/
import Derived.Test.YtlmhdocfdpbhmaaTabE
import Derived.Test.YtlmhdocfdpbhmaaPlainC
import Derived.Deep.RegionHeld3
import Derived.Deep.DrawnRows

namespace Go.Proofs.Ytlmhdocfdpbhmaa
open Go.RowKit Plain
set_option linter.unusedVariables false

theorem andU64c (a : Nat) (c : Nat) (ha : (a : Int) ≤ 18446744073709551615) (hc : (c : Int) ≤ 18446744073709551615) : Go.bits .and .u64 (a : Int) (c : Int) = ((a &&& c : Nat) : Int) := andU64 a c ha hc

theorem ones_e1 (y : Nat) (hy : (y : Int) ≤ 8589934592) : IntKind.u64.wrap (Go.bits .and .u64 ((y : Int) / 2) 6148914691236517205 + Go.bits .and .u64 (y : Int) 6148914691236517205) = ((st1 6148914691236517205 y : Nat) : Int) := by
  have h1 : Go.bits .and .u64 ((y : Int) / 2) 6148914691236517205 = ((y / 2 &&& 6148914691236517205 : Nat) : Int) := andU64c (y / 2) 6148914691236517205 (by omega) (by decide)
  have h2 : Go.bits .and .u64 (y : Int) 6148914691236517205 = ((y &&& 6148914691236517205 : Nat) : Int) := andU64c y 6148914691236517205 (by omega) (by decide)
  have l1 : (y / 2 &&& 6148914691236517205) ≤ y / 2 := Nat.and_le_left
  have l2 : (y &&& 6148914691236517205) ≤ y := Nat.and_le_left
  rw [h1, h2, IntKind.wrap_u64]
  unfold st1
  omega

theorem ones_e2 (y : Nat) (hy : (y : Int) ≤ 17179869184) : IntKind.u64.wrap (Go.bits .and .u64 ((y : Int) / 4) 3689348814741910323 + Go.bits .and .u64 (y : Int) 3689348814741910323) = ((st2 3689348814741910323 y : Nat) : Int) := by
  have h1 : Go.bits .and .u64 ((y : Int) / 4) 3689348814741910323 = ((y / 4 &&& 3689348814741910323 : Nat) : Int) := andU64c (y / 4) 3689348814741910323 (by omega) (by decide)
  have h2 : Go.bits .and .u64 (y : Int) 3689348814741910323 = ((y &&& 3689348814741910323 : Nat) : Int) := andU64c y 3689348814741910323 (by omega) (by decide)
  have l1 : (y / 4 &&& 3689348814741910323) ≤ y / 4 := Nat.and_le_left
  have l2 : (y &&& 3689348814741910323) ≤ y := Nat.and_le_left
  rw [h1, h2, IntKind.wrap_u64]
  unfold st2
  omega

theorem ones_e3 (y : Nat) (hy : (y : Int) ≤ 34359738368) : Go.bits .and .u64 (IntKind.u64.wrap ((y : Int) / 16 + (y : Int))) 1085102592571150095 = ((st3 1085102592571150095 y : Nat) : Int) := by
  have h0 : IntKind.u64.wrap ((y : Int) / 16 + (y : Int)) = ((y / 16 + y : Nat) : Int) := by rw [IntKind.wrap_u64]; omega
  rw [h0]
  exact andU64c (y / 16 + y) 1085102592571150095 (by omega) (by decide)

theorem ones_e4 (y : Nat) (hy : (y : Int) ≤ 4294967295) : IntKind.u64.wrap ((y : Int) + (y : Int) / 256) = ((y + y / 256 : Nat) : Int) := by rw [IntKind.wrap_u64]; omega
theorem ones_e5 (y : Nat) (hy : (y : Int) ≤ 8589934592) : IntKind.u64.wrap ((y : Int) + (y : Int) / 65536) = ((y + y / 65536 : Nat) : Int) := by rw [IntKind.wrap_u64]; omega
theorem ones_e6 (y : Nat) (hy : (y : Int) ≤ 17179869184) : IntKind.u64.wrap ((y : Int) + (y : Int) / 4294967296) = ((y + y / 4294967296 : Nat) : Int) := by rw [IntKind.wrap_u64]; omega
theorem ones_e7 (y : Nat) (hy : (y : Int) ≤ 34359738368) : Go.bits .and .i64 (wrap64 (y : Int)) 127 = ((y % 128 : Nat) : Int) := by
  rw [IntWalk.wrap64_in _ ⟨by omega, by omega⟩]
  have h := and64 y 127 (by omega) (by decide)
  rw [show (127 : Nat) = 2 ^ 7 - 1 by decide, Nat.and_two_pow_sub_one_eq_mod] at h
  exact h

theorem st1_le (m y : Nat) : st1 m y ≤ 2 * y := by
  unfold st1
  have l1 : (y / 2 &&& m) ≤ y / 2 := Nat.and_le_left
  have l2 : (y &&& m) ≤ y := Nat.and_le_left
  omega
theorem st2_le (m y : Nat) : st2 m y ≤ 2 * y := by
  unfold st2
  have l1 : (y / 4 &&& m) ≤ y / 4 := Nat.and_le_left
  have l2 : (y &&& m) ≤ y := Nat.and_le_left
  omega

theorem ones_form (x : Nat) (hx : (x : Int) ≤ 4294967295) : ((popN x : Nat) : Int) = (((fold32 (sum32 x)) % 128 : Nat) : Int) := by
  rw [(fold32_pop x (by omega)).2]

theorem popN_lim (x : Nat) (hx : (x : Int) ≤ 4294967295) : (popN x : Int) ≤ 32 := by
  have := popN_le 32 x (by omega)
  omega

theorem Tab.onesM (v : Nat) (hv : (v : Int) ≤ 4294967295) (w : World) :
    Calls Try.prog 139 #[.int .i64 v] w fun e w' => e = .returned (.int .i64 (popN v : Int)) ∧ w = w' := by
  have hp := popN_lim v hv
  go_enter Try.func139, Try.ntmps139
  go_wp2
  go_loop [3, 4] (fun n x => ∃ j k : Nat, n = .int .i64 (k : Int) ∧ x = .int .i64 (j : Int) ∧ Hid (k + popN j = popN v) ∧ (j : Int) ≤ 4294967295) (fun _ x => (intOf x).toNat)
  case atStart => exact ⟨v, 0, rfl, rfl, Lib.hid (by omega), hv⟩
  case round =>
    obtain ⟨j, k, rfl, rfl, hk, hj⟩ := hrel
    by_cases h0 : j = 0
    · subst h0
      have hk' := hk.out
      rw [popN_zero] at hk'
      obtain rfl : k = popN v := by omega
      clear hk hk'
      go_wp2
      go_ret
      exact ⟨rfl, rfl⟩
    · have hpos : (0 : Int) < (j : Int) := by omega
      have H := Lib.hid (and1_i64 j (by omega))
      have hkl : (k : Int) ≤ 32 := by have := hk.out; omega
      clear h0
      go_wp2
      go_round
      case rel =>
        refine ⟨j / 2, k + j % 2, ?_, rfl, Lib.hid ?_, by omega⟩
        · rw [H.out, IntWalk.wrap64_in _ ⟨by omega, by omega⟩, Int.natCast_add]
        · have := hk.out; rw [popN_half j] at this; omega
      case measure => simp [intOf]; omega

end Go.Proofs.Ytlmhdocfdpbhmaa

namespace Go.Proofs.Ytlmhdocfdpbhmaa
open Go.RowKit Plain
set_option linter.unusedVariables false
attribute [local go_sem ↓] Go.wp_at_zero Go.wp_at_succ

/-- What CountOnes answers. -/
def Plain.cntT (n a : Int) : Int := if isT n a = true then (popN a.toNat : Int) else -1
theorem cntT_yes (n a : Nat) (hn : n ≤ 5) (ha : a ≤ fullN n) : cntT n a = (popN a : Int) := by unfold cntT; rw [if_pos (isT_yes hn ha)]; rfl
theorem cntT_no {n a : Int} (h : isT n a = false) : cntT n a = -1 := by unfold cntT; rw [if_neg (by rw [h]; decide)]

/-! ### NotTable -/
theorem andnot_full (n x : Nat) (hn : n ≤ 5) (hx : x ≤ fullN n) : Go.bits .andNot .u64 (fullN n : Int) (x : Int) = ((fullN n - x : Nat) : Int) := by
  have hf := fullN_le n hn
  have hm : fullN n &&& (18446744073709551615 - x) = fullN n - x := by
    rw [Nat.and_comm]
    rcases cases5 n hn with rfl | rfl | rfl | rfl | rfl | rfl
    · rw [fullN_0] at hx ⊢; rw [show (1 : Nat) = 2 ^ 1 - 1 by decide, Nat.and_two_pow_sub_one_eq_mod]; omega
    · rw [fullN_1] at hx ⊢; rw [show (3 : Nat) = 2 ^ 2 - 1 by decide, Nat.and_two_pow_sub_one_eq_mod]; omega
    · rw [fullN_2] at hx ⊢; rw [show (15 : Nat) = 2 ^ 4 - 1 by decide, Nat.and_two_pow_sub_one_eq_mod]; omega
    · rw [fullN_3] at hx ⊢; rw [show (255 : Nat) = 2 ^ 8 - 1 by decide, Nat.and_two_pow_sub_one_eq_mod]; omega
    · rw [fullN_4] at hx ⊢; rw [show (65535 : Nat) = 2 ^ 16 - 1 by decide, Nat.and_two_pow_sub_one_eq_mod]; omega
    · rw [fullN_5] at hx ⊢; rw [show (4294967295 : Nat) = 2 ^ 32 - 1 by decide, Nat.and_two_pow_sub_one_eq_mod]; omega
  show IntKind.u64.wrap ((BitVec.ofInt 64 (fullN n : Int) &&& ~~~ BitVec.ofInt 64 (x : Int)).toNat : Int) = _
  rw [BitVec.toNat_and, BitVec.toNat_not, upU64 _ (by omega), upU64 _ (by omega), IntKind.wrap_u64]
  rw [show 2 ^ 64 - 1 - x = 18446744073709551615 - x by omega, hm]
  omega

/-- word.table makes one box. -/
theorem Tab.tableX (n a : Nat) (ha : (a : Int) ≤ 9223372036854775807) (w : World) :
    Calls Try.prog 93 #[.int .u64 a, .int .i64 n] w fun e w' => e = .returned (.agg #[.int .i64 n, .int .i64 a]) ∧ w.alloc (.cells #[.int .i64 n, .int .i64 a] 27) = w' := by
  go_enter Try.func93, Try.ntmps93
  go_wp2
  exact bodyPost_ret (v := .agg #[.int .i64 n, .int .i64 a]) (by simp [results, Try.results93, go_sem]) rfl ⟨rfl, rfl⟩

theorem Tab.notI_yes (n a : Nat) (hn : n ≤ 5) (ha : a ≤ fullN n) (w : World) :
    Calls Try.prog 89 #[.agg #[.int .i64 n, .int .i64 a]] w fun e w' => e = .returned (.tuple #[.agg #[.int .i64 n, .int .i64 ((fullN n - a : Nat) : Int)], .bool true]) ∧ Below w.heap.size w w' := by
  have ht := Lib.hid (isT_yes hn ha)
  have hf := fullN_le n hn
  have hl : (a : Int) ≤ 4294967295 := by omega
  have HA := Lib.hid (andnot_full n a hn ha)
  have HW : Hid (IntKind.u64.wrap (a : Int) = (a : Int)) := Lib.hid (by rw [IntKind.wrap_u64]; omega)
  have hdl : ((fullN n - a : Nat) : Int) ≤ 4294967295 := by omega
  clear ha
  go_enter Try.func89, Try.ntmps89
  go_wp2_with fail
  refine (Tab.impl _ _ (by omega) _).mono ?_
  rintro e w1 ⟨rfl, hb1⟩
  obtain ⟨hc1, hf1⟩ := bcell hb1
  have hz : w.heap.size + 1 < w1.heap.size := by have := hb1.size; simp at this; omega
  have k0 : w1.cell? ⟨w.heap.size, 0, none⟩ = some (.int .i64 n) := (hb1.cell (by simp; omega)).trans (keepA (keepN rfl rfl))
  have k1 : w1.cell? ⟨w.heap.size, 1, none⟩ = some (.int .i64 a) := (hb1.cell (by simp; omega)).trans (keepA (keepN rfl rfl))
  rw [ht.out]
  go_wp2_with fail
  go_region_held3 (fun w' => w'.cell? ⟨w.heap.size, 0, none⟩ = some (.int .i64 n) ∧ w'.cell? ⟨w.heap.size, 1, none⟩ = some (.int .i64 a)) (go_keep)
    (first
      | (go_at_call 99; refine (Tab.full n hn _).mono ?_; rintro e w' ⟨rfl, rfl⟩)
      | (go_at_call 93; rw [HW.out, HA.out]; refine (Tab.tableX n _ (by omega) _).mono ?_; rintro e w' ⟨rfl, rfl⟩))
  all_goals
    go_wp2
    have z0 : w1.cell? ⟨w.heap.size + 1, 0, none⟩ = some (.int .i64 0) := (hb1.cell (by simp)).trans (keepN (by simp) rfl)
    have z1 : w1.cell? ⟨w.heap.size + 1, 1, none⟩ = some (.int .i64 0) := (hb1.cell (by simp)).trans (keepN (by simp) rfl)
    have r := keepT (u := .int .i64 n) (v := .int .i64 ((fullN n - a : Nat) : Int)) z0 z1
    have r0 := keepA (o := .cells #[.int .i64 n, .int .i64 ((fullN n - a : Nat) : Int)] 27) r.1
    have r1 := keepA (o := .cells #[.int .i64 n, .int .i64 ((fullN n - a : Nat) : Int)] 27) r.2
    exact bodyPost_ret (v := .tuple #[.agg #[.int .i64 n, .int .i64 ((fullN n - a : Nat) : Int)], .bool true]) (by simp [results, Try.results89, go_sem, r0, r1]) rfl ⟨rfl, by exact (((((((Below.refl _ _).alloc (Nat.le_refl _) _).alloc (by simp) _).trans (hb1.mono (by simp; omega))).setCell (by simp) _).setCell (by simp) _).alloc (by simp; omega) _).drew⟩

theorem Tab.notI_no (n a : Int) (hb : -9223372036854775808 ≤ a ∧ a ≤ 9223372036854775807) (ht : isT n a = false) (w : World) :
    Calls Try.prog 89 #[.agg #[.int .i64 n, .int .i64 a]] w fun e w' => e = .returned (.tuple #[.agg #[.int .i64 0, .int .i64 0], .bool false]) ∧ Below w.heap.size w w' := by
  have H := Lib.hid ht
  have HB := Lib.hid hb
  clear ht hb
  go_enter Try.func89, Try.ntmps89
  go_wp2_with fail
  refine (Tab.impl _ _ HB.out _).mono ?_
  rintro e w1 ⟨rfl, hb1⟩
  obtain ⟨hc1, hf1⟩ := bcell hb1
  have hz : w.heap.size + 1 < w1.heap.size := by have := hb1.size; simp at this; omega
  rw [H.out]
  go_wp2
  exact bodyPost_ret (v := .tuple #[.agg #[.int .i64 0, .int .i64 0], .bool false]) (by simp [results, Try.results89, go_sem, hc1]) rfl ⟨rfl, by exact (((((Below.refl _ _).alloc (Nat.le_refl _) _).alloc (by simp) _).trans (hb1.mono (by simp; omega))).setCell (by simp) _).setCell (by simp) _⟩

/-- What NotTable answers: a number of variables, a word, and whether there is a table. -/
def Plain.notT (n a : Int) : Int × Int × Bool := if isT n a = true then (n, ((fullN n.toNat - a.toNat : Nat) : Int), true) else (0, 0, false)
theorem notT_yes (n a : Nat) (hn : n ≤ 5) (ha : a ≤ fullN n) : notT n a = ((n : Int), ((fullN n - a : Nat) : Int), true) := by unfold notT; rw [if_pos (isT_yes hn ha)]; rfl
theorem notT_no {n a : Int} (h : isT n a = false) : notT n a = (0, 0, false) := by unfold notT; rw [if_neg (by rw [h]; decide)]

theorem Tab.notI (n a : Int) (hb : -9223372036854775808 ≤ a ∧ a ≤ 9223372036854775807) (w : World) :
    Calls Try.prog 89 #[.agg #[.int .i64 n, .int .i64 a]] w fun e w' => e = .returned (.tuple #[.agg #[.int .i64 (notT n a).1, .int .i64 (notT n a).2.1], .bool (notT n a).2.2]) ∧ Below w.heap.size w w' := by
  by_cases ht : isT n a = true
  · obtain ⟨m, b, rfl, rfl, hm, hb⟩ := isT_nat ht
    rw [notT_yes m b hm hb]
    exact Tab.notI_yes m b hm hb w
  · rw [notT_no (by simpa using ht)]
    exact Tab.notI_no n a hb (by simpa using ht) w

end Go.Proofs.Ytlmhdocfdpbhmaa
