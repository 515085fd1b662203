/-
  Chapter 14, the program: TestRejects, IsJunta.
-/
import Derived.Test.YtbkkohkigpkddaaLinJ
namespace Go.Proofs.Ytbkkohkigpkddaa
open Go.RowKit Plain Go.Shelf
set_option linter.unusedVariables false
set_option linter.unusedSimpArgs false
attribute [local go_sem ↓] Go.wp_at_zero Go.wp_at_succ

theorem rej_xor (a x y : Nat) : bitN a x ^^^ bitN a y ^^^ bitN a (x ^^^ y) = rejB a x y := by
  rw [xor_bits (bitN_lt a x) (bitN_lt a y), xor_bits (Nat.mod_lt _ (by decide)) (bitN_lt a _)]
  unfold Plain.rejB
  omega

set_option maxRecDepth 100000 in
theorem Rej.impl_no (n a : Int) (hb : -9223372036854775808 ≤ a ∧ a ≤ 9223372036854775807) (ht : isT n a = false) (w : World) :
    Calls Try.prog 18 #[.agg #[.int .i64 n, .int .i64 a]] w fun e w' => e = .returned (.int .i64 (-1)) ∧ Below w.heap.size w w' := by
  have H := Lib.hid ht
  have HB := Lib.hid hb
  clear ht hb
  go_enter Try.func18, Try.ntmps18
  go_wp2_with fail
  refine (Tab.impl _ _ HB.out _).mono ?_
  rintro e w1 ⟨rfl, hb1⟩
  rw [H.out]
  go_wp2
  go_ret
  exact ⟨rfl, ((Below.refl _ _).alloc (Nat.le_refl _) _).trans (hb1.mono (by simp))⟩

set_option maxRecDepth 100000 in
set_option maxHeartbeats 4000000 in
theorem Rej.impl_yes (n a : Nat) (hn : n ≤ 5) (ht : isT n a = true) (ha : (a : Int) ≤ 4294967295) (w : World) :
    Calls Try.prog 18 #[.agg #[.int .i64 n, .int .i64 a]] w fun e w' => e = .returned (.int .i64 (rejN a (2 ^ n) (2 ^ n) : Int)) ∧ Below w.heap.size w w' := by
  have H := Lib.hid ht
  have h32 := two_pow_le n hn
  have HC := Lib.hid (Tab.count n hn)
  have HA := Lib.hid (fun (x : Nat) (hx : x ≤ 63) => Tab.at a x (by omega) hx)
  have hwa : IntKind.u64.wrap (a : Int) = a := by rw [IntKind.wrap_u64]; omega
  have HT := Lib.hid (Tab.impl n a (by omega))
  clear ht hn
  generalize hMM : 2 ^ n = M at *
  go_enter Try.func18, Try.ntmps18
  go_wp2_with fail
  refine (HT.out _).mono ?_
  rintro e w1 ⟨rfl, hb1⟩
  rw [H.out]
  have c0 : w1.cell? ⟨w.heap.size, 0, none⟩ = some (.int .i64 n) := (hb1.cell (by simp)).trans (keepN rfl rfl)
  have c1 : w1.cell? ⟨w.heap.size, 1, none⟩ = some (.int .i64 a) := (hb1.cell (by simp)).trans (keepN rfl rfl)
  have HB := Lib.hid (((Below.refl w.heap.size w).alloc (Nat.le_refl _) _).trans (hb1.mono (by simp)))
  clear hb1
  go_wp2_with fail
  refine (HC.out _).mono ?_
  rintro e w2 ⟨rfl, rfl⟩
  go_wp2_with fail
  go_loop [4, 16] (fun s x => ∃ k : Nat, x = .int .i64 (k : Int) ∧ k ≤ M ∧ s = .int .i64 (rejN a M k : Int)) (fun _ x => M - (intOf x).toNat)
  case atStart => exact ⟨0, rfl, by omega, rfl⟩
  case round =>
    obtain ⟨k, rfl, hk, rfl⟩ := hrel
    by_cases hlt : k < M
    · have hlz : (k : Int) < (M : Int) := by omega
      have hNk : rejN a M k ≤ 1024 := Nat.le_trans (rejN_le a M k) (Nat.le_trans (Nat.mul_le_mul (show M ≤ 32 by omega) (show k ≤ 32 by omega)) (by decide))
      have HSUC : Hid (rejN a M (k + 1) = rejN a M k + rejR a k M) := Lib.hid rfl
      generalize hR1 : rejN a M (k + 1) = R1 at *
      generalize rejN a M k = R at *
      go_wp2_with fail
      refine (HC.out _).mono ?_
      rintro e w2 ⟨rfl, rfl⟩
      go_wp2_with fail
      go_loop [4, 22] (fun s y => ∃ j : Nat, y = .int .i64 (j : Int) ∧ j ≤ M ∧ s = .int .i64 ((R + rejR a k j : Nat) : Int)) (fun _ y => M - (intOf y).toNat)
      case atStart => exact ⟨0, rfl, by omega, by simp [Plain.rejR, Plain.sumN]⟩
      case round =>
        obtain ⟨j, rfl, hj, rfl⟩ := hrel
        by_cases hjl : j < M
        · have hjz : (j : Int) < (M : Int) := by omega
          have hxor := xor64 k j (by omega) (by omega)
          have hxl : k ^^^ j < 2 ^ 5 := Nat.xor_lt_two_pow (by omega) (by omega)
          have HA1 := Lib.hid (HA.out k (by omega))
          have HA2 := Lib.hid (HA.out j (by omega))
          have HA3 := Lib.hid (HA.out (k ^^^ j) (by omega))
          have b1 := bitN_lt a k
          have b2 := bitN_lt a j
          have b3 := bitN_lt a (k ^^^ j)
          have hx1 := xor64 (bitN a k) (bitN a j) (by omega) (by omega)
          have hb12 : bitN a k ^^^ bitN a j < 2 := Nat.xor_lt_two_pow (n := 1) b1 b2
          have hx2 := xor64 (bitN a k ^^^ bitN a j) (bitN a (k ^^^ j)) (by omega) (by omega)
          rw [rej_xor] at hx2
          have hrl := rejB_lt a k j
          have hrr := rejR_le a k j
          have HV : Hid (rejR a k (j + 1) = rejR a k j + rejB a k j) := Lib.hid rfl
          generalize hV1 : rejR a k (j + 1) = V1 at *
          generalize rejR a k j = V at *
          generalize rejB a k j = z at *
          generalize bitN a k ^^^ bitN a j = p12 at *
          generalize bitN a (k ^^^ j) = p3 at *
          generalize bitN a k = p1 at *
          generalize bitN a j = p2 at *
          generalize k ^^^ j = kj at *
          go_wp2_with fail
          refine (HA1.out _).mono ?_
          rintro e w3 ⟨rfl, rfl⟩
          go_wp2_with fail
          refine (HA2.out _).mono ?_
          rintro e w3 ⟨rfl, rfl⟩
          go_wp2_with fail
          try rw [hxor]
          refine (HA3.out _).mono ?_
          rintro e w3 ⟨rfl, rfl⟩
          go_wp2_with fail
          exact ⟨⟨j + 1, by go_num, by omega, by rw [hV1, HV.out]; congr 1; omega⟩, by simp [intOf] <;> omega⟩
        · obtain rfl : j = M := by omega
          have hjz : ¬ (j : Int) < (j : Int) := by omega
          go_wp2
          exact ⟨⟨k + 1, by go_num, by omega, by rw [hR1, HSUC.out]⟩, by simp [intOf] <;> omega⟩
    · obtain rfl : k = M := by omega
      have hlz : ¬ (k : Int) < (k : Int) := by omega
      generalize hG : rejN a k k = G at *
      go_wp2
      go_ret
      exact ⟨by simp [hG], HB.out⟩

theorem Rej.impl (n a : Int) (hb : -9223372036854775808 ≤ a ∧ a ≤ 9223372036854775807) (w : World) :
    Calls Try.prog 18 #[.agg #[.int .i64 n, .int .i64 a]] w fun e w' => e = .returned (.int .i64 (rejT n a)) ∧ Below w.heap.size w w' := by
  cases ht : isT n a with
  | false => rw [rejT_no ht]; exact Rej.impl_no n a hb ht w
  | true =>
    obtain ⟨n, a, rfl, rfl, hn, ha⟩ := isT_nat ht
    rw [rejT_yes ht]
    exact Rej.impl_yes n a hn ht (by have := fullN_le n hn; omega) w

set_option maxRecDepth 100000 in
theorem Jun.impl (n a k : Int) (hb : -9223372036854775808 ≤ a ∧ a ≤ 9223372036854775807) (w : World) :
    Calls Try.prog 22 #[.agg #[.int .i64 n, .int .i64 a], .int .i64 k] w fun e w' => e = .returned (.bool (junT n a k)) ∧ Below w.heap.size w w' := by
  have HV := Lib.hid (Tab.vosI n a hb)
  have HT := Lib.hid (Tab.impl n a hb)
  clear hb
  cases ht : isT n a with
  | false =>
    rw [show junT n a k = false by unfold Plain.junT; rw [ht]; rfl]
    have H := Lib.hid ht
    clear ht
    go_enter Try.func22, Try.ntmps22
    go_wp2_with fail
    refine (HT.out _).mono ?_
    rintro e w1 ⟨rfl, hb1⟩
    rw [H.out]
    go_wp2
    go_ret
    exact ⟨rfl, ((Below.refl _ _).alloc (Nat.le_refl _) _).trans (hb1.mono (by simp))⟩
  | true =>
    have HJ : Hid (junT n a k = (decide (0 ≤ k) && decide (((varsT n a).length : Int) ≤ k))) := Lib.hid (by unfold Plain.junT; rw [ht]; rfl)
    rw [HJ.out]
    have H := Lib.hid ht
    clear ht HJ
    generalize varsT n a = l at *
    by_cases hk : 0 ≤ k
    · go_enter Try.func22, Try.ntmps22
      go_wp2_with fail
      refine (HT.out _).mono ?_
      rintro e w1 ⟨rfl, hb1⟩
      obtain ⟨hc1, hf1⟩ := bcell hb1
      have hz : w.heap.size < w1.heap.size := by have := hb1.size; simp at this; omega
      rw [H.out]
      go_wp2_with fail
      refine (HV.out _).mono ?_
      rintro e w2 ⟨v, rfl, hrow, hb2⟩
      obtain ⟨o, cap, rfl⟩ := row_len hrow
      clear hrow
      go_wp2
      go_ret
      exact ⟨by by_cases hlk : (l.length : Int) ≤ k <;> simp [hk, hlk], (((Below.refl _ _).alloc (Nat.le_refl _) _).trans (hb1.mono (by simp))).trans (hb2.mono (by omega))⟩
    · go_enter Try.func22, Try.ntmps22
      go_wp2_with fail
      refine (HT.out _).mono ?_
      rintro e w1 ⟨rfl, hb1⟩
      rw [H.out]
      go_wp2
      go_ret
      exact ⟨by simp; omega, ((Below.refl _ _).alloc (Nat.le_refl _) _).trans (hb1.mono (by simp))⟩

end Go.Proofs.Ytbkkohkigpkddaa
