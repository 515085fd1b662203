/-
  Chapter 11, the model: l11Anf, AnfOf, DegreeMod2, RealCoefficients, RealDegree.
  Chapter 11, the model: DegreeMod2, RealCoefficients, RealDegree.
-/
import Derived.Test.YtphjaggiddjhgaaDoorDegK

namespace Go.Proofs.YtphjaggiddjhgaaDoor
open Go.RowKit Plain
set_option linter.unusedVariables false

theorem part_beq (x m : Nat) : (((x &&& m : Nat) : Int) == (x : Int)) = decide (x &&& m = x) := by
  by_cases h : x &&& m = x
  · rw [h]; simp
  · rw [decide_eq_false h, beq_eq_false_iff_ne]; omega
set_option maxRecDepth 100000 in
set_option maxHeartbeats 1000000 in
theorem Anf.word (n a : Nat) (hn : n ≤ 5) (ha : (a : Int) ≤ 4294967295) (w : World) :
    Calls Tryd.prog 24 #[.agg #[.int .i64 n, .int .i64 a]] w fun e w' => e = .returned (.int .i64 (anW n a : Int)) ∧ Below w.heap.size w w' := by
  obtain ⟨hp1, hp2⟩ := two_pow_int n hn
  have hn5 : (n : Int) ≤ 5 := by omega
  have HN := Lib.hid hn
  clear hn
  go_enter Tryd.func24, Tryd.ntmps24
  go_wp2_with fail
  go_loop [3, 4] (fun r i => ∃ m : Nat, i = .int .i64 (m : Int) ∧ r = .int .i64 (tabN (anN a) m : Int) ∧ (m : Int) ≤ 2 ^ n) (fun _ i => 32 - (intOf i).toNat)
  case atStart => exact ⟨0, rfl, rfl, by omega⟩
  case round =>
    obtain ⟨m, rfl, rfl, hm⟩ := hrel
    have htb := tabN_bound (anN a) m (by omega)
    by_cases hlt : (m : Int) < 2 ^ n
    · have hm32 : (m : Int) ≤ 31 := by omega
      generalize hT : tabN (anN a) m = T at *
      have HT := Lib.hid hT
      clear hT
      go_wp2_with fail
      go_loop [5, 6] (fun c i => ∃ x : Nat, i = .int .i64 (x : Int) ∧ c = .int .i64 (cntA a m x : Int) ∧ (x : Int) ≤ (m : Int) + 1) (fun _ i => m + 1 - (intOf i).toNat)
      case atStart => exact ⟨0, rfl, rfl, by omega⟩
      case round =>
        obtain ⟨x, rfl, rfl, hx⟩ := hrel
        have hcl := cntA_le a m x
        by_cases hxl : (x : Int) ≤ (m : Int)
        · have hand := and64 x m (by omega) (by omega)
          have hbeq := part_beq x m
          have hbit := bit_i64 a x (by omega)
          have hb2 := bitN_lt a x
          by_cases hs : x &&& m = x
          · have HC := Lib.hid (cntA_yes (w := a) hs)
            rw [decide_eq_true hs] at hbeq
            generalize cntA a m x = c at *
            generalize bitN a x = b at *
            generalize x &&& m = y at *
            clear hs
            go_wp2_with fail
            go_round
            case rel => exact ⟨x + 1, by go_num, by rw [HC.out]; go_num, by omega⟩
            case measure => simp [intOf] <;> omega
          · have HC := Lib.hid (cntA_no (w := a) hs)
            rw [decide_eq_false hs] at hbeq
            generalize cntA a m x = c at *
            generalize x &&& m = y at *
            clear hs hbit
            go_wp2_with fail
            go_round
            case rel => exact ⟨x + 1, by go_num, by rw [HC.out], by omega⟩
            case measure => simp [intOf] <;> omega
        · obtain rfl : x = m + 1 := by omega
          have hcl2 : (cntA a m (m + 1) : Int) ≤ 32 := by omega
          have HV : Hid (anN a m = cntA a m (m + 1) % 2) := Lib.hid rfl
          generalize cntA a m (m + 1) = c at *
          rcases (show c % 2 = 0 ∨ c % 2 = 1 by omega) with h0 | h0
          · have hmod : (c : Int) % 2 = 0 := by omega
            have hor := or0_i64 T htb
            have HX : Hid (tabN (anN a) (m + 1) = T) := Lib.hid (by rw [tabN_no (by rw [HV.out, h0]; decide), HT.out])
            clear h0
            go_wp2_with fail
            go_round
            case rel => exact ⟨m + 1, by go_num, by rw [HX.out], by omega⟩
            case measure => simp [intOf] <;> omega
          · have hmod : (c : Int) % 2 = 1 := by omega
            have hor := orbit_i64 T m htb (by omega)
            have HX : Hid (tabN (anN a) (m + 1) = T ||| 2 ^ m) := Lib.hid (by rw [tabN_yes (by rw [HV.out, h0]), HT.out])
            clear h0
            go_wp2_with fail
            go_round
            case rel => exact ⟨m + 1, by go_num, by rw [HX.out], by omega⟩
            case measure => simp [intOf] <;> omega
    · have he : m = 2 ^ n := by rw [up2] at hm hlt; omega
      have HE : Hid (tabN (anN a) m = anW n a) := Lib.hid (by rw [he]; rfl)
      clear he
      go_wp2_with fail
      go_ret
      exact ⟨ret_int (by rw [HE.out]), (Below.refl _ _).alloc (Nat.le_refl _) _⟩

end Go.Proofs.YtphjaggiddjhgaaDoor

namespace Go.Proofs.YtphjaggiddjhgaaDoor
open Go.RowKit Plain
set_option linter.unusedVariables false

theorem sumF_bound (w m x : Nat) : -(x : Int) ≤ sumF (-1) (valZ w) m x ∧ sumF (-1) (valZ w) m x ≤ (x : Int) := by
  induction x with
  | zero => exact ⟨Int.le_refl _, Int.le_refl _⟩
  | succ x ih =>
    have hb := bitN_lt w x
    by_cases h : x &&& m = x
    · rw [sumF_yes h, show valZ w x = (bitN w x : Int) from rfl]
      unfold sgn
      split
      · rw [Int.neg_mul, Int.one_mul]; omega
      · rw [Int.one_mul]; omega
    · rw [sumF_no h]; omega
theorem sumF_neg {w m x : Nat} (h : x &&& m = x) (hp : popN (m ^^^ x) % 2 = 1) : sumF (-1) (valZ w) m (x + 1) = sumF (-1) (valZ w) m x - (bitN w x : Int) := by
  rw [sumF_yes h]; unfold sgn valZ; rw [if_pos hp]; omega
theorem sumF_pos {w m x : Nat} (h : x &&& m = x) (hp : popN (m ^^^ x) % 2 ≠ 1) : sumF (-1) (valZ w) m (x + 1) = sumF (-1) (valZ w) m x + (bitN w x : Int) := by
  rw [sumF_yes h]; unfold sgn valZ; rw [if_neg hp]; omega

theorem recT_ok (n a : Int) : (recT n a).length ≤ 32 ∧ ∀ y ∈ recT n a, -9223372036854775808 ≤ y ∧ y ≤ 9223372036854775807 := by
  cases h : isT n a with
  | false => rw [recT_no h]; exact ⟨by decide, fun y hy => absurd hy (by simp)⟩
  | true =>
    obtain ⟨n, a, rfl, rfl, hn, ha⟩ := isT_nat h
    rw [recT_yes h, reL_len]
    exact ⟨two_pow_le n hn, fun y hy => by have := reL_bound hn y hy; omega⟩

end Go.Proofs.YtphjaggiddjhgaaDoor
