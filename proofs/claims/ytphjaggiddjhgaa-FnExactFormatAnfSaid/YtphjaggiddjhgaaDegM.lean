/-
  Chapter 11, the model: l11Anf, AnfOf, DegreeMod2, RealCoefficients, RealDegree.
-/
import Derived.Test.YtphjaggiddjhgaaDegK
namespace Go.Proofs.Ytphjaggiddjhgaa
open Go.RowKit Plain
set_option linter.unusedVariables false

theorem part_beq (x m : Nat) : (((x &&& m : Nat) : Int) == (x : Int)) = decide (x &&& m = x) := by
  by_cases h : x &&& m = x
  · rw [h]; simp
  · rw [decide_eq_false h, beq_eq_false_iff_ne]; omega
theorem or0_i64 (a : Nat) (ha : (a : Int) ≤ 4294967295) : Go.bits .or .i64 (a : Int) 0 = (a : Int) := by
  have := or64 a 0 (by omega) (by decide)
  rwa [Nat.or_zero] at this

set_option maxRecDepth 100000 in
set_option maxHeartbeats 1000000 in
theorem Anf.word (n a : Nat) (hn : n ≤ 5) (ha : (a : Int) ≤ 4294967295) (w : World) :
    Calls Try.prog 24 #[.agg #[.int .i64 n, .int .i64 a]] w fun e w' => e = .returned (.int .i64 (anW n a : Int)) ∧ Below w.heap.size w w' := by
  obtain ⟨hp1, hp2⟩ := two_pow_int n hn
  have hn5 : (n : Int) ≤ 5 := by omega
  have HN := Lib.hid hn
  clear hn
  go_enter Try.func24, Try.ntmps24
  go_wp2_with fail
  go_loop [3, 4] (fun r i => ∃ m : Nat, i = .int .i64 (m : Int) ∧ r = .int .i64 (tabN (anN a) m : Int) ∧ (m : Int) ≤ 2 ^ n) (fun _ i => 32 - (intOf i).toNat)
  case atStart => exact ⟨0, rfl, rfl, by omega⟩
  case round =>
    obtain ⟨m, rfl, rfl, hm⟩ := hrel
    have htb := tabN_bound (anN a) m (by omega)
    by_cases hlt : (m : Int) < 2 ^ n
    · have hm32 : (m : Int) ≤ 31 := by omega
      generalize hT : tabN (anN a) m = T at *
      have HT := Lib.hid hT
      clear hT
      go_wp2_with fail
      go_loop [5, 6] (fun c i => ∃ x : Nat, i = .int .i64 (x : Int) ∧ c = .int .i64 (cntA a m x : Int) ∧ (x : Int) ≤ (m : Int) + 1) (fun _ i => m + 1 - (intOf i).toNat)
      case atStart => exact ⟨0, rfl, rfl, by omega⟩
      case round =>
        obtain ⟨x, rfl, rfl, hx⟩ := hrel
        have hcl := cntA_le a m x
        by_cases hxl : (x : Int) ≤ (m : Int)
        · have hand := and64 x m (by omega) (by omega)
          have hbeq := part_beq x m
          have hbit := bit_i64 a x (by omega)
          have hb2 := bitN_lt a x
          by_cases hs : x &&& m = x
          · have HC := Lib.hid (cntA_yes (w := a) hs)
            rw [decide_eq_true hs] at hbeq
            generalize cntA a m x = c at *
            generalize bitN a x = b at *
            generalize x &&& m = y at *
            clear hs
            go_wp2_with fail
            go_round
            case rel => exact ⟨x + 1, by go_num, by rw [HC.out]; go_num, by omega⟩
            case measure => simp [intOf] <;> omega
          · have HC := Lib.hid (cntA_no (w := a) hs)
            rw [decide_eq_false hs] at hbeq
            generalize cntA a m x = c at *
            generalize x &&& m = y at *
            clear hs hbit
            go_wp2_with fail
            go_round
            case rel => exact ⟨x + 1, by go_num, by rw [HC.out], by omega⟩
            case measure => simp [intOf] <;> omega
        · obtain rfl : x = m + 1 := by omega
          have hcl2 : (cntA a m (m + 1) : Int) ≤ 32 := by omega
          have HV : Hid (anN a m = cntA a m (m + 1) % 2) := Lib.hid rfl
          generalize cntA a m (m + 1) = c at *
          rcases (show c % 2 = 0 ∨ c % 2 = 1 by omega) with h0 | h0
          · have hmod : (c : Int) % 2 = 0 := by omega
            have hor := or0_i64 T htb
            have HX : Hid (tabN (anN a) (m + 1) = T) := Lib.hid (by rw [tabN_no (by rw [HV.out, h0]; decide), HT.out])
            clear h0
            go_wp2_with fail
            go_round
            case rel => exact ⟨m + 1, by go_num, by rw [HX.out], by omega⟩
            case measure => simp [intOf] <;> omega
          · have hmod : (c : Int) % 2 = 1 := by omega
            have hor := orbit_i64 T m htb (by omega)
            have HX : Hid (tabN (anN a) (m + 1) = T ||| 2 ^ m) := Lib.hid (by rw [tabN_yes (by rw [HV.out, h0]), HT.out])
            clear h0
            go_wp2_with fail
            go_round
            case rel => exact ⟨m + 1, by go_num, by rw [HX.out], by omega⟩
            case measure => simp [intOf] <;> omega
    · have he : m = 2 ^ n := by rw [up2] at hm hlt; omega
      have HE : Hid (tabN (anN a) m = anW n a) := Lib.hid (by rw [he]; rfl)
      clear he
      go_wp2_with fail
      go_ret
      exact ⟨ret_int (by rw [HE.out]), (Below.refl _ _).alloc (Nat.le_refl _) _⟩

theorem Anf.model_no (n a : Int) (ht : isT n a = false) (w : World) :
    Calls Try.prog 8 #[.agg #[.int .i64 n, .int .i64 a]] w fun e w' => e = .returned (.tuple #[.agg #[.int .i64 0, .int .i64 0], .bool false]) ∧ Below w.heap.size w w' := by
  have H := Lib.hid ht
  clear ht
  go_enter Try.func8, Try.ntmps8
  go_wp2_with fail
  refine (Tab.model _ _ _).mono ?_
  rintro e w1 ⟨rfl, hb1⟩
  rw [H.out]
  obtain ⟨hc1, hf1⟩ := bcell hb1
  have hz1 : w.heap.size + 1 < w1.heap.size := by have := hb1.size; simp at this; omega
  go_wp2_with fail
  exact bodyPost_ret (v := .tuple #[.agg #[.int .i64 0, .int .i64 0], .bool false]) (by simp [results, Try.results8, go_sem, hc1]) rfl ⟨rfl, bS (by simp) (bS (by simp) ((((Below.refl _ _).alloc (Nat.le_refl _) _).alloc (by simp) _).trans (hb1.mono (by simp; omega))))⟩

set_option maxRecDepth 100000 in
set_option maxHeartbeats 1000000 in
theorem Anf.model_yes (n a : Nat) (hn : n ≤ 5) (ha : (a : Int) ≤ 4294967295) (ht : isT n a = true) (w : World) :
    Calls Try.prog 8 #[.agg #[.int .i64 n, .int .i64 a]] w fun e w' => e = .returned (.tuple #[.agg #[.int .i64 n, .int .i64 (anW n a : Int)], .bool true]) ∧ Below w.heap.size w w' := by
  have H := Lib.hid ht
  have HW := Lib.hid (Anf.word n a hn ha)
  generalize anW n a = r at *
  clear ht
  go_enter Try.func8, Try.ntmps8
  go_wp2_with fail
  refine (Tab.model _ _ _).mono ?_
  rintro e w1 ⟨rfl, hb1⟩
  rw [H.out]
  have hz1 : w.heap.size + 1 < w1.heap.size := by have := hb1.size; simp at this; omega
  have k0 : w1.cell? ⟨w.heap.size, 0, none⟩ = some (.int .i64 n) := keepB hb1 (keepA (keepN rfl rfl))
  have k1 : w1.cell? ⟨w.heap.size, 1, none⟩ = some (.int .i64 a) := keepB hb1 (keepA (keepN rfl rfl))
  have X1 : w1.heap[w.heap.size + 1]? = some (.cells #[.int .i64 0, .int .i64 0] 24 (0, 0)) := blockC hb1 (by simpa using heap_alloc_new (w.alloc (.cells #[.int .i64 n, .int .i64 a] 24)) (.cells #[.int .i64 0, .int .i64 0] 24))
  have HX1 := Lib.hid X1
  have HB1 := Lib.hid ((((Below.refl w.heap.size w).alloc (Nat.le_refl _) (.cells #[.int .i64 n, .int .i64 a] 24)).alloc (by simp) (.cells #[.int .i64 0, .int .i64 0] 24)).trans (hb1.mono (by simp; omega)))
  clear hb1 X1
  go_wp2_with fail
  go_region_with ((go_at_call 24; refine (HW.out _).mono ?_; rintro e w5 ⟨rfl, hb5⟩; have X5 := blockC hb5 HX1.out; obtain ⟨q0, q1, g0, g1⟩ := cells2 X5; have p0 := keepB hb5 (keepD k0); have p1 := keepB hb5 (keepD k1); have HB5 := Lib.hid (bB hb5 (by simp; omega) (bD HB1.out)); clear hb5))
  all_goals
    have hz5 : w.heap.size + 1 < w5.heap.size := lt_of_block X5
    go_wp2_with fail
    exact bodyPost_ret (v := .tuple #[.agg #[.int .i64 n, .int .i64 r], .bool true]) (by simp [results, Try.results8, go_sem, q0, q1]) rfl ⟨rfl, by repeat (first | exact HB5.out | refine bS (by simp) ?_ | refine bD ?_)⟩

/-- AnfOf of the model. -/
theorem Anf.model (n a : Int) (w : World) :
    Calls Try.prog 8 #[.agg #[.int .i64 n, .int .i64 a]] w fun e w' => e = .returned (.tuple #[.agg #[.int .i64 (anfT n a).1, .int .i64 (anfT n a).2.1], .bool (anfT n a).2.2]) ∧ Below w.heap.size w w' := by
  cases ht : isT n a with
  | false => rw [anfT_no ht]; exact Anf.model_no n a ht w
  | true =>
    obtain ⟨n, a, rfl, rfl, hn, ha⟩ := isT_nat ht
    rw [anfT_yes ht]
    exact Anf.model_yes n a hn (by have := fullN_le n hn; omega) ht w

end Go.Proofs.Ytphjaggiddjhgaa
