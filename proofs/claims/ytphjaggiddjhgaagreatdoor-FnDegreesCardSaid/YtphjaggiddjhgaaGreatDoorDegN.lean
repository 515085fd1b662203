/-
  Chapter 11, the model: l11Anf, AnfOf, DegreeMod2, RealCoefficients, RealDegree.
  Chapter 11, the model: DegreeMod2, RealCoefficients, RealDegree.
-/
import Derived.Test.YtphjaggiddjhgaaGreatDoorDegK

namespace Go.Proofs.YtphjaggiddjhgaaGreatDoor
open Go.RowKit Plain
set_option linter.unusedVariables false

theorem part_beq (x m : Nat) : (((x &&& m : Nat) : Int) == (x : Int)) = decide (x &&& m = x) := by
  by_cases h : x &&& m = x
  · rw [h]; simp
  · rw [decide_eq_false h, beq_eq_false_iff_ne]; omega
set_option maxRecDepth 100000 in
set_option maxHeartbeats 1000000 in
theorem Anf.word (n a : Nat) (hn : n ≤ 5) (ha : (a : Int) ≤ 4294967295) (w : World) :
    Calls Tryz.prog 32 #[.agg #[.int .i64 n, .int .i64 a]] w fun e w' => e = .returned (.int .i64 (anW n a : Int)) ∧ Below w.heap.size w w' := by
  obtain ⟨hp1, hp2⟩ := two_pow_int n hn
  have hn5 : (n : Int) ≤ 5 := by omega
  have HN := Lib.hid hn
  clear hn
  go_enter Tryz.func32, Tryz.ntmps32
  go_wp2_with fail
  go_loop [3, 4] (fun r i => ∃ m : Nat, i = .int .i64 (m : Int) ∧ r = .int .i64 (tabN (anN a) m : Int) ∧ (m : Int) ≤ 2 ^ n) (fun _ i => 32 - (intOf i).toNat)
  case atStart => exact ⟨0, rfl, rfl, by omega⟩
  case round =>
    obtain ⟨m, rfl, rfl, hm⟩ := hrel
    have htb := tabN_bound (anN a) m (by omega)
    by_cases hlt : (m : Int) < 2 ^ n
    · have hm32 : (m : Int) ≤ 31 := by omega
      generalize hT : tabN (anN a) m = T at *
      have HT := Lib.hid hT
      clear hT
      go_wp2_with fail
      go_loop [5, 6] (fun c i => ∃ x : Nat, i = .int .i64 (x : Int) ∧ c = .int .i64 (cntA a m x : Int) ∧ (x : Int) ≤ (m : Int) + 1) (fun _ i => m + 1 - (intOf i).toNat)
      case atStart => exact ⟨0, rfl, rfl, by omega⟩
      case round =>
        obtain ⟨x, rfl, rfl, hx⟩ := hrel
        have hcl := cntA_le a m x
        by_cases hxl : (x : Int) ≤ (m : Int)
        · have hand := and64 x m (by omega) (by omega)
          have hbeq := part_beq x m
          have hbit := bit_i64 a x (by omega)
          have hb2 := bitN_lt a x
          by_cases hs : x &&& m = x
          · have HC := Lib.hid (cntA_yes (w := a) hs)
            rw [decide_eq_true hs] at hbeq
            generalize cntA a m x = c at *
            generalize bitN a x = b at *
            generalize x &&& m = y at *
            clear hs
            go_wp2_with fail
            go_round
            case rel => exact ⟨x + 1, by go_num, by rw [HC.out]; go_num, by omega⟩
            case measure => simp [intOf] <;> omega
          · have HC := Lib.hid (cntA_no (w := a) hs)
            rw [decide_eq_false hs] at hbeq
            generalize cntA a m x = c at *
            generalize x &&& m = y at *
            clear hs hbit
            go_wp2_with fail
            go_round
            case rel => exact ⟨x + 1, by go_num, by rw [HC.out], by omega⟩
            case measure => simp [intOf] <;> omega
        · obtain rfl : x = m + 1 := by omega
          have hcl2 : (cntA a m (m + 1) : Int) ≤ 32 := by omega
          have HV : Hid (anN a m = cntA a m (m + 1) % 2) := Lib.hid rfl
          generalize cntA a m (m + 1) = c at *
          rcases (show c % 2 = 0 ∨ c % 2 = 1 by omega) with h0 | h0
          · have hmod : (c : Int) % 2 = 0 := by omega
            have hor := or0_i64 T htb
            have HX : Hid (tabN (anN a) (m + 1) = T) := Lib.hid (by rw [tabN_no (by rw [HV.out, h0]; decide), HT.out])
            clear h0
            go_wp2_with fail
            go_round
            case rel => exact ⟨m + 1, by go_num, by rw [HX.out], by omega⟩
            case measure => simp [intOf] <;> omega
          · have hmod : (c : Int) % 2 = 1 := by omega
            have hor := orbit_i64 T m htb (by omega)
            have HX : Hid (tabN (anN a) (m + 1) = T ||| 2 ^ m) := Lib.hid (by rw [tabN_yes (by rw [HV.out, h0]), HT.out])
            clear h0
            go_wp2_with fail
            go_round
            case rel => exact ⟨m + 1, by go_num, by rw [HX.out], by omega⟩
            case measure => simp [intOf] <;> omega
    · have he : m = 2 ^ n := by rw [up2] at hm hlt; omega
      have HE : Hid (tabN (anN a) m = anW n a) := Lib.hid (by rw [he]; rfl)
      clear he
      go_wp2_with fail
      go_ret
      exact ⟨ret_int (by rw [HE.out]), (Below.refl _ _).alloc (Nat.le_refl _) _⟩

theorem Anf.model_no (n a : Int) (ht : isT n a = false) (w : World) :
    Calls Tryz.prog 7 #[.agg #[.int .i64 n, .int .i64 a]] w fun e w' => e = .returned (.tuple #[.agg #[.int .i64 0, .int .i64 0], .bool false]) ∧ Below w.heap.size w w' := by
  have H := Lib.hid ht
  clear ht
  go_enter Tryz.func7, Tryz.ntmps7
  go_wp2_with fail
  refine (Tab.model _ _ _).mono ?_
  rintro e w1 ⟨rfl, hb1⟩
  rw [H.out]
  obtain ⟨hc1, hf1⟩ := bcell hb1
  have hz1 : w.heap.size + 1 < w1.heap.size := by have := hb1.size; simp at this; omega
  go_wp2_with fail
  exact bodyPost_ret (v := .tuple #[.agg #[.int .i64 0, .int .i64 0], .bool false]) (by simp [results, Tryz.results7, go_sem, hc1]) rfl ⟨rfl, bS (by simp) (bS (by simp) ((((Below.refl _ _).alloc (Nat.le_refl _) _).alloc (by simp) _).trans (hb1.mono (by simp; omega))))⟩

set_option maxRecDepth 100000 in
set_option maxHeartbeats 1000000 in
theorem Anf.model_yes (n a : Nat) (hn : n ≤ 5) (ha : (a : Int) ≤ 4294967295) (ht : isT n a = true) (w : World) :
    Calls Tryz.prog 7 #[.agg #[.int .i64 n, .int .i64 a]] w fun e w' => e = .returned (.tuple #[.agg #[.int .i64 n, .int .i64 (anW n a : Int)], .bool true]) ∧ Below w.heap.size w w' := by
  have H := Lib.hid ht
  have HW := Lib.hid (Anf.word n a hn ha)
  generalize anW n a = r at *
  clear ht
  go_enter Tryz.func7, Tryz.ntmps7
  go_wp2_with fail
  refine (Tab.model _ _ _).mono ?_
  rintro e w1 ⟨rfl, hb1⟩
  rw [H.out]
  have hz1 : w.heap.size + 1 < w1.heap.size := by have := hb1.size; simp at this; omega
  have k0 : w1.cell? ⟨w.heap.size, 0, none⟩ = some (.int .i64 n) := keepB hb1 (keepA (keepN rfl rfl))
  have k1 : w1.cell? ⟨w.heap.size, 1, none⟩ = some (.int .i64 a) := keepB hb1 (keepA (keepN rfl rfl))
  have X1 : w1.heap[w.heap.size + 1]? = some (.cells #[.int .i64 0, .int .i64 0] 25 (0, 0)) := blockC hb1 (by simpa using heap_alloc_new (w.alloc (.cells #[.int .i64 n, .int .i64 a] 25)) (.cells #[.int .i64 0, .int .i64 0] 25))
  have HX1 := Lib.hid X1
  have HB1 := Lib.hid ((((Below.refl w.heap.size w).alloc (Nat.le_refl _) (.cells #[.int .i64 n, .int .i64 a] 25)).alloc (by simp) (.cells #[.int .i64 0, .int .i64 0] 25)).trans (hb1.mono (by simp; omega)))
  clear hb1 X1
  go_wp2_with fail
  go_region_with ((go_at_call 32; refine (HW.out _).mono ?_; rintro e w5 ⟨rfl, hb5⟩; have X5 := blockC hb5 HX1.out; obtain ⟨q0, q1, g0, g1⟩ := cells2 X5; have p0 := keepB hb5 (keepD k0); have p1 := keepB hb5 (keepD k1); have HB5 := Lib.hid (bB hb5 (by simp; omega) (bD HB1.out)); clear hb5))
  all_goals
    have hz5 : w.heap.size + 1 < w5.heap.size := lt_of_block X5
    go_wp2_with fail
    exact bodyPost_ret (v := .tuple #[.agg #[.int .i64 n, .int .i64 r], .bool true]) (by simp [results, Tryz.results7, go_sem, q0, q1]) rfl ⟨rfl, by repeat (first | exact HB5.out | refine bS (by simp) ?_ | refine bD ?_)⟩

/-- AnfOf of the model. -/
theorem Anf.model (n a : Int) (w : World) :
    Calls Tryz.prog 7 #[.agg #[.int .i64 n, .int .i64 a]] w fun e w' => e = .returned (.tuple #[.agg #[.int .i64 (anfT n a).1, .int .i64 (anfT n a).2.1], .bool (anfT n a).2.2]) ∧ Below w.heap.size w w' := by
  cases ht : isT n a with
  | false => rw [anfT_no ht]; exact Anf.model_no n a ht w
  | true =>
    obtain ⟨n, a, rfl, rfl, hn, ha⟩ := isT_nat ht
    rw [anfT_yes ht]
    exact Anf.model_yes n a hn (by have := fullN_le n hn; omega) ht w

end Go.Proofs.YtphjaggiddjhgaaGreatDoor

namespace Go.Proofs.YtphjaggiddjhgaaGreatDoor
open Go.RowKit Plain
set_option linter.unusedVariables false

theorem Dm.model_no (n a : Int) (ht : isT n a = false) (w : World) :
    Calls Tryz.prog 12 #[.agg #[.int .i64 n, .int .i64 a]] w fun e w' => e = .returned (.int .i64 (dmT n a)) ∧ Below w.heap.size w w' := by
  rw [dmT_no ht]
  have H := Lib.hid ht
  clear ht
  go_enter Tryz.func12, Tryz.ntmps12
  go_wp2_with fail
  refine (Tab.model _ _ _).mono ?_
  rintro e w1 ⟨rfl, hb1⟩
  rw [H.out]
  obtain ⟨hc1, hf1⟩ := bcell hb1
  go_wp2_with fail
  go_ret
  exact ⟨rfl, ((Below.refl _ _).alloc (Nat.le_refl _) _).trans (hb1.mono (by simp))⟩

set_option maxRecDepth 100000 in
set_option maxHeartbeats 1000000 in
theorem Dm.model_yes (n a : Nat) (hn : n ≤ 5) (ha : (a : Int) ≤ 4294967295) (ht : isT n a = true) (w : World) :
    Calls Tryz.prog 12 #[.agg #[.int .i64 n, .int .i64 a]] w fun e w' => e = .returned (.int .i64 (dmT n a)) ∧ Below w.heap.size w w' := by
  rw [dmT_yes ht]
  have H := Lib.hid ht
  have HW := Lib.hid (Anf.word n a hn ha)
  have HBT : Hid (∀ m, m < 2 ^ n → bitN (anW n a) m = anN a m) := Lib.hid (fun m hm => anW_bit hm)
  have hr : (anW n a : Int) ≤ 4294967295 := by have := anW_le n a; have := fullN_le n hn; omega
  obtain ⟨hp1, hp2⟩ := two_pow_int n hn
  have hn5 : (n : Int) ≤ 5 := by omega
  generalize anW n a = r at *
  clear ht hn
  go_enter Tryz.func12, Tryz.ntmps12
  go_wp2_with fail
  refine (Tab.model _ _ _).mono ?_
  rintro e w1 ⟨rfl, hb1⟩
  rw [H.out]
  have k0 : w1.cell? ⟨w.heap.size, 0, none⟩ = some (.int .i64 n) := keepB hb1 (keepN rfl rfl)
  have k1 : w1.cell? ⟨w.heap.size, 1, none⟩ = some (.int .i64 a) := keepB hb1 (keepN rfl rfl)
  have HB1 := Lib.hid (((Below.refl w.heap.size w).alloc (Nat.le_refl _) (.cells #[.int .i64 n, .int .i64 a] 25)).trans (hb1.mono (by simp)))
  clear hb1
  go_wp2_with fail
  refine (HW.out _).mono ?_
  rintro e w2 ⟨rfl, hb2⟩
  have m0 := keepB hb2 k0
  have HB2 := Lib.hid (bB hb2 HB1.out.size HB1.out)
  clear hb2 k0 k1
  go_wp2_with fail
  go_loop [4, 5] (fun d i => ∃ k : Nat, i = .int .i64 (k : Int) ∧ d = .int .i64 (degN (anP a) k) ∧ (k : Int) ≤ 2 ^ n) (fun _ i => 32 - (intOf i).toNat)
  case atStart => exact ⟨0, rfl, rfl, by omega⟩
  case round =>
    obtain ⟨k, rfl, rfl, hk⟩ := hrel
    have hd := degN_bound (anP a) k (by omega)
    by_cases hlt : (k : Int) < 2 ^ n
    · have h5 := popN_le 5 k (by omega)
      have HS := Lib.hid (Tab.onesM k (by omega))
      have hbit := bit_i64 r k (by omega)
      rw [HBT.out k (by rw [up2] at hlt; omega)] at hbit
      have hb2 := anN_lt a k
      have HP : Hid (anP a k = decide (anN a k = 1)) := Lib.hid rfl
      rcases (show anN a k = 0 ∨ anN a k = 1 by omega) with h0 | h0
      · have HD : Hid (degN (anP a) (k + 1) = degN (anP a) k) := Lib.hid (degN_no (by rw [HP.out, h0]; rfl))
        rw [h0] at hbit
        generalize degN (anP a) k = d at *
        clear h0 hb2
        go_wp2_with fail
        go_round
        case rel => exact ⟨k + 1, by go_num, by rw [HD.out], by omega⟩
        case measure => simp [intOf] <;> omega
      · have HD : Hid (degN (anP a) (k + 1) = max (degN (anP a) k) (popN k : Int)) := Lib.hid (degN_yes (by rw [HP.out, h0]; rfl))
        rw [h0] at hbit
        generalize degN (anP a) k = d at *
        generalize popN k = q at *
        clear h0 hb2
        go_wp2_with fail
        refine (HS.out _).mono ?_
        rintro e w3 ⟨rfl, rfl⟩
        go_wp2_with fail
        all_goals
          go_round
          case rel => exact ⟨k + 1, by go_num, by (rw [HD.out]; congr 1; (first | rfl | (split <;> omega) | omega)), by omega⟩
          case measure => simp [intOf] <;> omega
    · have he : k = 2 ^ n := by rw [up2] at hk hlt; omega
      have HE : Hid (degN (anP a) k = degN (anP a) (2 ^ n)) := Lib.hid (by rw [he])
      clear he
      go_wp2_with fail
      go_ret
      exact ⟨ret_int HE.out, HB2.out⟩

/-- DegreeMod2 of the model. -/
theorem Dm.model (n a : Int) (w : World) :
    Calls Tryz.prog 12 #[.agg #[.int .i64 n, .int .i64 a]] w fun e w' => e = .returned (.int .i64 (dmT n a)) ∧ Below w.heap.size w w' := by
  cases ht : isT n a with
  | false => exact Dm.model_no n a ht w
  | true =>
    obtain ⟨n, a, rfl, rfl, hn, ha⟩ := isT_nat ht
    exact Dm.model_yes n a hn (by have := fullN_le n hn; omega) ht w

theorem sumF_bound (w m x : Nat) : -(x : Int) ≤ sumF (-1) (valZ w) m x ∧ sumF (-1) (valZ w) m x ≤ (x : Int) := by
  induction x with
  | zero => exact ⟨Int.le_refl _, Int.le_refl _⟩
  | succ x ih =>
    have hb := bitN_lt w x
    by_cases h : x &&& m = x
    · rw [sumF_yes h, show valZ w x = (bitN w x : Int) from rfl]
      unfold sgn
      split
      · rw [Int.neg_mul, Int.one_mul]; omega
      · rw [Int.one_mul]; omega
    · rw [sumF_no h]; omega
theorem sumF_neg {w m x : Nat} (h : x &&& m = x) (hp : popN (m ^^^ x) % 2 = 1) : sumF (-1) (valZ w) m (x + 1) = sumF (-1) (valZ w) m x - (bitN w x : Int) := by
  rw [sumF_yes h]; unfold sgn valZ; rw [if_pos hp]; omega
theorem sumF_pos {w m x : Nat} (h : x &&& m = x) (hp : popN (m ^^^ x) % 2 ≠ 1) : sumF (-1) (valZ w) m (x + 1) = sumF (-1) (valZ w) m x + (bitN w x : Int) := by
  rw [sumF_yes h]; unfold sgn valZ; rw [if_neg hp]; omega

theorem recT_ok (n a : Int) : (recT n a).length ≤ 32 ∧ ∀ y ∈ recT n a, -9223372036854775808 ≤ y ∧ y ≤ 9223372036854775807 := by
  cases h : isT n a with
  | false => rw [recT_no h]; exact ⟨by decide, fun y hy => absurd hy (by simp)⟩
  | true =>
    obtain ⟨n, a, rfl, rfl, hn, ha⟩ := isT_nat h
    rw [recT_yes h, reL_len]
    exact ⟨two_pow_le n hn, fun y hy => by have := reL_bound hn y hy; omega⟩

theorem Rec.model_no (n a : Int) (ht : isT n a = false) (w : World) :
    Calls Tryz.prog 10 #[.agg #[.int .i64 n, .int .i64 a]] w (RowOut (recT n a) w) := by
  rw [recT_no ht]
  unfold RowOut
  have H := Lib.hid ht
  have HE := Lib.hid ((rowLit (w.alloc (.cells #[.int .i64 n, .int .i64 a] 25)) w.heap.size _ [] rfl (by simp) (by simp)).1)
  clear ht
  go_enter Tryz.func10, Tryz.ntmps10
  go_wp2_with fail
  refine wp_loop_rounds 1 ?_
  rw [rounds_succ]
  go_wp2_with fail
  refine (Tab.model _ _ _).mono ?_
  rintro e w1 ⟨rfl, hb1⟩
  rw [H.out]
  go_wp2_with fail
  go_ret
  exact ⟨_, rfl, by have := HE.out.below (by simpa using hb1); simpa using this, (((Below.refl _ _).alloc (Nat.le_refl _) _).alloc (by simp) _).trans (hb1.mono (by simp; omega))⟩

set_option maxRecDepth 100000 in
set_option maxHeartbeats 2000000 in
theorem Rec.model_yes (n a : Nat) (hn : n ≤ 5) (ha : (a : Int) ≤ 4294967295) (ht : isT n a = true) (w : World) :
    Calls Tryz.prog 10 #[.agg #[.int .i64 n, .int .i64 a]] w (RowOut (recT n a) w) := by
  rw [recT_yes ht]
  unfold RowOut
  have H := Lib.hid ht
  obtain ⟨hp1, hp2⟩ := two_pow_int n hn
  have hn5 : (n : Int) ≤ 5 := by omega
  obtain ⟨W1, hW1⟩ : ∃ W1, w.alloc (.cells #[.int .i64 n, .int .i64 a] 25) = W1 := ⟨_, rfl⟩
  have hz : W1.heap.size = w.heap.size + 1 := by rw [← hW1]; simp
  have k0 : W1.cell? ⟨w.heap.size, 0, none⟩ = some (.int .i64 n) := by rw [← hW1]; exact keepN rfl rfl
  have k1 : W1.cell? ⟨w.heap.size, 1, none⟩ = some (.int .i64 a) := by rw [← hW1]; exact keepN rfl rfl
  have HE := Lib.hid ((rowLit W1 (w.heap.size + 1) (w.heap.size + 1) [] hz.symm (Nat.le_refl _) (by simp)).1)
  have HB0 := Lib.hid ((Below.refl (w.heap.size + 1) W1).alloc (by omega) (.cells #[] 3))
  have HBW : Hid (Below w.heap.size w W1) := Lib.hid (by rw [← hW1]; exact (Below.refl _ _).alloc (Nat.le_refl _) _)
  have HK : Hid (∀ X, Below (w.heap.size + 1) W1 X → X.cell? ⟨w.heap.size, 0, none⟩ = some (.int .i64 n) ∧ X.cell? ⟨w.heap.size, 1, none⟩ = some (.int .i64 a)) := Lib.hid (fun X hX =>
    ⟨(hX.cell (p := ⟨w.heap.size, 0, none⟩) (Nat.lt_succ_self _)).trans k0, (hX.cell (p := ⟨w.heap.size, 1, none⟩) (Nat.lt_succ_self _)).trans k1⟩)
  have HW1 := Lib.hid hW1
  have HZ := Lib.hid hz
  clear ht hn k0 k1 hz hW1
  go_enter Tryz.func10, Tryz.ntmps10
  go_wp2_with fail
  rw [HW1.out]
  go_loopw [3, 4] (fun v i wr => ∃ m : Nat, i = .int .i64 (m : Int) ∧ (m : Int) ≤ 2 ^ n ∧ IntRow wr (w.heap.size + 1) v (reL a m) ∧ Below (w.heap.size + 1) W1 wr ∧ w.heap.size + 1 ≤ wr.heap.size) (fun _ i _ => 32 - (intOf i).toNat)
  case atStart => exact ⟨0, rfl, by omega, HE.out, HB0.out, by have := HZ.out; simp; omega⟩
  case round =>
    obtain ⟨m, rfl, hm, hrow, hbel, hsz⟩ := hrel
    have HROW := Lib.hid hrow
    have HBEL := Lib.hid hbel
    have HSZ := Lib.hid hsz
    obtain ⟨d0, d1⟩ := HK.out _ HBEL.out
    clear hrow hbel hsz
    by_cases hlt : (m : Int) < 2 ^ n
    · have hmz : (m : Int) ≤ 31 := by omega
      go_wp2_with fail
      refine (Tab.model _ _ _).mono ?_
      rintro e w1 ⟨rfl, hb1⟩
      rw [H.out]
      have HR1 := Lib.hid (HROW.out.below hb1)
      have HB1 := Lib.hid (bB hb1 HSZ.out HBEL.out)
      have HS1 : Hid (w.heap.size + 1 ≤ w1.heap.size) := Lib.hid (Nat.le_trans HSZ.out hb1.size)
      obtain ⟨c0, c1⟩ := HK.out _ HB1.out
      clear hb1 d0 d1
      go_wp2_with fail
      go_loop [5, 6] (fun s i => ∃ x : Nat, i = .int .i64 (x : Int) ∧ s = .int .i64 (sumF (-1) (valZ a) m x) ∧ (x : Int) ≤ (m : Int) + 1) (fun _ i => m + 1 - (intOf i).toNat)
      case atStart => exact ⟨0, rfl, rfl, by omega⟩
      case round =>
        obtain ⟨x, rfl, rfl, hx⟩ := hrel
        have hsb := sumF_bound a m x
        by_cases hxl : (x : Int) ≤ (m : Int)
        · have hand := and64 x m (by omega) (by omega)
          have hbeq := part_beq x m
          by_cases hs : x &&& m = x
          · have hne : (((x &&& m : Nat) : Int) != (x : Int)) = false := by rw [hs]; simp
            have hbit := bit_i64 a x (by omega)
            have hb2 := bitN_lt a x
            have hxor := xor64 m x (by omega) (by omega)
            have hy32 : m ^^^ x < 32 := Nat.xor_lt_two_pow (n := 5) (by omega) (by omega)
            have HS := Lib.hid (Tab.onesM (m ^^^ x) (by omega))
            have hp5 := popN_le 5 (m ^^^ x) hy32
            rcases (show popN (m ^^^ x) % 2 = 1 ∨ popN (m ^^^ x) % 2 = 0 by omega) with h0 | h0
            · have HC := Lib.hid (sumF_neg (w := a) hs h0)
              have hmod : ((popN (m ^^^ x) : Nat) : Int) % 2 = 1 := by omega
              generalize sumF (-1) (valZ a) m x = c at *
              generalize bitN a x = b at *
              generalize popN (m ^^^ x) = q at *
              generalize m ^^^ x = y at *
              generalize x &&& m = z at *
              clear hs h0 hbeq
              go_wp2_with fail
              refine (HS.out _).mono ?_
              rintro e w3 ⟨rfl, rfl⟩
              go_wp2_with fail
              go_round
              case rel => exact ⟨x + 1, by go_num, by rw [HC.out], by omega⟩
              case measure => simp [intOf] <;> omega
            · have HC := Lib.hid (sumF_pos (w := a) hs (by omega))
              have hmod : ((popN (m ^^^ x) : Nat) : Int) % 2 = 0 := by omega
              generalize sumF (-1) (valZ a) m x = c at *
              generalize bitN a x = b at *
              generalize popN (m ^^^ x) = q at *
              generalize m ^^^ x = y at *
              generalize x &&& m = z at *
              clear hs h0 hbeq
              go_wp2_with fail
              refine (HS.out _).mono ?_
              rintro e w3 ⟨rfl, rfl⟩
              go_wp2_with fail
              go_round
              case rel => exact ⟨x + 1, by go_num, by rw [HC.out], by omega⟩
              case measure => simp [intOf] <;> omega
          · have HC := Lib.hid (sumF_no (f := -1) (g := valZ a) hs)
            have hne : (((x &&& m : Nat) : Int) != (x : Int)) = true := by rw [bne_iff_ne]; omega
            generalize sumF (-1) (valZ a) m x = c at *
            generalize x &&& m = z at *
            clear hs hbeq
            go_wp2_with fail
            go_round
            case rel => exact ⟨x + 1, by go_num, by rw [HC.out], by omega⟩
            case measure => simp [intOf] <;> omega
        · obtain rfl : x = m + 1 := by omega
          have HV : Hid (reL a (m + 1) = reL a m ++ [sumF (-1) (valZ a) m (m + 1)]) := Lib.hid (reL_succ a m)
          have HLL : Hid ((reL a m).length ≤ 10000000) := Lib.hid (by rw [reL_len]; omega)
          generalize sumF (-1) (valZ a) m (m + 1) = c at *
          go_wp2_with (at_builtin; go_must (refine wp_int rfl _ _ rfl (w.heap.size + 1) _ w1 _ _ c _ HR1.out HB1.out HS1.out HLL.out rfl rfl rfl ?_; intro v1 w4 k1 k2 k3))
          have hsz4 := k3.size
          go_roundw
          case rel => exact ⟨m + 1, by go_num, by omega, by rw [HV.out]; exact k1, k2, by have := HS1.out; omega⟩
          case measure => simp [intOf] <;> omega
    · have he : m = 2 ^ n := by rw [up2] at hm hlt; omega
      have HEQ : Hid (reL a m = reL a (2 ^ n)) := Lib.hid (by rw [he])
      clear he
      go_wp2_with fail
      refine (Tab.model _ _ _).mono ?_
      rintro e w1 ⟨rfl, hb1⟩
      rw [H.out]
      have HR1 := Lib.hid (HROW.out.below hb1)
      have HB1 := Lib.hid (bB hb1 HSZ.out HBEL.out)
      obtain ⟨c0, c1⟩ := HK.out _ HB1.out
      clear hb1 d0 d1
      go_wp2_with fail
      go_ret
      exact ⟨_, rfl, HEQ.out ▸ HR1.out.base (by omega), HBW.out.trans (HB1.out.mono (by omega))⟩

/-- RealCoefficients of the model. -/
theorem Rec.model (n a : Int) (w : World) :
    Calls Tryz.prog 10 #[.agg #[.int .i64 n, .int .i64 a]] w (RowOut (recT n a) w) := by
  cases ht : isT n a with
  | false => exact Rec.model_no n a ht w
  | true =>
    obtain ⟨n, a, rfl, rfl, hn, ha⟩ := isT_nat ht
    exact Rec.model_yes n a hn (by have := fullN_le n hn; omega) ht w

theorem Rd.model_no (n a : Int) (ht : isT n a = false) (w : World) :
    Calls Tryz.prog 14 #[.agg #[.int .i64 n, .int .i64 a]] w fun e w' => e = .returned (.int .i64 (rdT n a)) ∧ Below w.heap.size w w' := by
  rw [rdT_no ht]
  have H := Lib.hid ht
  clear ht
  go_enter Tryz.func14, Tryz.ntmps14
  go_wp2_with fail
  refine (Tab.model _ _ _).mono ?_
  rintro e w1 ⟨rfl, hb1⟩
  rw [H.out]
  obtain ⟨hc1, hf1⟩ := bcell hb1
  go_wp2_with fail
  go_ret
  exact ⟨rfl, ((Below.refl _ _).alloc (Nat.le_refl _) _).trans (hb1.mono (by simp))⟩

set_option maxRecDepth 100000 in
set_option maxHeartbeats 1000000 in
theorem Rd.model_yes (n a : Nat) (hn : n ≤ 5) (ha : (a : Int) ≤ 4294967295) (ht : isT n a = true) (w : World) :
    Calls Tryz.prog 14 #[.agg #[.int .i64 n, .int .i64 a]] w fun e w' => e = .returned (.int .i64 (rdT n a)) ∧ Below w.heap.size w w' := by
  rw [rdT_yes ht]
  have H := Lib.hid ht
  have HW := Lib.hid (Rec.model n a)
  have hN5 := two_pow_le n hn
  have hN1 : 1 ≤ 2 ^ n := Nat.one_le_two_pow
  have HRB : Hid (∀ k, k < 2 ^ n → -32 ≤ reZ a k ∧ reZ a k ≤ 32) := Lib.hid (fun k hk => reZ_bound hn hk)
  rw [recT_yes ht] at HW
  generalize hNe : 2 ^ n = N at *
  clear ht hn hNe
  go_enter Tryz.func14, Tryz.ntmps14
  go_wp2_with fail
  refine (Tab.model _ _ _).mono ?_
  rintro e w1 ⟨rfl, hb1⟩
  rw [H.out]
  have k0 : w1.cell? ⟨w.heap.size, 0, none⟩ = some (.int .i64 n) := keepB hb1 (keepN rfl rfl)
  have k1 : w1.cell? ⟨w.heap.size, 1, none⟩ = some (.int .i64 a) := keepB hb1 (keepN rfl rfl)
  have HB1 := Lib.hid (((Below.refl w.heap.size w).alloc (Nat.le_refl _) (.cells #[.int .i64 n, .int .i64 a] 25)).trans (hb1.mono (by simp)))
  clear hb1
  go_wp2_with fail
  refine (HW.out _).mono ?_
  rintro e w2 ⟨v, rfl, hrow, hb2⟩
  have HB2 := Lib.hid (bB hb2 HB1.out.size HB1.out)
  obtain ⟨gb, cap, rfl, hg1, hg2⟩ : ∃ g cap, v = .slice (some ⟨g, 0, none⟩) N cap ∧ w1.heap.size ≤ g ∧ g < w2.heap.size := by
    rcases hrow.shape with ⟨rfl, hnil⟩ | ⟨g, cap, rfl, h1, h2⟩
    · have := reL_len a N; rw [hnil] at this; simp at this; omega
    · exact ⟨g, cap, by rw [reL_len], h1, h2⟩
  have HCL : Hid (∀ x, x < N → w2.cell? ⟨gb, x, none⟩ = some (.int .i64 (reZ a x))) := Lib.hid (fun x hx => by
    have := IntRow.cell (w := w2) (B := w1.heap.size) (g := gb) (cap := cap) (l := reL a N) (by rw [reL_len]; exact hrow) x (by rw [reL_len]; exact hx)
    rwa [reL_at hx] at this)
  clear hb2 hrow k0 k1
  go_wp2_with fail
  go_loop [4, 5] (fun d i => ∃ k : Nat, i = .int .i64 (k : Int) ∧ d = .int .i64 (degN (reP a) k) ∧ k ≤ N) (fun _ i => N - (intOf i).toNat)
  case atStart => exact ⟨0, rfl, rfl, by omega⟩
  case round =>
    obtain ⟨k, rfl, rfl, hk⟩ := hrel
    have hd := degN_bound (reP a) k (by omega)
    by_cases hlt : k < N
    · have hkz : (k : Int) < (N : Int) := by omega
      have h5 := popN_le 5 k (by omega)
      have HS := Lib.hid (Tab.onesM k (by omega))
      have ck := HCL.out k hlt
      have HP : Hid (reP a k = decide (reZ a k ≠ 0)) := Lib.hid rfl
      by_cases h0 : reZ a k = 0
      · have HD : Hid (degN (reP a) (k + 1) = degN (reP a) k) := Lib.hid (degN_no (by rw [HP.out, h0]; rfl))
        rw [h0] at ck
        generalize degN (reP a) k = d at *
        clear h0
        go_wp2_with fail
        go_round
        case rel => exact ⟨k + 1, by go_num, by rw [HD.out], by omega⟩
        case measure => simp [intOf] <;> omega
      · have HD : Hid (degN (reP a) (k + 1) = max (degN (reP a) k) (popN k : Int)) := Lib.hid (degN_yes (by rw [HP.out]; exact decide_eq_true h0))
        have hne : (reZ a k != 0) = true := by rw [bne_iff_ne]; exact h0
        generalize degN (reP a) k = d at *
        generalize popN k = q at *
        generalize reZ a k = z at *
        clear h0
        go_wp2_with fail
        refine (HS.out _).mono ?_
        rintro e w3 ⟨rfl, rfl⟩
        go_wp2_with fail
        all_goals
          go_round
          case rel => exact ⟨k + 1, by go_num, by (rw [HD.out]; congr 1; (first | rfl | (split <;> omega) | omega)), by omega⟩
          case measure => simp [intOf] <;> omega
    · obtain rfl : k = N := by omega
      go_wp2_with fail
      go_ret
      exact ⟨rfl, HB2.out⟩

/-- RealDegree of the model. -/
theorem Rd.model (n a : Int) (w : World) :
    Calls Tryz.prog 14 #[.agg #[.int .i64 n, .int .i64 a]] w fun e w' => e = .returned (.int .i64 (rdT n a)) ∧ Below w.heap.size w w' := by
  cases ht : isT n a with
  | false => exact Rd.model_no n a ht w
  | true =>
    obtain ⟨n, a, rfl, rfl, hn, ha⟩ := isT_nat ht
    exact Rd.model_yes n a hn (by have := fullN_le n hn; omega) ht w

end Go.Proofs.YtphjaggiddjhgaaGreatDoor
