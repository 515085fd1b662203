/-
  Chapter 13, the model: InfluenceOf, TotalInfluence, VarianceOf, MostInfluential.
-/
import Derived.Test.YtafblnhfnjfhcaaInfP
import Derived.Test.YtafblnhfnjfhcaaSenE
import Derived.Test.YtafblnhfnjfhcaaTabI
namespace Go.Proofs.Ytafblnhfnjfhcaa
open Go.RowKit Plain
set_option linter.unusedVariables false
attribute [local go_sem ↓] Go.wp_at_zero Go.wp_at_succ

/-- The bit that tells whether the value changes, as the model takes it. -/
theorem inf_bit (a x i : Nat) (ha : (a : Int) ≤ 4294967295) : ∃ z : Nat, Go.bits .xor .i64 ((a : Int) / 2 ^ x) ((a : Int) / 2 ^ (x ^^^ 2 ^ i)) = (z : Int) ∧ Go.bits .and .i64 (z : Int) 1 = (infB a i x : Int) := by
  obtain ⟨z, h1, h2⟩ := chg_bit a x (x ^^^ 2 ^ i) ha
  refine ⟨z, h1, h2.trans ?_⟩
  rw [infB_sen]
  rfl

set_option maxRecDepth 100000 in
set_option maxHeartbeats 1000000 in
theorem Inf.model_yes (n a i : Nat) (hn : n ≤ 5) (ht : isT n a = true) (ha : (a : Int) ≤ 4294967295) (hi : (i : Int) ≤ (n : Int) - 1) (w : World) :
    Calls Try.prog 7 #[.agg #[.int .i64 n, .int .i64 a], .int .i64 i] w fun e w' => e = .returned (.int .i64 (infN n a i : Int)) ∧ Below w.heap.size w w' := by
  have H := Lib.hid ht
  have HN := Lib.hid hn
  have hn5 : (n : Int) ≤ 5 := by omega
  obtain ⟨hp1, hp2⟩ := two_pow_int n hn
  have hi5 : i < 5 := by omega
  have hsh := shl_one i hi5
  have hsh64 := shl_one64 i hi5
  have hP : ((2 ^ i : Nat) : Int) ≤ 16 := by
    rcases (show i = 0 ∨ i = 1 ∨ i = 2 ∨ i = 3 ∨ i = 4 by omega) with rfl | rfl | rfl | rfl | rfl <;> decide
  have HI := Lib.hid hi
  have HB1 : Hid (∀ x : Nat, (x : Int) < 2 ^ n → ∃ z : Nat, Go.bits .xor .i64 ((a : Int) / 2 ^ x) ((a : Int) / 2 ^ (x ^^^ 2 ^ i)) = (z : Int) ∧ Go.bits .and .i64 (z : Int) 1 = (infB a i x : Int)) := Lib.hid fun x _ => inf_bit a x i ha
  clear hn ht
  go_enter Try.func7, Try.ntmps7
  go_wp2_with fail
  refine (Tab.model _ _ _).mono ?_
  rintro e w1 ⟨rfl, hb1⟩
  have X1 := blockC hb1 (heap_alloc_new w _)
  obtain ⟨c0, c1, f0, f1⟩ := cells2 X1
  have hz1 : w.heap.size < w1.heap.size := lt_of_block X1
  have HX1 := Lib.hid X1
  have HB2 : Hid (Below w.heap.size w w1) := Lib.hid (bB hb1 (by simp) (bA (Nat.le_refl _) (Below.refl _ _)))
  clear X1 hb1
  rw [H.out]
  go_wp2_with fail
  refine (Widths.in_yes _ _ _ (by omega) _).mono ?_
  rintro e w2 ⟨rfl, rfl⟩
  go_wp2_with fail
  clear c0 c1 f0 f1
  go_loopw [5, 6] (fun c j wr => ∃ k : Nat, j = .int .i64 (k : Int) ∧ c = .int .i64 (sumN (infB a i) k : Int) ∧ (k : Int) ≤ 2 ^ n ∧ wr.heap[w.heap.size]? = some (.cells #[.int .i64 n, .int .i64 a] 25 (0, 0)) ∧ Below w.heap.size w wr) (fun _ i _ => 32 - (intOf i).toNat)
  case atStart => exact ⟨0, rfl, rfl, by omega, HX1.out, HB2.out⟩
  case round =>
    obtain ⟨k, rfl, rfl, hk, hblk, hbel⟩ := hrel
    obtain ⟨c0, c1, f0, f1⟩ := cells2 hblk
    have HBLK := Lib.hid hblk
    have HBEL := Lib.hid hbel
    have hlz : w.heap.size < wr.heap.size := lt_of_block hblk
    clear hblk hbel
    by_cases hlt : (k : Int) < 2 ^ n
    · have hk32 : (k : Int) ≤ 31 := by omega
      have hg := infS_le a i k
      have hxor := xor64 k (2 ^ i) (by omega) (by omega)
      have hyl : k ^^^ 2 ^ i < 2 ^ 5 := Nat.xor_lt_two_pow (by omega) (by omega)
      have hy32 : ((k ^^^ 2 ^ i : Nat) : Int) ≤ 31 := by omega
      obtain ⟨z, hz1, hz2⟩ := HB1.out k hlt
      have hq := infB_lt a i k
      have HT : Hid ((sumN (infB a i) (k + 1) : Int) = (sumN (infB a i) k : Int) + (infB a i k : Int)) := Lib.hid (by show ((sumN (infB a i) k + infB a i k : Nat) : Int) = _; omega)
      generalize hg1 : sumN (infB a i) (k + 1) = g1 at *
      generalize sumN (infB a i) k = g at *
      generalize infB a i k = q at *
      generalize k ^^^ 2 ^ i = y at *
      generalize 2 ^ i = P at *
      clear hyl
      go_wp2_with fail
      go_quiet (fail)
      go_wp2_with fail
      go_roundw
      case rel => exact ⟨k + 1, by go_num, by rw [hg1, HT.out], by omega, HBLK.out, below_drewN HBEL.out _⟩
      case measure => simp [intOf]; omega
    · have he : k = 2 ^ n := by rw [up2] at hk hlt; omega
      have HE : Hid (sumN (infB a i) k = infN n a i) := Lib.hid (by rw [he]; rfl)
      clear he
      generalize sumN (infB a i) k = g0 at *
      go_wp2
      go_ret
      exact ⟨ret_int (by rw [← HE.out]), HBEL.out⟩

theorem Inf.model_no1 (n a i : Int) (ht : isT n a = false) (w : World) :
    Calls Try.prog 7 #[.agg #[.int .i64 n, .int .i64 a], .int .i64 i] w fun e w' => e = .returned (.int .i64 (-1)) ∧ Below w.heap.size w w' := by
  have H := Lib.hid ht
  clear ht
  go_enter Try.func7, Try.ntmps7
  go_wp2_with fail
  refine (Tab.model _ _ _).mono ?_
  rintro e w1 ⟨rfl, hb1⟩
  obtain ⟨hc, hf⟩ := bcell hb1
  rw [H.out]
  go_wp2
  go_ret
  exact ⟨rfl, ((Below.refl _ _).alloc (Nat.le_refl _) _).trans (hb1.mono (by simp))⟩

theorem Inf.model_no2 (n a : Nat) (i : Int) (hn : n ≤ 5) (ht : isT n a = true) (hi : ¬ (0 ≤ i ∧ i ≤ (n : Int) - 1)) (w : World) :
    Calls Try.prog 7 #[.agg #[.int .i64 n, .int .i64 a], .int .i64 i] w fun e w' => e = .returned (.int .i64 (-1)) ∧ Below w.heap.size w w' := by
  have H := Lib.hid ht
  have HI := Lib.hid hi
  have hn5 : (n : Int) ≤ 5 := by omega
  clear ht hi hn
  go_enter Try.func7, Try.ntmps7
  go_wp2_with fail
  refine (Tab.model _ _ _).mono ?_
  rintro e w1 ⟨rfl, hb1⟩
  obtain ⟨hc, hf⟩ := bcell hb1
  rw [H.out]
  go_wp2_with fail
  refine (Widths.in_no _ _ _ HI.out _).mono ?_
  rintro e w2 ⟨rfl, rfl⟩
  go_wp2
  go_ret
  exact ⟨rfl, ((Below.refl _ _).alloc (Nat.le_refl _) _).trans (hb1.mono (by simp))⟩

/-- InfluenceOf of the model. -/
theorem Inf.model (n a i : Int) (w : World) :
    Calls Try.prog 7 #[.agg #[.int .i64 n, .int .i64 a], .int .i64 i] w fun e w' => e = .returned (.int .i64 (infT n a i)) ∧ Below w.heap.size w w' := by
  by_cases ht : isT n a = true
  · obtain ⟨m, x, rfl, rfl, hm, hx⟩ := isT_nat ht
    have hl : (x : Int) ≤ 4294967295 := by have := fullN_le m hm; omega
    by_cases hi : 0 ≤ i ∧ i ≤ (m : Int) - 1
    · obtain ⟨j, rfl⟩ := Int.eq_ofNat_of_zero_le hi.1
      rw [infT_yes ht hi.2]
      exact Inf.model_yes m x j hm ht hl hi.2 w
    · rw [infT_no fun h => hi h.2]
      exact Inf.model_no2 m x i hm ht hi w
  · rw [infT_no fun h => ht h.1]
    exact Inf.model_no1 n a i (by simpa using ht) w

/-- TotalInfluence of the model. -/
theorem Tot.model (n a : Int) (w : World) :
    Calls Try.prog 10 #[.agg #[.int .i64 n, .int .i64 a]] w fun e w' => e = .returned (.int .i64 (totT n a)) ∧ Below w.heap.size w w' := by
  have HE := Lib.hid (SenE.model n a)
  cases ht : isT n a with
  | false =>
    rw [totT_no ht]
    have H := Lib.hid ht
    clear ht
    go_enter Try.func10, Try.ntmps10
    go_wp2_with fail
    refine (Tab.model _ _ _).mono ?_
    rintro e w1 ⟨rfl, hb1⟩
    obtain ⟨hc, hf⟩ := bcell hb1
    rw [H.out]
    go_wp2
    go_ret
    exact ⟨rfl, ((Below.refl _ _).alloc (Nat.le_refl _) _).trans (hb1.mono (by simp))⟩
  | true =>
    obtain ⟨n, a, rfl, rfl, hn, ha⟩ := isT_nat ht
    rw [totT_yes ht]
    rw [edgT_yes ht] at HE
    have H := Lib.hid ht
    have HT : Hid ((totN n a n : Int) = 2 * ((sumS n a (2 ^ n) / 2 : Nat) : Int)) := Lib.hid (by rw [← tot_edges n a]; omega)
    have hl : ((sumS n a (2 ^ n) / 2 : Nat) : Int) ≤ 80 := by have := tot_160 hn a (Nat.le_refl n); have := tot_sum n a; omega
    have hl0 : (0 : Int) ≤ ((sumS n a (2 ^ n) / 2 : Nat) : Int) := by omega
    generalize ((sumS n a (2 ^ n) / 2 : Nat) : Int) = q at *
    generalize (totN n a n : Int) = r at *
    clear ht hn ha
    go_enter Try.func10, Try.ntmps10
    go_wp2_with fail
    refine (Tab.model _ _ _).mono ?_
    rintro e w1 ⟨rfl, hb1⟩
    obtain ⟨hc, hf⟩ := bcell hb1
    have hz0_w1 : w.heap.size < w1.heap.size := by have := hb1.size; simp at this; omega
    rw [H.out]
    go_wp2_with fail
    refine (HE.out _).mono ?_
    rintro e w2 ⟨rfl, hb2⟩
    go_wp2
    go_ret
    exact ⟨ret_int (by rw [HT.out]), bB hb2 (by omega) (bB hb1 (by simp) (bA (Nat.le_refl _) (Below.refl _ _)))⟩

/-- VarianceOf of the model. -/
theorem Var13.model (n a : Int) (w : World) :
    Calls Try.prog 12 #[.agg #[.int .i64 n, .int .i64 a]] w fun e w' => e = .returned (.int .i64 (varT13 n a)) ∧ Below w.heap.size w w' := by
  have HE := Lib.hid (Tab.cntM n a)
  cases ht : isT n a with
  | false =>
    rw [varT13_no ht]
    rw [cntT_no ht] at HE
    clear ht
    go_enter Try.func12, Try.ntmps12
    go_wp2_with fail
    refine (HE.out _).mono ?_
    rintro e w1 ⟨rfl, hb1⟩
    obtain ⟨hc, hf⟩ := bcell hb1
    go_wp2
    go_ret
    exact ⟨rfl, ((Below.refl _ _).alloc (Nat.le_refl _) _).trans (hb1.mono (by simp))⟩
  | true =>
    obtain ⟨n, a, rfl, rfl, hn, ha⟩ := isT_nat ht
    rw [varT13_yes ht]
    rw [cntT_yes n a hn ha] at HE
    obtain ⟨hp1, hp2⟩ := two_pow_int n hn
    have hn5 : (n : Int) ≤ 5 := by omega
    have hq := popN_lim a (by have := fullN_le n hn; omega)
    have hq0 : (0 : Int) ≤ (popN a : Int) := by omega
    have hm1 : (popN a : Int) * (2 ^ n - (popN a : Int)) ≤ 32 * 32 ∧ -(32 * 32) ≤ (popN a : Int) * (2 ^ n - (popN a : Int)) := by
      have h1 : ((2 : Int) ^ n - (popN a : Int)) ≤ 32 := by omega
      have h2 : -32 ≤ ((2 : Int) ^ n - (popN a : Int)) := by omega
      generalize ((2 : Int) ^ n - (popN a : Int)) = d at *
      generalize (popN a : Int) = q at *
      constructor
      · exact Int.le_trans (Int.mul_le_mul_of_nonneg_left h1 hq0) (Int.mul_le_mul_of_nonneg_right hq (by decide))
      · have := Int.mul_le_mul_of_nonneg_left h2 hq0
        have h3 := Int.mul_le_mul_of_nonneg_right hq (show (0 : Int) ≤ 32 by decide)
        omega
    have hm2 := hm1.2
    replace hm1 := hm1.1
    clear ht ha hn
    generalize (popN a : Int) = q at *
    go_enter Try.func12, Try.ntmps12
    go_wp2_with fail
    refine (HE.out _).mono ?_
    rintro e w1 ⟨rfl, hb1⟩
    obtain ⟨hc, hf⟩ := bcell hb1
    obtain ⟨hcb, hfb⟩ := bcell hb1
    go_wp2
    go_ret
    exact ⟨rfl, ((Below.refl _ _).alloc (Nat.le_refl _) _).trans (hb1.mono (by simp))⟩

end Go.Proofs.Ytafblnhfnjfhcaa
