/-
  Chapter 13, the program: InfluenceOf, TotalInfluence, VarianceOf, MostInfluential.
-/
import Derived.Test.YtafblnhfnjfhcaaInfP
import Derived.Test.YtafblnhfnjfhcaaSenE
import Derived.Test.YtafblnhfnjfhcaaTabI
import Derived.Test.YtafblnhfnjfhcaaTabG
import Derived.Test.YtafblnhfnjfhcaaTabK
import Derived.Test.YtafblnhfnjfhcaaResH
import Derived.Deep.DeepCutAuto
import Derived.Deep.DrawnRows
namespace Go.Proofs.Ytafblnhfnjfhcaa
open Go.RowKit Plain
set_option linter.unusedVariables false
attribute [local go_sem ↓] Go.wp_at_zero Go.wp_at_succ

theorem Inf.impl_no1 (n a i : Int) (hb : -9223372036854775808 ≤ a ∧ a ≤ 9223372036854775807) (ht : isT n a = false) (w : World) :
    Calls Try.prog 9 #[.agg #[.int .i64 n, .int .i64 a], .int .i64 i] w fun e w' => e = .returned (.int .i64 (-1)) ∧ Below w.heap.size w w' := by
  have H := Lib.hid ht
  have HB := Lib.hid hb
  clear ht hb
  go_enter Try.func9, Try.ntmps9
  go_wp2_with fail
  refine (Tab.impl _ _ HB.out _).mono ?_
  rintro e w1 ⟨rfl, hb1⟩
  obtain ⟨hc, hf⟩ := bcell hb1
  rw [H.out]
  go_wp2
  go_ret
  exact ⟨rfl, ((Below.refl _ _).alloc (Nat.le_refl _) _).trans (hb1.mono (by simp))⟩

theorem Inf.impl_no2 (n a : Nat) (i : Int) (hn : n ≤ 5) (ha : (a : Int) ≤ 4294967295) (ht : isT n a = true) (hi : ¬ (0 ≤ i ∧ i < (n : Int))) (w : World) :
    Calls Try.prog 9 #[.agg #[.int .i64 n, .int .i64 a], .int .i64 i] w fun e w' => e = .returned (.int .i64 (-1)) ∧ Below w.heap.size w w' := by
  have H := Lib.hid ht
  have HI := Lib.hid hi
  have hn5 : (n : Int) ≤ 5 := by omega
  clear ht hi hn
  go_enter Try.func9, Try.ntmps9
  go_wp2_with fail
  refine (Tab.impl _ _ (by omega) _).mono ?_
  rintro e w1 ⟨rfl, hb1⟩
  obtain ⟨hc, hf⟩ := bcell hb1
  rw [H.out]
  go_wp2_with fail
  refine (Tab.isVar_no _ _ HI.out _).mono ?_
  rintro e w2 ⟨rfl, rfl⟩
  go_wp2
  go_ret
  exact ⟨rfl, ((Below.refl _ _).alloc (Nat.le_refl _) _).trans (hb1.mono (by simp))⟩

set_option maxRecDepth 100000 in
set_option maxHeartbeats 1000000 in
theorem Inf.impl_yes (n a i : Nat) (hn : n ≤ 5) (ht : isT n a = true) (ha : a ≤ fullN n) (hi : (i : Int) < (n : Int)) (w : World) :
    Calls Try.prog 9 #[.agg #[.int .i64 n, .int .i64 a], .int .i64 i] w fun e w' => e = .returned (.int .i64 (infN n a i : Int)) ∧ Below w.heap.size w w' := by
  have H := Lib.hid ht
  have hn5 : (n : Int) ≤ 5 := by omega
  have ha32 : (a : Int) ≤ 4294967295 := by have := fullN_le n hn; omega
  have hi5 : i < 5 := by omega
  have hin : i < n := by omega
  have hsh := shl_one i hi5
  have hsh64 := shl_one64 i hi5
  have ha2 : a < 2 ^ 2 ^ n := fullN_lt a ha
  have hp : (2 ^ i : Nat) < 2 ^ n := Nat.pow_lt_pow_right (by decide) hin
  have hP : ((2 ^ i : Nat) : Int) ≤ 16 := by
    rcases (show i = 0 ∨ i = 1 ∨ i = 2 ∨ i = 3 ∨ i = 4 by omega) with rfl | rfl | rfl | rfl | rfl <;> decide
  have hsl : shiW n a (2 ^ i) ≤ fullN n := tabN_full _ _
  have hs32 : (shiW n a (2 ^ i) : Int) ≤ 4294967295 := by have := fullN_le n hn; omega
  have hxl : a ^^^ shiW n a (2 ^ i) ≤ fullN n := by
    have := Nat.xor_lt_two_pow ha2 (show shiW n a (2 ^ i) < 2 ^ 2 ^ n from tabN_lt _ _)
    unfold fullN; omega
  have HS := Lib.hid (Tab.shiI_yes n a (2 ^ i) ht hn ha32 (by exact_mod_cast hp))
  have HX := Lib.hid (Tab.xorI_yes n a n (shiW n a (2 ^ i)) (by omega) (by omega) (by unfold fitB; rw [ht, isT_yes hn hsl]; simp))
  rw [xor64 a (shiW n a (2 ^ i)) (by omega) (by omega)] at HX
  have HC := Lib.hid (Tab.cntI_yes n (a ^^^ shiW n a (2 ^ i)) hn hxl)
  rw [inf_ones ha2 hin] at HC
  have HI := Lib.hid hi
  clear ht hn ha hp ha2
  generalize a ^^^ shiW n a (2 ^ i) = y at *
  generalize shiW n a (2 ^ i) = s at *
  generalize infN n a i = r at *
  generalize 2 ^ i = P at *
  go_enter Try.func9, Try.ntmps9
  go_wp2_with fail
  refine (Tab.impl _ _ (by omega) _).mono ?_
  rintro e w1 ⟨rfl, hb1⟩
  have X1 := blockC hb1 (heap_alloc_new w _)
  obtain ⟨c0, c1, f0, f1⟩ := cells2 X1
  have hz1 : w.heap.size < w1.heap.size := lt_of_block X1
  have HB1 : Hid (Below w.heap.size w w1) := Lib.hid (bB hb1 (by simp) (bA (Nat.le_refl _) (Below.refl _ _)))
  rw [H.out]
  go_wp2_with fail
  refine (Tab.isVar_yes _ _ ⟨by omega, HI.out⟩ _).mono ?_
  rintro e w2 ⟨rfl, rfl⟩
  go_wp2_with fail
  go_region_held3 (fun w' => w'.cell? ⟨w.heap.size, 0, none⟩ = some (.int .i64 n) ∧ w'.cell? ⟨w.heap.size, 1, none⟩ = some (.int .i64 a)) ((first | (go_split_ands; (try dsimp only); (refine ⟨?_, ?_⟩ <;> (repeat (first | with_reducible assumption | ((with_reducible refine keepU ?_); (with_reducible assumption)) | (with_reducible refine keepD ?_) | ((with_reducible refine keepN ?_ ?_); (focus (simp; done)); (focus rfl)) | (with_reducible refine keepA ?_) | ((with_reducible refine keepS ?_ ?_); (focus (dsimp only; omega))) | (with_reducible refine keepB hb ?_)))); done) | go_keep))
      (first
        | (go_at_call 20; ((with_reducible refine (HS.out _).mono ?_); rintro e w14 ⟨rfl, hb⟩; obtain ⟨hc, hf⟩ := bcell hb; have hs := hb.size; try simp only [World.size_alloc, World.size_drew] at hs)))
  all_goals
    go_wp2_with fail
    refine (HX.out _).mono ?_
    rintro e w15 ⟨rfl, hb2⟩
    go_wp2_with fail
    refine (HC.out _).mono ?_
    rintro e w16 ⟨rfl, hb3⟩
    go_wp2
    go_ret
    have hs2 := hb2.size
    have hs3 := hb3.size
    simp only [World.size_alloc, World.size_setCell] at hs2 hs3
    refine ⟨rfl, ?_⟩
    repeat (first | (exact HB1.out) | ((with_reducible refine bS ?_ ?_); (focus (dsimp only; omega))) | ((with_reducible refine bA ?_ ?_); (focus (first | omega | (simp; done) | (simp; omega)))) | (with_reducible refine bD ?_) | ((with_reducible refine bB hb ?_ ?_); (focus (first | omega | (simp; done) | (simp; omega)))) | ((with_reducible refine bB hb2 ?_ ?_); (focus (first | omega | (simp; done) | (simp; omega)))) | ((with_reducible refine bB hb3 ?_ ?_); (focus (first | omega | (simp; done) | (simp; omega)))))

/-- InfluenceOf of the program. -/
theorem Inf.impl (n a i : Int) (hb : -9223372036854775808 ≤ a ∧ a ≤ 9223372036854775807) (w : World) :
    Calls Try.prog 9 #[.agg #[.int .i64 n, .int .i64 a], .int .i64 i] w fun e w' => e = .returned (.int .i64 (infT n a i)) ∧ Below w.heap.size w w' := by
  by_cases ht : isT n a = true
  · obtain ⟨m, x, rfl, rfl, hm, hx⟩ := isT_nat ht
    have hl : (x : Int) ≤ 4294967295 := by have := fullN_le m hm; omega
    by_cases hi : 0 ≤ i ∧ i ≤ (m : Int) - 1
    · obtain ⟨j, rfl⟩ := Int.eq_ofNat_of_zero_le hi.1
      rw [infT_yes ht hi.2]
      exact Inf.impl_yes m x j hm ht hx (by omega) w
    · rw [infT_no fun h => hi h.2]
      exact Inf.impl_no2 m x i hm hl ht (by omega) w
  · rw [infT_no fun h => ht h.1]
    exact Inf.impl_no1 n a i hb (by simpa using ht) w

/-- VarianceOf of the program. -/
theorem Var13.impl (n a : Int) (hb : -9223372036854775808 ≤ a ∧ a ≤ 9223372036854775807) (w : World) :
    Calls Try.prog 13 #[.agg #[.int .i64 n, .int .i64 a]] w fun e w' => e = .returned (.int .i64 (varT13 n a)) ∧ Below w.heap.size w w' := by
  have HE := Lib.hid (Tab.cntI n a hb)
  have HB := Lib.hid hb
  cases ht : isT n a with
  | false =>
    rw [varT13_no ht]
    have H := Lib.hid ht
    clear ht hb
    go_enter Try.func13, Try.ntmps13
    go_wp2_with fail
    refine (Tab.impl _ _ HB.out _).mono ?_
    rintro e w1 ⟨rfl, hb1⟩
    obtain ⟨hc, hf⟩ := bcell hb1
    rw [H.out]
    go_wp2
    go_ret
    exact ⟨rfl, ((Below.refl _ _).alloc (Nat.le_refl _) _).trans (hb1.mono (by simp))⟩
  | true =>
    obtain ⟨n, a, rfl, rfl, hn, ha⟩ := isT_nat ht
    rw [varT13_yes ht]
    rw [cntT_yes n a hn ha] at HE
    have H := Lib.hid ht
    have HIC := Lib.hid (Tab.count n hn)
    obtain ⟨hp1, hp2⟩ := two_pow_int n hn
    have hn5 : (n : Int) ≤ 5 := by omega
    have hq := popN_lim a (by have := fullN_le n hn; omega)
    have hq0 : (0 : Int) ≤ (popN a : Int) := by omega
    have hm1 : (popN a : Int) * (2 ^ n - (popN a : Int)) ≤ 32 * 32 ∧ -(32 * 32) ≤ (popN a : Int) * (2 ^ n - (popN a : Int)) := by
      have h1 : ((2 : Int) ^ n - (popN a : Int)) ≤ 32 := by omega
      have h2 : -32 ≤ ((2 : Int) ^ n - (popN a : Int)) := by omega
      generalize ((2 : Int) ^ n - (popN a : Int)) = d at *
      generalize (popN a : Int) = q at *
      constructor
      · exact Int.le_trans (Int.mul_le_mul_of_nonneg_left h1 hq0) (Int.mul_le_mul_of_nonneg_right hq (by decide))
      · have := Int.mul_le_mul_of_nonneg_left h2 hq0
        have h3 := Int.mul_le_mul_of_nonneg_right hq (show (0 : Int) ≤ 32 by decide)
        omega
    have hm2 := hm1.2
    replace hm1 := hm1.1
    clear ht ha hn hb
    generalize (popN a : Int) = q at *
    go_enter Try.func13, Try.ntmps13
    go_wp2_with fail
    refine (Tab.impl _ _ HB.out _).mono ?_
    rintro e w1 ⟨rfl, hb1⟩
    have X1 := blockC hb1 (heap_alloc_new w _)
    obtain ⟨c0, c1, f0, f1⟩ := cells2 X1
    have hz1 : w.heap.size < w1.heap.size := lt_of_block X1
    have HB1 : Hid (Below w.heap.size w w1) := Lib.hid (bB hb1 (by simp) (bA (Nat.le_refl _) (Below.refl _ _)))
    rw [H.out]
    go_wp2_with fail
    refine (HE.out _).mono ?_
    rintro e w2 ⟨rfl, hb2⟩
    obtain ⟨d0, d1, g0, g1⟩ := cells2 (blockC hb2 X1)
    go_wp2_with fail
    refine (HIC.out _).mono ?_
    rintro e w3 ⟨rfl, rfl⟩
    go_wp2
    go_ret
    exact ⟨rfl, bB hb2 (by omega) HB1.out⟩

set_option maxRecDepth 100000 in
set_option maxHeartbeats 1000000 in
/-- TotalInfluence of the program. -/
theorem Tot.impl_yes (n a : Nat) (hn : n ≤ 5) (ht : isT n a = true) (ha : a ≤ fullN n) (w : World) :
    Calls Try.prog 11 #[.agg #[.int .i64 n, .int .i64 a]] w fun e w' => e = .returned (.int .i64 (totN n a n : Int)) ∧ Below w.heap.size w w' := by
  have H := Lib.hid ht
  have HN := Lib.hid hn
  have hn5 : (n : Int) ≤ 5 := by omega
  have ha32 : (a : Int) ≤ 4294967295 := by have := fullN_le n hn; omega
  have HSA := Lib.hid (fun (k : Nat) (hk : (k : Int) < (n : Int)) => Inf.impl_yes n a k hn ht ha hk)
  have HS1 : Hid (∀ k : Nat, (k : Int) ≤ n → totN n a k ≤ 160) := Lib.hid fun k hk => tot_160 hn a (by omega)
  have HS2 : Hid (∀ k : Nat, infN n a k ≤ 32) := Lib.hid fun k => inf_32 hn a k
  clear hn ht ha
  go_enter Try.func11, Try.ntmps11
  go_wp2_with fail
  refine (Tab.impl _ _ (by omega) _).mono ?_
  rintro e w1 ⟨rfl, hb1⟩
  have X1 := blockC hb1 (heap_alloc_new w _)
  obtain ⟨c0, c1, f0, f1⟩ := cells2 X1
  have hz1 : w.heap.size < w1.heap.size := lt_of_block X1
  have HX1 := Lib.hid X1
  have HB1 : Hid (Below w.heap.size w w1) := Lib.hid (bB hb1 (by simp) (bA (Nat.le_refl _) (Below.refl _ _)))
  clear X1 hb1
  rw [H.out]
  go_wp2_with fail
  clear c0 c1 f0 f1
  go_loopw [3, 4, 10] (fun c _ i wr => ∃ k : Nat, i = .int .i64 (k : Int) ∧ c = .int .i64 (totN n a k : Int) ∧ (k : Int) ≤ n ∧ wr.heap[w.heap.size]? = some (.cells #[.int .i64 n, .int .i64 a] 25 (0, 0)) ∧ Below w.heap.size w wr) (fun _ _ i _ => 32 - (intOf i).toNat)
  case atStart => exact ⟨0, rfl, rfl, by omega, HX1.out, HB1.out⟩
  case round =>
    obtain ⟨k, rfl, rfl, hk, hblk, hbel⟩ := hrel
    obtain ⟨c0, c1, f0, f1⟩ := cells2 hblk
    have HBLK := Lib.hid hblk
    have HBEL := Lib.hid hbel
    have hlz : w.heap.size < wr.heap.size := lt_of_block hblk
    clear hblk hbel
    have hs := HS1.out k hk
    by_cases hlt : (k : Int) < n
    · have HA := Lib.hid (HSA.out k hlt)
      have HT : Hid (((totN n a (k + 1) : Nat) : Int) = (totN n a k : Int) + (infN n a k : Int)) := Lib.hid (by show ((totN n a k + infN n a k : Nat) : Int) = _; omega)
      have hmk := HS2.out k
      generalize hg1 : ((totN n a (k + 1) : Nat) : Int) = g1 at *
      generalize totN n a k = g0 at *
      generalize infN n a k = p at *
      go_wp2_with fail
      refine (HA.out _).mono ?_
      rintro e w2 ⟨rfl, hb2⟩
      have HBLK2 := Lib.hid (blockC hb2 HBLK.out)
      have HB2 := Lib.hid (bB hb2 (by omega) HBEL.out)
      clear hb2
      go_wp2_with fail
      go_roundw
      case rel => exact ⟨k + 1, by go_num, by rw [hg1, HT.out], by omega, HBLK2.out, HB2.out⟩
      case measure => simp [intOf]; omega
    · have he : k = n := by omega
      have HE : Hid (totN n a k = totN n a n) := Lib.hid (by rw [he])
      clear he
      generalize totN n a k = g0 at *
      go_wp2
      go_ret
      exact ⟨ret_int (by rw [← HE.out]), HBEL.out⟩

theorem Tot.impl (n a : Int) (hb : -9223372036854775808 ≤ a ∧ a ≤ 9223372036854775807) (w : World) :
    Calls Try.prog 11 #[.agg #[.int .i64 n, .int .i64 a]] w fun e w' => e = .returned (.int .i64 (totT n a)) ∧ Below w.heap.size w w' := by
  cases ht : isT n a with
  | false =>
    rw [totT_no ht]
    have H := Lib.hid ht
    have HB := Lib.hid hb
    clear ht hb
    go_enter Try.func11, Try.ntmps11
    go_wp2_with fail
    refine (Tab.impl _ _ HB.out _).mono ?_
    rintro e w1 ⟨rfl, hb1⟩
    obtain ⟨hc, hf⟩ := bcell hb1
    rw [H.out]
    go_wp2
    go_ret
    exact ⟨rfl, ((Below.refl _ _).alloc (Nat.le_refl _) _).trans (hb1.mono (by simp))⟩
  | true =>
    obtain ⟨n, a, rfl, rfl, hn, ha⟩ := isT_nat ht
    rw [totT_yes ht]
    exact Tot.impl_yes n a hn ht ha w

set_option maxRecDepth 100000 in
set_option maxHeartbeats 1000000 in
/-- MostInfluential of the program. -/
theorem Mst.impl_yes (n a : Nat) (hn : n ≤ 5) (ht : isT n a = true) (ha : a ≤ fullN n) (w : World) :
    Calls Try.prog 15 #[.agg #[.int .i64 n, .int .i64 a]] w fun e w' => e = .returned (.int .i64 (mstN n a n).1) ∧ Below w.heap.size w w' := by
  have H := Lib.hid ht
  have HN := Lib.hid hn
  have hn5 : (n : Int) ≤ 5 := by omega
  have ha32 : (a : Int) ≤ 4294967295 := by have := fullN_le n hn; omega
  have HSA := Lib.hid (fun (k : Nat) (hk : (k : Int) < (n : Int)) => Inf.impl_yes n a k hn ht ha hk)
  clear hn ht ha
  go_enter Try.func15, Try.ntmps15
  go_wp2_with fail
  refine (Tab.impl _ _ (by omega) _).mono ?_
  rintro e w1 ⟨rfl, hb1⟩
  have X1 := blockC hb1 (heap_alloc_new w _)
  obtain ⟨c0, c1, f0, f1⟩ := cells2 X1
  have hz1 : w.heap.size < w1.heap.size := lt_of_block X1
  have HX1 := Lib.hid X1
  have HB1 : Hid (Below w.heap.size w w1) := Lib.hid (bB hb1 (by simp) (bA (Nat.le_refl _) (Below.refl _ _)))
  clear X1 hb1
  rw [H.out]
  go_wp2_with fail
  clear c0 c1 f0 f1
  go_loopw [3, 4, 5, 6, 12] (fun m g _ _ i wr => ∃ k : Nat, i = .int .i64 (k : Int) ∧ m = .int .i64 (mstN n a k).1 ∧ g = .int .i64 (mstN n a k).2 ∧ (k : Int) ≤ n ∧ wr.heap[w.heap.size]? = some (.cells #[.int .i64 n, .int .i64 a] 25 (0, 0)) ∧ Below w.heap.size w wr) (fun _ _ _ _ i _ => 32 - (intOf i).toNat)
  case atStart => exact ⟨0, rfl, rfl, rfl, by omega, HX1.out, HB1.out⟩
  case round =>
    obtain ⟨k, rfl, rfl, rfl, hk, hblk, hbel⟩ := hrel
    obtain ⟨c0, c1, f0, f1⟩ := cells2 hblk
    have HBLK := Lib.hid hblk
    have HBEL := Lib.hid hbel
    have hlz : w.heap.size < wr.heap.size := lt_of_block hblk
    clear hblk hbel
    by_cases hlt : (k : Int) < n
    · have HA := Lib.hid (HSA.out k hlt)
      by_cases hg : (mstN n a k).2 < (infN n a k : Int)
      · have HT := Lib.hid (mst_yes hg)
        generalize (mstN n a k).1 = g0 at *
        generalize (mstN n a k).2 = g1 at *
        generalize hq : mstN n a (k + 1) = q at *
        generalize infN n a k = p at *
        go_wp2_with fail
        refine (HA.out _).mono ?_
        rintro e w2 ⟨rfl, hb2⟩
        have HBLK2 := Lib.hid (blockC hb2 HBLK.out)
        have HB2 := Lib.hid (bB hb2 (by omega) HBEL.out)
        clear hb2
        go_wp2_with fail
        go_roundw
        case rel => exact ⟨k + 1, by go_num, by rw [hq, HT.out], by rw [hq, HT.out], by omega, HBLK2.out, HB2.out⟩
        case measure => simp [intOf]; omega
      · have HT := Lib.hid (mst_no hg)
        generalize hq : mstN n a (k + 1) = q at *
        generalize mstN n a k = g0 at *
        generalize infN n a k = p at *
        go_wp2_with fail
        refine (HA.out _).mono ?_
        rintro e w2 ⟨rfl, hb2⟩
        have HBLK2 := Lib.hid (blockC hb2 HBLK.out)
        have HB2 := Lib.hid (bB hb2 (by omega) HBEL.out)
        clear hb2
        go_wp2_with fail
        go_roundw
        case rel => exact ⟨k + 1, by go_num, by rw [hq, HT.out], by rw [hq, HT.out], by omega, HBLK2.out, HB2.out⟩
        case measure => simp [intOf]; omega
    · have he : k = n := by omega
      have HE : Hid (mstN n a k = mstN n a n) := Lib.hid (by rw [he])
      clear he
      generalize mstN n a k = g0 at *
      go_wp2
      go_ret
      exact ⟨ret_int (by rw [← HE.out]), HBEL.out⟩

theorem Mst.impl (n a : Int) (hb : -9223372036854775808 ≤ a ∧ a ≤ 9223372036854775807) (w : World) :
    Calls Try.prog 15 #[.agg #[.int .i64 n, .int .i64 a]] w fun e w' => e = .returned (.int .i64 (mstT n a)) ∧ Below w.heap.size w w' := by
  cases ht : isT n a with
  | false =>
    rw [mstT_no ht]
    have H := Lib.hid ht
    have HB := Lib.hid hb
    clear ht hb
    go_enter Try.func15, Try.ntmps15
    go_wp2_with fail
    refine (Tab.impl _ _ HB.out _).mono ?_
    rintro e w1 ⟨rfl, hb1⟩
    obtain ⟨hc, hf⟩ := bcell hb1
    rw [H.out]
    go_wp2
    go_ret
    exact ⟨rfl, ((Below.refl _ _).alloc (Nat.le_refl _) _).trans (hb1.mono (by simp))⟩
  | true =>
    obtain ⟨n, a, rfl, rfl, hn, ha⟩ := isT_nat ht
    rw [mstT_yes ht]
    exact Mst.impl_yes n a hn ht ha w

end Go.Proofs.Ytafblnhfnjfhcaa
