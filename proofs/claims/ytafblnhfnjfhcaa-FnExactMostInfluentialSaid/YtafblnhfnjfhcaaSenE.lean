/-
  The edges at which the value changes: l10At and SensitiveEdges of the model.
-/
import Derived.Test.YtafblnhfnjfhcaaSenP
import Derived.Test.YtafblnhfnjfhcaaResB
import Derived.Deep.RegionHeld3
import Derived.Shelf.Abstract
namespace Go.Proofs.Ytafblnhfnjfhcaa
open Go.RowKit Plain
set_option linter.unusedVariables false
attribute [local go_sem ↓] Go.wp_at_zero Go.wp_at_succ

/-- What SensitiveEdges answers. -/
def Plain.edgT (n a : Int) : Int := if isT n a = true then ((sumS n.toNat a.toNat (2 ^ n.toNat) / 2 : Nat) : Int) else -1

theorem edgT_yes {n a : Nat} (ht : isT n a = true) : edgT n a = ((sumS n a (2 ^ n) / 2 : Nat) : Int) := if_pos ht

theorem edgT_no {n a : Int} (ht : isT n a = false) : edgT n a = -1 := if_neg (by rw [ht]; decide)

theorem sumS_160 {n : Nat} (hn : n ≤ 5) (a k : Nat) (hk : k ≤ 32) : sumS n a k ≤ 160 := by
  have h1 := sumS_le n a k
  have h2 : n * k ≤ 5 * 32 := Nat.mul_le_mul hn hk
  omega

theorem shl_one (i : Nat) (hi : i < 5) : IntKind.i64.wrap ((2 : Int) ^ i) = ((2 ^ i : Nat) : Int) := by
  rcases (show i = 0 ∨ i = 1 ∨ i = 2 ∨ i = 3 ∨ i = 4 by omega) with rfl | rfl | rfl | rfl | rfl <;> decide +kernel

theorem shl_one64 (i : Nat) (hi : i < 5) : wrap64 ((2 : Int) ^ i) = ((2 ^ i : Nat) : Int) := by
  rcases (show i = 0 ∨ i = 1 ∨ i = 2 ∨ i = 3 ∨ i = 4 by omega) with rfl | rfl | rfl | rfl | rfl <;> decide +kernel

theorem xor_mod (p q : Nat) : (p ^^^ q) % 2 = if (p % 2 != q % 2) = true then 1 else 0 := by
  have h := Nat.testBit_xor p q 0
  simp only [Nat.testBit_zero] at h
  have h1 : (p ^^^ q) % 2 < 2 := Nat.mod_lt _ (by decide)
  have h2 : p % 2 < 2 := Nat.mod_lt _ (by decide)
  have h3 : q % 2 < 2 := Nat.mod_lt _ (by decide)
  generalize (p ^^^ q) % 2 = z at *
  generalize p % 2 = c at *
  generalize q % 2 = d at *
  have hz : z = 0 ∨ z = 1 := by omega
  have hc : c = 0 ∨ c = 1 := by omega
  have hd : d = 0 ∨ d = 1 := by omega
  rcases hz with rfl | rfl <;> rcases hc with rfl | rfl <;> rcases hd with rfl | rfl <;> first | rfl | (exact absurd h (by decide))

theorem div_lim (a x : Nat) (ha : (a : Int) ≤ 4294967295) : ((a / 2 ^ x : Nat) : Int) ≤ 4294967295 := down_le a x _ ha

/-- The bit that tells whether the value changes. -/
theorem chg_bit (a x y : Nat) (ha : (a : Int) ≤ 4294967295) : ∃ z : Nat, Go.bits .xor .i64 ((a : Int) / 2 ^ x) ((a : Int) / 2 ^ y) = (z : Int) ∧ Go.bits .and .i64 (z : Int) 1 = (((if (bitN a x != bitN a y) = true then 1 else 0 : Nat)) : Int) := by
  have h1 := div_lim a x ha
  have h2 := div_lim a y ha
  refine ⟨(a / 2 ^ x) ^^^ (a / 2 ^ y), ?_, ?_⟩
  · rw [down2, down2]; exact xor64 _ _ (by omega) (by omega)
  · have hl : (a / 2 ^ x) ^^^ (a / 2 ^ y) < 2 ^ 32 := Nat.xor_lt_two_pow (by omega) (by omega)
    rw [and1_i64 _ (by omega), xor_mod]
    rfl

set_option maxRecDepth 100000 in
set_option maxHeartbeats 1000000 in
/-- l10At. -/
theorem L10At.any (n a x : Nat) (hn : n ≤ 5) (ha : (a : Int) ≤ 4294967295) (hx : (x : Int) < 2 ^ n) (w : World) :
    Calls Try.prog 34 #[.agg #[.int .i64 n, .int .i64 a], .int .i64 x] w fun e w' => e = .returned (.int .i64 (senN a x n : Int)) ∧ Below w.heap.size w w' := by
  have HN := Lib.hid hn
  have HA := Lib.hid ha
  have hn5 : (n : Int) ≤ 5 := by omega
  obtain ⟨hp1, hp2⟩ := two_pow_int n hn
  have HX := Lib.hid hx
  have hx32 : (x : Int) ≤ 31 := by omega
  clear hn hx hp1 hp2
  go_enter Try.func34, Try.ntmps34
  go_wp2_with fail
  go_loopw [5, 6] (fun c i wr => ∃ k : Nat, i = .int .i64 (k : Int) ∧ c = .int .i64 (senN a x k : Int) ∧ k ≤ n ∧ wr.heap[w.heap.size]? = some (.cells #[.int .i64 n, .int .i64 a] 25 (0, 0)) ∧ Below w.heap.size w wr) (fun _ i _ => n - (intOf i).toNat)
  case atStart => exact ⟨0, rfl, rfl, by omega, heap_alloc_new w _, bA (Nat.le_refl _) (Below.refl _ _)⟩
  case round =>
    obtain ⟨k, rfl, rfl, hk, hblk, hbel⟩ := hrel
    obtain ⟨c0, c1, f0, f1⟩ := cells2 hblk
    have HBLK := Lib.hid hblk
    have HBEL := Lib.hid hbel
    have hlz : w.heap.size < wr.heap.size := lt_of_block hblk
    clear hblk hbel
    by_cases hlt : k < n
    · have hkn : (k : Int) < (n : Int) := by omega
      have hk5 : k < 5 := by omega
      have hsh := shl_one k hk5
      have hsh64 := shl_one64 k hk5
      have hg := senN_le a x k
      have hP : ((2 ^ k : Nat) : Int) ≤ 16 := by
        rcases (show k = 0 ∨ k = 1 ∨ k = 2 ∨ k = 3 ∨ k = 4 by omega) with rfl | rfl | rfl | rfl | rfl <;> decide
      have hxor := xor64 x (2 ^ k) (by omega) (by omega)
      have hyl : x ^^^ 2 ^ k < 2 ^ 5 := Nat.xor_lt_two_pow (by omega) (by omega)
      have hy32 : ((x ^^^ 2 ^ k : Nat) : Int) ≤ 31 := by omega
      obtain ⟨z, hz1, hz2⟩ := chg_bit a x (x ^^^ 2 ^ k) ha
      cases hd : senB a x (2 ^ k) with
      | true =>
        have HT := Lib.hid (senN_yes hd)
        have hd2 : (bitN a x != bitN a (x ^^^ 2 ^ k)) = true := hd
        rw [if_pos hd2] at hz2
        generalize hg1 : senN a x (k + 1) = g1 at *
        generalize senN a x k = g at *
        generalize x ^^^ 2 ^ k = y at *
        generalize 2 ^ k = P at *
        clear hd hd2 hyl
        go_wp2_with fail
        go_quiet (fail)
        go_wp2_with fail
        go_roundw
        case rel => exact ⟨k + 1, by go_num, by rw [hg1, HT.out]; go_num, by omega, HBLK.out, below_drewN HBEL.out _⟩
        case measure => simp [intOf]; omega
      | false =>
        have HT := Lib.hid (senN_no hd)
        have hd2 : ¬ (bitN a x != bitN a (x ^^^ 2 ^ k)) = true := by
          intro q
          have hd3 : (bitN a x != bitN a (x ^^^ 2 ^ k)) = false := hd
          rw [hd3] at q; exact absurd q (by decide)
        rw [if_neg hd2] at hz2
        generalize hg1 : senN a x (k + 1) = g1 at *
        generalize senN a x k = g at *
        generalize x ^^^ 2 ^ k = y at *
        generalize 2 ^ k = P at *
        clear hd hd2 hyl
        go_wp2_with fail
        go_quiet (fail)
        go_wp2_with fail
        go_roundw
        case rel => exact ⟨k + 1, by go_num, by rw [hg1, HT.out], by omega, HBLK.out, below_drewN HBEL.out _⟩
        case measure => simp [intOf]; omega
    · obtain rfl : k = n := by omega
      go_wp2
      go_ret
      exact ⟨rfl, HBEL.out⟩

set_option maxRecDepth 100000 in
set_option maxHeartbeats 1000000 in
theorem SenE.model_yes (n a : Nat) (hn : n ≤ 5) (ht : isT n a = true) (ha : (a : Int) ≤ 4294967295) (w : World) :
    Calls Try.prog 23 #[.agg #[.int .i64 n, .int .i64 a]] w fun e w' => e = .returned (.int .i64 ((sumS n a (2 ^ n) / 2 : Nat) : Int)) ∧ Below w.heap.size w w' := by
  have H := Lib.hid ht
  have HN := Lib.hid hn
  obtain ⟨hp1, hp2⟩ := two_pow_int n hn
  have hn5 : (n : Int) ≤ 5 := by omega
  have HSA := Lib.hid (fun (x : Nat) (hx : (x : Int) < 2 ^ n) => L10At.any n a x hn ha hx)
  have HS1 : Hid (∀ k : Nat, (k : Int) ≤ 2 ^ n → sumS n a k ≤ 160) := Lib.hid fun k hk => sumS_160 hn a k (by omega)
  clear hn ht
  go_enter Try.func23, Try.ntmps23
  go_wp2_with fail
  refine (Tab.model _ _ _).mono ?_
  rintro e w1 ⟨rfl, hb1⟩
  have X1 := blockC hb1 (heap_alloc_new w _)
  obtain ⟨c0, c1, f0, f1⟩ := cells2 X1
  have hz1 : w.heap.size < w1.heap.size := lt_of_block X1
  have HX1 := Lib.hid X1
  have HB1 : Hid (Below w.heap.size w w1) := Lib.hid (bB hb1 (by simp) (bA (Nat.le_refl _) (Below.refl _ _)))
  clear X1 hb1
  rw [H.out]
  go_wp2_with fail
  clear c0 c1 f0 f1
  go_loopw [3, 4] (fun c i wr => ∃ k : Nat, i = .int .i64 (k : Int) ∧ c = .int .i64 (sumS n a k : Int) ∧ (k : Int) ≤ 2 ^ n ∧ wr.heap[w.heap.size]? = some (.cells #[.int .i64 n, .int .i64 a] 25 (0, 0)) ∧ Below w.heap.size w wr) (fun _ i _ => 32 - (intOf i).toNat)
  case atStart => exact ⟨0, rfl, rfl, by omega, HX1.out, HB1.out⟩
  case round =>
    obtain ⟨k, rfl, rfl, hk, hblk, hbel⟩ := hrel
    obtain ⟨c0, c1, f0, f1⟩ := cells2 hblk
    have HBLK := Lib.hid hblk
    have HBEL := Lib.hid hbel
    have hlz : w.heap.size < wr.heap.size := lt_of_block hblk
    clear hblk hbel
    have hs := HS1.out k hk
    by_cases hlt : (k : Int) < 2 ^ n
    · have HA := Lib.hid (HSA.out k hlt)
      have HT : Hid (((sumS n a (k + 1) : Nat) : Int) = (sumS n a k : Int) + (senN a k n : Int)) := Lib.hid (by show ((sumS n a k + senN a k n : Nat) : Int) = _; omega)
      have hmk := senN_le a k n
      generalize hg1 : ((sumS n a (k + 1) : Nat) : Int) = g1 at *
      generalize sumS n a k = g0 at *
      generalize senN a k n = p at *
      go_wp2_with fail
      refine (HA.out _).mono ?_
      rintro e w2 ⟨rfl, hb2⟩
      have HBLK2 := Lib.hid (blockC hb2 HBLK.out)
      have HB2 := Lib.hid (bB hb2 (by omega) HBEL.out)
      clear hb2
      go_wp2_with fail
      go_roundw
      case rel => exact ⟨k + 1, by go_num, by rw [hg1, HT.out], by omega, HBLK2.out, HB2.out⟩
      case measure => simp [intOf]; omega
    · have he : k = 2 ^ n := by rw [up2] at hk hlt; omega
      have HE : Hid (sumS n a k = sumS n a (2 ^ n)) := Lib.hid (by rw [he])
      clear he
      generalize sumS n a k = g0 at *
      go_wp2
      go_ret
      exact ⟨ret_int (by rw [← HE.out]), HBEL.out⟩

theorem SenE.model_no (n a : Int) (ht : isT n a = false) (w : World) :
    Calls Try.prog 23 #[.agg #[.int .i64 n, .int .i64 a]] w fun e w' => e = .returned (.int .i64 (-1)) ∧ Below w.heap.size w w' := by
  have H := Lib.hid ht
  clear ht
  go_enter Try.func23, Try.ntmps23
  go_wp2_with fail
  refine (Tab.model _ _ _).mono ?_
  rintro e w1 ⟨rfl, hb1⟩
  obtain ⟨hc, hf⟩ := bcell hb1
  have hz0_w1 : w.heap.size < w1.heap.size := by have := hb1.size; simp at this; omega
  rw [H.out]
  go_wp2
  go_ret
  exact ⟨rfl, bB hb1 (by simp) (bA (Nat.le_refl _) (Below.refl _ _))⟩

/-- SensitiveEdges of the model. -/
theorem SenE.model (n a : Int) (w : World) :
    Calls Try.prog 23 #[.agg #[.int .i64 n, .int .i64 a]] w fun e w' => e = .returned (.int .i64 (edgT n a)) ∧ Below w.heap.size w w' := by
  cases ht : isT n a with
  | false =>
    rw [edgT_no ht]
    exact SenE.model_no n a ht w
  | true =>
    obtain ⟨n, a, rfl, rfl, hn, ha⟩ := isT_nat ht
    rw [edgT_yes ht]
    exact SenE.model_yes n a hn ht (by have := fullN_le n hn; omega) w

end Go.Proofs.Ytafblnhfnjfhcaa
