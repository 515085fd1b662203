/-
  Chapter 8: the model's functions (l8Fine, ForcedLeft, AdversaryAnswer, IsEvasive, AskedOf).
-/
import Derived.Test.YtdhdkonokbkdoaaAdvI
import Derived.Test.YtdhdkonokbkdoaaBtM
namespace Go.Proofs.Ytdhdkonokbkdoaa
open Go.RowKit Plain
set_option linter.unusedVariables false

theorem Fine.yes (n a m v : Nat) (hn : n ≤ 4) (ht : isT n a = true) (hm : m < 2 ^ n) (hv : v &&& m = v) (w : World) :
    Calls Try.prog 34 #[.agg #[.int .i64 (n : Int), .int .i64 (a : Int)], .int .i64 (m : Int), .int .i64 (v : Int)] w fun e w' => e = .returned (.bool true) ∧ Below w.heap.size w w' := by
  have hvm : v ≤ m := by rw [← hv]; exact Nat.and_le_right
  have hm2 : (m : Int) < 2 ^ n := by rw [up2]; omega
  have HX : Hid ((0 : Int) ≤ m ∧ (m : Int) ≤ 2 ^ n - 1) := Lib.hid (by omega)
  have HV : Hid ((0 : Int) ≤ v ∧ (v : Int) ≤ (m : Int)) := Lib.hid (by omega)
  obtain ⟨hp1, hp2⟩ := two_pow_int n (by omega)
  have hand := and64 v m (by omega) (by omega)
  rw [hv] at hand
  have hn4 : (n : Int) ≤ 4 := by omega
  have H := Lib.hid ht
  clear hm hm2 hv hvm ht hn
  go_enter Try.func34, Try.ntmps34
  go_wp2_with fail
  refine (Tab.model _ _ _).mono ?_
  rintro e w1 ⟨rfl, hb1⟩
  obtain ⟨hc, hf⟩ := bcell hb1
  have hz0_w1 : w.heap.size < w1.heap.size := by have := hb1.size; simp at this; omega
  rw [H.out]
  go_wp2_with fail
  refine (Widths.in_yes _ _ _ HX.out _).mono ?_
  rintro e w2 ⟨rfl, rfl⟩
  go_wp2_with fail
  refine (Widths.in_yes _ _ _ HV.out _).mono ?_
  rintro e w2 ⟨rfl, rfl⟩
  go_wp2
  go_ret
  exact ⟨rfl, bB hb1 (by simp) (bA (Nat.le_refl _) (Below.refl _ _))⟩

theorem Fine.no1 (n a m v : Int) (ht : isT n a = false) (w : World) :
    Calls Try.prog 34 #[.agg #[.int .i64 n, .int .i64 a], .int .i64 m, .int .i64 v] w fun e w' => e = .returned (.bool false) ∧ Below w.heap.size w w' := by
  have H := Lib.hid ht
  clear ht
  go_enter Try.func34, Try.ntmps34
  go_wp2_with fail
  refine (Tab.model _ _ _).mono ?_
  rintro e w1 ⟨rfl, hb1⟩
  obtain ⟨hc, hf⟩ := bcell hb1
  have hz0_w1 : w.heap.size < w1.heap.size := by have := hb1.size; simp at this; omega
  rw [H.out]
  go_wp2
  go_ret
  exact ⟨rfl, bB hb1 (by simp) (bA (Nat.le_refl _) (Below.refl _ _))⟩

theorem Fine.no2 (n a m v : Int) (ht : isT n a = true) (hn : 4 < n) (w : World) :
    Calls Try.prog 34 #[.agg #[.int .i64 n, .int .i64 a], .int .i64 m, .int .i64 v] w fun e w' => e = .returned (.bool false) ∧ Below w.heap.size w w' := by
  have H := Lib.hid ht
  clear ht
  go_enter Try.func34, Try.ntmps34
  go_wp2_with fail
  refine (Tab.model _ _ _).mono ?_
  rintro e w1 ⟨rfl, hb1⟩
  obtain ⟨hc, hf⟩ := bcell hb1
  have hz0_w1 : w.heap.size < w1.heap.size := by have := hb1.size; simp at this; omega
  rw [H.out]
  go_wp2
  go_ret
  exact ⟨rfl, bB hb1 (by simp) (bA (Nat.le_refl _) (Below.refl _ _))⟩

theorem Fine.no3 (n a : Nat) (m v : Int) (ht : isT n a = true) (hn : n ≤ 4) (hm : ¬ (0 ≤ m ∧ m < 2 ^ n)) (w : World) :
    Calls Try.prog 34 #[.agg #[.int .i64 (n : Int), .int .i64 (a : Int)], .int .i64 m, .int .i64 v] w fun e w' => e = .returned (.bool false) ∧ Below w.heap.size w w' := by
  have HX : Hid (¬ (0 ≤ m ∧ m ≤ 2 ^ n - 1)) := Lib.hid (by omega)
  have H := Lib.hid ht
  obtain ⟨hp1, hp2⟩ := two_pow_int n (by omega)
  have hn4 : (n : Int) ≤ 4 := by omega
  clear ht hm hn
  go_enter Try.func34, Try.ntmps34
  go_wp2_with fail
  refine (Tab.model _ _ _).mono ?_
  rintro e w1 ⟨rfl, hb1⟩
  obtain ⟨hc, hf⟩ := bcell hb1
  have hz0_w1 : w.heap.size < w1.heap.size := by have := hb1.size; simp at this; omega
  rw [H.out]
  go_wp2_with fail
  refine (Widths.in_no _ _ _ HX.out _).mono ?_
  rintro e w2 ⟨rfl, rfl⟩
  go_wp2
  go_ret
  exact ⟨rfl, bB hb1 (by simp) (bA (Nat.le_refl _) (Below.refl _ _))⟩

theorem Fine.no4 (n a m : Nat) (v : Int) (ht : isT n a = true) (hn : n ≤ 4) (hm : (m : Int) < 2 ^ n) (hv : ¬ (0 ≤ v ∧ v ≤ (m : Int))) (w : World) :
    Calls Try.prog 34 #[.agg #[.int .i64 (n : Int), .int .i64 (a : Int)], .int .i64 (m : Int), .int .i64 v] w fun e w' => e = .returned (.bool false) ∧ Below w.heap.size w w' := by
  have HX : Hid ((0 : Int) ≤ m ∧ (m : Int) ≤ 2 ^ n - 1) := Lib.hid (by omega)
  have HV := Lib.hid hv
  have H := Lib.hid ht
  obtain ⟨hp1, hp2⟩ := two_pow_int n (by omega)
  have hn4 : (n : Int) ≤ 4 := by omega
  clear ht hm hn hv
  go_enter Try.func34, Try.ntmps34
  go_wp2_with fail
  refine (Tab.model _ _ _).mono ?_
  rintro e w1 ⟨rfl, hb1⟩
  obtain ⟨hc, hf⟩ := bcell hb1
  have hz0_w1 : w.heap.size < w1.heap.size := by have := hb1.size; simp at this; omega
  rw [H.out]
  go_wp2_with fail
  refine (Widths.in_yes _ _ _ HX.out _).mono ?_
  rintro e w2 ⟨rfl, rfl⟩
  go_wp2_with fail
  refine (Widths.in_no _ _ _ HV.out _).mono ?_
  rintro e w2 ⟨rfl, rfl⟩
  go_wp2
  go_ret
  exact ⟨rfl, bB hb1 (by simp) (bA (Nat.le_refl _) (Below.refl _ _))⟩

theorem Fine.no5 (n a m v : Nat) (ht : isT n a = true) (hn : n ≤ 4) (hm : (m : Int) < 2 ^ n) (hv : (v : Int) ≤ (m : Int)) (hne : ¬ v &&& m = v) (w : World) :
    Calls Try.prog 34 #[.agg #[.int .i64 (n : Int), .int .i64 (a : Int)], .int .i64 (m : Int), .int .i64 (v : Int)] w fun e w' => e = .returned (.bool false) ∧ Below w.heap.size w w' := by
  have HX : Hid ((0 : Int) ≤ m ∧ (m : Int) ≤ 2 ^ n - 1) := Lib.hid (by omega)
  have HV : Hid ((0 : Int) ≤ v ∧ (v : Int) ≤ (m : Int)) := Lib.hid (by omega)
  obtain ⟨hp1, hp2⟩ := two_pow_int n (by omega)
  have hand := and64 v m (by omega) (by omega)
  have hnb : (((v &&& m : Nat) : Int) == (v : Int)) = false := by rw [beq_eq_false_iff_ne]; omega
  have H := Lib.hid ht
  have hn4 : (n : Int) ≤ 4 := by omega
  clear ht hm hn hv hne
  go_enter Try.func34, Try.ntmps34
  go_wp2_with fail
  refine (Tab.model _ _ _).mono ?_
  rintro e w1 ⟨rfl, hb1⟩
  obtain ⟨hc, hf⟩ := bcell hb1
  have hz0_w1 : w.heap.size < w1.heap.size := by have := hb1.size; simp at this; omega
  rw [H.out]
  go_wp2_with fail
  refine (Widths.in_yes _ _ _ HX.out _).mono ?_
  rintro e w2 ⟨rfl, rfl⟩
  go_wp2_with fail
  refine (Widths.in_yes _ _ _ HV.out _).mono ?_
  rintro e w2 ⟨rfl, rfl⟩
  go_wp2
  go_ret
  exact ⟨rfl, bB hb1 (by simp) (bA (Nat.le_refl _) (Below.refl _ _))⟩

/-- l8Fine. -/
theorem Fine.any (n a m v : Int) (w : World) :
    Calls Try.prog 34 #[.agg #[.int .i64 n, .int .i64 a], .int .i64 m, .int .i64 v] w fun e w' => e = .returned (.bool (knB n a m v)) ∧ Below w.heap.size w w' := by
  cases ht : isT n a with
  | false =>
    rw [show knB n a m v = false from decide_eq_false fun h => by have := h.1.1; rw [ht] at this; exact absurd this (by decide)]
    exact Fine.no1 n a m v ht w
  | true =>
    by_cases h4 : n ≤ 4
    · obtain ⟨k, x, rfl, rfl, hk, hx⟩ := isT_nat ht
      by_cases hm : 0 ≤ m ∧ m < 2 ^ k
      · obtain ⟨m', rfl⟩ := Int.eq_ofNat_of_zero_le hm.1
        by_cases hv : 0 ≤ v ∧ v ≤ (m' : Int)
        · obtain ⟨v', rfl⟩ := Int.eq_ofNat_of_zero_le hv.1
          by_cases hvv : v' &&& m' = v'
          · rw [show knB k x (m' : Nat) (v' : Nat) = true from decide_eq_true ⟨⟨ht, hm, by omega, hvv⟩, h4⟩]
            exact Fine.yes k x m' v' (by omega) ht (by have := hm.2; rw [up2] at this; omega) hvv w
          · rw [show knB k x (m' : Nat) (v' : Nat) = false from decide_eq_false fun h => hvv h.1.2.2.2]
            exact Fine.no5 k x m' v' ht (by omega) hm.2 hv.2 hvv w
        · rw [show knB k x (m' : Nat) v = false from decide_eq_false fun h => hv ⟨h.1.2.2.1, by
            have h1 := h.1.2.2.1
            have h2 : v.toNat &&& m' = v.toNat := h.1.2.2.2
            have h3 : v.toNat &&& m' ≤ m' := Nat.and_le_right
            omega⟩]
          exact Fine.no4 k x m' v ht (by omega) hm.2 hv w
      · rw [show knB k x m v = false from decide_eq_false fun h => hm ⟨h.1.2.1.1, by have := h.1.2.1.2; rwa [Int.toNat_natCast] at this⟩]
        exact Fine.no3 k x m v ht (by omega) hm w
    · rw [show knB n a m v = false from decide_eq_false fun h => h4 h.2]
      exact Fine.no2 n a m v ht (by omega) w

end Go.Proofs.Ytdhdkonokbkdoaa
