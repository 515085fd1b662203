/-
  EncodeFixed of the program and of its model: both answer 'Plain.encF'.
-/
import Derived.Test.YteijcbpafmijfaaBase
import Derived.Test.YteijcbpafmijfaaNumA
import Derived.Deep.DeepMust
import Derived.Test.YteijcbpafmijfaaEncFI
namespace Go.Proofs.Yteijcbpafmijfaa
open Go.RowKit Plain
set_option linter.unusedVariables false
set_option maxRecDepth 100000 in
set_option maxHeartbeats 1000000 in
theorem EncF.spec_in (k n : Nat) (hk : 1 ≤ k ∧ k ≤ 7) (hn63 : (n : Int) ≤ 9223372036854775807) (w : World) :
    Calls Try.prog 9 #[.int .i64 n, .int .i64 k] w fun e w' => e = .returned (.string ⟨(encK k n).toArray⟩) ∧ Below w.heap.size w w' := by
  have h1 : inB (k : Int) 1 7 = true := inB_yes (by omega)
  obtain ⟨hk1, hk2⟩ := hk
  have h0 : decide ((n : Int) < 0) = false := by simp
  go_enter Try.func9, Try.ntmps9
  go_wp2_with (go_at_call 21; refine (Widths.inRange _ _ _ _).mono ?_; rintro e w' ⟨rfl, rfl⟩)
  clear h0 h1
  go_loopw [0, 5, 6] (fun x s i wr => ∃ j : Nat, j ≤ k ∧ x = .int .i64 ((n / 256 ^ j : Nat) : Int) ∧ i = .int .i64 (j : Int) ∧ s = .string ⟨(be j n).toArray⟩ ∧ Below w.heap.size w wr) (fun _ _ i _ => k - (intOf i).toNat)
  case atStart => exact ⟨0, by omega, by simp, rfl, rfl, Below.refl _ _⟩
  case round =>
    obtain ⟨j, hj, rfl, rfl, rfl, hb⟩ := hrel
    have hq : ((n / 256 ^ j : Nat) : Int) ≤ 9223372036854775807 := by have := Nat.div_le_self n (256 ^ j); omega
    have hlen := be_len j n
    have hB := hb.size
    by_cases hlt : j < k
    · have HD := Lib.hid (div_pow_succ n j)
      have HE : Hid ([UInt8.ofNat (n / 256 ^ j % 256)] ++ be j n = be (j + 1) n) := Lib.hid rfl
      clear hn63
      generalize n / 256 ^ j = m at hq HD HE ⊢
      have ht := one_text wr ((m : Int) % 256) (by omega)
      have hj2 := join_text [UInt8.ofNat ((m : Int) % 256).toNat] (be j n) (by simp [hlen]; omega)
      have hm2 : ((m : Int) % 256).toNat = m % 256 := by omega
      rw [hm2] at ht hj2
      rw [HE.out] at hj2
      clear hm2 hlen
      go_wp2
      go_roundw
      case rel => exact ⟨j + 1, by omega, by rw [← HD.out]; go_num, by go_num, rfl, hb.alloc hB _⟩
      case measure => simp [intOf]; omega
    · obtain rfl : j = k := by omega
      by_cases hz : n < 256 ^ j
      · have hz2 : ((n / 256 ^ j : Nat) : Int) ≤ 0 := by rw [Nat.div_eq_of_lt hz]; exact Int.le_refl _
        have HF := Lib.hid (encK_yes hz)
        clear hn63 hlen hz
        generalize n / 256 ^ j = m at hq hz2 ⊢
        go_wp2
        go_ret
        exact ⟨ret_string HF.out.symm, hb⟩
      · have hz2 : 0 < ((n / 256 ^ j : Nat) : Int) := by have := Nat.div_pos (a := n) (b := 256 ^ j) (by omega) (Nat.pow_pos (by omega)); omega
        have HF := Lib.hid (encK_no hz)
        clear hn63 hlen hz
        generalize n / 256 ^ j = m at hq hz2 ⊢
        go_wp2
        go_ret
        exact ⟨ret_string (a := []) HF.out.symm, hb⟩

set_option maxRecDepth 100000 in
theorem EncF.spec_none (n width : Int) (h : ¬ (1 ≤ width ∧ width ≤ 7) ∨ n < 0) (w : World) :
    Calls Try.prog 9 #[.int .i64 n, .int .i64 width] w fun e w' => e = .returned (.string ⟨#[]⟩) ∧ w = w' := by
  by_cases hw : 1 ≤ width ∧ width ≤ 7
  · have h1 : inB width 1 7 = true := inB_yes hw
    have hn : n < 0 := by omega
    clear h hw
    go_enter Try.func9, Try.ntmps9
    go_wp2_with (go_at_call 21; refine (Widths.inRange _ _ _ _).mono ?_; rintro e w' ⟨rfl, rfl⟩)
    go_ret
    exact ⟨rfl, rfl⟩
  · have h1 : inB width 1 7 = false := inB_no hw
    clear h hw
    go_enter Try.func9, Try.ntmps9
    go_wp2_with (go_at_call 21; refine (Widths.inRange _ _ _ _).mono ?_; rintro e w' ⟨rfl, rfl⟩)
    go_ret
    exact ⟨rfl, rfl⟩

theorem EncF.spec (n width : Int) (hn63 : n ≤ 9223372036854775807) (w : World) :
    Calls Try.prog 9 #[.int .i64 n, .int .i64 width] w fun e w' => e = .returned (.string ⟨(encF n width).toArray⟩) ∧ Below w.heap.size w w' := by
  by_cases h : ¬ (1 ≤ width ∧ width ≤ 7) ∨ n < 0
  · rw [encF_out n width h]
    exact (EncF.spec_none n width h w).mono fun e w' ⟨h1, h2⟩ => ⟨h1, h2 ▸ Below.refl _ _⟩
  · obtain ⟨k, rfl⟩ := Int.eq_ofNat_of_zero_le (a := width) (by omega)
    obtain ⟨m, rfl⟩ := Int.eq_ofNat_of_zero_le (a := n) (by omega)
    have hk : 1 ≤ k ∧ k ≤ 7 := by omega
    rw [encF_in k m hk]
    exact EncF.spec_in k m hk hn63 w
end Go.Proofs.Yteijcbpafmijfaa
