/-
  EncodeFixed of the program and of its model: both answer 'Plain.encF'.
-/
import Derived.Test.YteijcbpafmijfaaBase
import Derived.Test.YteijcbpafmijfaaNumA
import Derived.Deep.DeepMust
namespace Go.Proofs.Yteijcbpafmijfaa
open Go.RowKit Plain
set_option linter.unusedVariables false

theorem pow8 (k : Nat) : (2 : Int) ^ (8 * k) = ((256 ^ k : Nat) : Int) := by
  rw [Int.pow_mul]; norm_cast

set_option maxRecDepth 100000 in
set_option maxHeartbeats 1000000 in
theorem EncF.impl_in (k n : Nat) (hk : 1 ≤ k ∧ k ≤ 7) (hn : n < 256 ^ k) (w : World) :
    Calls Try.prog 10 #[.int .i64 n, .int .i64 k] w fun e w' => e = .returned (.string ⟨(be k n).toArray⟩) ∧ Below w.heap.size w w' := by
  have h1 : inB (k : Int) 1 7 = true := inB_yes (by omega)
  have hsh : ((n : Int) / 2 ^ (8 * k) != 0) = false := by
    rw [pow8, ← Int.natCast_ediv, Nat.div_eq_of_lt hn]; rfl
  have hn63 : (n : Int) ≤ 9223372036854775807 := by
    have : 256 ^ k ≤ 256 ^ 7 := Nat.pow_le_pow_right (by omega) hk.2
    omega
  clear hn
  obtain ⟨hk1, hk2⟩ := hk
  have h0 : decide ((n : Int) < 0) = false := by simp
  obtain ⟨i0, hi, hz0, hz1, hz2⟩ := info_parts Try.infoByte
  go_enter Try.func10, Try.ntmps10
  go_wp2_with (first
    | (go_at_call 22; refine (Widths.fixed _ _).mono ?_; rintro e w' ⟨rfl, rfl⟩)
    | (at_make; go_must (refine wpList_make_full _ rfl _ _ 36 rfl w.heap.size 5 i0 (.int .u8 0) 1 Try.underlying36 hi hz0 hz1 _ _ _ _ k rfl rfl rfl rfl (by rw [hz2]; omega) (by unfold maxLen; omega) (Nat.le_refl _) ?_; intro w1 hown hgrow)))
  have hrow := ByteRow.made hown
  have hb1 : Below w.heap.size w w1 := (Below.refl _ _).grown hgrow (Nat.le_refl _) (fun _ h => by cases h)
  clear hown hgrow hi hz0 hz1 hz2 h0 h1 hsh
  go_loopw [0, 6] (fun x i wr => ∃ j t : Nat, j + t = k ∧ x = .int .i64 ((n / 256 ^ j : Nat) : Int) ∧ i = .int .i64 ((t : Int) - 1) ∧ ByteRow wr w.heap.size (.slice (some ⟨w.heap.size, 0, none⟩) k k) (List.replicate t 0 ++ be j n) ∧ Below w.heap.size w wr) (fun _ i _ => (intOf i + 1).toNat)
  case atStart => exact ⟨0, k, by omega, by simp, rfl, by simpa [be] using hrow, hb1⟩
  case round =>
    obtain ⟨j, t, hjt, rfl, rfl, hrow, hb⟩ := hrel
    match t, hjt with
    | 0, hjt =>
      obtain rfl : j = k := by omega
      have gt := hrow.text
      simp only [List.replicate_zero, List.nil_append] at gt
      go_wp2
      go_ret
      exact ⟨rfl, hb⟩
    | t + 1, hjt =>
      have hq : ((n / 256 ^ j : Nat) : Int) ≤ 9223372036854775807 := by have := Nat.div_le_self n (256 ^ j); omega
      have e1 : ((t + 1 : Nat) : Int) - 1 = (t : Int) := by omega
      rw [e1]
      clear e1
      have hlen : (List.replicate (t + 1) (0 : UInt8) ++ be j n).length = k := by simp [be_len]; omega
      have hcell := hrow.cell hlen t (by omega)
      have hfree := hrow.free hlen t
      have hst := hrow.store hlen t (UInt8.ofNat (n / 256 ^ j % 256)) ((n / 256 ^ j : Nat) % 256) (by rw [u8_of _ (by omega)]; omega)
      have hlst : (List.replicate (t + 1) (0 : UInt8) ++ be j n).set t (UInt8.ofNat (n / 256 ^ j % 256)) = List.replicate t 0 ++ be (j + 1) n := set_zero t _ _
      rw [hlst] at hst
      have HD := Lib.hid (div_pow_succ n j)
      clear hlst hlen
      generalize n / 256 ^ j = m at hq hst HD ⊢
      go_wp2
      go_roundw
      case rel => exact ⟨j + 1, t, by omega, by rw [← HD.out]; go_num, rfl, hst.1, hb.setCell (Nat.le_refl _) _⟩
      case measure => simp [intOf]

theorem pow_up (k : Nat) : (256 : Int) ^ k = ((256 ^ k : Nat) : Int) := (Int.natCast_pow 256 k).symm

theorem encF_in (k n : Nat) (hk : 1 ≤ k ∧ k ≤ 7) : encF (n : Int) (k : Int) = encK k n := by
  unfold encF encK
  by_cases h : n < 256 ^ k
  · rw [if_pos ⟨by omega, by omega, by omega, by rw [Int.toNat_natCast, pow_up]; omega⟩, if_pos h]
    rfl
  · rw [if_neg h, if_neg]
    rintro ⟨_, _, _, h4⟩
    rw [Int.toNat_natCast, pow_up] at h4
    omega

theorem encF_out (n width : Int) (h : ¬ (1 ≤ width ∧ width ≤ 7) ∨ n < 0) : encF n width = [] := by
  unfold encF
  rw [if_neg]
  omega

set_option maxRecDepth 100000 in
theorem EncF.impl_none (n width : Int) (h : ¬ (1 ≤ width ∧ width ≤ 7) ∨ n < 0) (w : World) :
    Calls Try.prog 10 #[.int .i64 n, .int .i64 width] w fun e w' => e = .returned (.string ⟨#[]⟩) ∧ w = w' := by
  by_cases hw : 1 ≤ width ∧ width ≤ 7
  · have h1 : inB width 1 7 = true := inB_yes hw
    have hn : n < 0 := by omega
    clear h hw
    go_enter Try.func10, Try.ntmps10
    go_wp2_with (go_at_call 22; refine (Widths.fixed _ _).mono ?_; rintro e w' ⟨rfl, rfl⟩)
    go_ret
    exact ⟨rfl, rfl⟩
  · have h1 : inB width 1 7 = false := inB_no hw
    clear h hw
    go_enter Try.func10, Try.ntmps10
    go_wp2_with (go_at_call 22; refine (Widths.fixed _ _).mono ?_; rintro e w' ⟨rfl, rfl⟩)
    go_ret
    exact ⟨rfl, rfl⟩

set_option maxRecDepth 100000 in
set_option maxHeartbeats 1000000 in
theorem EncF.impl_great (k n : Nat) (hk : 1 ≤ k ∧ k ≤ 7) (hn : ¬ n < 256 ^ k) (w : World) :
    Calls Try.prog 10 #[.int .i64 n, .int .i64 k] w fun e w' => e = .returned (.string ⟨#[]⟩) ∧ w = w' := by
  have h1 : inB (k : Int) 1 7 = true := inB_yes (by omega)
  have hsh : ((n : Int) / 2 ^ (8 * k) != 0) = true := by
    rw [pow8, ← Int.natCast_ediv]
    have := Nat.div_pos (a := n) (b := 256 ^ k) (by omega) (Nat.pow_pos (by omega))
    rw [bne_iff_ne]
    omega
  clear hn
  obtain ⟨hk1, hk2⟩ := hk
  have h0 : decide ((n : Int) < 0) = false := by simp
  go_enter Try.func10, Try.ntmps10
  go_wp2_with (go_at_call 22; refine (Widths.fixed _ _).mono ?_; rintro e w' ⟨rfl, rfl⟩)
  go_ret
  exact ⟨rfl, rfl⟩

theorem EncF.impl (n width : Int) (hn63 : n ≤ 9223372036854775807) (w : World) :
    Calls Try.prog 10 #[.int .i64 n, .int .i64 width] w fun e w' => e = .returned (.string ⟨(encF n width).toArray⟩) ∧ Below w.heap.size w w' := by
  by_cases h : ¬ (1 ≤ width ∧ width ≤ 7) ∨ n < 0
  · rw [encF_out n width h]
    exact (EncF.impl_none n width h w).mono fun e w' ⟨h1, h2⟩ => ⟨h1, h2 ▸ Below.refl _ _⟩
  · obtain ⟨k, rfl⟩ := Int.eq_ofNat_of_zero_le (a := width) (by omega)
    obtain ⟨m, rfl⟩ := Int.eq_ofNat_of_zero_le (a := n) (by omega)
    have hk : 1 ≤ k ∧ k ≤ 7 := by omega
    rw [encF_in k m hk]
    by_cases hm : m < 256 ^ k
    · rw [encK_yes hm]; exact EncF.impl_in k m hk hm w
    · rw [encK_no hm]; exact (EncF.impl_great k m hk hm w).mono fun e w' ⟨h1, h2⟩ => ⟨h1, h2 ▸ Below.refl _ _⟩
end Go.Proofs.Yteijcbpafmijfaa
