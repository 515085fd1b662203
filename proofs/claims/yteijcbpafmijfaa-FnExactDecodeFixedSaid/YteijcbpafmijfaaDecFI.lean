/-
  DecodeFixed of the program and of its model: both answer 'Plain.beN' of the first bytes, or none.
-/
import Derived.Test.YteijcbpafmijfaaBase
import Derived.Test.YteijcbpafmijfaaNumA
import Derived.Test.YteijcbpafmijfaaBits
import Derived.Deep.DeepMust
namespace Go.Proofs.Yteijcbpafmijfaa
open Go.RowKit Plain
set_option linter.unusedVariables false

theorem ret_pair {k : IntKind} {a b : Int} {x y : Bool} (h : a = b) (g : x = y) : Ending.returned (.tuple #[.int k a, .bool x]) = .returned (.tuple #[.int k b, .bool y]) := by rw [h, g]

set_option maxRecDepth 100000 in
set_option maxHeartbeats 1000000 in
theorem DecF.impl_in (s : ByteArray) (k : Nat) (hk : 1 ≤ k ∧ k ≤ 7) (hs : s.size ≤ 1048576) (hks : k ≤ s.size) (w : World) :
    Calls Try.prog 12 #[.string s, .int .i64 k] w fun e w' => e = .returned (.tuple #[.int .i64 (beN (s.data.toList.take k)), .bool true]) ∧ w = w' := by
  have h1 : inB (k : Int) 1 7 = true := inB_yes (by omega)
  obtain ⟨hk1, hk2⟩ := hk
  have h0 : decide (s.size < k) = false := by simp; omega
  go_enter Try.func12, Try.ntmps12
  go_wp2_with (go_at_call 22; refine (Widths.fixed _ _).mono ?_; rintro e w' ⟨rfl, rfl⟩)
  clear h0 h1
  go_loop [6, 18] (fun n i => ∃ j : Nat, j ≤ k ∧ i = .int .i64 (j : Int) ∧ n = .int .i64 (beN (s.data.toList.take j) : Int)) (fun _ i => k - (intOf i).toNat)
  case atStart => exact ⟨0, Nat.zero_le _, rfl, rfl⟩
  case round =>
    obtain ⟨j, hj, rfl, rfl⟩ := hrel
    by_cases hlt : j < k
    · have hjs : j < s.size := by omega
      have hts := take_snoc s j hjs
      have hb := beN_lt j (s.data.toList.take j) (by simp; omega)
      have hn63 : (beN (s.data.toList.take j) : Int) * 256 + 256 ≤ 9223372036854775807 := by
        have : 256 ^ j ≤ 256 ^ 6 := Nat.pow_le_pow_right (by omega) (by omega)
        omega
      have HE : Hid ((beN (s.data.toList.take (j + 1)) : Int) = (beN (s.data.toList.take j) : Int) * 256 + (s[j].toNat : Int)) := by
        refine Lib.hid ?_
        rw [hts, beN_snoc]; omega
      have hc : (s[j].toNat : Int) < 256 := by have := s[j].toNat_lt; omega
      clear hts hb hs hks
      have HO := Lib.hid (or64 (beN (s.data.toList.take j) * 256) (s[j].toNat) (by omega) (by omega))
      have HP := Lib.hid (or_shift (beN (s.data.toList.take j)) s[j].toNat (by omega))
      generalize beN (s.data.toList.take j) = m at hn63 HE HO HP ⊢
      go_wp2
      go_round
      case rel => exact ⟨j + 1, by omega, by go_num, by rw [HE.out, show (m : Int) * 256 = ((m * 256 : Nat) : Int) by omega, HO.out, HP.out]; go_num⟩
      case measure => simp [intOf]; omega
    · obtain rfl : j = k := by omega
      clear hs hks
      go_wp2
      go_ret2
      exact ⟨rfl, rfl⟩

def decOk (s : ByteArray) (width : Int) : Prop := 1 ≤ width ∧ width ≤ 7 ∧ width ≤ (s.size : Int)
instance (s : ByteArray) (width : Int) : Decidable (decOk s width) := by unfold decOk; exact inferInstance

set_option maxRecDepth 100000 in
theorem DecF.impl_out (s : ByteArray) (width : Int) (h : ¬ decOk s width) (w : World) :
    Calls Try.prog 12 #[.string s, .int .i64 width] w fun e w' => e = .returned (.tuple #[.int .i64 0, .bool false]) ∧ w = w' := by
  unfold decOk at h
  by_cases hw : 1 ≤ width ∧ width ≤ 7
  · have h1 : inB width 1 7 = true := inB_yes hw
    have hn : (s.size : Int) < width := by omega
    clear h hw
    go_enter Try.func12, Try.ntmps12
    go_wp2_with (go_at_call 22; refine (Widths.fixed _ _).mono ?_; rintro e w' ⟨rfl, rfl⟩)
    go_ret2
    exact ⟨rfl, rfl⟩
  · have h1 : inB width 1 7 = false := inB_no hw
    clear h hw
    go_enter Try.func12, Try.ntmps12
    go_wp2_with (go_at_call 22; refine (Widths.fixed _ _).mono ?_; rintro e w' ⟨rfl, rfl⟩)
    go_ret2
    exact ⟨rfl, rfl⟩

/-- What DecodeFixed answers: the number and whether there is one. -/
def decF (s : ByteArray) (width : Int) : Int × Bool := if decOk s width then ((beN (s.data.toList.take width.toNat) : Int), true) else (0, false)
theorem decF_yes {s : ByteArray} {k : Nat} (h : decOk s k) : decF s k = ((beN (s.data.toList.take k) : Int), true) := if_pos h
theorem decF_no {s : ByteArray} {width : Int} (h : ¬ decOk s width) : decF s width = (0, false) := if_neg h

theorem DecF.impl (s : ByteArray) (width : Int) (hs : s.size ≤ 1048576) (w : World) :
    Calls Try.prog 12 #[.string s, .int .i64 width] w fun e w' => e = .returned (.tuple #[.int .i64 (decF s width).1, .bool (decF s width).2]) ∧ w = w' := by
  by_cases h : decOk s width
  · obtain ⟨k, rfl⟩ := Int.eq_ofNat_of_zero_le (a := width) (by unfold decOk at h; omega)
    rw [decF_yes h]
    unfold decOk at h
    exact DecF.impl_in s k (by omega) hs (by omega) w
  · rw [decF_no h]
    exact DecF.impl_out s width h w
end Go.Proofs.Yteijcbpafmijfaa
