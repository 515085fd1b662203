/-
  DecodeVarint of the program and of its model: both answer 'Plain.decN' and 'Plain.decK'.
-/
import Derived.Test.YteijcbpafmijfaaEncV
import Derived.Test.YteijcbpafmijfaaBits
import Derived.Test.YteijcbpafmijfaaPlainV
import Derived.Deep.DeepMust
import Derived.Deep.RegionWith
import Derived.Lib.Strings
import Derived.Test.YteijcbpafmijfaaDecVI
namespace Go.Proofs.Yteijcbpafmijfaa
open Go.RowKit Plain
set_option linter.unusedVariables false
set_option maxRecDepth 100000 in
set_option maxHeartbeats 1000000 in
theorem DecV.spec (s : ByteArray) (hs : (s.size : Int) ≤ 4000000) (w : World) :
    Calls Try.prog 15 #[.string s] w fun e w' => e = .returned (.tuple #[.int .i64 (decN s.data.toList), .int .i64 (decK s.data.toList)]) ∧ Below w.heap.size w w' := by
  go_enter Try.func15, Try.ntmps15
  go_wp2
  go_loopw [4] (fun i wr => ∃ k : Nat, 1 ≤ k ∧ k ≤ 8 ∧ i = .int .i64 (k : Int) ∧ (∀ j, j < k → isV s.data.toList j = false) ∧ Below w.heap.size w wr) (fun i _ => 8 - (intOf i).toNat)
  case atStart => exact ⟨1, by omega, by omega, rfl, (fun j hj => (show j = 0 by omega) ▸ isV_zero _), Below.refl _ _⟩
  case round =>
    obtain ⟨k, hk1, hk8, rfl, hno, hb⟩ := hrel
    have HNO := Lib.hid hno
    clear hno
    have hB := hb.size
    by_cases hlt : k ≤ 7 ∧ k ≤ s.size
    · obtain ⟨hlt7, hks⟩ := hlt
      clear hs
      go_wp2
      obtain ⟨wo, rfl⟩ : ∃ wo : World, wo = wr := ⟨_, rfl⟩
      go_loop [5, 6] (fun n i => ∃ t : Nat, t ≤ k ∧ i = .int .i64 ((t : Int) - 1) ∧ n = .int .i64 (lo ((s.data.toList.take k).drop t) : Int)) (fun _ i => (intOf i + 1).toNat)
      case atStart => exact ⟨k, by omega, by go_num, by rw [List.drop_of_length_le (List.length_take_le _ _)]; rfl⟩
      case round =>
        obtain ⟨t, htk, rfl, rfl⟩ := hrel
        match t, htk with
        | t + 1, htk =>
          have hts : t < s.size := by omega
          have hd := lo_drop s k t (by omega) hks hts
          have hl := lo_lt ((s.data.toList.take k).drop (t + 1))
          have hl2 : (lo ((s.data.toList.take k).drop (t + 1)) : Int) * 128 ≤ 4611686018427387904 := by
            have : ((s.data.toList.take k).drop (t + 1)).length ≤ 6 := by rw [List.length_drop, List.length_take]; omega
            have := Nat.pow_le_pow_right (n := 128) (by omega) this
            omega
          have HD := Lib.hid hd
          have e1 : ((t + 1 : Nat) : Int) - 1 = (t : Int) := by omega
          have hc : (s[t].toNat : Int) < 256 := by have := s[t].toNat_lt; omega
          rw [e1]
          clear e1 hd hl
          generalize lo ((s.data.toList.take k).drop (t + 1)) = m at hl2 HD ⊢
          go_wp2
          go_round
          case rel => exact ⟨t, by omega, rfl, by rw [HD.out]; go_num⟩
          case measure => simp [intOf]
        | 0, htk =>
          have hlk : lo (s.data.toList.take k) ≤ 562949953421311 := by
            have := lo_lt (s.data.toList.take k)
            have h2 : (s.data.toList.take k).length ≤ 7 := by rw [List.length_take]; omega
            have := Nat.pow_le_pow_right (n := 128) (by omega) h2
            omega
          have HL := Lib.hid hlk
          clear hlk
          rw [List.drop_zero]
          have q1 : (k : Int) ≤ (s.size : Int) := by omega
          go_wp2
          go_region_with (go_at_call 13; refine (EncV.spec_in _ HL.out _).mono ?_; rintro e w' ⟨rfl, hb2⟩)
          go_wp2
          · have ht : (vbytes (lo (s.data.toList.take k)) == (s.extract 0 k).toList) = true := by assumption
            have hv2 := isV_of_false (s := s) hks (by rw [ht]; rfl)
            have HK := decK_yes hlt7 hv2 HNO.out
            have HN := decN_yes HK hk1
            go_ret2
            exact ⟨ret_ints (by rw [HN]) (by rw [HK]), hb.drew.trans (hb2.mono hB)⟩
          · have ht : (vbytes (lo (s.data.toList.take k)) == (s.extract 0 k).toList) = false := by assumption
            have hv2 := isV_of_true (s := s) (k := k) (by rw [ht]; rfl)
            go_roundw
            case rel => exact ⟨k + 1, by omega, by omega, by go_num, isV_upto HNO.out hv2, hb.drew.trans (hb2.mono hB)⟩
            case measure => simp [intOf]; omega
    · have HK := decK_no (s := s.data.toList) (fun i hi => isV_end HNO.out (by omega) i hi)
      have HN := decN_no HK
      have HK' := Lib.hid HK
      have HN' := Lib.hid HN
      clear HK HN
      clear hs
      go_wp2
      all_goals
        go_ret2
        exact ⟨ret_ints (by rw [HN'.out]; rfl) (by rw [HK'.out]; rfl), hb⟩
end Go.Proofs.Yteijcbpafmijfaa
