/-
  DecodeHex of the program and of its model: both answer 'Plain.decH'.
-/
import Derived.Test.YteijcbpafmijfaaEncH
import Derived.Lib.OthersKept
import Derived.Test.YteijcbpafmijfaaDecHI
namespace Go.Proofs.Yteijcbpafmijfaa
open Go.RowKit Plain
set_option linter.unusedVariables false
set_option maxRecDepth 100000 in
set_option maxHeartbeats 1000000 in
theorem Hex.back (c : UInt8) (w : World) :
    Calls Try.prog 24 #[.int .u8 c.toNat] w fun e w' => e = .returned (.int .i64 (digitOf c.toNat)) ∧ w = w' := by
  go_enter Try.func24, Try.ntmps24
  go_wp2
  go_loop [3] (fun i => ∃ k : Nat, k ≤ 16 ∧ i = .int .i64 (k : Int) ∧ ∀ j, j < k → hexOf j ≠ c) (fun i => 16 - (intOf i).toNat)
  case atStart => exact ⟨0, by omega, rfl, fun j hj => by omega⟩
  case round =>
    obtain ⟨k, hk, rfl, hno⟩ := hrel
    have HNO := Lib.hid hno
    clear hno
    by_cases hlt : k < 16
    · by_cases he : hexOf k = c
      · have HV : Hid (digitOf c.toNat = (k : Int)) := Lib.hid (by rw [← he]; exact digitOf_hexOf k hlt)
        have ht : (((hexOf k).toNat : Int) == (c.toNat : Int)) = true := by rw [he]; simp
        clear he
        go_wp2_with (go_at_call 23; refine (Hex.digit k (by omega) _).mono ?_; rintro e w' ⟨rfl, rfl⟩)
        go_ret
        exact ⟨ret_int (by rw [HV.out]), rfl⟩
      · have ht : (((hexOf k).toNat : Int) == (c.toNat : Int)) = false := by
          rw [beq_eq_false_iff_ne]
          intro h
          exact he (UInt8.toNat_inj.1 (by omega))
        have HN2 : Hid (∀ j, j < k + 1 → hexOf j ≠ c) := Lib.hid (by
          intro j hj
          by_cases e : j = k
          · rw [e]; exact he
          · exact HNO.out j (by omega))
        clear he
        go_wp2_with (go_at_call 23; refine (Hex.digit k (by omega) _).mono ?_; rintro e w' ⟨rfl, rfl⟩)
        go_round
        case rel => exact ⟨k + 1, by omega, by go_num, HN2.out⟩
        case measure => simp [intOf]; omega
    · have HV : Hid (digitOf c.toNat = -1) := Lib.hid (by
        by_cases h : 0 ≤ digitOf c.toNat
        · obtain ⟨m, hm⟩ := Int.eq_ofNat_of_zero_le h
          have h1 := hexOf_digitOf c m hm
          have h2 := digitOf_le (c.toNat : Int)
          exact absurd h1 (HNO.out m (by omega))
        · have := digitOf_ge (c.toNat : Int); omega)
      go_wp2
      go_ret
      exact ⟨ret_int (by rw [HV.out]), rfl⟩

set_option maxRecDepth 100000 in
set_option maxHeartbeats 2000000 in
theorem DecH.spec (s : ByteArray) (hs : (s.size : Int) ≤ 4000000) (w : World) :
    Calls Try.prog 19 #[.string s] w fun e w' => e = .returned (.tuple #[.string ⟨(decText s.data.toList).toArray⟩, .bool (decFine s.data.toList)]) ∧ Below w.heap.size w w' := by
  by_cases hodd : s.size % 2 = 1
  · have HD := Lib.hid (dec_none (decH_odd s.size s.data.toList (by simp) (by simpa using hodd)))
    have ht : ((s.size : Int) % 2 == 1) = true := by rw [beq_iff_eq]; omega
    clear hodd
    go_enter Try.func19, Try.ntmps19
    go_wp2
    go_ret2
    exact ⟨ret_text (a := []) HD.out.1 HD.out.2, (Below.refl _ _).alloc (Nat.le_refl _) _⟩
  · have ht : ((s.size : Int) % 2 == 1) = false := by rw [beq_eq_false_iff_ne]; omega
    have heven : s.size % 2 = 0 := by omega
    have HE := Lib.hid heven
    clear hodd heven
    go_enter Try.func19, Try.ntmps19
    go_wp2
    clear ht
    go_loopw [4, 5] (fun v i wr => ∃ (p : Nat) (acc : List UInt8), p % 2 = 0 ∧ p ≤ s.size ∧ acc.length ≤ p ∧ i = .int .i64 (p : Int) ∧ HRest s.data.toList p acc ∧ ByteRow wr w.heap.size v acc ∧ Below w.heap.size w wr) (fun _ i _ => s.size - (intOf i).toNat)
    case atStart => exact ⟨0, [], by omega, by omega, by simp, rfl, HRest.start _, World.ownsRow_lit w _ 0 (Nat.le_refl _) (by unfold maxLen; omega) rfl, (Below.refl _ _).alloc (Nat.le_refl _) _⟩
    case round =>
      obtain ⟨p, acc, hp2, hps, hal, rfl, hr, hrow, hb⟩ := hrel
      have hB := hb.size
      have hev := HE.out
      by_cases hlt : p < s.size
      · have hlt2 : p + 1 < s.size := by omega
        have HR := Lib.hid hr
        have hd1 := digitOf_le (s[p].toNat : Int)
        have hd2 := digitOf_le (s[p + 1].toNat : Int)
        have g1 := digitOf_ge (s[p].toNat : Int)
        have g2 := digitOf_ge (s[p + 1].toNat : Int)
        by_cases h1 : digitOf (s[p].toNat : Int) < 0
        · have HD := Lib.hid (dec_none (hr.bad s[p] (at_list s p hlt) h1))
          clear hev hp2 hr
          go_wp2_with (go_at_call 24; refine (Hex.back _ _).mono ?_; rintro e w' ⟨rfl, rfl⟩)
          go_ret2
          exact ⟨ret_text (a := []) HD.out.1 HD.out.2, hb⟩
        · have h1' : 0 ≤ digitOf (s[p].toNat : Int) := by omega
          clear h1
          by_cases h2 : digitOf (s[p + 1].toNat : Int) < 0
          · have HD := Lib.hid (dec_none (hr.bad2 s[p + 1] (at_list s (p + 1) hlt2) h2))
            clear hev hp2 hr
            go_wp2_with (go_at_call 24; refine (Hex.back _ _).mono ?_; rintro e w' ⟨rfl, rfl⟩)
            go_ret2
            exact ⟨ret_text (a := []) HD.out.1 HD.out.2, hb⟩
          · have h2' : 0 ≤ digitOf (s[p + 1].toNat : Int) := by omega
            clear h2
            have HN := Lib.hid (hr.next s[p] s[p + 1] (at_list s p hlt) (at_list s (p + 1) hlt2) h1' h2')
            have HQ := Lib.hid hp2
            have hc : 0 ≤ 16 * digitOf (s[p].toNat : Int) + digitOf (s[p + 1].toNat : Int) ∧ 16 * digitOf (s[p].toNat : Int) + digitOf (s[p + 1].toNat : Int) ≤ 255 := by omega
            clear hev hp2 hr
            go_wp2_with (first
              | (go_at_call 24; refine (Hex.back _ _).mono ?_; rintro e w' ⟨rfl, rfl⟩)
              | (at_builtin; go_must (refine wp_byte rfl _ _ rfl w.heap.size w _ _ acc (16 * digitOf (s[p].toNat : Int) + digitOf (s[p + 1].toNat : Int)) _ hrow hb hB hc (by omega) rfl rfl rfl ?_; intro v1 w1 k1 k2 k3)))
            go_roundw
            case rel => exact ⟨p + 2, _, by have := HQ.out; omega, by omega, by simp; omega, by go_num, HN.out, k1, k2⟩
            case measure => simp [intOf]; omega
      · obtain rfl : p = s.size := by omega
        have HD := Lib.hid (dec_some (hr.last (by simp)))
        have gt := hrow.text
        clear hev hp2 hr
        go_wp2
        go_ret2
        exact ⟨ret_text HD.out.1 HD.out.2, hb⟩
end Go.Proofs.Yteijcbpafmijfaa
