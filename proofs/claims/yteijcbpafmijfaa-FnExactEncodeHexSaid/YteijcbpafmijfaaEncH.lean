/-
  EncodeHex of the program and of its model: both answer 'Plain.encH'.
-/
import Derived.Test.YteijcbpafmijfaaBase
import Derived.Test.YteijcbpafmijfaaNumA
import Derived.Deep.DeepMust
import Derived.Deep.RegionLaw
import Derived.Test.YteijcbpafmijfaaEncHI
namespace Go.Proofs.Yteijcbpafmijfaa
open Go.RowKit Plain
set_option linter.unusedVariables false
set_option maxRecDepth 100000 in
theorem Hex.digit (k : Nat) (hk : (k : Int) < 16) (w : World) :
    Calls Try.prog 23 #[.int .i64 k] w fun e w' => e = .returned (.int .u8 (hexOf k).toNat) ∧ w = w' := by
  have hx := digit_pos k (by omega)
  clear hk
  go_enter Try.func23, Try.ntmps23
  go_wp2
  go_ret
  exact ⟨rfl, rfl⟩

set_option maxRecDepth 100000 in
set_option maxHeartbeats 1000000 in
theorem EncH.spec (s : ByteArray) (hs : (s.size : Int) ≤ 4000000) (w : World) :
    Calls Try.prog 17 #[.string s] w fun e w' => e = .returned (.string ⟨(encH s.data.toList).toArray⟩) ∧ Below w.heap.size w w' := by
  go_enter Try.func17, Try.ntmps17
  go_wp2
  go_loopw [3, 4] (fun v i wr => ∃ j : Nat, j ≤ s.size ∧ i = .int .i64 (j : Int) ∧ ByteRow wr w.heap.size v (encH (s.data.toList.take j)) ∧ Below w.heap.size w wr) (fun _ i _ => s.size - (intOf i).toNat)
  case atStart => exact ⟨0, by omega, rfl, World.ownsRow_lit w _ 0 (Nat.le_refl _) (by unfold maxLen; omega) rfl, (Below.refl _ _).alloc (Nat.le_refl _) _⟩
  case round =>
    obtain ⟨j, hj, rfl, hrow, hb⟩ := hrel
    have hB := hb.size
    by_cases hlt : j < s.size
    · have hts := take_snoc s j hlt
      have HE : Hid (encH (s.data.toList.take (j + 1)) = encH (s.data.toList.take j) ++ [hexOf (s[j].toNat / 16), hexOf (s[j].toNat % 16)]) := Lib.hid (by rw [hts, encH_snoc])
      have hlen : (encH (s.data.toList.take j)).length ≤ 100000000 := by rw [encH_len, List.length_take, Nat.min_eq_left (by simpa using hj)]; omega
      have HL := Lib.hid hlen
      have hc : (s[j].toNat : Int) < 256 := by have := s[j].toNat_lt; omega
      have hd1 := (hexOf (s[j].toNat / 16)).toNat_lt
      have hd2 := (hexOf (s[j].toNat % 16)).toNat_lt
      clear hts hlen
      have h1 := Hex.digit (s[j].toNat / 16) (by omega)
      have h2 := Hex.digit (s[j].toNat % 16) (by omega)
      rw [show ((s[j].toNat / 16 : Nat) : Int) = (s[j].toNat : Int) / 16 from rfl] at h1
      rw [show ((s[j].toNat % 16 : Nat) : Int) = (s[j].toNat : Int) % 16 from rfl] at h2
      have H1 := Lib.hid h1
      have H2 := Lib.hid h2
      clear h1 h2
      have hB2 : w.heap.size ≤ wr.drew.heap.size := by simpa using hB
      have he1 : 0 ≤ ((hexOf (s[j].toNat / 16)).toNat : Int) ∧ ((hexOf (s[j].toNat / 16)).toNat : Int) ≤ 255 := by omega
      have he2 : 0 ≤ ((hexOf (s[j].toNat % 16)).toNat : Int) ∧ ((hexOf (s[j].toNat % 16)).toNat : Int) ≤ 255 := by omega
      have hw1 : IntKind.i64.wrap ((s[j].toNat : Int) / 16) = (s[j].toNat : Int) / 16 := IntWalk.i64_in _ (by omega)
      have hw2 : IntKind.i64.wrap (s[j].toNat : Int) = (s[j].toNat : Int) := IntWalk.i64_in _ (by omega)
      have hw4 : (s[j].toNat : Int).tmod 16 = (s[j].toNat : Int) % 16 := IntWalk.rem_in _ _ (by omega)
      go_wp2
      go_region_law (first
        | (refine step_two rfl _ _ rfl w.heap.size w wr.drew _ _ _ _ _ hrow.drew hb.drew hB2 HL.out he1 he2 rfl rfl rfl ?_; intro v1 w1 g1 g2 g3)
        | (go_simp; go_at_call 23; (with_reducible refine (H1.out _).mono ?_); rintro e w' ⟨rfl, rfl⟩)
        | (go_simp; go_at_call 23; (with_reducible refine (H2.out _).mono ?_); rintro e w' ⟨rfl, rfl⟩))
      all_goals
        clear hw1 hw2 hw4
        rw [of_up, of_up, ← HE.out] at g1
        go_wp2
        go_roundw
        case rel => exact ⟨j + 1, by omega, by go_num, g1, g2⟩
        case measure => simp [intOf]; omega
    · obtain rfl : j = s.size := by omega
      have gt := hrow.text
      rw [List.take_of_length_le (by simp)] at gt
      clear hs
      go_wp2
      go_ret
      exact ⟨rfl, hb⟩
end Go.Proofs.Yteijcbpafmijfaa
