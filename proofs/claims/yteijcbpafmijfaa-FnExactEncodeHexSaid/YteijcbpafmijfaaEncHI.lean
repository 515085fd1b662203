/-
  EncodeHex of the program and of its model: both answer 'Plain.encH'.
-/
import Derived.Test.YteijcbpafmijfaaBase
import Derived.Test.YteijcbpafmijfaaNumA
import Derived.Deep.DeepMust
import Derived.Deep.RegionLaw
namespace Go.Proofs.Yteijcbpafmijfaa
open Go.RowKit Plain
set_option linter.unusedVariables false

theorem digit_run0 (W : World) : (Instr.index 9 (.string { data := #[48, 49, 50, 51, 52, 53, 54, 55, 56, 57, 97, 98, 99, 100, 101, 102] }) (.int .u8 0)).run Try.prog W = .ok (.int .u8 ((hexOf 0).toNat : Int)) W := by kernel_rfl
theorem digit_run1 (W : World) : (Instr.index 9 (.string { data := #[48, 49, 50, 51, 52, 53, 54, 55, 56, 57, 97, 98, 99, 100, 101, 102] }) (.int .u8 1)).run Try.prog W = .ok (.int .u8 ((hexOf 1).toNat : Int)) W := by kernel_rfl
theorem digit_run2 (W : World) : (Instr.index 9 (.string { data := #[48, 49, 50, 51, 52, 53, 54, 55, 56, 57, 97, 98, 99, 100, 101, 102] }) (.int .u8 2)).run Try.prog W = .ok (.int .u8 ((hexOf 2).toNat : Int)) W := by kernel_rfl
theorem digit_run3 (W : World) : (Instr.index 9 (.string { data := #[48, 49, 50, 51, 52, 53, 54, 55, 56, 57, 97, 98, 99, 100, 101, 102] }) (.int .u8 3)).run Try.prog W = .ok (.int .u8 ((hexOf 3).toNat : Int)) W := by kernel_rfl
theorem digit_run4 (W : World) : (Instr.index 9 (.string { data := #[48, 49, 50, 51, 52, 53, 54, 55, 56, 57, 97, 98, 99, 100, 101, 102] }) (.int .u8 4)).run Try.prog W = .ok (.int .u8 ((hexOf 4).toNat : Int)) W := by kernel_rfl
theorem digit_run5 (W : World) : (Instr.index 9 (.string { data := #[48, 49, 50, 51, 52, 53, 54, 55, 56, 57, 97, 98, 99, 100, 101, 102] }) (.int .u8 5)).run Try.prog W = .ok (.int .u8 ((hexOf 5).toNat : Int)) W := by kernel_rfl
theorem digit_run6 (W : World) : (Instr.index 9 (.string { data := #[48, 49, 50, 51, 52, 53, 54, 55, 56, 57, 97, 98, 99, 100, 101, 102] }) (.int .u8 6)).run Try.prog W = .ok (.int .u8 ((hexOf 6).toNat : Int)) W := by kernel_rfl
theorem digit_run7 (W : World) : (Instr.index 9 (.string { data := #[48, 49, 50, 51, 52, 53, 54, 55, 56, 57, 97, 98, 99, 100, 101, 102] }) (.int .u8 7)).run Try.prog W = .ok (.int .u8 ((hexOf 7).toNat : Int)) W := by kernel_rfl
theorem digit_run8 (W : World) : (Instr.index 9 (.string { data := #[48, 49, 50, 51, 52, 53, 54, 55, 56, 57, 97, 98, 99, 100, 101, 102] }) (.int .u8 8)).run Try.prog W = .ok (.int .u8 ((hexOf 8).toNat : Int)) W := by kernel_rfl
theorem digit_run9 (W : World) : (Instr.index 9 (.string { data := #[48, 49, 50, 51, 52, 53, 54, 55, 56, 57, 97, 98, 99, 100, 101, 102] }) (.int .u8 9)).run Try.prog W = .ok (.int .u8 ((hexOf 9).toNat : Int)) W := by kernel_rfl
theorem digit_run10 (W : World) : (Instr.index 9 (.string { data := #[48, 49, 50, 51, 52, 53, 54, 55, 56, 57, 97, 98, 99, 100, 101, 102] }) (.int .u8 10)).run Try.prog W = .ok (.int .u8 ((hexOf 10).toNat : Int)) W := by kernel_rfl
theorem digit_run11 (W : World) : (Instr.index 9 (.string { data := #[48, 49, 50, 51, 52, 53, 54, 55, 56, 57, 97, 98, 99, 100, 101, 102] }) (.int .u8 11)).run Try.prog W = .ok (.int .u8 ((hexOf 11).toNat : Int)) W := by kernel_rfl
theorem digit_run12 (W : World) : (Instr.index 9 (.string { data := #[48, 49, 50, 51, 52, 53, 54, 55, 56, 57, 97, 98, 99, 100, 101, 102] }) (.int .u8 12)).run Try.prog W = .ok (.int .u8 ((hexOf 12).toNat : Int)) W := by kernel_rfl
theorem digit_run13 (W : World) : (Instr.index 9 (.string { data := #[48, 49, 50, 51, 52, 53, 54, 55, 56, 57, 97, 98, 99, 100, 101, 102] }) (.int .u8 13)).run Try.prog W = .ok (.int .u8 ((hexOf 13).toNat : Int)) W := by kernel_rfl
theorem digit_run14 (W : World) : (Instr.index 9 (.string { data := #[48, 49, 50, 51, 52, 53, 54, 55, 56, 57, 97, 98, 99, 100, 101, 102] }) (.int .u8 14)).run Try.prog W = .ok (.int .u8 ((hexOf 14).toNat : Int)) W := by kernel_rfl
theorem digit_run15 (W : World) : (Instr.index 9 (.string { data := #[48, 49, 50, 51, 52, 53, 54, 55, 56, 57, 97, 98, 99, 100, 101, 102] }) (.int .u8 15)).run Try.prog W = .ok (.int .u8 ((hexOf 15).toNat : Int)) W := by kernel_rfl
theorem digit_pos0 (W : World) : (Instr.index 9 (.string { data := #[48, 49, 50, 51, 52, 53, 54, 55, 56, 57, 97, 98, 99, 100, 101, 102] }) (.int .i64 0)).run Try.prog W = .ok (.int .u8 ((hexOf 0).toNat : Int)) W := by kernel_rfl
theorem digit_pos1 (W : World) : (Instr.index 9 (.string { data := #[48, 49, 50, 51, 52, 53, 54, 55, 56, 57, 97, 98, 99, 100, 101, 102] }) (.int .i64 1)).run Try.prog W = .ok (.int .u8 ((hexOf 1).toNat : Int)) W := by kernel_rfl
theorem digit_pos2 (W : World) : (Instr.index 9 (.string { data := #[48, 49, 50, 51, 52, 53, 54, 55, 56, 57, 97, 98, 99, 100, 101, 102] }) (.int .i64 2)).run Try.prog W = .ok (.int .u8 ((hexOf 2).toNat : Int)) W := by kernel_rfl
theorem digit_pos3 (W : World) : (Instr.index 9 (.string { data := #[48, 49, 50, 51, 52, 53, 54, 55, 56, 57, 97, 98, 99, 100, 101, 102] }) (.int .i64 3)).run Try.prog W = .ok (.int .u8 ((hexOf 3).toNat : Int)) W := by kernel_rfl
theorem digit_pos4 (W : World) : (Instr.index 9 (.string { data := #[48, 49, 50, 51, 52, 53, 54, 55, 56, 57, 97, 98, 99, 100, 101, 102] }) (.int .i64 4)).run Try.prog W = .ok (.int .u8 ((hexOf 4).toNat : Int)) W := by kernel_rfl
theorem digit_pos5 (W : World) : (Instr.index 9 (.string { data := #[48, 49, 50, 51, 52, 53, 54, 55, 56, 57, 97, 98, 99, 100, 101, 102] }) (.int .i64 5)).run Try.prog W = .ok (.int .u8 ((hexOf 5).toNat : Int)) W := by kernel_rfl
theorem digit_pos6 (W : World) : (Instr.index 9 (.string { data := #[48, 49, 50, 51, 52, 53, 54, 55, 56, 57, 97, 98, 99, 100, 101, 102] }) (.int .i64 6)).run Try.prog W = .ok (.int .u8 ((hexOf 6).toNat : Int)) W := by kernel_rfl
theorem digit_pos7 (W : World) : (Instr.index 9 (.string { data := #[48, 49, 50, 51, 52, 53, 54, 55, 56, 57, 97, 98, 99, 100, 101, 102] }) (.int .i64 7)).run Try.prog W = .ok (.int .u8 ((hexOf 7).toNat : Int)) W := by kernel_rfl
theorem digit_pos8 (W : World) : (Instr.index 9 (.string { data := #[48, 49, 50, 51, 52, 53, 54, 55, 56, 57, 97, 98, 99, 100, 101, 102] }) (.int .i64 8)).run Try.prog W = .ok (.int .u8 ((hexOf 8).toNat : Int)) W := by kernel_rfl
theorem digit_pos9 (W : World) : (Instr.index 9 (.string { data := #[48, 49, 50, 51, 52, 53, 54, 55, 56, 57, 97, 98, 99, 100, 101, 102] }) (.int .i64 9)).run Try.prog W = .ok (.int .u8 ((hexOf 9).toNat : Int)) W := by kernel_rfl
theorem digit_pos10 (W : World) : (Instr.index 9 (.string { data := #[48, 49, 50, 51, 52, 53, 54, 55, 56, 57, 97, 98, 99, 100, 101, 102] }) (.int .i64 10)).run Try.prog W = .ok (.int .u8 ((hexOf 10).toNat : Int)) W := by kernel_rfl
theorem digit_pos11 (W : World) : (Instr.index 9 (.string { data := #[48, 49, 50, 51, 52, 53, 54, 55, 56, 57, 97, 98, 99, 100, 101, 102] }) (.int .i64 11)).run Try.prog W = .ok (.int .u8 ((hexOf 11).toNat : Int)) W := by kernel_rfl
theorem digit_pos12 (W : World) : (Instr.index 9 (.string { data := #[48, 49, 50, 51, 52, 53, 54, 55, 56, 57, 97, 98, 99, 100, 101, 102] }) (.int .i64 12)).run Try.prog W = .ok (.int .u8 ((hexOf 12).toNat : Int)) W := by kernel_rfl
theorem digit_pos13 (W : World) : (Instr.index 9 (.string { data := #[48, 49, 50, 51, 52, 53, 54, 55, 56, 57, 97, 98, 99, 100, 101, 102] }) (.int .i64 13)).run Try.prog W = .ok (.int .u8 ((hexOf 13).toNat : Int)) W := by kernel_rfl
theorem digit_pos14 (W : World) : (Instr.index 9 (.string { data := #[48, 49, 50, 51, 52, 53, 54, 55, 56, 57, 97, 98, 99, 100, 101, 102] }) (.int .i64 14)).run Try.prog W = .ok (.int .u8 ((hexOf 14).toNat : Int)) W := by kernel_rfl
theorem digit_pos15 (W : World) : (Instr.index 9 (.string { data := #[48, 49, 50, 51, 52, 53, 54, 55, 56, 57, 97, 98, 99, 100, 101, 102] }) (.int .i64 15)).run Try.prog W = .ok (.int .u8 ((hexOf 15).toNat : Int)) W := by kernel_rfl
theorem of_up (c : UInt8) : UInt8.ofNat ((c.toNat : Int)).toNat = c := by simp

theorem digit_run (k : Nat) (hk : k < 16) (W : World) :
    (Instr.index 9 (.string { data := #[48, 49, 50, 51, 52, 53, 54, 55, 56, 57, 97, 98, 99, 100, 101, 102] }) (.int .u8 (k : Int))).run Try.prog W = .ok (.int .u8 ((hexOf k).toNat : Int)) W := by
  match k, hk with
  | 0, _ => exact digit_run0 W
  | 1, _ => exact digit_run1 W
  | 2, _ => exact digit_run2 W
  | 3, _ => exact digit_run3 W
  | 4, _ => exact digit_run4 W
  | 5, _ => exact digit_run5 W
  | 6, _ => exact digit_run6 W
  | 7, _ => exact digit_run7 W
  | 8, _ => exact digit_run8 W
  | 9, _ => exact digit_run9 W
  | 10, _ => exact digit_run10 W
  | 11, _ => exact digit_run11 W
  | 12, _ => exact digit_run12 W
  | 13, _ => exact digit_run13 W
  | 14, _ => exact digit_run14 W
  | 15, _ => exact digit_run15 W
  | k + 16, hk => omega

theorem digit_pos (k : Nat) (hk : k < 16) (W : World) :
    (Instr.index 9 (.string { data := #[48, 49, 50, 51, 52, 53, 54, 55, 56, 57, 97, 98, 99, 100, 101, 102] }) (.int .i64 (k : Int))).run Try.prog W = .ok (.int .u8 ((hexOf k).toNat : Int)) W := by
  match k, hk with
  | 0, _ => exact digit_pos0 W
  | 1, _ => exact digit_pos1 W
  | 2, _ => exact digit_pos2 W
  | 3, _ => exact digit_pos3 W
  | 4, _ => exact digit_pos4 W
  | 5, _ => exact digit_pos5 W
  | 6, _ => exact digit_pos6 W
  | 7, _ => exact digit_pos7 W
  | 8, _ => exact digit_pos8 W
  | 9, _ => exact digit_pos9 W
  | 10, _ => exact digit_pos10 W
  | 11, _ => exact digit_pos11 W
  | 12, _ => exact digit_pos12 W
  | 13, _ => exact digit_pos13 W
  | 14, _ => exact digit_pos14 W
  | 15, _ => exact digit_pos15 W
  | k + 16, hk => omega

set_option maxRecDepth 100000 in
set_option maxHeartbeats 1000000 in
theorem EncH.impl (s : ByteArray) (hs : (s.size : Int) ≤ 4000000) (w : World) :
    Calls Try.prog 18 #[.string s] w fun e w' => e = .returned (.string ⟨(encH s.data.toList).toArray⟩) ∧ Below w.heap.size w w' := by
  obtain ⟨i0, hi, hz0, hz1, hz2⟩ := info_parts Try.infoByte
  go_enter Try.func18, Try.ntmps18
  go_wp2_with (at_make; go_must (refine wpList_make_own _ rfl _ _ 36 rfl w.heap.size 5 i0 (.int .u8 0) 1 Try.underlying36 hi hz0 hz1 _ _ _ (2 * s.size) rfl rfl (by omega) (by rw [hz2]; omega) (by unfold maxLen; omega) (Nat.le_refl _) ?_; intro w1 hown hgrow))
  have hb1 : Below w.heap.size w w1 := (Below.refl _ _).grown hgrow (Nat.le_refl _) (fun _ h => by cases h)
  clear hgrow hi hz0 hz1 hz2
  go_loopw [3, 11] (fun v i wr => ∃ j : Nat, j ≤ s.size ∧ i = .int .i64 (j : Int) ∧ ByteRow wr w.heap.size v (encH (s.data.toList.take j)) ∧ Below w.heap.size w wr) (fun _ i _ => s.size - (intOf i).toNat)
  case atStart => exact ⟨0, by omega, rfl, hown, hb1⟩
  case round =>
    obtain ⟨j, hj, rfl, hrow, hb⟩ := hrel
    have hB := hb.size
    by_cases hlt : j < s.size
    · have hts := take_snoc s j hlt
      have HE : Hid (encH (s.data.toList.take (j + 1)) = encH (s.data.toList.take j) ++ [hexOf (s[j].toNat / 16), hexOf (s[j].toNat % 16)]) := Lib.hid (by rw [hts, encH_snoc])
      have hlen : (encH (s.data.toList.take j)).length ≤ 100000000 := by rw [encH_len, List.length_take, Nat.min_eq_left (by simpa using hj)]; omega
      have HL := Lib.hid hlen
      have hc : (s[j].toNat : Int) < 256 := by have := s[j].toNat_lt; omega
      have hx1 := digit_run (s[j].toNat / 16) (by omega)
      have hx2 := digit_run (s[j].toNat % 16) (by omega)
      rw [show ((s[j].toNat / 16 : Nat) : Int) = (s[j].toNat : Int) / 16 from rfl] at hx1
      rw [show ((s[j].toNat % 16 : Nat) : Int) = (s[j].toNat : Int) % 16 from rfl] at hx2
      have hd1 := (hexOf (s[j].toNat / 16)).toNat_lt
      have hd2 := (hexOf (s[j].toNat % 16)).toNat_lt
      clear hts hlen
      have hw1 : IntKind.u8.wrap ((s[j].toNat : Int) / 16) = (s[j].toNat : Int) / 16 := IntWalk.u8_in _ (by omega)
      have hw2 : (s[j].toNat : Int) / 16 < 16 := by omega
      have hw3 : (s[j].toNat : Int) % 16 < 16 := by omega
      have hB2 : w.heap.size ≤ wr.drew.heap.size := by simpa using hB
      have he1 : 0 ≤ ((hexOf (s[j].toNat / 16)).toNat : Int) ∧ ((hexOf (s[j].toNat / 16)).toNat : Int) ≤ 255 := by omega
      have he2 : 0 ≤ ((hexOf (s[j].toNat % 16)).toNat : Int) ∧ ((hexOf (s[j].toNat % 16)).toNat : Int) ≤ 255 := by omega
      have hw4 : (s[j].toNat : Int).tmod 16 = (s[j].toNat : Int) % 16 := IntWalk.rem_in _ _ (by omega)
      go_wp2
      go_region_law (refine step_two rfl _ _ rfl w.heap.size w wr.drew _ _ _ _ _ hrow.drew hb.drew hB2 HL.out he1 he2 rfl rfl rfl ?_; intro v1 w1 g1 g2 g3)
      all_goals
        clear hw1 hw4
        rw [of_up, of_up, ← HE.out] at g1
        go_wp2
        go_roundw
        case rel => exact ⟨j + 1, by omega, by go_num, g1, g2⟩
        case measure => simp [intOf]; omega
    · obtain rfl : j = s.size := by omega
      have gt := hrow.text
      rw [List.take_of_length_le (by simp)] at gt
      clear hs
      go_wp2
      go_ret
      exact ⟨rfl, hb⟩
end Go.Proofs.Yteijcbpafmijfaa
