/-
  Terms: when they hold, their words, implicants, prime terms; of the program and of its model.
-/
import Derived.Test.YtkamopckpmiioaaTrmA

namespace Go.Proofs.Ytkamopckpmiioaa
open Go.RowKit Plain
set_option linter.unusedVariables false

theorem hold_beq (m v x : Nat) : (((x &&& m : Nat) : Int) == (v : Int)) = decide (x &&& m = v) := by
  by_cases h : x &&& m = v
  · rw [h]; simp
  · rw [decide_eq_false h, beq_eq_false_iff_ne]; omega

/-- A term holds for an input. -/
theorem Trm.holds (m v x : Nat) (hm : (m : Int) ≤ 31) (hx : (x : Int) ≤ 63) (w : World) :
    Calls Try.prog 55 #[.agg #[.int .i64 m, .int .i64 v], .int .i64 x] w fun e w' => e = .returned (.bool (decide (x &&& m = v))) ∧ Below w.heap.size w w' := by
  have hand := and64 x m (by omega) (by omega)
  have hb := hold_beq m v x
  clear hm hx
  go_enter Try.func55, Try.ntmps55
  go_wp2
  go_ret
  exact ⟨rfl, (Below.refl _ _).alloc (Nat.le_refl _) _⟩

set_option maxRecDepth 100000 in
/-- The word of a term. -/
theorem Trm.inputs (n m v : Nat) (hn : n ≤ 5) (hm : (m : Int) ≤ 31) (w : World) :
    Calls Try.prog 72 #[.agg #[.int .i64 m, .int .i64 v], .int .i64 n] w fun e w' => e = .returned (.int .u64 (tmW m v (2 ^ n) : Int)) ∧ Below w.heap.size w w' := by
  obtain ⟨hp1, hp2⟩ := two_pow_int n hn
  have HN := Lib.hid hn
  have hn5 : (n : Int) ≤ 5 := by omega
  clear hn
  go_enter Try.func72, Try.ntmps72
  go_wp2_with fail
  refine (Tab.count n HN.out _).mono ?_
  rintro e w1 ⟨rfl, rfl⟩
  rw [show ((2 ^ n : Nat) : Int) = (2 : Int) ^ n from (up2 n).symm]
  go_wp2
  obtain ⟨W0, hW0⟩ : ∃ W0, w.alloc (.cells #[.int .i64 m, .int .i64 v] 25) = W0 := ⟨_, rfl⟩
  have HB0 : Hid (Below w.heap.size w W0) := Lib.hid (hW0 ▸ (Below.refl _ _).alloc (Nat.le_refl _) _)
  have c0 : W0.cell? ⟨w.heap.size, 0, none⟩ = some (.int .i64 m) := by rw [← hW0]; exact World.cell?_alloc_mark w _ _ _ 0
  have c1 : W0.cell? ⟨w.heap.size, 1, none⟩ = some (.int .i64 v) := by rw [← hW0]; exact World.cell?_alloc_mark w _ _ _ 1
  have hz0 : w.heap.size < W0.heap.size := by rw [← hW0]; simp
  try rw [hW0]
  go_loopw [5, 6, 9] (fun a _ x wr => ∃ y : Nat, x = .int .i64 (y : Int) ∧ a = .int .u64 (tmW m v y : Int) ∧ (y : Int) ≤ 2 ^ n ∧ wr.cell? ⟨w.heap.size, 0, none⟩ = some (.int .i64 m) ∧ wr.cell? ⟨w.heap.size, 1, none⟩ = some (.int .i64 v) ∧ w.heap.size < wr.heap.size ∧ Below w.heap.size w wr) (fun _ _ x _ => 32 - (intOf x).toNat)
  case atStart => exact ⟨0, rfl, rfl, by omega, c0, c1, hz0, HB0.out⟩
  case round =>
    obtain ⟨y, rfl, rfl, hy, c0, c1, hz, hB⟩ := hrel
    have HB := Lib.hid hB
    have HM := Lib.hid hm
    clear hB
    by_cases hlt : (y : Int) < 2 ^ n
    · have HW := Lib.hid (tmW_bound m v y (by omega))
      have HY : Hid ((y : Int) ≤ 63) := Lib.hid (by omega)
      have HY2 : Hid (y ≤ 32) := Lib.hid (by omega)
      by_cases he : y &&& m = v
      · have HV := Lib.hid (tmW_yes he)
        have HT : Hid (decide (y &&& m = v) = true) := Lib.hid (decide_eq_true he)
        clear he
        go_wp2_with fail
        refine (Trm.holds m v y HM.out HY.out _).mono ?_
        rintro e w1 ⟨rfl, hb1⟩
        obtain ⟨hc1, hf1⟩ := bcell hb1
        have hz1 := hb1.size
        rw [HT.out]
        go_wp2_with fail
        refine (Tab.withBit _ y HW.out HY2.out _).mono ?_
        rintro e w2 ⟨rfl, rfl⟩
        go_wp2
        go_roundw
        case rel => exact ⟨y + 1, by go_num, by rw [HV.out], by omega, by simp [*], by simp [*], by omega, HB.out.trans (hb1.mono (by omega))⟩
        case measure => simp [intOf]; omega
      · have HV := Lib.hid (tmW_no he)
        have HT : Hid (decide (y &&& m = v) = false) := Lib.hid (decide_eq_false he)
        clear he
        go_wp2_with fail
        refine (Trm.holds m v y HM.out HY.out _).mono ?_
        rintro e w1 ⟨rfl, hb1⟩
        obtain ⟨hc1, hf1⟩ := bcell hb1
        have hz1 := hb1.size
        rw [HT.out]
        go_wp2
        go_roundw
        case rel => exact ⟨y + 1, by go_num, by rw [HV.out], by omega, by simp [*], by simp [*], by omega, HB.out.trans (hb1.mono (by omega))⟩
        case measure => simp [intOf]; omega
    · have he : y = 2 ^ n := by rw [up2] at hy hlt; omega
      have HE : Hid (tmW m v y = tmW m v (2 ^ n)) := Lib.hid (by rw [he])
      clear he
      go_wp2
      go_ret
      exact ⟨ret_int (by rw [HE.out]), HB.out⟩

set_option maxRecDepth 100000 in
/-- The word of a term, by the model. -/
theorem Trm.word (n m v : Nat) (hn : n ≤ 5) (hm : (m : Int) ≤ 31) (w : World) :
    Calls Try.prog 67 #[.int .i64 n, .agg #[.int .i64 m, .int .i64 v]] w fun e w' => e = .returned (.int .i64 (tmW m v (2 ^ n) : Int)) ∧ Below w.heap.size w w' := by
  obtain ⟨hp1, hp2⟩ := two_pow_int n hn
  have hn5 : (n : Int) ≤ 5 := by omega
  clear hn
  go_enter Try.func67, Try.ntmps67
  go_wp2
  go_loop [5, 6] (fun a x => ∃ y : Nat, x = .int .i64 (y : Int) ∧ a = .int .i64 (tmW m v y : Int) ∧ (y : Int) ≤ 2 ^ n) (fun _ x => 32 - (intOf x).toNat)
  case atStart => exact ⟨0, rfl, rfl, by omega⟩
  case round =>
    obtain ⟨y, rfl, rfl, hy⟩ := hrel
    by_cases hlt : (y : Int) < 2 ^ n
    · have hand := and64 y m (by omega) (by omega)
      have hbe := hold_beq m v y
      have HO := Lib.hid (orbit_i64 (tmW m v y) y (tmW_bound m v y (by omega)) (by omega))
      by_cases he : y &&& m = v
      · have HV := Lib.hid (tmW_yes he)
        rw [decide_eq_true he] at hbe
        clear he
        go_wp2
        go_round
        case rel => exact ⟨y + 1, by go_num, by rw [HV.out, HO.out], by omega⟩
        case measure => simp [intOf]; omega
      · have HV := Lib.hid (tmW_no he)
        rw [decide_eq_false he] at hbe
        clear he
        go_wp2
        go_round
        case rel => exact ⟨y + 1, by go_num, by rw [HV.out], by omega⟩
        case measure => simp [intOf]; omega
    · have he : y = 2 ^ n := by rw [up2] at hy hlt; omega
      have HE : Hid (tmW m v y = tmW m v (2 ^ n)) := Lib.hid (by rw [he])
      clear he
      go_wp2
      go_ret
      exact ⟨ret_int (by rw [HE.out]), (Below.refl _ _).alloc (Nat.le_refl _) _⟩

end Go.Proofs.Ytkamopckpmiioaa
