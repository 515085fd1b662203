/-
  CubeValue of the program and of its model, at every argument.
-/
import Derived.Test.YtecakbjcnabpnaaResK
namespace Go.Proofs.Ytecakbjcnabpnaa
open Go.RowKit Plain
set_option linter.unusedVariables false

theorem Tab.cubI_no1 (n a m v : Int) (h64 : -9223372036854775808 ≤ a ∧ a ≤ 9223372036854775807) (ht : isT n a = false) (w : World) :
    Calls Try.prog 16 #[.agg #[.int .i64 n, .int .i64 a], .int .i64 m, .int .i64 v] w fun e w' => e = .returned (.int .i64 (-1)) ∧ Below w.heap.size w w' := by
  have H := Lib.hid ht
  have HB := Lib.hid h64
  clear ht h64
  go_enter Try.func16, Try.ntmps16
  go_wp2_with fail
  refine (Tab.impl _ _ HB.out _).mono ?_
  rintro e w1 ⟨rfl, hb1⟩
  obtain ⟨hc, hf⟩ := bcell hb1
  have hz0_w1 : w.heap.size < w1.heap.size := by have := hb1.size; simp at this; omega
  rw [H.out]
  go_wp2
  go_ret
  exact ⟨rfl, ((Below.refl _ _).alloc (Nat.le_refl _) _).trans (hb1.mono (by simp <;> omega))⟩

theorem Tab.cubI_no2 (n a : Nat) (ht : isT n a = true) (hn : n ≤ 5) (ha : (a : Int) ≤ 4294967295) (m v : Int) (hm : ¬ (0 ≤ m ∧ m < 2 ^ n)) (w : World) :
    Calls Try.prog 16 #[.agg #[.int .i64 n, .int .i64 a], .int .i64 m, .int .i64 v] w fun e w' => e = .returned (.int .i64 (-1)) ∧ Below w.heap.size w w' := by
  have HC := Lib.hid (Tab.isCube_no1 n m v hn hm)
  clear hm
  have H := Lib.hid ht
  have HN := Lib.hid hn
  have hn5 : (n : Int) ≤ 5 := by omega
  clear ht hn
  go_enter Try.func16, Try.ntmps16
  go_wp2_with fail
  refine (Tab.impl _ _ (by omega) _).mono ?_
  rintro e w1 ⟨rfl, hb1⟩
  obtain ⟨hc, hf⟩ := bcell hb1
  have hz0_w1 : w.heap.size < w1.heap.size := by have := hb1.size; simp at this; omega
  rw [H.out]
  go_wp2_with fail
  refine (HC.out _).mono ?_
  rintro e w2 ⟨rfl, rfl⟩
  go_wp2
  go_ret
  exact ⟨rfl, ((Below.refl _ _).alloc (Nat.le_refl _) _).trans (hb1.mono (by simp <;> omega))⟩

theorem Tab.cubI_no3 (n a : Nat) (ht : isT n a = true) (hn : n ≤ 5) (ha : (a : Int) ≤ 4294967295) (m : Nat) (v : Int) (hm : (m : Int) < 2 ^ n) (hb : -9223372036854775808 ≤ v ∧ v ≤ 9223372036854775807) (hv : ¬ (0 ≤ v ∧ v.toNat &&& m = v.toNat)) (w : World) :
    Calls Try.prog 16 #[.agg #[.int .i64 n, .int .i64 a], .int .i64 m, .int .i64 v] w fun e w' => e = .returned (.int .i64 (-1)) ∧ Below w.heap.size w w' := by
  have HC := Lib.hid (Tab.isCube_no2 n m v hn hm hb hv)
  clear hm hb hv
  have H := Lib.hid ht
  have HN := Lib.hid hn
  have hn5 : (n : Int) ≤ 5 := by omega
  clear ht hn
  go_enter Try.func16, Try.ntmps16
  go_wp2_with fail
  refine (Tab.impl _ _ (by omega) _).mono ?_
  rintro e w1 ⟨rfl, hb1⟩
  obtain ⟨hc, hf⟩ := bcell hb1
  have hz0_w1 : w.heap.size < w1.heap.size := by have := hb1.size; simp at this; omega
  rw [H.out]
  go_wp2_with fail
  refine (HC.out _).mono ?_
  rintro e w2 ⟨rfl, rfl⟩
  go_wp2
  go_ret
  exact ⟨rfl, ((Below.refl _ _).alloc (Nat.le_refl _) _).trans (hb1.mono (by simp <;> omega))⟩

set_option maxRecDepth 100000 in
set_option maxHeartbeats 1000000 in
theorem Tab.cubI_yes (n a m v : Nat) (ht : isT n a = true) (hn : n ≤ 5) (ha : (a : Int) ≤ 4294967295) (hm : (m : Int) < 2 ^ n) (hv : v &&& m = v) (w : World) :
    Calls Try.prog 16 #[.agg #[.int .i64 n, .int .i64 a], .int .i64 m, .int .i64 v] w fun e w' => e = .returned (.int .i64 (cubV n a m v)) ∧ Below w.heap.size w w' := by
  obtain ⟨hp1, hp2⟩ := two_pow_int n hn
  have HC := Lib.hid (Tab.isCube_yes n m v hn hm hv)
  have hvm : v ≤ m := by rw [← hv]; exact Nat.and_le_right
  have hvl : (v : Int) ≤ 31 := by omega
  have HVN : Hid (v ≤ 63) := Lib.hid (by omega)
  clear hv hvm
  have H := Lib.hid ht
  have HN := Lib.hid hn
  have hn5 : (n : Int) ≤ 5 := by omega
  clear ht hn
  go_enter Try.func16, Try.ntmps16
  go_wp2_with fail
  refine (Tab.impl _ _ (by omega) _).mono ?_
  rintro e w1 ⟨rfl, hb1⟩
  obtain ⟨hc, hf⟩ := bcell hb1
  have hz0_w1 : w.heap.size < w1.heap.size := by have := hb1.size; simp at this; omega
  rw [H.out]
  go_wp2_with fail
  refine (HC.out _).mono ?_
  rintro e w2 ⟨rfl, rfl⟩
  go_wp2_with fail
  refine (Tab.count n HN.out _).mono ?_
  rintro e w2 ⟨rfl, rfl⟩
  go_wp2_with fail
  go_loop [8, 26] (fun _ x => ∃ y : Nat, x = .int .i64 (y : Int) ∧ (y : Int) ≤ 2 ^ n ∧ cubX a m v y = false) (fun _ x => 32 - (intOf x).toNat)
  case atStart => exact ⟨0, rfl, by omega, rfl⟩
  case round =>
    obtain ⟨y, rfl, hy, hs⟩ := hrel
    have HS := Lib.hid hs
    have HBEL := Lib.hid (((Below.refl _ _).alloc (Nat.le_refl _) _).trans (hb1.mono (by simp <;> omega)))
    clear hs hc hf
    by_cases hlt : (y : Int) < 2 ^ n
    · have hyn : y < 2 ^ n := by rw [up2] at hlt; omega
      have HYN := Lib.hid hyn
      have hand := and64 y m (by omega) (by omega)
      have HY63 : Hid (y ≤ 63) := Lib.hid (by omega)
      clear hyn
      by_cases he : y &&& m = v
      · have HE := Lib.hid he
        rw [he] at hand
        clear he
        by_cases hne : bitN a y = bitN a v
        · have HT := Lib.hid (cubX_miss HS.out (fun h => h.2 hne))
          have HNE := Lib.hid hne
          clear hne
          go_wp2_with fail
          refine (Tab.at a y (by omega) HY63.out _).mono ?_
          rintro e w2 ⟨rfl, rfl⟩
          go_wp2_with fail
          refine (Tab.at a v (by omega) HVN.out _).mono ?_
          rintro e w2 ⟨rfl, rfl⟩
          rw [HNE.out]
          go_wp2
          go_round
          case rel => exact ⟨y + 1, by go_num, by omega, HT.out⟩
          case measure => simp [intOf]; omega
        · have HT := Lib.hid (cubV_mixed (cubX_hit HYN.out HE.out hne))
          have hnb : (((bitN a y : Nat) : Int) == ((bitN a v : Nat) : Int)) = false := by rw [beq_eq_false_iff_ne]; omega
          clear hne
          go_wp2_with fail
          refine (Tab.at a y (by omega) HY63.out _).mono ?_
          rintro e w2 ⟨rfl, rfl⟩
          go_wp2_with fail
          refine (Tab.at a v (by omega) HVN.out _).mono ?_
          rintro e w2 ⟨rfl, rfl⟩
          go_wp2
          go_ret
          exact ⟨ret_int HT.out.symm, HBEL.out⟩
      · have HT := Lib.hid (cubX_miss HS.out (fun h => he h.1))
        have hnb : (((y &&& m : Nat) : Int) == (v : Int)) = false := by rw [beq_eq_false_iff_ne]; omega
        clear he
        go_wp2
        go_round
        case rel => exact ⟨y + 1, by go_num, by omega, HT.out⟩
        case measure => simp [intOf]; omega
    · have he : y = 2 ^ n := by rw [up2] at hy hlt; omega
      have HF : Hid (cubV n a m v = (bitN a v : Int)) := Lib.hid (cubV_same (by rw [← he]; exact HS.out))
      clear he
      go_wp2_with fail
      refine (Tab.at a v (by omega) HVN.out _).mono ?_
      rintro e w2 ⟨rfl, rfl⟩
      go_wp2
      go_ret
      exact ⟨ret_int HF.out.symm, HBEL.out⟩

theorem Tab.cubM_no1 (n a m v : Int) (ht : isT n a = false) (w : World) :
    Calls Try.prog 36 #[.agg #[.int .i64 n, .int .i64 a], .int .i64 m, .int .i64 v] w fun e w' => e = .returned (.int .i64 (-1)) ∧ Below w.heap.size w w' := by
  have H := Lib.hid ht
  clear ht
  go_enter Try.func36, Try.ntmps36
  go_wp2_with fail
  refine (Tab.model _ _ _).mono ?_
  rintro e w1 ⟨rfl, hb1⟩
  obtain ⟨hc, hf⟩ := bcell hb1
  have hz0_w1 : w.heap.size < w1.heap.size := by have := hb1.size; simp at this; omega
  rw [H.out]
  go_wp2
  go_ret
  exact ⟨rfl, ((Below.refl _ _).alloc (Nat.le_refl _) _).trans (hb1.mono (by simp <;> omega))⟩

theorem Tab.cubM_no2 (n a : Nat) (ht : isT n a = true) (hn : n ≤ 5) (ha : (a : Int) ≤ 4294967295) (m v : Int) (hm : ¬ (0 ≤ m ∧ m < 2 ^ n)) (w : World) :
    Calls Try.prog 36 #[.agg #[.int .i64 n, .int .i64 a], .int .i64 m, .int .i64 v] w fun e w' => e = .returned (.int .i64 (-1)) ∧ Below w.heap.size w w' := by
  have HX : Hid (¬ (0 ≤ m ∧ m ≤ 2 ^ n - 1)) := Lib.hid (by omega)
  clear hm
  obtain ⟨hp1, hp2⟩ := two_pow_int n hn
  have H := Lib.hid ht
  have HN := Lib.hid hn
  have hn5 : (n : Int) ≤ 5 := by omega
  clear ht hn
  go_enter Try.func36, Try.ntmps36
  go_wp2_with fail
  refine (Tab.model _ _ _).mono ?_
  rintro e w1 ⟨rfl, hb1⟩
  obtain ⟨hc, hf⟩ := bcell hb1
  have hz0_w1 : w.heap.size < w1.heap.size := by have := hb1.size; simp at this; omega
  rw [H.out]
  go_wp2_with fail
  refine (Widths.in_no _ _ _ HX.out _).mono ?_
  rintro e w2 ⟨rfl, rfl⟩
  go_wp2
  go_ret
  exact ⟨rfl, ((Below.refl _ _).alloc (Nat.le_refl _) _).trans (hb1.mono (by simp <;> omega))⟩

theorem Tab.cubM_no3 (n a : Nat) (ht : isT n a = true) (hn : n ≤ 5) (ha : (a : Int) ≤ 4294967295) (m : Nat) (v : Int) (hm : (m : Int) < 2 ^ n) (hv : ¬ (0 ≤ v ∧ v ≤ (m : Int))) (w : World) :
    Calls Try.prog 36 #[.agg #[.int .i64 n, .int .i64 a], .int .i64 m, .int .i64 v] w fun e w' => e = .returned (.int .i64 (-1)) ∧ Below w.heap.size w w' := by
  have HX : Hid ((0 : Int) ≤ m ∧ (m : Int) ≤ 2 ^ n - 1) := Lib.hid (by omega)
  have HV := Lib.hid hv
  clear hm hv
  obtain ⟨hp1, hp2⟩ := two_pow_int n hn
  have H := Lib.hid ht
  have HN := Lib.hid hn
  have hn5 : (n : Int) ≤ 5 := by omega
  clear ht hn
  go_enter Try.func36, Try.ntmps36
  go_wp2_with fail
  refine (Tab.model _ _ _).mono ?_
  rintro e w1 ⟨rfl, hb1⟩
  obtain ⟨hc, hf⟩ := bcell hb1
  have hz0_w1 : w.heap.size < w1.heap.size := by have := hb1.size; simp at this; omega
  rw [H.out]
  go_wp2_with fail
  refine (Widths.in_yes _ _ _ HX.out _).mono ?_
  rintro e w2 ⟨rfl, rfl⟩
  go_wp2_with fail
  refine (Widths.in_no _ _ _ HV.out _).mono ?_
  rintro e w2 ⟨rfl, rfl⟩
  go_wp2
  go_ret
  exact ⟨rfl, ((Below.refl _ _).alloc (Nat.le_refl _) _).trans (hb1.mono (by simp <;> omega))⟩

theorem Tab.cubM_no4 (n a m v : Nat) (ht : isT n a = true) (hn : n ≤ 5) (hm : (m : Int) < 2 ^ n) (hv : (v : Int) ≤ (m : Int)) (hne : ¬ v &&& m = v) (w : World) :
    Calls Try.prog 36 #[.agg #[.int .i64 n, .int .i64 a], .int .i64 m, .int .i64 v] w fun e w' => e = .returned (.int .i64 (-1)) ∧ Below w.heap.size w w' := by
  have HX : Hid ((0 : Int) ≤ m ∧ (m : Int) ≤ 2 ^ n - 1) := Lib.hid (by omega)
  have HV : Hid ((0 : Int) ≤ v ∧ (v : Int) ≤ (m : Int)) := Lib.hid (by omega)
  obtain ⟨hp1, hp2⟩ := two_pow_int n hn
  have hand := and64 v m (by omega) (by omega)
  have hnb : (((v &&& m : Nat) : Int) == (v : Int)) = false := by rw [beq_eq_false_iff_ne]; omega
  clear hne hm hv
  have H := Lib.hid ht
  have HN := Lib.hid hn
  have hn5 : (n : Int) ≤ 5 := by omega
  clear ht hn
  go_enter Try.func36, Try.ntmps36
  go_wp2_with fail
  refine (Tab.model _ _ _).mono ?_
  rintro e w1 ⟨rfl, hb1⟩
  obtain ⟨hc, hf⟩ := bcell hb1
  have hz0_w1 : w.heap.size < w1.heap.size := by have := hb1.size; simp at this; omega
  rw [H.out]
  go_wp2_with fail
  refine (Widths.in_yes _ _ _ HX.out _).mono ?_
  rintro e w2 ⟨rfl, rfl⟩
  go_wp2_with fail
  refine (Widths.in_yes _ _ _ HV.out _).mono ?_
  rintro e w2 ⟨rfl, rfl⟩
  go_wp2
  go_ret
  exact ⟨rfl, ((Below.refl _ _).alloc (Nat.le_refl _) _).trans (hb1.mono (by simp <;> omega))⟩

set_option maxRecDepth 100000 in
set_option maxHeartbeats 1000000 in
theorem Tab.cubM_yes (n a m v : Nat) (ht : isT n a = true) (hn : n ≤ 5) (ha : (a : Int) ≤ 4294967295) (hm : (m : Int) < 2 ^ n) (hv : v &&& m = v) (w : World) :
    Calls Try.prog 36 #[.agg #[.int .i64 n, .int .i64 a], .int .i64 m, .int .i64 v] w fun e w' => e = .returned (.int .i64 (cubV n a m v)) ∧ Below w.heap.size w w' := by
  have hvm : v ≤ m := by rw [← hv]; exact Nat.and_le_right
  have HX : Hid ((0 : Int) ≤ m ∧ (m : Int) ≤ 2 ^ n - 1) := Lib.hid (by omega)
  have HV : Hid ((0 : Int) ≤ v ∧ (v : Int) ≤ (m : Int)) := Lib.hid (by omega)
  have HL := Lib.hid (Tab.cubM_loop n a m v hn ha hm hv)
  obtain ⟨hp1, hp2⟩ := two_pow_int n hn
  have hand := and64 v m (by omega) (by omega)
  rw [hv] at hand
  clear hm hv hvm
  have H := Lib.hid ht
  have HN := Lib.hid hn
  have hn5 : (n : Int) ≤ 5 := by omega
  clear ht hn
  go_enter Try.func36, Try.ntmps36
  go_wp2_with fail
  refine (Tab.model _ _ _).mono ?_
  rintro e w1 ⟨rfl, hb1⟩
  obtain ⟨hc, hf⟩ := bcell hb1
  have hz0_w1 : w.heap.size < w1.heap.size := by have := hb1.size; simp at this; omega
  rw [H.out]
  go_wp2_with fail
  refine (Widths.in_yes _ _ _ HX.out _).mono ?_
  rintro e w2 ⟨rfl, rfl⟩
  go_wp2_with fail
  refine (Widths.in_yes _ _ _ HV.out _).mono ?_
  rintro e w2 ⟨rfl, rfl⟩
  go_wp2_with fail
  refine (HL.out _).mono ?_
  rintro e w3 ⟨rfl, hb3⟩
  go_wp2
  go_ret
  exact ⟨rfl, (((Below.refl _ _).alloc (Nat.le_refl _) _).trans (hb1.mono (by simp <;> omega))).trans (hb3.mono (by omega))⟩

/-- CubeValue of the program. -/
theorem Tab.cubI (n a m v : Int) (h64 : -9223372036854775808 ≤ a ∧ a ≤ 9223372036854775807) (hv64 : -9223372036854775808 ≤ v ∧ v ≤ 9223372036854775807) (w : World) :
    Calls Try.prog 16 #[.agg #[.int .i64 n, .int .i64 a], .int .i64 m, .int .i64 v] w fun e w' => e = .returned (.int .i64 (cubT n a m v)) ∧ Below w.heap.size w w' := by
  by_cases ht : isT n a = true
  · obtain ⟨k, x, rfl, rfl, hk, hx⟩ := isT_nat ht
    have hl : (x : Int) ≤ 4294967295 := by have := fullN_le k hk; omega
    by_cases hm : 0 ≤ m ∧ m < 2 ^ k
    · obtain ⟨m, rfl⟩ := Int.eq_ofNat_of_zero_le hm.1
      by_cases hv : 0 ≤ v ∧ v.toNat &&& m = v.toNat
      · obtain ⟨v, rfl⟩ := Int.eq_ofNat_of_zero_le hv.1
        have hv2 : v &&& m = v := by simpa using hv.2
        rw [cubT_yes ht hm.2 hv2]
        exact Tab.cubI_yes k x m v ht hk hl hm.2 hv2 w
      · rw [cubT_no fun h => hv h.2.2]
        exact Tab.cubI_no3 k x ht hk hl m v hm.2 hv64 hv w
    · rw [cubT_no fun h => hm h.2.1]
      exact Tab.cubI_no2 k x ht hk hl m v hm w
  · rw [cubT_no fun h => ht h.1]
    exact Tab.cubI_no1 n a m v h64 (by simpa using ht) w

/-- CubeValue of the model. -/
theorem Tab.cubM (n a m v : Int) (w : World) :
    Calls Try.prog 36 #[.agg #[.int .i64 n, .int .i64 a], .int .i64 m, .int .i64 v] w fun e w' => e = .returned (.int .i64 (cubT n a m v)) ∧ Below w.heap.size w w' := by
  by_cases ht : isT n a = true
  · obtain ⟨k, x, rfl, rfl, hk, hx⟩ := isT_nat ht
    have hl : (x : Int) ≤ 4294967295 := by have := fullN_le k hk; omega
    by_cases hm : 0 ≤ m ∧ m < 2 ^ k
    · obtain ⟨m, rfl⟩ := Int.eq_ofNat_of_zero_le hm.1
      by_cases hr : 0 ≤ v ∧ v ≤ (m : Int)
      · obtain ⟨v, rfl⟩ := Int.eq_ofNat_of_zero_le hr.1
        by_cases hv : v &&& m = v
        · rw [cubT_yes ht hm.2 hv]
          exact Tab.cubM_yes k x m v ht hk hl hm.2 hv w
        · rw [cubT_no fun h => hv (by simpa using h.2.2.2)]
          exact Tab.cubM_no4 k x m v ht hk hm.2 hr.2 hv w
      · have hno : ¬ cubOk (k : Int) (x : Int) (m : Int) v := by
          intro h
          have h1 : v.toNat &&& m = v.toNat := by simpa using h.2.2.2
          have h2 : v.toNat ≤ m := by rw [← h1]; exact Nat.and_le_right
          have h3 := h.2.2.1
          exact hr ⟨h3, by omega⟩
        rw [cubT_no hno]
        exact Tab.cubM_no3 k x ht hk hl m v hm.2 hr w
    · rw [cubT_no fun h => hm h.2.1]
      exact Tab.cubM_no2 k x ht hk hl m v hm w
  · rw [cubT_no fun h => ht h.1]
    exact Tab.cubM_no1 n a m v (by simpa using ht) w
end Go.Proofs.Ytecakbjcnabpnaa
