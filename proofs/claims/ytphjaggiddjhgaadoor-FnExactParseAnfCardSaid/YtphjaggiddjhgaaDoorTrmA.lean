/-
  Terms, of the program and of its model: IsTerm, TermHolds, the word of a term, implicants, prime terms.
-/
import Derived.Test.YtphjaggiddjhgaaDoorPlainQ
import Derived.Test.YtphjaggiddjhgaaDoorResKB

namespace Go.Proofs.YtphjaggiddjhgaaDoor
open Go.RowKit Plain
set_option linter.unusedVariables false

theorem isTm_no {n m v : Int} (h : ¬ ((0 ≤ n ∧ n ≤ 5) ∧ (0 ≤ m ∧ m < 2 ^ n.toNat) ∧ 0 ≤ v ∧ v.toNat &&& m.toNat = v.toNat)) : isTm n m v = false := decide_eq_false h

theorem Trm.isM_no1 (n m v : Int) (hn : ¬ (0 ≤ n ∧ n ≤ 5)) (w : World) :
    Calls Tryd.prog 45 #[.int .i64 n, .agg #[.int .i64 m, .int .i64 v]] w fun e w' => e = .returned (.bool false) ∧ Below w.heap.size w w' := by
  have H := Lib.hid hn
  clear hn
  go_enter Tryd.func45, Tryd.ntmps45
  go_wp2_with fail
  go_quiet ((go_at_call 18; exact quiet_eq (Widths.in_no _ _ _ H.out _)))
  go_wp2
  go_ret
  exact ⟨rfl, below_drewN ((Below.refl _ _).alloc (Nat.le_refl _) _) _⟩

set_option maxRecDepth 100000 in
set_option maxHeartbeats 1000000 in
theorem Trm.isM_no2 (n : Nat) (m v : Int) (hn : n ≤ 5) (hm : ¬ (0 ≤ m ∧ m < 2 ^ n)) (w : World) :
    Calls Tryd.prog 45 #[.int .i64 n, .agg #[.int .i64 m, .int .i64 v]] w fun e w' => e = .returned (.bool false) ∧ Below w.heap.size w w' := by
  have HA : Hid ((0 : Int) ≤ n ∧ (n : Int) ≤ 5) := Lib.hid (by omega)
  have HB : Hid (¬ (0 ≤ m ∧ m ≤ 2 ^ n - 1)) := Lib.hid (by omega)
  clear hm
  obtain ⟨hp1, hp2⟩ := two_pow_int n hn
  have hn5 : (n : Int) ≤ 5 := by omega
  clear hn
  go_enter Tryd.func45, Tryd.ntmps45
  go_wp2_with fail
  go_quiet ((go_at_call 18; first | with_reducible exact quiet_eq (Widths.in_yes _ _ _ HA.out _) | with_reducible exact quiet_eq (Widths.in_no _ _ _ HB.out _)))
  go_wp2
  go_ret
  exact ⟨rfl, below_drewN ((Below.refl _ _).alloc (Nat.le_refl _) _) _⟩

set_option maxRecDepth 100000 in
set_option maxHeartbeats 1000000 in
theorem Trm.isM_no3 (n m : Nat) (v : Int) (hn : n ≤ 5) (hm : (m : Int) < 2 ^ n) (hv : ¬ (0 ≤ v ∧ v ≤ m)) (w : World) :
    Calls Tryd.prog 45 #[.int .i64 n, .agg #[.int .i64 m, .int .i64 v]] w fun e w' => e = .returned (.bool false) ∧ Below w.heap.size w w' := by
  have HA : Hid ((0 : Int) ≤ n ∧ (n : Int) ≤ 5) := Lib.hid (by omega)
  have HB : Hid ((0 : Int) ≤ m ∧ (m : Int) ≤ 2 ^ n - 1) := Lib.hid (by omega)
  have HC := Lib.hid hv
  clear hm hv
  obtain ⟨hp1, hp2⟩ := two_pow_int n hn
  have hn5 : (n : Int) ≤ 5 := by omega
  clear hn
  go_enter Tryd.func45, Tryd.ntmps45
  go_wp2_with fail
  go_quiet ((go_at_call 18; first | with_reducible exact quiet_eq (Widths.in_yes _ _ _ HA.out _) | with_reducible exact quiet_eq (Widths.in_yes _ _ _ HB.out _) | with_reducible exact quiet_eq (Widths.in_no _ _ _ HC.out _)))
  go_wp2
  go_ret
  exact ⟨rfl, below_drewN ((Below.refl _ _).alloc (Nat.le_refl _) _) _⟩

set_option maxRecDepth 100000 in
set_option maxHeartbeats 1000000 in
theorem Trm.isM_yes (n m v : Nat) (hn : n ≤ 5) (hm : (m : Int) < 2 ^ n) (hv : (v : Int) ≤ m) (w : World) :
    Calls Tryd.prog 45 #[.int .i64 n, .agg #[.int .i64 m, .int .i64 v]] w fun e w' => e = .returned (.bool (decide (v &&& m = v))) ∧ Below w.heap.size w w' := by
  have HA : Hid ((0 : Int) ≤ n ∧ (n : Int) ≤ 5) := Lib.hid (by omega)
  have HB : Hid ((0 : Int) ≤ m ∧ (m : Int) ≤ 2 ^ n - 1) := Lib.hid (by omega)
  have HC : Hid ((0 : Int) ≤ v ∧ (v : Int) ≤ m) := Lib.hid (by omega)
  obtain ⟨hp1, hp2⟩ := two_pow_int n hn
  have hand := and64 v m (by omega) (by omega)
  have hnb : (((v &&& m : Nat) : Int) == (v : Int)) = decide (v &&& m = v) := by
    by_cases h : v &&& m = v
    · rw [h]; simp
    · rw [decide_eq_false h, beq_eq_false_iff_ne]; omega
  clear hm hv
  have hn5 : (n : Int) ≤ 5 := by omega
  clear hn
  go_enter Tryd.func45, Tryd.ntmps45
  go_wp2_with fail
  go_quiet ((go_at_call 18; first | with_reducible exact quiet_eq (Widths.in_yes _ _ _ HA.out _) | with_reducible exact quiet_eq (Widths.in_yes _ _ _ HB.out _) | with_reducible exact quiet_eq (Widths.in_yes _ _ _ HC.out _)))
  go_wp2
  go_ret
  exact ⟨rfl, below_drewN ((Below.refl _ _).alloc (Nat.le_refl _) _) _⟩

/-- IsTerm of the model. -/
theorem Trm.isM (n m v : Int) (w : World) :
    Calls Tryd.prog 45 #[.int .i64 n, .agg #[.int .i64 m, .int .i64 v]] w fun e w' => e = .returned (.bool (isTm n m v)) ∧ Below w.heap.size w w' := by
  by_cases hn : 0 ≤ n ∧ n ≤ 5
  · obtain ⟨k, rfl⟩ := Int.eq_ofNat_of_zero_le hn.1
    by_cases hm : 0 ≤ m ∧ m < 2 ^ k
    · obtain ⟨a, rfl⟩ := Int.eq_ofNat_of_zero_le hm.1
      by_cases hv : 0 ≤ v ∧ v ≤ (a : Int)
      · obtain ⟨b, rfl⟩ := Int.eq_ofNat_of_zero_le hv.1
        have e : isTm (k : Int) (a : Int) (b : Int) = decide (b &&& a = b) := by
          unfold isTm
          simp only [Int.toNat_natCast]
          rw [Bool.eq_iff_iff, decide_eq_true_iff, decide_eq_true_iff]
          exact ⟨fun h => h.2.2.2, fun h => ⟨hn, hm, hv.1, h⟩⟩
        rw [e]
        exact Trm.isM_yes k a b (by omega) hm.2 hv.2 w
      · have e : isTm (k : Int) (a : Int) v = false := isTm_no fun h => hv ⟨h.2.2.1, by
          have := h.2.2.2
          have hle : v.toNat ≤ a := by rw [← this]; exact Nat.and_le_right
          omega⟩
        rw [e]
        exact Trm.isM_no3 k a v (by omega) hm.2 hv w
    · have e : isTm (k : Int) m v = false := isTm_no fun h => hm (by simpa using h.2.1)
      rw [e]
      exact Trm.isM_no2 k m v (by omega) hm w
  · rw [isTm_no fun h => hn h.1]
    exact Trm.isM_no1 n m v hn w

/-! The program's. -/
theorem Trm.isI_no1 (n m v : Int) (hn : ¬ (0 ≤ n ∧ n ≤ 5)) (w : World) :
    Calls Tryd.prog 50 #[.int .i64 n, .agg #[.int .i64 m, .int .i64 v]] w fun e w' => e = .returned (.bool false) ∧ Below w.heap.size w w' := by
  have H := Lib.hid (inB_no hn)
  clear hn
  go_enter Tryd.func50, Tryd.ntmps50
  go_wp2_with fail
  refine (Tab.bits _ _).mono ?_
  rintro e w1 ⟨rfl, rfl⟩
  rw [H.out]
  go_wp2
  go_ret
  exact ⟨rfl, (Below.refl _ _).alloc (Nat.le_refl _) _⟩

theorem Trm.isI_any (n : Nat) (m v : Int) (b : Bool) (hn : n ≤ 5) (w : World)
    (hC : ∀ w, Calls Tryd.prog 61 #[.int .i64 n, .int .i64 m, .int .i64 v] w fun e w' => e = .returned (.bool b) ∧ w = w') :
    Calls Tryd.prog 50 #[.int .i64 n, .agg #[.int .i64 m, .int .i64 v]] w fun e w' => e = .returned (.bool b) ∧ Below w.heap.size w w' := by
  have H : Hid (inB (n : Int) 0 5 = true) := Lib.hid (inB_yes (by omega))
  have HC := Lib.hid hC
  clear hn hC
  go_enter Tryd.func50, Tryd.ntmps50
  go_wp2_with fail
  refine (Tab.bits _ _).mono ?_
  rintro e w1 ⟨rfl, rfl⟩
  rw [H.out]
  go_wp2_with fail
  refine (HC.out _).mono ?_
  rintro e w1 ⟨rfl, rfl⟩
  go_wp2
  go_ret
  exact ⟨rfl, (Below.refl _ _).alloc (Nat.le_refl _) _⟩

theorem Trm.cube (n : Nat) (m v : Int) (hn : n ≤ 5) (hb : -9223372036854775808 ≤ v ∧ v ≤ 9223372036854775807) (w : World) :
    Calls Tryd.prog 61 #[.int .i64 n, .int .i64 m, .int .i64 v] w fun e w' => e = .returned (.bool (isTm n m v)) ∧ w = w' := by
  by_cases hm : 0 ≤ m ∧ m < 2 ^ n
  · obtain ⟨a, rfl⟩ := Int.eq_ofNat_of_zero_le hm.1
    by_cases hv : 0 ≤ v ∧ v.toNat &&& a = v.toNat
    · have e : isTm (n : Int) (a : Int) v = true := isTm_iff.2 ⟨by omega, by simpa using hm, hv.1, by simpa using hv.2⟩
      rw [e]
      obtain ⟨b, rfl⟩ := Int.eq_ofNat_of_zero_le hv.1
      exact Tab.isCube_yes n a b hn hm.2 (by simpa using hv.2) w
    · have e : isTm (n : Int) (a : Int) v = false := isTm_no fun h => hv ⟨h.2.2.1, by simpa using h.2.2.2⟩
      rw [e]
      exact Tab.isCube_no2 n a v hn hm.2 hb hv w
  · have e : isTm (n : Int) m v = false := isTm_no fun h => hm (by simpa using h.2.1)
    rw [e]
    exact Tab.isCube_no1 n m v hn hm w

/-- IsTerm of the program. -/
theorem Trm.isI (n m v : Int) (hb : -9223372036854775808 ≤ v ∧ v ≤ 9223372036854775807) (w : World) :
    Calls Tryd.prog 50 #[.int .i64 n, .agg #[.int .i64 m, .int .i64 v]] w fun e w' => e = .returned (.bool (isTm n m v)) ∧ Below w.heap.size w w' := by
  by_cases hn : 0 ≤ n ∧ n ≤ 5
  · obtain ⟨k, rfl⟩ := Int.eq_ofNat_of_zero_le hn.1
    exact Trm.isI_any k m v _ (by omega) w fun w => Trm.cube k m v (by omega) hb w
  · rw [isTm_no fun h => hn h.1]
    exact Trm.isI_no1 n m v hn w

end Go.Proofs.YtphjaggiddjhgaaDoor
