/-
  Terms, of the program and of its model: IsTerm, TermHolds, the word of a term, implicants, prime terms.
  Terms: when they hold, their words, implicants, prime terms; of the program and of its model.
  Implicants and prime terms, of the program and of its model; TermHolds.
  Prime terms, of the program and of its model; TermHolds.
  The laws' copies of terms and their comparison.
-/
import Derived.Test.YtphjaggiddjhgaaDoorPlainQ
import Derived.Test.YtphjaggiddjhgaaDoorResKB
import Derived.Deep.RegionWith
import Derived.Deep.RegionHeld3
import Derived.Deep.DeepCutAuto
import Derived.Deep.DrawnRows

namespace Go.Proofs.YtphjaggiddjhgaaDoor
open Go.RowKit Plain
set_option linter.unusedVariables false

theorem isTm_no {n m v : Int} (h : ¬ ((0 ≤ n ∧ n ≤ 5) ∧ (0 ≤ m ∧ m < 2 ^ n.toNat) ∧ 0 ≤ v ∧ v.toNat &&& m.toNat = v.toNat)) : isTm n m v = false := decide_eq_false h

theorem Trm.isM_no1 (n m v : Int) (hn : ¬ (0 ≤ n ∧ n ≤ 5)) (w : World) :
    Calls Tryd.prog 45 #[.int .i64 n, .agg #[.int .i64 m, .int .i64 v]] w fun e w' => e = .returned (.bool false) ∧ Below w.heap.size w w' := by
  have H := Lib.hid hn
  clear hn
  go_enter Tryd.func45, Tryd.ntmps45
  go_wp2_with fail
  go_quiet ((go_at_call 18; exact quiet_eq (Widths.in_no _ _ _ H.out _)))
  go_wp2
  go_ret
  exact ⟨rfl, below_drewN ((Below.refl _ _).alloc (Nat.le_refl _) _) _⟩

set_option maxRecDepth 100000 in
set_option maxHeartbeats 1000000 in
theorem Trm.isM_no2 (n : Nat) (m v : Int) (hn : n ≤ 5) (hm : ¬ (0 ≤ m ∧ m < 2 ^ n)) (w : World) :
    Calls Tryd.prog 45 #[.int .i64 n, .agg #[.int .i64 m, .int .i64 v]] w fun e w' => e = .returned (.bool false) ∧ Below w.heap.size w w' := by
  have HA : Hid ((0 : Int) ≤ n ∧ (n : Int) ≤ 5) := Lib.hid (by omega)
  have HB : Hid (¬ (0 ≤ m ∧ m ≤ 2 ^ n - 1)) := Lib.hid (by omega)
  clear hm
  obtain ⟨hp1, hp2⟩ := two_pow_int n hn
  have hn5 : (n : Int) ≤ 5 := by omega
  clear hn
  go_enter Tryd.func45, Tryd.ntmps45
  go_wp2_with fail
  go_quiet ((go_at_call 18; first | with_reducible exact quiet_eq (Widths.in_yes _ _ _ HA.out _) | with_reducible exact quiet_eq (Widths.in_no _ _ _ HB.out _)))
  go_wp2
  go_ret
  exact ⟨rfl, below_drewN ((Below.refl _ _).alloc (Nat.le_refl _) _) _⟩

set_option maxRecDepth 100000 in
set_option maxHeartbeats 1000000 in
theorem Trm.isM_no3 (n m : Nat) (v : Int) (hn : n ≤ 5) (hm : (m : Int) < 2 ^ n) (hv : ¬ (0 ≤ v ∧ v ≤ m)) (w : World) :
    Calls Tryd.prog 45 #[.int .i64 n, .agg #[.int .i64 m, .int .i64 v]] w fun e w' => e = .returned (.bool false) ∧ Below w.heap.size w w' := by
  have HA : Hid ((0 : Int) ≤ n ∧ (n : Int) ≤ 5) := Lib.hid (by omega)
  have HB : Hid ((0 : Int) ≤ m ∧ (m : Int) ≤ 2 ^ n - 1) := Lib.hid (by omega)
  have HC := Lib.hid hv
  clear hm hv
  obtain ⟨hp1, hp2⟩ := two_pow_int n hn
  have hn5 : (n : Int) ≤ 5 := by omega
  clear hn
  go_enter Tryd.func45, Tryd.ntmps45
  go_wp2_with fail
  go_quiet ((go_at_call 18; first | with_reducible exact quiet_eq (Widths.in_yes _ _ _ HA.out _) | with_reducible exact quiet_eq (Widths.in_yes _ _ _ HB.out _) | with_reducible exact quiet_eq (Widths.in_no _ _ _ HC.out _)))
  go_wp2
  go_ret
  exact ⟨rfl, below_drewN ((Below.refl _ _).alloc (Nat.le_refl _) _) _⟩

set_option maxRecDepth 100000 in
set_option maxHeartbeats 1000000 in
theorem Trm.isM_yes (n m v : Nat) (hn : n ≤ 5) (hm : (m : Int) < 2 ^ n) (hv : (v : Int) ≤ m) (w : World) :
    Calls Tryd.prog 45 #[.int .i64 n, .agg #[.int .i64 m, .int .i64 v]] w fun e w' => e = .returned (.bool (decide (v &&& m = v))) ∧ Below w.heap.size w w' := by
  have HA : Hid ((0 : Int) ≤ n ∧ (n : Int) ≤ 5) := Lib.hid (by omega)
  have HB : Hid ((0 : Int) ≤ m ∧ (m : Int) ≤ 2 ^ n - 1) := Lib.hid (by omega)
  have HC : Hid ((0 : Int) ≤ v ∧ (v : Int) ≤ m) := Lib.hid (by omega)
  obtain ⟨hp1, hp2⟩ := two_pow_int n hn
  have hand := and64 v m (by omega) (by omega)
  have hnb : (((v &&& m : Nat) : Int) == (v : Int)) = decide (v &&& m = v) := by
    by_cases h : v &&& m = v
    · rw [h]; simp
    · rw [decide_eq_false h, beq_eq_false_iff_ne]; omega
  clear hm hv
  have hn5 : (n : Int) ≤ 5 := by omega
  clear hn
  go_enter Tryd.func45, Tryd.ntmps45
  go_wp2_with fail
  go_quiet ((go_at_call 18; first | with_reducible exact quiet_eq (Widths.in_yes _ _ _ HA.out _) | with_reducible exact quiet_eq (Widths.in_yes _ _ _ HB.out _) | with_reducible exact quiet_eq (Widths.in_yes _ _ _ HC.out _)))
  go_wp2
  go_ret
  exact ⟨rfl, below_drewN ((Below.refl _ _).alloc (Nat.le_refl _) _) _⟩

/-- IsTerm of the model. -/
theorem Trm.isM (n m v : Int) (w : World) :
    Calls Tryd.prog 45 #[.int .i64 n, .agg #[.int .i64 m, .int .i64 v]] w fun e w' => e = .returned (.bool (isTm n m v)) ∧ Below w.heap.size w w' := by
  by_cases hn : 0 ≤ n ∧ n ≤ 5
  · obtain ⟨k, rfl⟩ := Int.eq_ofNat_of_zero_le hn.1
    by_cases hm : 0 ≤ m ∧ m < 2 ^ k
    · obtain ⟨a, rfl⟩ := Int.eq_ofNat_of_zero_le hm.1
      by_cases hv : 0 ≤ v ∧ v ≤ (a : Int)
      · obtain ⟨b, rfl⟩ := Int.eq_ofNat_of_zero_le hv.1
        have e : isTm (k : Int) (a : Int) (b : Int) = decide (b &&& a = b) := by
          unfold isTm
          simp only [Int.toNat_natCast]
          rw [Bool.eq_iff_iff, decide_eq_true_iff, decide_eq_true_iff]
          exact ⟨fun h => h.2.2.2, fun h => ⟨hn, hm, hv.1, h⟩⟩
        rw [e]
        exact Trm.isM_yes k a b (by omega) hm.2 hv.2 w
      · have e : isTm (k : Int) (a : Int) v = false := isTm_no fun h => hv ⟨h.2.2.1, by
          have := h.2.2.2
          have hle : v.toNat ≤ a := by rw [← this]; exact Nat.and_le_right
          omega⟩
        rw [e]
        exact Trm.isM_no3 k a v (by omega) hm.2 hv w
    · have e : isTm (k : Int) m v = false := isTm_no fun h => hm (by simpa using h.2.1)
      rw [e]
      exact Trm.isM_no2 k m v (by omega) hm w
  · rw [isTm_no fun h => hn h.1]
    exact Trm.isM_no1 n m v hn w

/-! The program's. -/
theorem Trm.isI_no1 (n m v : Int) (hn : ¬ (0 ≤ n ∧ n ≤ 5)) (w : World) :
    Calls Tryd.prog 50 #[.int .i64 n, .agg #[.int .i64 m, .int .i64 v]] w fun e w' => e = .returned (.bool false) ∧ Below w.heap.size w w' := by
  have H := Lib.hid (inB_no hn)
  clear hn
  go_enter Tryd.func50, Tryd.ntmps50
  go_wp2_with fail
  refine (Tab.bits _ _).mono ?_
  rintro e w1 ⟨rfl, rfl⟩
  rw [H.out]
  go_wp2
  go_ret
  exact ⟨rfl, (Below.refl _ _).alloc (Nat.le_refl _) _⟩

theorem Trm.isI_any (n : Nat) (m v : Int) (b : Bool) (hn : n ≤ 5) (w : World)
    (hC : ∀ w, Calls Tryd.prog 61 #[.int .i64 n, .int .i64 m, .int .i64 v] w fun e w' => e = .returned (.bool b) ∧ w = w') :
    Calls Tryd.prog 50 #[.int .i64 n, .agg #[.int .i64 m, .int .i64 v]] w fun e w' => e = .returned (.bool b) ∧ Below w.heap.size w w' := by
  have H : Hid (inB (n : Int) 0 5 = true) := Lib.hid (inB_yes (by omega))
  have HC := Lib.hid hC
  clear hn hC
  go_enter Tryd.func50, Tryd.ntmps50
  go_wp2_with fail
  refine (Tab.bits _ _).mono ?_
  rintro e w1 ⟨rfl, rfl⟩
  rw [H.out]
  go_wp2_with fail
  refine (HC.out _).mono ?_
  rintro e w1 ⟨rfl, rfl⟩
  go_wp2
  go_ret
  exact ⟨rfl, (Below.refl _ _).alloc (Nat.le_refl _) _⟩

theorem Trm.cube (n : Nat) (m v : Int) (hn : n ≤ 5) (hb : -9223372036854775808 ≤ v ∧ v ≤ 9223372036854775807) (w : World) :
    Calls Tryd.prog 61 #[.int .i64 n, .int .i64 m, .int .i64 v] w fun e w' => e = .returned (.bool (isTm n m v)) ∧ w = w' := by
  by_cases hm : 0 ≤ m ∧ m < 2 ^ n
  · obtain ⟨a, rfl⟩ := Int.eq_ofNat_of_zero_le hm.1
    by_cases hv : 0 ≤ v ∧ v.toNat &&& a = v.toNat
    · have e : isTm (n : Int) (a : Int) v = true := isTm_iff.2 ⟨by omega, by simpa using hm, hv.1, by simpa using hv.2⟩
      rw [e]
      obtain ⟨b, rfl⟩ := Int.eq_ofNat_of_zero_le hv.1
      exact Tab.isCube_yes n a b hn hm.2 (by simpa using hv.2) w
    · have e : isTm (n : Int) (a : Int) v = false := isTm_no fun h => hv ⟨h.2.2.1, by simpa using h.2.2.2⟩
      rw [e]
      exact Tab.isCube_no2 n a v hn hm.2 hb hv w
  · have e : isTm (n : Int) m v = false := isTm_no fun h => hm (by simpa using h.2.1)
    rw [e]
    exact Tab.isCube_no1 n m v hn hm w

/-- IsTerm of the program. -/
theorem Trm.isI (n m v : Int) (hb : -9223372036854775808 ≤ v ∧ v ≤ 9223372036854775807) (w : World) :
    Calls Tryd.prog 50 #[.int .i64 n, .agg #[.int .i64 m, .int .i64 v]] w fun e w' => e = .returned (.bool (isTm n m v)) ∧ Below w.heap.size w w' := by
  by_cases hn : 0 ≤ n ∧ n ≤ 5
  · obtain ⟨k, rfl⟩ := Int.eq_ofNat_of_zero_le hn.1
    exact Trm.isI_any k m v _ (by omega) w fun w => Trm.cube k m v (by omega) hb w
  · rw [isTm_no fun h => hn h.1]
    exact Trm.isI_no1 n m v hn w

end Go.Proofs.YtphjaggiddjhgaaDoor

namespace Go.Proofs.YtphjaggiddjhgaaDoor
open Go.RowKit Plain
set_option linter.unusedVariables false

theorem hold_beq (m v x : Nat) : (((x &&& m : Nat) : Int) == (v : Int)) = decide (x &&& m = v) := by
  by_cases h : x &&& m = v
  · rw [h]; simp
  · rw [decide_eq_false h, beq_eq_false_iff_ne]; omega

end Go.Proofs.YtphjaggiddjhgaaDoor

namespace Go.Proofs.YtphjaggiddjhgaaDoor
open Go.RowKit Plain
set_option linter.unusedVariables false

/-- What IsImplicant and IsPrimeTerm answer. -/
def Plain.impT (n a m v : Int) : Bool := isT n a && (isTm n m v && impB n.toNat a.toNat m.toNat v.toNat)
def Plain.prmT (n a m v : Int) : Bool := isT n a && (isTm n m v && primeB n.toNat a.toNat m.toNat v.toNat)
theorem impT_nat {n a m v : Nat} (ht : isT n a = true) (hv : isTm n m v = true) : impT n a m v = impB n a m v := by unfold impT; rw [ht, hv]; rfl
theorem prmT_nat {n a m v : Nat} (ht : isT n a = true) (hv : isTm n m v = true) : prmT n a m v = primeB n a m v := by unfold prmT; rw [ht, hv]; rfl
theorem cub_imp {n a m v : Nat} (hn : n ≤ 5) (hm : m < 2 ^ n) (hv : v &&& m = v) : (cubV n a m v = 1) ↔ impB n a m v = true := by
  have hvn : v < 2 ^ n := by have := tm_le hn hm hv; omega
  rw [impB_iff]
  constructor
  · intro h x hx he
    rw [← bitN_one]
    cases hc : cubX a m v (2 ^ n) with
    | true => rw [cubV_mixed hc] at h; omega
    | false =>
      rw [cubV_same hc] at h
      by_cases e : bitN a x = bitN a v
      · omega
      · rw [cubX_hit hx he e] at hc; exact absurd hc (by decide)
  · intro h
    have hb : bitN a v = 1 := (bitN_one a v).2 (h v hvn hv)
    have hc : cubX a m v (2 ^ n) = false := by
      rw [Bool.eq_false_iff]
      intro hc
      obtain ⟨x, h1, h2, h3⟩ := (cubX_iff a m v (2 ^ n)).1 hc
      exact h3 (((bitN_one a x).2 (h x h1 h2)).trans hb.symm)
    rw [cubV_same hc, hb]; rfl
theorem cub_impT (n a m v : Int) : (cubT n a m v == 1) = impT n a m v := by
  by_cases h : cubOk n a m v
  · obtain ⟨ht, hm, hv⟩ := h
    obtain ⟨k, x, rfl, rfl, hk, hx⟩ := isT_nat ht
    have htm : isTm (k : Int) m v = true := isTm_iff.2 ⟨by omega, hm, hv⟩
    obtain ⟨k', b, c, e1, rfl, rfl, _, hb, hc⟩ := isTm_nat htm
    obtain rfl : k = k' := by omega
    rw [impT_nat ht htm, cubT_yes ht (by have := pow2i k; omega) hc, Bool.eq_iff_iff, beq_iff_eq, cub_imp hk hb hc]
  · rw [cubT_no h]
    have : impT n a m v = false := by
      unfold impT
      cases ht : isT n a with
      | false => rfl
      | true =>
        cases hv : isTm n m v with
        | false => rfl
        | true =>
          obtain ⟨_, h2, h3⟩ := isTm_iff.1 hv
          exact absurd ⟨ht, h2, h3⟩ h
    rw [this]; rfl

end Go.Proofs.YtphjaggiddjhgaaDoor

namespace Go.Proofs.YtphjaggiddjhgaaDoor
open Go.RowKit Plain
set_option linter.unusedVariables false

theorem off_i64 : ∀ m < 32, ∀ i < 5, Go.bits .andNot .i64 ((m : Nat) : Int) (IntKind.i64.wrap ((2 : Int) ^ i)) = ((offB m i : Nat) : Int) := by decide +kernel
theorem pick_i64 : ∀ m < 32, ∀ i < 5, Go.bits .and .i64 ((m : Nat) : Int) (wrap64 ((2 : Int) ^ i)) = ((m &&& 2 ^ i : Nat) : Int) := by decide +kernel
theorem pick_bit : ∀ m < 32, ∀ i < 5, (((m &&& 2 ^ i : Nat) : Int) != 0) = decide (bitN m i = 1) := by decide +kernel
theorem off_val : ∀ v < 32, ∀ i < 5, wrap64 (((v : Nat) : Int) - Go.bits .and .i64 ((v : Nat) : Int) (wrap64 ((2 : Int) ^ i))) = ((offB v i : Nat) : Int) := by decide +kernel
theorem off_msk : ∀ m < 32, ∀ i < 5, bitN m i = 1 → wrap64 (((m : Nat) : Int) - wrap64 ((2 : Int) ^ i)) = ((offB m i : Nat) : Int) := by decide +kernel

theorem off_tm : ∀ m < 32, ∀ v < 32, ∀ i < 5, v &&& m = v → offB v i &&& offB m i = offB v i := offB_sub

theorem primeX_step {n a m v k : Nat} (h : primeX n a m v k) (hk : bitN m k = 1 → impB n a (offB m k) (offB v k) = false) : primeX n a m v (k + 1) := by
  intro i hi hb
  rcases (show i < k ∨ i = k by omega) with g | rfl
  · exact h i g hb
  · exact hk hb

theorem pick_zero : ∀ m < 32, ∀ i < 5, bitN m i = 0 → (m &&& 2 ^ i) = 0 := by decide +kernel

/-! TermHolds. -/
def Plain.holdT (m v x : Int) : Bool := isTm 5 m v && (decide (0 ≤ x ∧ x ≤ 31) && decide (x.toNat &&& m.toNat = v.toNat))

theorem Trm.input5 (x : Int) (w : World) : Calls Tryd.prog 70 #[.int .i64 5, .int .i64 x] w fun e w' => e = .returned (.bool (inpB 5 x)) ∧ w = w' := Tab.input 5 x (by decide) w

end Go.Proofs.YtphjaggiddjhgaaDoor

namespace Go.Proofs.YtphjaggiddjhgaaDoor
open Go.RowKit Plain
set_option linter.unusedVariables false

end Go.Proofs.YtphjaggiddjhgaaDoor
