/-
  Implicants and prime terms, of the program and of its model; TermHolds.
-/
import Derived.Test.YtkamopckpmiioaaTrmB
import Derived.Deep.RegionWith

namespace Go.Proofs.Ytkamopckpmiioaa
open Go.RowKit Plain
set_option linter.unusedVariables false

/-- What IsImplicant and IsPrimeTerm answer. -/
def Plain.impT (n a m v : Int) : Bool := isT n a && (isTm n m v && impB n.toNat a.toNat m.toNat v.toNat)
def Plain.prmT (n a m v : Int) : Bool := isT n a && (isTm n m v && primeB n.toNat a.toNat m.toNat v.toNat)
theorem impT_nat {n a m v : Nat} (ht : isT n a = true) (hv : isTm n m v = true) : impT n a m v = impB n a m v := by unfold impT; rw [ht, hv]; rfl
theorem prmT_nat {n a m v : Nat} (ht : isT n a = true) (hv : isTm n m v = true) : prmT n a m v = primeB n a m v := by unfold prmT; rw [ht, hv]; rfl
theorem cub_imp {n a m v : Nat} (hn : n ≤ 5) (hm : m < 2 ^ n) (hv : v &&& m = v) : (cubV n a m v = 1) ↔ impB n a m v = true := by
  have hvn : v < 2 ^ n := by have := tm_le hn hm hv; omega
  rw [impB_iff]
  constructor
  · intro h x hx he
    rw [← bitN_one]
    cases hc : cubX a m v (2 ^ n) with
    | true => rw [cubV_mixed hc] at h; omega
    | false =>
      rw [cubV_same hc] at h
      by_cases e : bitN a x = bitN a v
      · omega
      · rw [cubX_hit hx he e] at hc; exact absurd hc (by decide)
  · intro h
    have hb : bitN a v = 1 := (bitN_one a v).2 (h v hvn hv)
    have hc : cubX a m v (2 ^ n) = false := by
      rw [Bool.eq_false_iff]
      intro hc
      obtain ⟨x, h1, h2, h3⟩ := (cubX_iff a m v (2 ^ n)).1 hc
      exact h3 (((bitN_one a x).2 (h x h1 h2)).trans hb.symm)
    rw [cubV_same hc, hb]; rfl
theorem cub_impT (n a m v : Int) : (cubT n a m v == 1) = impT n a m v := by
  by_cases h : cubOk n a m v
  · obtain ⟨ht, hm, hv⟩ := h
    obtain ⟨k, x, rfl, rfl, hk, hx⟩ := isT_nat ht
    have htm : isTm (k : Int) m v = true := isTm_iff.2 ⟨by omega, hm, hv⟩
    obtain ⟨k', b, c, e1, rfl, rfl, _, hb, hc⟩ := isTm_nat htm
    obtain rfl : k = k' := by omega
    rw [impT_nat ht htm, cubT_yes ht (by have := pow2i k; omega) hc, Bool.eq_iff_iff, beq_iff_eq, cub_imp hk hb hc]
  · rw [cubT_no h]
    have : impT n a m v = false := by
      unfold impT
      cases ht : isT n a with
      | false => rfl
      | true =>
        cases hv : isTm n m v with
        | false => rfl
        | true =>
          obtain ⟨_, h2, h3⟩ := isTm_iff.1 hv
          exact absurd ⟨ht, h2, h3⟩ h
    rw [this]; rfl

/-- IsImplicant of the program. -/
theorem Trm.impI (n a m v : Int) (h64 : -9223372036854775808 ≤ a ∧ a ≤ 9223372036854775807) (hv64 : -9223372036854775808 ≤ v ∧ v ≤ 9223372036854775807) (w : World) :
    Calls Try.prog 26 #[.agg #[.int .i64 n, .int .i64 a], .agg #[.int .i64 m, .int .i64 v]] w fun e w' => e = .returned (.bool (impT n a m v)) ∧ Below w.heap.size w w' := by
  have HA := Lib.hid h64
  have HV := Lib.hid hv64
  have HC := Lib.hid (cub_impT n a m v)
  clear h64 hv64
  go_enter Try.func26, Try.ntmps26
  go_wp2_with fail
  refine (Tab.cubI n a m v HA.out HV.out _).mono ?_
  rintro e w1 ⟨rfl, hb1⟩
  have HB := Lib.hid hb1
  generalize cubT n a m v = z at HC
  have hz := HC.out
  clear hb1 HC
  go_wp2
  go_ret
  exact ⟨rfl, bB HB.out (by simp; omega) (bA (by simp) (bA (Nat.le_refl _) (Below.refl _ _)))⟩

/-- l6Implies of the model. -/
theorem Trm.impliesM (n a m v : Nat) (M V : Int) (hM : M = (m : Int)) (hV : V = (v : Int)) (hn : n ≤ 5) (ha : (a : Int) ≤ 4294967295) (hm : (m : Int) ≤ 31) (w : World) :
    Calls Try.prog 60 #[.agg #[.int .i64 n, .int .i64 a], .agg #[.int .i64 M, .int .i64 V]] w fun e w' => e = .returned (.bool (impB n a m v)) ∧ Below w.heap.size w w' := by
  subst hM hV
  have hw := tmW_bound m v (2 ^ n) (pow5q hn)
  have hand := and64 (tmW m v (2 ^ n)) a (by omega) (by omega)
  have hb : ((((tmW m v (2 ^ n)) &&& a : Nat) : Int) == ((tmW m v (2 ^ n) : Nat) : Int)) = impB n a m v := by
    unfold impB
    rw [Bool.eq_iff_iff, beq_iff_eq, decide_eq_true_iff]; omega
  have HW := Lib.hid (Trm.word n m v hn hm)
  clear hn hm ha hw
  generalize tmW m v (2 ^ n) = u at hand hb HW
  go_enter Try.func60, Try.ntmps60
  go_wp2_with fail
  refine (HW.out _).mono ?_
  rintro e w1 ⟨rfl, hb1⟩
  obtain ⟨hc1, hf1⟩ := bcell hb1
  have hz : w.heap.size + 1 < w1.heap.size := by have := hb1.size; simp at this; omega
  have hz' : w.heap.size < w1.heap.size := by omega
  go_wp2
  go_ret
  exact ⟨rfl, bB hb1 (by simp; omega) (bA (by simp) (bA (Nat.le_refl _) (Below.refl _ _)))⟩

theorem Trm.impM_no1 (n a m v : Int) (ht : isT n a = false) (w : World) :
    Calls Try.prog 24 #[.agg #[.int .i64 n, .int .i64 a], .agg #[.int .i64 m, .int .i64 v]] w fun e w' => e = .returned (.bool false) ∧ Below w.heap.size w w' := by
  have H := Lib.hid ht
  clear ht
  go_enter Try.func24, Try.ntmps24
  go_wp2_with fail
  refine (Tab.model _ _ _).mono ?_
  rintro e w1 ⟨rfl, hb1⟩
  rw [H.out]
  go_wp2
  go_ret
  exact ⟨rfl, bB hb1 (by simp; omega) (bA (by simp) (bA (Nat.le_refl _) (Below.refl _ _)))⟩

theorem Trm.impM_no2 (n a m v : Int) (ht : isT n a = true) (hv : isTm n m v = false) (w : World) :
    Calls Try.prog 24 #[.agg #[.int .i64 n, .int .i64 a], .agg #[.int .i64 m, .int .i64 v]] w fun e w' => e = .returned (.bool false) ∧ Below w.heap.size w w' := by
  have H := Lib.hid ht
  have HV := Lib.hid hv
  clear ht hv
  go_enter Try.func24, Try.ntmps24
  go_wp2_with fail
  refine (Tab.model _ _ _).mono ?_
  rintro e w1 ⟨rfl, hb1⟩
  obtain ⟨hc1, hf1⟩ := bcell hb1
  have hz : w.heap.size + 1 < w1.heap.size := by have := hb1.size; simp at this; omega
  have hz' : w.heap.size < w1.heap.size := by omega
  rw [H.out]
  go_wp2_with fail
  refine (Trm.isM _ _ _ _).mono ?_
  rintro e w2 ⟨rfl, hb2⟩
  rw [HV.out]
  go_wp2
  go_ret
  exact ⟨rfl, bB hb2 (by omega) (bB hb1 (by simp; omega) (bA (by simp) (bA (Nat.le_refl _) (Below.refl _ _))))⟩

theorem Trm.impM_yes (n a m v : Nat) (ht : isT n a = true) (hn : n ≤ 5) (ha : (a : Int) ≤ 4294967295) (hm : (m : Int) ≤ 31) (hv : isTm n m v = true) (w : World) :
    Calls Try.prog 24 #[.agg #[.int .i64 n, .int .i64 a], .agg #[.int .i64 m, .int .i64 v]] w fun e w' => e = .returned (.bool (impB n a m v)) ∧ Below w.heap.size w w' := by
  have H := Lib.hid ht
  have HV := Lib.hid hv
  have HI := Lib.hid (Trm.impliesM n a m v m v rfl rfl hn ha hm)
  clear ht hv hn ha hm
  go_enter Try.func24, Try.ntmps24
  go_wp2_with fail
  refine (Tab.model _ _ _).mono ?_
  rintro e w1 ⟨rfl, hb1⟩
  obtain ⟨hc1, hf1⟩ := bcell hb1
  have hz : w.heap.size + 1 < w1.heap.size := by have := hb1.size; simp at this; omega
  have hz' : w.heap.size < w1.heap.size := by omega
  rw [H.out]
  go_wp2_with fail
  refine (Trm.isM _ _ _ _).mono ?_
  rintro e w2 ⟨rfl, hb2⟩
  obtain ⟨hc2, hf2⟩ := bcell hb2
  have hz2 : w.heap.size + 1 < w2.heap.size := by have := hb2.size; omega
  have hz2' : w.heap.size < w2.heap.size := by omega
  rw [HV.out]
  go_wp2_with fail
  refine (HI.out _).mono ?_
  rintro e w3 ⟨rfl, hb3⟩
  go_wp2
  go_ret
  exact ⟨rfl, bB hb3 (by omega) (bB hb2 (by omega) (bB hb1 (by simp; omega) (bA (by simp) (bA (Nat.le_refl _) (Below.refl _ _)))))⟩

/-- IsImplicant of the model. -/
theorem Trm.impM (n a m v : Int) (w : World) :
    Calls Try.prog 24 #[.agg #[.int .i64 n, .int .i64 a], .agg #[.int .i64 m, .int .i64 v]] w fun e w' => e = .returned (.bool (impT n a m v)) ∧ Below w.heap.size w w' := by
  cases ht : isT n a with
  | false =>
    have : impT n a m v = false := by unfold impT; rw [ht]; rfl
    rw [this]; exact Trm.impM_no1 n a m v ht w
  | true =>
    cases hv : isTm n m v with
    | false =>
      have : impT n a m v = false := by unfold impT; rw [ht, hv]; rfl
      rw [this]; exact Trm.impM_no2 n a m v ht hv w
    | true =>
      obtain ⟨k, x, rfl, rfl, hk, hx⟩ := isT_nat ht
      obtain ⟨k', b, c, e1, rfl, rfl, _, hb, hc⟩ := isTm_nat hv
      obtain rfl : k = k' := by omega
      have := tm_le hk hb hc
      rw [impT_nat ht hv]
      exact Trm.impM_yes k x b c ht hk (by have := fullN_le k hk; omega) (by omega) hv w

end Go.Proofs.Ytkamopckpmiioaa
