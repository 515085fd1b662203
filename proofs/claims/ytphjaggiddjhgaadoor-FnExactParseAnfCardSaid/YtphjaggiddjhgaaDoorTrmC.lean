/-
  Implicants and prime terms, of the program and of its model; TermHolds.
-/
import Derived.Test.YtphjaggiddjhgaaDoorTrmB
import Derived.Deep.RegionWith

namespace Go.Proofs.YtphjaggiddjhgaaDoor
open Go.RowKit Plain
set_option linter.unusedVariables false

/-- What IsImplicant and IsPrimeTerm answer. -/
def Plain.impT (n a m v : Int) : Bool := isT n a && (isTm n m v && impB n.toNat a.toNat m.toNat v.toNat)
def Plain.prmT (n a m v : Int) : Bool := isT n a && (isTm n m v && primeB n.toNat a.toNat m.toNat v.toNat)
theorem impT_nat {n a m v : Nat} (ht : isT n a = true) (hv : isTm n m v = true) : impT n a m v = impB n a m v := by unfold impT; rw [ht, hv]; rfl
theorem prmT_nat {n a m v : Nat} (ht : isT n a = true) (hv : isTm n m v = true) : prmT n a m v = primeB n a m v := by unfold prmT; rw [ht, hv]; rfl
theorem cub_imp {n a m v : Nat} (hn : n ≤ 5) (hm : m < 2 ^ n) (hv : v &&& m = v) : (cubV n a m v = 1) ↔ impB n a m v = true := by
  have hvn : v < 2 ^ n := by have := tm_le hn hm hv; omega
  rw [impB_iff]
  constructor
  · intro h x hx he
    rw [← bitN_one]
    cases hc : cubX a m v (2 ^ n) with
    | true => rw [cubV_mixed hc] at h; omega
    | false =>
      rw [cubV_same hc] at h
      by_cases e : bitN a x = bitN a v
      · omega
      · rw [cubX_hit hx he e] at hc; exact absurd hc (by decide)
  · intro h
    have hb : bitN a v = 1 := (bitN_one a v).2 (h v hvn hv)
    have hc : cubX a m v (2 ^ n) = false := by
      rw [Bool.eq_false_iff]
      intro hc
      obtain ⟨x, h1, h2, h3⟩ := (cubX_iff a m v (2 ^ n)).1 hc
      exact h3 (((bitN_one a x).2 (h x h1 h2)).trans hb.symm)
    rw [cubV_same hc, hb]; rfl
theorem cub_impT (n a m v : Int) : (cubT n a m v == 1) = impT n a m v := by
  by_cases h : cubOk n a m v
  · obtain ⟨ht, hm, hv⟩ := h
    obtain ⟨k, x, rfl, rfl, hk, hx⟩ := isT_nat ht
    have htm : isTm (k : Int) m v = true := isTm_iff.2 ⟨by omega, hm, hv⟩
    obtain ⟨k', b, c, e1, rfl, rfl, _, hb, hc⟩ := isTm_nat htm
    obtain rfl : k = k' := by omega
    rw [impT_nat ht htm, cubT_yes ht (by have := pow2i k; omega) hc, Bool.eq_iff_iff, beq_iff_eq, cub_imp hk hb hc]
  · rw [cubT_no h]
    have : impT n a m v = false := by
      unfold impT
      cases ht : isT n a with
      | false => rfl
      | true =>
        cases hv : isTm n m v with
        | false => rfl
        | true =>
          obtain ⟨_, h2, h3⟩ := isTm_iff.1 hv
          exact absurd ⟨ht, h2, h3⟩ h
    rw [this]; rfl

end Go.Proofs.YtphjaggiddjhgaaDoor
