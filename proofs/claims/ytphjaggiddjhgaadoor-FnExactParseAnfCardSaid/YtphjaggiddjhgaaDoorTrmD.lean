/-
  Prime terms, of the program and of its model; TermHolds.
-/
import Derived.Test.YtphjaggiddjhgaaDoorTrmC
import Derived.Deep.RegionHeld3
import Derived.Deep.DeepCutAuto
import Derived.Deep.DrawnRows

namespace Go.Proofs.YtphjaggiddjhgaaDoor
open Go.RowKit Plain
set_option linter.unusedVariables false

theorem off_i64 : ∀ m < 32, ∀ i < 5, Go.bits .andNot .i64 ((m : Nat) : Int) (IntKind.i64.wrap ((2 : Int) ^ i)) = ((offB m i : Nat) : Int) := by decide +kernel
theorem pick_i64 : ∀ m < 32, ∀ i < 5, Go.bits .and .i64 ((m : Nat) : Int) (wrap64 ((2 : Int) ^ i)) = ((m &&& 2 ^ i : Nat) : Int) := by decide +kernel
theorem pick_bit : ∀ m < 32, ∀ i < 5, (((m &&& 2 ^ i : Nat) : Int) != 0) = decide (bitN m i = 1) := by decide +kernel
theorem off_val : ∀ v < 32, ∀ i < 5, wrap64 (((v : Nat) : Int) - Go.bits .and .i64 ((v : Nat) : Int) (wrap64 ((2 : Int) ^ i))) = ((offB v i : Nat) : Int) := by decide +kernel
theorem off_msk : ∀ m < 32, ∀ i < 5, bitN m i = 1 → wrap64 (((m : Nat) : Int) - wrap64 ((2 : Int) ^ i)) = ((offB m i : Nat) : Int) := by decide +kernel

theorem off_tm : ∀ m < 32, ∀ v < 32, ∀ i < 5, v &&& m = v → offB v i &&& offB m i = offB v i := offB_sub

theorem primeX_step {n a m v k : Nat} (h : primeX n a m v k) (hk : bitN m k = 1 → impB n a (offB m k) (offB v k) = false) : primeX n a m v (k + 1) := by
  intro i hi hb
  rcases (show i < k ∨ i = k by omega) with g | rfl
  · exact h i g hb
  · exact hk hb

theorem pick_zero : ∀ m < 32, ∀ i < 5, bitN m i = 0 → (m &&& 2 ^ i) = 0 := by decide +kernel

/-! TermHolds. -/
def Plain.holdT (m v x : Int) : Bool := isTm 5 m v && (decide (0 ≤ x ∧ x ≤ 31) && decide (x.toNat &&& m.toNat = v.toNat))

theorem Trm.input5 (x : Int) (w : World) : Calls Tryd.prog 70 #[.int .i64 5, .int .i64 x] w fun e w' => e = .returned (.bool (inpB 5 x)) ∧ w = w' := Tab.input 5 x (by decide) w

end Go.Proofs.YtphjaggiddjhgaaDoor
