/-
  DependsOn of the program and of its model.
-/
import Derived.Test.YtphjaggiddjhgaaGreatDoorResE
import Derived.Deep.RegionHeld3
import Derived.Deep.DeepCutAuto
import Derived.Deep.DrawnRows
namespace Go.Proofs.YtphjaggiddjhgaaGreatDoor
open Go.RowKit Plain
set_option linter.unusedVariables false
attribute [local go_sem ↓] Go.wp_at_zero Go.wp_at_succ

/-- Does the table depend on the variable? -/
def Plain.depW (n a i : Nat) : Bool := decide (restW n a i 0 ≠ restW n a i 1)
def Plain.depB (n a i : Int) : Bool := isT n a && decide (0 ≤ i ∧ i ≤ n - 1) && depW n.toNat a.toNat i.toNat
theorem depB_in {n a i : Nat} (ht : isT n a = true) (hi : (i : Int) ≤ (n : Int) - 1) : depB n a i = depW n a i := by
  unfold depB; rw [ht, decide_eq_true (by omega)]; rfl
theorem depB_no {n a i : Int} (h : ¬ (isT n a = true ∧ (0 ≤ i ∧ i ≤ n - 1))) : depB n a i = false := by
  unfold depB
  cases ht : isT n a with
  | false => rfl
  | true => rw [decide_eq_false (fun hh => h ⟨ht, hh⟩)]; rfl
theorem depW_true {n a i : Nat} (h : depW n a i = true) : restW n a i 0 ≠ restW n a i 1 := of_decide_eq_true h
theorem depW_false {n a i : Nat} (h : depW n a i = false) : restW n a i 0 = restW n a i 1 := by simpa using of_decide_eq_false h
end Go.Proofs.YtphjaggiddjhgaaGreatDoor
