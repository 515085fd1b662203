/-
  Contract of the model's small test of ranges.
-/
import Derived.Test.YtlmhdocfdpbhmaaBase0
namespace Go.Proofs.Ytlmhdocfdpbhmaa
open Go.RowKit
set_option linter.unusedVariables false

def inB (x a b : Int) : Bool := decide (a ≤ x ∧ x ≤ b)
theorem inB_yes {x a b : Int} (h : a ≤ x ∧ x ≤ b) : inB x a b = true := decide_eq_true h
theorem inB_no {x a b : Int} (h : ¬ (a ≤ x ∧ x ≤ b)) : inB x a b = false := decide_eq_false h

theorem Widths.inRange (x a b : Int) (w : World) :
    Calls Try.prog 71 #[.int .i64 x, .int .i64 a, .int .i64 b] w fun e w' => e = .returned (.bool (inB x a b)) ∧ w = w' := by
  by_cases h1 : a ≤ x
  · by_cases h2 : x ≤ b
    · go_enter Try.func71, Try.ntmps71
      go_wp2
      go_ret
      exact ⟨ret_bool (inB_yes (by omega)).symm, rfl⟩
    · go_enter Try.func71, Try.ntmps71
      go_wp2
      go_ret
      exact ⟨ret_bool (inB_no (by omega)).symm, rfl⟩
  · go_enter Try.func71, Try.ntmps71
    go_wp2
    go_ret
    exact ⟨ret_bool (inB_no (by omega)).symm, rfl⟩

theorem Widths.in_yes (x a b : Int) (h : a ≤ x ∧ x ≤ b) (w : World) :
    Calls Try.prog 71 #[.int .i64 x, .int .i64 a, .int .i64 b] w fun e w' => e = .returned (.bool true) ∧ w = w' :=
  (Widths.inRange x a b w).mono fun e w'' ⟨h1, h2⟩ => ⟨by rw [h1, inB_yes h], h2⟩

theorem Widths.in_no (x a b : Int) (h : ¬ (a ≤ x ∧ x ≤ b)) (w : World) :
    Calls Try.prog 71 #[.int .i64 x, .int .i64 a, .int .i64 b] w fun e w' => e = .returned (.bool false) ∧ w = w' :=
  (Widths.inRange x a b w).mono fun e w'' ⟨h1, h2⟩ => ⟨by rw [h1, inB_no h], h2⟩
end Go.Proofs.Ytlmhdocfdpbhmaa
