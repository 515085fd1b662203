/-
  VariablesOf of the program and of its model.
-/
import Derived.Test.YtphjaggiddjhgaaGreatDoorResG
import Derived.Test.YtphjaggiddjhgaaGreatDoorRowB
import Derived.Deep.DeepMust
namespace Go.Proofs.YtphjaggiddjhgaaGreatDoor
open Go.RowKit Plain
set_option linter.unusedVariables false

/-- The variables below k that matter. -/
def Plain.varsL (n a : Nat) : Nat → List Int
  | 0 => []
  | k + 1 => if depW n a k = true then varsL n a k ++ [(k : Int)] else varsL n a k
theorem varsL_yes {n a k : Nat} (h : depW n a k = true) : varsL n a (k + 1) = varsL n a k ++ [(k : Int)] := by show (if _ then _ else _) = _; rw [if_pos h]
theorem varsL_no {n a k : Nat} (h : depW n a k = false) : varsL n a (k + 1) = varsL n a k := by show (if _ then _ else _) = _; rw [if_neg (by rw [h]; decide)]
theorem varsL_len (n a k : Nat) : (varsL n a k).length ≤ k := by
  induction k with
  | zero => exact Nat.le_refl _
  | succ k ih =>
    cases h : depW n a k with
    | true => rw [varsL_yes h, List.length_append, List.length_singleton]; omega
    | false => rw [varsL_no h]; omega
theorem varsL_mem (n a k : Nat) : ∀ x ∈ varsL n a k, 0 ≤ x ∧ x < (k : Int) := by
  induction k with
  | zero => intro x hx; cases hx
  | succ k ih =>
    intro x hx
    cases h : depW n a k with
    | true =>
      rw [varsL_yes h] at hx
      rcases List.mem_append.1 hx with hx | hx
      · have := ih x hx; omega
      · have : x = (k : Int) := by simpa using hx
        omega
    | false => rw [varsL_no h] at hx; have := ih x hx; omega
/-- What VariablesOf answers. -/
def Plain.varsT (n a : Int) : List Int := if isT n a = true then varsL n.toNat a.toNat n.toNat else []
theorem varsT_yes {n a : Nat} (h : isT n a = true) : varsT n a = varsL n a n := by unfold varsT; rw [if_pos h]; rfl
theorem varsT_no {n a : Int} (h : isT n a = false) : varsT n a = [] := if_neg (by rw [h]; decide)
theorem varsT_ok (n a : Int) : (varsT n a).length ≤ 5 ∧ ∀ x ∈ varsT n a, -9223372036854775808 ≤ x ∧ x ≤ 9223372036854775807 := by
  by_cases ht : isT n a = true
  · obtain ⟨m, x, rfl, rfl, hm, hx⟩ := isT_nat ht
    rw [varsT_yes ht]
    have := varsL_len m x m
    exact ⟨by omega, fun z hz => by have := varsL_mem m x m z hz; omega⟩
  · rw [varsT_no (by simpa using ht)]
    exact ⟨by decide, fun x hx => by cases hx⟩

/-- A list of ints in new memory. -/
def RowOut (l : List Int) (w : World) (e : Ending) (w' : World) : Prop := ∃ v, e = .returned v ∧ IntRow w' w.heap.size v l ∧ Below w.heap.size w w'

theorem rowNil (w : World) (B : Nat) : IntRow w B (.slice none 0 0) [] := ⟨by simp [intsV], .inl ⟨rfl, rfl⟩⟩
end Go.Proofs.YtphjaggiddjhgaaGreatDoor
