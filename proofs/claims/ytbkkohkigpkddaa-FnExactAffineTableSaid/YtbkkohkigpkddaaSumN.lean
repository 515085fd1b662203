/-
  Sums of numbers below a bound; how many bits are 1, as a sum.
-/
import Derived.Test.YtbkkohkigpkddaaPlainR
import Derived.Test.YtbkkohkigpkddaaPlainC
namespace Go.Proofs.Ytbkkohkigpkddaa
open Go.RowKit Plain
set_option linter.unusedVariables false

/-! Sums -/
def Plain.sumN (f : Nat → Nat) : Nat → Nat
  | 0 => 0
  | k + 1 => sumN f k + f k
theorem sumN_congr {f g : Nat → Nat} {k : Nat} (h : ∀ x, x < k → f x = g x) : sumN f k = sumN g k := by
  induction k with
  | zero => rfl
  | succ k ih =>
    show sumN f k + f k = sumN g k + g k
    rw [ih fun x hx => h x (by omega), h k (by omega)]
theorem sumN_shift (f : Nat → Nat) (k : Nat) : sumN f (k + 1) = f 0 + sumN (fun i => f (i + 1)) k := by
  induction k with
  | zero => show 0 + f 0 = f 0 + 0; omega
  | succ k ih =>
    show sumN f (k + 1) + f (k + 1) = f 0 + (sumN (fun i => f (i + 1)) k + f (k + 1))
    omega
theorem sumN_add (f g : Nat → Nat) (k : Nat) : sumN (fun x => f x + g x) k = sumN f k + sumN g k := by
  induction k with
  | zero => rfl
  | succ k ih =>
    show sumN (fun x => f x + g x) k + (f k + g k) = (sumN f k + f k) + (sumN g k + g k)
    omega
theorem sumN_zero (k : Nat) : sumN (fun _ => 0) k = 0 := by
  induction k with
  | zero => rfl
  | succ k ih => show sumN (fun _ => 0) k + 0 = 0; omega
theorem sumN_swap (f : Nat → Nat → Nat) (k m : Nat) : sumN (fun x => sumN (fun y => f x y) m) k = sumN (fun y => sumN (fun x => f x y) k) m := by
  induction k with
  | zero => exact (sumN_zero m).symm
  | succ k ih =>
    show sumN (fun x => sumN (fun y => f x y) m) k + sumN (fun y => f k y) m = sumN (fun y => sumN (fun x => f x y) k + f k y) m
    rw [sumN_add, ih]
theorem sumN_one (v : Nat) (j : Nat) (k : Nat) (hj : j < k) : sumN (fun x => if x = j then v else 0) k = v := by
  induction k with
  | zero => omega
  | succ k ih =>
    show sumN (fun x => if x = j then v else 0) k + (if k = j then v else 0) = v
    by_cases h : k = j
    · subst h
      rw [if_pos rfl, sumN_congr (g := fun _ => 0) fun x hx => if_neg (by omega), sumN_zero]; omega
    · rw [if_neg h, ih (by omega), Nat.add_zero]
/-- A sum does not depend on the order. -/
theorem sumN_perm (v g h : Nat → Nat) (k : Nat) (hg : ∀ y, y < k → g y < k) (hh : ∀ x, x < k → h x < k) (hgh : ∀ x, x < k → g (h x) = x) (hhg : ∀ y, y < k → h (g y) = y) :
    sumN (fun y => v (g y)) k = sumN v k := by
  have e1 : sumN (fun y => v (g y)) k = sumN (fun y => sumN (fun x => if x = g y then v x else 0) k) k := by
    refine sumN_congr fun y hy => ?_
    rw [sumN_congr (g := fun x => if x = g y then v (g y) else 0) fun x hx => by by_cases e : x = g y <;> simp [e], sumN_one _ _ _ (hg y hy)]
  rw [e1, sumN_swap]
  refine sumN_congr fun x hx => ?_
  rw [sumN_congr (g := fun y => if y = h x then v x else 0) fun y hy => by
    by_cases e : x = g y
    · rw [if_pos e, if_pos (by rw [e, hhg y hy])]
    · rw [if_neg e, if_neg (by rintro rfl; exact e (hgh x hx).symm)], sumN_one _ _ _ (hh x hx)]
theorem bitN_half (a i : Nat) : bitN a (i + 1) = bitN (a / 2) i := by
  unfold Plain.bitN
  rw [Nat.pow_succ, Nat.mul_comm, Nat.div_div_eq_div_mul]
theorem bitN_xor (a b x : Nat) : bitN (a ^^^ b) x = (bitN a x + bitN b x) % 2 := by
  rw [bitN_test, bitN_test, bitN_test, Nat.testBit_xor]
  cases a.testBit x <;> cases b.testBit x <;> rfl
theorem popN_sum (k : Nat) : ∀ a, a < 2 ^ k → popN a = sumN (bitN a) k := by
  induction k with
  | zero =>
    intro a h
    have : a = 0 := by simpa using h
    subst this
    exact popN_zero
  | succ k ih =>
    intro a h
    rw [popN_half, ih (a / 2) (by rw [Nat.pow_succ] at h; omega), sumN_shift]
    congr 1
    · unfold Plain.bitN; rw [Nat.pow_zero, Nat.div_one]
    · exact sumN_congr fun i _ => (bitN_half a i).symm

end Go.Proofs.Ytbkkohkigpkddaa
