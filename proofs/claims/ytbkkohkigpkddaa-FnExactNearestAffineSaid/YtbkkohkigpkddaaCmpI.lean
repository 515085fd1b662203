/-
  cmp.Compare at ints.
-/
import Derived.Test.YtbkkohkigpkddaaBase
import Derived.Lib.Hide
import Derived.Deep.DeepCutAuto
namespace Go.Proofs.Ytbkkohkigpkddaa
open Go.RowKit Plain
set_option linter.unusedVariables false

theorem Nan.any (x : Int) (w : World) :
    Calls Try.prog 54 #[.int .i64 x] w fun e w' => e = .returned (.bool false) ∧ w = w' := by
  go_enter Try.func54, Try.ntmps54
  go_wp2
  go_ret
  exact ⟨ret_bool (by simp), rfl⟩

def Plain.cmpI (x y : Int) : Int := if x < y then -1 else if y < x then 1 else 0
theorem Cmp.any (x y : Int) (w : World) :
    Calls Try.prog 49 #[.int .i64 x, .int .i64 y] w fun e w' => e = .returned (.int .i64 (cmpI x y)) ∧ w = w' := by
  have HN := Lib.hid (Nan.any x)
  have HM := Lib.hid (Nan.any y)
  rcases (show x < y ∨ y < x ∨ x = y by omega) with h | h | rfl
  · have HE : Hid (cmpI x y = -1) := Lib.hid (if_pos h)
    rw [HE.out]
    go_enter Try.func49, Try.ntmps49
    go_wp2_with fail
    refine (HN.out _).mono ?_
    rintro e w' ⟨rfl, rfl⟩
    go_wp2_with fail
    refine (HM.out _).mono ?_
    rintro e w' ⟨rfl, rfl⟩
    go_wp2
    go_ret
    exact ⟨rfl, rfl⟩
  · have h2 : ¬ x < y := by omega
    have HE : Hid (cmpI x y = 1) := Lib.hid ((if_neg h2).trans (if_pos h))
    rw [HE.out]
    go_enter Try.func49, Try.ntmps49
    go_wp2_with fail
    refine (HN.out _).mono ?_
    rintro e w' ⟨rfl, rfl⟩
    go_wp2_with fail
    refine (HM.out _).mono ?_
    rintro e w' ⟨rfl, rfl⟩
    go_wp2
    go_ret
    exact ⟨rfl, rfl⟩
  · have h2 : ¬ x < x := by omega
    have HE : Hid (cmpI x x = 0) := Lib.hid ((if_neg h2).trans (if_neg h2))
    rw [HE.out]
    go_enter Try.func49, Try.ntmps49
    go_wp2_with fail
    refine (HN.out _).mono ?_
    rintro e w' ⟨rfl, rfl⟩
    go_wp2_with fail
    refine (HM.out _).mono ?_
    rintro e w' ⟨rfl, rfl⟩
    go_wp2
    go_ret
    exact ⟨rfl, rfl⟩

theorem cmpI_lt {x y : Nat} (h : x < y) : decide (cmpI (x : Int) (y : Int) < 0) = true := by
  unfold Plain.cmpI; rw [if_pos (by omega)]; rfl
theorem cmpI_ge {x y : Nat} (h : ¬ x < y) : decide (cmpI (x : Int) (y : Int) < 0) = false := by
  unfold Plain.cmpI; rw [if_neg (by omega)]; split <;> rfl

end Go.Proofs.Ytbkkohkigpkddaa
