/-
  setSize of the program: the number of variables of a set.
-/
import Derived.Test.YtbkkohkigpkddaaTabI
namespace Go.Proofs.Ytbkkohkigpkddaa
open Go.RowKit Plain
set_option linter.unusedVariables false

theorem SetSize.any (m : Nat) (hm : (m : Int) ≤ 4294967295) (w : World) :
    Calls Try.prog 52 #[.int .i64 m] w fun e w' => e = .returned (.int .i64 (popN m : Int)) ∧ w = w' := by
  have HO := Lib.hid (Tab.ones64 m hm)
  have HP : Hid (Calls Try.prog 57 #[.int .u64 m] w fun e w' => e = .returned (.int .i64 (popN m : Int)) ∧ w = w') := Lib.hid (by
    go_enter Try.func57, Try.ntmps57
    go_wp2_with fail
    refine (HO.out _).mono ?_
    rintro e w' ⟨rfl, rfl⟩
    go_wp2
    go_ret
    exact ⟨rfl, rfl⟩)
  go_enter Try.func52, Try.ntmps52
  go_wp2_with fail
  refine HP.out.mono ?_
  rintro e w' ⟨rfl, rfl⟩
  go_wp2
  go_ret
  exact ⟨rfl, rfl⟩

end Go.Proofs.Ytbkkohkigpkddaa
