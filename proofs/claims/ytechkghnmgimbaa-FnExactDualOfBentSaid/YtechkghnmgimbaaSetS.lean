/-
  setSize of the program: the number of variables of a set.
-/
import Derived.Test.YtechkghnmgimbaaTabI
namespace Go.Proofs.Ytechkghnmgimbaa
open Go.RowKit Plain
set_option linter.unusedVariables false

theorem SetSize.any (m : Nat) (hm : (m : Int) ≤ 4294967295) (w : World) :
    Calls Try.prog 48 #[.int .i64 m] w fun e w' => e = .returned (.int .i64 (popN m : Int)) ∧ w = w' := by
  have HO := Lib.hid (Tab.ones64 m hm)
  have HP : Hid (Calls Try.prog 58 #[.int .u64 m] w fun e w' => e = .returned (.int .i64 (popN m : Int)) ∧ w = w') := Lib.hid (by
    go_enter Try.func58, Try.ntmps58
    go_wp2_with fail
    refine (HO.out _).mono ?_
    rintro e w' ⟨rfl, rfl⟩
    go_wp2
    go_ret
    exact ⟨rfl, rfl⟩)
  go_enter Try.func48, Try.ntmps48
  go_wp2_with fail
  refine HP.out.mono ?_
  rintro e w' ⟨rfl, rfl⟩
  go_wp2
  go_ret
  exact ⟨rfl, rfl⟩

end Go.Proofs.Ytechkghnmgimbaa
