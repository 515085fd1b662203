/-
  setSize of the program: the number of variables of a set.
-/
import Derived.Test.YtechkghnmgimbaaQTabI
namespace Go.Proofs.Ytechkghnmgimbaa.Q
set_option linter.unusedSimpArgs false
theorem Plain.qSetS : True := trivial
open Go.RowKit Go.Proofs.Ytechkghnmgimbaa.Plain Go.Proofs.Ytechkghnmgimbaa.Q.Plain
set_option linter.unusedVariables false

theorem SetSize.any (m : Nat) (hm : (m : Int) ≤ 4294967295) (w : World) :
    Calls Tq.prog 48 #[.int .i64 m] w fun e w' => e = .returned (.int .i64 (popN m : Int)) ∧ w = w' := by
  have HO := Lib.hid (Tab.ones64 m hm)
  have HP : Hid (Calls Tq.prog 58 #[.int .u64 m] w fun e w' => e = .returned (.int .i64 (popN m : Int)) ∧ w = w') := Lib.hid (by
    go_enter Tq.func58, Tq.ntmps58
    go_wp2_with fail
    refine (HO.out _).mono ?_
    rintro e w' ⟨rfl, rfl⟩
    go_wp2
    go_ret
    exact ⟨rfl, rfl⟩)
  go_enter Tq.func48, Tq.ntmps48
  go_wp2_with fail
  refine HP.out.mono ?_
  rintro e w' ⟨rfl, rfl⟩
  go_wp2
  go_ret
  exact ⟨rfl, rfl⟩

end Go.Proofs.Ytechkghnmgimbaa.Q
