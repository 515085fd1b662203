/-
  IsTable of the program and of its model: both answer 'Plain.isT'. The laws' copies of tables.
  IsTable of the program at every pair of ints; the laws' copies of tables and their comparison; words.
-/
import Derived.Test.YtpniefagpinbdaaTabA
import Derived.BigQuiet
import Derived.Deep.DeepCutAuto
import Derived.Deep.RegionWith

namespace Go.Proofs.Ytpniefagpinbdaa
open Go.RowKit Plain
set_option linter.unusedVariables false

theorem inB_isT (n : Nat) (hn : n ≤ 5) (wd : Int) : inB wd 0 (fullN n) = isT n wd := by
  unfold inB isT
  congr 1
  simp only [Int.toNat_natCast, eq_iff_iff]
  omega

end Go.Proofs.Ytpniefagpinbdaa

namespace Go.Proofs.Ytpniefagpinbdaa
open Go.RowKit Plain
set_option linter.unusedVariables false

theorem Tab.same (n wd : Int) (w : World) :
    Calls Try.prog 15 #[.agg #[.int .i64 n, .int .i64 wd], .agg #[.int .i64 n, .int .i64 wd]] w fun e w' => e = .returned (.bool true) ∧ Below w.heap.size w w' := by
  go_enter Try.func15, Try.ntmps15
  go_wp2
  go_ret
  exact ⟨rfl, ((Below.refl _ _).alloc (Nat.le_refl _) _).alloc (by simp) _⟩

end Go.Proofs.Ytpniefagpinbdaa
