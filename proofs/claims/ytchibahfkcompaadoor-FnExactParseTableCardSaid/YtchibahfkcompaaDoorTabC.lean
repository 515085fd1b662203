/-
  IsTable of the program at every pair of ints; the laws' copies of tables and their comparison; words.
-/
import Derived.Test.YtchibahfkcompaaDoorTabB
namespace Go.Proofs.YtchibahfkcompaaDoor
open Go.RowKit Plain
set_option linter.unusedVariables false

theorem Tab.same (n wd : Int) (w : World) :
    Calls Tryd.prog 6 #[.agg #[.int .i64 n, .int .i64 wd], .agg #[.int .i64 n, .int .i64 wd]] w fun e w' => e = .returned (.bool true) ∧ Below w.heap.size w w' := by
  go_enter Tryd.func6, Tryd.ntmps6
  go_wp2
  go_ret
  exact ⟨rfl, ((Below.refl _ _).alloc (Nat.le_refl _) _).alloc (by simp) _⟩
end Go.Proofs.YtchibahfkcompaaDoor
