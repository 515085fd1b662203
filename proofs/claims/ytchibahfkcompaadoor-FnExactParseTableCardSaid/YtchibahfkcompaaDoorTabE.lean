/-
  ValueAt of the program; CountOnes of both but for the counting; NotTable.
-/
import Derived.Test.YtchibahfkcompaaDoorTabD
namespace Go.Proofs.YtchibahfkcompaaDoor
open Go.RowKit Plain
set_option linter.unusedVariables false

theorem Tab.table (n a : Nat) (ha : (a : Int) ≤ 9223372036854775807) (w : World) :
    Calls Tryd.prog 11 #[.int .u64 a, .int .i64 n] w fun e w' => e = .returned (.agg #[.int .i64 n, .int .i64 a]) ∧ Below w.heap.size w w' := by
  go_enter Tryd.func11, Tryd.ntmps11
  go_wp2
  exact bodyPost_ret (v := .agg #[.int .i64 n, .int .i64 a]) (by simp [results, Tryd.results11, go_sem]) rfl ⟨rfl, (Below.refl _ _).alloc (Nat.le_refl _) _⟩
end Go.Proofs.YtchibahfkcompaaDoor
