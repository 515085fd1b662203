/-
  ValueAt of the program; CountOnes of both but for the counting; NotTable.
-/
import Derived.Test.YtecakbjcnabpnaaTabD
namespace Go.Proofs.Ytecakbjcnabpnaa
open Go.RowKit Plain
set_option linter.unusedVariables false

theorem Tab.fullM (n : Nat) (hn : n ≤ 5) (w : World) :
    Calls Try.prog 94 #[.int .i64 n] w fun e w' => e = .returned (.int .i64 (fullN n : Int)) ∧ w = w' := by
  rcases cases5 n hn with rfl | rfl | rfl | rfl | rfl | rfl
  all_goals
    clear hn
    go_enter Try.func94, Try.ntmps94
    go_wp2
    go_ret
    first | rw [fullN_0] | rw [fullN_1] | rw [fullN_2] | rw [fullN_3] | rw [fullN_4] | rw [fullN_5]
    exact ⟨rfl, rfl⟩

theorem Tab.table (n a : Nat) (ha : (a : Int) ≤ 9223372036854775807) (w : World) :
    Calls Try.prog 93 #[.int .u64 a, .int .i64 n] w fun e w' => e = .returned (.agg #[.int .i64 n, .int .i64 a]) ∧ Below w.heap.size w w' := by
  go_enter Try.func93, Try.ntmps93
  go_wp2
  exact bodyPost_ret (v := .agg #[.int .i64 n, .int .i64 a]) (by simp [results, Try.results93, go_sem]) rfl ⟨rfl, (Below.refl _ _).alloc (Nat.le_refl _) _⟩
end Go.Proofs.Ytecakbjcnabpnaa
