/-
  The laws' copies of terms and their comparison.
-/
import Derived.Test.YtkamopckpmiioaaTrmD

namespace Go.Proofs.Ytkamopckpmiioaa
open Go.RowKit Plain
set_option linter.unusedVariables false

theorem Trm.copyX (m v : Int) (w : World) :
    Calls Try.prog 15 #[.agg #[.int .i64 m, .int .i64 v]] w fun e w' => e = .returned (.agg #[.int .i64 m, .int .i64 v]) ∧ ((w.alloc (.cells #[.int .i64 m, .int .i64 v] 23)).alloc (.cells #[.int .i64 m, .int .i64 v] 25)).alloc (.cells #[.int .i64 m, .int .i64 v] 25) = w' := by
  go_enter Try.func15, Try.ntmps15
  go_wp2
  exact bodyPost_ret (v := .agg #[.int .i64 m, .int .i64 v]) (by simp [results, Try.results15, go_sem]) rfl ⟨rfl, rfl⟩

theorem Trm.copy (m v : Int) (w : World) :
    Calls Try.prog 15 #[.agg #[.int .i64 m, .int .i64 v]] w fun e w' => e = .returned (.agg #[.int .i64 m, .int .i64 v]) ∧ Below w.heap.size w w' :=
  (Trm.copyX m v w).mono fun e w' ⟨h1, h2⟩ => ⟨h1, h2 ▸ (((Below.refl _ _).alloc (Nat.le_refl _) _).alloc (by simp) _).alloc (by simp; omega) _⟩

theorem Trm.same (m v : Int) (w : World) :
    Calls Try.prog 23 #[.agg #[.int .i64 m, .int .i64 v], .agg #[.int .i64 m, .int .i64 v]] w fun e w' => e = .returned (.bool true) ∧ Below w.heap.size w w' := by
  go_enter Try.func23, Try.ntmps23
  go_wp2
  go_ret
  exact ⟨rfl, ((Below.refl _ _).alloc (Nat.le_refl _) _).alloc (by simp) _⟩

end Go.Proofs.Ytkamopckpmiioaa
