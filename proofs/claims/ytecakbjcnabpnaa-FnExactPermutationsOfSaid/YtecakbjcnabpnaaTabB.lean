/-
  IsTable of the program and of its model: both answer 'Plain.isT'. The laws' copies of tables.
-/
import Derived.Test.YtecakbjcnabpnaaTabA
import Derived.BigQuiet
import Derived.Deep.DeepCutAuto
import Derived.Deep.RegionWith
namespace Go.Proofs.Ytecakbjcnabpnaa
open Go.RowKit Plain
set_option linter.unusedVariables false

theorem inB_isT (n : Nat) (hn : n ≤ 5) (wd : Int) : inB wd 0 (fullN n) = isT n wd := by
  unfold inB isT
  congr 1
  simp only [Int.toNat_natCast, eq_iff_iff]
  omega

theorem Tab.fits (x n : Nat) (hn : n ≤ 5) (w : World) (hx : (x : Int) ≤ 18446744073709551615) :
    Calls Try.prog 103 #[.int .u64 x, .int .i64 n] w fun e w' => e = .returned (.bool (decide (x ≤ fullN n))) ∧ w = w' := by
  go_enter Try.func103, Try.ntmps103
  go_wp2_with (go_at_call 95; refine (Tab.full n hn _).mono ?_; rintro e w' ⟨rfl, rfl⟩)
  go_ret
  exact ⟨ret_bool (by simp), rfl⟩

theorem Tab.model_in (n : Nat) (hn : n ≤ 5) (wd : Int) (w : World) :
    Calls Try.prog 62 #[.agg #[.int .i64 n, .int .i64 wd]] w fun e w' => e = .returned (.bool (isT n wd)) ∧ Below w.heap.size w w' := by
  rw [← inB_isT n hn]
  rcases cases5 n hn with rfl | rfl | rfl | rfl | rfl | rfl
  all_goals
    clear hn
    go_enter Try.func62, Try.ntmps62
    go_wp2_with fail
    go_quiet (first | (go_at_call_of 63 wd; exact quiet_eq (Widths.inRange _ _ _ _)) | (go_at_call 63; exact quiet_eq (Widths.in_yes _ _ _ (by omega) _)))
    go_wp2
    go_ret
    exact ⟨rfl, below_drewN ((Below.refl _ _).alloc (Nat.le_refl _) _) _⟩

theorem Tab.model_out (n : Int) (hn : ¬ (0 ≤ n ∧ n ≤ 5)) (wd : Int) (w : World) :
    Calls Try.prog 62 #[.agg #[.int .i64 n, .int .i64 wd]] w fun e w' => e = .returned (.bool (isT n wd)) ∧ Below w.heap.size w w' := by
  rw [isT_out hn]
  have H := Lib.hid hn
  clear hn
  go_enter Try.func62, Try.ntmps62
  go_wp2_with fail
  go_quiet ((go_at_call 63; exact quiet_eq (Widths.in_no _ _ _ H.out _)))
  go_wp2
  go_ret
  exact ⟨rfl, below_drewN ((Below.refl _ _).alloc (Nat.le_refl _) _) _⟩

/-- IsTable of the model. -/
theorem Tab.model (n wd : Int) (w : World) :
    Calls Try.prog 62 #[.agg #[.int .i64 n, .int .i64 wd]] w fun e w' => e = .returned (.bool (isT n wd)) ∧ Below w.heap.size w w' := by
  by_cases h : 0 ≤ n ∧ n ≤ 5
  · obtain ⟨m, rfl⟩ := Int.eq_ofNat_of_zero_le h.1
    exact Tab.model_in m (by omega) wd w
  · exact Tab.model_out n h wd w

theorem Tab.impl_in (n x : Nat) (hn : n ≤ 5) (hx : (x : Int) ≤ 9223372036854775807) (w : World) :
    Calls Try.prog 55 #[.agg #[.int .i64 n, .int .i64 x]] w fun e w' => e = .returned (.bool (isT n x)) ∧ Below w.heap.size w w' := by
  have hd : decide (x ≤ fullN n) = isT n x := by
    unfold isT; congr 1; simp only [Int.toNat_natCast, eq_iff_iff]; omega
  have h1 : inB n 0 5 = true := inB_yes (by omega)
  rw [← hd]
  clear hd
  go_enter Try.func55, Try.ntmps55
  go_wp2_with (first
    | (go_at_call 102; refine (Tab.bits _ _).mono ?_; rintro e w' ⟨rfl, rfl⟩)
    | (go_at_call 103; refine (Tab.fits x n hn _ (by omega)).mono ?_; rintro e w' ⟨rfl, rfl⟩))
  go_ret
  exact ⟨rfl, (Below.refl _ _).alloc (Nat.le_refl _) _⟩
end Go.Proofs.Ytecakbjcnabpnaa
