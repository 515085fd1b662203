/-
  Chapter 12, the model: signs; the term of a spectrum.
-/
import Derived.Test.YtechkghnmgimbaaQTabI
import Derived.Test.YtechkghnmgimbaaSpcP
namespace Go.Proofs.Ytechkghnmgimbaa.Q
set_option linter.unusedSimpArgs false
theorem Plain.qSpcM : True := trivial
open Go.RowKit Go.Proofs.Ytechkghnmgimbaa.Plain Go.Proofs.Ytechkghnmgimbaa.Q.Plain
set_option linter.unusedVariables false
attribute [local go_sem ↓] Go.wp_at_zero Go.wp_at_succ

/-- The sign of a number of ones. -/
def Plain.sgN (p : Nat) : Int := 1 - 2 * ((p % 2 : Nat) : Int)

theorem sgN_mul (p q : Nat) : sgN p * sgN q = sgN (p + q) := by
  unfold Plain.sgN
  rcases Nat.mod_two_eq_zero_or_one p with hp | hp <;> rcases Nat.mod_two_eq_zero_or_one q with hq | hq <;> rw [Nat.add_mod, hp, hq] <;> rfl

theorem sgN_spc (a s x : Nat) : sgN (bitN a x) * sgN (popN (s &&& x)) = spcV a s x := sgN_mul _ _

theorem popN_bit (b : Nat) (h : b < 2) : popN b = b := by
  rcases (show b = 0 ∨ b = 1 by omega) with rfl | rfl <;> decide +kernel

set_option maxRecDepth 100000 in
theorem Sgn.model (v : Nat) (hv : (v : Int) ≤ 4294967295) (w : World) :
    Calls Tq.prog 36 #[.int .i64 v] w fun e w' => e = .returned (.int .i64 (sgN (popN v))) ∧ w = w' := by
  have hp := popN_lim v hv
  have HC := Lib.hid (Tab.onesM v hv)
  generalize hP : popN v = p at *
  rcases Nat.mod_two_eq_zero_or_one p with h | h
  · have hs : sgN p = 1 := by unfold Plain.sgN; rw [h]; rfl
    rw [hs]
    have h2 : (p : Int).tmod 2 = 0 := by rw [Int.tmod_eq_emod_of_nonneg (by omega)]; omega
    go_enter Tq.func36, Tq.ntmps36
    go_wp2_with fail
    refine (HC.out _).mono ?_
    rintro e w1 ⟨rfl, rfl⟩
    go_wp2
    go_ret
    exact ⟨rfl, rfl⟩
  · have hs : sgN p = -1 := by unfold Plain.sgN; rw [h]; rfl
    rw [hs]
    have h2 : (p : Int).tmod 2 = 1 := by rw [Int.tmod_eq_emod_of_nonneg (by omega)]; omega
    go_enter Tq.func36, Tq.ntmps36
    go_wp2_with fail
    refine (HC.out _).mono ?_
    rintro e w1 ⟨rfl, rfl⟩
    go_wp2
    go_ret
    exact ⟨rfl, rfl⟩
end Go.Proofs.Ytechkghnmgimbaa.Q
