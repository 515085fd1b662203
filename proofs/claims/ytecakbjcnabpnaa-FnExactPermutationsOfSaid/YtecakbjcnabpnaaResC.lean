/-
  RestrictTable of the program and of its model.
-/
import Derived.Test.YtecakbjcnabpnaaResB
namespace Go.Proofs.Ytecakbjcnabpnaa
open Go.RowKit Plain
set_option linter.unusedVariables false

/-- The word of the restriction. -/
def Plain.restW (n a i b : Nat) : Nat := tabN (fun x => bitN a (insN x i b)) (2 ^ (n - 1))
/-- What RestrictTable answers. -/
def Plain.resT (n a i b : Int) : Int × Int × Bool :=
  if isT n a = true ∧ (0 ≤ i ∧ i ≤ n - 1) ∧ (0 ≤ b ∧ b ≤ 1) then (n - 1, (restW n.toNat a.toNat i.toNat b.toNat : Int), true) else (0, 0, false)
theorem resT_yes {n a i b : Nat} (ht : isT n a = true) (hi : (i : Int) ≤ (n : Int) - 1) (hb : (b : Int) ≤ 1) : resT n a i b = ((n : Int) - 1, (restW n a i b : Int), true) := by
  unfold resT; rw [if_pos ⟨ht, ⟨by omega, hi⟩, by omega, hb⟩]; rfl
theorem resT_no {n a i b : Int} (h : ¬ (isT n a = true ∧ (0 ≤ i ∧ i ≤ n - 1) ∧ (0 ≤ b ∧ b ≤ 1))) : resT n a i b = (0, 0, false) := if_neg h

theorem Tab.isVal_yes (b : Int) (h : 0 ≤ b ∧ b ≤ 1) (w : World) :
    Calls Try.prog 57 #[.int .i64 b] w fun e w' => e = .returned (.bool true) ∧ w = w' := by
  rcases (show b = 0 ∨ b = 1 by omega) with rfl | rfl
  all_goals
    clear h
    go_enter Try.func57, Try.ntmps57
    go_wp2
    go_ret
    exact ⟨rfl, rfl⟩

theorem Tab.isVal_no (b : Int) (h : ¬ (0 ≤ b ∧ b ≤ 1)) (w : World) :
    Calls Try.prog 57 #[.int .i64 b] w fun e w' => e = .returned (.bool false) ∧ w = w' := by
  have h0 : (b == 0) = false := by rw [beq_eq_false_iff_ne]; omega
  have h1 : (b == 1) = false := by rw [beq_eq_false_iff_ne]; omega
  clear h
  go_enter Try.func57, Try.ntmps57
  go_wp2
  go_ret
  exact ⟨rfl, rfl⟩

theorem bitN_any {a x : Nat} : bitN a x < 2 := bitN_lt a x
theorem restW_bound (n a i b : Nat) (hn : n ≤ 5) : (restW n a i b : Int) ≤ 4294967295 :=
  tabN_bound _ _ (by have := two_pow_le n hn; have h2 : 2 ^ (n - 1) ≤ 2 ^ n := Nat.pow_le_pow_right (by decide) (by omega); omega)

/-- The function value of RestrictTable: the value of f where bit i is b. -/
theorem Clo.res (p q r a i b x : Nat) (hx : x < 2 ^ 5) (hi : i < 6) (hb : b < 2) (ha : (a : Int) ≤ 4294967295) (W : World)
    (hp : W.cell? ⟨p, 0, none⟩ = some (.int .u64 (a : Int))) (hq : W.cell? ⟨q, 0, none⟩ = some (.int .i64 (i : Int))) (hr : W.cell? ⟨r, 0, none⟩ = some (.int .i64 (b : Int))) :
    Calls Try.prog 59 #[.int .i64 x, .pointer (some ⟨p, 0, none⟩), .pointer (some ⟨q, 0, none⟩), .pointer (some ⟨r, 0, none⟩)] W fun e w' => e = .returned (.int .i64 (bitN a (insN x i b) : Int)) ∧ ∃ m, w' = W.drewN m := by
  have HX := Lib.hid hx
  have HI := Lib.hid hi
  have HB := Lib.hid hb
  have HL := Lib.hid (ins_all x hx i hi b hb).1
  clear hx hi hb
  go_enter Try.func59, Try.ntmps59
  go_wp2_with fail
  go_quiet (first | (go_at_call 61; exact quiet_eq (Tab.insI x i b HX.out HI.out HB.out _)) | (go_at_call 60; exact quiet_eq (Tab.at a _ (by omega) (by have := HL.out; omega) _)))
  go_wp2
  go_ret
  exact ⟨rfl, _, rfl⟩
end Go.Proofs.Ytecakbjcnabpnaa
