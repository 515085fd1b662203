/-
  IsConstant of the program and of its model.
-/
import Derived.Test.YtdhdkonokbkdoaaGreatDoorTabI
import Derived.Deep.RegionWith
namespace Go.Proofs.YtdhdkonokbkdoaaGreatDoor
open Go.RowKit Plain
set_option linter.unusedVariables false
attribute [local go_sem] undef

/-- What IsConstant answers. -/
def Plain.conT (n a : Int) : Bool := isT n a && (decide (a = 0) || decide (a = fullN n.toNat))

theorem Tab.modelV (n wd : Int) (b : Bool) (h : isT n wd = b) (w : World) :
    Calls Tryz.prog 31 #[.agg #[.int .i64 n, .int .i64 wd]] w fun e w' => e = .returned (.bool b) ∧ Below w.heap.size w w' := h ▸ Tab.model n wd w
theorem Tab.implV (n wd : Int) (hb : -9223372036854775808 ≤ wd ∧ wd ≤ 9223372036854775807) (b : Bool) (h : isT n wd = b) (w : World) :
    Calls Tryz.prog 45 #[.agg #[.int .i64 n, .int .i64 wd]] w fun e w' => e = .returned (.bool b) ∧ Below w.heap.size w w' := h ▸ Tab.impl n wd hb w

set_option maxHeartbeats 800000 in
theorem Tab.conI_no (n a : Int) (hb : -9223372036854775808 ≤ a ∧ a ≤ 9223372036854775807) (ht : isT n a = false) (w : World) :
    Calls Tryz.prog 54 #[.agg #[.int .i64 n, .int .i64 a]] w fun e w' => e = .returned (.bool false) ∧ Below w.heap.size w w' := by
  have H := Lib.hid ht
  have HB := Lib.hid hb
  clear ht hb
  go_enter Tryz.func54, Tryz.ntmps54
  go_wp2_with fail
  first | (go_region_with ((go_at_call 45; refine (Tab.implV _ _ HB.out _ H.out _).mono ?_; rintro e w1 ⟨rfl, hb⟩))) | (fail)
  all_goals
    go_wp2
    go_ret
    exact ⟨rfl, bB hb (by simp) (bD (bA (Nat.le_refl _) (Below.refl _ _)))⟩

set_option maxHeartbeats 800000 in
theorem Tab.conI_zero (n : Nat) (hn : n ≤ 5) (w : World) :
    Calls Tryz.prog 54 #[.agg #[.int .i64 n, .int .i64 0]] w fun e w' => e = .returned (.bool true) ∧ Below w.heap.size w w' := by
  have HB : Hid ((-9223372036854775808 : Int) ≤ 0 ∧ (0 : Int) ≤ 9223372036854775807) := Lib.hid (by omega)
  have H : Hid (isT n 0 = true) := Lib.hid (isT_yes (wd := 0) hn (Nat.zero_le _))
  go_enter Tryz.func54, Tryz.ntmps54
  go_wp2_with fail
  first | (go_region_with ((go_at_call 45; refine (Tab.implV _ _ HB.out _ H.out _).mono ?_; rintro e w1 ⟨rfl, hb⟩; obtain ⟨hc, hf⟩ := bcell hb))) | (fail)
  all_goals
    go_wp2
    go_ret
    exact ⟨rfl, bB hb (by simp) (bD (bA (Nat.le_refl _) (Below.refl _ _)))⟩

set_option maxHeartbeats 1600000 in
theorem Tab.conI_pos (n a : Nat) (hn : n ≤ 5) (ha : a ≤ fullN n) (h0 : ((a : Int) == 0) = false) (r : Bool) (hr : ((a : Int) == (fullN n : Int)) = r) (w : World) :
    Calls Tryz.prog 54 #[.agg #[.int .i64 n, .int .i64 a]] w fun e w' => e = .returned (.bool r) ∧ Below w.heap.size w w' := by
  have H := Lib.hid (isT_yes hn ha)
  have hf := fullN_le n hn
  have HB : Hid (-9223372036854775808 ≤ (a : Int) ∧ (a : Int) ≤ 9223372036854775807) := Lib.hid (by omega)
  have hwr : IntKind.u64.wrap (a : Int) = (a : Int) := by rw [IntKind.wrap_u64]; omega
  clear ha
  go_enter Tryz.func54, Tryz.ntmps54
  go_wp2_with fail
  first | (go_region_with (first
    | (go_at_call 45; refine (Tab.implV _ _ HB.out _ H.out _).mono ?_; rintro e w1 ⟨rfl, hb⟩; obtain ⟨hc, hf⟩ := bcell hb)
    | (go_at_call 76; refine (Tab.full n hn _).mono ?_; rintro e w' ⟨rfl, rfl⟩))) | (fail)
  all_goals
    go_wp2
    go_ret
    exact ⟨rfl, bB hb (by simp) (bD (bA (Nat.le_refl _) (Below.refl _ _)))⟩

theorem conT_no {n a : Int} (h : isT n a = false) : conT n a = false := by unfold conT; rw [h]; rfl
theorem conT_zero {n : Nat} (hn : n ≤ 5) : conT n 0 = true := by unfold conT; rw [show isT (n : Int) 0 = true from isT_yes (wd := 0) hn (Nat.zero_le _)]; rfl
theorem conT_pos {n a : Nat} (hn : n ≤ 5) (ha : a ≤ fullN n) (h0 : a ≠ 0) : ((a : Int) == (fullN n : Int)) = conT n a := by
  unfold conT
  rw [isT_yes hn ha]
  have : decide ((a : Int) = 0) = false := decide_eq_false (by omega)
  rw [this, Bool.true_and, Bool.false_or, Int.toNat_natCast]
  rfl

theorem Tab.conI (n a : Int) (hbd : -9223372036854775808 ≤ a ∧ a ≤ 9223372036854775807) (w : World) :
    Calls Tryz.prog 54 #[.agg #[.int .i64 n, .int .i64 a]] w fun e w' => e = .returned (.bool (conT n a)) ∧ Below w.heap.size w w' := by
  by_cases ht : isT n a = true
  · obtain ⟨m, b, rfl, rfl, hm, hb⟩ := isT_nat ht
    by_cases h0 : b = 0
    · subst h0
      rw [show conT (m : Int) ((0 : Nat) : Int) = true from conT_zero hm]
      exact Tab.conI_zero m hm w
    · exact Tab.conI_pos m b hm hb (by simpa using h0) _ (conT_pos hm hb h0) w
  · rw [conT_no (by simpa using ht)]
    exact Tab.conI_no n a hbd (by simpa using ht) w
end Go.Proofs.YtdhdkonokbkdoaaGreatDoor
