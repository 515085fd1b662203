/-
  bitsOfLength of the program: the number of variables with so many inputs.
-/
import Derived.Test.YtphjaggiddjhgaaGreatDoorPar
namespace Go.Proofs.YtphjaggiddjhgaaGreatDoor
open Go.RowKit Plain
set_option linter.unusedVariables false

theorem ctz_pow (m : Nat) (hm : m ≤ 5) : Lib.ctz 64 (2 ^ m) = m := by
  rcases cases5 m hm with rfl | rfl | rfl | rfl | rfl | rfl <;> decide +kernel

theorem Tab.bitsB (n : Int) (b : Bool) (h : inB n 0 5 = b) (w : World) :
    Calls Tryz.prog 45 #[.int .i64 n] w fun e w' => e = .returned (.bool b) ∧ w = w' := h ▸ Tab.bits n w

theorem u64_self (z : Nat) (hz : (z : Int) ≤ 9223372036854775807) : IntKind.u64.wrap (z : Int) = (z : Int) := by rw [show IntKind.u64.wrap (z : Int) = (z : Int) % 18446744073709551616 from rfl]; omega

set_option maxRecDepth 100000 in
theorem BoL.no (z : Nat) (hz : ∀ m, m ≤ 5 → z ≠ 2 ^ m) (hs : (z : Int) ≤ 9223372036854775807) (w : World) (hT : Tz64 w) :
    Calls Tryz.prog 40 #[.int .i64 z] w fun e w' => e = .returned (.tuple #[.int .i64 0, .bool false]) ∧ w = w' := by
  have HZ := Lib.hid (not_pow z hz)
  have HT := Lib.hid hT
  obtain ⟨c, hc⟩ : ∃ c : Nat, c = Lib.ctz 64 z := ⟨_, rfl⟩
  have HTZ := Lib.hid (Tz.any z hs)
  rw [← hc] at HTZ
  have hu := u64_self z hs
  clear hz hT hc
  go_enter Tryz.func40, Tryz.ntmps40
  go_wp2_with fail
  refine (HTZ.out _ HT.out).mono ?_
  rintro e w1 ⟨rfl, rfl⟩
  by_cases h5 : c ≤ 5
  · obtain ⟨t1, t2⟩ := HZ.out c h5
    obtain ⟨hp1, hp2⟩ := two_pow_int c h5
    go_wp2_with fail
    refine (Tab.bitsB _ true (inB_yes (by omega)) _).mono ?_
    rintro e w1 ⟨rfl, rfl⟩
    go_wp2_with fail
    refine (Tab.count c h5 _).mono ?_
    rintro e w1 ⟨rfl, rfl⟩
    go_wp2_with fail
    go_ret2
    exact ⟨rfl, rfl⟩
  · go_wp2_with fail
    refine (Tab.bitsB _ false (inB_no (by omega)) _).mono ?_
    rintro e w1 ⟨rfl, rfl⟩
    go_wp2_with fail
    go_ret2
    exact ⟨rfl, rfl⟩

set_option maxRecDepth 100000 in
theorem BoL.yes (z m : Nat) (hm : m ≤ 5) (hz : z = 2 ^ m) (w : World) (hT : Tz64 w) :
    Calls Tryz.prog 40 #[.int .i64 z] w fun e w' => e = .returned (.tuple #[.int .i64 m, .bool true]) ∧ w = w' := by
  have h32 : (z : Int) ≤ 32 := by have := two_pow_le m hm; omega
  have HT := Lib.hid hT
  have HTZ := Lib.hid (Tz.any z (by omega))
  rw [show Lib.ctz 64 z = m by rw [hz]; exact ctz_pow m hm] at HTZ
  obtain ⟨t1, t2⟩ := len_same z m hz
  have hc := Lib.hid (Tab.count m hm)
  rw [← hz] at hc
  have hu := u64_self z (by omega)
  clear hT hz
  go_enter Tryz.func40, Tryz.ntmps40
  go_wp2_with fail
  refine (HTZ.out _ HT.out).mono ?_
  rintro e w1 ⟨rfl, rfl⟩
  go_wp2_with fail
  refine (Tab.bitsB _ true (inB_yes (by omega)) _).mono ?_
  rintro e w1 ⟨rfl, rfl⟩
  go_wp2_with fail
  refine (hc.out _).mono ?_
  rintro e w1 ⟨rfl, rfl⟩
  go_wp2_with fail
  go_ret2
  exact ⟨rfl, rfl⟩

end Go.Proofs.YtphjaggiddjhgaaGreatDoor
