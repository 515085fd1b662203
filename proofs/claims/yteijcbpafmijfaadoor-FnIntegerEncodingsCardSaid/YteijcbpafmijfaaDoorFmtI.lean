/-
  FormatInt of the model answers the library's plain 'itoa'.
-/
import Derived.Test.YteijcbpafmijfaaDoorBase
import Derived.Test.YteijcbpafmijfaaDoorPlainD
namespace Go.Proofs.YteijcbpafmijfaaDoor
open Go.RowKit Plain
set_option linter.unusedVariables false

set_option maxRecDepth 100000 in
set_option maxHeartbeats 2000000 in
theorem FmtI.spec_pos (n : Nat) (h0 : n ≠ 0) (hn : (n : Int) ≤ 9223372036854775807) (w : World) :
    Calls Tryd.prog 19 #[.int .i64 n] w fun e w' => e = .returned (.string ⟨(Lib.itoa n).toArray⟩) ∧ Below w.heap.size w w' := by
  have HI := Lib.hid (itoa_pos h0)
  have t0 : ((n : Int) == 0) = false := by rw [beq_eq_false_iff_ne]; omega
  have t1 : decide ((n : Int) < 0) = false := decide_eq_false (by omega)
  clear h0
  go_enter Tryd.func19, Tryd.ntmps19
  go_wp2
  clear t0 t1
  go_loopw [0, 3] (fun x s wr => ∃ (m : Nat) (out : List UInt8), (m : Int) ≤ 9223372036854775807 ∧ x = .int .i64 (m : Int) ∧ s = .string ⟨out.toArray⟩ ∧ DRest n m out ∧ Below w.heap.size w wr) (fun x _ _ => (intOf x).toNat)
  case atStart => exact ⟨n, [], hn, rfl, rfl, DRest.start n, Below.refl _ _⟩
  case round =>
    obtain ⟨m, out, hm, rfl, rfl, hr, hb⟩ := hrel
    have hB := hb.size
    by_cases hz : m = 0
    · subst hz
      have hl := hr.last
      subst hl
      go_wp2
      go_ret
      exact ⟨ret_string HI.out.symm, hb⟩
    · have t2 : ((m : Int) != 0) = true := by rw [bne_iff_ne]; omega
      have HN := Lib.hid (hr.next hz)
      have HZ := Lib.hid hz
      have ht := one_text wr (48 + (m : Int) % 10) (by omega)
      have hl := hr.len (by omega)
      have hj := join_text [digC (m % 10)] out (by simp; omega)
      have e : UInt8.ofNat (48 + (m : Int) % 10).toNat = digC (m % 10) := by rw [show (48 + (m : Int) % 10).toNat = 48 + m % 10 by omega]; rfl
      rw [e] at ht
      clear e hz hr hl
      go_wp2
      go_roundw
      case rel => exact ⟨m / 10, _, by omega, by go_num, rfl, HN.out, hb.alloc hB _⟩
      case measure => have := HZ.out; simp [intOf]; omega

set_option maxRecDepth 100000 in
set_option maxHeartbeats 2000000 in
theorem FmtI.spec_neg (n : Nat) (h0 : n ≠ 0) (hn : (n : Int) ≤ 9223372036854775808) (w : World) :
    Calls Tryd.prog 19 #[.int .i64 (-(n : Int))] w fun e w' => e = .returned (.string ⟨(Lib.itoa (-(n : Int))).toArray⟩) ∧ Below w.heap.size w w' := by
  have HI := Lib.hid (itoa_neg h0)
  have t0 : ((-(n : Int)) == 0) = false := by rw [beq_eq_false_iff_ne]; omega
  have t1 : decide (0 < n) = true := decide_eq_true (by omega)
  have HD : Hid ((dd n).length ≤ 20) := Lib.hid (dd_len hn)
  clear h0
  go_enter Tryd.func19, Tryd.ntmps19
  go_wp2
  clear t0 t1
  go_loopw [0, 3] (fun x s wr => ∃ (m : Nat) (out : List UInt8), (m : Int) ≤ 9223372036854775808 ∧ x = .int .i64 (-(m : Int)) ∧ s = .string ⟨out.toArray⟩ ∧ DRest n m out ∧ Below w.heap.size w wr) (fun x _ _ => (-intOf x).toNat)
  case atStart => exact ⟨n, [], hn, rfl, rfl, DRest.start n, Below.refl _ _⟩
  case round =>
    obtain ⟨m, out, hm, rfl, rfl, hr, hb⟩ := hrel
    have hB := hb.size
    by_cases hz : m = 0
    · subst hz
      have hl := hr.last
      subst hl
      have hj := join_text [45] (dd n) (by have := HD.out; simp; omega)
      go_wp2
      go_ret
      exact ⟨ret_string HI.out.symm, hb⟩
    · have t2 : ((-(m : Int)) != 0) = true := by rw [bne_iff_ne]; omega
      have HN := Lib.hid (hr.next hz)
      have HZ := Lib.hid hz
      have ht := one_text wr (48 + ((m % 10 : Nat) : Int)) (by omega)
      have hl := hr.len (by omega)
      have hj := join_text [digC (m % 10)] out (by simp; omega)
      have e : UInt8.ofNat (48 + ((m % 10 : Nat) : Int)).toNat = digC (m % 10) := by rw [show (48 + ((m % 10 : Nat) : Int)).toNat = 48 + m % 10 by omega]; rfl
      rw [e] at ht
      have q1 := neg_rem m
      have q2 := neg_quo m
      have hr10 : m % 10 < 10 := by omega
      have HQ : Hid (m / 10 < m ∧ ((m / 10 : Nat) : Int) ≤ 922337203685477581) := Lib.hid (by omega)
      have hq : ((m / 10 : Nat) : Int) ≤ 922337203685477581 := by omega
      clear e hz hr hl
      generalize m % 10 = r at ht hj HN q1 hr10
      generalize m / 10 = q at HN q2 HQ hq
      by_cases hr0 : r = 0
      · subst hr0
        rw [show (48 + ((0 : Nat) : Int)) = 48 from rfl] at ht
        go_wp2
        go_roundw
        case rel => exact ⟨q, _, by omega, rfl, rfl, HN.out, hb.alloc hB _⟩
        case measure => have := HQ.out; simp [intOf]; omega
      · have t3 : decide (-(r : Int) < 0) = true := decide_eq_true (by omega)
        have t4 : decide (0 < r) = true := decide_eq_true (by omega)
        go_wp2
        go_roundw
        case rel => exact ⟨q, _, by omega, rfl, rfl, HN.out, hb.alloc hB _⟩
        case measure => have := HQ.out; simp [intOf]; omega

set_option maxRecDepth 100000 in
theorem FmtI.spec_zero (w : World) :
    Calls Tryd.prog 19 #[.int .i64 0] w fun e w' => e = .returned (.string ⟨(Lib.itoa 0).toArray⟩) ∧ Below w.heap.size w w' := by
  have HI := Lib.hid itoa_zero
  go_enter Tryd.func19, Tryd.ntmps19
  go_wp2
  go_ret
  exact ⟨ret_string (a := [48]) HI.out.symm, Below.refl _ _⟩

theorem FmtI.spec (n : Int) (h : -9223372036854775808 ≤ n ∧ n ≤ 9223372036854775807) (w : World) :
    Calls Tryd.prog 19 #[.int .i64 n] w fun e w' => e = .returned (.string ⟨(Lib.itoa n).toArray⟩) ∧ Below w.heap.size w w' := by
  by_cases h0 : n = 0
  · subst h0; exact FmtI.spec_zero w
  · by_cases hp : 0 ≤ n
    · obtain ⟨m, rfl⟩ := Int.eq_ofNat_of_zero_le hp
      exact FmtI.spec_pos m (by omega) h.2 w
    · obtain ⟨m, hm⟩ := Int.eq_ofNat_of_zero_le (a := -n) (by omega)
      obtain rfl : n = -(m : Int) := by omega
      exact FmtI.spec_neg m (by omega) (by omega) w
end Go.Proofs.YteijcbpafmijfaaDoor
