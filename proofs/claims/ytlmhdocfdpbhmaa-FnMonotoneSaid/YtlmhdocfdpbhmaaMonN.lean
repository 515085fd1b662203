/-
  Chapter 15: CountMonotone, DualTable, IsSelfDual of both.
-/
import Derived.Test.YtlmhdocfdpbhmaaMonM
import Derived.Test.YtlmhdocfdpbhmaaIn
namespace Go.Proofs.Ytlmhdocfdpbhmaa
open Go.RowKit Plain
set_option linter.unusedVariables false
set_option linter.unusedSimpArgs false
attribute [local go_sem ↓] Go.wp_at_zero Go.wp_at_succ

theorem full4 (n : Nat) (hn : n ≤ 4) : fullN n ≤ 65535 := by
  rcases (show n = 0 ∨ n = 1 ∨ n = 2 ∨ n = 3 ∨ n = 4 by omega) with rfl | rfl | rfl | rfl | rfl <;> decide +kernel

set_option maxRecDepth 100000 in
set_option maxHeartbeats 2000000 in
theorem Cnm.model (n : Int) (w : World) :
    Calls Try.prog 56 #[.int .i64 n] w fun e w' => e = .returned (.int .i64 (cmT n)) ∧ Below w.heap.size w w' := by
  by_cases h : 0 ≤ n ∧ n ≤ 4
  · obtain ⟨n, rfl⟩ := Int.eq_ofNat_of_zero_le h.1
    have hn : n ≤ 4 := by omega
    have HI := Lib.hid (Widths.in_yes (n : Int) 0 4 h)
    have HF := Lib.hid (fun w => Tab.fullM n (by omega) w)
    have HL := Lib.hid (fun a ha => L15.mon n a (by omega) ha)
    have hf := full4 n hn
    have HC := Lib.hid (cmT_yes hn)
    clear h hn
    generalize fullN n = F at *
    generalize cmT (n : Int) = c at *
    go_enter Try.func56, Try.ntmps56
    go_wp2_with fail
    refine (HI.out _).mono ?_
    rintro e w1 ⟨rfl, rfl⟩
    go_wp2_with fail
    go_loopw [3, 4] (fun c i wr => ∃ k : Nat, i = .int .i64 (k : Int) ∧ k ≤ F + 1 ∧ c = .int .i64 (monN n k : Int) ∧ Below w.heap.size w wr) (fun _ i _ => F + 1 - (intOf i).toNat)
    case atStart => exact ⟨0, rfl, by omega, rfl, Below.refl _ _⟩
    case round =>
      obtain ⟨k, rfl, hk, rfl, hbel⟩ := hrel
      have HBEL := Lib.hid hbel
      have hsz := hbel.size
      have hml := monN_le n k
      clear hbel
      by_cases hlt : k < F + 1
      · have hkz : (k : Int) ≤ (F : Int) := by omega
        have HLk := Lib.hid (HL.out k (by omega))
        cases hm : monB n k with
        | true =>
          have HN := Lib.hid (monN_yes hm)
          rw [hm] at HLk
          clear hm
          go_wp2_with fail
          refine (HF.out _).mono ?_
          rintro e w2 ⟨rfl, rfl⟩
          go_wp2_with fail
          refine (HLk.out _).mono ?_
          rintro e w3 ⟨rfl, hb3⟩
          have HB3 := Lib.hid (bB hb3 hsz HBEL.out)
          clear hb3
          go_wp2_with fail
          exact ⟨⟨k + 1, by go_num, by omega, by rw [HN.out]; go_num, HB3.out⟩, by simp [intOf] <;> omega⟩
        | false =>
          have HN := Lib.hid (monN_no hm)
          rw [hm] at HLk
          clear hm
          go_wp2_with fail
          refine (HF.out _).mono ?_
          rintro e w2 ⟨rfl, rfl⟩
          go_wp2_with fail
          refine (HLk.out _).mono ?_
          rintro e w3 ⟨rfl, hb3⟩
          have HB3 := Lib.hid (bB hb3 hsz HBEL.out)
          clear hb3
          go_wp2_with fail
          exact ⟨⟨k + 1, by go_num, by omega, by rw [HN.out], HB3.out⟩, by simp [intOf] <;> omega⟩
      · obtain rfl : k = F + 1 := by omega
        have hno : ¬ ((F + 1 : Nat) : Int) ≤ (F : Int) := by omega
        go_wp2_with fail
        refine (HF.out _).mono ?_
        rintro e w2 ⟨rfl, rfl⟩
        go_wp2
        go_ret
        exact ⟨by rw [HC.out]; rfl, HBEL.out⟩
  · have HI := Lib.hid (Widths.in_no n 0 4 h)
    have HC := Lib.hid (cmT_no h)
    clear h
    generalize cmT n = c at *
    go_enter Try.func56, Try.ntmps56
    go_wp2_with fail
    refine (HI.out _).mono ?_
    rintro e w1 ⟨rfl, rfl⟩
    go_wp2
    go_ret
    exact ⟨by rw [HC.out]; rfl, Below.refl _ _⟩

set_option maxRecDepth 100000 in
set_option maxHeartbeats 2000000 in
theorem Cnm.impl (n : Int) (hb64 : -9223372036854775808 ≤ n ∧ n ≤ 9223372036854775807) (w : World) :
    Calls Try.prog 55 #[.int .i64 n] w fun e w' => e = .returned (.int .i64 (cmT n)) ∧ Below w.heap.size w w' := by
  by_cases h : 0 ≤ n ∧ n ≤ 4
  · obtain ⟨n, rfl⟩ := Int.eq_ofNat_of_zero_le h.1
    have hn : n ≤ 4 := by omega
    have hn0 : (0 : Int) ≤ (n : Int) := by omega
    have hn4 : (n : Int) ≤ 4 := by omega
    have HF := Lib.hid (fun w => Tab.full n (by omega) w)
    have hf := full4 n hn
    have HL : Hid (∀ (k : Nat) (w : World), k < fullN n + 1 → Calls Try.prog 24 #[.agg #[.int .i64 n, .int .i64 k]] w fun e w' => e = .returned (.bool (monB n k)) ∧ Below w.heap.size w w') := Lib.hid (fun k w hk => by
      have h := Mon.impl n k (by omega) w
      have ht : isT n k = true := isT_yes (n := n) (wd := k) (by omega) (by omega)
      unfold Plain.monT at h
      rw [ht, Bool.true_and, Int.toNat_natCast, Int.toNat_natCast] at h
      exact h)
    have HC := Lib.hid (cmT_yes hn)
    clear h hn hb64
    generalize fullN n = F at *
    generalize cmT (n : Int) = c at *
    have hw : IntKind.u64.wrap ((F : Int) + 1) = ((F + 1 : Nat) : Int) := by rw [IntKind.wrap_u64]; omega
    go_enter Try.func55, Try.ntmps55
    go_wp2_with fail
    refine (HF.out _).mono ?_
    rintro e w1 ⟨rfl, rfl⟩
    go_wp2_with fail
    go_loopw [3, 4, 14] (fun c _ i wr => ∃ k : Nat, i = .int .u64 (k : Int) ∧ k ≤ F + 1 ∧ c = .int .i64 (monN n k : Int) ∧ Below w.heap.size w wr) (fun _ _ i _ => F + 1 - (intOf i).toNat)
    case atStart => exact ⟨0, rfl, by omega, rfl, Below.refl _ _⟩
    case round =>
      obtain ⟨k, rfl, hk, rfl, hbel⟩ := hrel
      have HBEL := Lib.hid hbel
      have hsz := hbel.size
      have hml := monN_le n k
      clear hbel
      by_cases hlt : k < F + 1
      · have hkz : (k : Int) < ((F + 1 : Nat) : Int) := by omega
        have hw2 : IntKind.u64.wrap ((k : Int) + 1) = ((k + 1 : Nat) : Int) := by rw [IntKind.wrap_u64]; omega
        have HLk := Lib.hid (fun w => HL.out k w hlt)
        have hk63 : (k : Int) ≤ 9223372036854775807 := by omega
        cases hm : monB n k with
        | true =>
          have HN := Lib.hid (monN_yes hm)
          rw [hm] at HLk
          clear hm
          go_wp2_with fail
          refine (Tab.table n k hk63 _).mono ?_
          rintro e w2 ⟨rfl, hb2⟩
          have HB2 := Lib.hid (bB hb2 hsz HBEL.out)
          clear hb2
          go_wp2_with fail
          refine (HLk.out _).mono ?_
          rintro e w3 ⟨rfl, hb3⟩
          have HB3 := Lib.hid (bB hb3 HB2.out.size HB2.out)
          clear hb3
          go_wp2_with fail
          go_roundw
          case rel => exact ⟨k + 1, by go_num, by omega, by rw [HN.out]; go_num, HB3.out⟩
          case measure => simp [intOf, hw2] <;> omega
        | false =>
          have HN := Lib.hid (monN_no hm)
          rw [hm] at HLk
          clear hm
          go_wp2_with fail
          refine (Tab.table n k hk63 _).mono ?_
          rintro e w2 ⟨rfl, hb2⟩
          have HB2 := Lib.hid (bB hb2 hsz HBEL.out)
          clear hb2
          go_wp2_with fail
          refine (HLk.out _).mono ?_
          rintro e w3 ⟨rfl, hb3⟩
          have HB3 := Lib.hid (bB hb3 HB2.out.size HB2.out)
          clear hb3
          go_wp2_with fail
          go_roundw
          case rel => exact ⟨k + 1, by go_num, by omega, by rw [HN.out], HB3.out⟩
          case measure => simp [intOf, hw2] <;> omega
      · obtain rfl : k = F + 1 := by omega
        go_wp2
        go_ret
        exact ⟨by rw [HC.out]; rfl, HBEL.out⟩
  · have HC := Lib.hid (cmT_no h)
    generalize cmT n = c at *
    by_cases h0 : n < 0
    · clear h
      go_enter Try.func55, Try.ntmps55
      go_wp2
      go_ret
      exact ⟨by rw [HC.out]; rfl, Below.refl _ _⟩
    · have h4 : 4 < n := by omega
      clear h
      go_enter Try.func55, Try.ntmps55
      go_wp2
      go_ret
      exact ⟨by rw [HC.out]; rfl, Below.refl _ _⟩
end Go.Proofs.Ytlmhdocfdpbhmaa
