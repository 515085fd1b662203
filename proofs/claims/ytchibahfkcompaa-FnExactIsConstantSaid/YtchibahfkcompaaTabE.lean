/-
  ValueAt of the program; CountOnes of both but for the counting; NotTable.
-/
import Derived.Test.YtchibahfkcompaaTabD
namespace Go.Proofs.Ytchibahfkcompaa
open Go.RowKit Plain
set_option linter.unusedVariables false

theorem Tab.valI_in (n a x : Nat) (hn : n ≤ 5) (ha : a ≤ fullN n) (hx : (x : Int) < 2 ^ n) (w : World) :
    Calls Try.prog 17 #[.agg #[.int .i64 n, .int .i64 a], .int .i64 x] w fun e w' => e = .returned (.int .i64 (bitN a x : Int)) ∧ Below w.heap.size w w' := by
  have ht := Lib.hid (isT_yes hn ha)
  have hf := fullN_le n hn
  have hl : (a : Int) ≤ 4294967295 := by omega
  have HI := Lib.hid (inpB_yes (n := n) (x := (x : Int)) ⟨by omega, hx⟩)
  obtain ⟨hp1, hp2⟩ := two_pow_int n hn
  have hx1 : (x : Int) ≤ 63 := by omega
  clear ha hf hx hp1 hp2
  go_enter Try.func17, Try.ntmps17
  go_wp2_with fail
  refine (Tab.impl _ _ (by omega) _).mono ?_
  rintro e w1 ⟨rfl, hb1⟩
  obtain ⟨hc1, hf1⟩ := bcell hb1
  rw [ht.out]
  go_wp2_with fail
  refine (Tab.input _ _ hn _).mono ?_
  rintro e w2 ⟨rfl, rfl⟩
  rw [HI.out]
  go_wp2_with fail
  refine (Tab.at _ _ (by omega) (by omega) _).mono ?_
  rintro e w2 ⟨rfl, rfl⟩
  go_wp2
  go_ret
  exact ⟨rfl, ((Below.refl _ _).alloc (Nat.le_refl _) _).trans (hb1.mono (by simp))⟩

theorem Tab.valI_no (n : Int) (a x : Int) (hb : -9223372036854775808 ≤ a ∧ a ≤ 9223372036854775807) (ht : isT n a = false) (w : World) :
    Calls Try.prog 17 #[.agg #[.int .i64 n, .int .i64 a], .int .i64 x] w fun e w' => e = .returned (.int .i64 (-1)) ∧ Below w.heap.size w w' := by
  have H := Lib.hid ht
  have HB := Lib.hid hb
  clear ht hb
  go_enter Try.func17, Try.ntmps17
  go_wp2_with fail
  refine (Tab.impl _ _ HB.out _).mono ?_
  rintro e w1 ⟨rfl, hb1⟩
  rw [H.out]
  go_wp2
  go_ret
  exact ⟨rfl, ((Below.refl _ _).alloc (Nat.le_refl _) _).trans (hb1.mono (by simp))⟩

theorem Tab.valI_out (n a : Nat) (x : Int) (hn : n ≤ 5) (ha : a ≤ fullN n) (hx : ¬ (0 ≤ x ∧ x < 2 ^ n)) (w : World) :
    Calls Try.prog 17 #[.agg #[.int .i64 n, .int .i64 a], .int .i64 x] w fun e w' => e = .returned (.int .i64 (-1)) ∧ Below w.heap.size w w' := by
  have ht := Lib.hid (isT_yes hn ha)
  have hf := fullN_le n hn
  have hl : (a : Int) ≤ 4294967295 := by omega
  have HI := Lib.hid (inpB_no hx)
  clear ha hx hf
  go_enter Try.func17, Try.ntmps17
  go_wp2_with fail
  refine (Tab.impl _ _ (by omega) _).mono ?_
  rintro e w1 ⟨rfl, hb1⟩
  obtain ⟨hc1, hf1⟩ := bcell hb1
  rw [ht.out]
  go_wp2_with fail
  refine (Tab.input _ _ hn _).mono ?_
  rintro e w2 ⟨rfl, rfl⟩
  rw [HI.out]
  go_wp2
  go_ret
  exact ⟨rfl, ((Below.refl _ _).alloc (Nat.le_refl _) _).trans (hb1.mono (by simp))⟩

/-- ValueAt of the program. -/
theorem Tab.valI (n a x : Int) (hb : -9223372036854775808 ≤ a ∧ a ≤ 9223372036854775807) (w : World) :
    Calls Try.prog 17 #[.agg #[.int .i64 n, .int .i64 a], .int .i64 x] w fun e w' => e = .returned (.int .i64 (valAt n a x)) ∧ Below w.heap.size w w' := by
  by_cases ht : isT n a = true
  · obtain ⟨m, b, rfl, rfl, hm, hb⟩ := isT_nat ht
    by_cases hx : 0 ≤ x ∧ x < 2 ^ m
    · obtain ⟨y, rfl⟩ := Int.eq_ofNat_of_zero_le hx.1
      rw [valAt_in m b y hm hb hx.2]
      exact Tab.valI_in m b y hm hb hx.2 w
    · rw [valAt_out m b x hx]
      exact Tab.valI_out m b x hm hb hx w
  · rw [valAt_no n a x (by simpa using ht)]
    exact Tab.valI_no n a x hb (by simpa using ht) w

theorem Tab.fullM (n : Nat) (hn : n ≤ 5) (w : World) :
    Calls Try.prog 42 #[.int .i64 n] w fun e w' => e = .returned (.int .i64 (fullN n : Int)) ∧ w = w' := by
  rcases cases5 n hn with rfl | rfl | rfl | rfl | rfl | rfl
  all_goals
    clear hn
    go_enter Try.func42, Try.ntmps42
    go_wp2
    go_ret
    first | rw [fullN_0] | rw [fullN_1] | rw [fullN_2] | rw [fullN_3] | rw [fullN_4] | rw [fullN_5]
    exact ⟨rfl, rfl⟩

theorem Tab.table (n a : Nat) (ha : (a : Int) ≤ 9223372036854775807) (w : World) :
    Calls Try.prog 44 #[.int .u64 a, .int .i64 n] w fun e w' => e = .returned (.agg #[.int .i64 n, .int .i64 a]) ∧ Below w.heap.size w w' := by
  go_enter Try.func44, Try.ntmps44
  go_wp2
  exact bodyPost_ret (v := .agg #[.int .i64 n, .int .i64 a]) (by simp [results, Try.results44, go_sem]) rfl ⟨rfl, (Below.refl _ _).alloc (Nat.le_refl _) _⟩
end Go.Proofs.Ytchibahfkcompaa
