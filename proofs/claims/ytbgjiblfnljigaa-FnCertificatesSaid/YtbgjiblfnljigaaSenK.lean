/-
  Chapter 10, the program: MinimalBlocks at any input, BlockSensitivityAt, BlockSensitivityOf.
-/
import Derived.Test.YtbgjiblfnljigaaSenJ
namespace Go.Proofs.Ytbgjiblfnljigaa
open Go.RowKit Plain
set_option linter.unusedVariables false

/-- What MinimalBlocks gives back. -/
def MblOut (n a x : Int) (w : World) (e : Ending) (w' : World) : Prop := (∃ v, e = .returned (.tuple #[v, .bool (decide (setOk n a x))]) ∧ IntRow w' w.heap.size v (mblT n a x)) ∧ Below w.heap.size w w'

theorem row_nil (w : World) (B : Nat) : IntRow w B (.slice none 0 0) [] := ⟨by simp [intsV], .inl ⟨rfl, rfl⟩⟩

/-- MinimalBlocks of the program. -/
theorem MinB.impl (n a x : Int) (hb : -9223372036854775808 ≤ a ∧ a ≤ 9223372036854775807) (w : World) :
    Calls Try.prog 19 #[.agg #[.int .i64 n, .int .i64 a], .int .i64 x] w (MblOut n a x w) := by
  unfold MblOut
  cases ht : isT n a with
  | false =>
    have hno : ¬ setOk n a x := fun h => by rw [h.1] at ht; exact absurd ht (by decide)
    rw [mblT_no hno, decide_eq_false hno]
    exact (MinB.impl_no1 n a x hb ht w).mono fun e w' h => ⟨⟨_, h.1, row_nil _ _⟩, h.2⟩
  | true =>
    obtain ⟨n, a, rfl, rfl, hn, ha⟩ := isT_nat ht
    by_cases hx : 0 ≤ x ∧ x < 2 ^ n
    · obtain ⟨x, rfl⟩ := Int.eq_ofNat_of_zero_le hx.1
      rw [mblT_yes ht hx.2, setOk_yes ht hx.2]
      exact MinB.impl_yes n a x hn ht (by have := fullN_le n hn; omega) hx.2 w
    · have hno : ¬ setOk n a x := fun h => hx h.2
      rw [mblT_no hno, decide_eq_false hno]
      exact (MinB.impl_no2 n a x hn hb ht hx w).mono fun e w' h => ⟨⟨_, h.1, row_nil _ _⟩, h.2⟩

/-- What BlockSensitivityAt answers. -/
def Plain.bsaT (n a x : Int) : Int := if setOk n a x then (bsN n.toNat a.toNat x.toNat : Int) else -1

theorem bsaT_yes {n a x : Nat} (ht : isT n a = true) (hx : (x : Int) < 2 ^ n) : bsaT n a x = (bsN n a x : Int) := if_pos ⟨ht, by omega, hx⟩

theorem bsaT_no {n a x : Int} (h : ¬ setOk n a x) : bsaT n a x = -1 := if_neg h

theorem blkL_32 {n : Nat} (hn : n ≤ 5) (a x : Nat) : (blkL a x (2 ^ n)).length ≤ 32 ∧ ∀ b ∈ blkL a x (2 ^ n), b < 32 := by
  have h1 := two_pow_le n hn
  have h2 := blkL_len a x (2 ^ n)
  exact ⟨by omega, fun b hb => by have := (blkL_mem _ b hb).1; omega⟩

/-- BlockSensitivityAt of the program, at an input. -/
theorem BsA.impl_yes (n a x : Nat) (hn : n ≤ 5) (ht : isT n a = true) (ha : (a : Int) ≤ 4294967295) (hx : (x : Int) < 2 ^ n) (w : World) :
    Calls Try.prog 24 #[.agg #[.int .i64 n, .int .i64 a], .int .i64 x] w fun e w' => e = .returned (.int .i64 (bsN n a x : Int)) ∧ Below w.heap.size w w' := by
  have HM := Lib.hid (MinB.impl_yes n a x hn ht ha hx)
  have HA : Hid (∀ (v : Value) (w : World), NtIn w v (blkL a x (2 ^ n)) → Calls Try.prog 62 #[v, .int .i64 0] w fun e w' => e = .returned (.int .i64 (bsN n a x : Int)) ∧ w = w') := Lib.hid fun v w h =>
    Apart.any 32 (blkL a x (2 ^ n)) 0 v w (blkL_32 hn a x).1 (blkL_32 hn a x).1 (blkL_32 hn a x).2 (by decide) h
  have HR : Hid (∀ (w : World) (B : Nat) (v : Value), IntRow w B v (natI (blkL a x (2 ^ n))) → NtIn w v (blkL a x (2 ^ n))) := Lib.hid fun w B v h => NtIn.of_row h
  generalize bsN n a x = q at *
  generalize blkL a x (2 ^ n) = L at *
  clear hn ht hx
  go_enter Try.func24, Try.ntmps24
  go_wp2_with fail
  refine (HM.out _).mono ?_
  rintro e w1 ⟨⟨v, rfl, hrow⟩, hb1⟩
  have HN := Lib.hid (HR.out _ _ _ hrow)
  clear hrow
  go_wp2_with fail
  refine (HA.out _ _ HN.out).mono ?_
  rintro e w2 ⟨rfl, rfl⟩
  go_wp2
  go_ret
  exact ⟨rfl, bB hb1 (by simp) (bA (Nat.le_refl _) (Below.refl _ _))⟩

theorem BsA.impl_no (n a x : Int) (hb : -9223372036854775808 ≤ a ∧ a ≤ 9223372036854775807) (h : ¬ setOk n a x) (w : World) :
    Calls Try.prog 24 #[.agg #[.int .i64 n, .int .i64 a], .int .i64 x] w fun e w' => e = .returned (.int .i64 (-1)) ∧ Below w.heap.size w w' := by
  have HM : Hid (∀ w, Calls Try.prog 19 #[.agg #[.int .i64 n, .int .i64 a], .int .i64 x] w fun e w' => (∃ v, e = .returned (.tuple #[v, .bool false])) ∧ Below w.heap.size w w') := Lib.hid (by
    intro w
    have hm := MinB.impl n a x hb w
    unfold MblOut at hm
    rw [decide_eq_false h] at hm
    exact hm.mono fun e w' q => ⟨⟨_, q.1.choose_spec.1⟩, q.2⟩)
  clear hb h
  go_enter Try.func24, Try.ntmps24
  go_wp2_with fail
  refine (HM.out _).mono ?_
  rintro e w1 ⟨⟨v, rfl⟩, hb1⟩
  go_wp2
  go_ret
  exact ⟨rfl, bB hb1 (by simp) (bA (Nat.le_refl _) (Below.refl _ _))⟩

/-- BlockSensitivityAt of the program. -/
theorem BsA.impl (n a x : Int) (hb : -9223372036854775808 ≤ a ∧ a ≤ 9223372036854775807) (w : World) :
    Calls Try.prog 24 #[.agg #[.int .i64 n, .int .i64 a], .int .i64 x] w fun e w' => e = .returned (.int .i64 (bsaT n a x)) ∧ Below w.heap.size w w' := by
  by_cases h : setOk n a x
  · obtain ⟨n, a, rfl, rfl, hn, ha⟩ := isT_nat h.1
    obtain ⟨x, rfl⟩ := Int.eq_ofNat_of_zero_le h.2.1
    have hx : (x : Int) < 2 ^ n := h.2.2
    rw [bsaT_yes h.1 hx]
    exact BsA.impl_yes n a x hn h.1 (by have := fullN_le n hn; omega) hx w
  · rw [bsaT_no h]
    exact BsA.impl_no n a x hb h w

/-- The greatest block sensitivity. -/
def Plain.bsoT (n a : Int) : Int := greT bsN n a

theorem bsN_cap {n : Nat} (hn : n ≤ 5) (a x : Nat) : bsN n a x ≤ 1000 := by
  have h1 := bsN_le n a x
  have h2 := two_pow_le n hn
  omega

/-- greatestAt at BlockSensitivityAt. -/
theorem Great.blocks (n a : Int) (hb : -9223372036854775808 ≤ a ∧ a ≤ 9223372036854775807) (w : World) :
    Calls Try.prog 56 #[.agg #[.int .i64 n, .int .i64 a], .func (.func 24) #[] #[]] w fun e w' => e = .returned (.int .i64 (bsoT n a)) ∧ Below w.heap.size w w' := by
  cases ht : isT n a with
  | false =>
    rw [show bsoT n a = -1 from greT_no ht]
    exact Great.no n a hb ht _ _ w
  | true =>
    obtain ⟨n, a, rfl, rfl, hn, ha⟩ := isT_nat ht
    rw [show bsoT n a = (maxN (bsN n a) (2 ^ n) : Int) from greT_yes ht]
    have ha32 : (a : Int) ≤ 4294967295 := by have := fullN_le n hn; omega
    exact Great.yes n a hn ht ha32 (bsN n a) (bsN_cap hn a) 24 #[] (enters_of Try.func24 (by kernel_rfl) rfl)
      (fun x W hx => BsA.impl_yes n a x hn ht ha32 (pow_nat.2 hx) W) w

/-- BlockSensitivityOf of the program. -/
theorem BsO.impl (n a : Int) (hb : -9223372036854775808 ≤ a ∧ a ≤ 9223372036854775807) (w : World) :
    Calls Try.prog 26 #[.agg #[.int .i64 n, .int .i64 a]] w fun e w' => e = .returned (.int .i64 (bsoT n a)) ∧ Below w.heap.size w w' := by
  have HG := Lib.hid (Great.blocks n a hb)
  generalize bsoT n a = q at *
  clear hb
  go_enter Try.func26, Try.ntmps26
  go_wp2_with fail
  refine (HG.out _).mono ?_
  rintro e w1 ⟨rfl, hb1⟩
  go_wp2
  go_ret
  exact ⟨rfl, bB hb1 (by simp) (bA (Nat.le_refl _) (Below.refl _ _))⟩

end Go.Proofs.Ytbgjiblfnljigaa
