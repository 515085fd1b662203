/-
  Two tables of as many variables: the test, and the tables of 'and', 'or', 'exclusive or'.
  Two tables of as many variables in the program; the tables of 'and', 'or', 'exclusive or', of the program and of its model.
-/
import Derived.Test.YtbkkohkigpkddaaTabE

namespace Go.Proofs.Ytbkkohkigpkddaa
open Go.RowKit Plain
set_option linter.unusedVariables false

def Plain.fitB (n a m b : Int) : Bool := isT n a && isT m b && decide (n = m)

theorem Tab.fitM (n a m b : Int) (w : World) :
    Calls Try.prog 39 #[.agg #[.int .i64 n, .int .i64 a], .agg #[.int .i64 m, .int .i64 b]] w fun e w' => e = .returned (.bool (fitB n a m b)) ∧ Below w.heap.size w w' := by
  have hr : fitB n a m b = (isT n a && isT m b && decide (n = m)) := rfl
  cases h1 : isT n a with
  | false =>
    rw [h1] at hr
    simp only [Bool.false_and] at hr
    rw [hr]
    have H1 := Lib.hid h1
    clear hr h1
    go_enter Try.func39, Try.ntmps39
    go_wp2_with fail
    refine (Tab.model _ _ _).mono ?_
    rintro e w1 ⟨rfl, hb1⟩
    rw [H1.out]
    go_wp2
    go_ret
    exact ⟨rfl, (((Below.refl _ _).alloc (Nat.le_refl _) _).alloc (by simp) _).trans (hb1.mono (by simp; omega))⟩
  | true =>
    rw [h1] at hr
    simp only [Bool.true_and] at hr
    have H1 := Lib.hid h1
    clear h1
    cases h2 : isT m b with
    | false =>
      rw [h2] at hr
      simp only [Bool.false_and] at hr
      rw [hr]
      have H2 := Lib.hid h2
      clear hr h2
      go_enter Try.func39, Try.ntmps39
      go_wp2_with fail
      refine (Tab.model _ _ _).mono ?_
      rintro e w1 ⟨rfl, hb1⟩
      obtain ⟨hc1, hf1⟩ := bcell hb1
      rw [H1.out]
      go_wp2_with fail
      refine (Tab.model _ _ _).mono ?_
      rintro e w2 ⟨rfl, hb2⟩
      rw [H2.out]
      clear hc1 hf1
      replace hb1 := bstep hb1 hb2
      clear hb2
      go_wp2
      go_ret
      exact ⟨rfl, (((Below.refl _ _).alloc (Nat.le_refl _) _).alloc (by simp) _).trans (hb1.mono (by simp; omega))⟩
    | true =>
      rw [h2] at hr
      simp only [Bool.true_and] at hr
      rw [hr]
      have H2 := Lib.hid h2
      clear hr h2
      by_cases he : n = m
      all_goals
        first | subst he | (have he' : (n == m) = false := by simpa using he)
        go_enter Try.func39, Try.ntmps39
        go_wp2_with fail
        refine (Tab.model _ _ _).mono ?_
        rintro e w1 ⟨rfl, hb1⟩
        obtain ⟨hc1, hf1⟩ := bcell hb1
        rw [H1.out]
        go_wp2_with fail
        refine (Tab.model _ _ _).mono ?_
        rintro e w2 ⟨rfl, hb2⟩
        rw [H2.out]
        clear hc1 hf1
        replace hb1 := bstep hb1 hb2
        clear hb2
        obtain ⟨hc1, hf1⟩ := bcell hb1
        go_wp2
        go_ret
        exact ⟨ret_bool (by simp [*]), (((Below.refl _ _).alloc (Nat.le_refl _) _).alloc (by simp) _).trans (hb1.mono (by simp; omega))⟩

end Go.Proofs.Ytbkkohkigpkddaa

namespace Go.Proofs.Ytbkkohkigpkddaa
open Go.RowKit Plain
set_option linter.unusedVariables false

theorem Tab.fitI (n a m b : Int) (ha : -9223372036854775808 ≤ a ∧ a ≤ 9223372036854775807) (hb : -9223372036854775808 ≤ b ∧ b ≤ 9223372036854775807) (w : World) :
    Calls Try.prog 40 #[.agg #[.int .i64 n, .int .i64 a], .agg #[.int .i64 m, .int .i64 b]] w fun e w' => e = .returned (.bool (fitB n a m b)) ∧ Below w.heap.size w w' := by
  have HA := Lib.hid ha
  have HB := Lib.hid hb
  clear ha hb
  have hr : fitB n a m b = (isT n a && isT m b && decide (n = m)) := rfl
  cases h1 : isT n a with
  | false =>
    rw [h1] at hr
    simp only [Bool.false_and] at hr
    rw [hr]
    have H1 := Lib.hid h1
    clear hr h1
    go_enter Try.func40, Try.ntmps40
    go_wp2_with fail
    refine (Tab.impl _ _ HA.out _).mono ?_
    rintro e w1 ⟨rfl, hb1⟩
    rw [H1.out]
    go_wp2
    go_ret
    exact ⟨rfl, (((Below.refl _ _).alloc (Nat.le_refl _) _).alloc (by simp) _).trans (hb1.mono (by simp; omega))⟩
  | true =>
    rw [h1] at hr
    simp only [Bool.true_and] at hr
    have H1 := Lib.hid h1
    clear h1
    cases h2 : isT m b with
    | false =>
      rw [h2] at hr
      simp only [Bool.false_and] at hr
      rw [hr]
      have H2 := Lib.hid h2
      clear hr h2
      go_enter Try.func40, Try.ntmps40
      go_wp2_with fail
      refine (Tab.impl _ _ HA.out _).mono ?_
      rintro e w1 ⟨rfl, hb1⟩
      obtain ⟨hc1, hf1⟩ := bcell hb1
      rw [H1.out]
      go_wp2_with fail
      refine (Tab.impl _ _ HB.out _).mono ?_
      rintro e w2 ⟨rfl, hb2⟩
      rw [H2.out]
      clear hc1 hf1
      replace hb1 := bstep hb1 hb2
      clear hb2
      go_wp2
      go_ret
      exact ⟨rfl, (((Below.refl _ _).alloc (Nat.le_refl _) _).alloc (by simp) _).trans (hb1.mono (by simp; omega))⟩
    | true =>
      rw [h2] at hr
      simp only [Bool.true_and] at hr
      rw [hr]
      have H2 := Lib.hid h2
      clear hr h2
      by_cases he : n = m
      all_goals
        first | subst he | (have he' : (n == m) = false := by simpa using he)
        go_enter Try.func40, Try.ntmps40
        go_wp2_with fail
        refine (Tab.impl _ _ HA.out _).mono ?_
        rintro e w1 ⟨rfl, hb1⟩
        obtain ⟨hc1, hf1⟩ := bcell hb1
        rw [H1.out]
        go_wp2_with fail
        refine (Tab.impl _ _ HB.out _).mono ?_
        rintro e w2 ⟨rfl, hb2⟩
        rw [H2.out]
        clear hc1 hf1
        replace hb1 := bstep hb1 hb2
        clear hb2
        obtain ⟨hc1, hf1⟩ := bcell hb1
        go_wp2
        go_ret
        exact ⟨ret_bool (by simp [*]), (((Below.refl _ _).alloc (Nat.le_refl _) _).alloc (by simp) _).trans (hb1.mono (by simp; omega))⟩

end Go.Proofs.Ytbkkohkigpkddaa
