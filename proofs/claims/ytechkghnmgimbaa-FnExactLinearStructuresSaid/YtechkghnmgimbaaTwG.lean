/-
  Over the twin: AutocorrelationOf of both.
-/
import Derived.Test.YtechkghnmgimbaaTwC
import Derived.Test.YtechkghnmgimbaaAwA
import Derived.Test.YtechkghnmgimbaaQSpcG
namespace Go.Proofs.Ytechkghnmgimbaa.Q
open Go.RowKit Go.Proofs.Ytechkghnmgimbaa.Plain Go.Proofs.Ytechkghnmgimbaa.Q.Plain
set_option linter.unusedVariables false
set_option linter.unusedSimpArgs false

theorem Aut.impl_no (n a : Int) (hnr : -9223372036854775808 ≤ n ∧ n ≤ 9223372036854775807) (HR : -9223372036854775808 ≤ a ∧ a ≤ 9223372036854775807) (ht : isT n a = false) (w : World) :
    Calls Tq.prog 26 #[.agg #[.int .i64 n, .int .i64 a]] w (Spc.Out [] w) := by
  refine (Aut.twin_no #[.int .i64 n, .int .i64 a] n a rfl rfl hnr HR ht w).mono ?_
  rintro e w' ⟨rfl, h2⟩
  exact ⟨_, rfl, ⟨rfl, .inl ⟨rfl, rfl⟩⟩, PR.below h2⟩

theorem autL_vals (a M : Nat) : (Wk.vals (autV a) M) = intsV (autL a M M) := by
  simp [Wk.vals, intsV, Plain.autL, Wk.val]

theorem Aut.impl_yes (n a : Nat) (hn : n ≤ 5) (ht : isT n a = true) (ha : (a : Int) ≤ 4294967295) (w : World) :
    Calls Tq.prog 26 #[.agg #[.int .i64 n, .int .i64 a]] w (Spc.Out (autL a (2 ^ n) (2 ^ n)) w) := by
  have h32 := two_pow_le n hn
  refine (Aut.twin_yes #[.int .i64 n, .int .i64 a] n a rfl rfl hn ha ht w).mono ?_
  rintro e w' ⟨rfl, h2⟩
  have hl := autL_len a (2 ^ n) (2 ^ n)
  refine ⟨_, rfl, ⟨by simp [intsV], .inr ⟨w.heap.size + 5, 2 ^ n, Wk.rowS (autV a) (2 ^ n) (2 ^ n), by rw [hl], by omega, h2.blk 5 _ (Spc.made_at _ _ _ _ _ _ _ _ _ _ (by omega) rfl), by omega, by unfold maxLen; omega, by rw [Wk.rowS_size]; omega, ?_⟩⟩, PR.below h2⟩
  rw [Wk.rowS_full, ← autL_vals, hl]
  exact List.take_of_length_le (by simp [Wk.vals])

def Plain.autZ (n a : Int) : List Int := if isT n a = true then autL a.toNat (2 ^ n.toNat) (2 ^ n.toNat) else []

theorem autZ_len (n a : Int) : (autZ n a).length ≤ 32 := by
  unfold Plain.autZ
  split
  · next ht =>
    obtain ⟨n, a, rfl, rfl, hn, ha⟩ := isT_nat ht
    rw [autL_len]
    have := two_pow_le n hn
    simpa using this
  · simp
theorem autZ_lim (n a : Int) : ∀ x ∈ autZ n a, -9223372036854775808 ≤ x ∧ x ≤ 9223372036854775807 := by
  intro x hx
  unfold Plain.autZ at hx
  split at hx
  · next ht =>
    obtain ⟨n, a, rfl, rfl, hn, ha⟩ := isT_nat ht
    have h2 := two_pow_le n hn
    simp only [Plain.autL, List.mem_map, List.mem_range, Int.toNat_natCast] at hx
    obtain ⟨u, _, rfl⟩ := hx
    have := autN_lim a (2 ^ n) u
    unfold Plain.autN at this
    omega
  · simp at hx
theorem Aut.modelZ (n a : Int) (w : World) :
    Calls Tq.prog 25 #[.agg #[.int .i64 n, .int .i64 a]] w (Spc.Out (autZ n a) w) := by
  cases ht : isT n a with
  | false => rw [show autZ n a = [] by simp [Plain.autZ, ht]]; exact Aut.model_no n a ht w
  | true =>
    obtain ⟨n, a, rfl, rfl, hn, ha⟩ := isT_nat ht
    rw [show autZ n a = autL a (2 ^ n) (2 ^ n) by simp [Plain.autZ, ht]]
    exact Aut.model_yes n a hn ht (full_lim hn ha) w
theorem Aut.implZ (n a : Int) (hnr : -9223372036854775808 ≤ n ∧ n ≤ 9223372036854775807) (HR : -9223372036854775808 ≤ a ∧ a ≤ 9223372036854775807) (w : World) :
    Calls Tq.prog 26 #[.agg #[.int .i64 n, .int .i64 a]] w (Spc.Out (autZ n a) w) := by
  cases ht : isT n a with
  | false => rw [show autZ n a = [] by simp [Plain.autZ, ht]]; exact Aut.impl_no n a hnr HR ht w
  | true =>
    obtain ⟨n, a, rfl, rfl, hn, ha⟩ := isT_nat ht
    rw [show autZ n a = autL a (2 ^ n) (2 ^ n) by simp [Plain.autZ, ht]]
    exact Aut.impl_yes n a hn ht (full_lim hn ha) w
end Go.Proofs.Ytechkghnmgimbaa.Q
