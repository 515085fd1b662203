/-
  Chapter 15, the law's mathematics: duals, hulls, minimal points and prime terms of monotone tables.
-/
import Derived.Test.YtlmhdocfdpbhmaaMonD
import Derived.Test.YtlmhdocfdpbhmaaMonU
import Derived.Test.YtlmhdocfdpbhmaaMonT
import Derived.Test.YtlmhdocfdpbhmaaTrmI
namespace Go.Proofs.Ytlmhdocfdpbhmaa
open Plain Go.RowKit
set_option linter.unusedVariables false

theorem ones_bit (n j : Nat) : (2 ^ n - 1).testBit j = decide (j < n) := Nat.testBit_two_pow_sub_one n j
theorem com_lt {n x : Nat} (hx : x < 2 ^ n) : x ^^^ (2 ^ n - 1) < 2 ^ n := Nat.xor_lt_two_pow hx (by have : 0 < 2 ^ n := Nat.pow_pos (by decide); omega)
theorem com_com (n x : Nat) : (x ^^^ (2 ^ n - 1)) ^^^ (2 ^ n - 1) = x := by rw [Nat.xor_assoc, Nat.xor_self, Nat.xor_zero]
theorem com_sub {n x : Nat} (hx : x < 2 ^ n) : x ^^^ (2 ^ n - 1) = 2 ^ n - 1 - x := by
  apply Nat.eq_of_testBit_eq; intro j
  rw [Nat.testBit_xor, ones_bit, show 2 ^ n - 1 - x = 2 ^ n - (x + 1) by omega, Nat.testBit_two_pow_sub_succ hx]
  by_cases h : j < n
  · simp [h]
  · rw [Nat.testBit_lt_two_pow (Nat.lt_of_lt_of_le hx (Nat.pow_le_pow_right (by decide) (by omega)))]
    simp [h]

/-- The dual, input by input. -/
theorem dul_bit (n a x : Nat) : (dulW n a).testBit x = (decide (x < 2 ^ n) && !a.testBit (x ^^^ (2 ^ n - 1))) := by
  unfold Plain.dulW Plain.fullN
  have hl : shiW n a (2 ^ n - 1) < 2 ^ 2 ^ n := tabN_lt _ _
  rw [show 2 ^ 2 ^ n - 1 - shiW n a (2 ^ n - 1) = 2 ^ 2 ^ n - (shiW n a (2 ^ n - 1) + 1) by omega, Nat.testBit_two_pow_sub_succ hl]
  by_cases hx : x < 2 ^ n
  · unfold Plain.shiW
    rw [tabN_bit]
    unfold Plain.shiV
    simp only [hx, true_and, bitN_one]
    cases a.testBit (x ^^^ (2 ^ n - 1)) <;> simp
  · simp [hx]
theorem dul_lt (n a : Nat) : dulW n a < 2 ^ 2 ^ n := by
  have : 0 < 2 ^ 2 ^ n := Nat.pow_pos (by decide)
  unfold Plain.dulW Plain.fullN; omega
theorem out_bit {n a x : Nat} (ha : a < 2 ^ 2 ^ n) (hx : ¬ x < 2 ^ n) : a.testBit x = false :=
  Nat.testBit_lt_two_pow (Nat.lt_of_lt_of_le ha (Nat.pow_le_pow_right (by decide) (by omega)))
theorem dul_dul {n a : Nat} (ha : a < 2 ^ 2 ^ n) : dulW n (dulW n a) = a := by
  apply Nat.eq_of_testBit_eq; intro x
  rw [dul_bit, dul_bit]
  by_cases hx : x < 2 ^ n
  · simp [hx, com_lt hx, com_com]
  · rw [out_bit ha hx]; simp [hx]
theorem com_or {n x i : Nat} (hi : i < n) (hb : x.testBit i = false) : ((x ||| 2 ^ i) ^^^ (2 ^ n - 1)) ||| 2 ^ i = x ^^^ (2 ^ n - 1) := by
  apply Nat.eq_of_testBit_eq; intro j
  rw [Nat.testBit_or, Nat.testBit_xor, Nat.testBit_xor, Nat.testBit_or, Nat.testBit_two_pow, ones_bit]
  by_cases h : i = j
  · subst h; simp [hb, hi]
  · simp [h]
theorem or_self_bit {x i : Nat} (hb : x.testBit i = true) : x ||| 2 ^ i = x := by
  apply Nat.eq_of_testBit_eq; intro j
  rw [Nat.testBit_or, Nat.testBit_two_pow]
  by_cases h : i = j
  · subst h; simp [hb]
  · simp [h]
theorem mon_dul1 {n a : Nat} (h : monB n a = true) : monB n (dulW n a) = true := by
  refine monB_iff.2 fun x hx i hi hb => ?_
  have hm := monB_iff.1 h
  cases hq : x.testBit i with
  | true => rw [or_self_bit hq]; exact hb
  | false =>
    have hx2 := or_lt hx hi
    rw [dul_bit] at hb ⊢
    simp only [hx, hx2, decide_true, Bool.true_and, Bool.not_eq_true'] at hb ⊢
    cases hz : a.testBit ((x ||| 2 ^ i) ^^^ (2 ^ n - 1)) with
    | false => rfl
    | true =>
      have := hm _ (com_lt hx2) i hi hz
      rw [com_or hi hq, hb] at this
      exact absurd this (by decide)
theorem mon_dul {n a : Nat} (ha : a < 2 ^ 2 ^ n) : monB n (dulW n a) = monB n a := by
  cases h : monB n a with
  | true => exact mon_dul1 h
  | false =>
    cases h2 : monB n (dulW n a) with
    | false => rfl
    | true =>
      have := mon_dul1 h2
      rw [dul_dul ha, h] at this
      exact absurd this (by decide)
theorem mon_hul (n a : Nat) : monB n (hulW n a) = true := by
  refine monB_iff.2 fun x hx i hi hb => ?_
  rw [hulW_bit, decide_eq_true_iff] at hb ⊢
  obtain ⟨y, h1, h2⟩ := hulB_iff.1 hb.2
  exact ⟨or_lt hx hi, hulB_iff.2 ⟨y, sub_trans h1 (or_sub x i), h2⟩⟩
theorem hul_sub {n a : Nat} (ha : a < 2 ^ 2 ^ n) : a &&& hulW n a = a := by
  apply Nat.eq_of_testBit_eq; intro x
  rw [Nat.testBit_and, hulW_bit]
  cases hb : a.testBit x with
  | false => rfl
  | true =>
    have hx : x < 2 ^ n := by
      rcases Nat.lt_or_ge x (2 ^ n) with h | h
      · exact h
      · rw [out_bit ha (by omega)] at hb; exact absurd hb (by decide)
    rw [Bool.true_and, decide_eq_true_iff]
    exact ⟨hx, hulB_iff.2 ⟨x, Nat.and_self x, hb⟩⟩

theorem turK_iff {a b x : Nat} : ∀ n, turK a b x n = true ↔ bitN a x = b ∧ ∀ i, i < n → turI a b x i = false := by
  intro n
  induction n with
  | zero => show decide _ = true ↔ _; rw [decide_eq_true_iff]; exact ⟨fun h => ⟨h, fun i hi => absurd hi (by omega)⟩, fun h => h.1⟩
  | succ n ih =>
    show (_ && _) = true ↔ _
    rw [Bool.and_eq_true, ih, Bool.not_eq_true']
    constructor
    · rintro ⟨⟨h1, h2⟩, h3⟩
      refine ⟨h1, fun i hi => ?_⟩
      by_cases e : i = n
      · rw [e]; exact h3
      · exact h2 i (by omega)
    · rintro ⟨h1, h2⟩
      exact ⟨⟨h1, fun i hi => h2 i (by omega)⟩, h2 n (by omega)⟩
theorem flip_bit (x i j : Nat) : (x ^^^ 2 ^ i).testBit j = (x.testBit j ^^ decide (i = j)) := by rw [Nat.testBit_xor, Nat.testBit_two_pow]
theorem flip_sub {x i : Nat} (h : x.testBit i = true) : (x ^^^ 2 ^ i) &&& x = x ^^^ 2 ^ i := by
  apply Nat.eq_of_testBit_eq; intro j
  rw [Nat.testBit_and, flip_bit]
  by_cases e : i = j
  · subst e; simp [h]
  · simp [e]
theorem flip_or {x i : Nat} (h : x.testBit i = true) : (x ^^^ 2 ^ i) ||| 2 ^ i = x := by
  apply Nat.eq_of_testBit_eq; intro j
  rw [Nat.testBit_or, flip_bit, Nat.testBit_two_pow]
  by_cases e : i = j
  · subst e; simp [h]
  · simp [e]
theorem flip_less {x i : Nat} (h : x.testBit i = true) : x ^^^ 2 ^ i < x := by
  have h1 : x ^^^ 2 ^ i ≤ x := by rw [← flip_sub h]; exact Nat.and_le_right
  rcases Nat.lt_or_ge (x ^^^ 2 ^ i) x with hl | hg
  · exact hl
  · have e : x ^^^ 2 ^ i = x := by omega
    have := flip_bit x i i
    rw [e, h] at this
    simp at this
/-- Below each input with 1 there is a minimal point. -/
theorem min_below {n a : Nat} : ∀ m x, x ≤ m → x < 2 ^ n → a.testBit x = true → ∃ y, y &&& x = y ∧ turK a 1 y n = true ∧ y < 2 ^ n := by
  intro m
  induction m with
  | zero =>
    intro x hm hx hb
    obtain rfl : x = 0 := by omega
    refine ⟨0, Nat.and_self 0, (turK_iff n).2 ⟨bit_test1.2 hb, fun i hi => decide_eq_false fun h => ?_⟩, hx⟩
    have := bit_test1.1 h.1
    simp at this
  | succ m ih =>
    intro x hm hx hb
    cases h : turK a 1 x n with
    | true => exact ⟨x, Nat.and_self x, h, hx⟩
    | false =>
      have hnot : ¬ ∀ i, i < n → turI a 1 x i = false := fun q => by
        rw [(turK_iff n).2 ⟨bit_test1.2 hb, q⟩] at h; exact absurd h (by decide)
      obtain ⟨i, hi⟩ := Classical.not_forall.1 hnot
      obtain ⟨hi1, hi2⟩ := Classical.not_imp.1 hi
      have hi3 : turI a 1 x i = true := by simpa using hi2
      obtain ⟨h1, h2⟩ := of_decide_eq_true hi3
      have h1 := bit_test1.1 h1
      have h2 := bit_test1.1 h2
      have hl := flip_less h1
      obtain ⟨y, hy1, hy2, hy3⟩ := ih (x ^^^ 2 ^ i) (by omega) (by omega) h2
      exact ⟨y, sub_trans hy1 (flip_sub h1), hy2, hy3⟩
theorem natI_getD (L : List Nat) (j : Nat) (h : j < L.length) : ((natI L).getD j 0).toNat = L.getD j 0 := by rw [natI_at h]; simp
theorem pts_bit (L : List Nat) : ∀ k, k ≤ L.length → ∀ z, (ptsK (natI L) k).testBit z = true ↔ ∃ j, j < k ∧ L.getD j 0 = z := by
  intro k
  induction k with
  | zero => intro _ z; simp [Plain.ptsK]
  | succ k ih =>
    intro hk z
    show (ptsK (natI L) k ||| 2 ^ ((natI L).getD k 0).toNat).testBit z = true ↔ _
    rw [natI_getD L k (by omega), Nat.testBit_or, Nat.testBit_two_pow, Bool.or_eq_true, ih (by omega), decide_eq_true_iff]
    constructor
    · rintro (⟨j, h1, h2⟩ | h)
      · exact ⟨j, by omega, h2⟩
      · exact ⟨k, by omega, h⟩
    · rintro ⟨j, h1, h2⟩
      by_cases e : j = k
      · subst e; exact .inr h2
      · exact .inl ⟨j, by omega, h2⟩
theorem mem_getD {L : List Nat} {x : Nat} (h : x ∈ L) : ∃ j, j < L.length ∧ L.getD j 0 = x := by
  obtain ⟨j, hj, e⟩ := List.getElem_of_mem h
  exact ⟨j, hj, by rw [List.getD_eq_getElem?_getD, List.getElem?_eq_getElem hj]; exact e⟩
/-- The points of a monotone table give it back. -/
theorem pts_back {n a : Nat} (ha : a < 2 ^ 2 ^ n) (hm : monB n a = true) : hulW n (ptsK (natI (turL n a 1 (2 ^ n))) (natI (turL n a 1 (2 ^ n))).length) = a := by
  apply Nat.eq_of_testBit_eq; intro x
  rw [hulW_bit, natI_len]
  by_cases hx : x < 2 ^ n
  · cases hb : a.testBit x with
    | true =>
      obtain ⟨y, h1, h2, h3⟩ := min_below x x (Nat.le_refl _) hx hb
      obtain ⟨j, hj, e⟩ := mem_getD ((turL_mem (n := n) (a := a) (b := 1) (m := 2 ^ n) y).2 ⟨h3, h2⟩)
      exact decide_eq_true ⟨hx, hulB_iff.2 ⟨y, h1, (pts_bit _ _ (Nat.le_refl _) y).2 ⟨j, hj, e⟩⟩⟩
    | false =>
      refine decide_eq_false ?_
      rintro ⟨_, hq⟩
      obtain ⟨y, h1, h2⟩ := hulB_iff.1 hq
      obtain ⟨j, hj, e⟩ := (pts_bit _ _ (Nat.le_refl _) y).1 h2
      have hmem := (turL_mem (n := n) (a := a) (b := 1) (m := 2 ^ n) y).1 (e ▸ getD_memN hj)
      have hay := bit_test1.1 ((turK_iff n).1 hmem.2).1
      have := up_all (n := n) (P := fun z => a.testBit z = true) (fun z hz i hi q => monB_iff.1 hm z hz i hi q) hx h1 hay
      rw [hb] at this; exact absurd this (by decide)
  · rw [out_bit ha hx]; simp [hx]
end Go.Proofs.Ytlmhdocfdpbhmaa
