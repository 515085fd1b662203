/-
  Plain mathematics of chapter 15: monotone tables, hulls, points; numbers alone.
-/
import Derived.Test.YtlmhdocfdpbhmaaPlainR
namespace Go.Proofs.Ytlmhdocfdpbhmaa
open Plain Go.RowKit
set_option linter.unusedVariables false

/-- Is a table monotone: does each change of a variable from 0 to 1 keep the value 1? -/
def Plain.monB (n a : Nat) : Bool := decide (∀ x, x < 2 ^ n → ∀ i, i < n → a.testBit x = true → a.testBit (x ||| 2 ^ i) = true)
theorem monB_iff {n a : Nat} : monB n a = true ↔ ∀ x, x < 2 ^ n → ∀ i, i < n → a.testBit x = true → a.testBit (x ||| 2 ^ i) = true := decide_eq_true_iff

theorem or_lt {n x i : Nat} (hx : x < 2 ^ n) (hi : i < n) : x ||| 2 ^ i < 2 ^ n := Nat.or_lt_two_pow hx (Nat.pow_lt_pow_right (by decide) hi)
theorem or_sub (x i : Nat) : x &&& (x ||| 2 ^ i) = x := by
  apply Nat.eq_of_testBit_eq; intro j
  rw [Nat.testBit_and, Nat.testBit_or]
  cases x.testBit j <;> simp
theorem sub_trans {x y z : Nat} (h1 : x &&& y = x) (h2 : y &&& z = y) : x &&& z = x := by
  rw [← h1, Nat.and_assoc, h2]

theorem put_all : ∀ y, y < 32 → ∀ i, i < 6 → insN y i 0 ||| 2 ^ i = insN y i 1 := by decide +kernel
theorem rem_put : ∀ x, x < 32 → ∀ i, i < 6 → bitN x i = 0 → insN (remN x i) i 0 = x ∧ insN (remN x i) i 1 = x ||| 2 ^ i := by decide +kernel
theorem or_has : ∀ x, x < 32 → ∀ i, i < 6 → bitN x i = 1 → x ||| 2 ^ i = x := by decide +kernel

/-- What is asked of one variable: the word of what is left where it is 0 is part of that where it is 1. -/
theorem mon_var (n a i : Nat) (hn : n ≤ 5) (hi : i < n) :
    (tabN (fun y => bitN a (insN y i 0)) (2 ^ (n - 1)) &&& tabN (fun y => bitN a (insN y i 1)) (2 ^ (n - 1)) = tabN (fun y => bitN a (insN y i 0)) (2 ^ (n - 1))) ↔
      ∀ x, x < 2 ^ n → a.testBit x = true → a.testBit (x ||| 2 ^ i) = true := by
  obtain ⟨m, rfl⟩ : ∃ m, n = m + 1 := ⟨n - 1, by omega⟩
  rw [Nat.add_sub_cancel]
  have h32 : 2 ^ (m + 1) ≤ 32 := two_pow_le (m + 1) hn
  have hm32 : 2 ^ m ≤ 16 := by rw [Nat.pow_succ] at h32; omega
  constructor
  · intro h x hx hb
    rcases bitN_cases x i with h0 | h1
    · obtain ⟨e0, e1⟩ := rem_put x (by omega) i (by omega) h0
      have hy := rem_size m (by omega) x hx (by omega) i (by omega)
      have ht := congrArg (fun t => t.testBit (remN x i)) h
      simp only [Nat.testBit_and, tabN_bit, e0, e1, hy, true_and, bitN_one] at ht
      rw [hb] at ht
      cases hq : a.testBit (x ||| 2 ^ i) with
      | true => rfl
      | false => rw [hq] at ht; simp at ht
    · rw [or_has x (by omega) i (by omega) h1]; exact hb
  · intro h
    apply Nat.eq_of_testBit_eq; intro y
    rw [Nat.testBit_and, tabN_bit, tabN_bit]
    by_cases hy : y < 2 ^ m
    · have hx := ins_size m (by omega) y hy (by omega) i (by omega) 0 (by decide)
      have hp := put_all y (by omega) i (by omega)
      have h1 := h _ hx
      rw [hp] at h1
      simp only [hy, true_and, bitN_one]
      cases h0 : a.testBit (insN y i 0) with
      | false => simp
      | true => simp [h1 h0]
    · simp [hy]

/-- Is there an input with 1 among the first j whose ones are all in x? -/
def Plain.hulJ (a x j : Nat) : Bool := (List.range j).any fun y => decide (y &&& x = y) && a.testBit y
theorem hulJ_next (a x j : Nat) : hulJ a x (j + 1) = (hulJ a x j || (decide (j &&& x = j) && a.testBit j)) := by
  unfold Plain.hulJ; rw [List.range_succ, List.any_append]; simp
/-- Is there an input with 1 whose ones are all in x? -/
def Plain.hulB (a x : Nat) : Bool := hulJ a x (x + 1)
theorem hulB_iff {a x : Nat} : hulB a x = true ↔ ∃ y, y &&& x = y ∧ a.testBit y = true := by
  unfold Plain.hulB Plain.hulJ
  rw [List.any_eq_true]
  constructor
  · rintro ⟨y, _, h⟩
    simp only [Bool.and_eq_true, decide_eq_true_eq] at h
    exact ⟨y, h⟩
  · rintro ⟨y, h1, h2⟩
    refine ⟨y, List.mem_range.2 ?_, by simp [h1, h2]⟩
    have : y &&& x ≤ x := Nat.and_le_right
    omega
def Plain.hulV (a x : Nat) : Nat := if hulB a x = true then 1 else 0
/-- The word of the hull. -/
def Plain.hulW (n a : Nat) : Nat := tabN (hulV a) (2 ^ n)
/-- The word of the hull of the first x inputs, and of x the first j inputs looked at. -/
def Plain.hulA (a x j : Nat) : Nat := if hulJ a x j = true then tabN (hulV a) x ||| 2 ^ x else tabN (hulV a) x
theorem hulA_start (a x : Nat) : hulA a x 0 = tabN (hulV a) x := by
  unfold Plain.hulA Plain.hulJ; simp
theorem hulA_yes {a x j : Nat} (h1 : j &&& x = j) (h2 : a.testBit j = true) : hulA a x (j + 1) = hulA a x j ||| 2 ^ x := by
  unfold Plain.hulA
  rw [hulJ_next, h1, h2]
  cases hulJ a x j
  · simp
  · simp [Nat.or_assoc]
theorem hulA_no {a x j : Nat} (h : ¬ (j &&& x = j ∧ a.testBit j = true)) : hulA a x (j + 1) = hulA a x j := by
  unfold Plain.hulA
  rw [hulJ_next]
  have : (decide (j &&& x = j) && a.testBit j) = false := by
    cases hb : a.testBit j with
    | false => simp
    | true => simp only [Bool.and_true, decide_eq_false_iff_not]; exact fun q => h ⟨q, hb⟩
  rw [this, Bool.or_false]
theorem hulA_end (a x : Nat) : hulA a x (x + 1) = tabN (hulV a) (x + 1) := by
  unfold Plain.hulA
  by_cases h : hulJ a x (x + 1) = true
  · rw [if_pos h, tabN_yes (by unfold Plain.hulV Plain.hulB; rw [if_pos h])]
  · rw [if_neg h, tabN_no (by unfold Plain.hulV Plain.hulB; rw [if_neg h]; decide)]
theorem hulA_lt (a x j : Nat) : hulA a x j < 2 ^ (x + 1) := by
  unfold Plain.hulA
  have h := tabN_lt (hulV a) x
  have h2 : (2 : Nat) ^ x < 2 ^ (x + 1) := Nat.pow_lt_pow_right (by decide) (by omega)
  split
  · exact Nat.or_lt_two_pow (by omega) h2
  · omega
theorem hulW_bit (n a x : Nat) : (hulW n a).testBit x = decide (x < 2 ^ n ∧ hulB a x = true) := by
  unfold Plain.hulW
  rw [tabN_bit]
  unfold Plain.hulV
  by_cases h : hulB a x = true <;> simp [h]
theorem hulW_lt (n a : Nat) : hulW n a < 2 ^ 2 ^ n := tabN_lt _ _

/-- What holds of y and is kept by each variable that is set holds of all that contain y. -/
theorem up_all {n : Nat} {P : Nat → Prop} (hP : ∀ x, x < 2 ^ n → ∀ i, i < n → P x → P (x ||| 2 ^ i)) {y x : Nat} (hx : x < 2 ^ n) (hs : y &&& x = y) (h : P y) : P x := by
  have hy : y < 2 ^ n := by have : y &&& x ≤ x := Nat.and_le_right; omega
  have step : ∀ k, k ≤ n → (y ||| x % 2 ^ k) < 2 ^ n ∧ P (y ||| x % 2 ^ k) := by
    intro k
    induction k with
    | zero => intro _; rw [Nat.pow_zero, Nat.mod_one, Nat.or_zero]; exact ⟨hy, h⟩
    | succ k ih =>
      intro hk
      obtain ⟨l1, l2⟩ := ih (by omega)
      have e : y ||| x % 2 ^ (k + 1) = if x.testBit k = true then (y ||| x % 2 ^ k) ||| 2 ^ k else y ||| x % 2 ^ k := by
        apply Nat.eq_of_testBit_eq; intro j
        by_cases hb : x.testBit k = true
        · rw [if_pos hb, Nat.testBit_or, Nat.testBit_or, Nat.testBit_or, Nat.testBit_mod_two_pow, Nat.testBit_mod_two_pow, Nat.testBit_two_pow]
          by_cases h1 : j < k
          · simp [h1, show j < k + 1 by omega, show ¬ k = j by omega]
          · by_cases h2 : j = k
            · subst h2; simp [hb]
            · simp [h1, show ¬ j < k + 1 by omega, show ¬ k = j by omega]
        · rw [if_neg hb, Nat.testBit_or, Nat.testBit_or, Nat.testBit_mod_two_pow, Nat.testBit_mod_two_pow]
          by_cases h1 : j < k
          · simp [h1, show j < k + 1 by omega]
          · by_cases h2 : j = k
            · subst h2
              simp only [Bool.not_eq_true] at hb
              simp [hb]
            · simp [h1, show ¬ j < k + 1 by omega]
      rw [e]
      split
      · exact ⟨or_lt l1 (by omega), hP _ l1 k (by omega) l2⟩
      · exact ⟨l1, l2⟩
  have e : y ||| x % 2 ^ n = x := by
    rw [Nat.mod_eq_of_lt hx]
    apply Nat.eq_of_testBit_eq; intro j
    have := congrArg (fun t => t.testBit j) hs
    simp only [Nat.testBit_and] at this
    rw [Nat.testBit_or]
    cases h1 : y.testBit j <;> cases h2 : x.testBit j <;> simp_all
  exact e ▸ (step n (Nat.le_refl n)).2

/-- A table is its own hull exactly if it is monotone. -/
theorem hul_self {n a : Nat} (ha : a < 2 ^ 2 ^ n) : hulW n a = a ↔ monB n a = true := by
  rw [monB_iff]
  constructor
  · intro h x hx i hi hb
    rw [← h, hulW_bit, decide_eq_true_iff]
    exact ⟨or_lt hx hi, hulB_iff.2 ⟨x, or_sub x i, hb⟩⟩
  · intro h
    apply Nat.eq_of_testBit_eq; intro x
    rw [hulW_bit]
    by_cases hx : x < 2 ^ n
    · cases hb : a.testBit x with
      | true => rw [decide_eq_true_iff]; exact ⟨hx, hulB_iff.2 ⟨x, Nat.and_self x, hb⟩⟩
      | false =>
        rw [decide_eq_false_iff_not]
        rintro ⟨_, hq⟩
        obtain ⟨y, h1, h2⟩ := hulB_iff.1 hq
        have := up_all (n := n) (P := fun z => a.testBit z = true) (fun z hz i hi hq => h z hz i hi hq) hx h1 h2
        rw [hb] at this; exact absurd this (by decide)
    · rw [Nat.testBit_lt_two_pow (Nat.lt_of_lt_of_le ha (Nat.pow_le_pow_right (by decide) (by omega)))]
      simp [hx]

/-- What raising x makes of a hull: it has x, nothing is lost, all that is new contains x, and what is new is closed. -/
structure Plain.Rse (n h x g : Nat) : Prop where
  lt : g < 2 ^ 2 ^ n
  more : ∀ y, h.testBit y = true → g.testBit y = true
  it : g.testBit x = true
  sub : ∀ y, g.testBit y = true → h.testBit y = true ∨ x &&& y = x
  up : ∀ y, g.testBit y = true → h.testBit y = true ∨ ∀ i, i < n → g.testBit (y ||| 2 ^ i) = true
theorem rse_has {n h x : Nat} (hl : h < 2 ^ 2 ^ n) (hb : h.testBit x = true) : Rse n h x h :=
  ⟨hl, fun _ q => q, hb, fun _ q => .inl q, fun _ q => .inl q⟩

/-- The state behind the first k variables. -/
structure Plain.Lse (n h x k g : Nat) : Prop where
  lt : g < 2 ^ 2 ^ n
  more : ∀ y, h.testBit y = true → g.testBit y = true
  it : g.testBit x = true
  sub : ∀ y, g.testBit y = true → h.testBit y = true ∨ x &&& y = x
  up : ∀ y, g.testBit y = true → h.testBit y = true ∨ y = x ∨ ∀ i, i < n → g.testBit (y ||| 2 ^ i) = true
  next : ∀ i, i < k → g.testBit (x ||| 2 ^ i) = true
theorem or_bit (h x y : Nat) : (h ||| 2 ^ x).testBit y = (h.testBit y || decide (x = y)) := by
  rw [Nat.testBit_or, Nat.testBit_two_pow]
theorem lse_start {n h x : Nat} (hl : h < 2 ^ 2 ^ n) (hx : x < 2 ^ n) : Lse n h x 0 (h ||| 2 ^ x) := by
  refine ⟨Nat.or_lt_two_pow hl (Nat.pow_lt_pow_right (by decide) hx), ?_, ?_, ?_, ?_, fun i hi => absurd hi (by omega)⟩
  · intro y hy; rw [or_bit, hy]; rfl
  · rw [or_bit]; simp
  · intro y hy
    rw [or_bit] at hy
    by_cases e : x = y
    · exact .inr (by rw [e]; exact Nat.and_self y)
    · simp [e] at hy; exact .inl hy
  · intro y hy
    rw [or_bit] at hy
    by_cases e : x = y
    · exact .inr (.inl e.symm)
    · simp [e] at hy; exact .inl hy
theorem lse_step {n h x k g g2 : Nat} (H : Lse n h x k g) (R : Rse n g (x ||| 2 ^ k) g2) : Lse n h x (k + 1) g2 := by
  refine ⟨R.lt, fun y hy => R.more y (H.more y hy), R.more x H.it, ?_, ?_, ?_⟩
  · intro y hy
    rcases R.sub y hy with q | q
    · exact H.sub y q
    · exact .inr (sub_trans (or_sub x k) q)
  · intro y hy
    rcases R.up y hy with q | q
    · rcases H.up y q with q | q | q
      · exact .inl q
      · exact .inr (.inl q)
      · exact .inr (.inr fun i hi => R.more _ (q i hi))
    · exact .inr (.inr q)
  · intro i hi
    by_cases e : i = k
    · subst e; exact R.it
    · exact R.more _ (H.next i (by omega))
theorem lse_end {n h x g : Nat} (H : Lse n h x n g) : Rse n h x g := by
  refine ⟨H.lt, H.more, H.it, H.sub, ?_⟩
  intro y hy
  rcases H.up y hy with q | rfl | q
  · exact .inl q
  · exact .inr H.next
  · exact .inr q

/-- The hull behind the first k inputs: closed, of these inputs, with all of them. -/
structure Plain.Hse (n a k g : Nat) : Prop where
  lt : g < 2 ^ 2 ^ n
  up : ∀ y, g.testBit y = true → ∀ i, i < n → g.testBit (y ||| 2 ^ i) = true
  of : ∀ y, g.testBit y = true → ∃ z, a.testBit z = true ∧ z &&& y = z
  has : ∀ z, z < k → a.testBit z = true → g.testBit z = true
theorem hse_start (n a : Nat) : Hse n a 0 0 := by
  refine ⟨Nat.pow_pos (by decide), ?_, ?_, fun z hz => absurd hz (by omega)⟩ <;> intro y hy <;> simp at hy
theorem hse_no {n a k g : Nat} (H : Hse n a k g) (hb : a.testBit k = false) : Hse n a (k + 1) g := by
  refine ⟨H.lt, H.up, H.of, fun z hz q => ?_⟩
  by_cases e : z = k
  · subst e; rw [hb] at q; exact absurd q (by decide)
  · exact H.has z (by omega) q
theorem hse_yes {n a k g g2 : Nat} (H : Hse n a k g) (hb : a.testBit k = true) (R : Rse n g k g2) : Hse n a (k + 1) g2 := by
  refine ⟨R.lt, ?_, ?_, ?_⟩
  · intro y hy i hi
    rcases R.up y hy with q | q
    · exact R.more _ (H.up y q i hi)
    · exact q i hi
  · intro y hy
    rcases R.sub y hy with q | q
    · exact H.of y q
    · exact ⟨k, hb, q⟩
  · intro z hz q
    by_cases e : z = k
    · subst e; exact R.it
    · exact R.more _ (H.has z (by omega) q)
theorem hse_end {n a g : Nat} (H : Hse n a (2 ^ n) g) : g = hulW n a := by
  apply Nat.eq_of_testBit_eq; intro x
  rw [hulW_bit]
  by_cases hx : x < 2 ^ n
  · cases hb : g.testBit x with
    | true => exact (decide_eq_true ⟨hx, hulB_iff.2 (by obtain ⟨z, h1, h2⟩ := H.of x hb; exact ⟨z, h2, h1⟩)⟩).symm
    | false =>
      refine (decide_eq_false ?_).symm
      rintro ⟨_, hq⟩
      obtain ⟨y, h1, h2⟩ := hulB_iff.1 hq
      have hy : y < 2 ^ n := by have : y &&& x ≤ x := Nat.and_le_right; omega
      have := up_all (n := n) (P := fun z => g.testBit z = true) (fun z _ i hi q => H.up z q i hi) hx h1 (H.has y hy h2)
      rw [hb] at this; exact absurd this (by decide)
  · rw [Nat.testBit_lt_two_pow (Nat.lt_of_lt_of_le H.lt (Nat.pow_le_pow_right (by decide) (by omega)))]
    simp [hx]

/-- How many of the first k words are monotone. -/
def Plain.monN (n : Nat) : Nat → Nat
  | 0 => 0
  | k + 1 => if monB n k = true then monN n k + 1 else monN n k
theorem monN_yes {n k : Nat} (h : monB n k = true) : monN n (k + 1) = monN n k + 1 := if_pos h
theorem monN_no {n k : Nat} (h : monB n k = false) : monN n (k + 1) = monN n k := if_neg (by rw [h]; decide)
theorem monN_le (n k : Nat) : monN n k ≤ k := by
  induction k with
  | zero => exact Nat.le_refl _
  | succ k ih =>
    cases h : monB n k with
    | true => rw [monN_yes h]; omega
    | false => rw [monN_no h]; omega

/-- Does variable i let x off: has x the value b in it and the input beside it the value b? -/
def Plain.turI (a b x i : Nat) : Bool := decide (bitN x i = b ∧ bitN a (x ^^^ 2 ^ i) = b)
/-- Is x, of the value b, one from which no change of a variable that is b keeps b (the first k variables)? -/
def Plain.turK (a b x : Nat) : Nat → Bool
  | 0 => decide (bitN a x = b)
  | k + 1 => turK a b x k && !turI a b x k
theorem turK_next {a b x k : Nat} (h : turI a b x k = false) : turK a b x (k + 1) = turK a b x k := by show (_ && _) = _; rw [h]; simp
theorem turK_off {a b x k : Nat} (h : turI a b x k = true) : turK a b x (k + 1) = false := by show (_ && _) = _; rw [h]; simp
theorem turK_gone {a b x k m : Nat} (h : turK a b x k = false) (hm : k ≤ m) : turK a b x m = false := by
  induction m with
  | zero => obtain rfl : k = 0 := by omega
            exact h
  | succ m ih =>
    by_cases e : k = m + 1
    · rw [← e]; exact h
    · show (_ && _) = _
      rw [ih (by omega)]; rfl
/-- The points among the first m inputs. -/
def Plain.turL (n a b : Nat) : Nat → List Nat
  | 0 => []
  | m + 1 => if turK a b m n = true then turL n a b m ++ [m] else turL n a b m
theorem turL_yes {n a b m : Nat} (h : turK a b m n = true) : turL n a b (m + 1) = turL n a b m ++ [m] := if_pos h
theorem turL_no {n a b m : Nat} (h : turK a b m n = false) : turL n a b (m + 1) = turL n a b m := if_neg (by rw [h]; decide)
theorem turL_len (n a b m : Nat) : (turL n a b m).length ≤ m := by
  induction m with
  | zero => exact Nat.le_refl _
  | succ m ih =>
    cases h : turK a b m n with
    | true => rw [turL_yes h, List.length_append]; simp; omega
    | false => rw [turL_no h]; omega
theorem turL_mem {n a b m : Nat} : ∀ x, x ∈ turL n a b m ↔ x < m ∧ turK a b x n = true := by
  induction m with
  | zero => intro x; simp [Plain.turL]
  | succ m ih =>
    intro x
    by_cases h : turK a b m n = true
    · rw [turL_yes h, List.mem_append, List.mem_singleton, ih]
      constructor
      · rintro (⟨h1, h2⟩ | rfl)
        · exact ⟨by omega, h2⟩
        · exact ⟨by omega, h⟩
      · rintro ⟨h1, h2⟩
        by_cases e : x = m
        · exact .inr e
        · exact .inl ⟨by omega, h2⟩
    · rw [turL_no (by simpa using h), ih]
      constructor
      · rintro ⟨h1, h2⟩; exact ⟨by omega, h2⟩
      · rintro ⟨h1, h2⟩
        refine ⟨?_, h2⟩
        by_cases e : x = m
        · subst e; exact absurd h2 h
        · omega
end Go.Proofs.Ytlmhdocfdpbhmaa
