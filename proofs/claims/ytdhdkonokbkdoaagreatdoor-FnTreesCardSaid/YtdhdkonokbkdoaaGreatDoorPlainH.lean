/-
  Plain mathematics of chapter 7: the least cost of a tree, by tables that grow smaller (the program) and by subcubes (the model): the same.
-/
import Derived.Test.YtdhdkonokbkdoaaGreatDoorPlainR
import Derived.Test.YtdhdkonokbkdoaaGreatDoorTabJ
import Derived.Test.YtdhdkonokbkdoaaGreatDoorResE
import Derived.Test.YtdhdkonokbkdoaaGreatDoorResKB
namespace Go.Proofs.YtdhdkonokbkdoaaGreatDoor
open Go.RowKit Plain
set_option linter.unusedVariables false

/-- The least of some numbers and a bound. -/
def Plain.mnK (g : Nat → Nat) (I : Nat) : Nat → Nat
  | 0 => I
  | k + 1 => min (mnK g I k) (g k)
/-- The same, without the places of a set. -/
def Plain.mnF (m : Nat) (g : Nat → Nat) (I : Nat) : Nat → Nat
  | 0 => I
  | k + 1 => if m.testBit k = true then mnF m g I k else min (mnF m g I k) (g k)

theorem mnK_spec (g : Nat → Nat) (I k : Nat) : mnK g I k ≤ I ∧ (∀ i, i < k → mnK g I k ≤ g i) ∧ (mnK g I k = I ∨ ∃ i, i < k ∧ mnK g I k = g i) := by
  induction k with
  | zero => exact ⟨Nat.le_refl _, fun i h => absurd h (Nat.not_lt_zero _), .inl rfl⟩
  | succ k ih =>
    obtain ⟨h1, h2, h3⟩ := ih
    have e : mnK g I (k + 1) = min (mnK g I k) (g k) := rfl
    refine ⟨by rw [e]; omega, ?_, ?_⟩
    · intro i hi
      rw [e]
      by_cases h : i = k
      · subst h; omega
      · have := h2 i (by omega); omega
    · rw [e]
      rcases Nat.le_total (mnK g I k) (g k) with hle | hle
      · rw [Nat.min_eq_left hle]
        rcases h3 with h3 | ⟨i, hi, h3⟩
        · exact .inl h3
        · exact .inr ⟨i, by omega, h3⟩
      · rw [Nat.min_eq_right hle]; exact .inr ⟨k, by omega, rfl⟩
theorem mnF_yes {m k : Nat} (g : Nat → Nat) (I : Nat) (h : m.testBit k = true) : mnF m g I (k + 1) = mnF m g I k := by show (if _ then _ else _) = _; rw [if_pos h]
theorem mnF_no {m k : Nat} (g : Nat → Nat) (I : Nat) (h : m.testBit k = false) : mnF m g I (k + 1) = min (mnF m g I k) (g k) := by show (if _ then _ else _) = _; rw [if_neg (by rw [h]; decide)]
theorem mnF_spec (m : Nat) (g : Nat → Nat) (I k : Nat) : mnF m g I k ≤ I ∧ (∀ i, i < k → m.testBit i = false → mnF m g I k ≤ g i) ∧ (mnF m g I k = I ∨ ∃ i, i < k ∧ m.testBit i = false ∧ mnF m g I k = g i) := by
  induction k with
  | zero => exact ⟨Nat.le_refl _, fun i h => absurd h (Nat.not_lt_zero _), .inl rfl⟩
  | succ k ih =>
    obtain ⟨h1, h2, h3⟩ := ih
    cases hb : m.testBit k with
    | true =>
      rw [mnF_yes g I hb]
      refine ⟨h1, ?_, ?_⟩
      · intro i hi hn
        by_cases h : i = k
        · subst h; rw [hb] at hn; cases hn
        · exact h2 i (by omega) hn
      · rcases h3 with h3 | ⟨i, hi, hn, h3⟩
        · exact .inl h3
        · exact .inr ⟨i, by omega, hn, h3⟩
    | false =>
      rw [mnF_no g I hb]
      refine ⟨by omega, ?_, ?_⟩
      · intro i hi hn
        by_cases h : i = k
        · subst h; omega
        · have := h2 i (by omega) hn; omega
      · rcases Nat.le_total (mnF m g I k) (g k) with hle | hle
        · rw [Nat.min_eq_left hle]
          rcases h3 with h3 | ⟨i, hi, hn, h3⟩
          · exact .inl h3
          · exact .inr ⟨i, by omega, hn, h3⟩
        · rw [Nat.min_eq_right hle]; exact .inr ⟨k, by omega, hb, rfl⟩
theorem mnK_congr {g h : Nat → Nat} {I k : Nat} (e : ∀ i, i < k → g i = h i) : mnK g I k = mnK h I k := by
  induction k with
  | zero => rfl
  | succ k ih => show min _ _ = min _ _; rw [ih fun i hi => e i (by omega), e k (by omega)]
theorem mnF_congr {m : Nat} {g h : Nat → Nat} {I k : Nat} (e : ∀ i, i < k → m.testBit i = false → g i = h i) : mnF m g I k = mnF m h I k := by
  induction k with
  | zero => rfl
  | succ k ih =>
    have ih' := ih fun i hi hn => e i (by omega) hn
    cases hb : m.testBit k with
    | true => rw [mnF_yes g I hb, mnF_yes h I hb, ih']
    | false => rw [mnF_no g I hb, mnF_no h I hb, ih', e k (by omega) hb]

/-- The least over the places outside a set is the least over their numbers. -/
theorem mnF_mnK {m n k I M : Nat} {g h : Nat → Nat} (fr : Nat → Nat) (h1 : ∀ i, i < k → fr i < n ∧ m.testBit (fr i) = false ∧ g (fr i) = h i) (h2 : ∀ j, j < n → m.testBit j = false → ∃ i, i < k ∧ fr i = j)
    (hk : 0 < k) (hI : h 0 ≤ I) (hM : I ≤ M) : mnF m g I n = mnK h M k := by
  obtain ⟨a1, a2, a3⟩ := mnF_spec m g I n
  obtain ⟨b1, b2, b3⟩ := mnK_spec h M k
  apply Nat.le_antisymm
  · rcases b3 with b3 | ⟨i, hi, b3⟩
    · have := b2 0 hk; omega
    · obtain ⟨q1, q2, q3⟩ := h1 i hi
      have := a2 _ q1 q2
      omega
  · rcases a3 with a3 | ⟨j, hj, hn, a3⟩
    · have := b2 0 hk; omega
    · obtain ⟨i, hi, rfl⟩ := h2 j hj hn
      have := b2 i hi
      have := (h1 i hi).2.2
      omega

/-- The places of n that a set leaves. -/
def Plain.frN (n m : Nat) : List Nat := (List.range n).filter fun i => !m.testBit i
def Plain.cntN (n m : Nat) : Nat := (frN n m).length
def Plain.frI (n m i : Nat) : Nat := (frN n m).getD i 0
/-- The input of n bits that has the bits v in m, and those of y in its other places. -/
def Plain.sprN : Nat → Nat → Nat → Nat → Nat
  | 0, _, _, _ => 0
  | n + 1, m, v, y => if m % 2 = 1 then v % 2 + 2 * sprN n (m / 2) (v / 2) y else y % 2 + 2 * sprN n (m / 2) (v / 2) (y / 2)

def Plain.chkS : Bool := (List.range 5).all fun n => (List.range (2 ^ n)).all fun m => (List.range (2 ^ n)).all fun v => !(v &&& m == v) ||
  ((List.range (2 ^ cntN n m)).all fun y => decide (sprN n m v y < 2 ^ n) && (sprN n m v y &&& m == v)) &&
  ((List.range (2 ^ n)).all fun x => !(x &&& m == v) || (List.range (2 ^ cntN n m)).any fun y => sprN n m v y == x) &&
  ((List.range (cntN n m)).all fun i => decide (frI n m i < n) && !m.testBit (frI n m i) && decide (m ||| 2 ^ frI n m i < 2 ^ n) && (cntN n (m ||| 2 ^ frI n m i) + 1 == cntN n m) &&
    ((List.range 2).all fun b => ((v ||| b * 2 ^ frI n m i) &&& (m ||| 2 ^ frI n m i) == v ||| b * 2 ^ frI n m i) &&
      ((List.range (2 ^ (cntN n m - 1))).all fun y => decide (insN y i b < 2 ^ cntN n m) && (sprN n m v (insN y i b) == sprN n (m ||| 2 ^ frI n m i) (v ||| b * 2 ^ frI n m i) y)))) &&
  ((List.range n).all fun j => m.testBit j || (List.range (cntN n m)).any fun i => frI n m i == j)
theorem chkS_yes : chkS = true := by decide +kernel

theorem all_range {n : Nat} {p : Nat → Bool} : (List.range n).all p = true ↔ ∀ i, i < n → p i = true := by simp
theorem any_range {n : Nat} {p : Nat → Bool} : (List.range n).any p = true ↔ ∃ i, i < n ∧ p i = true := by simp

structure Plain.SubOk (n m v : Nat) : Prop where
  low : ∀ y, y < 2 ^ cntN n m → sprN n m v y < 2 ^ n ∧ sprN n m v y &&& m = v
  on : ∀ x, x < 2 ^ n → x &&& m = v → ∃ y, y < 2 ^ cntN n m ∧ sprN n m v y = x
  place : ∀ i, i < cntN n m → frI n m i < n ∧ m.testBit (frI n m i) = false ∧ m ||| 2 ^ frI n m i < 2 ^ n ∧ cntN n (m ||| 2 ^ frI n m i) + 1 = cntN n m
  sub : ∀ i, i < cntN n m → ∀ b, b < 2 → (v ||| b * 2 ^ frI n m i) &&& (m ||| 2 ^ frI n m i) = v ||| b * 2 ^ frI n m i ∧
    ∀ y, y < 2 ^ (cntN n m - 1) → insN y i b < 2 ^ cntN n m ∧ sprN n m v (insN y i b) = sprN n (m ||| 2 ^ frI n m i) (v ||| b * 2 ^ frI n m i) y
  all : ∀ j, j < n → m.testBit j = false → ∃ i, i < cntN n m ∧ frI n m i = j

theorem sub_le {v m n : Nat} (hm : m < 2 ^ n) (hv : v &&& m = v) : v < 2 ^ n := by
  rw [← hv]
  exact Nat.lt_of_le_of_lt Nat.and_le_right hm

theorem sub_ok (n m v : Nat) (hn : n ≤ 4) (hm : m < 2 ^ n) (hv : v &&& m = v) : SubOk n m v := by
  have h := chkS_yes
  unfold Plain.chkS at h
  have h1 := all_range.1 (all_range.1 (all_range.1 h n (by omega)) m hm) v (sub_le hm hv)
  have hvb : (v &&& m == v) = true := by simpa using hv
  rw [hvb] at h1
  simp only [Bool.not_true, Bool.false_or, Bool.and_eq_true] at h1
  obtain ⟨⟨⟨q1, q2⟩, q3⟩, q4⟩ := h1
  refine ⟨?_, ?_, ?_, ?_, ?_⟩
  · intro y hy
    have := all_range.1 q1 y hy
    simpa using this
  · intro x hx hxm
    have := all_range.1 q2 x hx
    have hb : (x &&& m == v) = true := by simpa using hxm
    rw [hb] at this
    simp only [Bool.not_true, Bool.false_or] at this
    obtain ⟨y, hy, he⟩ := any_range.1 this
    exact ⟨y, hy, by simpa using he⟩
  · intro i hi
    have := all_range.1 q3 i hi
    simp only [Bool.and_eq_true, decide_eq_true_eq, Bool.not_eq_true', beq_iff_eq] at this
    exact ⟨this.1.1.1.1, this.1.1.1.2, this.1.1.2, this.1.2⟩
  · intro i hi b hb
    have := all_range.1 q3 i hi
    simp only [Bool.and_eq_true] at this
    have := all_range.1 this.2 b hb
    simp only [Bool.and_eq_true, beq_iff_eq] at this
    refine ⟨this.1, fun y hy => ?_⟩
    have := all_range.1 this.2 y hy
    simpa using this
  · intro j hj hb
    have := all_range.1 q4 j hj
    rw [hb] at this
    simp only [Bool.false_or] at this
    obtain ⟨i, hi, he⟩ := any_range.1 this
    exact ⟨i, hi, by simpa using he⟩

/-- The table that is left on a subcube. -/
def Plain.subW (n a m v : Nat) : Nat := tabN (fun y => bitN a (sprN n m v y)) (2 ^ cntN n m)

theorem subW_rest {n a m v : Nat} (ok : SubOk n m v) {i b : Nat} (hi : i < cntN n m) (hb : b < 2) :
    restW (cntN n m) (subW n a m v) i b = subW n a (m ||| 2 ^ frI n m i) (v ||| b * 2 ^ frI n m i) := by
  have hc := (ok.place i hi).2.2.2
  have hs := (ok.sub i hi b hb).2
  unfold Plain.restW
  show _ = tabN _ (2 ^ cntN n (m ||| 2 ^ frI n m i))
  have e : cntN n (m ||| 2 ^ frI n m i) = cntN n m - 1 := by omega
  rw [e]
  apply tabN_congr
  intro x hx
  obtain ⟨h1, h2⟩ := hs x hx
  unfold Plain.subW
  rw [tabN_bitN (fun y => bitN a (sprN n m v y)) _ _ h1 (bitN_lt _ _), h2]

theorem full_bits {n x : Nat} (hx : x < 2 ^ n) : (fullN n).testBit x = true := by
  unfold Plain.fullN
  rw [Nat.testBit_two_pow_sub_one]
  exact decide_eq_true hx

theorem conT_iff {n a : Nat} (hn : n ≤ 5) (ha : a ≤ fullN n) : conT n a = true ↔ ∀ x, x < 2 ^ n → bitN a x = bitN a 0 := by
  have ht := isT_yes hn ha
  unfold Plain.conT
  rw [ht]
  simp only [Bool.true_and, Bool.or_eq_true, decide_eq_true_eq, Int.toNat_natCast]
  constructor
  · rintro (h | h) x hx
    · have : a = 0 := by omega
      subst this; simp [bitN_test]
    · have : a = fullN n := by omega
      subst this
      rw [bitN_test, bitN_test, full_bits hx, full_bits (Nat.pow_pos (by decide))]
  · intro h
    rcases bitN_cases a 0 with h0 | h0
    · left
      have : a = 0 := by
        apply Nat.eq_of_testBit_eq
        intro i
        rw [Nat.zero_testBit]
        by_cases hi : i < 2 ^ n
        · have := h i hi
          rw [h0, bitN_test] at this
          cases hb : a.testBit i with
          | false => rfl
          | true => rw [hb] at this; cases this
        · exact Nat.testBit_lt_two_pow (Nat.lt_of_lt_of_le (fullN_lt a ha) (Nat.pow_le_pow_right (by decide) (by omega)))
      omega
    · right
      have : a = fullN n := by
        apply Nat.eq_of_testBit_eq
        intro i
        by_cases hi : i < 2 ^ n
        · have := h i hi
          rw [h0, bitN_one] at this
          rw [this, full_bits hi]
        · rw [Nat.testBit_lt_two_pow (Nat.lt_of_lt_of_le (fullN_lt a ha) (Nat.pow_le_pow_right (by decide) (by omega)))]
          exact (Nat.testBit_lt_two_pow (Nat.lt_of_lt_of_le (fullN_lt _ (Nat.le_refl _)) (Nat.pow_le_pow_right (by decide) (by omega)))).symm
      omega

theorem subW_full (n a m v : Nat) : subW n a m v ≤ fullN (cntN n m) := tabN_full _ _
theorem cnt_le (n m : Nat) : cntN n m ≤ n := by
  unfold Plain.cntN Plain.frN
  exact Nat.le_trans (List.length_filter_le _ _) (by simp)

theorem cub_lt2 {n a m v : Nat} : decide (cubV n a m v < 2) = !cubX a m v (2 ^ n) := by
  cases h : cubX a m v (2 ^ n) with
  | true => rw [cubV_mixed h]; rfl
  | false => rw [cubV_same h]; have := bitN_lt a v; exact decide_eq_true (by omega)

theorem subW_con {n a m v : Nat} (hn : n ≤ 4) (ok : SubOk n m v) : conT (cntN n m) (subW n a m v) = decide (cubV n a m v < 2) := by
  rw [cub_lt2]
  have hbit : ∀ y, y < 2 ^ cntN n m → bitN (subW n a m v) y = bitN a (sprN n m v y) := fun y hy => tabN_bitN _ _ _ hy (bitN_lt _ _)
  have h0 : 0 < 2 ^ cntN n m := Nat.pow_pos (by decide)
  have key : conT (cntN n m) (subW n a m v) = true ↔ cubX a m v (2 ^ n) = false := by
    rw [conT_iff (Nat.le_trans (cnt_le n m) (by omega)) (subW_full n a m v)]
    constructor
    · intro h
      cases hx : cubX a m v (2 ^ n) with
      | false => rfl
      | true =>
        exfalso
        obtain ⟨x, hx1, hx2, hx3⟩ := (cubX_iff a m v (2 ^ n)).1 hx
        obtain ⟨y, hy, rfl⟩ := ok.on x hx1 hx2
        have hvm : v &&& m = v := by rw [← hx2, Nat.and_assoc, Nat.and_self]
        have hv : v < 2 ^ n := by
          rw [← hx2]
          exact Nat.lt_of_le_of_lt Nat.and_le_left hx1
        obtain ⟨z, hz, hz2⟩ := ok.on v hv hvm
        apply hx3
        have e1 := h y hy
        have e2 := h z hz
        rw [hbit _ hy, hbit _ h0] at e1
        rw [hbit _ hz, hbit _ h0] at e2
        rw [e1, ← e2, hz2]
    · intro h y hy
      rw [hbit y hy, hbit 0 h0]
      have hh : ∀ x, x < 2 ^ n → x &&& m = v → bitN a x = bitN a v := by
        intro x h1 h2
        by_cases he : bitN a x = bitN a v
        · exact he
        · exfalso
          have := (cubX_iff a m v (2 ^ n)).2 ⟨x, h1, h2, he⟩
          rw [h] at this; cases this
      obtain ⟨l1, l2⟩ := ok.low y hy
      obtain ⟨k1, k2⟩ := ok.low 0 h0
      rw [hh _ l1 l2, hh _ k1 k2]
  cases hc : conT (cntN n m) (subW n a m v) with
  | true => rw [key.1 hc]; rfl
  | false =>
    cases hx : cubX a m v (2 ^ n) with
    | true => rfl
    | false => rw [key.2 hx] at hc; cases hc

def Plain.maxI : Nat := 9223372036854775807

/-- The least cost, by tables. -/
def Plain.cst (J : Nat → Nat → Nat → Nat) : Nat → Nat → Nat
  | 0, _ => 0
  | n + 1, a => if conT (n + 1 : Nat) a = true then 0 else mnK (fun i => J (n + 1) (cst J n (restW (n + 1) a i 0)) (cst J n (restW (n + 1) a i 1))) maxI (n + 1)
/-- The least cost, by subcubes with k free places. -/
def Plain.mdl (J : Nat → Nat → Nat → Nat) (I n a : Nat) : Nat → Nat → Nat → Nat
  | 0, _, _ => 0
  | k + 1, m, v => if cubV n a m v < 2 then 0 else mnF m (fun i => J (k + 1) (mdl J I n a k (m ||| 2 ^ i) v) (mdl J I n a k (m ||| 2 ^ i) (v ||| 2 ^ i))) I n

theorem cst_con {J : Nat → Nat → Nat → Nat} {n a : Nat} (h : conT n a = true) : cst J n a = 0 := by
  cases n with
  | zero => rfl
  | succ n => show (if _ then _ else _) = _; rw [if_pos h]
theorem cst_step {J : Nat → Nat → Nat → Nat} {n a : Nat} (h : conT (n + 1 : Nat) a = false) : cst J (n + 1) a = mnK (fun i => J (n + 1) (cst J n (restW (n + 1) a i 0)) (cst J n (restW (n + 1) a i 1))) maxI (n + 1) := by
  show (if _ then _ else _) = _; rw [if_neg (by rw [h]; decide)]
theorem mdl_con {J : Nat → Nat → Nat → Nat} {I n a k m v : Nat} (h : cubV n a m v < 2) : mdl J I n a k m v = 0 := by
  cases k with
  | zero => rfl
  | succ k => show (if _ then _ else _) = _; rw [if_pos h]
theorem mdl_step {J : Nat → Nat → Nat → Nat} {I n a k m v : Nat} (h : ¬ cubV n a m v < 2) : mdl J I n a (k + 1) m v = mnF m (fun i => J (k + 1) (mdl J I n a k (m ||| 2 ^ i) v) (mdl J I n a k (m ||| 2 ^ i) (v ||| 2 ^ i))) I n := by
  show (if _ then _ else _) = _; rw [if_neg h]

/-- A cost with a bound. -/
def Plain.JB (J : Nat → Nat → Nat → Nat) (B : Nat → Nat) : Prop := ∀ n z o, z ≤ B n → o ≤ B n → J (n + 1) z o ≤ B (n + 1)

theorem cst_le {J : Nat → Nat → Nat → Nat} {B : Nat → Nat} (hJ : JB J B) (n : Nat) : ∀ a, cst J n a ≤ B n := by
  induction n with
  | zero => intro a; exact Nat.zero_le _
  | succ n ih =>
    intro a
    cases h : conT (n + 1 : Nat) a with
    | true => rw [cst_con h]; exact Nat.zero_le _
    | false =>
      rw [cst_step h]
      exact Nat.le_trans ((mnK_spec _ maxI (n + 1)).2.1 0 (by omega)) (hJ n _ _ (ih _) (ih _))

theorem mdl_cst {J : Nat → Nat → Nat → Nat} {B : Nat → Nat} (hJ : JB J B) {I n a : Nat} (hn : n ≤ 4) (hI : ∀ k, k ≤ 4 → B k ≤ I) (hM : I ≤ maxI) (k : Nat) :
    ∀ m v, m < 2 ^ n → v &&& m = v → cntN n m = k → mdl J I n a k m v = cst J k (subW n a m v) := by
  induction k with
  | zero => intro m v _ _ _; rfl
  | succ k ih =>
    intro m v hm hv hc
    have ok := sub_ok n m v hn hm hv
    have hcon := subW_con (a := a) hn ok
    rw [hc] at hcon
    by_cases h : cubV n a m v < 2
    · rw [mdl_con h, cst_con (by rw [hcon]; exact decide_eq_true h)]
    · rw [mdl_step h, cst_step (by rw [hcon]; exact decide_eq_false h)]
      have hk4 : k + 1 ≤ 4 := by have := cnt_le n m; omega
      refine mnF_mnK (frI n m) ?_ ?_ (by omega) ?_ hM
      · intro i hi
        rw [← hc] at hi
        obtain ⟨p1, p2, p3, p4⟩ := ok.place i hi
        have hr0 := subW_rest (a := a) ok hi (b := 0) (by decide)
        have hr1 := subW_rest (a := a) ok hi (b := 1) (by decide)
        have s0 := (ok.sub i hi 0 (by decide)).1
        have s1 := (ok.sub i hi 1 (by decide)).1
        rw [Nat.zero_mul, Nat.or_zero] at hr0 s0
        rw [Nat.one_mul] at hr1 s1
        rw [hc] at hr0 hr1
        refine ⟨p1, p2, ?_⟩
        rw [ih _ _ p3 s0 (by omega), ih _ _ p3 s1 (by omega), hr0, hr1]
      · intro j hj hb
        obtain ⟨i, hi, he⟩ := ok.all j hj hb
        exact ⟨i, by omega, he⟩
      · exact Nat.le_trans (hJ k _ _ (cst_le hJ k _) (cst_le hJ k _)) (hI _ hk4)

theorem spr_zero : ∀ n, n < 5 → cntN n 0 = n ∧ ∀ y, y < 2 ^ n → sprN n 0 0 y = y := by decide +kernel
theorem subW_zero {n a : Nat} (hn : n ≤ 4) (ha : a ≤ fullN n) : subW n a 0 0 = a := by
  obtain ⟨h1, h2⟩ := spr_zero n (by omega)
  unfold Plain.subW
  rw [h1, tabN_congr (v := bitN a) (fun y hy => by rw [h2 y hy]), tabN_self _ _ (fullN_lt a ha)]

/-- The whole. -/
theorem mdl_whole {J : Nat → Nat → Nat → Nat} {B : Nat → Nat} (hJ : JB J B) {I n a : Nat} (hn : n ≤ 4) (ha : a ≤ fullN n) (hI : ∀ k, k ≤ 4 → B k ≤ I) (hM : I ≤ maxI) :
    mdl J I n a n 0 0 = cst J n a := by
  rw [mdl_cst hJ hn hI hM n 0 0 (Nat.pow_pos (by decide)) (by simp) (spr_zero n (by omega)).1, subW_zero hn ha]

/-- The costs of the two questions: the depth, the sum. -/
def Plain.JD : Nat → Nat → Nat → Nat := fun _ z o => 1 + max z o
def Plain.JA : Nat → Nat → Nat → Nat := fun k z o => 2 ^ k + z + o
theorem JD_ok : JB JD (fun n => n) := by
  intro n z o hz ho
  have h1 : z ≤ n := hz
  have h2 : o ≤ n := ho
  show 1 + max z o ≤ n + 1
  omega
theorem JA_ok : JB JA (fun n => n * 2 ^ n) := by
  intro n z o hz ho
  unfold Plain.JA
  dsimp only at *
  rw [Nat.add_mul, Nat.one_mul, Nat.pow_succ]
  have : n * (2 ^ n * 2) = n * 2 ^ n * 2 := by rw [Nat.mul_assoc]
  omega
theorem JD_I : ∀ k, k ≤ 4 → k ≤ 10 := by omega
theorem JA_I : ∀ k, k ≤ 4 → k * 2 ^ k ≤ 1000 := by
  intro k hk
  have : k = 0 ∨ k = 1 ∨ k = 2 ∨ k = 3 ∨ k = 4 := by omega
  rcases this with rfl | rfl | rfl | rfl | rfl <;> decide

end Go.Proofs.YtdhdkonokbkdoaaGreatDoor
