/-
  Plain mathematics of chapter 11: the texts of sums of products.
-/
import Derived.Test.YtphjaggiddjhgaaDoorDegP
import Derived.Test.YtphjaggiddjhgaaDoorPlainW
import Derived.Lib.Join
namespace Go.Proofs.YtphjaggiddjhgaaDoor
open Plain Go.RowKit
set_option linter.unusedVariables false

/-- The text of a product: the term with the set m, no letter negated. -/
def Plain.prT (n m : Nat) : List UInt8 := tmTxt n m m
/-- The texts of the products of the first k sets. -/
def Plain.prL (p : Nat → Bool) (n : Nat) : Nat → List (List UInt8)
  | 0 => []
  | k + 1 => if p k = true then prL p n k ++ [prT n k] else prL p n k
theorem prL_yes {p : Nat → Bool} {n k : Nat} (h : p k = true) : prL p n (k + 1) = prL p n k ++ [prT n k] := if_pos h
theorem prL_no {p : Nat → Bool} {n k : Nat} (h : p k = false) : prL p n (k + 1) = prL p n k := if_neg (by rw [h]; decide)
theorem prL_len (p : Nat → Bool) (n k : Nat) : (prL p n k).length ≤ k := by
  induction k with
  | zero => exact Nat.le_refl _
  | succ k ih =>
    cases h : p k with
    | false => rw [prL_no h]; omega
    | true => rw [prL_yes h, List.length_append]; simp; omega
theorem prL_mem {p : Nat → Bool} {n k : Nat} : ∀ t ∈ prL p n k, ∃ m, m < k ∧ t = prT n m := by
  induction k with
  | zero => intro t ht; exact absurd ht (by simp [prL])
  | succ k ih =>
    intro t ht
    cases h : p k with
    | false => rw [prL_no h] at ht; obtain ⟨m, h1, h2⟩ := ih t ht; exact ⟨m, by omega, h2⟩
    | true =>
      rw [prL_yes h] at ht
      rcases List.mem_append.1 ht with h1 | h1
      · obtain ⟨m, h1, h2⟩ := ih t h1; exact ⟨m, by omega, h2⟩
      · exact ⟨k, by omega, by simpa using h1⟩
theorem prL_congr {p q : Nat → Bool} {n k : Nat} (h : ∀ x, x < k → p x = q x) : prL p n k = prL q n k := by
  induction k with
  | zero => rfl
  | succ k ih =>
    have e := ih fun x hx => h x (by omega)
    have ek := h k (by omega)
    cases hq : q k with
    | false => rw [prL_no hq, prL_no (by rw [ek, hq]), e]
    | true => rw [prL_yes hq, prL_yes (by rw [ek, hq]), e]

theorem join_snoc (l : List (List UInt8)) (x : List UInt8) (hl : l ≠ []) : Lib.join (l ++ [x]) [43] = Lib.join l [43] ++ [43] ++ x := by
  obtain ⟨a, r, rfl⟩ : ∃ a r, l = a :: r := by cases l with | nil => exact absurd rfl hl | cons a r => exact ⟨a, r, rfl⟩
  rw [List.cons_append, Lib.join_cons, Lib.join_cons]
  simp [Lib.joinTail]
theorem join_nil_iff (l : List (List UInt8)) (h : ∀ t ∈ l, t ≠ []) : Lib.join l [43] = [] ↔ l = [] := by
  constructor
  · intro e
    cases l with
    | nil => rfl
    | cons a r =>
      rw [Lib.join_cons, List.append_eq_nil_iff] at e
      exact absurd e.1 (h a List.mem_cons_self)
  · rintro rfl; rfl
/-- The text of the sum of these products. -/
def Plain.smT (l : List (List UInt8)) : List UInt8 := if l = [] then [48] else Lib.join l [43]
/-- FormatAnf of a table. -/
def Plain.fmA (n a : Nat) : List UInt8 := smT (prL (anP a) n (2 ^ n))
def Plain.fmT (n a : Int) : List UInt8 := if isT n a = true then fmA n.toNat a.toNat else []
theorem fmT_yes {n a : Nat} (h : isT n a = true) : fmT n a = fmA n a := if_pos h
theorem fmT_no {n a : Int} (h : isT n a = false) : fmT n a = [] := if_neg (by rw [h]; decide)

/-! Sizes. -/
def Plain.okP (n m : Nat) : Bool := !(decide (m < 2 ^ n)) || (decide (prT n m ≠ []) && (prT n m).all (fun c => c != 43) && decide ((prT n m).length ≤ 5) && decide (prT n m ≠ [48]))
theorem okP_all : ∀ n < 6, ∀ m < 32, okP n m = true := by decide +kernel
theorem prT_ok {n m : Nat} (hn : n ≤ 5) (hm : m < 2 ^ n) : prT n m ≠ [] ∧ (∀ c ∈ prT n m, c ≠ 43) ∧ (prT n m).length ≤ 5 ∧ prT n m ≠ [48] := by
  have h := okP_all n (by omega) m (by have := two_pow_le n hn; omega)
  unfold okP at h
  rw [decide_eq_true hm] at h
  simp only [Bool.not_true, Bool.false_or, Bool.and_eq_true, decide_eq_true_eq, List.all_eq_true, bne_iff_ne] at h
  exact ⟨h.1.1.1, h.1.1.2, h.1.2, h.2⟩
def Plain.wid (n : Nat) : Nat → Nat
  | 0 => 0
  | k + 1 => wid n k + ((prT n k).length + 1)
theorem wid_all : ∀ n < 6, wid n (2 ^ n) ≤ 113 := by decide +kernel
theorem joinTail_snoc (r : List (List UInt8)) (x : List UInt8) : (Lib.joinTail [43] (r ++ [x])).length = (Lib.joinTail [43] r).length + (x.length + 1) := by
  simp [Lib.joinTail]
theorem join_wid (p : Nat → Bool) (n k : Nat) : (Lib.joinTail [43] (prL p n k)).length ≤ wid n k := by
  induction k with
  | zero => exact Nat.le_refl _
  | succ k ih =>
    show _ ≤ wid n k + ((prT n k).length + 1)
    cases h : p k with
    | false => rw [prL_no h]; omega
    | true => rw [prL_yes h, joinTail_snoc]; omega
theorem join_le (l : List (List UInt8)) : (Lib.join l [43]).length ≤ (Lib.joinTail [43] l).length := by
  cases l with
  | nil => exact Nat.le_refl _
  | cons a r => rw [Lib.join_cons]; simp [Lib.joinTail]
theorem fmA_len {n a : Nat} (hn : n ≤ 5) : (fmA n a).length ≤ 113 := by
  unfold fmA smT
  split
  · decide
  · have h1 := join_le (prL (anP a) n (2 ^ n))
    have h2 := join_wid (anP a) n (2 ^ n)
    have h3 := wid_all n (by omega)
    omega
theorem prL_ne {p : Nat → Bool} {n k : Nat} (hn : n ≤ 5) (hk : k ≤ 2 ^ n) : ∀ t ∈ prL p n k, t ≠ [] := by
  intro t ht
  obtain ⟨m, hm, rfl⟩ := prL_mem t ht
  exact (prT_ok hn (by omega)).1

/-- The text while the model writes it. -/
def Plain.jnL (p : Nat → Bool) (n k : Nat) : List UInt8 := Lib.join (prL p n k) [43]
theorem jnL_no {p : Nat → Bool} {n k : Nat} (h : p k = false) : jnL p n (k + 1) = jnL p n k := by unfold jnL; rw [prL_no h]
theorem jnL_first {p : Nat → Bool} {n k : Nat} (hn : n ≤ 5) (hk : k < 2 ^ n) (h : p k = true) (he : jnL p n k = []) : jnL p n (k + 1) = prT n k := by
  have := (join_nil_iff _ (prL_ne hn (by omega))).1 he
  unfold jnL
  rw [prL_yes h, this, List.nil_append, Lib.join_one]
theorem jnL_next {p : Nat → Bool} {n k : Nat} (h : p k = true) (he : jnL p n k ≠ []) : jnL p n (k + 1) = jnL p n k ++ [43] ++ prT n k := by
  have : prL p n k ≠ [] := fun e => he (by unfold jnL; rw [e]; rfl)
  unfold jnL
  rw [prL_yes h, join_snoc _ _ this]
theorem jnL_len {p : Nat → Bool} {n k : Nat} (hn : n ≤ 5) (hk : k ≤ 2 ^ n) : (jnL p n k).length ≤ 192 := by
  have h1 := join_le (prL p n k)
  have h2 : (Lib.joinTail [43] (prL p n k)).length ≤ 6 * k := by
    clear h1
    induction k with
    | zero => exact Nat.le_refl _
    | succ k ih =>
      have h5 := (prT_ok hn (show k < 2 ^ n by omega)).2.2.1
      have := ih (by omega)
      cases h : p k with
      | false => rw [prL_no h]; omega
      | true => rw [prL_yes h, joinTail_snoc]; omega
  have h3 := two_pow_le n hn
  unfold jnL
  omega
theorem fmA_jn {n a : Nat} (hn : n ≤ 5) : fmA n a = if jnL (anP a) n (2 ^ n) = [] then [48] else jnL (anP a) n (2 ^ n) := by
  unfold fmA smT jnL
  have := join_nil_iff (prL (anP a) n (2 ^ n)) (prL_ne hn (Nat.le_refl _))
  by_cases h : prL (anP a) n (2 ^ n) = []
  · rw [if_pos h, if_pos (this.2 h)]
  · rw [if_neg h, if_neg fun e => h (this.1 e)]

end Go.Proofs.YtphjaggiddjhgaaDoor
