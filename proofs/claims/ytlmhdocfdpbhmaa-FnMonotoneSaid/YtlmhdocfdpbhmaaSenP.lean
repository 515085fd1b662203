/-
  Chapter 10, lists and words only: sensitive blocks, the least of them, and how many of them have no common variables.
-/
import Derived.Test.YtlmhdocfdpbhmaaCerP
namespace Go.Proofs.Ytlmhdocfdpbhmaa
open Go.RowKit Plain
set_option linter.unusedVariables false

/-- Does the change of the block b change the value at x? -/
def Plain.senB (a x b : Nat) : Bool := bitN a x != bitN a (x ^^^ b)
theorem senB_zero (a x : Nat) : senB a x 0 = false := by unfold Plain.senB; rw [Nat.xor_zero]; simp

/-- How many of the first k variables change the value at x. -/
def Plain.senN (a x : Nat) : Nat → Nat
  | 0 => 0
  | k + 1 => if senB a x (2 ^ k) = true then senN a x k + 1 else senN a x k
theorem senN_yes {a x k : Nat} (h : senB a x (2 ^ k) = true) : senN a x (k + 1) = senN a x k + 1 := if_pos h
theorem senN_no {a x k : Nat} (h : senB a x (2 ^ k) = false) : senN a x (k + 1) = senN a x k := if_neg (by rw [h]; decide)
theorem senN_le (a x k : Nat) : senN a x k ≤ k := by
  induction k with
  | zero => exact Nat.le_refl _
  | succ k ih =>
    cases h : senB a x (2 ^ k) with
    | true => rw [senN_yes h]; omega
    | false => rw [senN_no h]; omega

/-- The sensitive blocks below k, no part of which is one. -/
def Plain.blkL (a x : Nat) : Nat → List Nat
  | 0 => []
  | k + 1 => if senB a x k = true ∧ ∀ p ∈ blkL a x k, p &&& k ≠ p then blkL a x k ++ [k] else blkL a x k
theorem blkL_yes {a x k : Nat} (h : senB a x k = true) (hp : ∀ p ∈ blkL a x k, p &&& k ≠ p) : blkL a x (k + 1) = blkL a x k ++ [k] := if_pos ⟨h, hp⟩
theorem blkL_no1 {a x k : Nat} (h : senB a x k = false) : blkL a x (k + 1) = blkL a x k := if_neg fun q => by rw [h] at q; exact absurd q.1 (by decide)
theorem blkL_no2 {a x k p : Nat} (h : p ∈ blkL a x k) (hp : p &&& k = p) : blkL a x (k + 1) = blkL a x k := if_neg fun q => q.2 p h hp
theorem blkL_one (a x : Nat) : blkL a x 1 = [] := blkL_no1 (senB_zero a x)
theorem blkL_len (a x k : Nat) : (blkL a x k).length ≤ k := by
  induction k with
  | zero => exact Nat.le_refl _
  | succ k ih =>
    show (if _ then _ else _ : List Nat).length ≤ _
    split
    · simp; omega
    · omega
theorem blkL_step (a x k : Nat) : blkL a x (k + 1) = blkL a x k ++ [k] ∨ blkL a x (k + 1) = blkL a x k := by
  show (if _ then _ else _ : List Nat) = _ ∨ (if _ then _ else _ : List Nat) = _
  split
  · exact .inl rfl
  · exact .inr rfl
theorem blkL_mem {a x : Nat} : ∀ k, ∀ b ∈ blkL a x k, b < k ∧ senB a x b = true := by
  intro k
  induction k with
  | zero => intro b hb; exact absurd hb (by simp [Plain.blkL])
  | succ k ih =>
    intro b hb
    replace hb : b ∈ (if senB a x k = true ∧ ∀ p ∈ blkL a x k, p &&& k ≠ p then blkL a x k ++ [k] else blkL a x k) := hb
    split at hb
    · rename_i hc
      rcases List.mem_append.1 hb with h | h
      · have := ih b h; exact ⟨by omega, this.2⟩
      · obtain rfl : b = k := by simpa using h
        exact ⟨by omega, hc.1⟩
    · have := ih b hb; exact ⟨by omega, this.2⟩

/-- A list of numbers as ints. -/
def Plain.natI (l : List Nat) : List Int := l.map fun m : Nat => (m : Int)
theorem natI_len (l : List Nat) : (natI l).length = l.length := List.length_map _
theorem natI_snoc (l : List Nat) (k : Nat) : natI (l ++ [k]) = natI l ++ [(k : Int)] := by simp [Plain.natI]
theorem natI_at {l : List Nat} {i : Nat} (h : i < l.length) : (natI l).getD i 0 = ((l.getD i 0 : Nat) : Int) := by
  simp [Plain.natI, List.getD_eq_getElem?_getD, h]
theorem natI_drop (l : List Nat) (i : Nat) : natI (l.drop i) = (natI l).drop i := by simp [Plain.natI]
theorem natI_mem {l : List Nat} {m : Nat} (h : ∀ b ∈ l, b < m) : ∀ y ∈ natI l, 0 ≤ y ∧ y < (m : Int) := by
  intro y hy
  obtain ⟨b, hb, rfl⟩ := List.mem_map.1 hy
  have := h b hb
  omega
theorem getD_memN {l : List Nat} {j : Nat} (h : j < l.length) : l.getD j 0 ∈ l := by
  rw [List.getD_eq_getElem?_getD, List.getElem?_eq_getElem h]; exact List.getElem_mem h
theorem drop_getD {l : List Nat} {i : Nat} (h : i < l.length) : l.drop i = l.getD i 0 :: l.drop (i + 1) := by
  rw [List.drop_eq_getElem_cons h, List.getD_eq_getElem?_getD, List.getElem?_eq_getElem h]; rfl

/-- Does one of the first i elements lie in k? -/
theorem part_next {l : List Nat} {k i : Nat} (h : i < l.length) (hp : ∀ p ∈ l.take i, p &&& k ≠ p) (hi : l.getD i 0 &&& k ≠ l.getD i 0) : ∀ p ∈ l.take (i + 1), p &&& k ≠ p := by
  have e : l.take (i + 1) = l.take i ++ [l.getD i 0] := by
    rw [List.take_add_one, List.getD_eq_getElem?_getD, List.getElem?_eq_getElem h]; rfl
  rw [e]
  intro p hm
  rcases List.mem_append.1 hm with q | q
  · exact hp p q
  · obtain rfl : p = l.getD i 0 := by simpa using q
    exact hi

/-- The greatest number of blocks of the list without common variables, none of which has one of u. -/
def Plain.pck : List Nat → Nat → Nat
  | [], _ => 0
  | b :: t, u => max (if b &&& u = 0 then 1 + pck t (u ||| b) else 0) (pck t u)
theorem pck_le : ∀ (l : List Nat) (u : Nat), pck l u ≤ l.length
  | [], _ => Nat.le_refl _
  | b :: t, u => by
    have h1 := pck_le t (u ||| b)
    have h2 := pck_le t u
    show max (if b &&& u = 0 then 1 + pck t (u ||| b) else 0) (pck t u) ≤ t.length + 1
    refine Nat.max_le.2 ⟨?_, by omega⟩
    split <;> omega
theorem pck_yes {l : List Nat} {i u q r : Nat} (h : i < l.length) (hu : l.getD i 0 &&& u = 0) (hq : max q (pck (l.drop i) u) = r) :
    max (max q (1 + pck (l.drop (i + 1)) (u ||| l.getD i 0))) (pck (l.drop (i + 1)) u) = r := by
  rw [drop_getD h] at hq
  replace hq : max q (max (if l.getD i 0 &&& u = 0 then 1 + pck (l.drop (i + 1)) (u ||| l.getD i 0) else 0) (pck (l.drop (i + 1)) u)) = r := hq
  rw [if_pos hu] at hq
  rw [← hq]; omega
theorem pck_no {l : List Nat} {i u q r : Nat} (h : i < l.length) (hu : ¬ l.getD i 0 &&& u = 0) (hq : max q (pck (l.drop i) u) = r) :
    max q (pck (l.drop (i + 1)) u) = r := by
  rw [drop_getD h] at hq
  replace hq : max q (max (if l.getD i 0 &&& u = 0 then 1 + pck (l.drop (i + 1)) (u ||| l.getD i 0) else 0) (pck (l.drop (i + 1)) u)) = r := hq
  rw [if_neg hu] at hq
  rw [← hq]; omega
theorem pck_end {l : List Nat} {u q r : Nat} (hq : max q (pck (l.drop l.length) u) = r) : q = r := by
  rw [List.drop_length] at hq
  rw [← hq]
  show q = max q 0
  omega
theorem pck_start (l : List Nat) (i u : Nat) : max 0 (pck (l.drop i) u) = pck (l.drop i) u := by omega

/-- Block sensitivity at x. -/
def Plain.bsN (n a x : Nat) : Nat := pck (blkL a x (2 ^ n)) 0
theorem bsN_le (n a x : Nat) : bsN n a x ≤ 2 ^ n := Nat.le_trans (pck_le _ _) (blkL_len a x (2 ^ n))

/-- The greatest of a measure of the first k inputs. -/
def Plain.maxN (m : Nat → Nat) : Nat → Nat
  | 0 => 0
  | k + 1 => max (maxN m k) (m k)
theorem maxN_le {m : Nat → Nat} {c : Nat} (h : ∀ x, m x ≤ c) : ∀ k, maxN m k ≤ c
  | 0 => Nat.zero_le _
  | k + 1 => Nat.max_le.2 ⟨maxN_le h k, h k⟩
/-- The sum of the sensitivities of the first k inputs. -/
def Plain.sumS (n a : Nat) : Nat → Nat
  | 0 => 0
  | k + 1 => sumS n a k + senN a k n
theorem sumS_le (n a k : Nat) : sumS n a k ≤ n * k := by
  induction k with
  | zero => exact Nat.zero_le _
  | succ k ih =>
    have := senN_le a k n
    show sumS n a k + senN a k n ≤ n * (k + 1)
    rw [Nat.mul_succ]; omega

end Go.Proofs.Ytlmhdocfdpbhmaa
