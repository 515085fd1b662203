/-
  Chapters 9 and 10, lists and words only: sensitivity is at most block sensitivity, which is at most the size of the least certificate; blocks meet certificates.
-/
import Derived.Test.YtbgjiblfnljigaaSenP
import Derived.Test.YtbgjiblfnljigaaCerQ
import Derived.Test.YtbgjiblfnljigaaCerN
namespace Go.Proofs.Ytbgjiblfnljigaa
open Go.RowKit Plain
set_option linter.unusedVariables false

theorem half_or (p q : Nat) : (p ||| q) / 2 = p / 2 ||| q / 2 := by
  apply Nat.eq_of_testBit_eq
  intro i
  simp [Nat.testBit_div_two]

theorem half_and (p q : Nat) : (p &&& q) / 2 = p / 2 &&& q / 2 := by
  apply Nat.eq_of_testBit_eq
  intro i
  simp [Nat.testBit_div_two]

theorem low_or (p q : Nat) (h : p &&& q = 0) : (p ||| q) % 2 = p % 2 + q % 2 := by
  have h1 := Nat.testBit_or p q 0
  have h2 := Nat.testBit_and p q 0
  rw [h] at h2
  simp only [Nat.testBit_zero] at h1 h2
  have a1 : (p ||| q) % 2 < 2 := Nat.mod_lt _ (by decide)
  have a2 : p % 2 < 2 := Nat.mod_lt _ (by decide)
  have a3 : q % 2 < 2 := Nat.mod_lt _ (by decide)
  generalize (p ||| q) % 2 = z at *
  generalize p % 2 = c at *
  generalize q % 2 = d at *
  have hz : z = 0 ∨ z = 1 := by omega
  have hc : c = 0 ∨ c = 1 := by omega
  have hd : d = 0 ∨ d = 1 := by omega
  rcases hz with rfl | rfl <;> rcases hc with rfl | rfl <;> rcases hd with rfl | rfl <;> first | rfl | (exact absurd h1 (by decide)) | (exact absurd h2 (by decide))

theorem low_and (p q : Nat) : (p &&& q) % 2 ≤ p % 2 := by
  have h2 := Nat.testBit_and p q 0
  simp only [Nat.testBit_zero] at h2
  have a1 : (p &&& q) % 2 < 2 := Nat.mod_lt _ (by decide)
  have a2 : p % 2 < 2 := Nat.mod_lt _ (by decide)
  generalize (p &&& q) % 2 = z at *
  generalize p % 2 = c at *
  have hz : z = 0 ∨ z = 1 := by omega
  have hc : c = 0 ∨ c = 1 := by omega
  rcases hz with rfl | rfl <;> rcases hc with rfl | rfl <;> first | omega | (exact absurd h2 (by simp))

theorem pop_or (k : Nat) : ∀ p q, p < 2 ^ k → q < 2 ^ k → p &&& q = 0 → popN (p ||| q) = popN p + popN q := by
  induction k with
  | zero =>
    intro p q hp hq _
    obtain rfl : p = 0 := by simpa using hp
    obtain rfl : q = 0 := by simpa using hq
    simp [popN_zero]
  | succ k ih =>
    intro p q hp hq h
    rw [Nat.pow_succ] at hp hq
    have h2 : p / 2 &&& q / 2 = 0 := by rw [← half_and, h]
    rw [popN_half (p ||| q), popN_half p, popN_half q, half_or, low_or p q h, ih _ _ (by omega) (by omega) h2]
    omega

theorem pop_and (k : Nat) : ∀ p q, p < 2 ^ k → popN (p &&& q) ≤ popN p := by
  induction k with
  | zero =>
    intro p q hp
    obtain rfl : p = 0 := by simpa using hp
    simp
  | succ k ih =>
    intro p q hp
    rw [Nat.pow_succ] at hp
    have h1 := ih (p / 2) (q / 2) (by omega)
    have h2 := low_and p q
    rw [popN_half (p &&& q), popN_half p, half_and]
    omega

theorem pop_one (k : Nat) : ∀ q, q < 2 ^ k → q ≠ 0 → 1 ≤ popN q := by
  induction k with
  | zero => intro q hq h; exact absurd (by simpa using hq) h
  | succ k ih =>
    intro q hq h
    rw [Nat.pow_succ] at hq
    rw [popN_half]
    by_cases h0 : q / 2 = 0
    · omega
    · have := ih (q / 2) (by omega) h0
      omega

/-- Blocks without common variables each take a variable of a set that all of them meet. -/
theorem pck_meet (n c : Nat) (hc : c < 2 ^ n) : ∀ (l : List Nat) (u : Nat), (∀ b ∈ l, b &&& c ≠ 0) → pck l u + popN (c &&& u) ≤ popN c
  | [], u, _ => by
    show 0 + popN (c &&& u) ≤ popN c
    have := pop_and n c u hc
    omega
  | b :: t, u, h => by
    have h0 := pck_meet n c hc t u fun p hp => h p (List.mem_cons_of_mem _ hp)
    have hb := h b List.mem_cons_self
    show max (if b &&& u = 0 then 1 + pck t (u ||| b) else 0) (pck t u) + popN (c &&& u) ≤ popN c
    by_cases hz : b &&& u = 0
    · rw [if_pos hz]
      have h1 := pck_meet n c hc t (u ||| b) fun p hp => h p (List.mem_cons_of_mem _ hp)
      rw [Nat.and_or_distrib_left] at h1
      have hd : (c &&& u) &&& (c &&& b) = 0 := by
        apply Nat.eq_of_testBit_eq
        intro i
        have hi := congrArg (fun z => z.testBit i) hz
        simp only [Nat.testBit_and, Nat.zero_testBit] at hi ⊢
        revert hi
        cases c.testBit i <;> cases u.testBit i <;> cases b.testBit i <;> decide
      rw [pop_or n _ _ (Nat.lt_of_le_of_lt Nat.and_le_left hc) (Nat.lt_of_le_of_lt Nat.and_le_left hc) hd] at h1
      have h2 := pop_one n (c &&& b) (Nat.lt_of_le_of_lt Nat.and_le_left hc) (by rw [Nat.and_comm]; exact hb)
      omega
    · rw [if_neg hz]
      omega

/-- A sensitive block meets the least certificate. -/
theorem blk_meets {n a x b : Nat} (hx : x < 2 ^ n) (hb : b < 2 ^ n) (hs : senB a x b = true) : b &&& setN n a x ≠ 0 := by
  intro h
  have hz : x ^^^ b < 2 ^ n := Nat.xor_lt_two_pow hx hb
  have he : (x ^^^ b) &&& setN n a x = x &&& setN n a x := by
    apply Nat.eq_of_testBit_eq
    intro i
    have hi := congrArg (fun z => z.testBit i) h
    simp only [Nat.testBit_and, Nat.testBit_xor, Nat.zero_testBit] at hi ⊢
    revert hi
    cases x.testBit i <;> cases b.testBit i <;> cases (setN n a x).testBit i <;> decide
  have h1 := cert_all (setN_cert hx) hx hz he
  have h2 : (bitN a x != bitN a (x ^^^ b)) = true := hs
  rw [bne_iff_ne] at h2
  exact h2 h1.symm

theorem blkL_meets {n a x : Nat} (hx : x < 2 ^ n) : ∀ b ∈ blkL a x (2 ^ n), b &&& setN n a x ≠ 0 := fun b hb => by
  obtain ⟨h1, h2⟩ := blkL_mem _ b hb
  exact blk_meets hx h1 h2

/-- Block sensitivity is at most the size of the least certificate. -/
theorem bs_le_cert {n a x : Nat} (hx : x < 2 ^ n) : bsN n a x ≤ popN (setN n a x) := by
  have h := pck_meet n (setN n a x) (setN_lt n a x) (blkL a x (2 ^ n)) 0 (blkL_meets hx)
  show pck _ 0 ≤ _
  omega

/-- The sensitive variables below k, as blocks. -/
def Plain.sng (a x : Nat) : Nat → List Nat
  | 0 => []
  | k + 1 => if senB a x (2 ^ k) = true then sng a x k ++ [2 ^ k] else sng a x k
theorem sng_yes {a x k : Nat} (h : senB a x (2 ^ k) = true) : sng a x (k + 1) = sng a x k ++ [2 ^ k] := if_pos h
theorem sng_no {a x k : Nat} (h : senB a x (2 ^ k) = false) : sng a x (k + 1) = sng a x k := if_neg (by rw [h]; decide)
theorem sng_len (a x k : Nat) : (sng a x k).length = senN a x k := by
  induction k with
  | zero => rfl
  | succ k ih =>
    cases h : senB a x (2 ^ k) with
    | true => rw [sng_yes h, senN_yes h, List.length_append, ih]; rfl
    | false => rw [sng_no h, senN_no h, ih]
theorem blkL_grow (a x k : Nat) : ∀ j, (blkL a x k).Sublist (blkL a x (k + j))
  | 0 => List.Sublist.refl _
  | j + 1 => by
    have h := blkL_grow a x k j
    rw [← Nat.add_assoc]
    rcases blkL_step a x (k + j) with e | e
    · rw [e]; exact h.trans (List.sublist_append_left _ _)
    · rw [e]; exact h
theorem and_high {p k : Nat} (h : p < 2 ^ k) : p &&& 2 ^ k = 0 := by
  apply Nat.eq_of_testBit_eq
  intro i
  rw [Nat.testBit_and, Nat.testBit_two_pow, Nat.zero_testBit]
  by_cases hi : k = i
  · subst hi
    rw [Nat.testBit_lt_two_pow h]; rfl
  · rw [decide_eq_false hi, Bool.and_false]
theorem sng_sub (a x k : Nat) : (sng a x k).Sublist (blkL a x (2 ^ k)) := by
  induction k with
  | zero => exact List.nil_sublist _
  | succ k ih =>
    have hp := Nat.two_pow_pos k
    have e : 2 ^ (k + 1) = 2 ^ k + 1 + (2 ^ k - 1) := by rw [Nat.pow_succ]; omega
    have hg := blkL_grow a x (2 ^ k + 1) (2 ^ k - 1)
    rw [← e] at hg
    cases h : senB a x (2 ^ k) with
    | true =>
      have hy : blkL a x (2 ^ k + 1) = blkL a x (2 ^ k) ++ [2 ^ k] := blkL_yes h fun p hm => by
        obtain ⟨h1, h2⟩ := blkL_mem _ p hm
        rw [and_high h1]
        intro h0
        rw [← h0, senB_zero] at h2
        exact absurd h2 (by decide)
      rw [hy] at hg
      rw [sng_yes h]
      exact (List.Sublist.append ih (List.Sublist.refl _)).trans hg
    | false =>
      rw [sng_no h]
      refine ih.trans (List.Sublist.trans ?_ hg)
      have h1 := blkL_grow a x (2 ^ k) 1
      exact h1
theorem sng_lt (a x k : Nat) : ∀ b ∈ sng a x k, b < 2 ^ k := fun b hb => (blkL_mem _ b ((sng_sub a x k).subset hb)).1
theorem sng_apart (a x k : Nat) : (sng a x k).Pairwise fun p q => q &&& p = 0 := by
  induction k with
  | zero => exact List.Pairwise.nil
  | succ k ih =>
    cases h : senB a x (2 ^ k) with
    | true =>
      rw [sng_yes h]
      refine List.pairwise_append.2 ⟨ih, List.pairwise_singleton _ _, fun p hp q hq => ?_⟩
      obtain rfl : q = 2 ^ k := by simpa using hq
      rw [Nat.and_comm]
      exact and_high (sng_lt a x k p hp)
    | false => rw [sng_no h]; exact ih
theorem pck_ge : ∀ {s l : List Nat}, s.Sublist l → ∀ u : Nat, (s.Pairwise fun p q => q &&& p = 0) → (∀ b ∈ s, b &&& u = 0) → s.length ≤ pck l u := by
  intro s l hs
  induction hs with
  | slnil => intro u _ _; exact Nat.zero_le _
  | cons b h ih =>
    intro u h1 h2
    exact Nat.le_trans (ih u h1 h2) (Nat.le_max_right _ _)
  | cons_cons b h ih =>
    intro u h1 h2
    rename_i s' t
    have hb := h2 b List.mem_cons_self
    have h3 := List.pairwise_cons.1 h1
    have h4 := ih (u ||| b) h3.2 fun q hq => by
      rw [Nat.and_or_distrib_left, h2 q (List.mem_cons_of_mem _ hq), h3.1 q hq]; rfl
    show s'.length + 1 ≤ max (if b &&& u = 0 then 1 + pck t (u ||| b) else 0) (pck t u)
    rw [if_pos hb]
    omega

/-- Sensitivity is at most block sensitivity. -/
theorem sen_le_bs (n a x : Nat) : senN a x n ≤ bsN n a x := by
  rw [← sng_len]
  exact pck_ge (sng_sub a x n) 0 (sng_apart a x n) fun b _ => Nat.and_zero b

/-- Each input's least certificate counts. -/
theorem gret_ge (n a : Nat) {x k : Nat} (hx : x < k) : popN (setN n a x) ≤ gretN n a (bitN a x) k := by
  induction k with
  | zero => exact absurd hx (Nat.not_lt_zero _)
  | succ k ih =>
    by_cases he : x = k
    · subst he
      rw [gretN_yes rfl]; exact Nat.le_max_right _ _
    · have h := ih (by omega)
      by_cases hb : bitN a k = bitN a x
      · rw [gretN_yes hb]; exact Nat.le_trans h (Nat.le_max_left _ _)
      · rw [gretN_no hb]; exact h

end Go.Proofs.Ytbgjiblfnljigaa
