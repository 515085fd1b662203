/-
  Plain mathematics of the varints: with which varint a list of bytes begins.
-/
import Derived.Test.YteijcbpafmijfaaPlain
namespace Go.Proofs.Yteijcbpafmijfaa.Plain

/-- The number that groups of seven bits make, the least group first. -/
def lo : List UInt8 → Nat
  | [] => 0
  | c :: t => c.toNat % 128 + 128 * lo t

theorem lo_vbytes (k : Nat) : ∀ n, n < 128 ^ (k + 1) → lo (vbytes n) = n := by
  induction k with
  | zero => intro n h; rw [vbytes_small n (by omega)]; simp [lo]; omega
  | succ k ih =>
    intro n h
    by_cases hn : n < 128
    · rw [vbytes_small n hn]; simp [lo]; omega
    · rw [vbytes_great n hn]
      have := ih (n / 128) (by rw [Nat.pow_succ] at h; omega)
      simp only [lo, this, UInt8.toNat_ofNat']
      omega

theorem lo_lt : ∀ l : List UInt8, lo l < 128 ^ l.length := by
  intro l
  induction l with
  | nil => simp [lo]
  | cons c t ih => simp only [lo, List.length_cons, Nat.pow_succ]; omega

theorem lo_snoc : ∀ (l : List UInt8) (c : UInt8), lo (l ++ [c]) = lo l + c.toNat % 128 * 128 ^ l.length := by
  intro l c
  induction l with
  | nil => simp [lo]
  | cons d t ih =>
    simp only [List.cons_append, lo, ih, List.length_cons, Nat.pow_succ, Nat.mul_add]
    have : 128 * (c.toNat % 128 * 128 ^ t.length) = c.toNat % 128 * (128 ^ t.length * 128) := by
      rw [Nat.mul_comm (128 ^ t.length) 128, ← Nat.mul_assoc, ← Nat.mul_assoc, Nat.mul_comm 128]
    omega

/-- All bytes but the last bear the mark, the last doesn't. -/
theorem vbytes_shape (k : Nat) : ∀ n, n < 128 ^ (k + 1) → ∃ l c, vbytes n = l ++ [c] ∧ (∀ x ∈ l, 128 ≤ x.toNat) ∧ c.toNat < 128 := by
  induction k with
  | zero => intro n h; exact ⟨[], UInt8.ofNat n, by rw [vbytes_small n (by omega)]; rfl, by simp, by rw [UInt8.toNat_ofNat']; omega⟩
  | succ k ih =>
    intro n h
    by_cases hn : n < 128
    · exact ⟨[], UInt8.ofNat n, by rw [vbytes_small n hn]; rfl, by simp, by rw [UInt8.toNat_ofNat']; omega⟩
    · obtain ⟨l, c, h1, h2, h3⟩ := ih (n / 128) (by rw [Nat.pow_succ] at h; omega)
      refine ⟨UInt8.ofNat (n % 128 + 128) :: l, c, by rw [vbytes_great n hn, h1]; rfl, ?_, h3⟩
      intro x hx
      rcases List.mem_cons.1 hx with rfl | hx
      · rw [UInt8.toNat_ofNat']; omega
      · exact h2 x hx

/-- The first k bytes are there and are the varint of their number. -/
def isV (s : List UInt8) (k : Nat) : Bool := decide (k ≤ s.length) && decide (vbytes (lo (s.take k)) = s.take k)
/-- How long the varint is with which s begins, of at most 7 bytes; 0: there is none. -/
def decK (s : List UInt8) : Nat := ((List.range 8).find? (isV s)).getD 0
def decN (s : List UInt8) : Nat := if decK s = 0 then 0 else lo (s.take (decK s))

theorem isV_shape {s : List UInt8} {k : Nat} (hk : isV s k = true) : ∃ l c, s.take k = l ++ [c] ∧ (∀ x ∈ l, 128 ≤ x.toNat) ∧ c.toNat < 128 ∧ k = l.length + 1 := by
  unfold isV at hk
  simp only [Bool.and_eq_true, decide_eq_true_eq] at hk
  have hlt := lo_lt (s.take k)
  have hle : (s.take k).length ≤ k := List.length_take_le _ _
  obtain ⟨l, c, h1, h2, h3⟩ := vbytes_shape k (lo (s.take k)) (Nat.lt_of_lt_of_le hlt (Nat.pow_le_pow_right (by omega) (by omega)))
  rw [hk.2] at h1
  refine ⟨l, c, h1, h2, h3, ?_⟩
  have := congrArg List.length h1
  rw [List.length_take] at this
  simp at this
  omega

theorem isV_zero (s : List UInt8) : isV s 0 = false := by
  rw [Bool.eq_false_iff]
  intro h
  obtain ⟨l, c, h1, _⟩ := isV_shape h
  simp at h1

/-- Behind bytes that all bear the mark there is none. -/
theorem isV_marked {s : List UInt8} {i k : Nat} (hi : ∀ x ∈ s.take i, 128 ≤ x.toNat) (hk : k ≤ i) : isV s k = false := by
  rw [Bool.eq_false_iff]
  intro h
  obtain ⟨l, c, h1, h2, h3, h4⟩ := isV_shape h
  have hc : c ∈ s.take k := by rw [h1]; simp
  have : c ∈ s.take i := by
    have e : s.take k = (s.take i).take k := by rw [List.take_take]; congr 1; omega
    rw [e] at hc
    exact List.mem_of_mem_take hc
  have := hi c this
  omega

/-- Past a byte without the mark there is none. -/
theorem isV_past {s : List UInt8} {i k : Nat} (c0 : UInt8) (hi : s[i]? = some c0) (hc0 : c0.toNat < 128) (hk : i + 1 < k) : isV s k = false := by
  rw [Bool.eq_false_iff]
  intro h
  obtain ⟨l, c, h1, h2, h3, h4⟩ := isV_shape h
  have h5 : (s.take k)[i]? = some c0 := by rw [List.getElem?_take, if_pos (by omega), hi]
  rw [h1, List.getElem?_append_left (by omega)] at h5
  have := h2 c0 (List.mem_of_getElem? h5)
  omega

theorem find_range (p : Nat → Bool) (n k : Nat) (hk : k < n) (hp : p k = true) (hlt : ∀ j, j < k → p j = false) : (List.range n).find? p = some k := by
  rw [List.find?_range_eq_some]
  exact ⟨hp, List.mem_range.2 hk, fun j hj => by simp [hlt j hj]⟩

theorem decK_yes {s : List UInt8} {k : Nat} (h7 : k ≤ 7) (hk : isV s k = true) (hlt : ∀ j, j < k → isV s j = false) : decK s = k := by
  unfold decK
  rw [find_range (isV s) 8 k (by omega) hk hlt]
  rfl

theorem decK_no {s : List UInt8} (h : ∀ j, j ≤ 7 → isV s j = false) : decK s = 0 := by
  unfold decK
  have : (List.range 8).find? (isV s) = none := by
    rw [List.find?_eq_none]
    intro j hj
    have := h j (by have := List.mem_range.1 hj; omega)
    simp [this]
  rw [this]
  rfl

theorem decN_yes {s : List UInt8} {k : Nat} (h : decK s = k) (h0 : 1 ≤ k) : decN s = lo (s.take k) := by
  unfold decN; rw [h, if_neg (by omega)]
theorem decN_no {s : List UInt8} (h : decK s = 0) : decN s = 0 := by unfold decN; rw [if_pos h]

end Go.Proofs.Yteijcbpafmijfaa.Plain
