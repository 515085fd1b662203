/-
  Plain mathematics of chapter 11: numbers of sets by those of their parts, and back.
-/
import Derived.Test.YtphjaggiddjhgaaGreatDoorPlainR
import Derived.Test.YtphjaggiddjhgaaGreatDoorCerP
namespace Go.Proofs.YtphjaggiddjhgaaGreatDoor
open Plain Go.RowKit
set_option linter.unusedVariables false

/-- Each set's number with those of its parts, times f for each variable that the part lacks. -/
def Plain.parF (f : Int) : Nat → (Nat → Int) → Nat → Int
  | 0, g, m => g m
  | k + 1, g, m => if m < 2 ^ k then parF f k g m else parF f k (fun x => g (2 ^ k + x) + f * g x) (m - 2 ^ k)
theorem parF_lo {f : Int} {k : Nat} {g : Nat → Int} {m : Nat} (h : m < 2 ^ k) : parF f (k + 1) g m = parF f k g m := if_pos h
theorem parF_hi {f : Int} {k : Nat} {g : Nat → Int} {m : Nat} : parF f (k + 1) g (2 ^ k + m) = parF f k (fun x => g (2 ^ k + x) + f * g x) m := by
  show (if _ then _ else _) = _
  rw [if_neg (by omega), Nat.add_sub_cancel_left]
theorem halves {k m : Nat} (h : m < 2 ^ (k + 1)) : m < 2 ^ k ∨ ∃ z, z < 2 ^ k ∧ m = 2 ^ k + z := by
  have : 2 ^ (k + 1) = 2 ^ k * 2 := Nat.pow_succ 2 k
  by_cases h1 : m < 2 ^ k
  · exact .inl h1
  · exact .inr ⟨m - 2 ^ k, by omega, by omega⟩

theorem parF_congr (f : Int) (k : Nat) : ∀ (g h : Nat → Int), (∀ x, x < 2 ^ k → g x = h x) → ∀ m, m < 2 ^ k → parF f k g m = parF f k h m := by
  induction k with
  | zero => intro g h e m hm; exact e m hm
  | succ k ih =>
    intro g h e m hm
    have h2 : 2 ^ (k + 1) = 2 ^ k * 2 := Nat.pow_succ 2 k
    rcases halves hm with h1 | ⟨z, h1, rfl⟩
    · rw [parF_lo h1, parF_lo h1]
      exact ih g h (fun x hx => e x (by omega)) m h1
    · rw [parF_hi, parF_hi]
      refine ih _ _ (fun x hx => ?_) z h1
      show g (2 ^ k + x) + f * g x = h (2 ^ k + x) + f * h x
      rw [e _ (by omega), e _ (by omega)]

theorem parF_lin (f c : Int) (k : Nat) : ∀ (g h : Nat → Int) (m : Nat), m < 2 ^ k → parF f k (fun x => g x + c * h x) m = parF f k g m + c * parF f k h m := by
  induction k with
  | zero => intro g h m hm; rfl
  | succ k ih =>
    intro g h m hm
    rcases halves hm with h1 | ⟨z, h1, rfl⟩
    · rw [parF_lo h1, parF_lo h1, parF_lo h1]
      exact ih g h m h1
    · rw [parF_hi, parF_hi, parF_hi]
      have e := ih (fun x => g (2 ^ k + x) + f * g x) (fun x => h (2 ^ k + x) + f * h x) z h1
      rw [← e]
      refine parF_congr f k _ _ (fun x hx => ?_) z h1
      show g (2 ^ k + x) + c * h (2 ^ k + x) + f * (g x + c * h x) = g (2 ^ k + x) + f * g x + c * (h (2 ^ k + x) + f * h x)
      rw [Int.mul_add, Int.mul_add, Int.mul_left_comm f c (h x)]
      omega

/-- The factors f and -f undo each other. -/
theorem parF_back (f e : Int) (he : f + e = 0) (k : Nat) : ∀ (g : Nat → Int) (m : Nat), m < 2 ^ k → parF e k (parF f k g) m = g m := by
  induction k with
  | zero => intro g m hm; rfl
  | succ k ih =>
    intro g m hm
    rcases halves hm with h1 | ⟨z, h1, rfl⟩
    · rw [parF_lo h1, parF_congr e k (parF f (k + 1) g) (parF f k g) (fun x hx => parF_lo hx) m h1]
      exact ih g m h1
    · rw [parF_hi, parF_congr e k _ (parF f k (fun x => g (2 ^ k + x))) (fun x hx => ?_) z h1]
      · exact ih (fun x => g (2 ^ k + x)) z h1
      · show parF f (k + 1) g (2 ^ k + x) + e * parF f (k + 1) g x = _
        rw [parF_hi, parF_lo hx, parF_lin f f k _ _ x hx]
        have : e = -f := by omega
        rw [this, Int.neg_mul]
        omega

theorem parF_bound (f : Int) (hf : f = 1 ∨ f = -1) (k : Nat) : ∀ (B : Int) (g : Nat → Int), 0 ≤ B → (∀ x, x < 2 ^ k → -B ≤ g x ∧ g x ≤ B) → ∀ m, m < 2 ^ k → -(B * 2 ^ k) ≤ parF f k g m ∧ parF f k g m ≤ B * 2 ^ k := by
  induction k with
  | zero => intro B g hB h m hm; have := h m hm; show -(B * 1) ≤ g m ∧ g m ≤ B * 1; omega
  | succ k ih =>
    intro B g hB h m hm
    have h2 : 2 ^ (k + 1) = 2 ^ k * 2 := Nat.pow_succ 2 k
    have h3 : B * 2 ^ (k + 1) = (2 * B) * 2 ^ k := by rw [Int.pow_succ]; rw [Int.mul_comm 2 B, Int.mul_assoc, Int.mul_comm 2 (2 ^ k)]
    rcases halves hm with h1 | ⟨z, h1, rfl⟩
    · rw [parF_lo h1, h3]
      exact ih (2 * B) g (by omega) (fun x hx => by have := h x (by omega); omega) m h1
    · rw [parF_hi, h3]
      refine ih (2 * B) _ (by omega) (fun x hx => ?_) z h1
      have a := h x (by omega)
      have b := h (2 ^ k + x) (by omega)
      show -(2 * B) ≤ g (2 ^ k + x) + f * g x ∧ g (2 ^ k + x) + f * g x ≤ 2 * B
      rcases hf with rfl | rfl
      · rw [Int.one_mul]; omega
      · rw [Int.neg_mul, Int.one_mul]; omega

/-- Modulo 2 both factors give the same, of numbers that are the same modulo 2. -/
theorem parF_mod (f e : Int) (he : f % 2 = e % 2) (k : Nat) : ∀ (g h : Nat → Int), (∀ x, x < 2 ^ k → g x % 2 = h x % 2) → ∀ m, m < 2 ^ k → parF f k g m % 2 = parF e k h m % 2 := by
  induction k with
  | zero => intro g h e m hm; exact e m hm
  | succ k ih =>
    intro g h hg m hm
    have h2 : 2 ^ (k + 1) = 2 ^ k * 2 := Nat.pow_succ 2 k
    rcases halves hm with h1 | ⟨z, h1, rfl⟩
    · rw [parF_lo h1, parF_lo h1]
      exact ih g h (fun x hx => hg x (by omega)) m h1
    · rw [parF_hi, parF_hi]
      refine ih _ _ (fun x hx => ?_) z h1
      show (g (2 ^ k + x) + f * g x) % 2 = (h (2 ^ k + x) + e * h x) % 2
      rw [Int.add_emod, Int.mul_emod f, hg _ (by omega), hg _ (by omega), he, ← Int.mul_emod, ← Int.add_emod]

/-! Sums over the parts of a set. -/
def Plain.sgn (f : Int) (m x : Nat) : Int := if popN (m ^^^ x) % 2 = 1 then f else 1
def Plain.sumF (f : Int) (g : Nat → Int) (m : Nat) : Nat → Int
  | 0 => 0
  | x + 1 => if x &&& m = x then sumF f g m x + sgn f m x * g x else sumF f g m x
theorem sumF_yes {f : Int} {g : Nat → Int} {m x : Nat} (h : x &&& m = x) : sumF f g m (x + 1) = sumF f g m x + sgn f m x * g x := if_pos h
theorem sumF_no {f : Int} {g : Nat → Int} {m x : Nat} (h : ¬ x &&& m = x) : sumF f g m (x + 1) = sumF f g m x := if_neg h
theorem sumF_past (f : Int) (g : Nat → Int) (m d : Nat) : sumF f g m (m + 1 + d) = sumF f g m (m + 1) := by
  induction d with
  | zero => rfl
  | succ d ih =>
    have hn : ¬ (m + 1 + d) &&& m = m + 1 + d := by
      intro h
      have := Nat.and_le_right (n := m + 1 + d) (m := m)
      omega
    rw [← ih]
    exact sumF_no hn
theorem sumF_all (f : Int) (g : Nat → Int) {m k : Nat} (h : m < k) : sumF f g m k = sumF f g m (m + 1) := by
  have := sumF_past f g m (k - (m + 1))
  rwa [show m + 1 + (k - (m + 1)) = k by omega] at this
def Plain.halfB (k m x : Nat) : Bool := !(decide (m < 2 ^ k) && decide (x < 2 ^ k)) ||
  (decide (x &&& (2 ^ k + m) = x ↔ x &&& m = x) && decide ((2 ^ k + x) &&& (2 ^ k + m) = 2 ^ k + x ↔ x &&& m = x) && decide (popN ((2 ^ k + m) ^^^ x) % 2 = 1 - popN (m ^^^ x) % 2) && decide (popN ((2 ^ k + m) ^^^ (2 ^ k + x)) % 2 = popN (m ^^^ x) % 2))
theorem halfB_all : ∀ k < 5, ∀ m < 32, ∀ x < 32, halfB k m x = true := by decide +kernel
theorem half_bits (k : Nat) (hk : k < 5) (m : Nat) (h1 : m < 32) (hm : m < 2 ^ k) (x : Nat) (h2 : x < 32) (hx : x < 2 ^ k) :
    (x &&& (2 ^ k + m) = x ↔ x &&& m = x) ∧ ((2 ^ k + x) &&& (2 ^ k + m) = 2 ^ k + x ↔ x &&& m = x) ∧ popN ((2 ^ k + m) ^^^ x) % 2 = 1 - popN (m ^^^ x) % 2 ∧ popN ((2 ^ k + m) ^^^ (2 ^ k + x)) % 2 = popN (m ^^^ x) % 2 := by
  have h := halfB_all k hk m h1 x h2
  unfold halfB at h
  rw [decide_eq_true hm, decide_eq_true hx] at h
  simp only [Bool.and_true, Bool.not_true, Bool.false_or, Bool.and_eq_true, decide_eq_true_eq] at h
  exact ⟨h.1.1.1, h.1.1.2, h.1.2, h.2⟩
theorem sgn_flip {f : Int} (hf : f * f = 1) {k m x : Nat} (hk : k < 5) (hm : m < 2 ^ k) (hx : x < 2 ^ k) : sgn f (2 ^ k + m) x = sgn f m x * f := by
  have h5 : 2 ^ k ≤ 32 := two_pow_le k (by omega)
  have h := (half_bits k hk m (by omega) hm x (by omega) hx).2.2.1
  unfold sgn
  rw [h]
  by_cases h1 : popN (m ^^^ x) % 2 = 1
  · rw [h1, if_neg (by omega), if_pos rfl, hf]
  · rw [if_pos (by omega), if_neg h1, Int.one_mul]
theorem sgn_same {f : Int} {k m x : Nat} (hk : k < 5) (hm : m < 2 ^ k) (hx : x < 2 ^ k) : sgn f (2 ^ k + m) (2 ^ k + x) = sgn f m x := by
  have h5 : 2 ^ k ≤ 32 := two_pow_le k (by omega)
  unfold sgn
  rw [(half_bits k hk m (by omega) hm x (by omega) hx).2.2.2]
theorem sumF_low {f : Int} (hf : f * f = 1) (g : Nat → Int) {k m : Nat} (hk : k < 5) (hm : m < 2 ^ k) : ∀ x, x ≤ 2 ^ k → sumF f g (2 ^ k + m) x = f * sumF f g m x := by
  have h5 : 2 ^ k ≤ 32 := two_pow_le k (by omega)
  intro x
  induction x with
  | zero => intro _; exact (Int.mul_zero f).symm
  | succ x ih =>
    intro hx
    have e := (half_bits k hk m (by omega) hm x (by omega) (by omega)).1
    by_cases h : x &&& m = x
    · rw [sumF_yes (e.2 h), sumF_yes h, ih (by omega), sgn_flip hf hk hm (by omega), Int.mul_add, Int.mul_comm (sgn f m x) f, Int.mul_assoc]
    · rw [sumF_no (fun h2 => h (e.1 h2)), sumF_no h, ih (by omega)]
theorem sumF_high {f : Int} (hf : f * f = 1) (g : Nat → Int) {k m : Nat} (hk : k < 5) (hm : m < 2 ^ k) : ∀ x, x ≤ 2 ^ k →
    sumF f g (2 ^ k + m) (2 ^ k + x) = f * sumF f g m (2 ^ k) + sumF f (fun y => g (2 ^ k + y)) m x := by
  have h5 : 2 ^ k ≤ 32 := two_pow_le k (by omega)
  intro x
  induction x with
  | zero => intro _; rw [Nat.add_zero, sumF_low hf g hk hm _ (Nat.le_refl _)]; exact (Int.add_zero _).symm
  | succ x ih =>
    intro hx
    have e := (half_bits k hk m (by omega) hm x (by omega) (by omega)).2.1
    rw [← Nat.add_assoc]
    by_cases h : x &&& m = x
    · rw [sumF_yes (e.2 h), sumF_yes h, ih (by omega), sgn_same hk hm (by omega), Int.add_assoc]
    · rw [sumF_no (fun h2 => h (e.1 h2)), sumF_no h, ih (by omega)]
theorem sumF_lin (f : Int) (g h : Nat → Int) (m : Nat) : ∀ x, sumF f (fun y => g y + f * h y) m x = sumF f g m x + f * sumF f h m x := by
  intro x
  induction x with
  | zero => show (0 : Int) = 0 + f * 0; rw [Int.mul_zero]; rfl
  | succ x ih =>
    by_cases hx : x &&& m = x
    · rw [sumF_yes hx, sumF_yes hx, sumF_yes hx, ih, Int.mul_add, Int.mul_add, Int.mul_left_comm]
      omega
    · rw [sumF_no hx, sumF_no hx, sumF_no hx, ih]
/-- The program's numbers are the sums over the parts. -/
theorem parF_sum {f : Int} (hf : f * f = 1) (k : Nat) : k ≤ 5 → ∀ (g : Nat → Int) (m : Nat), m < 2 ^ k → parF f k g m = sumF f g m (m + 1) := by
  induction k with
  | zero =>
    intro _ g m hm
    have : m = 0 := by omega
    subst this
    rw [sumF_yes (by decide)]
    show g 0 = 0 + sgn f 0 0 * g 0
    rw [show sgn f 0 0 = 1 from if_neg (by rw [Nat.xor_self, popN_zero]; decide), Int.one_mul, Int.zero_add]
  | succ k ih =>
    intro hk g m hm
    have h2 : 2 ^ (k + 1) = 2 ^ k * 2 := Nat.pow_succ 2 k
    rcases halves hm with h1 | ⟨z, h1, rfl⟩
    · rw [parF_lo h1]
      exact ih (by omega) g m h1
    · rw [parF_hi, ih (by omega) _ z h1, ← sumF_all f _ h1, sumF_lin]
      rw [← sumF_all f g (show 2 ^ k + z < 2 ^ k + 2 ^ k by omega), sumF_high hf g (by omega) h1 _ (Nat.le_refl _)]
      omega

/-! The coefficients of a table. -/
def Plain.valZ (w x : Nat) : Int := (bitN w x : Int)
/-- The integer coefficient of the set m. -/
def Plain.reZ (w m : Nat) : Int := sumF (-1) (valZ w) m (m + 1)
/-- How many of the parts of the set m have the value 1. -/
def Plain.cntA (w m : Nat) : Nat → Nat
  | 0 => 0
  | x + 1 => if x &&& m = x then cntA w m x + bitN w x else cntA w m x
theorem cntA_yes {w m x : Nat} (h : x &&& m = x) : cntA w m (x + 1) = cntA w m x + bitN w x := if_pos h
theorem cntA_no {w m x : Nat} (h : ¬ x &&& m = x) : cntA w m (x + 1) = cntA w m x := if_neg h
theorem cntA_le (w m x : Nat) : cntA w m x ≤ x := by
  induction x with
  | zero => exact Nat.le_refl _
  | succ x ih =>
    have := bitN_lt w x
    by_cases h : x &&& m = x
    · rw [cntA_yes h]; omega
    · rw [cntA_no h]; omega
def Plain.anN (w m : Nat) : Nat := cntA w m (m + 1) % 2
def Plain.anW (n w : Nat) : Nat := tabN (anN w) (2 ^ n)
theorem sumF_cnt (w m x : Nat) : sumF 1 (valZ w) m x = (cntA w m x : Int) := by
  induction x with
  | zero => rfl
  | succ x ih =>
    by_cases h : x &&& m = x
    · rw [sumF_yes h, cntA_yes h, ih]
      have : sgn 1 m x = 1 := by unfold sgn; split <;> rfl
      rw [this, Int.one_mul]
      show _ = ((cntA w m x + bitN w x : Nat) : Int)
      rw [Int.natCast_add]; rfl
    · rw [sumF_no h, cntA_no h, ih]
theorem anN_par {n w m : Nat} (hn : n ≤ 5) (hm : m < 2 ^ n) : (anN w m : Int) = parF 1 n (valZ w) m % 2 := by
  rw [parF_sum (by decide) n hn _ m hm, sumF_cnt]
  unfold anN
  omega
theorem reZ_par {n w m : Nat} (hn : n ≤ 5) (hm : m < 2 ^ n) : parF (-1) n (valZ w) m = reZ w m := parF_sum (by decide) n hn _ m hm
theorem anN_lt (w m : Nat) : anN w m < 2 := Nat.mod_lt _ (by decide)
/-- Modulo 2 the coefficients are those of the integers. -/
theorem reZ_mod {n w m : Nat} (hn : n ≤ 5) (hm : m < 2 ^ n) : reZ w m % 2 = (anN w m : Int) := by
  rw [anN_par hn hm, ← reZ_par hn hm]
  exact parF_mod (-1) 1 (by decide) n _ _ (fun x _ => rfl) m hm
theorem reZ_bound {n w m : Nat} (hn : n ≤ 5) (hm : m < 2 ^ n) : -32 ≤ reZ w m ∧ reZ w m ≤ 32 := by
  rw [← reZ_par hn hm]
  have h := parF_bound (-1) (.inr rfl) n 1 (valZ w) (by decide) (fun x _ => by have := bitN_lt w x; unfold valZ; omega) m hm
  have h5 := (two_pow_le n hn)
  have : ((2 : Int) ^ n) = ((2 ^ n : Nat) : Int) := (Int.natCast_pow 2 n).symm
  rw [this, Int.one_mul] at h
  omega
/-- Is the coefficient of the set x modulo 2 not 0? -/
def Plain.anP (a x : Nat) : Bool := decide (anN a x = 1)
theorem anW_lt (n w : Nat) : anW n w < 2 ^ 2 ^ n := tabN_lt _ _
theorem anW_bit {n w m : Nat} (hm : m < 2 ^ n) : bitN (anW n w) m = anN w m := by
  have h := anN_lt w m
  rw [bitN_test]
  unfold anW
  rw [tabN_bit]
  rcases (show anN w m = 0 ∨ anN w m = 1 by omega) with e | e
  · rw [e]; simp
  · rw [e]; simp [hm]
theorem anW_le (n w : Nat) : anW n w ≤ fullN n := by have := anW_lt n w; unfold fullN; omega
theorem anW_back {n w : Nat} (hn : n ≤ 5) (hw : w < 2 ^ 2 ^ n) : anW n (anW n w) = w := by
  apply Nat.eq_of_testBit_eq
  intro z
  by_cases hz : z < 2 ^ n
  · have e : bitN (anW n (anW n w)) z = bitN w z := by
      rw [anW_bit hz]
      have h1 : (anN (anW n w) z : Int) = (bitN w z : Int) := by
        rw [anN_par hn hz, parF_mod 1 (-1) (by decide) n _ (parF 1 n (valZ w)) (fun x hx => ?_) z hz, parF_back 1 (-1) (by decide) n _ z hz]
        · have := bitN_lt w z; unfold valZ; omega
        · show (bitN (anW n w) x : Int) % 2 = _
          rw [anW_bit hx, anN_par hn hx]
          omega
      omega
    rw [bitN_test, bitN_test] at e
    cases ha : (anW n (anW n w)).testBit z <;> cases hb : w.testBit z <;> rw [ha, hb] at e <;> first | rfl | (exact absurd e (by decide))
  · have h1 : anW n (anW n w) < 2 ^ z := Nat.lt_of_lt_of_le (anW_lt _ _) (Nat.pow_le_pow_right (by decide) (by omega))
    have h2 : w < 2 ^ z := Nat.lt_of_lt_of_le hw (Nat.pow_le_pow_right (by decide) (by omega))
    rw [Nat.testBit_lt_two_pow h1, Nat.testBit_lt_two_pow h2]
/-- The coefficients give the values back. -/
theorem re_back {n w x : Nat} (hn : n ≤ 5) (hx : x < 2 ^ n) : parF 1 n (reZ w) x = (bitN w x : Int) := by
  rw [parF_congr 1 n (reZ w) (parF (-1) n (valZ w)) (fun m hm => (reZ_par hn hm).symm) x hx]
  exact parF_back (-1) 1 (by decide) n _ x hx

theorem or0_i64 (a : Nat) (ha : (a : Int) ≤ 4294967295) : Go.bits .or .i64 (a : Int) 0 = (a : Int) := by
  have := or64 a 0 (by omega) (by decide)
  rwa [Nat.or_zero] at this

end Go.Proofs.YtphjaggiddjhgaaGreatDoor
