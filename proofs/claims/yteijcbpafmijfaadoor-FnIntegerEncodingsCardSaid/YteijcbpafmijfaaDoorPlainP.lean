/-
  Plain mathematics of ParseInt: the digits of a text, and the number of which it is the text.
-/
import Derived.Test.YteijcbpafmijfaaDoorPlainD
namespace Go.Proofs.YteijcbpafmijfaaDoor.Plain
open Go.Lib

def isDig (c : UInt8) : Bool := decide (48 ≤ c.toNat) && decide (c.toNat ≤ 57)
/-- The number that the digits of a text make, all else passed over. -/
def dvalA (acc : Nat) (l : List UInt8) : Nat := l.foldl (fun n c => if isDig c then n * 10 + (c.toNat - 48) else n) acc
def dval (l : List UInt8) : Nat := dvalA 0 l
def dcnt (l : List UInt8) : Nat := (l.filter isDig).length

theorem dvalA_append (acc : Nat) (l m : List UInt8) : dvalA acc (l ++ m) = dvalA (dvalA acc l) m := by simp [dvalA, List.foldl_append]
theorem dval_snoc_dig (l : List UInt8) (c : UInt8) (h : isDig c = true) : dval (l ++ [c]) = dval l * 10 + (c.toNat - 48) := by
  unfold dval; rw [dvalA_append]; simp [dvalA, h]
theorem dval_snoc_not (l : List UInt8) (c : UInt8) (h : isDig c = false) : dval (l ++ [c]) = dval l := by
  unfold dval; rw [dvalA_append]; simp [dvalA, h]
theorem dcnt_snoc_dig (l : List UInt8) (c : UInt8) (h : isDig c = true) : dcnt (l ++ [c]) = dcnt l + 1 := by simp [dcnt, List.filter_append, h]
theorem dcnt_snoc_not (l : List UInt8) (c : UInt8) (h : isDig c = false) : dcnt (l ++ [c]) = dcnt l := by simp [dcnt, List.filter_append, h]
theorem dcnt_le (l : List UInt8) : dcnt l ≤ l.length := List.length_filter_le _ _

theorem snoc_cases (l : List UInt8) : l = [] ∨ ∃ l' c, l = l' ++ [c] := by
  rcases List.eq_nil_or_concat l with h | ⟨l', c, h⟩
  · exact .inl h
  · exact .inr ⟨l', c, by simpa using h⟩

theorem dval_lt : ∀ (k : Nat) (l : List UInt8), l.length = k → dval l < 10 ^ dcnt l := by
  intro k
  induction k with
  | zero => intro l h; obtain rfl := List.eq_nil_of_length_eq_zero h; simp [dval, dvalA, dcnt]
  | succ k ih =>
    intro l h
    rcases snoc_cases l with rfl | ⟨l', c, rfl⟩
    · simp at h
    · have h1 := ih l' (by simpa using h)
      by_cases hc : isDig c = true
      · rw [dval_snoc_dig _ _ hc, dcnt_snoc_dig _ _ hc, Nat.pow_succ]
        unfold isDig at hc
        simp only [Bool.and_eq_true, decide_eq_true_eq] at hc
        omega
      · have hc : isDig c = false := by simpa using hc
        rw [dval_snoc_not _ _ hc, dcnt_snoc_not _ _ hc]
        exact h1

theorem dval_lt_len (l : List UInt8) : dval l < 10 ^ l.length := Nat.lt_of_lt_of_le (dval_lt _ l rfl) (Nat.pow_le_pow_right (by omega) (dcnt_le l))

theorem digC_nat (r : Nat) (h : r < 10) : (digC r).toNat = 48 + r := by unfold digC; rw [UInt8.toNat_ofNat']; omega
theorem digC_dig (r : Nat) (h : r < 10) : isDig (digC r) = true := by unfold isDig; rw [digC_nat r h]; simp; omega

theorem decDigits_step {u : Nat} (h : ¬ u < 10) : decDigits u = decDigits (u / 10) ++ [digC (u % 10)] := by rw [decDigits, dif_neg h]; rfl
theorem decDigits_least {u : Nat} (h : u < 10) : decDigits u = [digC u] := by rw [decDigits_one h]; rfl

/-- The digits of a number are digits, and make the number. -/
theorem decDigits_back (k : Nat) : ∀ u, u < 10 ^ (k + 1) → dval (decDigits u) = u ∧ dcnt (decDigits u) = (decDigits u).length ∧ (decDigits u).length ≤ k + 1 ∧ (∀ c ∈ decDigits u, isDig c = true) ∧ decDigits u ≠ [] := by
  induction k with
  | zero =>
    intro u h
    have h : u < 10 := by simpa using h
    rw [decDigits_least h]
    refine ⟨?_, ?_, by simp, ?_, by simp⟩
    · rw [show [digC u] = [] ++ [digC u] from rfl, dval_snoc_dig _ _ (digC_dig u h), digC_nat u h]; simp [dval, dvalA]
    · simp [dcnt, digC_dig u h]
    · intro c hc; simp at hc; subst hc; exact digC_dig u h
  | succ k ih =>
    intro u h
    by_cases h10 : u < 10
    · rw [decDigits_least h10]
      refine ⟨?_, ?_, by simp, ?_, by simp⟩
      · rw [show [digC u] = [] ++ [digC u] from rfl, dval_snoc_dig _ _ (digC_dig u h10), digC_nat u h10]; simp [dval, dvalA]
      · simp [dcnt, digC_dig u h10]
      · intro c hc; simp at hc; subst hc; exact digC_dig u h10
    · obtain ⟨h1, h2, h3, h4, h5⟩ := ih (u / 10) (by rw [Nat.pow_succ] at h; omega)
      rw [decDigits_step h10]
      have hd := digC_dig (u % 10) (by omega)
      refine ⟨?_, ?_, by simp; omega, ?_, by simp⟩
      · rw [dval_snoc_dig _ _ hd, h1, digC_nat _ (by omega)]; omega
      · rw [dcnt_snoc_dig _ _ hd, h2]; simp
      · intro c hc
        rcases List.mem_append.1 hc with hc | hc
        · exact h4 c hc
        · simp at hc; subst hc; exact hd

theorem parse_digits : ∀ (l : List UInt8) (acc : Nat), (∀ c ∈ l, isDig c = true) → (acc + 1) * 10 ^ l.length ≤ 1000000000000 → parseUint10 acc l = .ok (dvalA acc l) := by
  intro l
  induction l with
  | nil => intro acc _ _; rfl
  | cons c t ih =>
    intro acc hd hb
    have hc := hd c (by simp)
    have hc2 := hc
    unfold isDig at hc2
    simp only [Bool.and_eq_true, decide_eq_true_eq] at hc2
    have hp : 1 ≤ 10 ^ t.length := Nat.pow_pos (by omega)
    rw [List.length_cons, Nat.pow_succ, ← Nat.mul_assoc] at hb
    have hacc : (acc + 1) * 10 ≤ 1000000000000 := by
      have h1 : (acc + 1) * 1 ≤ (acc + 1) * 10 ^ t.length := Nat.mul_le_mul_left _ hp
      omega
    have hlt : (acc * 10 + (c.toNat - 48) + 1) * 10 ^ t.length ≤ 1000000000000 := by
      refine Nat.le_trans (Nat.mul_le_mul_right (10 ^ t.length) (show acc * 10 + (c.toNat - 48) + 1 ≤ (acc + 1) * 10 by omega)) ?_
      rw [Nat.mul_assoc, Nat.mul_comm 10, ← Nat.mul_assoc]; exact hb
    simp only [parseUint10]
    rw [if_pos hc2, if_neg (by omega), if_neg (by omega), ih _ (fun x hx => hd x (by simp [hx])) hlt]
    simp [dvalA, hc]

/-- The text begins with a minus sign. -/
def isNeg (l : List UInt8) : Bool := l.head? == some 45
/-- The number that the model reads off a text's first bytes. -/
def mval (l : List UInt8) : Int := if isNeg l then -(dval (l.take 11) : Int) else dval (l.take 11)

/-- The text is that of a number of at most 9 digits. -/
def IsInt (l : List UInt8) (v : Int) : Prop := -999999999 ≤ v ∧ v ≤ 999999999 ∧ itoa v = l

theorem digits_head {u : Nat} {k : Nat} (h : u < 10 ^ (k + 1)) : (decDigits u).head? ≠ some 45 ∧ (decDigits u).head? ≠ some 43 := by
  have h4 := (decDigits_back k u h).2.2.2.1
  constructor <;>
    (intro hh
     have := h4 _ (List.mem_of_head? hh)
     revert this
     decide)

theorem dval_minus (l : List UInt8) : dval (45 :: l) = dval l := by simp [dval, dvalA, isDig]
theorem dcnt_minus (l : List UInt8) : dcnt (45 :: l) = dcnt l := by simp [dcnt, isDig]

theorem isInt_parts {l : List UInt8} {v : Int} (h : IsInt l v) : mval l = v ∧ dcnt (l.take 11) ≤ 9 ∧ l.length ≤ 10 ∧ atoiAll l = .ok v := by
  obtain ⟨h1, h2, rfl⟩ := h
  by_cases hn : v < 0
  · obtain ⟨m, hm⟩ := Int.eq_ofNat_of_zero_le (a := -v) (by omega)
    obtain rfl : v = -(m : Int) := by omega
    have hi : itoa (-(m : Int)) = 45 :: decDigits m := by
      unfold itoa; rw [if_pos hn, Int.natAbs_neg, Int.natAbs_natCast]
    obtain ⟨b1, b2, b3, b4, b5⟩ := decDigits_back 8 m (by omega)
    rw [hi]
    have ht : (45 :: decDigits m).take 11 = 45 :: decDigits m := List.take_of_length_le (by simp; omega)
    refine ⟨?_, ?_, by simp; omega, ?_⟩
    · unfold mval isNeg
      rw [ht, dval_minus, b1]; rfl
    · rw [ht, dcnt_minus, b2]; omega
    · have hp := parse_digits (decDigits m) 0 b4 (by
        have : 10 ^ (decDigits m).length ≤ 10 ^ 9 := Nat.pow_le_pow_right (by omega) b3
        omega)
      have hv : dvalA 0 (decDigits m) = m := b1
      rw [hv] at hp
      have e45 : (45 : UInt8).toNat = 45 := rfl
      simp only [atoiAll, parseMag, e45]
      rw [if_pos (Or.inr trivial), if_neg b5, hp]
      simp
      omega
  · obtain ⟨m, rfl⟩ := Int.eq_ofNat_of_zero_le (a := v) (by omega)
    have hi : itoa (m : Int) = decDigits m := by
      unfold itoa; rw [if_neg hn, Int.toNat_natCast]
    obtain ⟨b1, b2, b3, b4, b5⟩ := decDigits_back 8 m (by omega)
    obtain ⟨g1, g2⟩ := digits_head (u := m) (k := 8) (by omega)
    rw [hi]
    have ht : (decDigits m).take 11 = decDigits m := List.take_of_length_le (by omega)
    refine ⟨?_, ?_, by omega, ?_⟩
    · unfold mval isNeg
      rw [ht, b1, if_neg (by simpa using g1)]
    · rw [ht, b2]; omega
    · have hp := parse_digits (decDigits m) 0 b4 (by
        have : 10 ^ (decDigits m).length ≤ 10 ^ 9 := Nat.pow_le_pow_right (by omega) b3
        omega)
      have hv : dvalA 0 (decDigits m) = m := b1
      rw [hv] at hp
      generalize hL : decDigits m = L at hp b5 g1 g2
      match L, b5 with
      | c :: t, _ =>
        have c1 : c.toNat ≠ 45 := by
          intro e
          exact g1 (by simp; exact UInt8.toNat_inj.1 (by rw [e]; rfl))
        have c2 : c.toNat ≠ 43 := by
          intro e
          exact g2 (by simp; exact UInt8.toNat_inj.1 (by rw [e]; rfl))
        simp only [atoiAll, parseMag]
        rw [if_neg (show ¬ (c.toNat = 43 ∨ c.toNat = 45) by omega), if_neg (by simp), hp]
        simp [c1]
        omega

theorem isInt_unique {l : List UInt8} {v u : Int} (h : IsInt l v) (g : IsInt l u) : v = u := (isInt_parts h).1.symm.trans (isInt_parts g).1

instance (l : List UInt8) (v : Int) : Decidable (IsInt l v) := by unfold IsInt; exact inferInstance

/-- What ParseInt answers. -/
def parN (l : List UInt8) : Int := if IsInt l (mval l) then mval l else 0
def parB (l : List UInt8) : Bool := decide (IsInt l (mval l))

theorem par_yes {l : List UInt8} {v : Int} (h : IsInt l v) : parN l = v ∧ parB l = true := by
  have e := (isInt_parts h).1
  unfold parN parB
  rw [e]
  exact ⟨if_pos h, decide_eq_true h⟩
theorem par_no {l : List UInt8} (h : ∀ v, ¬ IsInt l v) : parN l = 0 ∧ parB l = false := by
  unfold parN parB
  exact ⟨if_neg (h _), decide_eq_false (h _)⟩

end Go.Proofs.YteijcbpafmijfaaDoor.Plain
