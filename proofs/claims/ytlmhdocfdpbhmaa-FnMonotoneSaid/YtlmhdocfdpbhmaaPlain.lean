/-
  Plain mathematics of the encodings of chapter 1: lists of bytes and numbers, no program.
-/
import Derived.KernelRfl
namespace Go.Proofs.Ytlmhdocfdpbhmaa.Plain

/-- The bytes of a number, seven bits a byte, the least group first. -/
def vbytes (n : Nat) : List UInt8 := if n < 128 then [UInt8.ofNat n] else UInt8.ofNat (n % 128 + 128) :: vbytes (n / 128)
  termination_by n
  decreasing_by omega

theorem vbytes_small (n : Nat) (h : n < 128) : vbytes n = [UInt8.ofNat n] := by rw [vbytes, if_pos h]
theorem vbytes_great (n : Nat) (h : ¬ n < 128) : vbytes n = UInt8.ofNat (n % 128 + 128) :: vbytes (n / 128) := by rw [vbytes, if_neg h]

theorem vbytes_len (k : Nat) : ∀ n, n < 128 ^ (k + 1) → (vbytes n).length ≤ k + 1 := by
  induction k with
  | zero => intro n h; rw [vbytes_small n (by omega)]; simp
  | succ k ih =>
    intro n h
    by_cases hn : n < 128
    · rw [vbytes_small n hn]; simp
    · rw [vbytes_great n hn]
      have := ih (n / 128) (by rw [Nat.pow_succ] at h; omega)
      simp; omega

theorem vbytes_len7 (n : Nat) (h : n ≤ 562949953421311) : (vbytes n).length ≤ 7 := vbytes_len 6 n (by omega)

/-- What EncodeVarint answers. -/
def encV (n : Int) : List UInt8 := if 0 ≤ n ∧ n ≤ 562949953421311 then vbytes n.toNat else []

theorem u8_of (x : Nat) (h : x < 256) : ((UInt8.ofNat x).toNat : Int) = x := by
  rw [UInt8.toNat_ofNat']; omega

theorem pow128_small : ∀ m : Nat, m < 128 → vbytes m = [UInt8.ofNat m] := vbytes_small

/-- The last 'k' bytes of a number, the greatest first. -/
def be : Nat → Nat → List UInt8
  | 0, _ => []
  | k + 1, n => UInt8.ofNat (n / 256 ^ k % 256) :: be k n

theorem be_len (k n : Nat) : (be k n).length = k := by
  induction k with
  | zero => rfl
  | succ k ih => simp [be, ih]

theorem set_zero (t : Nat) (c : UInt8) (l : List UInt8) : (List.replicate (t + 1) (0 : UInt8) ++ l).set t c = List.replicate t 0 ++ (c :: l) := by
  rw [List.set_append]
  rw [if_pos (by simp)]
  rw [List.replicate_succ']
  rw [List.set_append, if_neg (by simp)]
  simp

theorem div_pow_succ (n j : Nat) : n / 256 ^ j / 256 = n / 256 ^ (j + 1) := by rw [Nat.div_div_eq_div_mul, Nat.pow_succ]

def encK (k n : Nat) : List UInt8 := if n < 256 ^ k then be k n else []
theorem encK_yes {k n : Nat} (h : n < 256 ^ k) : encK k n = be k n := if_pos h
theorem encK_no {k n : Nat} (h : ¬ n < 256 ^ k) : encK k n = [] := if_neg h

/-- What EncodeFixed answers. -/
def encF (n width : Int) : List UInt8 := if 1 ≤ width ∧ width ≤ 7 ∧ 0 ≤ n ∧ n < 256 ^ width.toNat then be width.toNat n.toNat else []

/-- The number that bytes encode, the greatest first. -/
def beN (l : List UInt8) : Nat := l.foldl (fun n c => n * 256 + c.toNat) 0

theorem beN_snoc (l : List UInt8) (c : UInt8) : beN (l ++ [c]) = beN l * 256 + c.toNat := by simp [beN, List.foldl_append]

theorem snoc_of (l : List UInt8) : l = [] ∨ ∃ l' c, l = l' ++ [c] := by
  rcases List.eq_nil_or_concat l with h | ⟨l', c, h⟩
  · exact .inl h
  · exact .inr ⟨l', c, by simpa using h⟩

theorem beN_lt : ∀ (k : Nat) (l : List UInt8), l.length = k → beN l < 256 ^ k := by
  intro k
  induction k with
  | zero => intro l h; obtain rfl := List.eq_nil_of_length_eq_zero h; simp [beN]
  | succ k ih =>
    intro l h
    rcases snoc_of l with rfl | ⟨l', c, rfl⟩
    · simp at h
    · have h1 := ih l' (by simpa using h)
      have h2 := c.toNat_lt
      rw [beN_snoc, Nat.pow_succ]
      omega

theorem take_snoc (s : ByteArray) (k : Nat) (h : k < s.size) : s.data.toList.take (k + 1) = s.data.toList.take k ++ [s[k]] := by
  rw [List.take_succ_eq_append_getElem (by simpa using h)]; rfl

theorem or_shift (a b : Nat) (h : b < 256) : (a * 256 ||| b) = a * 256 + b := by
  rw [show a * 256 = a <<< 8 by rw [Nat.shiftLeft_eq], Nat.shiftLeft_add_eq_or_of_lt (by simpa using h)]

def hexOf (k : Nat) : UInt8 := if k < 10 then UInt8.ofNat (48 + k) else UInt8.ofNat (87 + k)
theorem hexOf_nat (k : Nat) (h : k < 16) : (hexOf k).toNat = if k < 10 then 48 + k else 87 + k := by
  unfold hexOf
  split <;> rw [UInt8.toNat_ofNat'] <;> omega

/-- What EncodeHex answers. -/
def encH : List UInt8 → List UInt8
  | [] => []
  | c :: t => hexOf (c.toNat / 16) :: hexOf (c.toNat % 16) :: encH t
theorem encH_snoc (l : List UInt8) (c : UInt8) : encH (l ++ [c]) = encH l ++ [hexOf (c.toNat / 16), hexOf (c.toNat % 16)] := by
  induction l with
  | nil => rfl
  | cons d t ih => simp [encH, ih]
theorem encH_len (l : List UInt8) : (encH l).length = 2 * l.length := by
  induction l with
  | nil => rfl
  | cons d t ih => simp [encH, ih]; omega

/-- The value of a digit, -1 for all else. -/
def digitOf (r : Int) : Int := if 48 ≤ r ∧ r ≤ 57 then r - 48 else if 97 ≤ r ∧ r ≤ 102 then r - 87 else -1
theorem digitOf_le (r : Int) : digitOf r ≤ 15 := by unfold digitOf; split <;> (try split) <;> omega
theorem digitOf_ge (r : Int) : -1 ≤ digitOf r := by unfold digitOf; split <;> (try split) <;> omega
theorem digitOf_hexOf : ∀ k, k < 16 → digitOf ((hexOf k).toNat : Int) = k := by
  intro k hk
  rw [hexOf_nat k hk]
  unfold digitOf
  split <;> split <;> (try split) <;> omega
theorem hexOf_digitOf (c : UInt8) (k : Nat) (hk : digitOf (c.toNat : Int) = k) : hexOf k = c := by
  apply UInt8.toNat_inj.1
  have hc := c.toNat_lt
  have hk16 : k < 16 := by have := digitOf_le (c.toNat : Int); omega
  rw [hexOf_nat k hk16]
  unfold digitOf at hk
  split at hk
  · rw [if_pos (by omega)]; omega
  · split at hk
    · rw [if_neg (by omega)]; omega
    · omega

/-- What DecodeHex answers, if anything. -/
def decH : List UInt8 → Option (List UInt8)
  | [] => some []
  | [_] => none
  | a :: b :: t => if digitOf a.toNat < 0 ∨ digitOf b.toNat < 0 then none else (decH t).map (UInt8.ofNat (16 * digitOf a.toNat + digitOf b.toNat).toNat :: ·)

theorem decH_bad (a : UInt8) (t : List UInt8) (h : digitOf a.toNat < 0) : decH (a :: t) = none := by
  cases t with
  | nil => rfl
  | cons b t => simp only [decH]; rw [if_pos (.inl h)]
theorem decH_bad2 (a b : UInt8) (t : List UInt8) (h : digitOf b.toNat < 0) : decH (a :: b :: t) = none := by
  simp only [decH]; rw [if_pos (.inr h)]
theorem decH_good (a b : UInt8) (t : List UInt8) (h1 : 0 ≤ digitOf a.toNat) (h2 : 0 ≤ digitOf b.toNat) :
    decH (a :: b :: t) = (decH t).map (UInt8.ofNat (16 * digitOf a.toNat + digitOf b.toNat).toNat :: ·) := by
  simp only [decH]; rw [if_neg (by omega)]
theorem decH_odd : ∀ (n : Nat) (l : List UInt8), l.length ≤ n → l.length % 2 = 1 → decH l = none := by
  intro n
  induction n with
  | zero => intro l h1 h2; omega
  | succ n ih =>
    intro l h1 h2
    match l, h1, h2 with
    | [a], _, _ => rfl
    | a :: b :: t, h1, h2 =>
      simp only [decH]
      rw [ih t (by simp at h1; omega) (by simp at h2; omega)]
      split <;> rfl

/-- What is still to come (from place 'p' on), behind what has come. -/
def HRest (s : List UInt8) (p : Nat) (acc : List UInt8) : Prop := decH s = (decH (s.drop p)).map (acc ++ ·)
theorem HRest.start (s : List UInt8) : HRest s 0 [] := by unfold HRest; simp
theorem HRest.last {s : List UInt8} {p : Nat} {acc : List UInt8} (h : HRest s p acc) (hp : s.length ≤ p) : decH s = some acc := by
  unfold HRest at h; rw [h, List.drop_of_length_le hp]; simp [decH]
theorem HRest.bad {s : List UInt8} {p : Nat} {acc : List UInt8} (h : HRest s p acc) (a : UInt8) (ha : s[p]? = some a) (hd : digitOf a.toNat < 0) : decH s = none := by
  unfold HRest at h
  obtain ⟨hp, rfl⟩ := List.getElem?_eq_some_iff.1 ha
  rw [h, List.drop_eq_getElem_cons hp, decH_bad _ _ hd]; rfl
theorem HRest.bad2 {s : List UInt8} {p : Nat} {acc : List UInt8} (h : HRest s p acc) (b : UInt8) (hb : s[p + 1]? = some b) (hd : digitOf b.toNat < 0) : decH s = none := by
  unfold HRest at h
  obtain ⟨hp, rfl⟩ := List.getElem?_eq_some_iff.1 hb
  rw [h, List.drop_eq_getElem_cons (by omega : p < s.length), List.drop_eq_getElem_cons hp, decH_bad2 _ _ _ hd]; rfl
theorem HRest.next {s : List UInt8} {p : Nat} {acc : List UInt8} (h : HRest s p acc) (a b : UInt8) (ha : s[p]? = some a) (hb : s[p + 1]? = some b) (h1 : 0 ≤ digitOf a.toNat) (h2 : 0 ≤ digitOf b.toNat) :
    HRest s (p + 2) (acc ++ [UInt8.ofNat (16 * digitOf a.toNat + digitOf b.toNat).toNat]) := by
  unfold HRest at h ⊢
  obtain ⟨hp, rfl⟩ := List.getElem?_eq_some_iff.1 ha
  obtain ⟨hp2, rfl⟩ := List.getElem?_eq_some_iff.1 hb
  rw [h, List.drop_eq_getElem_cons hp, List.drop_eq_getElem_cons hp2, decH_good _ _ _ h1 h2, Option.map_map]
  congr 1
  funext x
  simp

end Go.Proofs.Ytlmhdocfdpbhmaa.Plain
