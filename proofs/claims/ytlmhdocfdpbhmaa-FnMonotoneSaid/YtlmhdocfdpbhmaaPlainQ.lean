/-
  Plain mathematics of chapter 6: terms, their words, implicants, prime terms; covers by fewest of them.
-/
import Derived.Test.YtlmhdocfdpbhmaaPlainR
namespace Go.Proofs.Ytlmhdocfdpbhmaa
open Plain Go.RowKit
set_option linter.unusedVariables false

/-- A term: its mask and its value. -/
abbrev Plain.Tm := Nat × Nat
/-- The word of those of the first k inputs that agree with v on m. -/
def Plain.tmW (m v k : Nat) : Nat := tabN (fun x => if x &&& m = v then 1 else 0) k
theorem tmW_bit (m v k z : Nat) : (tmW m v k).testBit z = decide (z < k ∧ z &&& m = v) := by
  unfold tmW
  rw [tabN_bit, Bool.eq_iff_iff, decide_eq_true_iff, decide_eq_true_iff]
  constructor
  · rintro ⟨h1, h2⟩
    refine ⟨h1, ?_⟩
    by_cases h : z &&& m = v
    · exact h
    · rw [if_neg h] at h2; exact absurd h2 (by decide)
  · rintro ⟨h1, h2⟩; exact ⟨h1, if_pos h2⟩
theorem tmW_yes {m v x : Nat} (h : x &&& m = v) : tmW m v (x + 1) = tmW m v x ||| 2 ^ x := tabN_yes (if_pos h)
theorem tmW_no {m v x : Nat} (h : ¬ x &&& m = v) : tmW m v (x + 1) = tmW m v x := tabN_no (by rw [if_neg h]; decide)
theorem tmW_bound (m v x : Nat) (hx : x ≤ 32) : (tmW m v x : Int) ≤ 4294967295 := tabN_bound _ _ hx

theorem pow2i (y : Nat) : ((2 : Int) ^ y) = ((2 ^ y : Nat) : Int) := (Int.natCast_pow 2 y).symm

/-- Is (m, v) a term of n variables? -/
def Plain.isTm (n m v : Int) : Bool := decide ((0 ≤ n ∧ n ≤ 5) ∧ (0 ≤ m ∧ m < 2 ^ n.toNat) ∧ 0 ≤ v ∧ v.toNat &&& m.toNat = v.toNat)
theorem isTm_iff {n m v : Int} : isTm n m v = true ↔ (0 ≤ n ∧ n ≤ 5) ∧ (0 ≤ m ∧ m < 2 ^ n.toNat) ∧ 0 ≤ v ∧ v.toNat &&& m.toNat = v.toNat := decide_eq_true_iff
theorem isTm_yes {n m v : Nat} (hn : n ≤ 5) (hm : m < 2 ^ n) (hv : v &&& m = v) : isTm n m v = true :=
  isTm_iff.2 ⟨⟨by omega, by omega⟩, ⟨by omega, by rw [Int.toNat_natCast, pow2i]; omega⟩, by omega, by simpa using hv⟩
theorem isTm_nat {n m v : Int} (h : isTm n m v = true) : ∃ a b c : Nat, n = a ∧ m = b ∧ v = c ∧ a ≤ 5 ∧ b < 2 ^ a ∧ c &&& b = c := by
  obtain ⟨⟨h1, h2⟩, ⟨h3, h4⟩, h5, h6⟩ := isTm_iff.1 h
  refine ⟨n.toNat, m.toNat, v.toNat, by omega, by omega, by omega, by omega, ?_, h6⟩
  rw [pow2i] at h4; omega

theorem pow5q {n : Nat} (hn : n ≤ 5) : 2 ^ n ≤ 32 := Nat.pow_le_pow_right (by decide) hn
theorem tm_le {n m v : Nat} (hn : n ≤ 5) (hm : m < 2 ^ n) (hv : v &&& m = v) : m ≤ 31 ∧ v ≤ m := by
  have := pow5q hn
  have h : v ≤ m := by rw [← hv]; exact Nat.and_le_right
  omega

/-- Does the term hold for ones of a only? -/
def Plain.impB (n a m v : Nat) : Bool := decide (tmW m v (2 ^ n) &&& a = tmW m v (2 ^ n))
theorem sub_iff (w a : Nat) : w &&& a = w ↔ ∀ z, w.testBit z = true → a.testBit z = true := by
  constructor
  · intro h z hz
    have := congrArg (fun y => y.testBit z) h
    simp only [Nat.testBit_and, hz, Bool.true_and] at this
    exact this
  · intro h
    apply Nat.eq_of_testBit_eq
    intro z
    rw [Nat.testBit_and]
    cases hz : w.testBit z
    · rfl
    · rw [h z hz]; rfl
theorem impB_iff (n a m v : Nat) : impB n a m v = true ↔ ∀ x, x < 2 ^ n → x &&& m = v → a.testBit x = true := by
  unfold impB
  rw [decide_eq_true_iff, sub_iff]
  constructor
  · intro h x h1 h2; exact h x (by rw [tmW_bit]; exact decide_eq_true ⟨h1, h2⟩)
  · intro h z hz
    rw [tmW_bit, decide_eq_true_iff] at hz
    exact h z hz.1 hz.2

/-- A bit is taken out. -/
def Plain.offB (m i : Nat) : Nat := m - (m &&& 2 ^ i)
theorem offB_facts : ∀ m < 32, ∀ i < 5, bitN m i = 1 → offB m i < m ∧ (m &&& 2 ^ i) = 2 ^ i := by decide +kernel
theorem offB_sub : ∀ m < 32, ∀ v < 32, ∀ i < 5, v &&& m = v → offB v i &&& offB m i = offB v i := by decide +kernel
theorem offB_and : ∀ m < 32, ∀ v < 32, ∀ i < 5, offB (v &&& m) i = v &&& offB m i := by decide +kernel
theorem offB_lt (m i : Nat) : offB m i ≤ m := Nat.sub_le _ _

/-- Is the term prime, as far as the first k variables say? -/
def Plain.primeX (n a m v k : Nat) : Prop := ∀ i, i < k → bitN m i = 1 → impB n a (offB m i) (offB v i) = false
def Plain.primeB (n a m v : Nat) : Bool := impB n a m v && (List.range n).all fun i => !(decide (bitN m i = 1) && impB n a (offB m i) (offB v i))
theorem primeB_iff (n a m v : Nat) : primeB n a m v = true ↔ impB n a m v = true ∧ primeX n a m v n := by
  unfold primeB primeX
  rw [Bool.and_eq_true, List.all_eq_true]
  refine and_congr_right fun _ => ?_
  constructor
  · intro h i hi hb
    have := h i (List.mem_range.2 hi)
    simpa [hb] using this
  · intro h i hi
    have hi' := List.mem_range.1 hi
    by_cases hb : bitN m i = 1
    · simp [h i hi' hb]
    · simp [hb]
theorem primeB_no1 {n a m v : Nat} (h : impB n a m v = false) : primeB n a m v = false := by unfold primeB; rw [h]; rfl
theorem primeB_no2 {n a m v i : Nat} (hi : i < n) (hb : bitN m i = 1) (h : impB n a (offB m i) (offB v i) = true) : primeB n a m v = false := by
  rw [Bool.eq_false_iff]
  intro hc
  have := ((primeB_iff n a m v).1 hc).2 i hi hb
  rw [h] at this; exact absurd this (by decide)

/-! All terms, in their order. -/
def Plain.rowT (m k : Nat) : List Tm := ((List.range k).filter fun v => decide (v &&& m = v)).map fun v => (m, v)
def Plain.upT (m k : Nat) : List Tm := ((List.range m).flatMap fun m => rowT m (m + 1)) ++ rowT m k
def Plain.termsL (n : Nat) : List Tm := (List.range (2 ^ n)).flatMap fun m => rowT m (m + 1)
theorem rowT_yes {m k : Nat} (h : k &&& m = k) : rowT m (k + 1) = rowT m k ++ [(m, k)] := by
  unfold rowT; rw [List.range_succ, List.filter_append, List.map_append]; simp [h]
theorem rowT_no {m k : Nat} (h : ¬ k &&& m = k) : rowT m (k + 1) = rowT m k := by
  unfold rowT; rw [List.range_succ, List.filter_append, List.map_append]; simp [h]
theorem upT_zero : upT 0 0 = [] := rfl
theorem upT_yes {m k : Nat} (h : k &&& m = k) : upT m (k + 1) = upT m k ++ [(m, k)] := by unfold upT; rw [rowT_yes h, List.append_assoc]
theorem upT_no {m k : Nat} (h : ¬ k &&& m = k) : upT m (k + 1) = upT m k := by unfold upT; rw [rowT_no h]
theorem upT_next (m : Nat) : upT (m + 1) 0 = upT m (m + 1) := by
  unfold upT
  rw [List.range_succ, List.flatMap_append]
  simp [rowT]
theorem upT_end (n : Nat) : upT (2 ^ n) 0 = termsL n := by unfold upT termsL; simp [rowT]
theorem mem_rowT {m k : Nat} {t : Tm} : t ∈ rowT m k ↔ t.1 = m ∧ t.2 < k ∧ t.2 &&& m = t.2 := by
  unfold rowT
  rw [List.mem_map]
  constructor
  · rintro ⟨v, hv, rfl⟩
    rw [List.mem_filter, List.mem_range, decide_eq_true_iff] at hv
    exact ⟨rfl, hv⟩
  · rintro ⟨h1, h2, h3⟩
    exact ⟨t.2, by rw [List.mem_filter, List.mem_range, decide_eq_true_iff]; exact ⟨h2, h3⟩, by rw [← h1]⟩
theorem mem_terms {n : Nat} {t : Tm} : t ∈ termsL n ↔ t.1 < 2 ^ n ∧ t.2 &&& t.1 = t.2 := by
  unfold termsL
  rw [List.mem_flatMap]
  constructor
  · rintro ⟨m, hm, ht⟩
    obtain ⟨h1, h2, h3⟩ := mem_rowT.1 ht
    rw [h1]; exact ⟨List.mem_range.1 hm, h3⟩
  · rintro ⟨h1, h2⟩
    have hle : t.2 ≤ t.1 := by rw [← h2]; exact Nat.and_le_right
    exact ⟨t.1, List.mem_range.2 h1, mem_rowT.2 ⟨rfl, by omega, h2⟩⟩
theorem terms_len : ∀ n < 6, (termsL n).length ≤ 243 := by decide +kernel
/-- What has come ahead of (m, k) is a beginning of all. -/
theorem upT_prefix (n m k : Nat) (hm : m < 2 ^ n) (hk : k ≤ m + 1) : ∃ r, termsL n = upT m k ++ r := by
  have h1 : ∃ r, rowT m (m + 1) = rowT m k ++ r := by
    have hgen : ∀ j, ∃ r, rowT m (k + j) = rowT m k ++ r := by
      intro j
      induction j with
      | zero => exact ⟨[], by simp⟩
      | succ j ih =>
        obtain ⟨r, hr⟩ := ih
        by_cases h : (k + j) &&& m = k + j
        · exact ⟨r ++ [(m, k + j)], by rw [← Nat.add_assoc, rowT_yes h, hr, List.append_assoc]⟩
        · exact ⟨r, by rw [← Nat.add_assoc, rowT_no h, hr]⟩
    obtain ⟨r, hr⟩ := hgen (m + 1 - k)
    exact ⟨r, by rw [← hr]; congr 1; omega⟩
  obtain ⟨r, hr⟩ := h1
  have hgen : ∀ j, ∃ q, (List.range (m + 1 + j)).flatMap (fun m => rowT m (m + 1)) = upT m k ++ q := by
    intro j
    induction j with
    | zero => exact ⟨r, by unfold upT; rw [Nat.add_zero, List.range_succ, List.flatMap_append, List.append_assoc, ← hr]; simp⟩
    | succ j ih =>
      obtain ⟨q, hq⟩ := ih
      refine ⟨q ++ rowT (m + 1 + j) (m + 1 + j + 1), ?_⟩
      rw [← Nat.add_assoc, List.range_succ, List.flatMap_append, hq, List.append_assoc]; simp
  obtain ⟨q, hq⟩ := hgen (2 ^ n - (m + 1))
  exact ⟨q, by rw [← hq]; unfold termsL; congr 2; omega⟩

/-! The prime terms. -/
def Plain.primeP (n a : Nat) (t : Tm) : Bool := primeB n a t.1 t.2
def Plain.primesL (n a : Nat) : List Tm := (termsL n).filter (primeP n a)
def Plain.primesU (n a m k : Nat) : List Tm := (upT m k).filter (primeP n a)
theorem primesU_zero (n a : Nat) : primesU n a 0 0 = [] := rfl
theorem primesU_yes {n a m k : Nat} (h : k &&& m = k) (hp : primeB n a m k = true) : primesU n a m (k + 1) = primesU n a m k ++ [(m, k)] := by
  unfold primesU; rw [upT_yes h, List.filter_append]; simp [primeP, hp]
theorem primesU_no {n a m k : Nat} (h : ¬ (k &&& m = k ∧ primeB n a m k = true)) : primesU n a m (k + 1) = primesU n a m k := by
  unfold primesU
  by_cases hk : k &&& m = k
  · rw [upT_yes hk, List.filter_append]
    have : primeB n a m k = false := by rw [Bool.eq_false_iff]; exact fun hc => h ⟨hk, hc⟩
    simp [primeP, this]
  · rw [upT_no hk]
theorem primesU_next (n a m : Nat) : primesU n a (m + 1) 0 = primesU n a m (m + 1) := by unfold primesU; rw [upT_next]
theorem primesU_end (n a : Nat) : primesU n a (2 ^ n) 0 = primesL n a := by unfold primesU; rw [upT_end]; rfl
theorem primes_snoc_yes {n a : Nat} {l : List Tm} {t : Tm} (hp : primeP n a t = true) : (l ++ [t]).filter (primeP n a) = l.filter (primeP n a) ++ [t] := by
  rw [List.filter_append]; simp [hp]
theorem primes_snoc_no {n a : Nat} {l : List Tm} {t : Tm} (hp : primeP n a t = false) : (l ++ [t]).filter (primeP n a) = l.filter (primeP n a) := by
  rw [List.filter_append]; simp [hp]
theorem mem_primes {n a : Nat} {t : Tm} : t ∈ primesL n a ↔ (t.1 < 2 ^ n ∧ t.2 &&& t.1 = t.2) ∧ primeB n a t.1 t.2 = true := by
  unfold primesL; rw [List.mem_filter, mem_terms]; rfl
theorem primes_len {n a : Nat} (hn : n ≤ 5) : (primesL n a).length ≤ 243 := Nat.le_trans (List.length_filter_le _ _) (terms_len n (by omega))
theorem primesU_len {n a m k : Nat} (hn : n ≤ 5) (hm : m < 2 ^ n) (hk : k ≤ m + 1) : (primesU n a m k).length ≤ 243 := by
  obtain ⟨r, hr⟩ := upT_prefix n m k hm hk
  have h1 := terms_len n (by omega)
  rw [hr, List.length_append] at h1
  have h2 : (primesU n a m k).length ≤ (upT m k).length := List.length_filter_le _ _
  omega

/-- Every implicant lies in a prime term. -/
theorem prime_above {n a m0 v : Nat} (hn : n ≤ 5) (hm : m0 < 2 ^ n) (hv : v < 32) (h : impB n a m0 (v &&& m0) = true) :
    ∃ m, m &&& m0 = m ∧ (m, v &&& m) ∈ primesL n a := by
  have hp := pow5q hn
  have hgen : ∀ k m, m ≤ k → m &&& m0 = m → impB n a m (v &&& m) = true → ∃ m, m &&& m0 = m ∧ (m, v &&& m) ∈ primesL n a := by
    intro k
    induction k with
    | zero =>
      intro m hmk hs hi
      obtain rfl : m = 0 := by omega
      refine ⟨0, by simp, mem_primes.2 ⟨⟨by omega, by simp⟩, (primeB_iff _ _ _ _).2 ⟨hi, fun i _ hb => ?_⟩⟩⟩
      simp [bitN] at hb
    | succ k ih =>
      intro m hmk hs hi
      have hle : m ≤ m0 := by rw [← hs]; exact Nat.and_le_right
      by_cases hx : ∃ i, i < n ∧ bitN m i = 1 ∧ impB n a (offB m i) (offB (v &&& m) i) = true
      · obtain ⟨i, hin, hb, hii⟩ := hx
        obtain ⟨f1, f2⟩ := offB_facts m (by omega) i (by omega) hb
        refine ih (offB m i) (by omega) ?_ ?_
        · have := offB_and m0 (by omega) m (by omega) i (by omega)
          have e1 := offB_and m (by omega) m0 (by omega) i (by omega)
          rw [Nat.and_comm m0 m, hs] at e1
          rw [Nat.and_comm]; exact e1.symm
        · rw [← offB_and m (by omega) v hv i (by omega)]; exact hii
      · refine ⟨m, hs, mem_primes.2 ⟨⟨by show m < 2 ^ n; omega, by show (v &&& m) &&& m = v &&& m; rw [Nat.and_assoc, Nat.and_self]⟩, (primeB_iff _ _ _ _).2 ⟨hi, fun i hin hb => ?_⟩⟩⟩
        rw [Bool.eq_false_iff]
        exact fun hc => hx ⟨i, hin, hb, hc⟩
  exact hgen m0 m0 (Nat.le_refl _) (Nat.and_self _) h

end Go.Proofs.Ytlmhdocfdpbhmaa

namespace Go.Proofs.Ytlmhdocfdpbhmaa
open Plain Go.RowKit
set_option linter.unusedVariables false

/-! Bits of one number without those of another. -/
def Plain.cutN (a b : Nat) : Nat := a ^^^ (a &&& b)
theorem cutN_bit (a b z : Nat) : (cutN a b).testBit z = (a.testBit z && !b.testBit z) := by
  unfold cutN
  rw [Nat.testBit_xor, Nat.testBit_and]
  cases a.testBit z <;> cases b.testBit z <;> rfl
theorem half_eq (a : Nat) : a = 2 * (a / 2) + a % 2 := by omega
theorem sub_xor : ∀ k a c : Nat, a ≤ k → c &&& a = c → a - c = a ^^^ c := by
  intro k
  induction k with
  | zero =>
    intro a c ha hc
    obtain rfl : a = 0 := by omega
    rw [Nat.and_zero] at hc
    subst hc; rfl
  | succ k ih =>
    intro a c ha hc
    by_cases h0 : a = 0
    · subst h0
      rw [Nat.and_zero] at hc
      subst hc; rfl
    · have h2 : (c / 2) &&& (a / 2) = c / 2 := by
        have := congrArg (fun y => y / 2) hc
        simpa [Nat.and_div_two] using this
      have hh := ih (a / 2) (c / 2) (by omega) h2
      have hx : (a ^^^ c) / 2 = a / 2 ^^^ c / 2 := Nat.xor_div_two
      have hle : c / 2 ≤ a / 2 := by rw [← h2]; exact Nat.and_le_right
      have hm : (a ^^^ c) % 2 = (a % 2 + c % 2) % 2 := by
        have := Nat.testBit_xor a c 0
        simp only [Nat.testBit_zero] at this
        rcases Nat.mod_two_eq_zero_or_one a with e1 | e1 <;> rcases Nat.mod_two_eq_zero_or_one c with e2 | e2 <;> rcases Nat.mod_two_eq_zero_or_one (a ^^^ c) with e3 | e3 <;> simp [e1, e2, e3] at this ⊢
      have hb : c % 2 ≤ a % 2 := by
        have := congrArg (fun y => y.testBit 0) hc
        rw [Nat.testBit_and] at this
        simp only [Nat.testBit_zero] at this
        rcases Nat.mod_two_eq_zero_or_one a with e1 | e1 <;> rcases Nat.mod_two_eq_zero_or_one c with e2 | e2 <;> simp [e1, e2] at this ⊢
      have := half_eq (a ^^^ c)
      omega
theorem cutN_sub (a b : Nat) : a - (a &&& b) = cutN a b := sub_xor a a (a &&& b) (Nat.le_refl _) (by rw [Nat.and_comm, ← Nat.and_assoc, Nat.and_self])
theorem cutN_le (a b : Nat) : cutN a b ≤ a := by rw [← cutN_sub]; exact Nat.sub_le _ _
theorem cutN_zero (b : Nat) : cutN 0 b = 0 := by rw [← cutN_sub]; simp
theorem cutN_none {a b : Nat} (h : b &&& a = 0) : cutN a b = a := by rw [← cutN_sub, Nat.and_comm, h]; rfl
theorem zero_bits {a : Nat} : a = 0 ↔ ∀ z, a.testBit z = false := by
  constructor
  · rintro rfl z; exact Nat.zero_testBit z
  · intro h; apply Nat.eq_of_testBit_eq; intro z; rw [h z, Nat.zero_testBit]

/-! Covers. W: the word of a term. -/
def Plain.firstC (W : Tm → Nat) : List Tm → Nat → Nat → Option (List Tm)
  | _, 0, left => if left = 0 then some [] else none
  | [], _ + 1, _ => none
  | t :: l, c + 1, left =>
    match firstC W l c (cutN left (W t)) with
    | some r => some (t :: r)
    | none => firstC W l (c + 1) left
def Plain.coverM (W : Tm → Nat) : List Tm → Nat → Nat → Option (List Tm)
  | [], k, left => if left = 0 then some [] else none
  | t :: l, k, left => if left = 0 then some [] else
    match k with
    | 0 => none
    | k + 1 =>
      if W t &&& left = 0 then coverM W l (k + 1) left else
      match coverM W l k (cutN left (W t)) with
      | some r => some (t :: r)
      | none => coverM W l (k + 1) left
theorem firstC_zero (W : Tm → Nat) (l : List Tm) (left : Nat) : firstC W l 0 left = if left = 0 then some [] else none := by cases l <;> rfl
theorem firstC_nil (W : Tm → Nat) (c left : Nat) : firstC W [] (c + 1) left = none := rfl
theorem firstC_cons (W : Tm → Nat) (t : Tm) (l : List Tm) (c left : Nat) : firstC W (t :: l) (c + 1) left =
    match firstC W l c (cutN left (W t)) with | some r => some (t :: r) | none => firstC W l (c + 1) left := rfl
theorem coverM_done (W : Tm → Nat) (l : List Tm) (k : Nat) : coverM W l k 0 = some [] := by cases l <;> simp [coverM]
theorem coverM_nil {W : Tm → Nat} {k left : Nat} (h : left ≠ 0) : coverM W [] k left = none := by simp [coverM, h]
theorem coverM_zero {W : Tm → Nat} {l : List Tm} {left : Nat} (h : left ≠ 0) : coverM W l 0 left = none := by cases l <;> simp [coverM, h]
theorem coverM_skip {W : Tm → Nat} {t : Tm} {l : List Tm} {k left : Nat} (h : left ≠ 0) (hz : W t &&& left = 0) : coverM W (t :: l) (k + 1) left = coverM W l (k + 1) left := by
  simp [coverM, h, hz]
theorem coverM_cons {W : Tm → Nat} {t : Tm} {l : List Tm} {k left : Nat} (h : left ≠ 0) (hz : W t &&& left ≠ 0) : coverM W (t :: l) (k + 1) left =
    match coverM W l k (cutN left (W t)) with | some r => some (t :: r) | none => coverM W l (k + 1) left := by
  conv => lhs; unfold coverM
  simp [h, hz]
theorem firstC_mono {W : Tm → Nat} {t : Tm} {l : List Tm} {c left : Nat} (h : firstC W (t :: l) c left = none) : firstC W l c left = none := by
  cases c with
  | zero => rw [firstC_zero] at h ⊢; exact h
  | succ c =>
    rw [firstC_cons] at h
    split at h
    · exact absurd h (by simp)
    · exact h
theorem firstC_step {W : Tm → Nat} {t : Tm} {l : List Tm} {c left : Nat} (h : firstC W (t :: l) (c + 1) left = none) : firstC W l c (cutN left (W t)) = none := by
  rw [firstC_cons] at h
  split at h
  · exact absurd h (by simp)
  · assumption
theorem cover_some (W : Tm → Nat) : ∀ (l : List Tm) (k left : Nat) (r : List Tm), coverM W l k left = some r → ∃ c, c ≤ k ∧ firstC W l c left ≠ none := by
  intro l
  induction l with
  | nil =>
    intro k left r h
    by_cases h0 : left = 0
    · exact ⟨0, Nat.zero_le _, by simp [firstC_zero, h0]⟩
    · rw [coverM_nil h0] at h; exact absurd h (by simp)
  | cons t l ih =>
    intro k left r h
    by_cases h0 : left = 0
    · exact ⟨0, Nat.zero_le _, by simp [firstC_zero, h0]⟩
    · cases k with
      | zero => rw [coverM_zero h0] at h; exact absurd h (by simp)
      | succ k =>
        by_cases hz : W t &&& left = 0
        · rw [coverM_skip h0 hz] at h
          obtain ⟨c, h1, h2⟩ := ih _ _ _ h
          exact ⟨c, h1, fun hc => h2 (firstC_mono hc)⟩
        · rw [coverM_cons h0 hz] at h
          split at h
          · rename_i q hq
            obtain ⟨c, h1, h2⟩ := ih _ _ _ hq
            exact ⟨c + 1, by omega, fun hc => h2 (firstC_step hc)⟩
          · obtain ⟨c, h1, h2⟩ := ih _ _ _ h
            exact ⟨c, h1, fun hc => h2 (firstC_mono hc)⟩
/-- With the least number of terms both searches find the same. -/
theorem cover_least (W : Tm → Nat) : ∀ (l : List Tm) (c left : Nat) (r : List Tm), firstC W l c left = some r → (∀ d, d < c → firstC W l d left = none) → coverM W l c left = some r := by
  intro l
  induction l with
  | nil =>
    intro c left r h hm
    cases c with
    | zero => rw [firstC_zero] at h; exact h
    | succ c => rw [firstC_nil] at h; exact absurd h (by simp)
  | cons t l ih =>
    intro c left r h hm
    cases c with
    | zero =>
      rw [firstC_zero] at h
      by_cases h0 : left = 0
      · subst h0; rw [coverM_done]; exact h
      · rw [if_neg h0] at h; exact absurd h (by simp)
    | succ c =>
      have h0 : left ≠ 0 := by
        rintro rfl
        have := hm 0 (by omega)
        rw [firstC_zero] at this
        exact absurd this (by simp)
      have hml : ∀ d, d < c + 1 → firstC W l d left = none := fun d hd => firstC_mono (hm d hd)
      by_cases hz : W t &&& left = 0
      · rw [coverM_skip h0 hz]
        refine ih _ _ _ ?_ hml
        rw [firstC_cons, cutN_none hz, hml c (by omega)] at h
        exact h
      · have hms : ∀ d, d < c → firstC W l d (cutN left (W t)) = none := fun d hd => firstC_step (hm (d + 1) (by omega))
        rw [coverM_cons h0 hz]
        rw [firstC_cons] at h
        cases hf : firstC W l c (cutN left (W t)) with
        | some q =>
          rw [hf] at h
          rw [ih _ _ _ hf hms]
          exact h
        | none =>
          rw [hf] at h
          have hn : coverM W l c (cutN left (W t)) = none := by
            cases hc : coverM W l c (cutN left (W t)) with
            | none => rfl
            | some q =>
              obtain ⟨d, h1, h2⟩ := cover_some W _ _ _ _ hc
              rcases (show d < c ∨ d = c by omega) with h3 | rfl
              · exact absurd (hms d h3) h2
              · exact absurd hf h2
          rw [hn]
          exact ih _ _ _ h hml
theorem cover_none (W : Tm → Nat) (l : List Tm) (k left : Nat) (h : ∀ d, d ≤ k → firstC W l d left = none) : coverM W l k left = none := by
  cases hc : coverM W l k left with
  | none => rfl
  | some q =>
    obtain ⟨d, h1, h2⟩ := cover_some W _ _ _ _ hc
    exact absurd (h d h1) h2
/-- What is found: so many of the list, in its order, that have all bits. -/
theorem firstC_sound (W : Tm → Nat) : ∀ (l : List Tm) (c left : Nat) (r : List Tm), firstC W l c left = some r → List.Sublist r l ∧ r.length = c ∧ ∀ z, left.testBit z = true → ∃ t ∈ r, (W t).testBit z = true := by
  intro l
  induction l with
  | nil =>
    intro c left r h
    cases c with
    | zero =>
      rw [firstC_zero] at h
      by_cases h0 : left = 0
      · rw [if_pos h0] at h
        cases h
        exact ⟨List.Sublist.slnil, rfl, fun z hz => by rw [h0, Nat.zero_testBit] at hz; exact absurd hz (by decide)⟩
      · rw [if_neg h0] at h; exact absurd h (by simp)
    | succ c => rw [firstC_nil] at h; exact absurd h (by simp)
  | cons t l ih =>
    intro c left r h
    cases c with
    | zero =>
      rw [firstC_zero] at h
      by_cases h0 : left = 0
      · rw [if_pos h0] at h
        cases h
        exact ⟨List.nil_sublist _, rfl, fun z hz => by rw [h0, Nat.zero_testBit] at hz; exact absurd hz (by decide)⟩
      · rw [if_neg h0] at h; exact absurd h (by simp)
    | succ c =>
      rw [firstC_cons] at h
      split at h
      · rename_i q hq
        cases h
        obtain ⟨h1, h2, h3⟩ := ih _ _ _ hq
        refine ⟨h1.cons_cons t, by simp [h2], fun z hz => ?_⟩
        cases hw : (W t).testBit z with
        | true => exact ⟨t, by simp, hw⟩
        | false =>
          obtain ⟨u, hu, hb⟩ := h3 z (by rw [cutN_bit, hz, hw]; rfl)
          exact ⟨u, by simp [hu], hb⟩
      · obtain ⟨h1, h2, h3⟩ := ih _ _ _ h
        exact ⟨h1.cons t, h2, h3⟩
theorem firstC_full (W : Tm → Nat) {s l : List Tm} (hs : List.Sublist s l) : ∀ left : Nat, (∀ z, left.testBit z = true → ∃ t ∈ s, (W t).testBit z = true) → firstC W l s.length left ≠ none := by
  induction hs with
  | slnil =>
    intro left h
    have h0 : left = 0 := zero_bits.2 fun z => by
      cases hz : left.testBit z with
      | false => rfl
      | true => obtain ⟨t, ht, _⟩ := h z hz; exact absurd ht (by simp)
    simp [firstC_zero, h0]
  | cons t hs ih =>
    intro left h hc
    exact ih left h (firstC_mono hc)
  | cons_cons t hs ih =>
    intro left h hc
    rw [List.length_cons] at hc
    refine ih (cutN left (W t)) (fun z hz => ?_) (firstC_step hc)
    rw [cutN_bit, Bool.and_eq_true] at hz
    obtain ⟨u, hu, hb⟩ := h z hz.1
    rcases List.mem_cons.1 hu with rfl | hu
    · rw [hb] at hz; exact absurd hz.2 (by decide)
    · exact ⟨u, hu, hb⟩

end Go.Proofs.Ytlmhdocfdpbhmaa

namespace Go.Proofs.Ytlmhdocfdpbhmaa
open Plain Go.RowKit
set_option linter.unusedVariables false

/-! Fewest prime terms. -/
def Plain.wT (n : Nat) (t : Tm) : Nat := tmW t.1 t.2 (2 ^ n)
theorem wT_bit (n : Nat) (t : Tm) (z : Nat) : (wT n t).testBit z = decide (z < 2 ^ n ∧ z &&& t.1 = t.2) := tmW_bit _ _ _ _
theorem wT_bound (n : Nat) (t : Tm) (hn : n ≤ 5) : (wT n t : Int) ≤ 4294967295 := tmW_bound _ _ _ (pow5q hn)
def Plain.minGo (W : Tm → Nat) (l : List Tm) (a : Nat) : Nat → Nat → List Tm
  | 0, _ => []
  | k + 1, c => match firstC W l c a with
    | some r => r
    | none => minGo W l a k (c + 1)
def Plain.minS (n a : Nat) : List Tm := minGo (wT n) (primesL n a) a 9 0
theorem minGo_at (W : Tm → Nat) (l : List Tm) (a c : Nat) (r : List Tm) (h : firstC W l c a = some r) (hm : ∀ d, d < c → firstC W l d a = none) : ∀ k d, d ≤ c → c < d + k → minGo W l a k d = r := by
  intro k
  induction k with
  | zero => intro d h1 h2; omega
  | succ k ih =>
    intro d h1 h2
    rcases (show d = c ∨ d < c by omega) with rfl | h3
    · unfold minGo; rw [h]
    · unfold minGo; rw [hm d h3]; exact ih (d + 1) (by omega) (by omega)
theorem least_of (W : Tm → Nat) (l : List Tm) (a : Nat) : ∀ c, firstC W l c a ≠ none → ∃ d r, d ≤ c ∧ firstC W l d a = some r ∧ ∀ e, e < d → firstC W l e a = none := by
  intro c
  induction c using Nat.strongRecOn with
  | _ c ih =>
    intro h
    by_cases hx : ∃ e, e < c ∧ firstC W l e a ≠ none
    · obtain ⟨e, h1, h2⟩ := hx
      obtain ⟨d, r, h3, h4, h5⟩ := ih e h1 h2
      exact ⟨d, r, by omega, h4, h5⟩
    · cases hf : firstC W l c a with
      | none => exact absurd hf h
      | some r =>
        refine ⟨c, r, Nat.le_refl _, hf, fun e he => ?_⟩
        cases hg : firstC W l e a with
        | none => rfl
        | some q => exact absurd ⟨e, he, by rw [hg]; simp⟩ hx

theorem nodup_few {l : List Tm} (hl : l.Nodup) : ∀ ps : List Tm, (l.filter fun t => decide (t ∈ ps)).length ≤ ps.length := by
  induction l with
  | nil => intro ps; simp
  | cons x l ih =>
    intro ps
    rw [List.nodup_cons] at hl
    by_cases hx : x ∈ ps
    · rw [List.filter_cons_of_pos (by simpa using hx), List.length_cons]
      have e : (l.filter fun t => decide (t ∈ ps)) = l.filter fun t => decide (t ∈ ps.erase x) := by
        apply List.filter_congr
        intro y hy
        have hne : y ≠ x := fun e => hl.1 (e ▸ hy)
        rw [Bool.eq_iff_iff, decide_eq_true_iff, decide_eq_true_iff, List.mem_erase_of_ne hne]
      have h1 := ih hl.2 (ps.erase x)
      have h2 := List.length_erase_of_mem hx
      have h3 : 0 < ps.length := List.length_pos_of_mem hx
      rw [e]; omega
    · rw [List.filter_cons_of_neg (by simpa using hx)]
      exact ih hl.2 ps
def Plain.incB : List Nat → Bool
  | a :: b :: l => decide (a < b) && incB (b :: l)
  | _ => true
theorem incB_pair : ∀ l : List Nat, incB l = true → l.Pairwise (· < ·) := by
  intro l
  induction l with
  | nil => intro _; exact List.Pairwise.nil
  | cons a l ih =>
    intro h
    cases l with
    | nil => simp
    | cons b l =>
      have h' : (decide (a < b) && incB (b :: l)) = true := h
      rw [Bool.and_eq_true, decide_eq_true_iff] at h'
      have h2 := ih h'.2
      rw [List.pairwise_cons] at h2 ⊢
      refine ⟨fun x hx => ?_, List.pairwise_cons.2 h2⟩
      rcases List.mem_cons.1 hx with rfl | hx
      · exact h'.1
      · have := h2.1 x hx; omega
theorem terms_inc : ∀ n < 6, incB ((termsL n).map fun t => t.1 * 32 + t.2) = true := by decide +kernel
theorem terms_nodup {n : Nat} (hn : n ≤ 5) : (termsL n).Nodup := by
  have h := incB_pair _ (terms_inc n (by omega))
  rw [List.pairwise_map] at h
  exact h.imp fun hlt e => by rw [e] at hlt; exact absurd hlt (Nat.lt_irrefl _)
theorem primes_nodup {n a : Nat} (hn : n ≤ 5) : (primesL n a).Nodup := (terms_nodup hn).filter _

theorem prime_sub {n a : Nat} {t : Tm} (h : t ∈ primesL n a) (z : Nat) (hz : (wT n t).testBit z = true) : a.testBit z = true := by
  have hp := ((primeB_iff _ _ _ _).1 (mem_primes.1 h).2).1
  rw [wT_bit, decide_eq_true_iff] at hz
  exact (impB_iff _ _ _ _).1 hp z hz.1 hz.2
theorem low_all : ∀ n < 6, ∀ z < 2 ^ n, z &&& (2 ^ n - 1) = z := by decide +kernel
theorem ones_in {n a z : Nat} (ha : a < 2 ^ 2 ^ n) (hz : a.testBit z = true) : z < 2 ^ n := by
  rcases Nat.lt_or_ge z (2 ^ n) with h | h
  · exact h
  · have := Nat.testBit_lt_two_pow (Nat.lt_of_lt_of_le ha (Nat.pow_le_pow_right (by decide) h))
    rw [hz] at this; exact absurd this (by decide)
/-- Each one of the table lies in a prime term. -/
theorem prime_at {n a z : Nat} (hn : n ≤ 5) (ha : a < 2 ^ 2 ^ n) (hz : a.testBit z = true) : ∃ t ∈ primesL n a, (wT n t).testBit z = true := by
  have hzn := ones_in ha hz
  have hp := pow5q hn
  have hp1 : 0 < 2 ^ n := Nat.two_pow_pos n
  obtain ⟨m, h1, h2⟩ := prime_above (n := n) (a := a) (m0 := 2 ^ n - 1) (v := z) hn (by omega) (by omega) ((impB_iff _ _ _ _).2 fun x hx e => by
    rw [low_all n (by omega) x hx, low_all n (by omega) z hzn] at e
    rw [e]; exact hz)
  exact ⟨_, h2, by rw [wT_bit]; exact decide_eq_true ⟨hzn, rfl⟩⟩
theorem pair_fact1 : ∀ n < 5, ∀ k < 8, ∀ x < 16, (2 * k + 1 < 2 ^ n ∧ x < 2 ^ n ∧ x &&& (2 ^ n - 2) = 2 * k &&& (2 ^ n - 2)) → x = 2 * k ∨ x = 2 * k + 1 := by decide +kernel
theorem pair_fact2 : ∀ n < 5, ∀ k < 8, 2 * k + 1 < 2 ^ n → (2 * k + 1) &&& (2 ^ n - 2) = 2 * k &&& (2 ^ n - 2) := by decide +kernel
theorem pair_facts (n : Nat) (hn : n < 5) (k : Nat) (hk : k < 8) (h : 2 * k + 1 < 2 ^ n) : (∀ x < 2 ^ n, x &&& (2 ^ n - 2) = 2 * k &&& (2 ^ n - 2) → x = 2 * k ∨ x = 2 * k + 1) ∧ (2 * k + 1) &&& (2 ^ n - 2) = 2 * k &&& (2 ^ n - 2) := by
  have hp : 2 ^ n ≤ 2 ^ 4 := Nat.pow_le_pow_right (by decide) (by omega)
  exact ⟨fun x hx e => pair_fact1 n hn k hk x (by omega) ⟨h, hx, e⟩, pair_fact2 n hn k hk h⟩
/-- Two neighbours that are both ones lie in one prime term. -/
theorem prime_pair {n a k : Nat} (hn : n ≤ 4) (ha : a < 2 ^ 2 ^ n) (hk : k < 8) (h0 : a.testBit (2 * k) = true) (h1 : a.testBit (2 * k + 1) = true) :
    ∃ t ∈ primesL n a, (wT n t).testBit (2 * k) = true ∧ (wT n t).testBit (2 * k + 1) = true := by
  have hz := ones_in ha h1
  have hp := pow5q (n := n) (by omega)
  obtain ⟨f1, f2⟩ := pair_facts n (by omega) k hk hz
  obtain ⟨m, e1, e2⟩ := prime_above (n := n) (a := a) (m0 := 2 ^ n - 2) (v := 2 * k) (by omega) (by omega) (by omega) ((impB_iff _ _ _ _).2 fun x hx e => by
    rcases f1 x hx e with rfl | rfl
    · exact h0
    · exact h1)
  refine ⟨_, e2, ?_, ?_⟩
  · rw [wT_bit]; exact decide_eq_true ⟨by omega, rfl⟩
  · rw [wT_bit]
    refine decide_eq_true ⟨hz, ?_⟩
    show (2 * k + 1) &&& m = 2 * k &&& m
    have g : ∀ y, y &&& m = (y &&& (2 ^ n - 2)) &&& m := fun y => by rw [Nat.and_assoc, Nat.and_comm (2 ^ n - 2) m, e1]
    rw [g (2 * k + 1), f2, ← g]
theorem prime_few {n a : Nat} (hn : n ≤ 4) (ha : a < 2 ^ 2 ^ n) : ∀ k, k ≤ 8 → ∃ ps : List Tm, ps.length ≤ k ∧ (∀ t ∈ ps, t ∈ primesL n a) ∧ ∀ z, z < 2 * k → a.testBit z = true → ∃ t ∈ ps, (wT n t).testBit z = true := by
  intro k
  induction k with
  | zero => exact fun _ => ⟨[], by simp, by simp, fun z hz => by omega⟩
  | succ k ih =>
    intro hk
    obtain ⟨ps, h1, h2, h3⟩ := ih (by omega)
    have hone : ∀ u : Tm, u ∈ primesL n a → (∀ z, (z = 2 * k ∨ z = 2 * k + 1) → a.testBit z = true → (wT n u).testBit z = true) →
        ∃ ps : List Tm, ps.length ≤ k + 1 ∧ (∀ t ∈ ps, t ∈ primesL n a) ∧ ∀ z, z < 2 * (k + 1) → a.testBit z = true → ∃ t ∈ ps, (wT n t).testBit z = true := by
      intro u hu hc
      refine ⟨u :: ps, by simp; omega, fun t ht => ?_, fun z hz hb => ?_⟩
      · rcases List.mem_cons.1 ht with rfl | ht
        · exact hu
        · exact h2 t ht
      · rcases (show z < 2 * k ∨ z = 2 * k ∨ z = 2 * k + 1 by omega) with g | g
        · obtain ⟨t, ht, hw⟩ := h3 z g hb
          exact ⟨t, by simp [ht], hw⟩
        · exact ⟨u, by simp, hc z g hb⟩
    by_cases b0 : a.testBit (2 * k) = true
    · by_cases b1 : a.testBit (2 * k + 1) = true
      · obtain ⟨u, hu, w0, w1⟩ := prime_pair hn ha (by omega) b0 b1
        exact hone u hu fun z hz _ => by rcases hz with rfl | rfl <;> assumption
      · obtain ⟨u, hu, w0⟩ := prime_at (n := n) (by omega) ha b0
        exact hone u hu fun z hz hb => by
          rcases hz with rfl | rfl
          · exact w0
          · exact absurd hb b1
    · by_cases b1 : a.testBit (2 * k + 1) = true
      · obtain ⟨u, hu, w0⟩ := prime_at (n := n) (by omega) ha b1
        exact hone u hu fun z hz hb => by
          rcases hz with rfl | rfl
          · exact absurd hb b0
          · exact w0
      · refine ⟨ps, by omega, h2, fun z hz hb => ?_⟩
        rcases (show z < 2 * k ∨ z = 2 * k ∨ z = 2 * k + 1 by omega) with g | rfl | rfl
        · exact h3 z g hb
        · exact absurd hb b0
        · exact absurd hb b1
/-- Eight prime terms are enough for four variables. -/
theorem min_exists {n a : Nat} (hn : n ≤ 4) (ha : a < 2 ^ 2 ^ n) : ∃ c r, c ≤ 8 ∧ c ≤ (primesL n a).length ∧ firstC (wT n) (primesL n a) c a = some r ∧ ∀ d, d < c → firstC (wT n) (primesL n a) d a = none := by
  obtain ⟨ps, h1, h2, h3⟩ := prime_few hn ha 8 (by decide)
  have hs : List.Sublist ((primesL n a).filter fun t => decide (t ∈ ps)) (primesL n a) := List.filter_sublist
  have hf := firstC_full (wT n) hs a fun z hz => by
    have hzn := ones_in ha hz
    have hp : 2 ^ n ≤ 2 ^ 4 := Nat.pow_le_pow_right (by decide) hn
    obtain ⟨t, ht, hw⟩ := h3 z (by omega) hz
    exact ⟨t, List.mem_filter.2 ⟨h2 t ht, by simpa using ht⟩, hw⟩
  obtain ⟨c, r, g1, g2, g3⟩ := least_of _ _ _ _ hf
  have g4 := nodup_few (primes_nodup (n := n) (a := a) (by omega)) ps
  have g5 := hs.length_le
  exact ⟨c, r, by omega, by omega, g2, g3⟩
theorem minS_at {n a c : Nat} {r : List Tm} (hc : c ≤ 8) (h : firstC (wT n) (primesL n a) c a = some r) (hm : ∀ d, d < c → firstC (wT n) (primesL n a) d a = none) : minS n a = r :=
  minGo_at _ _ _ c r h hm 9 0 (by omega) (by omega)
theorem minS_sub {n a : Nat} (hn : n ≤ 4) (ha : a < 2 ^ 2 ^ n) : List.Sublist (minS n a) (primesL n a) ∧ ∀ z, a.testBit z = true → ∃ t ∈ minS n a, (wT n t).testBit z = true := by
  obtain ⟨c, r, h1, _, h2, h3⟩ := min_exists hn ha
  rw [minS_at h1 h2 h3]
  have := firstC_sound _ _ _ _ _ h2
  exact ⟨this.1, this.2.2⟩

/-! The essential prime terms. -/
def Plain.essB (ws : List Nat) (i : Nat) : Bool := (List.range 32).any fun x => (ws.getD i 0).testBit x && (List.range ws.length).all fun j => decide (j = i) || !(ws.getD j 0).testBit x
def Plain.essP (ws : List Nat) (i x : Nat) : Prop := (ws.getD i 0).testBit x = true ∧ ∀ j, j < ws.length → j ≠ i → (ws.getD j 0).testBit x = false
theorem essB_iff {ws : List Nat} {i : Nat} (hw : (ws.getD i 0 : Int) ≤ 4294967295) : essB ws i = true ↔ ∃ x, essP ws i x := by
  unfold essB
  rw [List.any_eq_true]
  have hx : ∀ x, (List.range ws.length).all (fun j => decide (j = i) || !(ws.getD j 0).testBit x) = true ↔ ∀ j, j < ws.length → j ≠ i → (ws.getD j 0).testBit x = false := by
    intro x
    rw [List.all_eq_true]
    constructor
    · intro h j hj hne
      have := h j (List.mem_range.2 hj)
      simpa [hne] using this
    · intro h j hj
      by_cases e : j = i
      · simp [e]
      · simp only [e, decide_false, Bool.false_or, h j (List.mem_range.1 hj) e, Bool.not_false]
  constructor
  · rintro ⟨x, _, h⟩
    rw [Bool.and_eq_true, hx] at h
    exact ⟨x, h⟩
  · rintro ⟨x, h1, h2⟩
    refine ⟨x, List.mem_range.2 ?_, ?_⟩
    · rcases Nat.lt_or_ge x 32 with h | h
      · exact h
      · have : ws.getD i 0 < 2 ^ x := Nat.lt_of_lt_of_le (show ws.getD i 0 < 2 ^ 32 by omega) (Nat.pow_le_pow_right (by decide) h)
        rw [Nat.testBit_lt_two_pow this] at h1; exact absurd h1 (by decide)
    · rw [Bool.and_eq_true, hx]; exact ⟨h1, h2⟩

/-- What only one of the first k words has: the model's way, for word i. -/
def Plain.loneX (ws : List Nat) (i w k : Nat) : Prop := ∀ x, w.testBit x = true ↔ ((ws.getD i 0).testBit x = true ∧ ∀ j, j < k → j ≠ i → (ws.getD j 0).testBit x = false)
theorem lone_zero (ws : List Nat) (i : Nat) : loneX ws i (ws.getD i 0) 0 := fun x => ⟨fun h => ⟨h, fun j hj => by omega⟩, fun h => h.1⟩
theorem lone_other {ws : List Nat} {i w k : Nat} (h : loneX ws i w k) (hk : k ≠ i) : loneX ws i (cutN w (ws.getD k 0)) (k + 1) := by
  intro x
  rw [cutN_bit, Bool.and_eq_true, h x]
  constructor
  · rintro ⟨⟨h1, h2⟩, h3⟩
    refine ⟨h1, fun j hj hne => ?_⟩
    rcases (show j < k ∨ j = k by omega) with g | rfl
    · exact h2 j g hne
    · simpa using h3
  · rintro ⟨h1, h2⟩
    exact ⟨⟨h1, fun j hj hne => h2 j (by omega) hne⟩, by rw [h2 k (by omega) hk]; rfl⟩
theorem lone_same {ws : List Nat} {i w : Nat} (h : loneX ws i w i) : loneX ws i w (i + 1) := by
  intro x
  rw [h x]
  refine and_congr_right fun _ => ⟨fun g j hj hne => g j (by omega) hne, fun g j hj hne => g j (by omega) hne⟩
theorem lone_end {ws : List Nat} {i w : Nat} (hw : (ws.getD i 0 : Int) ≤ 4294967295) (h : loneX ws i w ws.length) : essB ws i = decide (0 < w) := by
  rw [Bool.eq_iff_iff, essB_iff hw, decide_eq_true_iff]
  constructor
  · rintro ⟨x, hx⟩
    rcases Nat.eq_zero_or_pos w with rfl | g
    · have := (h x).2 hx
      rw [Nat.zero_testBit] at this; exact absurd this (by decide)
    · exact g
  · intro g
    by_cases hz : ∃ x, w.testBit x = true
    · obtain ⟨x, hx⟩ := hz
      exact ⟨x, (h x).1 hx⟩
    · have : w = 0 := zero_bits.2 fun z => by
        cases e : w.testBit z with
        | false => rfl
        | true => exact absurd ⟨z, e⟩ hz
      omega

/-- The program's way: what some and what several of the first k words have. -/
def Plain.twoW (ws : List Nat) : Nat → Nat × Nat
  | 0 => (0, 0)
  | k + 1 => ((twoW ws k).1 ||| ws.getD k 0, (twoW ws k).2 ||| ((twoW ws k).1 &&& ws.getD k 0))
def Plain.aloneW (ws : List Nat) : Nat := cutN (twoW ws ws.length).1 (twoW ws ws.length).2
theorem two_some (ws : List Nat) (k x : Nat) : (twoW ws k).1.testBit x = true ↔ ∃ j, j < k ∧ (ws.getD j 0).testBit x = true := by
  induction k with
  | zero => simp [twoW]
  | succ k ih =>
    show ((twoW ws k).1 ||| ws.getD k 0).testBit x = true ↔ _
    rw [Nat.testBit_or, Bool.or_eq_true, ih]
    constructor
    · rintro (⟨j, h1, h2⟩ | h)
      · exact ⟨j, by omega, h2⟩
      · exact ⟨k, by omega, h⟩
    · rintro ⟨j, h1, h2⟩
      rcases (show j < k ∨ j = k by omega) with g | rfl
      · exact .inl ⟨j, g, h2⟩
      · exact .inr h2
theorem two_several (ws : List Nat) (k x : Nat) : (twoW ws k).2.testBit x = true ↔ ∃ j i, j < k ∧ i < j ∧ (ws.getD j 0).testBit x = true ∧ (ws.getD i 0).testBit x = true := by
  induction k with
  | zero => simp [twoW]
  | succ k ih =>
    show ((twoW ws k).2 ||| ((twoW ws k).1 &&& ws.getD k 0)).testBit x = true ↔ _
    rw [Nat.testBit_or, Bool.or_eq_true, ih, Nat.testBit_and, Bool.and_eq_true, two_some]
    constructor
    · rintro (⟨j, i, h1, h2⟩ | ⟨⟨j, h1, h2⟩, h3⟩)
      · exact ⟨j, i, by omega, h2⟩
      · exact ⟨k, j, by omega, h1, h3, h2⟩
    · rintro ⟨j, i, h1, h2, h3, h4⟩
      rcases (show j < k ∨ j = k by omega) with g | rfl
      · exact .inl ⟨j, i, g, h2, h3, h4⟩
      · exact .inr ⟨⟨i, h2, h4⟩, h3⟩
theorem two_bound {ws : List Nat} (h : ∀ j, ((ws.getD j 0 : Nat) : Int) ≤ 4294967295) (k : Nat) : ((twoW ws k).1 : Int) ≤ 4294967295 ∧ ((twoW ws k).2 : Int) ≤ 4294967295 := by
  have hb : ∀ j, ws.getD j 0 < 2 ^ 32 := fun j => by have := h j; omega
  have hg : (twoW ws k).1 < 2 ^ 32 ∧ (twoW ws k).2 < 2 ^ 32 := by
    induction k with
    | zero => exact ⟨(by decide : (0 : Nat) < 2 ^ 32), (by decide : (0 : Nat) < 2 ^ 32)⟩
    | succ k ih => exact ⟨Nat.or_lt_two_pow ih.1 (hb k), Nat.or_lt_two_pow ih.2 (Nat.and_lt_two_pow _ (hb k))⟩
  omega
theorem alone_end {ws : List Nat} {i : Nat} (hi : i < ws.length) (hw : (ws.getD i 0 : Int) ≤ 4294967295) : essB ws i = !decide (ws.getD i 0 &&& aloneW ws = 0) := by
  have hkey : essB ws i = true ↔ ∃ x, (ws.getD i 0 &&& aloneW ws).testBit x = true := by
    rw [essB_iff hw]
    refine exists_congr fun x => ?_
    unfold aloneW
    rw [Nat.testBit_and, cutN_bit, Bool.and_eq_true, Bool.and_eq_true, two_some]
    constructor
    · rintro ⟨h1, h2⟩
      refine ⟨h1, ⟨i, hi, h1⟩, ?_⟩
      cases hs : (twoW ws ws.length).2.testBit x with
      | false => rfl
      | true =>
        obtain ⟨j, k, g1, g2, g3, g4⟩ := (two_several _ _ _).1 hs
        by_cases e : j = i
        · rw [h2 k (by omega) (by omega)] at g4; exact absurd g4 (by decide)
        · rw [h2 j (by omega) e] at g3; exact absurd g3 (by decide)
    · rintro ⟨h1, _, h3⟩
      refine ⟨h1, fun j hj hne => ?_⟩
      cases hs : (ws.getD j 0).testBit x with
      | false => rfl
      | true =>
        have : (twoW ws ws.length).2.testBit x = true := by
          rw [two_several]
          rcases (show j < i ∨ i < j by omega) with g | g
          · exact ⟨i, j, hi, g, h1, hs⟩
          · exact ⟨j, i, hj, g, hs, h1⟩
        rw [this] at h3; exact absurd h3 (by decide)
  rw [Bool.eq_iff_iff, hkey, Bool.not_eq_true', decide_eq_false_iff_not, zero_bits]
  constructor
  · rintro ⟨x, hx⟩ h; rw [h x] at hx; exact absurd hx (by decide)
  · intro h
    by_cases hz : ∃ x, (ws.getD i 0 &&& aloneW ws).testBit x = true
    · exact hz
    · exact absurd (fun z => by
        cases e : (ws.getD i 0 &&& aloneW ws).testBit z with
        | false => rfl
        | true => exact absurd ⟨z, e⟩ hz) h

def Plain.wordsL (n : Nat) (l : List Tm) : List Nat := l.map (wT n)
theorem wordsL_getD (n : Nat) (l : List Tm) (j : Nat) (hj : j < l.length) : (wordsL n l).getD j 0 = wT n (l.getD j (0, 0)) := by
  unfold wordsL; simp [List.getD_eq_getElem?_getD, hj]
theorem wordsL_bound {n : Nat} (hn : n ≤ 5) (l : List Tm) (j : Nat) : (((wordsL n l).getD j 0 : Nat) : Int) ≤ 4294967295 := by
  rcases Nat.lt_or_ge j l.length with h | h
  · rw [wordsL_getD n l j h]; exact wT_bound _ _ hn
  · unfold wordsL
    rw [List.getD_eq_getElem?_getD, List.getElem?_eq_none (by simpa using h)]; decide
def Plain.essU (n : Nat) (l : List Tm) (k : Nat) : List Tm := ((List.range k).filter (essB (wordsL n l))).map fun i => l.getD i (0, 0)
def Plain.essL (n a : Nat) : List Tm := essU n (primesL n a) (primesL n a).length
theorem essU_yes {n : Nat} {l : List Tm} {k : Nat} (h : essB (wordsL n l) k = true) : essU n l (k + 1) = essU n l k ++ [l.getD k (0, 0)] := by
  unfold essU; rw [List.range_succ, List.filter_append, List.map_append]; simp [h]
theorem essU_no {n : Nat} {l : List Tm} {k : Nat} (h : essB (wordsL n l) k = false) : essU n l (k + 1) = essU n l k := by
  unfold essU; rw [List.range_succ, List.filter_append, List.map_append]; simp [h]
theorem essU_len (n : Nat) (l : List Tm) (k : Nat) : (essU n l k).length ≤ k := by
  unfold essU; rw [List.length_map]; exact Nat.le_trans (List.length_filter_le _ _) (by simp)
theorem range_getD (l : List Tm) : (List.range l.length).map (fun i => l.getD i (0, 0)) = l := by
  apply List.ext_getElem
  · simp
  · intro i h1 h2; simp [List.getD_eq_getElem?_getD, List.getElem?_eq_getElem h2]
theorem ess_sub (n a : Nat) : List.Sublist (essL n a) (primesL n a) := by
  have h : List.Sublist (essL n a) ((List.range (primesL n a).length).map fun i => (primesL n a).getD i (0, 0)) := List.Sublist.map _ List.filter_sublist
  rw [range_getD] at h; exact h
theorem getD_of_lt {l : List Tm} {j : Nat} (h : j < l.length) : l.getD j (0, 0) ∈ l := by
  rw [List.getD_eq_getElem?_getD, List.getElem?_eq_getElem h]; exact List.getElem_mem h
/-- What is essential stands in every choice that covers. -/
theorem ess_in {n a : Nat} {s : List Tm} (hn : n ≤ 5) (hs : List.Sublist s (primesL n a)) (hc : ∀ z, a.testBit z = true → ∃ t ∈ s, (wT n t).testBit z = true) : ∀ t ∈ essL n a, t ∈ s := by
  intro t ht
  unfold essL essU at ht
  rw [List.mem_map] at ht
  obtain ⟨i, hi, rfl⟩ := ht
  rw [List.mem_filter, List.mem_range] at hi
  obtain ⟨x, h1, h2⟩ := (essB_iff (wordsL_bound hn _ i)).1 hi.2
  rw [wordsL_getD n _ i hi.1] at h1
  obtain ⟨u, hu, hw⟩ := hc x (prime_sub (getD_of_lt hi.1) x h1)
  obtain ⟨j, hj, rfl⟩ := List.getElem_of_mem (hs.subset hu)
  have e : (primesL n a)[j] = (primesL n a).getD j (0, 0) := by rw [List.getD_eq_getElem?_getD, List.getElem?_eq_getElem hj]; rfl
  by_cases hji : j = i
  · subst hji; rw [← e]; exact hu
  · have := h2 j (by unfold wordsL; simpa using hj) hji
    rw [wordsL_getD n _ j hj, ← e] at this
    rw [this] at hw; exact absurd hw (by decide)
theorem ess_few {n a : Nat} {s : List Tm} (hn : n ≤ 5) (hi : ∀ t ∈ essL n a, t ∈ s) : (essL n a).length ≤ s.length := by
  have h1 := nodup_few ((ess_sub n a).nodup (primes_nodup hn)) s
  have h2 : ((essL n a).filter fun t => decide (t ∈ s)) = essL n a := List.filter_eq_self.2 fun t ht => by simpa using hi t ht
  rw [h2] at h1; exact h1

/-! Tables of sums of terms. -/
def Plain.orT (n : Nat) (l : List Tm) : Nat → Nat
  | 0 => 0
  | k + 1 => orT n l k ||| wT n (l.getD k (0, 0))
theorem orT_bit (n : Nat) (l : List Tm) (k x : Nat) : (orT n l k).testBit x = true ↔ ∃ j, j < k ∧ (wT n (l.getD j (0, 0))).testBit x = true := by
  induction k with
  | zero => simp [orT]
  | succ k ih =>
    show (orT n l k ||| _).testBit x = true ↔ _
    rw [Nat.testBit_or, Bool.or_eq_true, ih]
    constructor
    · rintro (⟨j, h1, h2⟩ | h)
      · exact ⟨j, by omega, h2⟩
      · exact ⟨k, by omega, h⟩
    · rintro ⟨j, h1, h2⟩
      rcases (show j < k ∨ j = k by omega) with g | rfl
      · exact .inl ⟨j, g, h2⟩
      · exact .inr h2
theorem orT_bound {n : Nat} (hn : n ≤ 5) (l : List Tm) (k : Nat) : (orT n l k : Int) ≤ 4294967295 := by
  have hg : orT n l k < 2 ^ 32 := by
    induction k with
    | zero => exact (by decide : (0 : Nat) < 2 ^ 32)
    | succ k ih => exact Nat.or_lt_two_pow ih (by have := wT_bound n (l.getD k (0, 0)) hn; omega)
  omega
/-- Terms of the primes that cover give the table back. -/
theorem orT_same {n a : Nat} {s : List Tm} (hs : ∀ t ∈ s, t ∈ primesL n a) (hc : ∀ z, a.testBit z = true → ∃ t ∈ s, (wT n t).testBit z = true) : orT n s s.length = a := by
  apply Nat.eq_of_testBit_eq
  intro x
  rw [Bool.eq_iff_iff, orT_bit]
  constructor
  · rintro ⟨j, hj, h⟩; exact prime_sub (hs _ (getD_of_lt hj)) x h
  · intro h
    obtain ⟨t, ht, hw⟩ := hc x h
    obtain ⟨j, hj, rfl⟩ := List.getElem_of_mem ht
    exact ⟨j, hj, by rw [List.getD_eq_getElem?_getD, List.getElem?_eq_getElem hj]; exact hw⟩

end Go.Proofs.Ytlmhdocfdpbhmaa
