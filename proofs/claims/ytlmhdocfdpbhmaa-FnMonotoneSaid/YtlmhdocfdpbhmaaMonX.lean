/-
  Chapter 15, the law's mathematics: prime terms of monotone tables are their minimal points; what the law asks.
-/
import Derived.Test.YtlmhdocfdpbhmaaMonQ
namespace Go.Proofs.Ytlmhdocfdpbhmaa
open Plain Go.RowKit
set_option linter.unusedVariables false

theorem offB_on : ∀ m < 32, ∀ i < 5, bitN m i = 1 → offB m i = m ^^^ 2 ^ i := by decide +kernel
theorem offB_none : ∀ m < 32, ∀ i < 5, bitN m i = 0 → offB m i = m := by decide +kernel
theorem part_of {x c v : Nat} (h : x &&& c = v) : v &&& x = v := by
  rw [← h, Nat.and_comm x c, Nat.and_assoc, Nat.and_self]
theorem bit_lt {n m i : Nat} (hm : m < 2 ^ n) (hb : m.testBit i = true) : i < n := by
  rcases Nat.lt_or_ge i n with h | h
  · exact h
  · rw [Nat.testBit_lt_two_pow (Nat.lt_of_lt_of_le hm (Nat.pow_le_pow_right (by decide) h))] at hb; exact absurd hb (by decide)
theorem bitN_zero {m i : Nat} (h : m.testBit i = false) : bitN m i = 0 := by
  rcases bitN_cases m i with h0 | h1
  · exact h0
  · rw [bit_test1.1 h1] at h; exact absurd h (by decide)
/-- The prime terms of a monotone table: the minimal points, all their letters unnegated. -/
theorem prime_mon {n a : Nat} (hn : n ≤ 5) (ha : a < 2 ^ 2 ^ n) (hm : monB n a = true) (t : Tm) : t ∈ primesL n a ↔ ∃ y, t = (y, y) ∧ y < 2 ^ n ∧ turK a 1 y n = true := by
  have hM : ∀ x y, x < 2 ^ n → y &&& x = y → a.testBit y = true → a.testBit x = true := fun x y hx hs hy =>
    up_all (n := n) (P := fun z => a.testBit z = true) (fun z hz i hi q => monB_iff.1 hm z hz i hi q) hx hs hy
  have h32 := two_pow_le n hn
  rw [mem_primes, primeB_iff, impB_iff]
  obtain ⟨m, v⟩ := t
  dsimp only
  constructor
  · rintro ⟨⟨h1, h2⟩, h3, h4⟩
    have hvm : v ≤ m := by rw [← h2]; exact Nat.and_le_right
    have hv := h3 v (by omega) h2
    have hvm2 : v = m := by
      apply Nat.eq_of_testBit_eq; intro i
      have hq := congrArg (fun t => t.testBit i) h2
      simp only [Nat.testBit_and] at hq
      cases hmi : m.testBit i with
      | false => rw [hmi, Bool.and_false] at hq; exact hq.symm
      | true =>
        cases hvi : v.testBit i with
        | true => rfl
        | false =>
          have hi := bit_lt h1 hmi
          have ho := offB_none v (by omega) i (by omega) (bitN_zero hvi)
          have hx := h4 i hi (bit_test1.2 hmi)
          rw [ho] at hx
          have : impB n a (offB m i) v = true := (impB_iff n a (offB m i) v).2 fun x hxl he => hM x v hxl (part_of he) hv
          rw [this] at hx; exact absurd hx (by decide)
    subst hvm2
    refine ⟨v, rfl, h1, (turK_iff n).2 ⟨bit_test1.2 hv, fun i hi => decide_eq_false ?_⟩⟩
    rintro ⟨hb, hf⟩
    have hx := h4 i hi hb
    rw [offB_on v (by omega) i (by omega) hb] at hx
    have : impB n a (v ^^^ 2 ^ i) (v ^^^ 2 ^ i) = true := (impB_iff n a _ _).2 fun x hxl he => hM x _ hxl (part_of he) (bit_test1.1 hf)
    rw [this] at hx; exact absurd hx (by decide)
  · rintro ⟨y, e, h1, h2⟩
    obtain ⟨rfl, rfl⟩ := Prod.mk.inj e
    obtain ⟨h3, h4⟩ := (turK_iff n).1 h2
    refine ⟨⟨h1, Nat.and_self _⟩, fun x hx he => hM x v hx (part_of he) (bit_test1.1 h3), fun i hi hb => ?_⟩
    rw [offB_on v (by omega) i (by omega) hb]
    cases hq : impB n a (v ^^^ 2 ^ i) (v ^^^ 2 ^ i) with
    | false => rfl
    | true =>
      have hl := flip_less (bit_test1.1 hb)
      have := (impB_iff n a _ _).1 hq (v ^^^ 2 ^ i) (by omega) (Nat.and_self _)
      have h5 : turI a 1 v i = true := decide_eq_true ⟨hb, bit_test1.2 this⟩
      rw [h4 i hi] at h5; exact absurd h5 (by decide)

theorem turL_nodup (n a b m : Nat) : (turL n a b m).Nodup := by
  induction m with
  | zero => exact List.nodup_nil
  | succ m ih =>
    cases h : turK a b m n with
    | true =>
      rw [turL_yes h]
      refine List.nodup_append.2 ⟨ih, by simp, ?_⟩
      intro x hx y hy
      rw [List.mem_singleton] at hy
      have := ((turL_mem x).1 hx).1
      omega
    | false => rw [turL_no h]; exact ih
def twoT (L : List Nat) : List Tm := L.map fun y => (y, y)
theorem twoT_len (L : List Nat) : (twoT L).length = L.length := by simp [twoT]
theorem twoT_mem {L : List Nat} {t : Tm} : t ∈ twoT L ↔ ∃ y, t = (y, y) ∧ y ∈ L := by
  unfold twoT
  rw [List.mem_map]
  exact ⟨fun ⟨y, h1, h2⟩ => ⟨y, h2.symm, h1⟩, fun ⟨y, h1, h2⟩ => ⟨y, h2, h1.symm⟩⟩
theorem twoT_nodup {L : List Nat} (h : L.Nodup) : (twoT L).Nodup := by
  unfold twoT
  exact List.pairwise_map.2 (h.imp fun hne e => hne (Prod.mk.inj e).1)
theorem few_of {l r : List Tm} (hl : l.Nodup) (h : ∀ t ∈ l, t ∈ r) : l.length ≤ r.length := by
  have e : (l.filter fun t => decide (t ∈ r)) = l := List.filter_eq_self.2 fun t ht => decide_eq_true (h t ht)
  have := nodup_few hl r
  rwa [e] at this
theorem same_len {l r : List Tm} (hl : l.Nodup) (hr : r.Nodup) (h : ∀ t, t ∈ l ↔ t ∈ r) : l.length = r.length :=
  Nat.le_antisymm (few_of hl fun t ht => (h t).1 ht) (few_of hr fun t ht => (h t).2 ht)
theorem prime_points {n a : Nat} (hn : n ≤ 5) (ha : a < 2 ^ 2 ^ n) (hm : monB n a = true) (t : Tm) : t ∈ primesL n a ↔ t ∈ twoT (turL n a 1 (2 ^ n)) := by
  rw [prime_mon hn ha hm, twoT_mem]
  constructor
  · rintro ⟨y, e, h⟩; exact ⟨y, e, (turL_mem y).2 h⟩
  · rintro ⟨y, e, h⟩; exact ⟨y, e, (turL_mem y).1 h⟩
theorem prime_len {n a : Nat} (hn : n ≤ 5) (ha : a < 2 ^ 2 ^ n) (hm : monB n a = true) : (primesL n a).length = (turL n a 1 (2 ^ n)).length := by
  rw [same_len (primes_nodup hn) (twoT_nodup (turL_nodup n a 1 (2 ^ n))) (prime_points hn ha hm), twoT_len]

theorem com_flip {n x i : Nat} : (x ^^^ 2 ^ i) ^^^ (2 ^ n - 1) = (x ^^^ (2 ^ n - 1)) ^^^ 2 ^ i := by
  rw [Nat.xor_assoc, Nat.xor_comm (2 ^ i), ← Nat.xor_assoc]
theorem com_bit {n x i : Nat} (hi : i < n) : (x ^^^ (2 ^ n - 1)).testBit i = !x.testBit i := by
  rw [Nat.testBit_xor, ones_bit]; simp [hi]
/-- The minimal points of the dual are, all bits changed, the greatest zeros. -/
theorem zero_point {n a x : Nat} (hx : x < 2 ^ n) : turK (dulW n a) 1 (x ^^^ (2 ^ n - 1)) n = turK a 0 x n := by
  rw [Bool.eq_iff_iff, turK_iff, turK_iff]
  have hb : bitN (dulW n a) (x ^^^ (2 ^ n - 1)) = 1 ↔ bitN a x = 0 := by
    rw [bit_test1, dul_bit, com_com]
    simp only [com_lt hx, decide_true, Bool.true_and, Bool.not_eq_true']
    exact ⟨bitN_zero, fun h => by
      cases hq : a.testBit x with
      | false => rfl
      | true => rw [bit_test1.2 hq] at h; exact absurd h (by decide)⟩
  rw [hb]
  refine and_congr_right fun _ => ?_
  refine forall_congr' fun i => ?_
  refine forall_congr' fun hi => ?_
  have hf : x ^^^ 2 ^ i < 2 ^ n := Nat.xor_lt_two_pow hx (Nat.pow_lt_pow_right (by decide) hi)
  have h1 : bitN (x ^^^ (2 ^ n - 1)) i = 1 ↔ bitN x i = 0 := by
    rw [bit_test1, com_bit hi, Bool.not_eq_true']
    exact ⟨bitN_zero, fun h => by
      cases hq : x.testBit i with
      | false => rfl
      | true => rw [bit_test1.2 hq] at h; exact absurd h (by decide)⟩
  have h2 : bitN (dulW n a) ((x ^^^ (2 ^ n - 1)) ^^^ 2 ^ i) = 1 ↔ bitN a (x ^^^ 2 ^ i) = 0 := by
    rw [← com_flip, bit_test1, dul_bit, com_com]
    simp only [com_lt hf, decide_true, Bool.true_and, Bool.not_eq_true']
    exact ⟨bitN_zero, fun h => by
      cases hq : a.testBit (x ^^^ 2 ^ i) with
      | false => rfl
      | true => rw [bit_test1.2 hq] at h; exact absurd h (by decide)⟩
  unfold Plain.turI
  rw [decide_eq_false_iff_not, decide_eq_false_iff_not, h1, h2]
theorem dual_mem {n a x : Nat} (hx : x < 2 ^ n) : x ^^^ (2 ^ n - 1) ∈ turL n (dulW n a) 1 (2 ^ n) ↔ x ∈ turL n a 0 (2 ^ n) := by
  rw [turL_mem, turL_mem, zero_point hx]
  exact ⟨fun h => ⟨hx, h.2⟩, fun h => ⟨com_lt hx, h.2⟩⟩
theorem dual_len (n a : Nat) : (turL n (dulW n a) 1 (2 ^ n)).length = (turL n a 0 (2 ^ n)).length := by
  have e : ∀ t, t ∈ twoT (turL n (dulW n a) 1 (2 ^ n)) ↔ t ∈ (turL n a 0 (2 ^ n)).map fun x => ((x ^^^ (2 ^ n - 1), x ^^^ (2 ^ n - 1)) : Tm) := by
    intro t
    rw [twoT_mem, List.mem_map]
    constructor
    · rintro ⟨y, rfl, hy⟩
      have hyl := ((turL_mem y).1 hy).1
      refine ⟨y ^^^ (2 ^ n - 1), (dual_mem (com_lt hyl)).1 (by rw [com_com]; exact hy), by rw [com_com]⟩
    · rintro ⟨x, hx, rfl⟩
      exact ⟨_, rfl, (dual_mem ((turL_mem x).1 hx).1).2 hx⟩
  have h := same_len (twoT_nodup (turL_nodup n (dulW n a) 1 (2 ^ n)))
    (List.pairwise_map.2 ((turL_nodup n a 0 (2 ^ n)).imp fun {x y} hne q => hne (by
      have := congrArg (fun t => t ^^^ (2 ^ n - 1)) (Prod.mk.inj q).1
      simpa [com_com] using this))) e
  rw [twoT_len, List.length_map] at h
  exact h

/-- What the law finds of a table. -/
theorem law_told {n a : Int} (ht : isT n a = true) : ∃ e k : Int, dulT n a = (n, e, true) ∧ hulT n a = (n, k, true) ∧ dulT n e = (n, a, true) ∧ monT n e = monT n a ∧ monT n k = true ∧ Go.bits .and .i64 a k = a ∧ (k == a) = monT n a ∧
    (-9223372036854775808 ≤ e ∧ e ≤ 9223372036854775807) ∧ (-9223372036854775808 ≤ k ∧ k ≤ 9223372036854775807) ∧
    (monT n a = true → ptsT n (turT 1 n a) = (n, a, true) ∧ (primesT n a).length = (turT 1 n a).length ∧ (turT 1 n e).length = (turT 0 n a).length ∧
      (∀ j, j < (primesT n a).length → ((primesT n a).getD j (0, 0)).1 = ((primesT n a).getD j (0, 0)).2 ∧ ((primesT n a).getD j (0, 0)).1 ∈ turT 1 n a) ∧
      (∀ j, j < (turT 0 n a).length → IntKind.i64.wrap (IntKind.i64.wrap (IntKind.i64.wrap (2 ^ n.toNat) - 1) - (turT 0 n a).getD j 0) ∈ turT 1 n e)) := by
  have hmt := hulT_mon n a
  obtain ⟨n, a, rfl, rfl, hn, ha⟩ := isT_nat ht
  have hal := fullN_lt a ha
  have hdl := dul_lt n a
  have hhl := hulW_lt n a
  have hdt := hulPts hn hdl
  have hht := hulPts hn hhl
  have hfl := fullN_le n hn
  have h32 := two_pow_le n hn
  refine ⟨dulW n a, hulW n a, dulT_yes ht, hulT_yes ht, ?_, ?_, ?_, ?_, ?_, by omega, by omega, ?_⟩
  · rw [dulT_yes hdt.1, dul_dul hal]
  · unfold Plain.monT
    rw [ht, hdt.1]
    simp only [Int.toNat_natCast, mon_dul hal]
  · unfold Plain.monT
    rw [hht.1]
    simp only [Int.toNat_natCast, mon_hul]
    rfl
  · rw [and64 _ _ (by omega) (by omega), hul_sub hal]
  · have := hmt.2.2.1 ht
    rw [hulT_yes ht] at this
    exact this
  · intro hm
    have hmb : monB n a = true := by
      unfold Plain.monT at hm
      rw [ht] at hm
      simpa using hm
    refine ⟨?_, ?_, ?_, ?_, ?_⟩
    · rw [turT_yes ht, ptsT_yes hn, pts_back hal hmb]
      intro k hk
      rw [natI_len] at hk
      rw [natI_at hk]
      have := ((turL_mem (n := n) (a := a) (b := 1) (m := 2 ^ n) _).1 (getD_memN hk)).1
      omega
    · rw [primesT_yes ht, turT_yes ht, tiL_len, natI_len]
      exact prime_len hn hal hmb
    · rw [turT_yes ht, turT_yes hdt.1, natI_len, natI_len]
      exact dual_len n a
    · rw [primesT_yes ht, turT_yes ht, tiL_len]
      intro j hj
      rw [tiL_getD _ _ hj]
      have hmem := (prime_points hn hal hmb _).1 (getD_of_lt hj)
      obtain ⟨y, e, hy⟩ := twoT_mem.1 hmem
      rw [e]
      exact ⟨rfl, List.mem_map.2 ⟨y, hy, rfl⟩⟩
    · rw [turT_yes ht, turT_yes hdt.1, natI_len]
      intro j hj
      rw [natI_at hj]
      have hz := getD_memN hj
      have hzl := ((turL_mem (n := n) (a := a) (b := 0) (m := 2 ^ n) _).1 hz).1
      have hd := (dual_mem hzl).2 hz
      rw [com_sub hzl] at hd
      generalize (turL n a 0 (2 ^ n)).getD j 0 = z at *
      refine List.mem_map.2 ⟨_, hd, ?_⟩
      have hw := (shl_at n (by omega)).1
      rw [Int.toNat_natCast, hw]
      generalize 2 ^ n = M at *
      rw [IntKind.wrap_i64, IntKind.wrap_i64]
      omega
end Go.Proofs.Ytlmhdocfdpbhmaa
