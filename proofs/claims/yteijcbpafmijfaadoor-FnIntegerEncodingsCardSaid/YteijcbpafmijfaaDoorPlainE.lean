/-
  Plain mathematics of the law of chapter 1: what is encoded is decoded again.
-/
import Derived.Test.YteijcbpafmijfaaDoorPlainV
import Derived.Test.YteijcbpafmijfaaDoorPlainP
namespace Go.Proofs.YteijcbpafmijfaaDoor.Plain
open Go.Lib

theorem vbytes_isV (m : Nat) (t : List UInt8) (hm : m ≤ 562949953421311) : isV (vbytes m ++ t) (vbytes m).length = true := by
  unfold isV
  have e : (vbytes m ++ t).take (vbytes m).length = vbytes m := by simp
  rw [e, lo_vbytes 6 m (by omega)]
  simp

theorem dec_encV (m : Nat) (t : List UInt8) (hm : m ≤ 562949953421311) : decN (vbytes m ++ t) = m ∧ decK (vbytes m ++ t) = (vbytes m).length := by
  have h7 := vbytes_len7 m hm
  have hv := vbytes_isV m t hm
  obtain ⟨l, c, h1, h2, h3⟩ := vbytes_shape 6 m (by omega)
  have hl : (vbytes m).length = l.length + 1 := by rw [h1]; simp
  have hk := decK_yes h7 hv (fun j hj => by
    refine isV_marked (i := l.length) ?_ (by omega)
    intro x hx
    rw [h1] at hx
    simp at hx
    exact h2 x hx)
  refine ⟨?_, hk⟩
  rw [decN_yes hk (by omega)]
  have e : (vbytes m ++ t).take (vbytes m).length = vbytes m := by simp
  rw [e, lo_vbytes 6 m (by omega)]

theorem be_beN (k : Nat) : ∀ n, n < 256 ^ k → beN (be k n) = n := by
  have hgen : ∀ (k n acc : Nat), (be k n).foldl (fun n c => n * 256 + c.toNat) acc = acc * 256 ^ k + n % 256 ^ k := by
    intro k
    induction k with
    | zero => intro n acc; simp [be, Nat.mod_one]
    | succ k ih =>
      intro n acc
      simp only [be, List.foldl_cons]
      rw [ih]
      have h1 : (UInt8.ofNat (n / 256 ^ k % 256)).toNat = n / 256 ^ k % 256 := by rw [UInt8.toNat_ofNat']; omega
      rw [h1, Nat.pow_succ, Nat.add_mul]
      have h2 : n % (256 ^ k * 256) = n % 256 ^ k + 256 ^ k * (n / 256 ^ k % 256) := Nat.mod_mul
      rw [h2, Nat.mul_comm (256 ^ k) 256, ← Nat.mul_assoc, Nat.mul_comm (n / 256 ^ k % 256)]
      omega
  intro n hn
  unfold beN
  rw [hgen k n 0, Nat.mod_eq_of_lt hn]
  omega

theorem decH_encH : ∀ l : List UInt8, decH (encH l) = some l := by
  intro l
  induction l with
  | nil => rfl
  | cons c t ih =>
    have hc := c.toNat_lt
    have d1 := digitOf_hexOf (c.toNat / 16) (by omega)
    have d2 := digitOf_hexOf (c.toNat % 16) (by omega)
    simp only [encH]
    rw [decH_good _ _ _ (by rw [d1]; omega) (by rw [d2]; omega), ih, d1, d2]
    simp only [Option.map_some, Option.some.injEq, List.cons.injEq, and_true]
    apply UInt8.toNat_inj.1
    rw [UInt8.toNat_ofNat']
    omega

/-- The number whose text it is, of whatever length. -/
def textVal (l : List UInt8) : Int := if l.head? = some 45 then -(dval l.tail : Int) else dval l
theorem textVal_itoa (n : Int) (h : -9223372036854775808 ≤ n ∧ n ≤ 9223372036854775807) : textVal (itoa n) = n := by
  by_cases hn : n < 0
  · obtain ⟨m, hm⟩ := Int.eq_ofNat_of_zero_le (a := -n) (by omega)
    obtain rfl : n = -(m : Int) := by omega
    have hi : itoa (-(m : Int)) = 45 :: decDigits m := by unfold itoa; rw [if_pos hn, Int.natAbs_neg, Int.natAbs_natCast]
    rw [hi]
    unfold textVal
    rw [if_pos (show (45 :: decDigits m).head? = some 45 from rfl)]
    simp only [List.tail_cons]
    rw [(decDigits_back 19 m (by omega)).1]
  · obtain ⟨m, rfl⟩ := Int.eq_ofNat_of_zero_le (a := n) (by omega)
    have hi : itoa (m : Int) = decDigits m := by unfold itoa; rw [if_neg hn, Int.toNat_natCast]
    have h4 := decDigits_back 19 m (by omega)
    rw [hi]
    unfold textVal
    rw [if_neg, h4.1]
    intro hh
    have := h4.2.2.2.1 _ (List.mem_of_head? hh)
    revert this
    decide
theorem par_itoa_in {n : Int} (h : -999999999 ≤ n ∧ n ≤ 999999999) : parN (itoa n) = n ∧ parB (itoa n) = true := par_yes ⟨h.1, h.2, rfl⟩
theorem par_itoa_out {n : Int} (h64 : -9223372036854775808 ≤ n ∧ n ≤ 9223372036854775807) (h : ¬ (-999999999 ≤ n ∧ n ≤ 999999999)) : parN (itoa n) = 0 ∧ parB (itoa n) = false :=
  par_no (fun v hv => by
    have h1 := textVal_itoa n h64
    have h2 := textVal_itoa v (by have := hv.1; have := hv.2.1; omega)
    rw [hv.2.2, h1] at h2
    rw [h2] at h
    exact h ⟨hv.1, hv.2.1⟩)
end Go.Proofs.YteijcbpafmijfaaDoor.Plain
