/-
  Chapter 9, lists and words only: certificates of inputs with different values meet.
-/
import Derived.Test.YtbgjiblfnljigaaCerP
namespace Go.Proofs.Ytbgjiblfnljigaa
open Go.RowKit Plain
set_option linter.unusedVariables false

theorem bestS_cert {n a x : Nat} (hx : x < 2 ^ n) : ∀ k, certB n a x (bestS n a x k) = true := by
  intro k
  induction k with
  | zero => exact cert_full hx
  | succ k ih =>
    by_cases h : popN k < popN (bestS n a x k) ∧ certB n a x k = true
    · rw [bestS_yes h.1 h.2]; exact h.2
    · rw [bestS_no h]; exact ih
theorem setN_cert {n a x : Nat} (hx : x < 2 ^ n) : certB n a x (setN n a x) = true := bestS_cert hx _

/-- All inputs that agree with x on a certificate have the value of x. -/
theorem cert_all {n a x m : Nat} (h : certB n a x m = true) (hx : x < 2 ^ n) {z : Nat} (hz : z < 2 ^ n) (he : z &&& m = x &&& m) : bitN a z = bitN a x := by
  have hc : cubV n a m (x &&& m) < 2 := of_decide_eq_true h
  have hm : cubX a m (x &&& m) (2 ^ n) = false := by
    rw [Bool.eq_false_iff]
    intro q
    rw [cubV_mixed q] at hc
    exact absurd hc (by decide)
  have key : ∀ y, y < 2 ^ n → y &&& m = x &&& m → bitN a y = bitN a (x &&& m) := by
    intro y hy hy2
    apply Decidable.byContradiction
    intro hne
    rw [cubX_hit hy hy2 hne] at hm
    exact absurd hm (by decide)
  rw [key z hz he, key x hx rfl]

theorem and_or_take (x y c d : Nat) (h : c &&& d &&& (x ^^^ y) = 0) : ((x &&& c) ||| (y &&& d)) &&& c = x &&& c := by
  apply Nat.eq_of_testBit_eq
  intro i
  have hi := congrArg (fun z => z.testBit i) h
  simp only [Nat.testBit_and, Nat.testBit_or, Nat.testBit_xor, Nat.zero_testBit] at hi ⊢
  revert hi
  cases x.testBit i <;> cases y.testBit i <;> cases c.testBit i <;> cases d.testBit i <;> decide

/-- Certificates of inputs with different values have a variable in common in which the inputs differ. -/
theorem certs_meet {n a x y c d : Nat} (hx : x < 2 ^ n) (hy : y < 2 ^ n) (hc : certB n a x c = true) (hd : certB n a y d = true) (hne : bitN a x ≠ bitN a y) : c &&& d &&& (x ^^^ y) ≠ 0 := by
  intro h
  have hz : ((x &&& c) ||| (y &&& d)) < 2 ^ n := Nat.or_lt_two_pow (Nat.lt_of_le_of_lt Nat.and_le_left hx) (Nat.lt_of_le_of_lt Nat.and_le_left hy)
  have h1 := cert_all hc hx hz (and_or_take x y c d h)
  have h2 := cert_all hd hy hz (by
    rw [Nat.or_comm]
    exact and_or_take y x d c (by rw [Nat.and_comm d c, Nat.xor_comm y x]; exact h))
  exact hne (by rw [← h1, h2])
theorem sets_meet {n a x y : Nat} (hx : x < 2 ^ n) (hy : y < 2 ^ n) (hne : bitN a x ≠ bitN a y) : setN n a x &&& setN n a y &&& (x ^^^ y) ≠ 0 :=
  certs_meet hx hy (setN_cert hx) (setN_cert hy) hne

/-- The program's list of sets behind k inputs. -/
def Plain.setsL (n a k : Nat) : List Int := (List.range k).map (fun x => (setN n a x : Int)) ++ List.replicate (2 ^ n - k) 0
theorem setsL_len {n a k : Nat} (hk : k ≤ 2 ^ n) : (setsL n a k).length = 2 ^ n := by
  unfold Plain.setsL
  rw [List.length_append, List.length_map, List.length_range, List.length_replicate]; omega
theorem setsL_set {n a k : Nat} (hk : k < 2 ^ n) : (setsL n a k).set k (setN n a k : Int) = setsL n a (k + 1) := by
  unfold Plain.setsL
  rw [List.set_append_right _ _ (by simp), List.length_map, List.length_range, Nat.sub_self, show 2 ^ n - k = (2 ^ n - (k + 1)) + 1 by omega, List.replicate_succ, List.set_cons_zero, List.range_succ, List.map_append, List.append_assoc]
  rfl
theorem setsL_at {n a x : Nat} (hx : x < 2 ^ n) : (setsL n a (2 ^ n)).getD x 0 = (setN n a x : Int) := by
  unfold Plain.setsL
  rw [Nat.sub_self, List.replicate_zero, List.append_nil, List.getD_eq_getElem?_getD, List.getElem?_map, List.getElem?_range hx]
  rfl

end Go.Proofs.Ytbgjiblfnljigaa
