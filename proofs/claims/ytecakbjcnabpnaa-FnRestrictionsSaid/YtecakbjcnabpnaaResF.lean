/-
  JoinTables of the program and of its model.
-/
import Derived.Test.YtecakbjcnabpnaaResE
import Derived.Test.YtecakbjcnabpnaaTabG
namespace Go.Proofs.Ytecakbjcnabpnaa
open Go.RowKit Plain
set_option linter.unusedVariables false

/-- The word of the table that is joined. -/
def Plain.joinV (a b i : Nat) : Nat → Nat := fun x => bitN (if bitN x i = 1 then b else a) (remN x i)
def Plain.joinW (n a b i : Nat) : Nat := tabN (joinV a b i) (2 ^ (n + 1))
/-- The word that the model has behind x inputs. -/
def Plain.joinS (a b i : Nat) : Nat → Nat
  | 0 => 0
  | x + 1 => (joinS a b i x ||| bitN a x * 2 ^ insN x i 0) ||| bitN b x * 2 ^ insN x i 1
theorem joinS_bit (a b i k z : Nat) : (joinS a b i k).testBit z = true ↔ ∃ x, x < k ∧ ((insN x i 0 = z ∧ bitN a x = 1) ∨ (insN x i 1 = z ∧ bitN b x = 1)) := by
  induction k with
  | zero => simp [joinS]
  | succ k ih =>
    show (((joinS a b i k ||| bitN a k * 2 ^ insN k i 0) ||| bitN b k * 2 ^ insN k i 1).testBit z = true) ↔ _
    rw [Nat.testBit_or, Nat.testBit_or, mulBit bitN_any, mulBit bitN_any, Bool.or_eq_true, Bool.or_eq_true, ih]
    simp only [decide_eq_true_eq]
    constructor
    · rintro ((⟨x, h1, h2⟩ | h) | h)
      · exact ⟨x, by omega, h2⟩
      · exact ⟨k, by omega, .inl h⟩
      · exact ⟨k, by omega, .inr h⟩
    · rintro ⟨x, h1, h2⟩
      rcases (show x < k ∨ x = k by omega) with h4 | rfl
      · exact .inl (.inl ⟨x, h4, h2⟩)
      · rcases h2 with h2 | h2
        · exact .inl (.inr h2)
        · exact .inr h2
theorem joinS_lt (n a b i k : Nat) (hn : n ≤ 4) (hi : i ≤ n) (hk : k ≤ 2 ^ n) : joinS a b i k < 2 ^ 2 ^ (n + 1) := by
  apply Nat.lt_pow_two_of_testBit
  intro z hz
  cases h : (joinS a b i k).testBit z with
  | false => rfl
  | true =>
    obtain ⟨x, h1, h2⟩ := (joinS_bit a b i k z).1 h
    have hx32 : x < 32 := by have := two_pow_le n (by omega); omega
    have e0 := ins_size n (by omega) x (by omega) hx32 i hi 0 (by decide)
    have e1 := ins_size n (by omega) x (by omega) hx32 i hi 1 (by decide)
    rcases h2 with ⟨h2, _⟩ | ⟨h2, _⟩ <;> omega
theorem join_eq (n a b i : Nat) (hn : n ≤ 4) (hi : i ≤ n) : joinS a b i (2 ^ n) = joinW n a b i := by
  apply Nat.eq_of_testBit_eq
  intro z
  rw [Bool.eq_iff_iff, joinS_bit]
  unfold joinW
  rw [tabN_bit]
  simp only [decide_eq_true_eq]
  have hp := two_pow_le n (by omega)
  have hp1 := two_pow_le (n + 1) (by omega)
  constructor
  · rintro ⟨x, h1, ⟨rfl, h2⟩ | ⟨rfl, h2⟩⟩
    · obtain ⟨_, e1, e2, _⟩ := ins_all x (by omega) i (by omega) 0 (by decide)
      refine ⟨ins_size n (by omega) x h1 (by omega) i hi 0 (by decide), ?_⟩
      unfold joinV
      rw [e1, e2, if_neg (by decide)]; exact h2
    · obtain ⟨_, e1, e2, _⟩ := ins_all x (by omega) i (by omega) 1 (by decide)
      refine ⟨ins_size n (by omega) x h1 (by omega) i hi 1 (by decide), ?_⟩
      unfold joinV
      rw [e1, e2, if_pos rfl]; exact h2
  · rintro ⟨hz, hv⟩
    obtain ⟨_, e2, _⟩ := rem_all z (by omega) i (by omega)
    refine ⟨remN z i, rem_size n (by omega) z hz (by omega) i hi, ?_⟩
    unfold joinV at hv
    rcases bitN_cases z i with hb | hb
    · rw [hb] at e2 hv; rw [if_neg (by decide)] at hv; exact .inl ⟨e2, hv⟩
    · rw [hb] at e2 hv; rw [if_pos rfl] at hv; exact .inr ⟨e2, hv⟩

/-- What JoinTables answers. -/
def Plain.joinT (n a m b i : Int) : Int × Int × Bool :=
  if fitB n a m b = true ∧ n ≠ 5 ∧ (0 ≤ i ∧ i ≤ n) then (n + 1, (joinW n.toNat a.toNat b.toNat i.toNat : Int), true) else (0, 0, false)
theorem joinT_yes {n a m b i : Nat} (hf : fitB n a m b = true) (h5 : (n : Int) ≠ 5) (hi : (i : Int) ≤ n) : joinT n a m b i = ((n : Int) + 1, (joinW n a b i : Int), true) := by
  unfold joinT; rw [if_pos ⟨hf, h5, by omega, hi⟩]; rfl
theorem joinT_no {n a m b i : Int} (h : ¬ (fitB n a m b = true ∧ n ≠ 5 ∧ (0 ≤ i ∧ i ≤ n))) : joinT n a m b i = (0, 0, false) := if_neg h
theorem fitB_yes {n a m b : Int} (h : fitB n a m b = true) : isT n a = true ∧ isT m b = true ∧ n = m := by
  unfold fitB at h; simpa [Bool.and_eq_true, and_assoc] using h

/-- The function value of JoinTables. -/
theorem Clo.join (p q a b i x : Nat) (hx : x < 2 ^ 5) (hi : i < 6) (ha : (a : Int) ≤ 4294967295) (hb : (b : Int) ≤ 4294967295) (W : World)
    (hp0 : W.cell? ⟨p, 0, none⟩ = some (.int .u64 (a : Int))) (hp1 : W.cell? ⟨p, 1, none⟩ = some (.int .u64 (b : Int))) (hq : W.cell? ⟨q, 0, none⟩ = some (.int .i64 (i : Int))) :
    Calls Try.prog 66 #[.int .i64 x, .pointer (some ⟨p, 0, none⟩), .pointer (some ⟨q, 0, none⟩)] W fun e w' => e = .returned (.int .i64 (joinV a b i x : Int)) ∧ ∃ m, w' = W.drewN m := by
  have HX := Lib.hid (show x < 64 by omega)
  have HI := Lib.hid hi
  have HL := Lib.hid (rem_all x (by omega) i hi).1
  have hi5 : (i : Int) ≤ 5 := by omega
  have hx5 : (x : Int) ≤ 31 := by omega
  have hbit := bit_i64 x i (by omega)
  rcases bitN_cases x i with hc | hc
  · have HV : Hid (joinV a b i x = bitN a (remN x i)) := Lib.hid (by unfold joinV; rw [hc, if_neg (by decide)])
    rw [hc] at hbit
    clear hc hx hi
    rw [HV.out]
    go_enter Try.func66, Try.ntmps66
    go_wp2_with fail
    go_quiet (first | (go_at_call 67; exact quiet_eq (Tab.rem x i HX.out HI.out _)) | (go_at_call 60; exact quiet_eq (Tab.at a _ (by omega) (by have := HL.out; omega) _)))
    go_wp2
    go_ret
    exact ⟨rfl, _, rfl⟩
  · have HV : Hid (joinV a b i x = bitN b (remN x i)) := Lib.hid (by unfold joinV; rw [hc, if_pos rfl])
    rw [hc] at hbit
    clear hc hx hi
    rw [HV.out]
    go_enter Try.func66, Try.ntmps66
    go_wp2_with fail
    go_quiet (first | (go_at_call 67; exact quiet_eq (Tab.rem x i HX.out HI.out _)) | (go_at_call 60; exact quiet_eq (Tab.at b _ (by omega) (by have := HL.out; omega) _)))
    go_wp2
    go_ret
    exact ⟨rfl, _, rfl⟩

end Go.Proofs.Ytecakbjcnabpnaa
