/-
  Chapter 11: what the law of degrees asks of a table; the law's comparison of lists.
-/
import Derived.Test.YtphjaggiddjhgaaGreatDoorDegE
namespace Go.Proofs.YtphjaggiddjhgaaGreatDoor
open Go.RowKit Plain
set_option linter.unusedVariables false

theorem Ints.sameZ (va vb : Value) (l : List Int) (w : World) (ha : IntsIn w va l) (hb : IntsIn w vb l) :
    Calls Tryz.prog 9 #[va, vb] w fun e w' => e = .returned (.bool true) ∧ ∃ m, w' = w.drewN m := by
  obtain ⟨a, ca, rfl, hl, _, h1⟩ := ha
  obtain ⟨b, cb, rfl, _, _, h2⟩ := hb
  have H1 := Lib.hid h1
  have H2 := Lib.hid h2
  clear h1 h2
  go_enter Tryz.func9, Tryz.ntmps9
  go_wp2
  go_loopw [5] (fun i wr => ∃ k m : Nat, i = .int .i64 (k : Int) ∧ k ≤ l.length ∧ wr = w.drewN m) (fun i _ => l.length - (intOf i).toNat)
  case atStart => exact ⟨0, 0, rfl, by omega, rfl⟩
  case round =>
    obtain ⟨k, m, rfl, hk, rfl⟩ := hrel
    by_cases hlt : k < l.length
    · obtain ⟨ba, oa, rfl, _, ka⟩ := H1.out (by omega)
      obtain ⟨bb, ob, rfl, _, kb⟩ := H2.out (by omega)
      have ka' := ka k hlt
      have kb' := kb k hlt
      clear ka kb
      have hlz : (k : Int) < (l.length : Int) := by omega
      go_wp2
      go_quiet (fail)
      go_wp2
      go_roundw
      case rel => exact ⟨k + 1, _, by go_num, by omega, rfl⟩
      case measure => simp [intOf] <;> omega
    · go_wp2
      go_ret
      exact ⟨rfl, _, rfl⟩

/-! Sums of bits. -/
def Plain.sumB (a : Nat) : Nat → Nat
  | 0 => 0
  | k + 1 => sumB a k + bitN a k
theorem sumB_half (a : Nat) : ∀ k, sumB a (k + 1) = a % 2 + sumB (a / 2) k := by
  intro k
  induction k with
  | zero => show 0 + bitN a 0 = a % 2 + 0; unfold bitN; simp
  | succ k ih =>
    show sumB a (k + 1) + bitN a (k + 1) = a % 2 + (sumB (a / 2) k + bitN (a / 2) k)
    have e : bitN a (k + 1) = bitN (a / 2) k := by unfold bitN; rw [Nat.pow_succ, Nat.mul_comm, Nat.div_div_eq_div_mul]
    rw [ih, e]; omega
theorem sumB_pop (k : Nat) : ∀ a, a < 2 ^ k → sumB a k = popN a := by
  induction k with
  | zero => intro a ha; have : a = 0 := by omega
            subst this; rw [popN_zero]; rfl
  | succ k ih =>
    intro a ha
    rw [sumB_half, popN_half, ih (a / 2) (by rw [Nat.pow_succ] at ha; omega)]
theorem part_full {n x : Nat} (hx : x < 2 ^ n) : x &&& (2 ^ n - 1) = x := by
  apply Nat.eq_of_testBit_eq
  intro z
  rw [Nat.testBit_and, Nat.testBit_two_pow_sub_one]
  by_cases hz : z < n
  · simp [hz]
  · have : x.testBit z = false := Nat.testBit_lt_two_pow (Nat.lt_of_lt_of_le hx (Nat.pow_le_pow_right (by decide) (by omega)))
    simp [this]
theorem cntA_full {n a : Nat} : ∀ k, k ≤ 2 ^ n → cntA a (2 ^ n - 1) k = sumB a k := by
  intro k
  induction k with
  | zero => intro _; rfl
  | succ k ih =>
    intro hk
    rw [cntA_yes (part_full (by omega)), ih (by omega)]; rfl
/-- The coefficient of all variables counts the ones modulo 2. -/
theorem an_full {n a : Nat} (ha : a < 2 ^ 2 ^ n) : anN a (2 ^ n - 1) = popN a % 2 := by
  unfold anN
  have h1 : 1 ≤ 2 ^ n := Nat.one_le_two_pow
  rw [show 2 ^ n - 1 + 1 = 2 ^ n by omega, cntA_full _ (Nat.le_refl _), sumB_pop _ a ha]
theorem degN_le {p : Nat → Bool} {B : Int} (hB : -1 ≤ B) {k : Nat} (h : ∀ x, x < k → p x = true → (popN x : Int) ≤ B) : degN p k ≤ B := by
  induction k with
  | zero => exact hB
  | succ k ih =>
    have e := ih fun x hx => h x (by omega)
    cases hp : p k with
    | false => rw [degN_no hp]; exact e
    | true => rw [degN_yes hp]; have := h k (by omega) hp; omega
theorem degN_mono {p q : Nat → Bool} {k : Nat} (h : ∀ x, x < k → p x = true → q x = true) : degN p k ≤ degN q k := by
  induction k with
  | zero => exact Int.le_refl _
  | succ k ih =>
    have e := ih fun x hx => h x (by omega)
    cases hp : p k with
    | false =>
      rw [degN_no hp]
      cases hq : q k with
      | false => rw [degN_no hq]; exact e
      | true => rw [degN_yes hq]; omega
    | true => rw [degN_yes hp, degN_yes (h k (by omega) hp)]; omega
theorem deg_full {p : Nat → Bool} {n : Nat} : (degN p (2 ^ n) = (n : Int)) ↔ p (2 ^ n - 1) = true := by
  have h1 : 1 ≤ 2 ^ n := Nat.one_le_two_pow
  obtain ⟨N, hN⟩ : ∃ N, 2 ^ n = N + 1 := ⟨2 ^ n - 1, by omega⟩
  have hb : degN p N ≤ (n : Int) - 1 := degN_le (by omega) fun x hx _ => by
    have := pop_top n x (by omega)
    have h2 : popN x ≠ n := fun e => by have := this.2 e; omega
    omega
  have hf := pop_full n
  rw [hN] at hf ⊢
  rw [Nat.add_sub_cancel] at hf ⊢
  cases hp : p N with
  | false => rw [degN_no hp]; simp; omega
  | true => rw [degN_yes hp, hf]; simp; omega

theorem dm_le {n a : Nat} (hn : n ≤ 5) : degN (anP a) (2 ^ n) ≤ degN (reP a) (2 ^ n) := degN_mono fun x hx hp => by
  have h1 : anN a x = 1 := of_decide_eq_true hp
  have h2 := reZ_mod (w := a) hn hx
  refine decide_eq_true fun h0 => ?_
  rw [h0, h1] at h2
  exact absurd h2 (by decide)
theorem tmod_odd {z : Int} {b : Nat} (hb : b < 2) (h : z % 2 = (b : Int)) : (Int.tmod z 2 != 0) = ((b : Int) == 1) := by
  rcases (show b = 0 ∨ b = 1 by omega) with rfl | rfl
  · have : Int.tmod z 2 = 0 := by rw [Int.tmod_eq_zero_of_dvd]; omega
    rw [this]; rfl
  · have : Int.tmod z 2 ≠ 0 := fun h0 => by have := Int.dvd_of_tmod_eq_zero h0; omega
    rw [bne_iff_ne.2 this]; rfl
theorem toc_back {n a : Nat} (hn : n ≤ 5) (ha : a < 2 ^ 2 ^ n) {r : Int × Int × Bool} (h : TocIs (reL a (2 ^ n)) n r) : r = ((n : Int), (a : Int), true) := by
  have hv : ∀ x, x < 2 ^ n → toV (reL a (2 ^ n)) x = (bitN a x : Int) := fun x hx => by
    rw [← toV_par hn _ hx, parF_congr 1 n (atL (reL a (2 ^ n))) (reZ a) (fun m hm => reL_at hm) x hx]
    exact re_back hn hx
  have hg : toG (reL a (2 ^ n)) (2 ^ n) := ⟨fun j hj => by
      unfold inR; rw [reL_at hj]; have := reZ_bound (w := a) hn hj; omega,
    fun x hx => by rw [hv x hx]; have := bitN_lt a x; omega⟩
  rw [h.good hg]
  have e : tabN (toN (reL a (2 ^ n))) (2 ^ n) = a := by
    rw [tabN_congr (v := bitN a) (fun x hx => by unfold toN; rw [hv x hx]; rfl)]
    exact tabN_self a _ ha
  rw [e]

/-- All that the law asks of a table. -/
structure LawDeg (n a : Nat) (h : Nat) (d1 d2 q : Int) : Prop where
  isH : isT n h = true
  le : decide (d2 < d1) = false
  full : ((d1 == (n : Int)) != (Int.tmod q 2 == 1)) = false
  odd : ∀ m, m < 2 ^ n → ((Int.tmod (reZ a m) 2 != 0) != (valAt n h m == 1)) = false
theorem law_deg {n a : Nat} (hn : n ≤ 5) (ht : isT n a = true) (ha : a < 2 ^ 2 ^ n) : LawDeg n a (anW n a) (dmT n a) (rdT n a) (cntT n a) := by
  have hle : a ≤ fullN n := by unfold fullN; omega
  refine ⟨isT_yes hn (anW_le n a), ?_, ?_, fun m hm => ?_⟩
  · rw [dmT_yes ht, rdT_yes ht]
    have := dm_le (a := a) hn
    exact decide_eq_false (by omega)
  · rw [dmT_yes ht, cntT_yes n a hn hle]
    have h1 := deg_full (p := anP a) (n := n)
    have h2 := an_full ha
    have h3 : (anP a (2 ^ n - 1) = true) ↔ popN a % 2 = 1 := by unfold anP; rw [h2]; exact decide_eq_true_iff
    have h4 : Int.tmod ((popN a : Nat) : Int) 2 = ((popN a % 2 : Nat) : Int) := by rw [Int.tmod_eq_emod_of_nonneg (by omega)]; omega
    rw [h4]
    have h5 : (degN (anP a) (2 ^ n) == (n : Int)) = (((popN a % 2 : Nat) : Int) == 1) := by
      rw [Bool.eq_iff_iff, beq_iff_eq, beq_iff_eq, h1, h3]; omega
    rw [h5]; simp
  · rw [tmod_odd (anN_lt a m) (reZ_mod hn hm), valAt_in n (anW n a) m hn (anW_le n a) (by rw [up2]; omega), anW_bit hm]
    simp

end Go.Proofs.YtphjaggiddjhgaaGreatDoor
