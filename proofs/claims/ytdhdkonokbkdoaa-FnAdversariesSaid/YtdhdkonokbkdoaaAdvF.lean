/-
  Chapter 8: what the law of adversaries needs: no order of questions does better than the least depth; what each answer leaves.
-/
import Derived.Test.YtdhdkonokbkdoaaPlainM
import Derived.Test.YtdhdkonokbkdoaaAdvG
namespace Go.Proofs.Ytdhdkonokbkdoaa
open Go.RowKit Plain
set_option linter.unusedVariables false

/-- The adversary leaves the most. -/
theorem adv_max (n a m v i : Nat) : mdl JD 10 n a (cntN n m - 1) (m ||| 2 ^ i) (v ||| advN n a m v i * 2 ^ i) = max (mdl JD 10 n a (cntN n m - 1) (m ||| 2 ^ i) v) (mdl JD 10 n a (cntN n m - 1) (m ||| 2 ^ i) (v ||| 2 ^ i)) ∧
    mdl JD 10 n a (cntN n m - 1) (m ||| 2 ^ i) (v ||| (1 - advN n a m v i) * 2 ^ i) = min (mdl JD 10 n a (cntN n m - 1) (m ||| 2 ^ i) v) (mdl JD 10 n a (cntN n m - 1) (m ||| 2 ^ i) (v ||| 2 ^ i)) := by
  unfold Plain.advN
  by_cases h : mdl JD 10 n a (cntN n m - 1) (m ||| 2 ^ i) v < mdl JD 10 n a (cntN n m - 1) (m ||| 2 ^ i) (v ||| 2 ^ i)
  · rw [if_pos h]
    simp only [Nat.one_mul, Nat.sub_self, Nat.zero_mul, Nat.or_zero]
    omega
  · rw [if_neg h]
    simp only [Nat.one_mul, Nat.sub_zero, Nat.zero_mul, Nat.or_zero]
    omega

/-- A question leaves at least all but one. -/
theorem ask_one {n a m v i : Nat} (hn : n ≤ 4) (hm : m < 2 ^ n) (hv : v &&& m = v) (hi : i < n) (hb : m.testBit i = false) :
    mdl JD 10 n a (cntN n m) m v ≤ 1 + max (mdl JD 10 n a (cntN n m - 1) (m ||| 2 ^ i) v) (mdl JD 10 n a (cntN n m - 1) (m ||| 2 ^ i) (v ||| 2 ^ i)) := by
  obtain ⟨k, hk⟩ : ∃ k, cntN n m = k + 1 := by
    obtain ⟨j, hj, _⟩ := (sub_ok n m v hn hm hv).all i hi hb
    exact ⟨cntN n m - 1, by omega⟩
  rw [hk, Nat.add_sub_cancel]
  by_cases h : cubV n a m v < 2
  · rw [mdl_con h]; exact Nat.zero_le _
  · rw [mdl_step h]
    exact (mnF_spec m _ 10 n).2.1 i hi hb

theorem mdl_zero {n a m v : Nat} (hn : n ≤ 4) (hm : m < 2 ^ n) (hv : v &&& m = v) : mdl JD 10 n a (cntN n m) m v = 0 ↔ cubV n a m v < 2 := by
  constructor
  · intro h
    by_cases hc : cubV n a m v < 2
    · exact hc
    · exfalso
      obtain ⟨k, hk⟩ : ∃ k, cntN n m = k + 1 := by
        cases hz : cntN n m with
        | zero => exact absurd (cub_whole hn hm hv hz) hc
        | succ k => exact ⟨k, rfl⟩
      rw [hk, mdl_step hc] at h
      rcases (mnF_spec m (fun i => JD (k + 1) (mdl JD 10 n a k (m ||| 2 ^ i) v) (mdl JD 10 n a k (m ||| 2 ^ i) (v ||| 2 ^ i))) 10 n).2.2 with e | ⟨i, _, _, e⟩
      · rw [h] at e; cases e
      · rw [h] at e
        have e2 : 0 = 1 + max (mdl JD 10 n a k (m ||| 2 ^ i) v) (mdl JD 10 n a k (m ||| 2 ^ i) (v ||| 2 ^ i)) := e
        omega
  · exact fun h => mdl_con h

theorem play_most {n a : Nat} {l : List Int} (hn : n ≤ 4) (hp : permB l n = true) (f : Nat) : ∀ t, t + f = n →
    mdl JD 10 n a (cntN n (gm n a l t).1) (gm n a l t).1 (gm n a l t).2 + t ≤ plN n a l f t ∧ plN n a l f t ≤ n := by
  induction f with
  | zero =>
    intro t ht
    have ok := gm_ok (a := a) hn hp t (by omega)
    have hz : cntN n (gm n a l t).1 = 0 := by have := ok.cnt; omega
    rw [hz]
    show 0 + t ≤ t ∧ t ≤ n
    omega
  | succ f ih =>
    intro t ht
    have ok := gm_ok (a := a) hn hp t (by omega)
    by_cases h : cubV n a (gm n a l t).1 (gm n a l t).2 < 2
    · rw [show plN n a l (f + 1) t = t from if_pos h, mdl_con h]
      omega
    · obtain ⟨h1, h2, h3, h4, h5, _⟩ := gm_step hn hp (by omega) h
      rw [show plN n a l (f + 1) t = plN n a l f (t + 1) from if_neg h]
      have hi := ih (t + 1) (by omega)
      have ho := ask_one (a := a) hn ok.lt ok.sub h2 h5
      have hx := (adv_max n a (gm n a l t).1 (gm n a l t).2 (pAt l t)).1
      have hc : cntN n (gm n a l (t + 1)).1 = cntN n (gm n a l t).1 - 1 := by
        have := (gm_ok (a := a) hn hp (t + 1) (by omega)).cnt
        have := ok.cnt
        omega
      rw [hc] at hi
      have e : mdl JD 10 n a (cntN n (gm n a l t).1 - 1) (gm n a l (t + 1)).1 (gm n a l (t + 1)).2 = max (mdl JD 10 n a (cntN n (gm n a l t).1 - 1) ((gm n a l t).1 ||| 2 ^ pAt l t) (gm n a l t).2) (mdl JD 10 n a (cntN n (gm n a l t).1 - 1) ((gm n a l t).1 ||| 2 ^ pAt l t) ((gm n a l t).2 ||| 2 ^ pAt l t)) := hx
      rw [e] at hi
      omega

/-- What PlayAgainst answers lies between the least depth and the number of variables. -/
theorem pla_cases (n a : Int) (l : List Int) : plaT n a l = -1 ∨ 0 ≤ plaT n a l ∧ ldT n a ≤ plaT n a l ∧ plaT n a l ≤ n := by
  by_cases h : btB n a = true ∧ permB l n.toNat = true
  · obtain ⟨m, x, rfl, rfl, hm, hx, _⟩ := btB_yes h.1
    rw [Int.toNat_natCast] at h
    rw [plaT_yes h.1 h.2, ldT_yes hm hx]
    have := play_most (a := x) hm h.2 m 0 (by omega)
    rw [show (gm m x l 0).1 = 0 from rfl, show (gm m x l 0).2 = 0 from rfl, (spr_zero m (by omega)).1, mdl_whole JD_ok hm hx JD_I (by decide)] at this
    right
    show (0 : Int) ≤ ((plN m x l m 0 : Nat) : Int) ∧ ((cst JD m x : Nat) : Int) ≤ ((plN m x l m 0 : Nat) : Int) ∧ ((plN m x l m 0 : Nat) : Int) ≤ (m : Int)
    omega
  · left; exact plaT_no h

/-- What the law asks of an answer. -/
theorem adv_law {n a m v i : Int} (h : 0 ≤ advT n a m v i) :
    ∃ (N A M V I b : Nat) (L X Y : Nat), n = N ∧ a = A ∧ m = M ∧ v = V ∧ i = I ∧ N ≤ 4 ∧ A ≤ fullN N ∧ M < 16 ∧ V < 16 ∧ I < 4 ∧ b < 2 ∧ advT n a m v i = b ∧
      forT N A M V = L ∧ forT N A (M ||| 2 ^ I : Nat) (V ||| b * 2 ^ I : Nat) = X ∧ forT N A (M ||| 2 ^ I : Nat) (V ||| (1 - b) * 2 ^ I : Nat) = Y ∧ L ≤ X + 1 ∧ Y ≤ X ∧ X ≤ 4 ∧ (askT N A M V < 0 ↔ L = 0) := by
  by_cases hc : knB n a m v = true ∧ (0 ≤ i ∧ i < n) ∧ bitN m.toNat i.toNat = 0
  · obtain ⟨h1, h2, h3⟩ := hc
    obtain ⟨N, A, M, V, rfl, rfl, rfl, rfl, hn, ha, hm, hv⟩ := knB_yes h1
    obtain ⟨I, rfl⟩ := Int.eq_ofNat_of_zero_le h2.1
    have h3' : bitN M I = 0 := h3
    have h16 : 2 ^ N ≤ 16 := Nat.pow_le_pow_right (n := 2) (by decide) hn
    have hI : I < N := by omega
    have hb' : M.testBit I = false := by rw [bitN_test] at h3'; cases h : M.testBit I with | false => rfl | true => rw [h] at h3'; cases h3'
    obtain ⟨k, hk⟩ : ∃ k, cntN N M = k + 1 := by
      obtain ⟨j, hj, _⟩ := (sub_ok N M V hn hm hv).all I hI hb'
      exact ⟨cntN N M - 1, by omega⟩
    obtain ⟨p1, p2, p3, p4⟩ := place_more hn hm hv hk hI hb'
    have hM16 : M < 16 := by omega
    have hb2 := advN_lt N A M V I
    have hsub : ∀ c, c < 2 → (V ||| c * 2 ^ I) &&& (M ||| 2 ^ I) = V ||| c * 2 ^ I := by
      intro c hc
      rcases (show c = 0 ∨ c = 1 by omega) with rfl | rfl
      · rw [Nat.zero_mul, Nat.or_zero]; exact p3
      · rw [Nat.one_mul]; exact p4
    obtain ⟨x1, x2⟩ := adv_max N A M V I
    have ho := ask_one (a := A) hn hm hv hI hb'
    have hcn : cntN N (M ||| 2 ^ I) = cntN N M - 1 := by omega
    refine ⟨N, A, M, V, I, advN N A M V I, _, _, _, rfl, rfl, rfl, rfl, rfl, hn, ha, hM16, ?_, by omega, hb2, advT_yes h1 hI h3', forT_yes h1, forT_yes (knB_in hn ha p1 (hsub _ hb2)), forT_yes (knB_in hn ha p1 (hsub _ (by omega))), ?_, ?_, ?_, ?_⟩
    · exact Nat.lt_of_le_of_lt (by rw [← hv]; exact Nat.and_le_right) hM16
    · rw [hcn, x1]; omega
    · rw [hcn, x1, x2]; omega
    · refine Nat.le_trans (mdl_le JD_ok hn JD_I (by decide) p1 (hsub _ hb2) rfl) ?_
      have := cnt_le N (M ||| 2 ^ I)
      show cntN N (M ||| 2 ^ I) ≤ 4
      omega
    · rw [mdl_zero hn hm hv]
      by_cases hlt : cubV N A M V < 2
      · rw [askT_no2 hlt]; exact ⟨fun _ => hlt, fun _ => by decide⟩
      · rw [askT_yes h1 hlt]; exact ⟨fun q => absurd q (by omega), fun q => absurd q hlt⟩
  · exfalso
    rw [show advT n a m v i = -1 from if_neg hc] at h
    exact absurd h (by decide)

end Go.Proofs.Ytdhdkonokbkdoaa
