/-
  Plain mathematics of chapter 8: the game against the adversary, question by question.
-/
import Derived.Test.YtdhdkonokbkdoaaAdvJ
import Derived.Test.YtdhdkonokbkdoaaPlainO
namespace Go.Proofs.Ytdhdkonokbkdoaa
open Go.RowKit Plain
set_option linter.unusedVariables false

/-- What is known after some questions. -/
def Plain.gm (n a : Nat) (l : List Int) : Nat → Nat × Nat
  | 0 => (0, 0)
  | t + 1 => ((gm n a l t).1 ||| 2 ^ pAt l t, (gm n a l t).2 ||| advN n a (gm n a l t).1 (gm n a l t).2 (pAt l t) * 2 ^ pAt l t)
/-- How many questions are asked, with some still to ask. -/
def Plain.plN (n a : Nat) (l : List Int) : Nat → Nat → Nat
  | 0, t => t
  | f + 1, t => if cubV n a (gm n a l t).1 (gm n a l t).2 < 2 then t else plN n a l f (t + 1)
def Plain.played (n a : Nat) (l : List Int) : Nat := plN n a l n 0

structure Plain.GmOk (n a : Nat) (l : List Int) (t : Nat) : Prop where
  lt : (gm n a l t).1 < 2 ^ n
  sub : (gm n a l t).2 &&& (gm n a l t).1 = (gm n a l t).2
  cnt : cntN n (gm n a l t).1 + t = n
  on : ∀ j, (gm n a l t).1.testBit j = true → ∃ s, s < t ∧ pAt l s = j

theorem gm_ok {n a : Nat} {l : List Int} (hn : n ≤ 4) (hp : permB l n = true) (t : Nat) : t ≤ n → GmOk n a l t := by
  obtain ⟨h1, h2, h3, h4, h5⟩ := permB_facts (by omega) hp
  induction t with
  | zero =>
    intro _
    refine ⟨Nat.pow_pos (by decide), (by show (0 : Nat) &&& 0 = 0; rfl), ?_, fun j h => ?_⟩
    · show cntN n 0 + 0 = n
      rw [Nat.add_zero]; exact (spr_zero n (by omega)).1
    · rw [show (gm n a l 0).1 = 0 from rfl, Nat.zero_testBit] at h
      cases h
  | succ t ih =>
    intro ht
    have ok := ih (by omega)
    have hi := h3 t (by omega)
    have hb : (gm n a l t).1.testBit (pAt l t) = false := by
      cases h : (gm n a l t).1.testBit (pAt l t) with
      | false => rfl
      | true =>
        obtain ⟨s, hs, he⟩ := ok.on _ h
        have := h4 t (by omega) s (by omega) he
        omega
    obtain ⟨k, hk⟩ : ∃ k, cntN n (gm n a l t).1 = k + 1 := ⟨cntN n (gm n a l t).1 - 1, by have := ok.cnt; omega⟩
    obtain ⟨p1, p2, p3, p4⟩ := place_more hn ok.lt ok.sub hk hi hb
    refine ⟨p1, ?_, ?_, fun j h => ?_⟩
    · show ((gm n a l t).2 ||| advN n a (gm n a l t).1 (gm n a l t).2 (pAt l t) * 2 ^ pAt l t) &&& ((gm n a l t).1 ||| 2 ^ pAt l t) = _ ||| _
      have h2 := advN_lt n a (gm n a l t).1 (gm n a l t).2 (pAt l t)
      rcases (show advN n a (gm n a l t).1 (gm n a l t).2 (pAt l t) = 0 ∨ advN n a (gm n a l t).1 (gm n a l t).2 (pAt l t) = 1 by omega) with e | e
      · rw [e, Nat.zero_mul, Nat.or_zero]; exact p3
      · rw [e, Nat.one_mul]; exact p4
    · show cntN n ((gm n a l t).1 ||| 2 ^ pAt l t) + (t + 1) = n
      have := ok.cnt
      omega
    · rw [show (gm n a l (t + 1)).1 = (gm n a l t).1 ||| 2 ^ pAt l t from rfl, Nat.testBit_or, Nat.testBit_two_pow] at h
      cases hh : (gm n a l t).1.testBit j with
      | true =>
        obtain ⟨s, hs, he⟩ := ok.on j hh
        exact ⟨s, by omega, he⟩
      | false =>
        rw [hh] at h
        exact ⟨t, by omega, by simpa using h⟩

/-- What a round of the game needs. -/
theorem gm_step {n a : Nat} {l : List Int} {t : Nat} (hn : n ≤ 4) (hp : permB l n = true) (ht : t ≤ n) (hlt : ¬ cubV n a (gm n a l t).1 (gm n a l t).2 < 2) :
    t < n ∧ pAt l t < n ∧ (pAt l t : Int) = l.getD t 0 ∧ bitN (gm n a l t).1 (pAt l t) = 0 ∧ (gm n a l t).1.testBit (pAt l t) = false ∧ plN n a l (n - t) t = plN n a l (n - (t + 1)) (t + 1) := by
  have ok := gm_ok (a := a) hn hp t ht
  obtain ⟨h1, h2, h3, h4, h5⟩ := permB_facts (by omega) hp
  have htn : t < n := by
    by_cases h : t < n
    · exact h
    · exact absurd (cub_whole hn ok.lt ok.sub (by have := ok.cnt; omega)) hlt
  have hb : (gm n a l t).1.testBit (pAt l t) = false := by
    cases h : (gm n a l t).1.testBit (pAt l t) with
    | false => rfl
    | true =>
      obtain ⟨s, hs, he⟩ := ok.on _ h
      have := h4 t htn s (by omega) he
      omega
  refine ⟨htn, h3 t htn, (pAt_int (h2 t htn)).1, by rw [bitN_test, hb]; rfl, hb, ?_⟩
  obtain ⟨f, hf⟩ : ∃ f, n - t = f + 1 := ⟨n - t - 1, by omega⟩
  rw [hf, show n - (t + 1) = f by omega]
  show (if _ then _ else _) = _
  rw [if_neg hlt]
theorem gm_end {n a : Nat} {l : List Int} {t : Nat} (hlt : cubV n a (gm n a l t).1 (gm n a l t).2 < 2) : plN n a l (n - t) t = t := by
  cases h : n - t with
  | zero => rfl
  | succ f => show (if _ then _ else _) = _; rw [if_pos hlt]

/-- What is left after a round. -/
theorem kept_step {n a m v i b : Nat} (hn : n ≤ 4) (hi : i < n) (hb : b < 2) (hm : m.testBit i = false) : keptW n (keptW n a m v) (2 ^ i) (b * 2 ^ i) = keptW n a (m ||| 2 ^ i) (v ||| b * 2 ^ i) := by
  obtain ⟨o1, o2, o3⟩ := one_place hn hi hb
  rw [kept_kept o1 o2]
  congr 1
  rcases (show b = 0 ∨ b = 1 by omega) with rfl | rfl
  · rw [Nat.zero_mul, mix_zero, Nat.or_zero]
  · have := mix_more (v := v) (v' := 0) hm
    rw [Nat.zero_or, mix_zero] at this
    rw [Nat.one_mul, this]

end Go.Proofs.Ytdhdkonokbkdoaa
