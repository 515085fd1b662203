/-
  Plain mathematics of chapter 6: the texts of terms, and reading them.
-/
import Derived.Test.YtphjaggiddjhgaaGreatDoorPlainQ
import Derived.Lib.Strings
namespace Go.Proofs.YtphjaggiddjhgaaGreatDoor
open Plain Go.RowKit
set_option linter.unusedVariables false

/-- What variable i writes in the text of a term. -/
def Plain.ltr (m v i : Nat) : List UInt8 := if bitN m i = 0 then [] else if bitN v i = 0 then [33, UInt8.ofNat (97 + i)] else [UInt8.ofNat (97 + i)]
def Plain.ltrs (m v : Nat) : Nat → List UInt8
  | 0 => []
  | k + 1 => ltrs m v k ++ ltr m v k
def Plain.tmTxt (n m v : Nat) : List UInt8 := if m = 0 then [49] else ltrs m v n
def Plain.fmtTm (n m v : Int) : List UInt8 := if isTm n m v = true then tmTxt n.toNat m.toNat v.toNat else []
theorem fmtTm_no {n m v : Int} (h : isTm n m v = false) : fmtTm n m v = [] := if_neg (by rw [h]; decide)
theorem fmtTm_yes {n m v : Nat} (h : isTm n m v = true) : fmtTm n m v = tmTxt n m v := by unfold fmtTm; rw [if_pos h]; rfl
theorem ltrs_len (m v k : Nat) : (ltrs m v k).length ≤ 2 * k := by
  induction k with
  | zero => exact Nat.le_refl _
  | succ k ih =>
    have h : (ltr m v k).length ≤ 2 := by unfold ltr; split; decide; split <;> simp
    rw [ltrs, List.length_append]; omega
theorem ltrs_no {m v k : Nat} (h : bitN m k = 0) : ltrs m v (k + 1) = ltrs m v k := by rw [ltrs, ltr, if_pos h, List.append_nil]
theorem ltrs_neg {m v k : Nat} (h : bitN m k = 1) (h2 : bitN v k = 0) : ltrs m v (k + 1) = ltrs m v k ++ [33] ++ [UInt8.ofNat (97 + k)] := by
  rw [ltrs, ltr, if_neg (by omega), if_pos h2, List.append_assoc]; rfl
theorem ltrs_pos {m v k : Nat} (h : bitN m k = 1) (h2 : bitN v k = 1) : ltrs m v (k + 1) = ltrs m v k ++ [UInt8.ofNat (97 + k)] := by
  rw [ltrs, ltr, if_neg (by omega), if_neg (by omega)]
theorem ltrs_nil : ∀ n < 6, ∀ m < 32, m < 2 ^ n → ∀ v < 32, (ltrs m v n = [] ↔ m = 0) := by decide +kernel
theorem tmTxt_ne {n m v : Nat} (hn : n ≤ 5) (hm : m < 2 ^ n) (hv : v < 32) : tmTxt n m v ≠ [] := by
  unfold tmTxt
  split
  · decide
  · rename_i h
    intro h2
    exact h ((ltrs_nil n (by omega) m (by have := pow5q hn; omega) hm v hv).1 h2)
theorem fmtTm_len (n m v : Int) : (fmtTm n m v).length ≤ 10 := by
  cases h : isTm n m v with
  | false => rw [fmtTm_no h]; decide
  | true =>
    obtain ⟨a, b, c, rfl, rfl, rfl, ha, hb, hc⟩ := isTm_nat h
    rw [fmtTm_yes h]
    unfold tmTxt
    split
    · decide
    · have := ltrs_len b c a; omega
theorem fmtTm_ne {n m v : Int} (h : isTm n m v = true) : fmtTm n m v ≠ [] := by
  obtain ⟨a, b, c, rfl, rfl, rfl, ha, hb, hc⟩ := isTm_nat h
  rw [fmtTm_yes h]
  have := tm_le ha hb hc
  exact tmTxt_ne ha hb (by omega)

/-! The program's reading: letter by letter. -/
def Plain.stI (i : Nat) (x : List UInt8 × Nat × Nat) : List UInt8 × Nat × Nat :=
  if Lib.hasPrefix (Lib.trimPrefix x.1 [33]) [UInt8.ofNat (97 + i)] = true then
    (Lib.trimPrefix (Lib.trimPrefix x.1 [33]) [UInt8.ofNat (97 + i)], x.2.1 ||| 2 ^ i, if Lib.hasPrefix x.1 [33] = true then x.2.2 else x.2.2 ||| 2 ^ i)
  else x
def Plain.runI (s : List UInt8) : Nat → List UInt8 × Nat × Nat
  | 0 => (s, 0, 0)
  | k + 1 => stI k (runI s k)
def Plain.okI (n m v : Nat) : Bool := !(decide (m < 2 ^ n) && decide (v &&& m = v)) || decide ((runI (tmTxt n m v) n).2 = (m, v))
theorem okI_all : ∀ n < 6, ∀ m < 32, ∀ v < 32, okI n m v = true := by decide +kernel
theorem runI_back (n : Nat) (hn : n < 6) (m : Nat) (hm : m < 32) (hm2 : m < 2 ^ n) (v : Nat) (hv : v < 32) (hs : v &&& m = v) : (runI (tmTxt n m v) n).2 = (m, v) := by
  have h := okI_all n hn m hm v hv
  unfold okI at h
  rw [decide_eq_true hm2, decide_eq_true hs] at h
  simpa using h
theorem or_sub {v m b : Nat} (h : v &&& m = v) : v &&& (m ||| b) = v := by
  rw [sub_iff] at h ⊢
  intro z hz
  rw [Nat.testBit_or, h z hz]; rfl
theorem or_sub2 {v m b : Nat} (h : v &&& m = v) : (v ||| b) &&& (m ||| b) = v ||| b := by
  rw [sub_iff] at h ⊢
  intro z hz
  rw [Nat.testBit_or, Bool.or_eq_true] at hz ⊢
  exact hz.imp (h z) id
theorem runI_ok (s : List UInt8) : ∀ k, k ≤ 5 → (runI s k).2.1 < 2 ^ k ∧ (runI s k).2.2 &&& (runI s k).2.1 = (runI s k).2.2 := by
  intro k
  induction k with
  | zero => intro _; exact ⟨Nat.one_pos, Nat.and_self 0⟩
  | succ k ih =>
    intro hk
    obtain ⟨h1, h2⟩ := ih (by omega)
    have h3 : 2 ^ (k + 1) = 2 ^ k * 2 := Nat.pow_succ 2 k
    have h4 : (runI s k).2.1 ||| 2 ^ k < 2 ^ (k + 1) := Nat.or_lt_two_pow (by omega) (by omega)
    show (stI k (runI s k)).2.1 < _ ∧ (stI k (runI s k)).2.2 &&& (stI k (runI s k)).2.1 = (stI k (runI s k)).2.2
    unfold stI
    split
    · dsimp only
      split
      · exact ⟨h4, or_sub h2⟩
      · exact ⟨h4, or_sub2 h2⟩
    · exact ⟨by omega, h2⟩

/-! The model's reading: byte by byte. -/
def Plain.goM (n : Nat) : List UInt8 → Bool → Nat → Nat → Option (Nat × Nat)
  | [], _, m, v => some (m, v)
  | b :: r, nt, m, v =>
    if b = 33 then goM n r true m v
    else if 97 ≤ b.toNat ∧ b.toNat < 97 + n then goM n r false (m ||| 2 ^ (b.toNat - 97)) (if nt = true then v else v ||| 2 ^ (b.toNat - 97))
    else none
theorem goM_mark {n : Nat} {b : UInt8} (hb : b = 33) (r : List UInt8) (nt : Bool) (m v : Nat) : goM n (b :: r) nt m v = goM n r true m v := by rw [goM, if_pos hb]
theorem goM_letter {n : Nat} {b : UInt8} (hb : b ≠ 33) (hk : 97 ≤ b.toNat ∧ b.toNat < 97 + n) (r : List UInt8) (nt : Bool) (m v : Nat) :
    goM n (b :: r) nt m v = goM n r false (m ||| 2 ^ (b.toNat - 97)) (if nt = true then v else v ||| 2 ^ (b.toNat - 97)) := by rw [goM, if_neg hb, if_pos hk]
theorem goM_no {n : Nat} {b : UInt8} (hb : b ≠ 33) (hk : ¬ (97 ≤ b.toNat ∧ b.toNat < 97 + n)) (r : List UInt8) (nt : Bool) (m v : Nat) : goM n (b :: r) nt m v = none := by
  rw [goM, if_neg hb, if_neg hk]
def Plain.goS (n : Nat) (s : List UInt8) : Option (Nat × Nat) := if s = [49] then some (0, 0) else goM n s false 0 0
def Plain.okM (n m v : Nat) : Bool := !(decide (m < 2 ^ n) && decide (v &&& m = v)) || decide (goS n (tmTxt n m v) = some (m, v))
theorem okM_all : ∀ n < 6, ∀ m < 32, ∀ v < 32, okM n m v = true := by decide +kernel
theorem goM_back (n : Nat) (hn : n < 6) (m : Nat) (hm : m < 32) (hm2 : m < 2 ^ n) (v : Nat) (hv : v < 32) (hs : v &&& m = v) : goS n (tmTxt n m v) = some (m, v) := by
  have h := okM_all n hn m hm v hv
  unfold okM at h
  rw [decide_eq_true hm2, decide_eq_true hs] at h
  simpa using h

/-- The term with this text, if there is one. -/
def Plain.parT (n : Int) (s : List UInt8) : Option Tm :=
  if 0 ≤ n ∧ n ≤ 5 then (if fmtTm n (runI s n.toNat).2.1 (runI s n.toNat).2.2 = s then some (runI s n.toNat).2 else none) else none
theorem parT_no {n : Int} {s : List UInt8} (h : ¬ (0 ≤ n ∧ n ≤ 5)) : parT n s = none := if_neg h
theorem parT_yes {n : Nat} {s : List UInt8} (hn : n ≤ 5) : parT n s = if fmtTm n (runI s n).2.1 (runI s n).2.2 = s then some (runI s n).2 else none := by
  unfold parT; rw [if_pos (by omega)]; rfl
theorem parT_some {n : Int} {s : List UInt8} {t : Tm} (h : parT n s = some t) : isTm n t.1 t.2 = true ∧ fmtTm n t.1 t.2 = s := by
  by_cases hn : 0 ≤ n ∧ n ≤ 5
  · obtain ⟨k, rfl⟩ := Int.eq_ofNat_of_zero_le hn.1
    have hk : k ≤ 5 := by omega
    rw [parT_yes hk] at h
    split at h
    · rename_i hs
      cases h
      obtain ⟨h1, h2⟩ := runI_ok s k hk
      exact ⟨isTm_yes hk h1 h2, hs⟩
    · cases h
  · rw [parT_no hn] at h; cases h
theorem parT_back {n m v : Int} (h : isTm n m v = true) : parT n (fmtTm n m v) = some (m.toNat, v.toNat) := by
  obtain ⟨a, b, c, rfl, rfl, rfl, ha, hb, hc⟩ := isTm_nat h
  have hle := tm_le ha hb hc
  have e := runI_back a (by omega) b (by omega) hb c (by omega) hc
  rw [parT_yes ha, fmtTm_yes h, e, if_pos (fmtTm_yes h)]
  rfl
/-- The model's way finds the same. -/
theorem parT_model {n : Nat} {s : List UInt8} (hn : n ≤ 5) (hs : s ≠ []) :
    parT n s = match goS n s with | none => none | some t => if fmtTm n t.1 t.2 = s then some t else none := by
  cases h : parT n s with
  | some t =>
    obtain ⟨h1, h2⟩ := parT_some h
    obtain ⟨a, b, c, e1, e2, e3, ha, hb, hc⟩ := isTm_nat h1
    have hle := tm_le ha hb hc
    have e2' : t.1 = b := by omega
    have e3' : t.2 = c := by omega
    have e1' : n = a := by omega
    subst e1'
    have h3 := goM_back n (by omega) b (by omega) hb c (by omega) hc
    rw [e2', e3'] at h2 h1
    rw [fmtTm_yes h1] at h2
    rw [h2] at h3
    rw [h3]
    dsimp only
    rw [fmtTm_yes h1, if_pos h2, ← e2', ← e3']
  | none =>
    cases hg : goS n s with
    | none => rfl
    | some t =>
      dsimp only
      by_cases hf : fmtTm n t.1 t.2 = s
      · cases hi : isTm n t.1 t.2 with
        | false => rw [fmtTm_no hi] at hf; exact absurd hf.symm hs
        | true =>
          have := parT_back hi
          rw [hf, h] at this; cases this
      · rw [if_neg hf]

end Go.Proofs.YtphjaggiddjhgaaGreatDoor
