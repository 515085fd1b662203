/-
  Chapter 5: where a formula ends, of the model (l5End, IsFormula).
-/
import Derived.Test.YtdhdkonokbkdoaaGreatDoorBase0
import Derived.Test.YtdhdkonokbkdoaaGreatDoorPlainF
import Derived.Deep.DeepMust
namespace Go.Proofs.YtdhdkonokbkdoaaGreatDoor
open Go.RowKit Plain
set_option linter.unusedVariables false

/-- The bytes of a string, as a list. -/
abbrev lst (s : ByteArray) : List UInt8 := s.data.toList

theorem lst_len (s : ByteArray) : (lst s).length = s.size := by simp [lst]

theorem lst_drop (s : ByteArray) (k : Nat) (h : k < s.size) : (lst s).drop k = s[k] :: (lst s).drop (k + 1) := by
  have h' : k < (lst s).length := by rw [lst_len]; exact h
  rw [List.drop_eq_getElem_cons h']
  rfl

theorem lst_end (s : ByteArray) : (lst s).drop s.size = [] := by rw [← lst_len]; exact List.drop_length

/-- What l5End answers. -/
def Plain.endZ (s : ByteArray) (k : Nat) : Int := match rd ((lst s).drop k) with
  | none => -1
  | some (_, r) => (s.size : Int) - r.length

theorem endZ_of_none {s : ByteArray} {k : Nat} (h : rd ((lst s).drop k) = none) : endZ s k = -1 := by unfold endZ; rw [h]
theorem endZ_of_some {s : ByteArray} {k j : Nat} {f : Frm} (h : rd ((lst s).drop k) = some (f, (lst s).drop j)) (hj : j ≤ s.size) : endZ s k = j := by
  unfold endZ; rw [h]
  simp only [List.length_drop, lst_len]; omega

/-- What is behind a formula is the text from some place on. -/
theorem rd_at {s : ByteArray} {k : Nat} {f : Frm} {r : List UInt8} (h : rd ((lst s).drop k) = some (f, r)) (hk : k ≤ s.size) :
    r = (lst s).drop (k + (txt f).length) ∧ k + (txt f).length ≤ s.size := by
  have e := rd_sound h
  have hl := congrArg List.length e
  simp only [List.length_append, List.length_drop, lst_len] at hl
  refine ⟨?_, by omega⟩
  rw [← List.drop_drop, e]
  simp

theorem endZ_cases (s : ByteArray) (k : Nat) (hk : k ≤ s.size) : (rd ((lst s).drop k) = none ∧ endZ s k = -1) ∨ ∃ f j, rd ((lst s).drop k) = some (f, (lst s).drop j) ∧ j = k + (txt f).length ∧ j ≤ s.size ∧ endZ s k = j := by
  cases h : rd ((lst s).drop k) with
  | none => exact .inl ⟨rfl, endZ_of_none h⟩
  | some p =>
    obtain ⟨f, r⟩ := p
    obtain ⟨rfl, hj⟩ := rd_at h hk
    exact .inr ⟨f, _, rfl, rfl, hj, endZ_of_some h hj⟩

theorem endZ_neg {s : ByteArray} {k : Nat} (hd : (lst s).drop k = 33 :: (lst s).drop (k + 1)) : endZ s k = endZ s (k + 1) := by
  cases h : rd ((lst s).drop (k + 1)) with
  | none => rw [endZ_of_none h, endZ_of_none (by rw [hd, rd_neg_none h])]
  | some p =>
    obtain ⟨f, r⟩ := p
    unfold endZ
    rw [h, hd, rd_neg_some h]

theorem endZ_bin (o : Bop) {s : ByteArray} {k : Nat} (hd : (lst s).drop k = o.code :: (lst s).drop (k + 1)) (hk : k + 1 ≤ s.size) :
    (endZ s (k + 1) = -1 ∧ endZ s k = -1) ∨ ∃ j : Nat, k < j ∧ j ≤ s.size ∧ endZ s (k + 1) = j ∧ endZ s k = endZ s j := by
  rcases endZ_cases s (k + 1) hk with ⟨h, he⟩ | ⟨f, j, h, hj, hjs, he⟩
  · exact .inl ⟨he, endZ_of_none (by rw [hd, rd_bin_none o h])⟩
  · refine .inr ⟨j, by omega, hjs, he, ?_⟩
    cases h2 : rd ((lst s).drop j) with
    | none => rw [endZ_of_none h2, endZ_of_none (by rw [hd, rd_bin_none2 o h h2])]
    | some p =>
      obtain ⟨g, r⟩ := p
      unfold endZ
      rw [h2, hd, rd_bin_some o h h2]

theorem code_cases (c : UInt8) : c = 97 ∨ c = 98 ∨ c = 99 ∨ c = 100 ∨ c = 101 ∨ c = 48 ∨ c = 49 ∨ c = 33 ∨ c = 38 ∨ c = 124 ∨ c = 94 ∨ cls c = .bad := by
  rcases cls_cases c with ⟨b, rfl⟩ | ⟨i, rfl⟩ | rfl | ⟨o, rfl⟩ | h
  · cases b <;> decide
  · revert i; decide
  · decide
  · cases o <;> decide
  · simp [h]

theorem no_byte {c : UInt8} (k : Nat) (hk : k < 256) (h : c ≠ UInt8.ofNat k) : ((c.toNat : Int) == (k : Int)) = false := by
  rw [beq_eq_false_iff_ne]
  intro e
  apply h
  apply UInt8.toNat_inj.1
  rw [UInt8.toNat_ofNat']; omega

theorem bad_tests {c : UInt8} (h : cls c = .bad) : ((c.toNat : Int) == 48) = false ∧ ((c.toNat : Int) == 49) = false ∧ ((c.toNat : Int) == 33) = false ∧ ((c.toNat : Int) == 38) = false ∧ ((c.toNat : Int) == 124) = false ∧ ((c.toNat : Int) == 94) = false ∧ ((c.toNat : Int) == 97) = false ∧ ((c.toNat : Int) == 98) = false ∧ ((c.toNat : Int) == 99) = false ∧ ((c.toNat : Int) == 100) = false ∧ ((c.toNat : Int) == 101) = false := by
  obtain ⟨a, b, c, d, e, f, g, i, j, k, l⟩ := cls_bad c h
  exact ⟨no_byte 48 (by decide) a, no_byte 49 (by decide) b, no_byte 33 (by decide) c, no_byte 38 (by decide) d, no_byte 124 (by decide) e, no_byte 94 (by decide) f, no_byte 97 (by decide) g, no_byte 98 (by decide) i, no_byte 99 (by decide) j, no_byte 100 (by decide) k, no_byte 101 (by decide) l⟩

theorem num_97 {c : UInt8} (h : c = 97) : (c.toNat : Int) = 97 := by subst h; rfl

theorem num_98 {c : UInt8} (h : c = 98) : (c.toNat : Int) = 98 := by subst h; rfl

theorem num_99 {c : UInt8} (h : c = 99) : (c.toNat : Int) = 99 := by subst h; rfl

theorem num_100 {c : UInt8} (h : c = 100) : (c.toNat : Int) = 100 := by subst h; rfl

theorem num_101 {c : UInt8} (h : c = 101) : (c.toNat : Int) = 101 := by subst h; rfl

theorem num_48 {c : UInt8} (h : c = 48) : (c.toNat : Int) = 48 := by subst h; rfl

theorem num_49 {c : UInt8} (h : c = 49) : (c.toNat : Int) = 49 := by subst h; rfl

theorem num_33 {c : UInt8} (h : c = 33) : (c.toNat : Int) = 33 := by subst h; rfl

theorem num_38 {c : UInt8} (h : c = 38) : (c.toNat : Int) = 38 := by subst h; rfl

theorem num_124 {c : UInt8} (h : c = 124) : (c.toNat : Int) = 124 := by subst h; rfl

theorem num_94 {c : UInt8} (h : c = 94) : (c.toNat : Int) = 94 := by subst h; rfl

/-- Is the text a formula of at most 60 bytes? -/
def Plain.isF (s : ByteArray) : Bool := (asF (lst s)).isSome

theorem isF_long {s : ByteArray} (h : ¬ s.size ≤ 60) : isF s = false := by unfold isF; rw [asF_long _ (by rw [lst_len]; exact h)]; rfl
theorem isF_nil {s : ByteArray} (h : s.size = 0) : isF s = false := by
  have : lst s = [] := List.eq_nil_of_length_eq_zero (by rw [lst_len]; exact h)
  unfold isF; rw [this]; rfl

theorem isF_end {s : ByteArray} (h : s.size ≤ 60) : isF s = decide (endZ s 0 = (s.size : Int)) := by
  have h0 : (lst s).drop 0 = lst s := List.drop_zero
  rcases endZ_cases s 0 (by omega) with ⟨h1, he⟩ | ⟨f, j, h1, hj, hjs, he⟩
  · rw [he, decide_eq_false (by omega)]
    rw [h0] at h1
    unfold isF; rw [asF_none h1]; rfl
  · rw [he]
    rw [h0] at h1
    by_cases hjz : j = s.size
    · subst hjz
      rw [lst_end] at h1
      unfold isF; rw [asF_whole (by rw [lst_len]; exact h) h1, decide_eq_true (by omega)]; rfl
    · rw [lst_drop s j (by omega)] at h1
      unfold isF; rw [asF_rest h1, decide_eq_false (by omega)]; rfl

end Go.Proofs.YtdhdkonokbkdoaaGreatDoor
