/-
  Chapter 5: where a formula ends, of the model (l5End, IsFormula).
-/
import Derived.Test.YtpniefagpinbdaaBase0
import Derived.Test.YtpniefagpinbdaaPlainF
import Derived.Deep.DeepMust
namespace Go.Proofs.Ytpniefagpinbdaa
open Go.RowKit Plain
set_option linter.unusedVariables false

/-- The bytes of a string, as a list. -/
abbrev lst (s : ByteArray) : List UInt8 := s.data.toList

theorem lst_len (s : ByteArray) : (lst s).length = s.size := by simp [lst]

theorem lst_drop (s : ByteArray) (k : Nat) (h : k < s.size) : (lst s).drop k = s[k] :: (lst s).drop (k + 1) := by
  have h' : k < (lst s).length := by rw [lst_len]; exact h
  rw [List.drop_eq_getElem_cons h']
  rfl

theorem lst_end (s : ByteArray) : (lst s).drop s.size = [] := by rw [← lst_len]; exact List.drop_length

/-- What l5End answers. -/
def Plain.endZ (s : ByteArray) (k : Nat) : Int := match rd ((lst s).drop k) with
  | none => -1
  | some (_, r) => (s.size : Int) - r.length

theorem endZ_of_none {s : ByteArray} {k : Nat} (h : rd ((lst s).drop k) = none) : endZ s k = -1 := by unfold endZ; rw [h]
theorem endZ_of_some {s : ByteArray} {k j : Nat} {f : Frm} (h : rd ((lst s).drop k) = some (f, (lst s).drop j)) (hj : j ≤ s.size) : endZ s k = j := by
  unfold endZ; rw [h]
  simp only [List.length_drop, lst_len]; omega

/-- What is behind a formula is the text from some place on. -/
theorem rd_at {s : ByteArray} {k : Nat} {f : Frm} {r : List UInt8} (h : rd ((lst s).drop k) = some (f, r)) (hk : k ≤ s.size) :
    r = (lst s).drop (k + (txt f).length) ∧ k + (txt f).length ≤ s.size := by
  have e := rd_sound h
  have hl := congrArg List.length e
  simp only [List.length_append, List.length_drop, lst_len] at hl
  refine ⟨?_, by omega⟩
  rw [← List.drop_drop, e]
  simp

theorem endZ_cases (s : ByteArray) (k : Nat) (hk : k ≤ s.size) : (rd ((lst s).drop k) = none ∧ endZ s k = -1) ∨ ∃ f j, rd ((lst s).drop k) = some (f, (lst s).drop j) ∧ j = k + (txt f).length ∧ j ≤ s.size ∧ endZ s k = j := by
  cases h : rd ((lst s).drop k) with
  | none => exact .inl ⟨rfl, endZ_of_none h⟩
  | some p =>
    obtain ⟨f, r⟩ := p
    obtain ⟨rfl, hj⟩ := rd_at h hk
    exact .inr ⟨f, _, rfl, rfl, hj, endZ_of_some h hj⟩

theorem endZ_neg {s : ByteArray} {k : Nat} (hd : (lst s).drop k = 33 :: (lst s).drop (k + 1)) : endZ s k = endZ s (k + 1) := by
  cases h : rd ((lst s).drop (k + 1)) with
  | none => rw [endZ_of_none h, endZ_of_none (by rw [hd, rd_neg_none h])]
  | some p =>
    obtain ⟨f, r⟩ := p
    unfold endZ
    rw [h, hd, rd_neg_some h]

theorem endZ_bin (o : Bop) {s : ByteArray} {k : Nat} (hd : (lst s).drop k = o.code :: (lst s).drop (k + 1)) (hk : k + 1 ≤ s.size) :
    (endZ s (k + 1) = -1 ∧ endZ s k = -1) ∨ ∃ j : Nat, k < j ∧ j ≤ s.size ∧ endZ s (k + 1) = j ∧ endZ s k = endZ s j := by
  rcases endZ_cases s (k + 1) hk with ⟨h, he⟩ | ⟨f, j, h, hj, hjs, he⟩
  · exact .inl ⟨he, endZ_of_none (by rw [hd, rd_bin_none o h])⟩
  · refine .inr ⟨j, by omega, hjs, he, ?_⟩
    cases h2 : rd ((lst s).drop j) with
    | none => rw [endZ_of_none h2, endZ_of_none (by rw [hd, rd_bin_none2 o h h2])]
    | some p =>
      obtain ⟨g, r⟩ := p
      unfold endZ
      rw [h2, hd, rd_bin_some o h h2]

theorem code_cases (c : UInt8) : c = 97 ∨ c = 98 ∨ c = 99 ∨ c = 100 ∨ c = 101 ∨ c = 48 ∨ c = 49 ∨ c = 33 ∨ c = 38 ∨ c = 124 ∨ c = 94 ∨ cls c = .bad := by
  rcases cls_cases c with ⟨b, rfl⟩ | ⟨i, rfl⟩ | rfl | ⟨o, rfl⟩ | h
  · cases b <;> decide
  · revert i; decide
  · decide
  · cases o <;> decide
  · simp [h]

theorem no_byte {c : UInt8} (k : Nat) (hk : k < 256) (h : c ≠ UInt8.ofNat k) : ((c.toNat : Int) == (k : Int)) = false := by
  rw [beq_eq_false_iff_ne]
  intro e
  apply h
  apply UInt8.toNat_inj.1
  rw [UInt8.toNat_ofNat']; omega

theorem bad_tests {c : UInt8} (h : cls c = .bad) : ((c.toNat : Int) == 48) = false ∧ ((c.toNat : Int) == 49) = false ∧ ((c.toNat : Int) == 33) = false ∧ ((c.toNat : Int) == 38) = false ∧ ((c.toNat : Int) == 124) = false ∧ ((c.toNat : Int) == 94) = false ∧ ((c.toNat : Int) == 97) = false ∧ ((c.toNat : Int) == 98) = false ∧ ((c.toNat : Int) == 99) = false ∧ ((c.toNat : Int) == 100) = false ∧ ((c.toNat : Int) == 101) = false := by
  obtain ⟨a, b, c, d, e, f, g, i, j, k, l⟩ := cls_bad c h
  exact ⟨no_byte 48 (by decide) a, no_byte 49 (by decide) b, no_byte 33 (by decide) c, no_byte 38 (by decide) d, no_byte 124 (by decide) e, no_byte 94 (by decide) f, no_byte 97 (by decide) g, no_byte 98 (by decide) i, no_byte 99 (by decide) j, no_byte 100 (by decide) k, no_byte 101 (by decide) l⟩

theorem num_97 {c : UInt8} (h : c = 97) : (c.toNat : Int) = 97 := by subst h; rfl

theorem num_98 {c : UInt8} (h : c = 98) : (c.toNat : Int) = 98 := by subst h; rfl

theorem num_99 {c : UInt8} (h : c = 99) : (c.toNat : Int) = 99 := by subst h; rfl

theorem num_100 {c : UInt8} (h : c = 100) : (c.toNat : Int) = 100 := by subst h; rfl

theorem num_101 {c : UInt8} (h : c = 101) : (c.toNat : Int) = 101 := by subst h; rfl

theorem num_48 {c : UInt8} (h : c = 48) : (c.toNat : Int) = 48 := by subst h; rfl

theorem num_49 {c : UInt8} (h : c = 49) : (c.toNat : Int) = 49 := by subst h; rfl

theorem num_33 {c : UInt8} (h : c = 33) : (c.toNat : Int) = 33 := by subst h; rfl

theorem num_38 {c : UInt8} (h : c = 38) : (c.toNat : Int) = 38 := by subst h; rfl

theorem num_124 {c : UInt8} (h : c = 124) : (c.toNat : Int) = 124 := by subst h; rfl

theorem num_94 {c : UInt8} (h : c = 94) : (c.toNat : Int) = 94 := by subst h; rfl

set_option maxRecDepth 100000 in
set_option maxHeartbeats 1000000 in
theorem End.any (s : ByteArray) (hs : (s.size : Int) ≤ 60) (n : Nat) : ∀ (k : Nat) (w : World), s.size - k ≤ n → k ≤ s.size →
    Calls Try.prog 28 #[.string s, .int .i64 (k : Int)] w fun e w' => e = .returned (.int .i64 (endZ s k)) ∧ w = w' := by
  induction n with
  | zero =>
    intro k w h hk
    obtain rfl : k = s.size := by omega
    have he : endZ s s.size = -1 := endZ_of_none (by rw [lst_end]; rfl)
    clear h hk
    rw [he]
    go_enter Try.func28, Try.ntmps28
    go_wp2_with fail
    go_ret
    exact ⟨rfl, rfl⟩
  | succ n ih =>
    intro k w h hk
    by_cases hlt : k < s.size
    · have hd := lst_drop s k hlt
      rcases code_cases s[k] with hc | hc | hc | hc | hc | hc | hc | hc | hc | hc | hc | hc
      case inl | inr.inl | inr.inr.inl | inr.inr.inr.inl | inr.inr.inr.inr.inl | inr.inr.inr.inr.inr.inl | inr.inr.inr.inr.inr.inr.inl =>
        have he : endZ s k = (k : Int) + 1 := by
          rw [hc] at hd
          first
            | exact endZ_of_some (j := k + 1) (by rw [hd]; exact rd_var 0 _) hlt
            | exact endZ_of_some (j := k + 1) (by rw [hd]; exact rd_var 1 _) hlt
            | exact endZ_of_some (j := k + 1) (by rw [hd]; exact rd_var 2 _) hlt
            | exact endZ_of_some (j := k + 1) (by rw [hd]; exact rd_var 3 _) hlt
            | exact endZ_of_some (j := k + 1) (by rw [hd]; exact rd_var 4 _) hlt
            | exact endZ_of_some (j := k + 1) (by rw [hd]; exact rd_con false _) hlt
            | exact endZ_of_some (j := k + 1) (by rw [hd]; exact rd_con true _) hlt
        first | have q := num_97 hc | have q := num_98 hc | have q := num_99 hc | have q := num_100 hc | have q := num_101 hc | have q := num_48 hc | have q := num_49 hc
        rw [he]
        clear hd hc ih h
        go_enter Try.func28, Try.ntmps28
        go_wp2_with fail
        go_ret
        exact ⟨ret_int (by omega), rfl⟩
      case inr.inr.inr.inr.inr.inr.inr.inl =>
        have he : endZ s k = endZ s (k + 1) := endZ_neg (by rw [hd, hc])
        have q := num_33 hc
        have IH : ∀ w, Calls Try.prog 28 #[.string s, .int .i64 ((k : Int) + 1)] w fun e w' => e = .returned (.int .i64 (endZ s (k + 1))) ∧ w = w' := fun w => ih (k + 1) w (by omega) hlt
        have HI := Lib.hid IH
        rw [he]
        clear hd hc ih h IH he
        go_enter Try.func28, Try.ntmps28
        go_wp2_with fail
        refine (HI.out _).mono ?_
        rintro e w' ⟨rfl, rfl⟩
        go_wp2_with fail
        go_ret
        exact ⟨rfl, rfl⟩
      case inr.inr.inr.inr.inr.inr.inr.inr.inr.inr.inr =>
        have he : endZ s k = -1 := endZ_of_none (by rw [hd, rd_bad _ hc])
        obtain ⟨q1, q2, q3, q4, q5, q6, q7, q8, q9, q10, q11⟩ := bad_tests hc
        rw [he]
        clear hd hc ih h he
        go_enter Try.func28, Try.ntmps28
        go_wp2_with fail
        go_ret
        exact ⟨rfl, rfl⟩
      all_goals
        have hz : (endZ s (k + 1) = -1 ∧ endZ s k = -1) ∨ ∃ j : Nat, k < j ∧ j ≤ s.size ∧ endZ s (k + 1) = j ∧ endZ s k = endZ s j := by
          first | exact endZ_bin .band (by rw [hd, hc]; rfl) hlt | exact endZ_bin .bor (by rw [hd, hc]; rfl) hlt | exact endZ_bin .bxor (by rw [hd, hc]; rfl) hlt
        first | have q := num_38 hc | have q := num_124 hc | have q := num_94 hc
        have IH : ∀ w, Calls Try.prog 28 #[.string s, .int .i64 ((k : Int) + 1)] w fun e w' => e = .returned (.int .i64 (endZ s (k + 1))) ∧ w = w' := fun w => ih (k + 1) w (by omega) hlt
        rcases hz with ⟨h1, h2⟩ | ⟨j, hj, hjs, h1, h2⟩
        · rw [h1] at IH
          rw [h2]
          have HI := Lib.hid IH
          clear hd hc ih h IH h1 h2
          go_enter Try.func28, Try.ntmps28
          go_wp2_with fail
          refine (HI.out _).mono ?_
          rintro e w' ⟨rfl, rfl⟩
          go_wp2_with fail
          go_ret
          exact ⟨rfl, rfl⟩
        · rw [h1] at IH
          rw [h2]
          have HI := Lib.hid IH
          have HJ := Lib.hid (fun w => ih j w (by omega) hjs)
          clear hd hc ih h IH h1 h2
          go_enter Try.func28, Try.ntmps28
          go_wp2_with fail
          refine (HI.out _).mono ?_
          rintro e w' ⟨rfl, rfl⟩
          go_wp2_with fail
          refine (HJ.out _).mono ?_
          rintro e w' ⟨rfl, rfl⟩
          go_wp2_with fail
          go_ret
          exact ⟨rfl, rfl⟩
    · obtain rfl : k = s.size := by omega
      have he : endZ s s.size = -1 := endZ_of_none (by rw [lst_end]; rfl)
      clear h hk ih hlt
      rw [he]
      go_enter Try.func28, Try.ntmps28
      go_wp2_with fail
      go_ret
      exact ⟨rfl, rfl⟩

/-- Is the text a formula of at most 60 bytes? -/
def Plain.isF (s : ByteArray) : Bool := (asF (lst s)).isSome

theorem isF_long {s : ByteArray} (h : ¬ s.size ≤ 60) : isF s = false := by unfold isF; rw [asF_long _ (by rw [lst_len]; exact h)]; rfl
theorem isF_nil {s : ByteArray} (h : s.size = 0) : isF s = false := by
  have : lst s = [] := List.eq_nil_of_length_eq_zero (by rw [lst_len]; exact h)
  unfold isF; rw [this]; rfl

theorem isF_end {s : ByteArray} (h : s.size ≤ 60) : isF s = decide (endZ s 0 = (s.size : Int)) := by
  have h0 : (lst s).drop 0 = lst s := List.drop_zero
  rcases endZ_cases s 0 (by omega) with ⟨h1, he⟩ | ⟨f, j, h1, hj, hjs, he⟩
  · rw [he, decide_eq_false (by omega)]
    rw [h0] at h1
    unfold isF; rw [asF_none h1]; rfl
  · rw [he]
    rw [h0] at h1
    by_cases hjz : j = s.size
    · subst hjz
      rw [lst_end] at h1
      unfold isF; rw [asF_whole (by rw [lst_len]; exact h) h1, decide_eq_true (by omega)]; rfl
    · rw [lst_drop s j (by omega)] at h1
      unfold isF; rw [asF_rest h1, decide_eq_false (by omega)]; rfl

/-- IsFormula of the model. -/
theorem IsF.model (s : ByteArray) (w : World) :
    Calls Try.prog 11 #[.string s] w fun e w' => e = .returned (.bool (isF s)) ∧ w = w' := by
  by_cases h : (s.size : Int) ≤ 60
  · by_cases h0 : (0 : Int) < (s.size : Int)
    · have HE := Lib.hid (fun w => End.any s h s.size 0 w (by omega) (by omega))
      have hf : isF s = decide (endZ s 0 = (s.size : Int)) := isF_end (by omega)
      rw [hf]
      generalize endZ s 0 = z at HE
      clear hf
      have HE' : ∀ w, Calls Try.prog 28 #[.string s, .int .i64 0] w fun e w' => e = .returned (.int .i64 z) ∧ w = w' := HE.out
      have HH := Lib.hid HE'
      clear HE HE'
      go_enter Try.func11, Try.ntmps11
      go_wp2_with fail
      refine (HH.out _).mono ?_
      rintro e w' ⟨rfl, rfl⟩
      go_wp2_with fail
      go_ret
      exact ⟨ret_bool rfl, rfl⟩
    · rw [isF_nil (by omega)]
      go_enter Try.func11, Try.ntmps11
      go_wp2_with fail
      go_ret
      exact ⟨rfl, rfl⟩
  · rw [isF_long (by omega)]
    go_enter Try.func11, Try.ntmps11
    go_wp2_with fail
    go_ret
    exact ⟨rfl, rfl⟩

end Go.Proofs.Ytpniefagpinbdaa
