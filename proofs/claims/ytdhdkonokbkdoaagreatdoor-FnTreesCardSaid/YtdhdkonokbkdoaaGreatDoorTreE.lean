/-
  Chapter 7: where a tree ends, of the model (l7End, IsTree); bytes of trees.
-/
import Derived.Test.YtdhdkonokbkdoaaGreatDoorFrmE
import Derived.Test.YtdhdkonokbkdoaaGreatDoorPlainG
import Derived.Test.YtdhdkonokbkdoaaGreatDoorIn
import Derived.Test.YtdhdkonokbkdoaaGreatDoorWords
import Derived.Test.YtdhdkonokbkdoaaGreatDoorPlainR
namespace Go.Proofs.YtdhdkonokbkdoaaGreatDoor
open Go.RowKit Plain
set_option linter.unusedVariables false

theorem orw_i64 : ∀ m < 32, ∀ i < 5, Go.bits .or .i64 ((m : Nat) : Int) (IntKind.i64.wrap ((2 : Int) ^ i)) = ((m ||| 2 ^ i : Nat) : Int) := by decide +kernel
theorem orw_i64' : ∀ m < 32, ∀ i < 5, Go.bits .or .i64 ((m : Nat) : Int) (wrap64 ((2 : Int) ^ i)) = ((m ||| 2 ^ i : Nat) : Int) := by decide +kernel

theorem letC_int (i : Fin 5) : ((letC i).toNat : Int) = 97 + (i.val : Int) := by revert i; decide
theorem letC_nat (i : Fin 5) : (letC i).toNat = 97 + i.val := by revert i; decide
theorem conC_int (b : Bool) : ((conC b).toNat : Int) = 48 + (b.toNat : Int) := by cases b <;> rfl

theorem bad_range {c : UInt8} (h : badD c = true) : ¬ (0 ≤ (c.toNat : Int) - 97 ∧ (c.toNat : Int) - 97 ≤ 4) := by
  obtain ⟨_, _, n0, n1, n2, n3, n4⟩ := badD_ne h
  intro hh
  have : c.toNat = 97 ∨ c.toNat = 98 ∨ c.toNat = 99 ∨ c.toNat = 100 ∨ c.toNat = 101 := by omega
  rcases this with e | e | e | e | e
  · exact n0 (UInt8.toNat_inj.1 e)
  · exact n1 (UInt8.toNat_inj.1 e)
  · exact n2 (UInt8.toNat_inj.1 e)
  · exact n3 (UInt8.toNat_inj.1 e)
  · exact n4 (UInt8.toNat_inj.1 e)
theorem bad_48 {c : UInt8} (h : badD c = true) : ((c.toNat : Int) == 48) = false ∧ ((c.toNat : Int) == 49) = false :=
  ⟨no_byte 48 (by decide) (badD_ne h).1, no_byte 49 (by decide) (badD_ne h).2.1⟩

/-- What l7End answers. -/
def Plain.endD (s : ByteArray) (a k : Nat) : Int := match rdd a ((lst s).drop k) with
  | none => -1
  | some (_, r) => (s.size : Int) - r.length

theorem endD_of_none {s : ByteArray} {a k : Nat} (h : rdd a ((lst s).drop k) = none) : endD s a k = -1 := by unfold endD; rw [h]
theorem endD_of_some {s : ByteArray} {a k j : Nat} {T : DT} (h : rdd a ((lst s).drop k) = some (T, (lst s).drop j)) (hj : j ≤ s.size) : endD s a k = j := by
  unfold endD; rw [h]
  simp only [List.length_drop, lst_len]; omega

/-- What is behind a tree is the text from some place on. -/
theorem rdd_at {s : ByteArray} {a k : Nat} {T : DT} {r : List UInt8} (h : rdd a ((lst s).drop k) = some (T, r)) (hk : k ≤ s.size) :
    r = (lst s).drop (k + (txtD T).length) ∧ k + (txtD T).length ≤ s.size := by
  have e := (rdd_sound h).1
  have hl := congrArg List.length e
  simp only [List.length_append, List.length_drop, lst_len] at hl
  refine ⟨?_, by omega⟩
  rw [← List.drop_drop, e]
  simp

theorem endD_cases (s : ByteArray) (a k : Nat) (hk : k ≤ s.size) : (rdd a ((lst s).drop k) = none ∧ endD s a k = -1) ∨ ∃ T j, rdd a ((lst s).drop k) = some (T, (lst s).drop j) ∧ k < j ∧ j ≤ s.size ∧ endD s a k = j := by
  cases h : rdd a ((lst s).drop k) with
  | none => exact .inl ⟨rfl, endD_of_none h⟩
  | some p =>
    obtain ⟨T, r⟩ := p
    obtain ⟨rfl, hj⟩ := rdd_at h hk
    exact .inr ⟨T, _, rfl, by have := txtD_pos T; omega, hj, endD_of_some h hj⟩

theorem endD_asked {s : ByteArray} {a k : Nat} {i : Fin 5} (hd : (lst s).drop k = letC i :: (lst s).drop (k + 1)) (hb : a.testBit i.val = true) : endD s a k = -1 :=
  endD_of_none (by rw [hd, rdd_asked _ hb])
theorem endD_ask {s : ByteArray} {a k : Nat} {i : Fin 5} (hd : (lst s).drop k = letC i :: (lst s).drop (k + 1)) (hk : k + 1 ≤ s.size) (hb : a.testBit i.val = false) :
    (endD s (withD a i) (k + 1) = -1 ∧ endD s a k = -1) ∨ ∃ j : Nat, k < j ∧ j ≤ s.size ∧ endD s (withD a i) (k + 1) = j ∧ endD s a k = endD s (withD a i) j := by
  rcases endD_cases s (withD a i) (k + 1) hk with ⟨h, he⟩ | ⟨T, j, h, hj, hjs, he⟩
  · exact .inl ⟨he, endD_of_none (by rw [hd, rdd_none1 h])⟩
  · refine .inr ⟨j, by omega, hjs, he, ?_⟩
    cases h2 : rdd (withD a i) ((lst s).drop j) with
    | none => rw [endD_of_none h2, endD_of_none (by rw [hd, rdd_none2 h h2])]
    | some p =>
      obtain ⟨g, r⟩ := p
      unfold endD
      rw [h2, hd, rdd_some hb h h2]

theorem bit_of (a : Nat) (i : Nat) (b : Bool) (h : a.testBit i = b) : bitN a i = b.toNat := by rw [bitN_test, h]

set_option maxRecDepth 100000 in
set_option maxHeartbeats 1000000 in
theorem EndT.any (s : ByteArray) (hs : (s.size : Int) ≤ 63) (n : Nat) : ∀ (k a : Nat) (w : World), s.size - k ≤ n → k ≤ s.size → a < 32 →
    Calls Tryz.prog 52 #[.string s, .int .i64 (k : Int), .int .i64 (a : Int)] w fun e w' => e = .returned (.int .i64 (endD s a k)) ∧ w = w' := by
  induction n with
  | zero =>
    intro k a w h hk ha
    obtain rfl : k = s.size := by omega
    have he : endD s a s.size = -1 := endD_of_none (by rw [lst_end]; rfl)
    clear h hk
    rw [he]
    go_enter Tryz.func52, Tryz.ntmps52
    go_wp2_with fail
    go_ret
    exact ⟨rfl, rfl⟩
  | succ n ih =>
    intro k a w h hk ha
    by_cases hlt : k < s.size
    · have hd := lst_drop s k hlt
      rcases cls_tree s[k] with ⟨b, hc⟩ | ⟨i, hc⟩ | hc
      · have he : endD s a k = (k : Int) + 1 := by
          rw [hc] at hd
          exact endD_of_some (j := k + 1) (by rw [hd]; exact rdd_con a b _) hlt
        rw [he]
        cases b
        case' false => have q : (s[k].toNat : Int) = 48 := by rw [hc]; rfl
        case' true => have q : (s[k].toNat : Int) = 49 := by rw [hc]; rfl
        all_goals
          clear hd hc ih h he
          go_enter Tryz.func52, Tryz.ntmps52
          go_wp2_with fail
          go_ret
          exact ⟨ret_int (by omega), rfl⟩
      · have q : (s[k].toNat : Int) = 97 + (i.val : Int) := by rw [hc]; exact letC_int i
        have hi := i.isLt
        have hd2 : (lst s).drop k = letC i :: (lst s).drop (k + 1) := by rw [hd, hc]
        have h97 : (97 + (i.val : Int)) - 97 = (i.val : Int) := by omega
        have q48 : (97 + (i.val : Int) == 48) = false := by rw [beq_eq_false_iff_ne]; omega
        have q49 : (97 + (i.val : Int) == 49) = false := by rw [beq_eq_false_iff_ne]; omega
        have HIN := Lib.hid (inB_yes (show (0 : Int) ≤ (i.val : Int) ∧ (i.val : Int) ≤ 4 by omega))
        have hor := orw_i64 a ha i.val hi
        have hor' := orw_i64' a ha i.val hi
        have hbit := bit_i64 a i.val (by omega)
        cases hb : a.testBit i.val with
        | true =>
          rw [endD_asked hd2 hb]
          rw [bit_of a i.val true hb] at hbit
          clear hd hc ih h hd2 hb
          generalize i.val = I at *
          go_enter Tryz.func52, Tryz.ntmps52
          go_wp2_with fail
          refine (Widths.inRange _ _ _ _).mono ?_
          rintro e w2 ⟨rfl, rfl⟩
          (try rw [h97])
          rw [HIN.out]
          go_wp2_with fail
          go_ret
          exact ⟨rfl, rfl⟩
        | false =>
          rw [bit_of a i.val false hb] at hbit
          have h32 := (free_with a ha i hb).2
          have hwd : withD a i = a ||| 2 ^ i.val := rfl
          rcases endD_ask hd2 hlt hb with ⟨e1, e2⟩ | ⟨j, hkj, hjs, e1, e2⟩
          · have IH : ∀ w, Calls Tryz.prog 52 #[.string s, .int .i64 ((k : Int) + 1), .int .i64 ((a ||| 2 ^ i.val : Nat) : Int)] w fun e w' => e = .returned (.int .i64 (-1)) ∧ w = w' := fun w => by
              have := ih (k + 1) (withD a i) w (by omega) hlt h32
              rw [e1, hwd] at this
              exact this
            have HI := Lib.hid IH
            rw [e2]
            rw [hwd] at h32
            clear hd hc ih h hd2 hb IH e1 e2 hwd
            generalize i.val = I at *
            generalize a ||| 2 ^ I = A2 at *
            go_enter Tryz.func52, Tryz.ntmps52
            go_wp2_with fail
            refine (Widths.inRange _ _ _ _).mono ?_
            rintro e w2 ⟨rfl, rfl⟩
            (try rw [h97])
            rw [HIN.out]
            go_wp2_with fail
            refine (HI.out _).mono ?_
            rintro e w2 ⟨rfl, rfl⟩
            go_wp2_with fail
            go_ret
            exact ⟨rfl, rfl⟩
          · have IH : ∀ w, Calls Tryz.prog 52 #[.string s, .int .i64 ((k : Int) + 1), .int .i64 ((a ||| 2 ^ i.val : Nat) : Int)] w fun e w' => e = .returned (.int .i64 (j : Int)) ∧ w = w' := fun w => by
              have := ih (k + 1) (withD a i) w (by omega) hlt h32
              rw [e1, hwd] at this
              exact this
            have IH2 : ∀ w, Calls Tryz.prog 52 #[.string s, .int .i64 (j : Int), .int .i64 ((a ||| 2 ^ i.val : Nat) : Int)] w fun e w' => e = .returned (.int .i64 (endD s (withD a i) j)) ∧ w = w' := fun w =>
              ih j (withD a i) w (by omega) hjs h32
            have HI := Lib.hid IH
            have HI2 := Lib.hid IH2
            rw [e2]
            rw [hwd] at h32
            clear hd hc ih h hd2 hb IH IH2 e1 e2 hwd
            generalize endD s (withD a i) j = z at *
            generalize i.val = I at *
            generalize a ||| 2 ^ I = A2 at *
            have tn : decide ((j : Int) < 0) = false := decide_eq_false (by omega)
            go_enter Tryz.func52, Tryz.ntmps52
            go_wp2_with fail
            refine (Widths.inRange _ _ _ _).mono ?_
            rintro e w2 ⟨rfl, rfl⟩
            (try rw [h97])
            rw [HIN.out]
            go_wp2_with fail
            refine (HI.out _).mono ?_
            rintro e w2 ⟨rfl, rfl⟩
            go_wp2_with fail
            refine (HI2.out _).mono ?_
            rintro e w2 ⟨rfl, rfl⟩
            go_wp2_with fail
            go_ret
            exact ⟨rfl, rfl⟩
      · have he : endD s a k = -1 := endD_of_none (by rw [hd]; exact rdd_bad a _ hc)
        have HIN := Lib.hid (inB_no (bad_range hc))
        obtain ⟨q1, q2⟩ := bad_48 hc
        rw [he]
        clear hd hc ih h he
        have q255 : (s[k].toNat : Int) ≤ 255 := by have := s[k].toNat_lt; omega
        go_enter Tryz.func52, Tryz.ntmps52
        go_wp2_with fail
        refine (Widths.inRange _ _ _ _).mono ?_
        rintro e w2 ⟨rfl, rfl⟩
        rw [HIN.out]
        go_wp2_with fail
        go_ret
        exact ⟨rfl, rfl⟩
    · exact ih k a w (by omega) hk ha

def Plain.isD (s : ByteArray) : Bool := (asD (lst s)).isSome
theorem isD_long {s : ByteArray} (h : ¬ s.size ≤ 63) : isD s = false := by unfold isD; rw [asD_long (by rw [lst_len]; exact h)]; rfl
theorem isD_nil {s : ByteArray} (h : s.size = 0) : isD s = false := by
  have : lst s = [] := List.eq_nil_of_length_eq_zero (by rw [lst_len]; exact h)
  unfold isD; rw [this]; rfl
theorem isD_end (s : ByteArray) : isD s = decide (endD s 0 0 = (s.size : Int)) := by
  have h0 : (lst s).drop 0 = lst s := List.drop_zero
  rcases endD_cases s 0 0 (by omega) with ⟨h1, he⟩ | ⟨T, j, h1, hj, hjs, he⟩
  · rw [he, decide_eq_false (by omega)]
    rw [h0] at h1
    unfold isD; rw [asD_none h1]; rfl
  · rw [he]
    rw [h0] at h1
    by_cases hjz : j = s.size
    · subst hjz
      rw [lst_end] at h1
      unfold isD; rw [asD_whole h1, decide_eq_true (by omega)]; rfl
    · rw [lst_drop s j (by omega)] at h1
      unfold isD; rw [asD_rest h1, decide_eq_false (by omega)]; rfl

/-- IsTree of the model. -/
theorem IsD.model (s : ByteArray) (w : World) :
    Calls Tryz.prog 24 #[.string s] w fun e w' => e = .returned (.bool (isD s)) ∧ w = w' := by
  by_cases h : (s.size : Int) ≤ 63
  · by_cases h0 : (0 : Int) < (s.size : Int)
    · have HE := Lib.hid (fun w => EndT.any s h s.size 0 0 w (by omega) (by omega) (by decide))
      rw [isD_end s]
      generalize endD s 0 0 = z at HE
      have HE' : ∀ w, Calls Tryz.prog 52 #[.string s, .int .i64 0, .int .i64 0] w fun e w' => e = .returned (.int .i64 z) ∧ w = w' := HE.out
      have HH := Lib.hid HE'
      clear HE HE'
      go_enter Tryz.func24, Tryz.ntmps24
      go_wp2_with fail
      refine (HH.out _).mono ?_
      rintro e w' ⟨rfl, rfl⟩
      go_wp2_with fail
      go_ret
      exact ⟨ret_bool rfl, rfl⟩
    · rw [isD_nil (by omega)]
      go_enter Tryz.func24, Tryz.ntmps24
      go_wp2_with fail
      go_ret
      exact ⟨rfl, rfl⟩
  · rw [isD_long (by omega)]
    go_enter Tryz.func24, Tryz.ntmps24
    go_wp2_with fail
    go_ret
    exact ⟨rfl, rfl⟩

end Go.Proofs.YtdhdkonokbkdoaaGreatDoor
