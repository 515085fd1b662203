/-
  Chapter 5: IsReadOnce of the program and of its model.
-/
import Derived.Test.YtpniefagpinbdaaFrmX
import Derived.Shelf.Strings.Count
namespace Go.Proofs.Ytpniefagpinbdaa
open Go.RowKit Plain Go.Shelf
set_option linter.unusedVariables false
attribute [local go_sem] undef

/-- How often a byte is among the first k. -/
def Plain.cnt (s : ByteArray) (c : UInt8) (k : Nat) : Nat := ((lst s).take k).count c
theorem cnt_step (s : ByteArray) (c : UInt8) (k : Nat) (h : k < s.size) : cnt s c (k + 1) = cnt s c k + (if s[k] = c then 1 else 0) := by
  have h' : k < (lst s).length := by rw [lst_len]; exact h
  unfold cnt
  rw [List.take_succ_eq_append_getElem h', List.count_append]
  have e : (lst s)[k] = s[k] := rfl
  rw [e, List.count_singleton]
  simp
theorem cnt_mono (s : ByteArray) (c : UInt8) {k m : Nat} (h : k ≤ m) : cnt s c k ≤ cnt s c m := by
  unfold cnt
  exact (List.take_sublist_take_left h).count_le c
theorem cnt_all (s : ByteArray) (c : UInt8) : cnt s c s.size = (lst s).count c := by unfold cnt; rw [take_all]
theorem cnt_le (s : ByteArray) (c : UInt8) (k : Nat) : cnt s c k ≤ (lst s).count c := by
  unfold cnt
  exact (List.take_sublist k (lst s)).count_le c

/-- The letters. -/
def Plain.isLet (c : UInt8) : Bool := c == 97 || c == 98 || c == 99 || c == 100 || c == 101
/-- No letter comes twice among the first k. -/
def Plain.Once (s : ByteArray) (k : Nat) : Prop := ∀ c, isLet c = true → cnt s c k ≤ 1
def Plain.onceB (s : ByteArray) : Bool := ([97, 98, 99, 100, 101] : List UInt8).all fun c => decide ((lst s).count c ≤ 1)
def Plain.roB (s : ByteArray) : Bool := isF s && onceB s

theorem isLet_mem {c : UInt8} (h : isLet c = true) : c ∈ ([97, 98, 99, 100, 101] : List UInt8) := by
  unfold isLet at h
  simp at h
  simp
  rcases h with (((h | h) | h) | h) | h <;> simp [h]
theorem onceB_false {s : ByteArray} {c : UInt8} (h : isLet c = true) (h2 : 2 ≤ (lst s).count c) : onceB s = false := by
  unfold onceB
  rw [List.all_eq_false]
  exact ⟨c, isLet_mem h, fun e => by have := of_decide_eq_true e; omega⟩
theorem onceB_true {s : ByteArray} (h : Once s s.size) : onceB s = true := by
  unfold onceB
  rw [List.all_eq_true]
  intro c hc
  have hl : isLet c = true := by
    simp at hc
    rcases hc with rfl | rfl | rfl | rfl | rfl <;> decide
  have := h c hl
  rw [cnt_all] at this
  exact decide_eq_true this

theorem once_step {s : ByteArray} {i : Nat} (hi : i < s.size) (h : Once s i) (h2 : isLet s[i] = true → cnt s s[i] i = 0) : Once s (i + 1) := by
  intro c hc
  rw [cnt_step s c i hi]
  have := h c hc
  split
  · rename_i e
    subst e
    rw [h2 hc]; omega
  · omega

theorem twice_found {s : ByteArray} {i k : Nat} (hi : i < s.size) (hk : k < i) (he : s[i] = s[k]'(by omega)) : 2 ≤ (lst s).count s[i] := by
  have h1 := cnt_step s s[i] i hi
  rw [if_pos rfl] at h1
  have h2 := cnt_step s s[i] k (by omega)
  rw [if_pos he.symm] at h2
  have h3 := cnt_mono s s[i] (show k + 1 ≤ i by omega)
  have h4 := cnt_le s s[i] (i + 1)
  omega

theorem let_bounds (c : UInt8) : isLet c = (decide (97 ≤ (c.toNat : Int)) && decide ((c.toNat : Int) ≤ 101)) := by
  have h : ∀ n, n < 256 → isLet (UInt8.ofNat n) = (decide (97 ≤ (((UInt8.ofNat n).toNat : Nat) : Int)) && decide (((UInt8.ofNat n).toNat : Int) ≤ 101)) := by decide +kernel
  have := h c.toNat (UInt8.toNat_lt c)
  rwa [UInt8.ofNat_toNat] at this

theorem same_test (a b : UInt8) : ((a.toNat : Int) == (b.toNat : Int)) = decide (a = b) := by
  by_cases h : a = b
  · subst h; simp
  · rw [decide_eq_false h, beq_eq_false_iff_ne]
    intro e
    exact h (UInt8.toNat_inj.1 (by omega))


set_option maxRecDepth 100000 in
set_option maxHeartbeats 1000000 in
/-- IsReadOnce of the model. -/
theorem Ro.model (s : ByteArray) (hs : (s.size : Int) ≤ 1048576) (w : World) :
    Calls Try.prog 24 #[.string s] w fun e w' => e = .returned (.bool (roB s)) ∧ Below w.heap.size w w' := by
  have HI := Lib.hid (IsF.model s)
  have HT : Hid (∀ i k, (hi : i < s.size) → (hk : k < i) → s[i] = s[k]'(by omega) → isLet s[i] = true → roB s = false) := Lib.hid fun i k hi hk he hl => by
    unfold roB; rw [onceB_false hl (twice_found hi hk he)]; simp
  have HE : Hid (Once s s.size → roB s = isF s) := Lib.hid fun h => by unfold roB; rw [onceB_true h]; simp
  go_enter Try.func24, Try.ntmps24
  go_wp2_with fail
  go_loopw [3] (fun i wr => ∃ k : Nat, k ≤ s.size ∧ i = .int .i64 (k : Int) ∧ Once s k ∧ Below w.heap.size w wr) (fun i _ => s.size + 1 - (intOf i).toNat)
  case atStart => exact ⟨0, Nat.zero_le _, rfl, fun c _ => by unfold cnt; simp, Below.refl _ _⟩
  case round =>
    obtain ⟨i, hi, rfl, hn, hb1⟩ := hrel
    have HN := Lib.hid hn
    clear hn
    by_cases hlt : i < s.size
    · go_wp2
      go_loopw [4] (fun k wr => ∃ j : Nat, j ≤ i ∧ k = .int .i64 (j : Int) ∧ (isLet s[i] = true → cnt s s[i] j = 0) ∧ Below w.heap.size w wr) (fun k _ => i + 1 - (intOf k).toNat)
      case atStart => exact ⟨0, Nat.zero_le _, rfl, fun _ => by unfold cnt; simp, hb1⟩
      case round =>
        obtain ⟨j, hj, rfl, hm, hb2⟩ := hrel
        have HM := Lib.hid hm
        clear hm
        by_cases hjl : j < i
        · have hjs : j < s.size := by omega
          have hb := let_bounds s[i]
          have hst := same_test s[i] s[j]
          by_cases he : s[i] = s[j]
          · rw [decide_eq_true he] at hst
            by_cases h1 : (97 : Int) ≤ (s[i].toNat : Int)
            · by_cases h2 : (s[i].toNat : Int) ≤ 101
              · have HB := Lib.hid (HT.out i j hlt hjl he (by rw [hb, decide_eq_true h1, decide_eq_true h2]; rfl))
                clear hb he
                go_wp2
                go_quiet (fail)
                go_wp2
                go_ret
                exact ⟨ret_bool HB.out.symm, below_drewN hb2 _⟩
              · have HL : Hid (isLet s[i] = false) := Lib.hid (by rw [hb, decide_eq_false h2]; simp)
                have d2 : decide ((s[i].toNat : Int) ≤ 101) = false := decide_eq_false h2
                clear hb he h2
                go_wp2
                go_quiet (fail)
                go_wp2
                go_roundw
                case rel => first | exact ⟨j + 1, by omega, by go_num, fun h => (by rw [HL.out] at h; cases h), below_drewN hb2 _⟩ | ((repeat apply Exists.intro); exact ⟨⟨j + 1, by omega, by go_num, fun h => (by rw [HL.out] at h; cases h), below_drewN hb2 _⟩, rfl⟩)
                case measure => simp [intOf]; omega
            · have HL : Hid (isLet s[i] = false) := Lib.hid (by rw [hb, decide_eq_false h1]; simp)
              have d1 : decide ((97 : Int) ≤ (s[i].toNat : Int)) = false := decide_eq_false h1
              clear hb he h1
              go_wp2
              go_quiet (fail)
              go_wp2
              go_roundw
              case rel => first | exact ⟨j + 1, by omega, by go_num, fun h => (by rw [HL.out] at h; cases h), below_drewN hb2 _⟩ | ((repeat apply Exists.intro); exact ⟨⟨j + 1, by omega, by go_num, fun h => (by rw [HL.out] at h; cases h), below_drewN hb2 _⟩, rfl⟩)
              case measure => simp [intOf]; omega
          · rw [decide_eq_false he] at hst
            have HS : Hid (cnt s s[i] (j + 1) = cnt s s[i] j) := Lib.hid (by rw [cnt_step s s[i] j hjs, if_neg (fun e => he e.symm)]; rfl)
            clear hb he
            go_wp2
            go_quiet (fail)
            go_wp2
            go_roundw
            case rel => exact ⟨j + 1, by omega, by go_num, fun h => by rw [HS.out]; exact HM.out h, below_drewN hb2 _⟩
            case measure => simp [intOf]; omega
        · obtain rfl : j = i := by omega
          have HO := Lib.hid (once_step hlt HN.out HM.out)
          go_wp2
          go_roundw
          case rel => exact ⟨j + 1, by omega, by go_num, HO.out, hb2⟩
          case measure => simp [intOf]; omega
    · obtain rfl : i = s.size := by omega
      have HB := Lib.hid (HE.out HN.out)
      go_wp2_with fail
      refine (HI.out _).mono ?_
      rintro e w1 ⟨rfl, rfl⟩
      go_wp2_with fail
      go_ret
      exact ⟨ret_bool HB.out.symm, hb1⟩


theorem Ro.count (s : ByteArray) (c : UInt8) (w : World) :
    Calls Try.prog 37 #[.string s, .string ⟨#[c]⟩] w fun e w' => e = .returned (.int .i64 (((lst s).count c : Nat) : Int)) ∧ w = w' :=
  (Any.strings_Count_one Try.lays138 s c w).mono fun e w' ⟨h1, h2⟩ => ⟨h1, h2.symm⟩

def lettersN : Nat → UInt8 := fun k => UInt8.ofNat (97 + k)
theorem onceB_none {s : ByteArray} (h : ∀ j, j < 5 → (lst s).count (lettersN j) ≤ 1) : onceB s = true := by
  unfold onceB
  rw [List.all_eq_true]
  intro c hc
  have : ∃ j, j < 5 ∧ c = lettersN j := by
    simp at hc
    rcases hc with rfl | rfl | rfl | rfl | rfl
    · exact ⟨0, by decide, rfl⟩
    · exact ⟨1, by decide, rfl⟩
    · exact ⟨2, by decide, rfl⟩
    · exact ⟨3, by decide, rfl⟩
    · exact ⟨4, by decide, rfl⟩
  obtain ⟨j, hj, rfl⟩ := this
  exact decide_eq_true (h j hj)

set_option maxRecDepth 100000 in
set_option maxHeartbeats 1000000 in
/-- IsReadOnce of the program. -/
theorem Ro.impl (s : ByteArray) (w : World) :
    Calls Try.prog 25 #[.string s] w fun e w' => e = .returned (.bool (roB s)) ∧ Below w.heap.size w w' := by
  have HI := IsF.impl s
  unfold roB
  cases h : isF s with
  | false =>
    rw [h] at HI
    replace HI := Lib.hid HI
    clear h
    go_enter Try.func25, Try.ntmps25
    go_wp2_with fail
    refine (HI.out _).mono ?_
    rintro e w1 ⟨rfl, hb⟩
    go_wp2_with fail
    go_ret
    exact ⟨rfl, hb⟩
  | true =>
    rw [h] at HI
    replace HI := Lib.hid HI
    have HC := Lib.hid (Ro.count s)
    have HT : Hid (∀ j, j < 5 → ¬ (lst s).count (lettersN j) ≤ 1 → (true && onceB s) = false) := Lib.hid fun j hj hn => by
      have hl : isLet (lettersN j) = true := by
        have : j = 0 ∨ j = 1 ∨ j = 2 ∨ j = 3 ∨ j = 4 := by omega
        rcases this with rfl | rfl | rfl | rfl | rfl <;> decide
      rw [onceB_false hl (by omega)]; rfl
    have HE : Hid ((∀ j, j < 5 → (lst s).count (lettersN j) ≤ 1) → (true && onceB s) = true) := Lib.hid fun h => by rw [onceB_none h]; rfl
    have hcl := fun j => Nat.le_trans (List.count_le_length (a := lettersN j) (l := lst s)) (by rw [lst_len]; exact isF_size h)
    have HCL := Lib.hid hcl
    clear h hcl
    go_enter Try.func25, Try.ntmps25
    go_wp2_with fail
    refine (HI.out _).mono ?_
    rintro e w1 ⟨rfl, hb⟩
    go_wp2_with fail
    go_loop [7] (fun i => ∃ k : Nat, k ≤ 5 ∧ i = .int .i64 (k : Int) ∧ ∀ j, j < k → (lst s).count (lettersN j) ≤ 1) (fun i => 6 - (intOf i).toNat)
    case atStart => exact ⟨0, Nat.zero_le _, rfl, fun j hj => absurd hj (Nat.not_lt_zero _)⟩
    case round =>
      obtain ⟨k, hk, rfl, hn⟩ := hrel
      have HN := Lib.hid hn
      clear hn
      have hcases : k = 0 ∨ k = 1 ∨ k = 2 ∨ k = 3 ∨ k = 4 ∨ k = 5 := by omega
      rcases hcases with rfl | rfl | rfl | rfl | rfl | rfl
      case inr.inr.inr.inr.inr =>
        have HB := Lib.hid (HE.out HN.out)
        go_wp2_with fail
        go_ret
        exact ⟨ret_bool HB.out.symm, hb⟩
      case inl =>
        have HK := Lib.hid (HC.out 97)
        have hc60 := HCL.out 0
        have hne : (lst s).count (lettersN 0) = (lst s).count 97 := rfl
        by_cases hcnt : (lst s).count (lettersN 0) ≤ 1
        · have HM : Hid (∀ j, j < 1 → (lst s).count (lettersN j) ≤ 1) := Lib.hid fun j hj => by
            by_cases e : j = 0
            · subst e; exact hcnt
            · exact HN.out j (by omega)
          rw [hne] at hcnt hc60
          generalize (lst s).count 97 = m at *
          have ht : decide ((1 : Int) < (m : Int)) = false := decide_eq_false (by omega)
          clear hne hcnt hc60
          go_wp2_with fail
          refine (HK.out _).mono ?_
          rintro e w2 ⟨rfl, rfl⟩
          go_wp2_with fail
          go_round
          case rel => exact ⟨1, by omega, rfl, HM.out⟩
          case measure => simp [intOf]
        · have HB := Lib.hid (HT.out 0 (by omega) hcnt)
          rw [hne] at hcnt hc60
          generalize (lst s).count 97 = m at *
          have ht : decide ((1 : Int) < (m : Int)) = true := decide_eq_true (by omega)
          clear hne hcnt hc60
          go_wp2_with fail
          refine (HK.out _).mono ?_
          rintro e w2 ⟨rfl, rfl⟩
          go_wp2_with fail
          go_ret
          exact ⟨ret_bool HB.out.symm, hb⟩
      case inr.inl =>
        have HK := Lib.hid (HC.out 98)
        have hc60 := HCL.out 1
        have hne : (lst s).count (lettersN 1) = (lst s).count 98 := rfl
        by_cases hcnt : (lst s).count (lettersN 1) ≤ 1
        · have HM : Hid (∀ j, j < 2 → (lst s).count (lettersN j) ≤ 1) := Lib.hid fun j hj => by
            by_cases e : j = 1
            · subst e; exact hcnt
            · exact HN.out j (by omega)
          rw [hne] at hcnt hc60
          generalize (lst s).count 98 = m at *
          have ht : decide ((1 : Int) < (m : Int)) = false := decide_eq_false (by omega)
          clear hne hcnt hc60
          go_wp2_with fail
          refine (HK.out _).mono ?_
          rintro e w2 ⟨rfl, rfl⟩
          go_wp2_with fail
          go_round
          case rel => exact ⟨2, by omega, rfl, HM.out⟩
          case measure => simp [intOf]
        · have HB := Lib.hid (HT.out 1 (by omega) hcnt)
          rw [hne] at hcnt hc60
          generalize (lst s).count 98 = m at *
          have ht : decide ((1 : Int) < (m : Int)) = true := decide_eq_true (by omega)
          clear hne hcnt hc60
          go_wp2_with fail
          refine (HK.out _).mono ?_
          rintro e w2 ⟨rfl, rfl⟩
          go_wp2_with fail
          go_ret
          exact ⟨ret_bool HB.out.symm, hb⟩
      case inr.inr.inl =>
        have HK := Lib.hid (HC.out 99)
        have hc60 := HCL.out 2
        have hne : (lst s).count (lettersN 2) = (lst s).count 99 := rfl
        by_cases hcnt : (lst s).count (lettersN 2) ≤ 1
        · have HM : Hid (∀ j, j < 3 → (lst s).count (lettersN j) ≤ 1) := Lib.hid fun j hj => by
            by_cases e : j = 2
            · subst e; exact hcnt
            · exact HN.out j (by omega)
          rw [hne] at hcnt hc60
          generalize (lst s).count 99 = m at *
          have ht : decide ((1 : Int) < (m : Int)) = false := decide_eq_false (by omega)
          clear hne hcnt hc60
          go_wp2_with fail
          refine (HK.out _).mono ?_
          rintro e w2 ⟨rfl, rfl⟩
          go_wp2_with fail
          go_round
          case rel => exact ⟨3, by omega, rfl, HM.out⟩
          case measure => simp [intOf]
        · have HB := Lib.hid (HT.out 2 (by omega) hcnt)
          rw [hne] at hcnt hc60
          generalize (lst s).count 99 = m at *
          have ht : decide ((1 : Int) < (m : Int)) = true := decide_eq_true (by omega)
          clear hne hcnt hc60
          go_wp2_with fail
          refine (HK.out _).mono ?_
          rintro e w2 ⟨rfl, rfl⟩
          go_wp2_with fail
          go_ret
          exact ⟨ret_bool HB.out.symm, hb⟩
      case inr.inr.inr.inl =>
        have HK := Lib.hid (HC.out 100)
        have hc60 := HCL.out 3
        have hne : (lst s).count (lettersN 3) = (lst s).count 100 := rfl
        by_cases hcnt : (lst s).count (lettersN 3) ≤ 1
        · have HM : Hid (∀ j, j < 4 → (lst s).count (lettersN j) ≤ 1) := Lib.hid fun j hj => by
            by_cases e : j = 3
            · subst e; exact hcnt
            · exact HN.out j (by omega)
          rw [hne] at hcnt hc60
          generalize (lst s).count 100 = m at *
          have ht : decide ((1 : Int) < (m : Int)) = false := decide_eq_false (by omega)
          clear hne hcnt hc60
          go_wp2_with fail
          refine (HK.out _).mono ?_
          rintro e w2 ⟨rfl, rfl⟩
          go_wp2_with fail
          go_round
          case rel => exact ⟨4, by omega, rfl, HM.out⟩
          case measure => simp [intOf]
        · have HB := Lib.hid (HT.out 3 (by omega) hcnt)
          rw [hne] at hcnt hc60
          generalize (lst s).count 100 = m at *
          have ht : decide ((1 : Int) < (m : Int)) = true := decide_eq_true (by omega)
          clear hne hcnt hc60
          go_wp2_with fail
          refine (HK.out _).mono ?_
          rintro e w2 ⟨rfl, rfl⟩
          go_wp2_with fail
          go_ret
          exact ⟨ret_bool HB.out.symm, hb⟩
      case inr.inr.inr.inr.inl =>
        have HK := Lib.hid (HC.out 101)
        have hc60 := HCL.out 4
        have hne : (lst s).count (lettersN 4) = (lst s).count 101 := rfl
        by_cases hcnt : (lst s).count (lettersN 4) ≤ 1
        · have HM : Hid (∀ j, j < 5 → (lst s).count (lettersN j) ≤ 1) := Lib.hid fun j hj => by
            by_cases e : j = 4
            · subst e; exact hcnt
            · exact HN.out j (by omega)
          rw [hne] at hcnt hc60
          generalize (lst s).count 101 = m at *
          have ht : decide ((1 : Int) < (m : Int)) = false := decide_eq_false (by omega)
          clear hne hcnt hc60
          go_wp2_with fail
          refine (HK.out _).mono ?_
          rintro e w2 ⟨rfl, rfl⟩
          go_wp2_with fail
          go_round
          case rel => exact ⟨5, by omega, rfl, HM.out⟩
          case measure => simp [intOf]
        · have HB := Lib.hid (HT.out 4 (by omega) hcnt)
          rw [hne] at hcnt hc60
          generalize (lst s).count 101 = m at *
          have ht : decide ((1 : Int) < (m : Int)) = true := decide_eq_true (by omega)
          clear hne hcnt hc60
          go_wp2_with fail
          refine (HK.out _).mono ?_
          rintro e w2 ⟨rfl, rfl⟩
          go_wp2_with fail
          go_ret
          exact ⟨ret_bool HB.out.symm, hb⟩


end Go.Proofs.Ytpniefagpinbdaa
