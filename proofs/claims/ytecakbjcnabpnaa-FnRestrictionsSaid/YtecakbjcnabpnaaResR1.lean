/-
  The law of restrictions: its small functions.
  The law of restrictions: the lists of the variables that matter, as the law reads them.
-/
import Derived.Test.YtecakbjcnabpnaaPlainS
import Derived.Test.YtecakbjcnabpnaaResFM
import Derived.Test.YtecakbjcnabpnaaRowB
import Derived.Test.YtecakbjcnabpnaaResL
import Derived.Test.YtecakbjcnabpnaaResJ

namespace Go.Proofs.Ytecakbjcnabpnaa
open Go.RowKit Plain
set_option linter.unusedVariables false

/-- Two lists that read alike are equal. -/
theorem Ints.alike (va vb : Value) (l : List Int) (w : World) (ha : IntsIn w va l) (hb : IntsIn w vb l) :
    Calls Try.prog 34 #[va, vb] w fun e w' => e = .returned (.bool true) ∧ ∃ m, w' = w.drewN m := by
  obtain ⟨a, ca, rfl, hl, _, h1⟩ := ha
  obtain ⟨b, cb, rfl, _, _, h2⟩ := hb
  have H1 := Lib.hid h1
  have H2 := Lib.hid h2
  clear h1 h2
  go_enter Try.func34, Try.ntmps34
  go_wp2
  go_loopw [5] (fun i wr => ∃ k m : Nat, i = .int .i64 (k : Int) ∧ k ≤ l.length ∧ wr = w.drewN m) (fun i _ => l.length - (intOf i).toNat)
  case atStart => exact ⟨0, 0, rfl, by omega, rfl⟩
  case round =>
    obtain ⟨k, m, rfl, hk, rfl⟩ := hrel
    by_cases hlt : k < l.length
    · obtain ⟨ba, oa, rfl, _, ka⟩ := H1.out (by omega)
      obtain ⟨bb, ob, rfl, _, kb⟩ := H2.out (by omega)
      have ka' := ka k hlt
      have kb' := kb k hlt
      clear ka kb
      have hlz : (k : Int) < (l.length : Int) := by omega
      go_wp2
      go_quiet (fail)
      go_wp2
      go_roundw
      case rel => exact ⟨k + 1, _, by go_num, by omega, rfl⟩
      case measure => simp [intOf] <;> omega
    · go_wp2
      go_ret
      exact ⟨rfl, _, rfl⟩


theorem Big.no (a : Option Addr) (len cap : Nat) (h : (len : Int) ≤ 1048576) (w : World) :
    Calls Try.prog 10 #[.slice a len cap] w fun e w' => e = .returned (.bool false) ∧ w = w' := by
  have h' : ¬ (1048576 : Int) < (len : Int) := by omega
  go_enter Try.func10, Try.ntmps10
  go_wp2
  go_ret
  exact ⟨rfl, rfl⟩

theorem Big.yes (a : Option Addr) (len cap : Nat) (h : ¬ (len : Int) ≤ 1048576) (w : World) :
    Calls Try.prog 10 #[.slice a len cap] w fun e w' => e = .returned (.bool true) ∧ w = w' := by
  have h' : (1048576 : Int) < (len : Int) := by omega
  go_enter Try.func10, Try.ntmps10
  go_wp2
  go_ret
  exact ⟨rfl, rfl⟩

theorem Tab.cubeOf (m h : Nat) (hh : (h : Int) ≤ 4294967295) (w : World) :
    Calls Try.prog 17 #[.agg #[.int .i64 m, .int .i64 h]] w fun e w' => e = .returned (.int .i64 (conV m h)) ∧ Below w.heap.size w w' := by
  have HC := Lib.hid (Tab.conM (m : Int) (h : Int))
  have H1 := Lib.hid (and1_i64 h (by omega))
  have hv : conV m h = if conT m h = true then (bitN h 0 : Int) else 2 := rfl
  have hb : bitN h 0 = h % 2 := by unfold Plain.bitN; rw [Nat.pow_zero, Nat.div_one]
  rw [hb] at hv
  cases hc : conT (m : Int) (h : Int) with
  | true =>
    rw [hc] at HC hv
    rw [if_pos rfl] at hv
    have HV := Lib.hid hv
    clear hv hb hc
    go_enter Try.func17, Try.ntmps17
    go_wp2_with fail
    refine (HC.out _).mono ?_
    rintro e w1 ⟨rfl, hb1⟩
    obtain ⟨hc1, hf1⟩ := bcell hb1
    go_wp2
    go_ret
    exact ⟨ret_int (by rw [HV.out, H1.out]), ((Below.refl _ _).alloc (Nat.le_refl _) _).trans (hb1.mono (by simp))⟩
  | false =>
    rw [hc] at HC hv
    rw [if_neg (by decide)] at hv
    have HV := Lib.hid hv
    clear hv hb hc
    go_enter Try.func17, Try.ntmps17
    go_wp2_with fail
    refine (HC.out _).mono ?_
    rintro e w1 ⟨rfl, hb1⟩
    go_wp2
    go_ret
    exact ⟨ret_int HV.out.symm, ((Below.refl _ _).alloc (Nat.le_refl _) _).trans (hb1.mono (by simp))⟩

theorem joinT_back {n a i : Nat} (hn : n ≤ 5) (hi : i < n) (ha : a < 2 ^ 2 ^ n) : joinT ((n : Int) - 1) (restW n a i 0 : Int) ((n : Int) - 1) (restW n a i 1 : Int) (i : Int) = ((n : Int), (a : Int), true) := by
  rw [show (n : Int) - 1 = ((n - 1 : Nat) : Int) by omega]
  have hf : fitB ((n - 1 : Nat) : Int) (restW n a i 0 : Int) ((n - 1 : Nat) : Int) (restW n a i 1 : Int) = true := by
    unfold fitB
    rw [isT_rest hn, isT_rest hn]
    simp
  rw [joinT_yes hf (by omega) (by omega), join_back hn hi ha]
  congr 1
  omega

theorem Tab.resMT0 (n a i : Nat) (ht : isT n a = true) (hi : (i : Int) ≤ (n : Int) - 1) (w : World) :
    Calls Try.prog 13 #[.agg #[.int .i64 n, .int .i64 a], .int .i64 i, .int .i64 0] w fun e w' => e = .returned (.tuple #[.agg #[.int .i64 ((n : Int) - 1), .int .i64 (restW n a i 0 : Int)], .bool true]) ∧ Below w.heap.size w w' := by
  have h := Tab.resM n a i 0 w
  rw [show resT n a i 0 = _ from resT_yes (b := 0) ht hi (by decide)] at h
  exact h

theorem Tab.resMT1 (n a i : Nat) (ht : isT n a = true) (hi : (i : Int) ≤ (n : Int) - 1) (w : World) :
    Calls Try.prog 13 #[.agg #[.int .i64 n, .int .i64 a], .int .i64 i, .int .i64 1] w fun e w' => e = .returned (.tuple #[.agg #[.int .i64 ((n : Int) - 1), .int .i64 (restW n a i 1 : Int)], .bool true]) ∧ Below w.heap.size w w' := by
  have h := Tab.resM n a i 1 w
  rw [show resT n a i 1 = _ from resT_yes (b := 1) ht hi (by decide)] at h
  exact h

theorem Tab.joinBack (n a i : Nat) (hn : n ≤ 5) (ha : a ≤ fullN n) (hi : i < n) (w : World) :
    Calls Try.prog 14 #[.agg #[.int .i64 ((n : Int) - 1), .int .i64 (restW n a i 0 : Int)], .agg #[.int .i64 ((n : Int) - 1), .int .i64 (restW n a i 1 : Int)], .int .i64 i] w fun e w' => e = .returned (.tuple #[.agg #[.int .i64 n, .int .i64 a], .bool true]) ∧ Below w.heap.size w w' := by
  have r0 := restW_bound n a i 0 hn
  have r1 := restW_bound n a i 1 hn
  have h := Tab.joinI ((n : Int) - 1) (restW n a i 0) ((n : Int) - 1) (restW n a i 1) i (by omega) (by omega) w
  rw [joinT_back hn hi (fullN_lt a ha)] at h
  exact h

theorem Tab.cubeBack (n a i b : Nat) (hn : n ≤ 5) (ht : isT n a = true) (ha : (a : Int) ≤ 4294967295) (hi : i < n) (hb : b < 2) (w : World) :
    Calls Try.prog 16 #[.agg #[.int .i64 n, .int .i64 a], .int .i64 ((2 ^ i : Nat) : Int), .int .i64 ((b * 2 ^ i : Nat) : Int)] w fun e w' => e = .returned (.int .i64 (conV (n - 1) (restW n a i b))) ∧ Below w.heap.size w w' := by
  have hpi : 2 ^ i < 2 ^ n := Nat.pow_lt_pow_right (by decide) hi
  have h5 := two_pow_le n hn
  have hb2 : b * 2 ^ i ≤ 2 ^ i := by
    rcases (show b = 0 ∨ b = 1 by omega) with rfl | rfl
    · rw [Nat.zero_mul]; exact Nat.zero_le _
    · rw [Nat.one_mul]; exact Nat.le_refl _
  have hv0 : (0 : Int) ≤ ((b * 2 ^ i : Nat) : Int) := Int.natCast_nonneg _
  have hv1 : ((b * 2 ^ i : Nat) : Int) ≤ 32 := Int.ofNat_le.2 (Nat.le_trans hb2 (Nat.le_of_lt (Nat.lt_of_lt_of_le hpi h5)))
  have h := Tab.cubI n a ((2 ^ i : Nat) : Int) ((b * 2 ^ i : Nat) : Int) (by omega) ⟨Int.le_trans (by decide) hv0, Int.le_trans hv1 (by decide)⟩ w
  have hv : b * 2 ^ i &&& 2 ^ i = b * 2 ^ i := by
    rcases (show b = 0 ∨ b = 1 by omega) with rfl | rfl
    · simp
    · rw [Nat.one_mul, Nat.and_self]
  rw [cubT_yes ht (by rw [up2]; exact Int.ofNat_lt.2 hpi) hv, cub_one hn hi hb] at h
  exact h

theorem up2w (i : Nat) (hi : i < 5) : wrap64 ((2 : Int) ^ i) = ((2 ^ i : Nat) : Int) := by
  rcases (show i = 0 ∨ i = 1 ∨ i = 2 ∨ i = 3 ∨ i = 4 by omega) with rfl | rfl | rfl | rfl | rfl <;> decide +kernel
theorem up2b (b i : Nat) (hi : i < 5) (hb : b < 2) : wrap64 ((b : Int) * (2 : Int) ^ i) = ((b * 2 ^ i : Nat) : Int) := by
  rcases (show b = 0 ∨ b = 1 by omega) with rfl | rfl <;> rcases (show i = 0 ∨ i = 1 ∨ i = 2 ∨ i = 3 ∨ i = 4 by omega) with rfl | rfl | rfl | rfl | rfl <;> decide +kernel
end Go.Proofs.Ytecakbjcnabpnaa

namespace Go.Proofs.Ytecakbjcnabpnaa
open Go.RowKit Plain
set_option linter.unusedVariables false

/-- A list came back: a slice of that length, that reads as the list in every later world. -/
def ListBack (l : List Int) (w : World) (e : Ending) (w' : World) : Prop :=
  ∃ ad cap, e = .returned (.slice ad l.length cap) ∧ (∀ w2, Below w'.heap.size w' w2 → IntsIn w2 (.slice ad l.length cap) l) ∧ Below w.heap.size w w'

theorem RowOut.back {n a : Int} {w : World} {e : Ending} {w' : World} (h : RowOut (varsT n a) w e w') : ListBack (varsT n a) w e w' := by
  obtain ⟨v, rfl, hr, hb⟩ := h
  have hi := hr.ints (by have := (varsT_ok n a).1; omega) (varsT_ok n a).2
  rcases hr.shape with ⟨rfl, hl⟩ | ⟨g, cap, rfl, _, _⟩
  · refine ⟨none, 0, ?_, fun w2 h2 => ?_, hb⟩
    · rw [hl]; rfl
    · have := hi.below h2
      rw [hl] at this ⊢
      exact this
  · exact ⟨_, _, rfl, fun w2 h2 => hi.below h2, hb⟩

theorem Tab.vosIB (n a : Int) (h64 : -9223372036854775808 ≤ a ∧ a ≤ 9223372036854775807) (w : World) :
    Calls Try.prog 28 #[.agg #[.int .i64 n, .int .i64 a]] w (ListBack (varsT n a) w) :=
  (Tab.vosI n a h64 w).mono fun _ _ h => h.back

theorem Tab.vosMB (n a : Int) (w : World) :
    Calls Try.prog 35 #[.agg #[.int .i64 n, .int .i64 a]] w (ListBack (varsT n a) w) :=
  (Tab.vosM n a w).mono fun _ _ h => h.back

theorem Ints.alikeB (va vb : Value) (l : List Int) (w : World) (ha : IntsIn w va l) (hb : IntsIn w vb l) :
    Calls Try.prog 34 #[va, vb] w fun e w' => e = .returned (.bool true) ∧ Below w.heap.size w w' := by
  refine (Ints.alike va vb l w ha hb).mono ?_
  rintro e w' ⟨rfl, m, rfl⟩
  exact ⟨rfl, below_drewN (Below.refl _ _) m⟩

/-- Its length alone. -/
theorem Tab.vosN (n a : Int) (k : Nat) (h64 : -9223372036854775808 ≤ a ∧ a ≤ 9223372036854775807) (hk : (varsT n a).length = k) (w : World) :
    Calls Try.prog 28 #[.agg #[.int .i64 n, .int .i64 a]] w fun e w' => (∃ ad cap, e = .returned (.slice ad k cap)) ∧ Below w.heap.size w w' := by
  refine (Tab.vosIB n a h64 w).mono ?_
  rintro e w' ⟨ad, cap, rfl, _, hb⟩
  exact ⟨⟨ad, cap, by rw [hk]⟩, hb⟩

theorem redS_isT : ∀ (i n a : Nat), n ≤ 5 → a ≤ fullN n → i ≤ n → (redS i n a).2 ≤ fullN (redS i n a).1 := by
  intro i
  induction i with
  | zero => intro n a hn ha _; exact ha
  | succ i ih =>
    intro n a hn ha hi
    cases hd : depW n a i with
    | true => rw [redS_yes hd]; exact ih n a hn ha (by omega)
    | false => rw [redS_no hd]; exact ih (n - 1) (restW n a i 0) (by omega) (tabN_full _ _) (by omega)

/-- What the law asks of a reduced table: both lists have as many variables as it. -/
theorem red_lens (n a : Nat) (hn : n ≤ 5) (ha : a ≤ fullN n) :
    (redS n n a).1 ≤ 5 ∧ (redS n n a).2 ≤ fullN (redS n n a).1 ∧ (varsT n a).length = (redS n n a).1 ∧ (varsT ((redS n n a).1 : Int) ((redS n n a).2 : Int)).length = (redS n n a).1 := by
  obtain ⟨h1, h2, h3⟩ := red_all n n a hn (Nat.le_refl _) fun j h1 h2 => absurd h2 (by omega)
  have h4 := redS_isT n n a hn ha (Nat.le_refl _)
  refine ⟨h2, h4, ?_, ?_⟩
  · rw [varsT_yes (isT_yes hn ha)]; exact h1.symm
  · rw [varsT_yes (isT_yes h2 h4)]; exact vars_all _ _ _ h3
end Go.Proofs.Ytecakbjcnabpnaa
