/-
  The law of certificates: what each of its calls answers at a table and an input, and how the answers compare.
-/
import Derived.Test.YtbgjiblfnljigaaSenQ
import Derived.Test.YtbgjiblfnljigaaSenO
import Derived.Test.YtbgjiblfnljigaaSenB
import Derived.Test.YtbgjiblfnljigaaCerK
namespace Go.Proofs.Ytbgjiblfnljigaa
open Go.RowKit Plain
set_option linter.unusedVariables false

/-- Two lists that read alike are equal. -/
theorem Ints.sameZ (va vb : Value) (l : List Int) (w : World) (ha : IntsIn w va l) (hb : IntsIn w vb l) :
    Calls Try.prog 46 #[va, vb] w fun e w' => e = .returned (.bool true) ∧ ∃ m, w' = w.drewN m := by
  obtain ⟨a, ca, rfl, hl, _, h1⟩ := ha
  obtain ⟨b, cb, rfl, _, _, h2⟩ := hb
  have H1 := Lib.hid h1
  have H2 := Lib.hid h2
  clear h1 h2
  go_enter Try.func46, Try.ntmps46
  go_wp2
  go_loopw [5] (fun i wr => ∃ k m : Nat, i = .int .i64 (k : Int) ∧ k ≤ l.length ∧ wr = w.drewN m) (fun i _ => l.length - (intOf i).toNat)
  case atStart => exact ⟨0, 0, rfl, by omega, rfl⟩
  case round =>
    obtain ⟨k, m, rfl, hk, rfl⟩ := hrel
    by_cases hlt : k < l.length
    · obtain ⟨ba, oa, rfl, _, ka⟩ := H1.out (by omega)
      obtain ⟨bb, ob, rfl, _, kb⟩ := H2.out (by omega)
      have ka' := ka k hlt
      have kb' := kb k hlt
      clear ka kb
      have hlz : (k : Int) < (l.length : Int) := by omega
      go_wp2
      go_quiet (fail)
      go_wp2
      go_roundw
      case rel => exact ⟨k + 1, _, by go_num, by omega, rfl⟩
      case measure => simp [intOf] <;> omega
    · go_wp2
      go_ret
      exact ⟨rfl, _, rfl⟩

/-- What the law asks of a table and an input. -/
def LawNine (N A X : Nat) (T : Int × Bool) : Prop :=
  ∃ (k c b s g v : Int) (l : List Nat), T = (k, true) ∧
    (∀ w, Calls Try.prog 33 #[.agg #[.int .i64 N, .int .i64 A], .int .i64 X] w fun e w' => e = .returned (.int .i64 c) ∧ Below w.heap.size w w') ∧
    (∀ w, Calls Try.prog 24 #[.agg #[.int .i64 N, .int .i64 A], .int .i64 X] w fun e w' => e = .returned (.int .i64 b) ∧ Below w.heap.size w w') ∧
    (∀ w, Calls Try.prog 13 #[.agg #[.int .i64 N, .int .i64 A], .int .i64 X] w fun e w' => e = .returned (.int .i64 s) ∧ Below w.heap.size w w') ∧
    (∀ w, Calls Try.prog 19 #[.agg #[.int .i64 N, .int .i64 A], .int .i64 X] w fun e w' => (∃ u, e = .returned (.tuple #[u, .bool true]) ∧ NtIn w' u l) ∧ Below w.heap.size w w') ∧
    (∀ w, Calls Try.prog 34 #[.agg #[.int .i64 N, .int .i64 A], .int .i64 X, .int .i64 k] w fun e w' => e = .returned (.bool true) ∧ Below w.heap.size w w') ∧
    (∀ w, Calls Try.prog 35 #[.agg #[.int .i64 5, .int .i64 k]] w fun e w' => e = .returned (.int .i64 c) ∧ Below w.heap.size w w') ∧
    (∀ w, Calls Try.prog 37 #[.agg #[.int .i64 N, .int .i64 A], .int .i64 X] w fun e w' => e = .returned (.int .i64 v) ∧ Below w.heap.size w w') ∧
    (∀ w, Calls Try.prog 36 #[.agg #[.int .i64 N, .int .i64 A], .int .i64 v] w fun e w' => e = .returned (.int .i64 g) ∧ Below w.heap.size w w') ∧
    (∀ w, Calls Try.prog 38 #[.agg #[.int .i64 N, .int .i64 A]] w fun e w' => e = .returned (.bool true) ∧ Below w.heap.size w w') ∧
    (∀ j, j < l.length → (∀ w, Calls Try.prog 17 #[.agg #[.int .i64 N, .int .i64 A], .int .i64 X, .int .i64 ((l.getD j 0 : Nat) : Int)] w fun e w' => e = .returned (.bool true) ∧ Below w.heap.size w w') ∧ (Go.bits .and .i64 ((l.getD j 0 : Nat) : Int) k == 0) = false) ∧
    b ≥ s ∧ c ≥ b ∧ g ≥ c ∧ (c == c) = true ∧ l.length ≤ 32

theorem law_nine (N A X : Nat) (hN : N ≤ 5) (ht : isT N A = true) (ha : (A : Int) ≤ 4294967295) (hX : (X : Int) < 2 ^ N) : LawNine N A X (setT N A X) := by
  have hx : X < 2 ^ N := pow_nat.1 hX
  have h64 : -9223372036854775808 ≤ (A : Int) ∧ (A : Int) ≤ 9223372036854775807 := by omega
  have hKl := setN_lt N A X
  have h32 := two_pow_le N hN
  have hK : ((setN N A X : Nat) : Int) < 2 ^ N := pow_nat.2 hKl
  have hbc := bs_le_cert (a := A) hx
  have hsb := sen_le_bs N A X
  have hgc := gret_ge N A (x := X) (k := 2 ^ N) hx
  have hv := bitN_lt A X
  have h5 : setN N A X ≤ fullN 5 := by rw [fullN_5]; omega
  have hL := blkL_32 hN A X
  refine ⟨(setN N A X : Int), (popN (setN N A X) : Int), (bsN N A X : Int), (senN A X N : Int), (gretN N A (bitN A X) (2 ^ N) : Int), (bitN A X : Int), blkL A X (2 ^ N), setT_yes ht hX, ?_, ?_, ?_, ?_, ?_, ?_, ?_, ?_, ?_, ?_, by omega, by omega, by omega, by simp, hL.1⟩
  · intro w
    have h := CerA.impl N A X h64 w
    rwa [catT_yes ht hX] at h
  · exact fun w => BsA.impl_yes N A X hN ht ha hX w
  · exact fun w => SenA.impl_yes N A X hN ht ha hX w
  · exact fun w => (MinB.impl_yes N A X hN ht ha hX w).mono fun e w' ⟨⟨u, he, hr⟩, hb⟩ => ⟨⟨u, he, NtIn.of_row hr⟩, hb⟩
  · intro w
    have h := IsCer.impl N A X (setN N A X : Int) h64 w
    rwa [isCer_in ht hX hK, setN_cert hx] at h
  · intro w
    have h := Tab.cntI 5 (setN N A X : Int) ⟨by omega, by omega⟩ w
    rwa [show cntT 5 (setN N A X : Int) = (popN (setN N A X) : Int) from cntT_yes 5 _ (by omega) h5] at h
  · intro w
    have h := Tab.valM N A X w
    rwa [valAt_in N A X hN (by have := (isT_iff.1 ht).2.2.2; simpa using this) hX] at h
  · intro w
    have h := CerO.impl N A (bitN A X : Int) h64 w
    rwa [cofT_yes ht (by omega)] at h
  · intro w
    have h := Meet.impl N A h64 w
    rwa [ht] at h
  · intro j hj
    have hm := getD_memN hj
    obtain ⟨h1, h2⟩ := blkL_mem _ _ hm
    have hne := blkL_meets hx _ hm
    have hbl := hL.2 _ hm
    refine ⟨fun w => ?_, ?_⟩
    · have h := IsSen.impl N A X (((blkL A X (2 ^ N)).getD j 0 : Nat) : Int) h64 w
      rwa [isSen_in ht hX (pow_nat.2 h1), h2] at h
    · rw [and64 _ _ (by omega) (by omega), beq_eq_false_iff_ne]
      omega

theorem setT_cases (n a x : Int) : (∃ N A X : Nat, n = N ∧ a = A ∧ x = X ∧ LawNine N A X (setT n a x)) ∨ (setT n a x).2 = false := by
  by_cases h : setOk n a x
  · obtain ⟨N, A, rfl, rfl, hn, ha⟩ := isT_nat h.1
    obtain ⟨X, rfl⟩ := Int.eq_ofNat_of_zero_le h.2.1
    have hx : (X : Int) < 2 ^ N := h.2.2
    exact .inl ⟨N, A, X, rfl, rfl, rfl, law_nine N A X hn h.1 (by have := fullN_le N hn; omega) hx⟩
  · exact .inr (by rw [setT_no h])

end Go.Proofs.Ytbgjiblfnljigaa
