/-
  Chapter 9, the model: IsCertificate, CertificateSet, CertificateAt, CertificateOf; CertificateOf of the program.
-/
import Derived.Test.YtbgjiblfnljigaaCerM
namespace Go.Proofs.Ytbgjiblfnljigaa
open Go.RowKit Plain
set_option linter.unusedVariables false

set_option maxRecDepth 100000 in
/-- IsCertificate of the model. -/
theorem IsCer.model (n a x m : Int) (w : World) :
    Calls Try.prog 47 #[.agg #[.int .i64 n, .int .i64 a], .int .i64 x, .int .i64 m] w fun e w' => e = .returned (.bool (isCer n a x m)) ∧ Below w.heap.size w w' := by
  have HL := Lib.hid (L9In.any n a x)
  by_cases h : setOk n a x
  · have ht := h.1
    obtain ⟨n, a, rfl, rfl, hn, ha⟩ := isT_nat h.1
    obtain ⟨x, rfl⟩ := Int.eq_ofNat_of_zero_le h.2.1
    have hx : (x : Int) < 2 ^ n := h.2.2
    rw [decide_eq_true h] at HL
    obtain ⟨hp1, hp2⟩ := two_pow_int n hn
    have hn5 : (n : Int) ≤ 5 := by omega
    by_cases hm : 0 ≤ m ∧ m < 2 ^ n
    · obtain ⟨m, rfl⟩ := Int.eq_ofNat_of_zero_le hm.1
      rw [isCer_in ht hx hm.2]
      have HM : Hid ((0 : Int) ≤ m ∧ (m : Int) ≤ 2 ^ n - 1) := Lib.hid (by omega)
      have hand := and_small hn hx hm.2
      have HC := Lib.hid (Tab.cubM_loop n a m (x &&& m) hn (by have := fullN_le n hn; omega) hm.2 (and_twice x m))
      have HE : Hid (decide (cubV n a m (x &&& m) < 2) = certB n a x m) := Lib.hid rfl
      generalize cubV n a m (x &&& m) = K at *
      generalize certB n a x m = c at *
      clear ht h hn ha hx hm
      go_enter Try.func47, Try.ntmps47
      go_wp2_with fail
      refine (HL.out _).mono ?_
      rintro e w1 ⟨rfl, hb1⟩
      have X1 := blockC hb1 (heap_alloc_new w _)
      obtain ⟨c0, c1, f0, f1⟩ := cells2 X1
      have hz1 : w.heap.size < w1.heap.size := lt_of_block X1
      go_wp2_with fail
      refine (Widths.in_yes _ _ _ HM.out _).mono ?_
      rintro e w2 ⟨rfl, rfl⟩
      go_wp2_with fail
      refine (HC.out _).mono ?_
      rintro e w3 ⟨rfl, hb3⟩
      go_wp2
      go_ret
      exact ⟨ret_bool HE.out, bB hb3 (by omega) (bB hb1 (by simp) (bA (Nat.le_refl _) (Below.refl _ _)))⟩
    · rw [isCer_no3 hm]
      have HM : Hid (¬ (0 ≤ m ∧ m ≤ 2 ^ n - 1)) := Lib.hid (by omega)
      clear ht h hn ha hx hm
      go_enter Try.func47, Try.ntmps47
      go_wp2_with fail
      refine (HL.out _).mono ?_
      rintro e w1 ⟨rfl, hb1⟩
      have X1 := blockC hb1 (heap_alloc_new w _)
      obtain ⟨c0, c1, f0, f1⟩ := cells2 X1
      go_wp2_with fail
      refine (Widths.in_no _ _ _ HM.out _).mono ?_
      rintro e w2 ⟨rfl, rfl⟩
      go_wp2
      go_ret
      exact ⟨rfl, bB hb1 (by simp) (bA (Nat.le_refl _) (Below.refl _ _))⟩
  · have hno : isCer n a x m = false := by
      cases ht : isT n a with
      | false => exact isCer_no1 ht
      | true =>
        obtain ⟨n, a, rfl, rfl, hn, ha⟩ := isT_nat ht
        exact isCer_no2 fun hx => h ⟨ht, hx⟩
    rw [hno]
    rw [decide_eq_false h] at HL
    clear h hno
    go_enter Try.func47, Try.ntmps47
    go_wp2_with fail
    refine (HL.out _).mono ?_
    rintro e w1 ⟨rfl, hb1⟩
    go_wp2
    go_ret
    exact ⟨rfl, bB hb1 (by simp) (bA (Nat.le_refl _) (Below.refl _ _))⟩

/-- CertificateSet of the model. -/
theorem CerS.model (n a x : Int) (w : World) :
    Calls Try.prog 32 #[.agg #[.int .i64 n, .int .i64 a], .int .i64 x] w fun e w' => e = .returned (.tuple #[.int .i64 (setT n a x).1, .bool (setT n a x).2]) ∧ Below w.heap.size w w' := by
  have HL := Lib.hid (L9In.any n a x)
  by_cases h : setOk n a x
  · obtain ⟨n, a, rfl, rfl, hn, ha⟩ := isT_nat h.1
    obtain ⟨x, rfl⟩ := Int.eq_ofNat_of_zero_le h.2.1
    have hx : (x : Int) < 2 ^ n := h.2.2
    rw [setT_yes h.1 hx]
    rw [decide_eq_true h] at HL
    have HS := Lib.hid (L9Set.any n a x hn (by have := fullN_le n hn; omega) hx)
    generalize setN n a x = q at *
    clear h hn ha hx
    go_enter Try.func32, Try.ntmps32
    go_wp2_with fail
    refine (HL.out _).mono ?_
    rintro e w1 ⟨rfl, hb1⟩
    have X1 := blockC hb1 (heap_alloc_new w _)
    obtain ⟨c0, c1, f0, f1⟩ := cells2 X1
    have hz1 : w.heap.size < w1.heap.size := lt_of_block X1
    go_wp2_with fail
    refine (HS.out _).mono ?_
    rintro e w2 ⟨rfl, hb2⟩
    go_wp2
    exact bodyPost_ret (v := .tuple #[.int .i64 (q : Int), .bool true]) (by simp [results, Try.results32, go_sem]) rfl ⟨rfl, bB hb2 (by omega) (bB hb1 (by simp) (bA (Nat.le_refl _) (Below.refl _ _)))⟩
  · rw [setT_no h]
    rw [decide_eq_false h] at HL
    clear h
    go_enter Try.func32, Try.ntmps32
    go_wp2_with fail
    refine (HL.out _).mono ?_
    rintro e w1 ⟨rfl, hb1⟩
    go_wp2
    exact bodyPost_ret (v := .tuple #[.int .i64 0, .bool false]) (by simp [results, Try.results32, go_sem]) rfl ⟨rfl, bB hb1 (by simp) (bA (Nat.le_refl _) (Below.refl _ _))⟩

/-- CertificateAt of the model. -/
theorem CerA.model (n a x : Int) (w : World) :
    Calls Try.prog 50 #[.agg #[.int .i64 n, .int .i64 a], .int .i64 x] w fun e w' => e = .returned (.int .i64 (catT n a x)) ∧ Below w.heap.size w w' := by
  have HL := Lib.hid (L9In.any n a x)
  by_cases h : setOk n a x
  · obtain ⟨n, a, rfl, rfl, hn, ha⟩ := isT_nat h.1
    obtain ⟨x, rfl⟩ := Int.eq_ofNat_of_zero_le h.2.1
    have hx : (x : Int) < 2 ^ n := h.2.2
    rw [catT_yes h.1 hx]
    rw [decide_eq_true h] at HL
    have HS := Lib.hid (L9Set.any n a x hn (by have := fullN_le n hn; omega) hx)
    have hl := setN_lt n a x
    have h32 := two_pow_le n hn
    have HZ := Lib.hid (Tab.onesM (setN n a x) (by omega))
    generalize setN n a x = q at *
    generalize popN q = p at *
    clear h hn ha hx hl h32
    go_enter Try.func50, Try.ntmps50
    go_wp2_with fail
    refine (HL.out _).mono ?_
    rintro e w1 ⟨rfl, hb1⟩
    have X1 := blockC hb1 (heap_alloc_new w _)
    obtain ⟨c0, c1, f0, f1⟩ := cells2 X1
    have hz1 : w.heap.size < w1.heap.size := lt_of_block X1
    go_wp2_with fail
    refine (HS.out _).mono ?_
    rintro e w2 ⟨rfl, hb2⟩
    go_wp2_with fail
    refine (HZ.out _).mono ?_
    rintro e w3 ⟨rfl, rfl⟩
    go_wp2
    go_ret
    exact ⟨rfl, bB hb2 (by omega) (bB hb1 (by simp) (bA (Nat.le_refl _) (Below.refl _ _)))⟩
  · rw [catT_no h]
    rw [decide_eq_false h] at HL
    clear h
    go_enter Try.func50, Try.ntmps50
    go_wp2_with fail
    refine (HL.out _).mono ?_
    rintro e w1 ⟨rfl, hb1⟩
    go_wp2
    go_ret
    exact ⟨rfl, bB hb1 (by simp) (bA (Nat.le_refl _) (Below.refl _ _))⟩

/-- The greatest number of variables behind k inputs. -/
def Plain.gretN (n a b : Nat) : Nat → Nat
  | 0 => 0
  | k + 1 => if bitN a k = b then max (gretN n a b k) (popN (setN n a k)) else gretN n a b k
theorem gretN_yes {n a b k : Nat} (h : bitN a k = b) : gretN n a b (k + 1) = max (gretN n a b k) (popN (setN n a k)) := if_pos h
theorem gretN_no {n a b k : Nat} (h : ¬ bitN a k = b) : gretN n a b (k + 1) = gretN n a b k := if_neg h
theorem gretN_le (n a b k : Nat) : gretN n a b k ≤ n := by
  induction k with
  | zero => exact Nat.zero_le _
  | succ k ih =>
    have h := (pop_top n _ (setN_lt n a k)).1
    by_cases he : bitN a k = b
    · rw [gretN_yes he]; exact Nat.max_le.2 ⟨ih, h⟩
    · rw [gretN_no he]; exact ih
/-- What CertificateOf answers. -/
def Plain.cofT (n a b : Int) : Int := if isT n a = true ∧ 0 ≤ b ∧ b ≤ 1 then (gretN n.toNat a.toNat b.toNat (2 ^ n.toNat) : Int) else -1
theorem cofT_yes {n a b : Nat} (ht : isT n a = true) (hb : (b : Int) ≤ 1) : cofT n a b = (gretN n a b (2 ^ n) : Int) := if_pos ⟨ht, by omega, hb⟩
theorem cofT_no {n a b : Int} (h : ¬ (isT n a = true ∧ 0 ≤ b ∧ b ≤ 1)) : cofT n a b = -1 := if_neg h

set_option maxRecDepth 100000 in
set_option maxHeartbeats 1000000 in
theorem CerO.model_yes (n a b : Nat) (hn : n ≤ 5) (ht : isT n a = true) (ha : (a : Int) ≤ 4294967295) (hb : (b : Int) ≤ 1) (w : World) :
    Calls Try.prog 48 #[.agg #[.int .i64 n, .int .i64 a], .int .i64 b] w fun e w' => e = .returned (.int .i64 (gretN n a b (2 ^ n) : Int)) ∧ Below w.heap.size w w' := by
  have H := Lib.hid ht
  have HN := Lib.hid hn
  have HV : Hid ((0 : Int) ≤ b ∧ (b : Int) ≤ 1) := Lib.hid (by omega)
  obtain ⟨hp1, hp2⟩ := two_pow_int n hn
  have hn5 : (n : Int) ≤ 5 := by omega
  clear hn ht
  go_enter Try.func48, Try.ntmps48
  go_wp2_with fail
  refine (Tab.model _ _ _).mono ?_
  rintro e w1 ⟨rfl, hb1⟩
  have X1 := blockC hb1 (heap_alloc_new w _)
  obtain ⟨c0, c1, f0, f1⟩ := cells2 X1
  have hz1 : w.heap.size < w1.heap.size := lt_of_block X1
  have HX1 := Lib.hid X1
  have HB1 : Hid (Below w.heap.size w w1) := Lib.hid (bB hb1 (by simp) (bA (Nat.le_refl _) (Below.refl _ _)))
  clear X1 hb1
  rw [H.out]
  go_wp2_with fail
  refine (Widths.in_yes _ _ _ HV.out _).mono ?_
  rintro e w2 ⟨rfl, rfl⟩
  go_wp2_with fail
  clear c0 c1 f0 f1
  go_loopw [5, 6] (fun g i wr => ∃ k : Nat, i = .int .i64 (k : Int) ∧ g = .int .i64 (gretN n a b k : Int) ∧ (k : Int) ≤ 2 ^ n ∧ wr.heap[w.heap.size]? = some (.cells #[.int .i64 n, .int .i64 a] 25 (0, 0)) ∧ Below w.heap.size w wr) (fun _ i _ => 32 - (intOf i).toNat)
  case atStart => exact ⟨0, rfl, rfl, by omega, HX1.out, HB1.out⟩
  case round =>
    obtain ⟨k, rfl, rfl, hk, hblk, hbel⟩ := hrel
    obtain ⟨c0, c1, f0, f1⟩ := cells2 hblk
    have HBLK := Lib.hid hblk
    have HBEL := Lib.hid hbel
    have hlz : w.heap.size < wr.heap.size := lt_of_block hblk
    clear hblk hbel
    by_cases hlt : (k : Int) < 2 ^ n
    · have hbit := bit_i64 a k (by omega)
      have hg := gretN_le n a b k
      have HA := Lib.hid (CerA.model n a k)
      rw [catT_yes H.out hlt] at HA
      by_cases he : bitN a k = b
      · have HT := Lib.hid (gretN_yes (n := n) he)
        have HM : Hid (((max (gretN n a b k) (popN (setN n a k)) : Nat) : Int) = max (gretN n a b k : Int) (popN (setN n a k) : Int)) := Lib.hid (by omega)
        rw [he] at hbit
        have hp := (pop_top n _ (setN_lt n a k)).1
        generalize hg1 : gretN n a b (k + 1) = g1 at *
        generalize gretN n a b k = g at *
        generalize popN (setN n a k) = p at *
        clear he
        go_wp2_with fail
        refine (HA.out _).mono ?_
        rintro e w2 ⟨rfl, hb2⟩
        have HBLK2 := Lib.hid (blockC hb2 HBLK.out)
        have HB2 := Lib.hid (bB hb2 (by omega) HBEL.out)
        clear hb2
        go_wp2_with fail
        all_goals
          go_roundw
          case rel => exact ⟨k + 1, by go_num, by (rw [hg1, HT.out]; congr 1; (first | exact HM.out.symm | (split <;> omega))), by omega, HBLK2.out, HB2.out⟩
          case measure => simp [intOf]; omega
      · have HT := Lib.hid (gretN_no (n := n) he)
        have hnb : (((bitN a k : Nat) : Int) == (b : Int)) = false := by rw [beq_eq_false_iff_ne]; omega
        generalize hg1 : gretN n a b (k + 1) = g1 at *
        generalize gretN n a b k = g at *
        clear he
        go_wp2_with fail
        go_roundw
        case rel => exact ⟨k + 1, by go_num, by rw [hg1, HT.out], by omega, HBLK.out, HBEL.out⟩
        case measure => simp [intOf]; omega
    · have he : k = 2 ^ n := by rw [up2] at hk hlt; omega
      have HE : Hid (gretN n a b k = gretN n a b (2 ^ n)) := Lib.hid (by rw [he])
      clear he
      go_wp2
      go_ret
      exact ⟨ret_int (by rw [HE.out]), HBEL.out⟩

theorem CerO.model_no1 (n a b : Int) (ht : isT n a = false) (w : World) :
    Calls Try.prog 48 #[.agg #[.int .i64 n, .int .i64 a], .int .i64 b] w fun e w' => e = .returned (.int .i64 (-1)) ∧ Below w.heap.size w w' := by
  have H := Lib.hid ht
  clear ht
  go_enter Try.func48, Try.ntmps48
  go_wp2_with fail
  refine (Tab.model _ _ _).mono ?_
  rintro e w1 ⟨rfl, hb1⟩
  obtain ⟨hc, hf⟩ := bcell hb1
  have hz0_w1 : w.heap.size < w1.heap.size := by have := hb1.size; simp at this; omega
  rw [H.out]
  go_wp2
  go_ret
  exact ⟨rfl, bB hb1 (by simp) (bA (Nat.le_refl _) (Below.refl _ _))⟩

theorem CerO.model_no2 (n a b : Int) (ht : isT n a = true) (hb : ¬ (0 ≤ b ∧ b ≤ 1)) (w : World) :
    Calls Try.prog 48 #[.agg #[.int .i64 n, .int .i64 a], .int .i64 b] w fun e w' => e = .returned (.int .i64 (-1)) ∧ Below w.heap.size w w' := by
  have H := Lib.hid ht
  have HV := Lib.hid hb
  clear ht hb
  go_enter Try.func48, Try.ntmps48
  go_wp2_with fail
  refine (Tab.model _ _ _).mono ?_
  rintro e w1 ⟨rfl, hb1⟩
  obtain ⟨hc, hf⟩ := bcell hb1
  have hz0_w1 : w.heap.size < w1.heap.size := by have := hb1.size; simp at this; omega
  rw [H.out]
  go_wp2_with fail
  refine (Widths.in_no _ _ _ HV.out _).mono ?_
  rintro e w2 ⟨rfl, rfl⟩
  go_wp2
  go_ret
  exact ⟨rfl, bB hb1 (by simp) (bA (Nat.le_refl _) (Below.refl _ _))⟩

/-- CertificateOf of the model. -/
theorem CerO.model (n a b : Int) (w : World) :
    Calls Try.prog 48 #[.agg #[.int .i64 n, .int .i64 a], .int .i64 b] w fun e w' => e = .returned (.int .i64 (cofT n a b)) ∧ Below w.heap.size w w' := by
  cases ht : isT n a with
  | false =>
    rw [cofT_no fun h => by rw [h.1] at ht; exact absurd ht (by decide)]
    exact CerO.model_no1 n a b ht w
  | true =>
    by_cases hb : 0 ≤ b ∧ b ≤ 1
    · obtain ⟨n, a, rfl, rfl, hn, ha⟩ := isT_nat ht
      obtain ⟨b, rfl⟩ := Int.eq_ofNat_of_zero_le hb.1
      rw [cofT_yes ht hb.2]
      exact CerO.model_yes n a b hn ht (by have := fullN_le n hn; omega) hb.2 w
    · rw [cofT_no fun h => hb h.2]
      exact CerO.model_no2 n a b ht hb w

theorem CerO.impl_no1 (n a b : Int) (h64 : -9223372036854775808 ≤ a ∧ a ≤ 9223372036854775807) (ht : isT n a = false) (w : World) :
    Calls Try.prog 36 #[.agg #[.int .i64 n, .int .i64 a], .int .i64 b] w fun e w' => e = .returned (.int .i64 (-1)) ∧ Below w.heap.size w w' := by
  have H := Lib.hid ht
  have HB := Lib.hid h64
  clear ht h64
  go_enter Try.func36, Try.ntmps36
  go_wp2_with fail
  refine (Tab.impl _ _ HB.out _).mono ?_
  rintro e w1 ⟨rfl, hb1⟩
  obtain ⟨hc, hf⟩ := bcell hb1
  have hz0_w1 : w.heap.size < w1.heap.size := by have := hb1.size; simp at this; omega
  rw [H.out]
  go_wp2
  go_ret
  exact ⟨rfl, bB hb1 (by simp) (bA (Nat.le_refl _) (Below.refl _ _))⟩

theorem CerO.impl_no2 (n a b : Int) (h64 : -9223372036854775808 ≤ a ∧ a ≤ 9223372036854775807) (ht : isT n a = true) (hb : ¬ (0 ≤ b ∧ b ≤ 1)) (w : World) :
    Calls Try.prog 36 #[.agg #[.int .i64 n, .int .i64 a], .int .i64 b] w fun e w' => e = .returned (.int .i64 (-1)) ∧ Below w.heap.size w w' := by
  have H := Lib.hid ht
  have HV := Lib.hid hb
  have HB := Lib.hid h64
  clear ht hb h64
  go_enter Try.func36, Try.ntmps36
  go_wp2_with fail
  refine (Tab.impl _ _ HB.out _).mono ?_
  rintro e w1 ⟨rfl, hb1⟩
  obtain ⟨hc, hf⟩ := bcell hb1
  have hz0_w1 : w.heap.size < w1.heap.size := by have := hb1.size; simp at this; omega
  rw [H.out]
  go_wp2_with fail
  refine (Tab.isVal_no _ HV.out _).mono ?_
  rintro e w2 ⟨rfl, rfl⟩
  go_wp2
  go_ret
  exact ⟨rfl, bB hb1 (by simp) (bA (Nat.le_refl _) (Below.refl _ _))⟩

set_option maxRecDepth 100000 in
set_option maxHeartbeats 1000000 in
theorem CerO.impl_yes (n a b : Nat) (hn : n ≤ 5) (ht : isT n a = true) (ha : (a : Int) ≤ 4294967295) (hb : (b : Int) ≤ 1) (w : World) :
    Calls Try.prog 36 #[.agg #[.int .i64 n, .int .i64 a], .int .i64 b] w fun e w' => e = .returned (.int .i64 (gretN n a b (2 ^ n) : Int)) ∧ Below w.heap.size w w' := by
  have H := Lib.hid ht
  have HN := Lib.hid hn
  have HV : Hid ((0 : Int) ≤ b ∧ (b : Int) ≤ 1) := Lib.hid (by omega)
  obtain ⟨hp1, hp2⟩ := two_pow_int n hn
  have HC := Lib.hid (Tab.count n hn)
  have hn5 : (n : Int) ≤ 5 := by omega
  clear hn ht
  go_enter Try.func36, Try.ntmps36
  go_wp2_with fail
  refine (Tab.impl _ _ (by omega) _).mono ?_
  rintro e w1 ⟨rfl, hb1⟩
  have X1 := blockC hb1 (heap_alloc_new w _)
  obtain ⟨c0, c1, f0, f1⟩ := cells2 X1
  have hz1 : w.heap.size < w1.heap.size := lt_of_block X1
  have HX1 := Lib.hid X1
  have HB1 : Hid (Below w.heap.size w w1) := Lib.hid (bB hb1 (by simp) (bA (Nat.le_refl _) (Below.refl _ _)))
  clear X1 hb1
  rw [H.out]
  go_wp2_with fail
  refine (Tab.isVal_yes _ HV.out _).mono ?_
  rintro e w2 ⟨rfl, rfl⟩
  go_wp2_with fail
  refine (HC.out _).mono ?_
  rintro e w2 ⟨rfl, rfl⟩
  go_wp2_with fail
  clear c0 c1 f0 f1
  go_loopw [6, 7, 22] (fun g _ i wr => ∃ k : Nat, i = .int .i64 (k : Int) ∧ g = .int .i64 (gretN n a b k : Int) ∧ (k : Int) ≤ 2 ^ n ∧ wr.heap[w.heap.size]? = some (.cells #[.int .i64 n, .int .i64 a] 25 (0, 0)) ∧ Below w.heap.size w wr) (fun _ _ i _ => 32 - (intOf i).toNat)
  case atStart => exact ⟨0, rfl, rfl, by omega, HX1.out, HB1.out⟩
  case round =>
    obtain ⟨k, rfl, rfl, hk, hblk, hbel⟩ := hrel
    obtain ⟨c0, c1, f0, f1⟩ := cells2 hblk
    have HBLK := Lib.hid hblk
    have HBEL := Lib.hid hbel
    have hlz : w.heap.size < wr.heap.size := lt_of_block hblk
    clear hblk hbel
    by_cases hlt : (k : Int) < 2 ^ n
    · have HT0 := Lib.hid (Tab.at a k (by omega) (by omega))
      have hg := gretN_le n a b k
      have HA := Lib.hid (CerA.impl n a k (by omega))
      rw [catT_yes H.out hlt] at HA
      by_cases he : bitN a k = b
      · have HT := Lib.hid (gretN_yes (n := n) he)
        have HM : Hid (((max (gretN n a b k) (popN (setN n a k)) : Nat) : Int) = max (gretN n a b k : Int) (popN (setN n a k) : Int)) := Lib.hid (by omega)
        rw [he] at HT0
        have hp := (pop_top n _ (setN_lt n a k)).1
        generalize hg1 : gretN n a b (k + 1) = g1 at *
        generalize gretN n a b k = g at *
        generalize popN (setN n a k) = p at *
        clear he
        go_wp2_with fail
        refine (HT0.out _).mono ?_
        rintro e w2 ⟨rfl, rfl⟩
        go_wp2_with fail
        refine (HA.out _).mono ?_
        rintro e w2 ⟨rfl, hb2⟩
        have HBLK2 := Lib.hid (blockC hb2 HBLK.out)
        have HB2 := Lib.hid (bB hb2 (by omega) HBEL.out)
        clear hb2
        go_wp2_with fail
        all_goals
          go_roundw
          case rel => exact ⟨k + 1, by go_num, by (rw [hg1, HT.out]; congr 1; (first | exact HM.out.symm | (split <;> omega))), by omega, HBLK2.out, HB2.out⟩
          case measure => simp [intOf]; omega
      · have HT := Lib.hid (gretN_no (n := n) he)
        have hnb : (((bitN a k : Nat) : Int) == (b : Int)) = false := by rw [beq_eq_false_iff_ne]; omega
        generalize hg1 : gretN n a b (k + 1) = g1 at *
        generalize gretN n a b k = g at *
        clear he
        go_wp2_with fail
        refine (HT0.out _).mono ?_
        rintro e w2 ⟨rfl, rfl⟩
        go_wp2_with fail
        go_roundw
        case rel => exact ⟨k + 1, by go_num, by rw [hg1, HT.out], by omega, HBLK.out, HBEL.out⟩
        case measure => simp [intOf]; omega
    · have he : k = 2 ^ n := by rw [up2] at hk hlt; omega
      have HE : Hid (gretN n a b k = gretN n a b (2 ^ n)) := Lib.hid (by rw [he])
      clear he
      go_wp2
      go_ret
      exact ⟨ret_int (by rw [HE.out]), HBEL.out⟩

/-- CertificateOf of the program. -/
theorem CerO.impl (n a b : Int) (h64 : -9223372036854775808 ≤ a ∧ a ≤ 9223372036854775807) (w : World) :
    Calls Try.prog 36 #[.agg #[.int .i64 n, .int .i64 a], .int .i64 b] w fun e w' => e = .returned (.int .i64 (cofT n a b)) ∧ Below w.heap.size w w' := by
  cases ht : isT n a with
  | false =>
    rw [cofT_no fun h => by rw [h.1] at ht; exact absurd ht (by decide)]
    exact CerO.impl_no1 n a b h64 ht w
  | true =>
    by_cases hb : 0 ≤ b ∧ b ≤ 1
    · obtain ⟨n, a, rfl, rfl, hn, ha⟩ := isT_nat ht
      obtain ⟨b, rfl⟩ := Int.eq_ofNat_of_zero_le hb.1
      rw [cofT_yes ht hb.2]
      exact CerO.impl_yes n a b hn ht (by have := fullN_le n hn; omega) hb.2 w
    · rw [cofT_no fun h => hb h.2]
      exact CerO.impl_no2 n a b h64 ht hb w

end Go.Proofs.Ytbgjiblfnljigaa
