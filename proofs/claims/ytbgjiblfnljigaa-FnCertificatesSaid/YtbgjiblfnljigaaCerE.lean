/-
  Chapter 9: the draws of CertificateOf and IsCertificate.
-/
import Derived.Test.YtbgjiblfnljigaaCerD
namespace Go.Proofs.Ytbgjiblfnljigaa
open Go.RowKit Plain
set_option linter.unusedVariables false
attribute [local go_sem ↓] Go.wp_at_zero Go.wp_at_succ

set_option maxRecDepth 100000 in
set_option maxHeartbeats 2000000 in
theorem Draw.cof (av : Value) (len : Nat) (w : World) (hc : CodeIn w av len) :
    Calls Try.prog 42 #[av] w (VarOut w) := by
  have HD := Lib.hid (fun w hc => Draw.nine av len w hc)
  have HC := Lib.hid hc
  clear hc
  go_enter Try.func42, Try.ntmps42
  go_wp2_with fail
  have BA := Lib.hid ((Below.refl w.heap.size w).alloc (Nat.le_refl _) (.cells #[.int .i64 0, .int .i64 0] 25))
  refine (HD.out _ (HC.out.below BA.out)).mono ?_
  rintro e w1 ⟨n, a, i, rfl, hn, ha, hi, hb1⟩
  have X1 := Lib.hid (blockB' hb1 (heap_alloc_new w _))
  have B1 := Lib.hid (bB hb1 (by simp) BA.out)
  have NN := Lib.hid hn
  have AA := Lib.hid ha
  have II := Lib.hid hi
  clear hb1 hn ha hi
  obtain ⟨p0, p1, q0, q1⟩ := cells2 X1.out
  have hz : w.heap.size < w1.heap.size := lt_of_block X1.out
  obtain ⟨k0, k1⟩ := keepT (Y := w1) (g := w.heap.size) (u := .int .i64 n) (v := .int .i64 a) p0 p1
  have m0 := keepA (o := .cells #[.int .i64 n, .int .i64 a] 25) k0
  have m1 := keepA (o := .cells #[.int .i64 n, .int .i64 a] 25) k1
  have K0 := Lib.hid m0
  have K1 := Lib.hid m1
  clear k0 k1 m0 m1
  by_cases hi2 : i < 2
  · go_wp2
    all_goals
      have m0 := K0.out
      have m1 := K1.out
      exact bodyPost_ret (v := .tuple #[.agg #[.int .i64 n, .int .i64 a], .int .i64 i]) (by simp [results, Try.results42, go_sem, m0, m1]; try omega) rfl ⟨n, a, i, rfl, NN.out, AA.out, II.out, by first | exact bS (Nat.le_refl _) (bS (Nat.le_refl _) (bA (by omega) B1.out)) | exact bA (by simp; omega) (bS (Nat.le_refl _) (bS (Nat.le_refl _) B1.out))⟩
  · go_wp2
    all_goals
      have m0 := K0.out
      have m1 := K1.out
      exact bodyPost_ret (v := .tuple #[.agg #[.int .i64 n, .int .i64 a], .int .i64 2]) (by simp [results, Try.results42, go_sem, m0, m1]; try omega) rfl ⟨n, a, 2, rfl, NN.out, AA.out, by unfold In64; omega, by first | exact bS (Nat.le_refl _) (bS (Nat.le_refl _) (bA (by omega) B1.out)) | exact bA (by simp; omega) (bS (Nat.le_refl _) (bS (Nat.le_refl _) B1.out))⟩

theorem modl7 (len : Nat) : Int.tmod (len : Int) 7 = 0 ∨ Int.tmod (len : Int) 7 = 1 ∨ Int.tmod (len : Int) 7 = 2 ∨ Int.tmod (len : Int) 7 = 3 ∨ Int.tmod (len : Int) 7 = 4 ∨ Int.tmod (len : Int) 7 = 5 ∨ Int.tmod (len : Int) 7 = 6 := by
  rw [Int.tmod_eq_emod_of_nonneg (by omega)]; omega
theorem modl2 (len : Nat) : Int.tmod (len : Int) 2 = 0 ∨ Int.tmod (len : Int) 2 = 1 := by
  rw [Int.tmod_eq_emod_of_nonneg (by omega)]; omega

theorem setT_in (n a x : Int) : In64 (setT n a x).1 := by
  by_cases h : setOk n a x
  · obtain ⟨n, a, rfl, rfl, hn, ha⟩ := isT_nat h.1
    obtain ⟨x, rfl⟩ := Int.eq_ofNat_of_zero_le h.2.1
    have hx : (x : Int) < 2 ^ n := h.2.2
    rw [setT_yes h.1 hx]
    have h1 := setN_lt n a x
    have h2 := two_pow_le n hn
    show In64 ((setN n a x : Nat) : Int)
    unfold In64; omega
  · rw [setT_no h]; show In64 0; unfold In64; omega

set_option maxRecDepth 100000 in
set_option maxHeartbeats 8000000 in
theorem Draw.isCer (av : Value) (len : Nat) (w : World) (hc : CodeIn w av len) :
    Calls Try.prog 40 #[av] w (TriOut w) := by
  have HC := Lib.hid hc
  obtain ⟨ad, cap, rfl, hlen, _⟩ := hc
  have BA := Lib.hid ((Below.refl w.heap.size w).alloc (Nat.le_refl _) (.cells #[.int .i64 0, .int .i64 0] 25))
  go_enter Try.func40, Try.ntmps40
  go_wp2_with fail
  refine (Draw.nine _ len _ (HC.out.below BA.out)).mono ?_
  rintro e w1 ⟨n, a, i, rfl, hn, ha, hi, hb1⟩
  have NN := Lib.hid hn
  have AA := Lib.hid ha
  have II := Lib.hid hi
  have hz1 : w.heap.size < w1.heap.size := by have := hb1.size; simp at this; omega
  have X1 := Lib.hid (blockAlloc ((hb1.block w.heap.size (by simp)).trans (heap_alloc_new w (.cells #[.int .i64 0, .int .i64 0] 25))) (.cells #[.int .i64 n, .int .i64 a] 25))
  have F1 := Lib.hid (heap_alloc_new w1 (.cells #[.int .i64 n, .int .i64 a] 25))
  have B1 := Lib.hid (bA (by omega) (BA.out.trans (hb1.mono (by simp))) (o := .cells #[.int .i64 n, .int .i64 a] 25))
  have hlen0 : 0 ≤ (len : Int) := by omega
  have HM := Lib.hid (CerS.model n a i)
  have HT := Lib.hid (setT_in n a i)
  generalize (setT n a i).1 = T at *
  generalize (setT n a i).2 = c at *
  clear hn ha hi hb1
  go_wp2_with fail
  refine (HM.out _).mono ?_
  rintro e w2 ⟨rfl, hb2⟩
  obtain ⟨z0, z1, g0, g1⟩ := cells2 (blockB' hb2 X1.out)
  obtain ⟨y0, y1, _, _⟩ := cells2 (blockB' hb2 F1.out)
  have B2 := Lib.hid (bB hb2 B1.out.size B1.out)
  have hz : w.heap.size < w2.heap.size := by have := hb2.size; simp at this; omega
  have hz2 : w1.heap.size < w2.heap.size := by have := hb2.size; simp at this; omega
  obtain ⟨k0', k1'⟩ := keepT (Y := w2) (g := w.heap.size) (u := .int .i64 n) (v := .int .i64 a) z0 z1
  have M0 := Lib.hid k0'
  have M1 := Lib.hid k1'
  clear hb2 X1 F1
  by_cases hq : c = true ∧ Int.tmod (len : Int) 2 = 0
  · obtain ⟨rfl, h2⟩ := hq
    clear k0' k1'
    go_wp2
    have m0 := M0.out
    have m1 := M1.out
    exact bodyPost_ret (v := .tuple #[.agg #[.int .i64 n, .int .i64 a], .int .i64 i, .int .i64 T]) (by simp [results, Try.results40, go_sem, m0, m1]) rfl ⟨n, a, i, T, rfl, NN.out, AA.out, II.out, HT.out, bS (Nat.le_refl _) (bS (Nat.le_refl _) B2.out)⟩
  · have K0 := Lib.hid (keepA (o := .cells #[.int .i64 0, .int .i64 1, .int .i64 2, .int .i64 3, .int .i64 7, .int .i64 (-1), .int .i64 16] 3) k0')
    have K1 := Lib.hid (keepA (o := .cells #[.int .i64 0, .int .i64 1, .int .i64 2, .int .i64 3, .int .i64 7, .int .i64 (-1), .int .i64 16] 3) k1')
    clear k0' k1'
    go_upto_region 3 with fail
    go_cut [26] (fun s wx => s = .bool false ∧ w2 = wx)
    case first =>
      cases c with
      | false =>
        go_wp2
        go_meet
        exact ⟨rfl, rfl⟩
      | true =>
        have h1 : ((Int.tmod (len : Int) 2) == 0) = false := by rw [beq_eq_false_iff_ne]; exact fun h => hq ⟨rfl, h⟩
        have h3 : (((len : Int) % 2) == 0) = false := by rw [beq_eq_false_iff_ne, ← Int.tmod_eq_emod_of_nonneg (by omega)]; exact fun h => hq ⟨rfl, h⟩
        go_wp2
        go_meet
        exact ⟨(by first | rfl | rw [h3]), rfl⟩
    case rest =>
      obtain ⟨rfl, rfl⟩ := hcut
      clear hq
      rcases modl7 len with hm | hm | hm | hm | hm | hm | hm
      · go_wp2
        first | (go_region_with (fail)) | (fail)
        all_goals
          go_wp2
          have m0 := K0.out
          have m1 := K1.out
          exact bodyPost_ret (v := .tuple #[.agg #[.int .i64 n, .int .i64 a], .int .i64 i, .int .i64 0]) (by simp [results, Try.results40, go_sem, m0, m1]) rfl ⟨n, a, i, 0, rfl, NN.out, AA.out, II.out, by unfold In64; omega, by exact bD (bA (by simp <;> omega) (bS (Nat.le_refl _) (bS (Nat.le_refl _) B2.out)))⟩
      · go_wp2
        first | (go_region_with (fail)) | (fail)
        all_goals
          go_wp2
          have m0 := K0.out
          have m1 := K1.out
          exact bodyPost_ret (v := .tuple #[.agg #[.int .i64 n, .int .i64 a], .int .i64 i, .int .i64 1]) (by simp [results, Try.results40, go_sem, m0, m1]) rfl ⟨n, a, i, 1, rfl, NN.out, AA.out, II.out, by unfold In64; omega, by exact bD (bA (by simp <;> omega) (bS (Nat.le_refl _) (bS (Nat.le_refl _) B2.out)))⟩
      · go_wp2
        first | (go_region_with (fail)) | (fail)
        all_goals
          go_wp2
          have m0 := K0.out
          have m1 := K1.out
          exact bodyPost_ret (v := .tuple #[.agg #[.int .i64 n, .int .i64 a], .int .i64 i, .int .i64 2]) (by simp [results, Try.results40, go_sem, m0, m1]) rfl ⟨n, a, i, 2, rfl, NN.out, AA.out, II.out, by unfold In64; omega, by exact bD (bA (by simp <;> omega) (bS (Nat.le_refl _) (bS (Nat.le_refl _) B2.out)))⟩
      · go_wp2
        first | (go_region_with (fail)) | (fail)
        all_goals
          go_wp2
          have m0 := K0.out
          have m1 := K1.out
          exact bodyPost_ret (v := .tuple #[.agg #[.int .i64 n, .int .i64 a], .int .i64 i, .int .i64 3]) (by simp [results, Try.results40, go_sem, m0, m1]) rfl ⟨n, a, i, 3, rfl, NN.out, AA.out, II.out, by unfold In64; omega, by exact bD (bA (by simp <;> omega) (bS (Nat.le_refl _) (bS (Nat.le_refl _) B2.out)))⟩
      · go_wp2
        first | (go_region_with (fail)) | (fail)
        all_goals
          go_wp2
          have m0 := K0.out
          have m1 := K1.out
          exact bodyPost_ret (v := .tuple #[.agg #[.int .i64 n, .int .i64 a], .int .i64 i, .int .i64 7]) (by simp [results, Try.results40, go_sem, m0, m1]) rfl ⟨n, a, i, 7, rfl, NN.out, AA.out, II.out, by unfold In64; omega, by exact bD (bA (by simp <;> omega) (bS (Nat.le_refl _) (bS (Nat.le_refl _) B2.out)))⟩
      · go_wp2
        first | (go_region_with (fail)) | (fail)
        all_goals
          go_wp2
          have m0 := K0.out
          have m1 := K1.out
          exact bodyPost_ret (v := .tuple #[.agg #[.int .i64 n, .int .i64 a], .int .i64 i, .int .i64 (-1)]) (by simp [results, Try.results40, go_sem, m0, m1]) rfl ⟨n, a, i, (-1), rfl, NN.out, AA.out, II.out, by unfold In64; omega, by exact bD (bA (by simp <;> omega) (bS (Nat.le_refl _) (bS (Nat.le_refl _) B2.out)))⟩
      · go_wp2
        first | (go_region_with (fail)) | (fail)
        all_goals
          go_wp2
          have m0 := K0.out
          have m1 := K1.out
          exact bodyPost_ret (v := .tuple #[.agg #[.int .i64 n, .int .i64 a], .int .i64 i, .int .i64 16]) (by simp [results, Try.results40, go_sem, m0, m1]) rfl ⟨n, a, i, 16, rfl, NN.out, AA.out, II.out, by unfold In64; omega, by exact bD (bA (by simp <;> omega) (bS (Nat.le_refl _) (bS (Nat.le_refl _) B2.out)))⟩

end Go.Proofs.Ytbgjiblfnljigaa
