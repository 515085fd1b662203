/-
  Chapter 10: the draw of IsSensitiveBlock.
-/
import Derived.Test.YtbgjiblfnljigaaCerD
namespace Go.Proofs.Ytbgjiblfnljigaa
open Go.RowKit Plain
set_option linter.unusedVariables false
attribute [local go_sem ↓] Go.wp_at_zero Go.wp_at_succ

theorem modl9 (len : Nat) : Int.tmod (len : Int) 9 = 0 ∨ Int.tmod (len : Int) 9 = 1 ∨ Int.tmod (len : Int) 9 = 2 ∨ Int.tmod (len : Int) 9 = 3 ∨ Int.tmod (len : Int) 9 = 4 ∨ Int.tmod (len : Int) 9 = 5 ∨ Int.tmod (len : Int) 9 = 6 ∨ Int.tmod (len : Int) 9 = 7 ∨ Int.tmod (len : Int) 9 = 8 := by
  rw [Int.tmod_eq_emod_of_nonneg (by omega)]; omega

set_option maxRecDepth 100000 in
set_option maxHeartbeats 8000000 in
theorem Draw.isSen (av : Value) (len : Nat) (w : World) (hc : CodeIn w av len) :
    Calls Try.prog 41 #[av] w (TriOut w) := by
  have HC := Lib.hid hc
  obtain ⟨ad, cap, rfl, hlen, _⟩ := hc
  have BA := Lib.hid ((Below.refl w.heap.size w).alloc (Nat.le_refl _) (.cells #[.int .i64 0, .int .i64 0] 25))
  go_enter Try.func41, Try.ntmps41
  go_wp2_with fail
  refine (Draw.nine _ len _ (HC.out.below BA.out)).mono ?_
  rintro e w1 ⟨n, a, i, rfl, hn, ha, hi, hb1⟩
  have NN := Lib.hid hn
  have AA := Lib.hid ha
  have II := Lib.hid hi
  have hz : w.heap.size < w1.heap.size := by have := hb1.size; simp at this; omega
  have X1 := Lib.hid ((hb1.block w.heap.size (by simp)).trans (heap_alloc_new w (.cells #[.int .i64 0, .int .i64 0] 25)))
  have B1 := Lib.hid (BA.out.trans (hb1.mono (by simp)))
  obtain ⟨z0, z1, g0, g1⟩ := cells2 X1.out
  have hlen0 : 0 ≤ (len : Int) := by omega
  clear hn ha hi hb1
  have z0' : (w1.alloc (.cells #[.int .i64 n, .int .i64 a] 25)).cell? ⟨w.heap.size, 0, none⟩ = some (.int .i64 0) := keepA z0
  have z1' : (w1.alloc (.cells #[.int .i64 n, .int .i64 a] 25)).cell? ⟨w.heap.size, 1, none⟩ = some (.int .i64 0) := keepA z1
  have k0' := (keepT (Y := w1) (g := w.heap.size) (u := .int .i64 n) (v := .int .i64 a) z0 z1).1
  have k1' := (keepT (Y := w1) (g := w.heap.size) (u := .int .i64 n) (v := .int .i64 a) z0 z1).2
  have K0 := Lib.hid (keepA (o := .cells #[.int .i64 0, .int .i64 1, .int .i64 2, .int .i64 3, .int .i64 5, .int .i64 7, .int .i64 15, .int .i64 (-1), .int .i64 16] 3) (keepA (o := .cells #[.int .i64 n, .int .i64 a] 25) k0'))
  have K1 := Lib.hid (keepA (o := .cells #[.int .i64 0, .int .i64 1, .int .i64 2, .int .i64 3, .int .i64 5, .int .i64 7, .int .i64 15, .int .i64 (-1), .int .i64 16] 3) (keepA (o := .cells #[.int .i64 n, .int .i64 a] 25) k1'))
  clear k0' k1'
  rcases modl9 len with hm | hm | hm | hm | hm | hm | hm | hm | hm
  · go_wp2
    first | (go_region_with (fail)) | (fail)
    all_goals
      go_wp2
      have m0 := K0.out
      have m1 := K1.out
      exact bodyPost_ret (v := .tuple #[.agg #[.int .i64 n, .int .i64 a], .int .i64 i, .int .i64 0]) (by simp [results, Try.results41, go_sem, m0, m1]) rfl ⟨n, a, i, 0, rfl, NN.out, AA.out, II.out, by unfold In64; omega, by exact bD (bA (by simp <;> omega) (bA (by simp <;> omega) (bS (Nat.le_refl _) (bS (Nat.le_refl _) B1.out))))⟩
  · go_wp2
    first | (go_region_with (fail)) | (fail)
    all_goals
      go_wp2
      have m0 := K0.out
      have m1 := K1.out
      exact bodyPost_ret (v := .tuple #[.agg #[.int .i64 n, .int .i64 a], .int .i64 i, .int .i64 1]) (by simp [results, Try.results41, go_sem, m0, m1]) rfl ⟨n, a, i, 1, rfl, NN.out, AA.out, II.out, by unfold In64; omega, by exact bD (bA (by simp <;> omega) (bA (by simp <;> omega) (bS (Nat.le_refl _) (bS (Nat.le_refl _) B1.out))))⟩
  · go_wp2
    first | (go_region_with (fail)) | (fail)
    all_goals
      go_wp2
      have m0 := K0.out
      have m1 := K1.out
      exact bodyPost_ret (v := .tuple #[.agg #[.int .i64 n, .int .i64 a], .int .i64 i, .int .i64 2]) (by simp [results, Try.results41, go_sem, m0, m1]) rfl ⟨n, a, i, 2, rfl, NN.out, AA.out, II.out, by unfold In64; omega, by exact bD (bA (by simp <;> omega) (bA (by simp <;> omega) (bS (Nat.le_refl _) (bS (Nat.le_refl _) B1.out))))⟩
  · go_wp2
    first | (go_region_with (fail)) | (fail)
    all_goals
      go_wp2
      have m0 := K0.out
      have m1 := K1.out
      exact bodyPost_ret (v := .tuple #[.agg #[.int .i64 n, .int .i64 a], .int .i64 i, .int .i64 3]) (by simp [results, Try.results41, go_sem, m0, m1]) rfl ⟨n, a, i, 3, rfl, NN.out, AA.out, II.out, by unfold In64; omega, by exact bD (bA (by simp <;> omega) (bA (by simp <;> omega) (bS (Nat.le_refl _) (bS (Nat.le_refl _) B1.out))))⟩
  · go_wp2
    first | (go_region_with (fail)) | (fail)
    all_goals
      go_wp2
      have m0 := K0.out
      have m1 := K1.out
      exact bodyPost_ret (v := .tuple #[.agg #[.int .i64 n, .int .i64 a], .int .i64 i, .int .i64 5]) (by simp [results, Try.results41, go_sem, m0, m1]) rfl ⟨n, a, i, 5, rfl, NN.out, AA.out, II.out, by unfold In64; omega, by exact bD (bA (by simp <;> omega) (bA (by simp <;> omega) (bS (Nat.le_refl _) (bS (Nat.le_refl _) B1.out))))⟩
  · go_wp2
    first | (go_region_with (fail)) | (fail)
    all_goals
      go_wp2
      have m0 := K0.out
      have m1 := K1.out
      exact bodyPost_ret (v := .tuple #[.agg #[.int .i64 n, .int .i64 a], .int .i64 i, .int .i64 7]) (by simp [results, Try.results41, go_sem, m0, m1]) rfl ⟨n, a, i, 7, rfl, NN.out, AA.out, II.out, by unfold In64; omega, by exact bD (bA (by simp <;> omega) (bA (by simp <;> omega) (bS (Nat.le_refl _) (bS (Nat.le_refl _) B1.out))))⟩
  · go_wp2
    first | (go_region_with (fail)) | (fail)
    all_goals
      go_wp2
      have m0 := K0.out
      have m1 := K1.out
      exact bodyPost_ret (v := .tuple #[.agg #[.int .i64 n, .int .i64 a], .int .i64 i, .int .i64 15]) (by simp [results, Try.results41, go_sem, m0, m1]) rfl ⟨n, a, i, 15, rfl, NN.out, AA.out, II.out, by unfold In64; omega, by exact bD (bA (by simp <;> omega) (bA (by simp <;> omega) (bS (Nat.le_refl _) (bS (Nat.le_refl _) B1.out))))⟩
  · go_wp2
    first | (go_region_with (fail)) | (fail)
    all_goals
      go_wp2
      have m0 := K0.out
      have m1 := K1.out
      exact bodyPost_ret (v := .tuple #[.agg #[.int .i64 n, .int .i64 a], .int .i64 i, .int .i64 (-1)]) (by simp [results, Try.results41, go_sem, m0, m1]) rfl ⟨n, a, i, (-1), rfl, NN.out, AA.out, II.out, by unfold In64; omega, by exact bD (bA (by simp <;> omega) (bA (by simp <;> omega) (bS (Nat.le_refl _) (bS (Nat.le_refl _) B1.out))))⟩
  · go_wp2
    first | (go_region_with (fail)) | (fail)
    all_goals
      go_wp2
      have m0 := K0.out
      have m1 := K1.out
      exact bodyPost_ret (v := .tuple #[.agg #[.int .i64 n, .int .i64 a], .int .i64 i, .int .i64 16]) (by simp [results, Try.results41, go_sem, m0, m1]) rfl ⟨n, a, i, 16, rfl, NN.out, AA.out, II.out, by unfold In64; omega, by exact bD (bA (by simp <;> omega) (bA (by simp <;> omega) (bS (Nat.le_refl _) (bS (Nat.le_refl _) B1.out))))⟩

end Go.Proofs.Ytbgjiblfnljigaa
