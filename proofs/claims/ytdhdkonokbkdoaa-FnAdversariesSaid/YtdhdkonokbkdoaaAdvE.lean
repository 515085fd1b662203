/-
  Chapter 8: the draw of AdversaryAnswer.
-/
import Derived.Test.YtdhdkonokbkdoaaAdvD
namespace Go.Proofs.Ytdhdkonokbkdoaa
open Go.RowKit Plain
set_option linter.unusedVariables false
attribute [local go_sem ↓] Go.wp_at_zero Go.wp_at_succ

theorem mod6' (len : Nat) : Int.tmod (len : Int) 6 = 0 ∨ Int.tmod (len : Int) 6 = 1 ∨ Int.tmod (len : Int) 6 = 2 ∨ Int.tmod (len : Int) 6 = 3 ∨ Int.tmod (len : Int) 6 = 4 ∨ Int.tmod (len : Int) 6 = 5 := by
  rw [Int.tmod_eq_emod_of_nonneg (by omega)]; omega

/-- A table and three numbers. -/
def QuadOut (w : World) (e : Ending) (w' : World) : Prop :=
  ∃ n a i j k : Int, e = .returned (.tuple #[.agg #[.int .i64 n, .int .i64 a], .int .i64 i, .int .i64 j, .int .i64 k]) ∧ In64 n ∧ In64 a ∧ In64 i ∧ In64 j ∧ In64 k ∧ Below w.heap.size w w'

set_option maxRecDepth 100000 in
set_option maxHeartbeats 8000000 in
theorem Draw.adv (av : Value) (len : Nat) (w : World) (hc : CodeIn w av len) :
    Calls Try.prog 14 #[av] w (QuadOut w) := by
  have HC := Lib.hid hc
  obtain ⟨ad, cap, rfl, hlen, _⟩ := hc
  have BA := Lib.hid ((Below.refl w.heap.size w).alloc (Nat.le_refl _) (.cells #[.int .i64 0, .int .i64 0] 25))
  go_enter Try.func14, Try.ntmps14
  go_wp2_with fail
  refine (Draw.eight _ len _ (HC.out.below BA.out)).mono ?_
  rintro e w1 ⟨n, a, i, j, rfl, hn, ha, hi, hj, hb1⟩
  have NN := Lib.hid hn
  have AA := Lib.hid ha
  have II := Lib.hid hi
  have JJ := Lib.hid hj
  have hz : w.heap.size < w1.heap.size := by have := hb1.size; simp at this; omega
  have X1 := Lib.hid ((hb1.block w.heap.size (by simp)).trans (heap_alloc_new w (.cells #[.int .i64 0, .int .i64 0] 25)))
  have B1 := Lib.hid (BA.out.trans (hb1.mono (by simp)))
  obtain ⟨z0, z1, g0, g1⟩ := cells2 X1.out
  have hlen0 : 0 ≤ (len : Int) := by omega
  clear hn ha hi hj hb1
  have z0' : (w1.alloc (.cells #[.int .i64 n, .int .i64 a] 25)).cell? ⟨w.heap.size, 0, none⟩ = some (.int .i64 0) := keepA z0
  have z1' : (w1.alloc (.cells #[.int .i64 n, .int .i64 a] 25)).cell? ⟨w.heap.size, 1, none⟩ = some (.int .i64 0) := keepA z1
  have k0' := (keepT (Y := w1) (g := w.heap.size) (u := .int .i64 n) (v := .int .i64 a) z0 z1).1
  have k1' := (keepT (Y := w1) (g := w.heap.size) (u := .int .i64 n) (v := .int .i64 a) z0 z1).2
  have K0 := Lib.hid (keepA (o := .cells #[.int .i64 0, .int .i64 1, .int .i64 2, .int .i64 3, .int .i64 (-1), .int .i64 4] 3) (keepA (o := .cells #[.int .i64 n, .int .i64 a] 25) k0'))
  have K1 := Lib.hid (keepA (o := .cells #[.int .i64 0, .int .i64 1, .int .i64 2, .int .i64 3, .int .i64 (-1), .int .i64 4] 3) (keepA (o := .cells #[.int .i64 n, .int .i64 a] 25) k1'))
  clear k0' k1'
  rcases mod6' len with hm | hm | hm | hm | hm | hm
  · go_wp2
    first | (go_region_with (fail)) | (fail)
    all_goals
      go_wp2
      have m0 := K0.out
      have m1 := K1.out
      exact bodyPost_ret (v := .tuple #[.agg #[.int .i64 n, .int .i64 a], .int .i64 i, .int .i64 j, .int .i64 0]) (by simp [results, Try.results14, go_sem, m0, m1]) rfl ⟨n, a, i, j, 0, rfl, NN.out, AA.out, II.out, JJ.out, by unfold In64; omega, by exact bD (bA (by simp <;> omega) (bA (by simp <;> omega) (bS (Nat.le_refl _) (bS (Nat.le_refl _) B1.out))))⟩
  · go_wp2
    first | (go_region_with (fail)) | (fail)
    all_goals
      go_wp2
      have m0 := K0.out
      have m1 := K1.out
      exact bodyPost_ret (v := .tuple #[.agg #[.int .i64 n, .int .i64 a], .int .i64 i, .int .i64 j, .int .i64 1]) (by simp [results, Try.results14, go_sem, m0, m1]) rfl ⟨n, a, i, j, 1, rfl, NN.out, AA.out, II.out, JJ.out, by unfold In64; omega, by exact bD (bA (by simp <;> omega) (bA (by simp <;> omega) (bS (Nat.le_refl _) (bS (Nat.le_refl _) B1.out))))⟩
  · go_wp2
    first | (go_region_with (fail)) | (fail)
    all_goals
      go_wp2
      have m0 := K0.out
      have m1 := K1.out
      exact bodyPost_ret (v := .tuple #[.agg #[.int .i64 n, .int .i64 a], .int .i64 i, .int .i64 j, .int .i64 2]) (by simp [results, Try.results14, go_sem, m0, m1]) rfl ⟨n, a, i, j, 2, rfl, NN.out, AA.out, II.out, JJ.out, by unfold In64; omega, by exact bD (bA (by simp <;> omega) (bA (by simp <;> omega) (bS (Nat.le_refl _) (bS (Nat.le_refl _) B1.out))))⟩
  · go_wp2
    first | (go_region_with (fail)) | (fail)
    all_goals
      go_wp2
      have m0 := K0.out
      have m1 := K1.out
      exact bodyPost_ret (v := .tuple #[.agg #[.int .i64 n, .int .i64 a], .int .i64 i, .int .i64 j, .int .i64 3]) (by simp [results, Try.results14, go_sem, m0, m1]) rfl ⟨n, a, i, j, 3, rfl, NN.out, AA.out, II.out, JJ.out, by unfold In64; omega, by exact bD (bA (by simp <;> omega) (bA (by simp <;> omega) (bS (Nat.le_refl _) (bS (Nat.le_refl _) B1.out))))⟩
  · go_wp2
    first | (go_region_with (fail)) | (fail)
    all_goals
      go_wp2
      have m0 := K0.out
      have m1 := K1.out
      exact bodyPost_ret (v := .tuple #[.agg #[.int .i64 n, .int .i64 a], .int .i64 i, .int .i64 j, .int .i64 (-1)]) (by simp [results, Try.results14, go_sem, m0, m1]) rfl ⟨n, a, i, j, (-1), rfl, NN.out, AA.out, II.out, JJ.out, by unfold In64; omega, by exact bD (bA (by simp <;> omega) (bA (by simp <;> omega) (bS (Nat.le_refl _) (bS (Nat.le_refl _) B1.out))))⟩
  · go_wp2
    first | (go_region_with (fail)) | (fail)
    all_goals
      go_wp2
      have m0 := K0.out
      have m1 := K1.out
      exact bodyPost_ret (v := .tuple #[.agg #[.int .i64 n, .int .i64 a], .int .i64 i, .int .i64 j, .int .i64 4]) (by simp [results, Try.results14, go_sem, m0, m1]) rfl ⟨n, a, i, j, 4, rfl, NN.out, AA.out, II.out, JJ.out, by unfold In64; omega, by exact bD (bA (by simp <;> omega) (bA (by simp <;> omega) (bS (Nat.le_refl _) (bS (Nat.le_refl _) B1.out))))⟩

end Go.Proofs.Ytdhdkonokbkdoaa
