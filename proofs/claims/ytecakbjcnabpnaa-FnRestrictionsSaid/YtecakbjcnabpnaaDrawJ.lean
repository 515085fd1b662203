/-
  What is drawn from a code for JoinTables.
  What is drawn from a code for JoinTables: the other lengths of the code.
  What is drawn from a code for JoinTables: the other lengths of the code.
  What is drawn from a code for JoinTables: the other lengths of the code.
  What is drawn from a code for JoinTables: the other lengths of the code.
  What is drawn from a code for JoinTables: the other lengths of the code.
-/
import Derived.Test.YtecakbjcnabpnaaDrawI

namespace Go.Proofs.Ytecakbjcnabpnaa
open Go.RowKit Plain
set_option linter.unusedVariables false
attribute [local go_sem ↓] Go.wp_at_zero Go.wp_at_succ

theorem mod7 (len : Nat) : Int.tmod (len : Int) 7 = 0 ∨ Int.tmod (len : Int) 7 = 1 ∨ Int.tmod (len : Int) 7 = 2 ∨ Int.tmod (len : Int) 7 = 3 ∨ Int.tmod (len : Int) 7 = 4 ∨ Int.tmod (len : Int) 7 = 5 ∨ Int.tmod (len : Int) 7 = 6 := by
  rw [Int.tmod_eq_emod_of_nonneg (by omega)]; omega

/-- Two tables and a number. -/
def TwoVarOut (w : World) (e : Ending) (w' : World) : Prop :=
  ∃ n a m c i : Int, e = .returned (.tuple #[.agg #[.int .i64 n, .int .i64 a], .agg #[.int .i64 m, .int .i64 c], .int .i64 i]) ∧ In64 n ∧ In64 a ∧ In64 m ∧ In64 c ∧ In64 i ∧ Below w.heap.size w w'

end Go.Proofs.Ytecakbjcnabpnaa

namespace Go.Proofs.Ytecakbjcnabpnaa
open Go.RowKit Plain
set_option linter.unusedVariables false
attribute [local go_sem ↓] Go.wp_at_zero Go.wp_at_succ

set_option maxRecDepth 100000 in
set_option maxHeartbeats 8000000 in
theorem Draw.join0 (av : Value) (len : Nat) (hm : Int.tmod (len : Int) 7 = 0) (w : World) (hc : CodeIn w av len) :
    Calls Try.prog 29 #[av] w (TwoVarOut w) := by
  have HC := Lib.hid hc
  obtain ⟨ad, cap, rfl, hlen, _⟩ := hc
  have BA := Lib.hid (((Below.refl w.heap.size w).alloc (Nat.le_refl _) (.cells #[.int .i64 0, .int .i64 0] 25)).alloc (by simp) (.cells #[.int .i64 0, .int .i64 0] 25))
  go_enter Try.func29, Try.ntmps29
  go_wp2_with fail
  refine (Draw.two _ len _ (HC.out.below BA.out)).mono ?_
  rintro e w1 ⟨n, a, m, c, rfl, hn, ha, hmm, hcc, hb1⟩
  have NN := Lib.hid hn
  have AA := Lib.hid ha
  have MM := Lib.hid hmm
  have CC := Lib.hid hcc
  have hz : w.heap.size + 1 < w1.heap.size := by have := hb1.size; simp at this; omega
  have hz0 : w.heap.size < w1.heap.size := by omega
  have X1 := Lib.hid ((hb1.block w.heap.size (by simp <;> omega)).trans (heap_alloc2_old w (.cells #[.int .i64 0, .int .i64 0] 25) (.cells #[.int .i64 0, .int .i64 0] 25)))
  have Y1 := Lib.hid ((hb1.block (w.heap.size + 1) (by simp <;> omega)).trans (heap_alloc2_new w (.cells #[.int .i64 0, .int .i64 0] 25) (.cells #[.int .i64 0, .int .i64 0] 25)))
  have B1 := Lib.hid (BA.out.trans (hb1.mono (by simp <;> omega)))
  obtain ⟨ha1, ha2, ha3, ha4, ha5, ha6⟩ : w.heap.size < w1.heap.size + 1 ∧ w.heap.size < w1.heap.size + 1 + 1 ∧ w.heap.size + 1 < w1.heap.size + 1 ∧ w.heap.size + 1 < w1.heap.size + 1 + 1 ∧ w.heap.size < w1.heap.size + 1 + 1 + 1 ∧ w.heap.size + 1 < w1.heap.size + 1 + 1 + 1 := by omega
  obtain ⟨z0, z1, g0, g1⟩ := cells2 X1.out
  obtain ⟨y0, y1, h0, h1⟩ := cells2 Y1.out
  have hlen0 : 0 ≤ (len : Int) := by omega
  have K1 := Lib.hid (twoRes (by omega) (.int .i64 n) (.int .i64 a) (.int .i64 m) (.int .i64 c) z0 z1 y0 y1)
  have z0' : ((w1.alloc (.cells #[.int .i64 n, .int .i64 a] 25)).alloc (.cells #[.int .i64 m, .int .i64 c] 25)).cell? ⟨w.heap.size, 0, none⟩ = some (.int .i64 0) := keepA (keepA z0)
  have z1' : ((w1.alloc (.cells #[.int .i64 n, .int .i64 a] 25)).alloc (.cells #[.int .i64 m, .int .i64 c] 25)).cell? ⟨w.heap.size, 1, none⟩ = some (.int .i64 0) := keepA (keepA z1)
  have y0' : ((w1.alloc (.cells #[.int .i64 n, .int .i64 a] 25)).alloc (.cells #[.int .i64 m, .int .i64 c] 25)).cell? ⟨w.heap.size + 1, 0, none⟩ = some (.int .i64 0) := keepA (keepA y0)
  have y1' : ((w1.alloc (.cells #[.int .i64 n, .int .i64 a] 25)).alloc (.cells #[.int .i64 m, .int .i64 c] 25)).cell? ⟨w.heap.size + 1, 1, none⟩ = some (.int .i64 0) := keepA (keepA y1)
  clear hn ha hmm hcc hb1
  go_wp2
  go_region_with (fail)
  all_goals
    go_wp2
    obtain ⟨k0, k1, k2, k3⟩ := K1.out
    have m0 := keepA (o := .cells #[.int .i64 0, .int .i64 1, .int .i64 2, .int .i64 3, .int .i64 4, .int .i64 (-1), .int .i64 5] 3) (keepA (o := .cells #[.int .i64 m, .int .i64 c] 25) (keepA (o := .cells #[.int .i64 n, .int .i64 a] 25) k0))
    have m1 := keepA (o := .cells #[.int .i64 0, .int .i64 1, .int .i64 2, .int .i64 3, .int .i64 4, .int .i64 (-1), .int .i64 5] 3) (keepA (o := .cells #[.int .i64 m, .int .i64 c] 25) (keepA (o := .cells #[.int .i64 n, .int .i64 a] 25) k1))
    have m2 := keepA (o := .cells #[.int .i64 0, .int .i64 1, .int .i64 2, .int .i64 3, .int .i64 4, .int .i64 (-1), .int .i64 5] 3) (keepA (o := .cells #[.int .i64 m, .int .i64 c] 25) (keepA (o := .cells #[.int .i64 n, .int .i64 a] 25) k2))
    have m3 := keepA (o := .cells #[.int .i64 0, .int .i64 1, .int .i64 2, .int .i64 3, .int .i64 4, .int .i64 (-1), .int .i64 5] 3) (keepA (o := .cells #[.int .i64 m, .int .i64 c] 25) (keepA (o := .cells #[.int .i64 n, .int .i64 a] 25) k3))
    exact bodyPost_ret (v := .tuple #[.agg #[.int .i64 n, .int .i64 a], .agg #[.int .i64 m, .int .i64 c], .int .i64 0]) (by simp [results, Try.results29, go_sem, m0, m1, m2, m3]) rfl ⟨n, a, m, c, 0, rfl, NN.out, AA.out, MM.out, CC.out, by unfold In64; omega, by exact bD (bA (by simp <;> omega) (bA (by simp <;> omega) (bA (by simp <;> omega) (bS (by dsimp only; omega) (bS (by dsimp only; omega) (bS (by dsimp only; omega) (bS (by dsimp only; omega) B1.out)))))))⟩

set_option maxRecDepth 100000 in
set_option maxHeartbeats 8000000 in
theorem Draw.join1 (av : Value) (len : Nat) (hm : Int.tmod (len : Int) 7 = 1) (w : World) (hc : CodeIn w av len) :
    Calls Try.prog 29 #[av] w (TwoVarOut w) := by
  have HC := Lib.hid hc
  obtain ⟨ad, cap, rfl, hlen, _⟩ := hc
  have BA := Lib.hid (((Below.refl w.heap.size w).alloc (Nat.le_refl _) (.cells #[.int .i64 0, .int .i64 0] 25)).alloc (by simp) (.cells #[.int .i64 0, .int .i64 0] 25))
  go_enter Try.func29, Try.ntmps29
  go_wp2_with fail
  refine (Draw.two _ len _ (HC.out.below BA.out)).mono ?_
  rintro e w1 ⟨n, a, m, c, rfl, hn, ha, hmm, hcc, hb1⟩
  have NN := Lib.hid hn
  have AA := Lib.hid ha
  have MM := Lib.hid hmm
  have CC := Lib.hid hcc
  have hz : w.heap.size + 1 < w1.heap.size := by have := hb1.size; simp at this; omega
  have hz0 : w.heap.size < w1.heap.size := by omega
  have X1 := Lib.hid ((hb1.block w.heap.size (by simp <;> omega)).trans (heap_alloc2_old w (.cells #[.int .i64 0, .int .i64 0] 25) (.cells #[.int .i64 0, .int .i64 0] 25)))
  have Y1 := Lib.hid ((hb1.block (w.heap.size + 1) (by simp <;> omega)).trans (heap_alloc2_new w (.cells #[.int .i64 0, .int .i64 0] 25) (.cells #[.int .i64 0, .int .i64 0] 25)))
  have B1 := Lib.hid (BA.out.trans (hb1.mono (by simp <;> omega)))
  obtain ⟨ha1, ha2, ha3, ha4, ha5, ha6⟩ : w.heap.size < w1.heap.size + 1 ∧ w.heap.size < w1.heap.size + 1 + 1 ∧ w.heap.size + 1 < w1.heap.size + 1 ∧ w.heap.size + 1 < w1.heap.size + 1 + 1 ∧ w.heap.size < w1.heap.size + 1 + 1 + 1 ∧ w.heap.size + 1 < w1.heap.size + 1 + 1 + 1 := by omega
  obtain ⟨z0, z1, g0, g1⟩ := cells2 X1.out
  obtain ⟨y0, y1, h0, h1⟩ := cells2 Y1.out
  have hlen0 : 0 ≤ (len : Int) := by omega
  have K1 := Lib.hid (twoRes (by omega) (.int .i64 n) (.int .i64 a) (.int .i64 m) (.int .i64 c) z0 z1 y0 y1)
  have z0' : ((w1.alloc (.cells #[.int .i64 n, .int .i64 a] 25)).alloc (.cells #[.int .i64 m, .int .i64 c] 25)).cell? ⟨w.heap.size, 0, none⟩ = some (.int .i64 0) := keepA (keepA z0)
  have z1' : ((w1.alloc (.cells #[.int .i64 n, .int .i64 a] 25)).alloc (.cells #[.int .i64 m, .int .i64 c] 25)).cell? ⟨w.heap.size, 1, none⟩ = some (.int .i64 0) := keepA (keepA z1)
  have y0' : ((w1.alloc (.cells #[.int .i64 n, .int .i64 a] 25)).alloc (.cells #[.int .i64 m, .int .i64 c] 25)).cell? ⟨w.heap.size + 1, 0, none⟩ = some (.int .i64 0) := keepA (keepA y0)
  have y1' : ((w1.alloc (.cells #[.int .i64 n, .int .i64 a] 25)).alloc (.cells #[.int .i64 m, .int .i64 c] 25)).cell? ⟨w.heap.size + 1, 1, none⟩ = some (.int .i64 0) := keepA (keepA y1)
  clear hn ha hmm hcc hb1
  go_wp2
  go_region_with (fail)
  all_goals
    go_wp2
    obtain ⟨k0, k1, k2, k3⟩ := K1.out
    have m0 := keepA (o := .cells #[.int .i64 0, .int .i64 1, .int .i64 2, .int .i64 3, .int .i64 4, .int .i64 (-1), .int .i64 5] 3) (keepA (o := .cells #[.int .i64 m, .int .i64 c] 25) (keepA (o := .cells #[.int .i64 n, .int .i64 a] 25) k0))
    have m1 := keepA (o := .cells #[.int .i64 0, .int .i64 1, .int .i64 2, .int .i64 3, .int .i64 4, .int .i64 (-1), .int .i64 5] 3) (keepA (o := .cells #[.int .i64 m, .int .i64 c] 25) (keepA (o := .cells #[.int .i64 n, .int .i64 a] 25) k1))
    have m2 := keepA (o := .cells #[.int .i64 0, .int .i64 1, .int .i64 2, .int .i64 3, .int .i64 4, .int .i64 (-1), .int .i64 5] 3) (keepA (o := .cells #[.int .i64 m, .int .i64 c] 25) (keepA (o := .cells #[.int .i64 n, .int .i64 a] 25) k2))
    have m3 := keepA (o := .cells #[.int .i64 0, .int .i64 1, .int .i64 2, .int .i64 3, .int .i64 4, .int .i64 (-1), .int .i64 5] 3) (keepA (o := .cells #[.int .i64 m, .int .i64 c] 25) (keepA (o := .cells #[.int .i64 n, .int .i64 a] 25) k3))
    exact bodyPost_ret (v := .tuple #[.agg #[.int .i64 n, .int .i64 a], .agg #[.int .i64 m, .int .i64 c], .int .i64 1]) (by simp [results, Try.results29, go_sem, m0, m1, m2, m3]) rfl ⟨n, a, m, c, 1, rfl, NN.out, AA.out, MM.out, CC.out, by unfold In64; omega, by exact bD (bA (by simp <;> omega) (bA (by simp <;> omega) (bA (by simp <;> omega) (bS (by dsimp only; omega) (bS (by dsimp only; omega) (bS (by dsimp only; omega) (bS (by dsimp only; omega) B1.out)))))))⟩

end Go.Proofs.Ytecakbjcnabpnaa

namespace Go.Proofs.Ytecakbjcnabpnaa
open Go.RowKit Plain
set_option linter.unusedVariables false
attribute [local go_sem ↓] Go.wp_at_zero Go.wp_at_succ

set_option maxRecDepth 100000 in
set_option maxHeartbeats 8000000 in
theorem Draw.join2 (av : Value) (len : Nat) (hm : Int.tmod (len : Int) 7 = 2) (w : World) (hc : CodeIn w av len) :
    Calls Try.prog 29 #[av] w (TwoVarOut w) := by
  have HC := Lib.hid hc
  obtain ⟨ad, cap, rfl, hlen, _⟩ := hc
  have BA := Lib.hid (((Below.refl w.heap.size w).alloc (Nat.le_refl _) (.cells #[.int .i64 0, .int .i64 0] 25)).alloc (by simp) (.cells #[.int .i64 0, .int .i64 0] 25))
  go_enter Try.func29, Try.ntmps29
  go_wp2_with fail
  refine (Draw.two _ len _ (HC.out.below BA.out)).mono ?_
  rintro e w1 ⟨n, a, m, c, rfl, hn, ha, hmm, hcc, hb1⟩
  have NN := Lib.hid hn
  have AA := Lib.hid ha
  have MM := Lib.hid hmm
  have CC := Lib.hid hcc
  have hz : w.heap.size + 1 < w1.heap.size := by have := hb1.size; simp at this; omega
  have hz0 : w.heap.size < w1.heap.size := by omega
  have X1 := Lib.hid ((hb1.block w.heap.size (by simp <;> omega)).trans (heap_alloc2_old w (.cells #[.int .i64 0, .int .i64 0] 25) (.cells #[.int .i64 0, .int .i64 0] 25)))
  have Y1 := Lib.hid ((hb1.block (w.heap.size + 1) (by simp <;> omega)).trans (heap_alloc2_new w (.cells #[.int .i64 0, .int .i64 0] 25) (.cells #[.int .i64 0, .int .i64 0] 25)))
  have B1 := Lib.hid (BA.out.trans (hb1.mono (by simp <;> omega)))
  obtain ⟨ha1, ha2, ha3, ha4, ha5, ha6⟩ : w.heap.size < w1.heap.size + 1 ∧ w.heap.size < w1.heap.size + 1 + 1 ∧ w.heap.size + 1 < w1.heap.size + 1 ∧ w.heap.size + 1 < w1.heap.size + 1 + 1 ∧ w.heap.size < w1.heap.size + 1 + 1 + 1 ∧ w.heap.size + 1 < w1.heap.size + 1 + 1 + 1 := by omega
  obtain ⟨z0, z1, g0, g1⟩ := cells2 X1.out
  obtain ⟨y0, y1, h0, h1⟩ := cells2 Y1.out
  have hlen0 : 0 ≤ (len : Int) := by omega
  have K1 := Lib.hid (twoRes (by omega) (.int .i64 n) (.int .i64 a) (.int .i64 m) (.int .i64 c) z0 z1 y0 y1)
  have z0' : ((w1.alloc (.cells #[.int .i64 n, .int .i64 a] 25)).alloc (.cells #[.int .i64 m, .int .i64 c] 25)).cell? ⟨w.heap.size, 0, none⟩ = some (.int .i64 0) := keepA (keepA z0)
  have z1' : ((w1.alloc (.cells #[.int .i64 n, .int .i64 a] 25)).alloc (.cells #[.int .i64 m, .int .i64 c] 25)).cell? ⟨w.heap.size, 1, none⟩ = some (.int .i64 0) := keepA (keepA z1)
  have y0' : ((w1.alloc (.cells #[.int .i64 n, .int .i64 a] 25)).alloc (.cells #[.int .i64 m, .int .i64 c] 25)).cell? ⟨w.heap.size + 1, 0, none⟩ = some (.int .i64 0) := keepA (keepA y0)
  have y1' : ((w1.alloc (.cells #[.int .i64 n, .int .i64 a] 25)).alloc (.cells #[.int .i64 m, .int .i64 c] 25)).cell? ⟨w.heap.size + 1, 1, none⟩ = some (.int .i64 0) := keepA (keepA y1)
  clear hn ha hmm hcc hb1
  go_wp2
  go_region_with (fail)
  all_goals
    go_wp2
    obtain ⟨k0, k1, k2, k3⟩ := K1.out
    have m0 := keepA (o := .cells #[.int .i64 0, .int .i64 1, .int .i64 2, .int .i64 3, .int .i64 4, .int .i64 (-1), .int .i64 5] 3) (keepA (o := .cells #[.int .i64 m, .int .i64 c] 25) (keepA (o := .cells #[.int .i64 n, .int .i64 a] 25) k0))
    have m1 := keepA (o := .cells #[.int .i64 0, .int .i64 1, .int .i64 2, .int .i64 3, .int .i64 4, .int .i64 (-1), .int .i64 5] 3) (keepA (o := .cells #[.int .i64 m, .int .i64 c] 25) (keepA (o := .cells #[.int .i64 n, .int .i64 a] 25) k1))
    have m2 := keepA (o := .cells #[.int .i64 0, .int .i64 1, .int .i64 2, .int .i64 3, .int .i64 4, .int .i64 (-1), .int .i64 5] 3) (keepA (o := .cells #[.int .i64 m, .int .i64 c] 25) (keepA (o := .cells #[.int .i64 n, .int .i64 a] 25) k2))
    have m3 := keepA (o := .cells #[.int .i64 0, .int .i64 1, .int .i64 2, .int .i64 3, .int .i64 4, .int .i64 (-1), .int .i64 5] 3) (keepA (o := .cells #[.int .i64 m, .int .i64 c] 25) (keepA (o := .cells #[.int .i64 n, .int .i64 a] 25) k3))
    exact bodyPost_ret (v := .tuple #[.agg #[.int .i64 n, .int .i64 a], .agg #[.int .i64 m, .int .i64 c], .int .i64 2]) (by simp [results, Try.results29, go_sem, m0, m1, m2, m3]) rfl ⟨n, a, m, c, 2, rfl, NN.out, AA.out, MM.out, CC.out, by unfold In64; omega, by exact bD (bA (by simp <;> omega) (bA (by simp <;> omega) (bA (by simp <;> omega) (bS (by dsimp only; omega) (bS (by dsimp only; omega) (bS (by dsimp only; omega) (bS (by dsimp only; omega) B1.out)))))))⟩

set_option maxRecDepth 100000 in
set_option maxHeartbeats 8000000 in
theorem Draw.join3 (av : Value) (len : Nat) (hm : Int.tmod (len : Int) 7 = 3) (w : World) (hc : CodeIn w av len) :
    Calls Try.prog 29 #[av] w (TwoVarOut w) := by
  have HC := Lib.hid hc
  obtain ⟨ad, cap, rfl, hlen, _⟩ := hc
  have BA := Lib.hid (((Below.refl w.heap.size w).alloc (Nat.le_refl _) (.cells #[.int .i64 0, .int .i64 0] 25)).alloc (by simp) (.cells #[.int .i64 0, .int .i64 0] 25))
  go_enter Try.func29, Try.ntmps29
  go_wp2_with fail
  refine (Draw.two _ len _ (HC.out.below BA.out)).mono ?_
  rintro e w1 ⟨n, a, m, c, rfl, hn, ha, hmm, hcc, hb1⟩
  have NN := Lib.hid hn
  have AA := Lib.hid ha
  have MM := Lib.hid hmm
  have CC := Lib.hid hcc
  have hz : w.heap.size + 1 < w1.heap.size := by have := hb1.size; simp at this; omega
  have hz0 : w.heap.size < w1.heap.size := by omega
  have X1 := Lib.hid ((hb1.block w.heap.size (by simp <;> omega)).trans (heap_alloc2_old w (.cells #[.int .i64 0, .int .i64 0] 25) (.cells #[.int .i64 0, .int .i64 0] 25)))
  have Y1 := Lib.hid ((hb1.block (w.heap.size + 1) (by simp <;> omega)).trans (heap_alloc2_new w (.cells #[.int .i64 0, .int .i64 0] 25) (.cells #[.int .i64 0, .int .i64 0] 25)))
  have B1 := Lib.hid (BA.out.trans (hb1.mono (by simp <;> omega)))
  obtain ⟨ha1, ha2, ha3, ha4, ha5, ha6⟩ : w.heap.size < w1.heap.size + 1 ∧ w.heap.size < w1.heap.size + 1 + 1 ∧ w.heap.size + 1 < w1.heap.size + 1 ∧ w.heap.size + 1 < w1.heap.size + 1 + 1 ∧ w.heap.size < w1.heap.size + 1 + 1 + 1 ∧ w.heap.size + 1 < w1.heap.size + 1 + 1 + 1 := by omega
  obtain ⟨z0, z1, g0, g1⟩ := cells2 X1.out
  obtain ⟨y0, y1, h0, h1⟩ := cells2 Y1.out
  have hlen0 : 0 ≤ (len : Int) := by omega
  have K1 := Lib.hid (twoRes (by omega) (.int .i64 n) (.int .i64 a) (.int .i64 m) (.int .i64 c) z0 z1 y0 y1)
  have z0' : ((w1.alloc (.cells #[.int .i64 n, .int .i64 a] 25)).alloc (.cells #[.int .i64 m, .int .i64 c] 25)).cell? ⟨w.heap.size, 0, none⟩ = some (.int .i64 0) := keepA (keepA z0)
  have z1' : ((w1.alloc (.cells #[.int .i64 n, .int .i64 a] 25)).alloc (.cells #[.int .i64 m, .int .i64 c] 25)).cell? ⟨w.heap.size, 1, none⟩ = some (.int .i64 0) := keepA (keepA z1)
  have y0' : ((w1.alloc (.cells #[.int .i64 n, .int .i64 a] 25)).alloc (.cells #[.int .i64 m, .int .i64 c] 25)).cell? ⟨w.heap.size + 1, 0, none⟩ = some (.int .i64 0) := keepA (keepA y0)
  have y1' : ((w1.alloc (.cells #[.int .i64 n, .int .i64 a] 25)).alloc (.cells #[.int .i64 m, .int .i64 c] 25)).cell? ⟨w.heap.size + 1, 1, none⟩ = some (.int .i64 0) := keepA (keepA y1)
  clear hn ha hmm hcc hb1
  go_wp2
  go_region_with (fail)
  all_goals
    go_wp2
    obtain ⟨k0, k1, k2, k3⟩ := K1.out
    have m0 := keepA (o := .cells #[.int .i64 0, .int .i64 1, .int .i64 2, .int .i64 3, .int .i64 4, .int .i64 (-1), .int .i64 5] 3) (keepA (o := .cells #[.int .i64 m, .int .i64 c] 25) (keepA (o := .cells #[.int .i64 n, .int .i64 a] 25) k0))
    have m1 := keepA (o := .cells #[.int .i64 0, .int .i64 1, .int .i64 2, .int .i64 3, .int .i64 4, .int .i64 (-1), .int .i64 5] 3) (keepA (o := .cells #[.int .i64 m, .int .i64 c] 25) (keepA (o := .cells #[.int .i64 n, .int .i64 a] 25) k1))
    have m2 := keepA (o := .cells #[.int .i64 0, .int .i64 1, .int .i64 2, .int .i64 3, .int .i64 4, .int .i64 (-1), .int .i64 5] 3) (keepA (o := .cells #[.int .i64 m, .int .i64 c] 25) (keepA (o := .cells #[.int .i64 n, .int .i64 a] 25) k2))
    have m3 := keepA (o := .cells #[.int .i64 0, .int .i64 1, .int .i64 2, .int .i64 3, .int .i64 4, .int .i64 (-1), .int .i64 5] 3) (keepA (o := .cells #[.int .i64 m, .int .i64 c] 25) (keepA (o := .cells #[.int .i64 n, .int .i64 a] 25) k3))
    exact bodyPost_ret (v := .tuple #[.agg #[.int .i64 n, .int .i64 a], .agg #[.int .i64 m, .int .i64 c], .int .i64 3]) (by simp [results, Try.results29, go_sem, m0, m1, m2, m3]) rfl ⟨n, a, m, c, 3, rfl, NN.out, AA.out, MM.out, CC.out, by unfold In64; omega, by exact bD (bA (by simp <;> omega) (bA (by simp <;> omega) (bA (by simp <;> omega) (bS (by dsimp only; omega) (bS (by dsimp only; omega) (bS (by dsimp only; omega) (bS (by dsimp only; omega) B1.out)))))))⟩

end Go.Proofs.Ytecakbjcnabpnaa

namespace Go.Proofs.Ytecakbjcnabpnaa
open Go.RowKit Plain
set_option linter.unusedVariables false
attribute [local go_sem ↓] Go.wp_at_zero Go.wp_at_succ

set_option maxRecDepth 100000 in
set_option maxHeartbeats 8000000 in
theorem Draw.join4 (av : Value) (len : Nat) (hm : Int.tmod (len : Int) 7 = 4) (w : World) (hc : CodeIn w av len) :
    Calls Try.prog 29 #[av] w (TwoVarOut w) := by
  have HC := Lib.hid hc
  obtain ⟨ad, cap, rfl, hlen, _⟩ := hc
  have BA := Lib.hid (((Below.refl w.heap.size w).alloc (Nat.le_refl _) (.cells #[.int .i64 0, .int .i64 0] 25)).alloc (by simp) (.cells #[.int .i64 0, .int .i64 0] 25))
  go_enter Try.func29, Try.ntmps29
  go_wp2_with fail
  refine (Draw.two _ len _ (HC.out.below BA.out)).mono ?_
  rintro e w1 ⟨n, a, m, c, rfl, hn, ha, hmm, hcc, hb1⟩
  have NN := Lib.hid hn
  have AA := Lib.hid ha
  have MM := Lib.hid hmm
  have CC := Lib.hid hcc
  have hz : w.heap.size + 1 < w1.heap.size := by have := hb1.size; simp at this; omega
  have hz0 : w.heap.size < w1.heap.size := by omega
  have X1 := Lib.hid ((hb1.block w.heap.size (by simp <;> omega)).trans (heap_alloc2_old w (.cells #[.int .i64 0, .int .i64 0] 25) (.cells #[.int .i64 0, .int .i64 0] 25)))
  have Y1 := Lib.hid ((hb1.block (w.heap.size + 1) (by simp <;> omega)).trans (heap_alloc2_new w (.cells #[.int .i64 0, .int .i64 0] 25) (.cells #[.int .i64 0, .int .i64 0] 25)))
  have B1 := Lib.hid (BA.out.trans (hb1.mono (by simp <;> omega)))
  obtain ⟨ha1, ha2, ha3, ha4, ha5, ha6⟩ : w.heap.size < w1.heap.size + 1 ∧ w.heap.size < w1.heap.size + 1 + 1 ∧ w.heap.size + 1 < w1.heap.size + 1 ∧ w.heap.size + 1 < w1.heap.size + 1 + 1 ∧ w.heap.size < w1.heap.size + 1 + 1 + 1 ∧ w.heap.size + 1 < w1.heap.size + 1 + 1 + 1 := by omega
  obtain ⟨z0, z1, g0, g1⟩ := cells2 X1.out
  obtain ⟨y0, y1, h0, h1⟩ := cells2 Y1.out
  have hlen0 : 0 ≤ (len : Int) := by omega
  have K1 := Lib.hid (twoRes (by omega) (.int .i64 n) (.int .i64 a) (.int .i64 m) (.int .i64 c) z0 z1 y0 y1)
  have z0' : ((w1.alloc (.cells #[.int .i64 n, .int .i64 a] 25)).alloc (.cells #[.int .i64 m, .int .i64 c] 25)).cell? ⟨w.heap.size, 0, none⟩ = some (.int .i64 0) := keepA (keepA z0)
  have z1' : ((w1.alloc (.cells #[.int .i64 n, .int .i64 a] 25)).alloc (.cells #[.int .i64 m, .int .i64 c] 25)).cell? ⟨w.heap.size, 1, none⟩ = some (.int .i64 0) := keepA (keepA z1)
  have y0' : ((w1.alloc (.cells #[.int .i64 n, .int .i64 a] 25)).alloc (.cells #[.int .i64 m, .int .i64 c] 25)).cell? ⟨w.heap.size + 1, 0, none⟩ = some (.int .i64 0) := keepA (keepA y0)
  have y1' : ((w1.alloc (.cells #[.int .i64 n, .int .i64 a] 25)).alloc (.cells #[.int .i64 m, .int .i64 c] 25)).cell? ⟨w.heap.size + 1, 1, none⟩ = some (.int .i64 0) := keepA (keepA y1)
  clear hn ha hmm hcc hb1
  go_wp2
  go_region_with (fail)
  all_goals
    go_wp2
    obtain ⟨k0, k1, k2, k3⟩ := K1.out
    have m0 := keepA (o := .cells #[.int .i64 0, .int .i64 1, .int .i64 2, .int .i64 3, .int .i64 4, .int .i64 (-1), .int .i64 5] 3) (keepA (o := .cells #[.int .i64 m, .int .i64 c] 25) (keepA (o := .cells #[.int .i64 n, .int .i64 a] 25) k0))
    have m1 := keepA (o := .cells #[.int .i64 0, .int .i64 1, .int .i64 2, .int .i64 3, .int .i64 4, .int .i64 (-1), .int .i64 5] 3) (keepA (o := .cells #[.int .i64 m, .int .i64 c] 25) (keepA (o := .cells #[.int .i64 n, .int .i64 a] 25) k1))
    have m2 := keepA (o := .cells #[.int .i64 0, .int .i64 1, .int .i64 2, .int .i64 3, .int .i64 4, .int .i64 (-1), .int .i64 5] 3) (keepA (o := .cells #[.int .i64 m, .int .i64 c] 25) (keepA (o := .cells #[.int .i64 n, .int .i64 a] 25) k2))
    have m3 := keepA (o := .cells #[.int .i64 0, .int .i64 1, .int .i64 2, .int .i64 3, .int .i64 4, .int .i64 (-1), .int .i64 5] 3) (keepA (o := .cells #[.int .i64 m, .int .i64 c] 25) (keepA (o := .cells #[.int .i64 n, .int .i64 a] 25) k3))
    exact bodyPost_ret (v := .tuple #[.agg #[.int .i64 n, .int .i64 a], .agg #[.int .i64 m, .int .i64 c], .int .i64 4]) (by simp [results, Try.results29, go_sem, m0, m1, m2, m3]) rfl ⟨n, a, m, c, 4, rfl, NN.out, AA.out, MM.out, CC.out, by unfold In64; omega, by exact bD (bA (by simp <;> omega) (bA (by simp <;> omega) (bA (by simp <;> omega) (bS (by dsimp only; omega) (bS (by dsimp only; omega) (bS (by dsimp only; omega) (bS (by dsimp only; omega) B1.out)))))))⟩

set_option maxRecDepth 100000 in
set_option maxHeartbeats 8000000 in
theorem Draw.join5 (av : Value) (len : Nat) (hm : Int.tmod (len : Int) 7 = 5) (w : World) (hc : CodeIn w av len) :
    Calls Try.prog 29 #[av] w (TwoVarOut w) := by
  have HC := Lib.hid hc
  obtain ⟨ad, cap, rfl, hlen, _⟩ := hc
  have BA := Lib.hid (((Below.refl w.heap.size w).alloc (Nat.le_refl _) (.cells #[.int .i64 0, .int .i64 0] 25)).alloc (by simp) (.cells #[.int .i64 0, .int .i64 0] 25))
  go_enter Try.func29, Try.ntmps29
  go_wp2_with fail
  refine (Draw.two _ len _ (HC.out.below BA.out)).mono ?_
  rintro e w1 ⟨n, a, m, c, rfl, hn, ha, hmm, hcc, hb1⟩
  have NN := Lib.hid hn
  have AA := Lib.hid ha
  have MM := Lib.hid hmm
  have CC := Lib.hid hcc
  have hz : w.heap.size + 1 < w1.heap.size := by have := hb1.size; simp at this; omega
  have hz0 : w.heap.size < w1.heap.size := by omega
  have X1 := Lib.hid ((hb1.block w.heap.size (by simp <;> omega)).trans (heap_alloc2_old w (.cells #[.int .i64 0, .int .i64 0] 25) (.cells #[.int .i64 0, .int .i64 0] 25)))
  have Y1 := Lib.hid ((hb1.block (w.heap.size + 1) (by simp <;> omega)).trans (heap_alloc2_new w (.cells #[.int .i64 0, .int .i64 0] 25) (.cells #[.int .i64 0, .int .i64 0] 25)))
  have B1 := Lib.hid (BA.out.trans (hb1.mono (by simp <;> omega)))
  obtain ⟨ha1, ha2, ha3, ha4, ha5, ha6⟩ : w.heap.size < w1.heap.size + 1 ∧ w.heap.size < w1.heap.size + 1 + 1 ∧ w.heap.size + 1 < w1.heap.size + 1 ∧ w.heap.size + 1 < w1.heap.size + 1 + 1 ∧ w.heap.size < w1.heap.size + 1 + 1 + 1 ∧ w.heap.size + 1 < w1.heap.size + 1 + 1 + 1 := by omega
  obtain ⟨z0, z1, g0, g1⟩ := cells2 X1.out
  obtain ⟨y0, y1, h0, h1⟩ := cells2 Y1.out
  have hlen0 : 0 ≤ (len : Int) := by omega
  have K1 := Lib.hid (twoRes (by omega) (.int .i64 n) (.int .i64 a) (.int .i64 m) (.int .i64 c) z0 z1 y0 y1)
  have z0' : ((w1.alloc (.cells #[.int .i64 n, .int .i64 a] 25)).alloc (.cells #[.int .i64 m, .int .i64 c] 25)).cell? ⟨w.heap.size, 0, none⟩ = some (.int .i64 0) := keepA (keepA z0)
  have z1' : ((w1.alloc (.cells #[.int .i64 n, .int .i64 a] 25)).alloc (.cells #[.int .i64 m, .int .i64 c] 25)).cell? ⟨w.heap.size, 1, none⟩ = some (.int .i64 0) := keepA (keepA z1)
  have y0' : ((w1.alloc (.cells #[.int .i64 n, .int .i64 a] 25)).alloc (.cells #[.int .i64 m, .int .i64 c] 25)).cell? ⟨w.heap.size + 1, 0, none⟩ = some (.int .i64 0) := keepA (keepA y0)
  have y1' : ((w1.alloc (.cells #[.int .i64 n, .int .i64 a] 25)).alloc (.cells #[.int .i64 m, .int .i64 c] 25)).cell? ⟨w.heap.size + 1, 1, none⟩ = some (.int .i64 0) := keepA (keepA y1)
  clear hn ha hmm hcc hb1
  go_wp2
  go_region_with (fail)
  all_goals
    go_wp2
    obtain ⟨k0, k1, k2, k3⟩ := K1.out
    have m0 := keepA (o := .cells #[.int .i64 0, .int .i64 1, .int .i64 2, .int .i64 3, .int .i64 4, .int .i64 (-1), .int .i64 5] 3) (keepA (o := .cells #[.int .i64 m, .int .i64 c] 25) (keepA (o := .cells #[.int .i64 n, .int .i64 a] 25) k0))
    have m1 := keepA (o := .cells #[.int .i64 0, .int .i64 1, .int .i64 2, .int .i64 3, .int .i64 4, .int .i64 (-1), .int .i64 5] 3) (keepA (o := .cells #[.int .i64 m, .int .i64 c] 25) (keepA (o := .cells #[.int .i64 n, .int .i64 a] 25) k1))
    have m2 := keepA (o := .cells #[.int .i64 0, .int .i64 1, .int .i64 2, .int .i64 3, .int .i64 4, .int .i64 (-1), .int .i64 5] 3) (keepA (o := .cells #[.int .i64 m, .int .i64 c] 25) (keepA (o := .cells #[.int .i64 n, .int .i64 a] 25) k2))
    have m3 := keepA (o := .cells #[.int .i64 0, .int .i64 1, .int .i64 2, .int .i64 3, .int .i64 4, .int .i64 (-1), .int .i64 5] 3) (keepA (o := .cells #[.int .i64 m, .int .i64 c] 25) (keepA (o := .cells #[.int .i64 n, .int .i64 a] 25) k3))
    exact bodyPost_ret (v := .tuple #[.agg #[.int .i64 n, .int .i64 a], .agg #[.int .i64 m, .int .i64 c], .int .i64 (-1)]) (by simp [results, Try.results29, go_sem, m0, m1, m2, m3]) rfl ⟨n, a, m, c, (-1), rfl, NN.out, AA.out, MM.out, CC.out, by unfold In64; omega, by exact bD (bA (by simp <;> omega) (bA (by simp <;> omega) (bA (by simp <;> omega) (bS (by dsimp only; omega) (bS (by dsimp only; omega) (bS (by dsimp only; omega) (bS (by dsimp only; omega) B1.out)))))))⟩

end Go.Proofs.Ytecakbjcnabpnaa

namespace Go.Proofs.Ytecakbjcnabpnaa
open Go.RowKit Plain
set_option linter.unusedVariables false
attribute [local go_sem ↓] Go.wp_at_zero Go.wp_at_succ

set_option maxRecDepth 100000 in
set_option maxHeartbeats 8000000 in
theorem Draw.join6 (av : Value) (len : Nat) (hm : Int.tmod (len : Int) 7 = 6) (w : World) (hc : CodeIn w av len) :
    Calls Try.prog 29 #[av] w (TwoVarOut w) := by
  have HC := Lib.hid hc
  obtain ⟨ad, cap, rfl, hlen, _⟩ := hc
  have BA := Lib.hid (((Below.refl w.heap.size w).alloc (Nat.le_refl _) (.cells #[.int .i64 0, .int .i64 0] 25)).alloc (by simp) (.cells #[.int .i64 0, .int .i64 0] 25))
  go_enter Try.func29, Try.ntmps29
  go_wp2_with fail
  refine (Draw.two _ len _ (HC.out.below BA.out)).mono ?_
  rintro e w1 ⟨n, a, m, c, rfl, hn, ha, hmm, hcc, hb1⟩
  have NN := Lib.hid hn
  have AA := Lib.hid ha
  have MM := Lib.hid hmm
  have CC := Lib.hid hcc
  have hz : w.heap.size + 1 < w1.heap.size := by have := hb1.size; simp at this; omega
  have hz0 : w.heap.size < w1.heap.size := by omega
  have X1 := Lib.hid ((hb1.block w.heap.size (by simp <;> omega)).trans (heap_alloc2_old w (.cells #[.int .i64 0, .int .i64 0] 25) (.cells #[.int .i64 0, .int .i64 0] 25)))
  have Y1 := Lib.hid ((hb1.block (w.heap.size + 1) (by simp <;> omega)).trans (heap_alloc2_new w (.cells #[.int .i64 0, .int .i64 0] 25) (.cells #[.int .i64 0, .int .i64 0] 25)))
  have B1 := Lib.hid (BA.out.trans (hb1.mono (by simp <;> omega)))
  obtain ⟨ha1, ha2, ha3, ha4, ha5, ha6⟩ : w.heap.size < w1.heap.size + 1 ∧ w.heap.size < w1.heap.size + 1 + 1 ∧ w.heap.size + 1 < w1.heap.size + 1 ∧ w.heap.size + 1 < w1.heap.size + 1 + 1 ∧ w.heap.size < w1.heap.size + 1 + 1 + 1 ∧ w.heap.size + 1 < w1.heap.size + 1 + 1 + 1 := by omega
  obtain ⟨z0, z1, g0, g1⟩ := cells2 X1.out
  obtain ⟨y0, y1, h0, h1⟩ := cells2 Y1.out
  have hlen0 : 0 ≤ (len : Int) := by omega
  have K1 := Lib.hid (twoRes (by omega) (.int .i64 n) (.int .i64 a) (.int .i64 m) (.int .i64 c) z0 z1 y0 y1)
  have z0' : ((w1.alloc (.cells #[.int .i64 n, .int .i64 a] 25)).alloc (.cells #[.int .i64 m, .int .i64 c] 25)).cell? ⟨w.heap.size, 0, none⟩ = some (.int .i64 0) := keepA (keepA z0)
  have z1' : ((w1.alloc (.cells #[.int .i64 n, .int .i64 a] 25)).alloc (.cells #[.int .i64 m, .int .i64 c] 25)).cell? ⟨w.heap.size, 1, none⟩ = some (.int .i64 0) := keepA (keepA z1)
  have y0' : ((w1.alloc (.cells #[.int .i64 n, .int .i64 a] 25)).alloc (.cells #[.int .i64 m, .int .i64 c] 25)).cell? ⟨w.heap.size + 1, 0, none⟩ = some (.int .i64 0) := keepA (keepA y0)
  have y1' : ((w1.alloc (.cells #[.int .i64 n, .int .i64 a] 25)).alloc (.cells #[.int .i64 m, .int .i64 c] 25)).cell? ⟨w.heap.size + 1, 1, none⟩ = some (.int .i64 0) := keepA (keepA y1)
  clear hn ha hmm hcc hb1
  go_wp2
  go_region_with (fail)
  all_goals
    go_wp2
    obtain ⟨k0, k1, k2, k3⟩ := K1.out
    have m0 := keepA (o := .cells #[.int .i64 0, .int .i64 1, .int .i64 2, .int .i64 3, .int .i64 4, .int .i64 (-1), .int .i64 5] 3) (keepA (o := .cells #[.int .i64 m, .int .i64 c] 25) (keepA (o := .cells #[.int .i64 n, .int .i64 a] 25) k0))
    have m1 := keepA (o := .cells #[.int .i64 0, .int .i64 1, .int .i64 2, .int .i64 3, .int .i64 4, .int .i64 (-1), .int .i64 5] 3) (keepA (o := .cells #[.int .i64 m, .int .i64 c] 25) (keepA (o := .cells #[.int .i64 n, .int .i64 a] 25) k1))
    have m2 := keepA (o := .cells #[.int .i64 0, .int .i64 1, .int .i64 2, .int .i64 3, .int .i64 4, .int .i64 (-1), .int .i64 5] 3) (keepA (o := .cells #[.int .i64 m, .int .i64 c] 25) (keepA (o := .cells #[.int .i64 n, .int .i64 a] 25) k2))
    have m3 := keepA (o := .cells #[.int .i64 0, .int .i64 1, .int .i64 2, .int .i64 3, .int .i64 4, .int .i64 (-1), .int .i64 5] 3) (keepA (o := .cells #[.int .i64 m, .int .i64 c] 25) (keepA (o := .cells #[.int .i64 n, .int .i64 a] 25) k3))
    exact bodyPost_ret (v := .tuple #[.agg #[.int .i64 n, .int .i64 a], .agg #[.int .i64 m, .int .i64 c], .int .i64 5]) (by simp [results, Try.results29, go_sem, m0, m1, m2, m3]) rfl ⟨n, a, m, c, 5, rfl, NN.out, AA.out, MM.out, CC.out, by unfold In64; omega, by exact bD (bA (by simp <;> omega) (bA (by simp <;> omega) (bA (by simp <;> omega) (bS (by dsimp only; omega) (bS (by dsimp only; omega) (bS (by dsimp only; omega) (bS (by dsimp only; omega) B1.out)))))))⟩

end Go.Proofs.Ytecakbjcnabpnaa

namespace Go.Proofs.Ytecakbjcnabpnaa
open Go.RowKit Plain
set_option linter.unusedVariables false
attribute [local go_sem ↓] Go.wp_at_zero Go.wp_at_succ

theorem Draw.join (av : Value) (len : Nat) (w : World) (hc : CodeIn w av len) :
    Calls Try.prog 29 #[av] w (TwoVarOut w) := by
  rcases mod7 len with hm | hm | hm | hm | hm | hm | hm
  · exact Draw.join0 av len hm w hc
  · exact Draw.join1 av len hm w hc
  · exact Draw.join2 av len hm w hc
  · exact Draw.join3 av len hm w hc
  · exact Draw.join4 av len hm w hc
  · exact Draw.join5 av len hm w hc
  · exact Draw.join6 av len hm w hc
end Go.Proofs.Ytecakbjcnabpnaa
