/-
  Chapter 7: the least cost of the program (split, leastCost, LeastDepth, LeastAverage).
-/
import Derived.Test.YtdhdkonokbkdoaaGreatDoorLdN
import Derived.Test.YtdhdkonokbkdoaaGreatDoorResE
namespace Go.Proofs.YtdhdkonokbkdoaaGreatDoor
open Go.RowKit Plain
set_option linter.unusedVariables false

theorem quad_cells {w : World} {b : Nat} {x0 x1 x2 x3 : Value} {T : TypeId} (h : w.heap[b]? = some (.cells #[x0, x1, x2, x3] T (0, 0))) :
    w.cell? ⟨b, 0, none⟩ = some x0 ∧ w.cell? ⟨b, 1, none⟩ = some x1 ∧ w.cell? ⟨b, 2, none⟩ = some x2 ∧ w.cell? ⟨b, 3, none⟩ = some x3 := by
  refine ⟨?_, ?_, ?_, ?_⟩ <;> (rw [cell_of_row w b _ _ _ (0, 0) h]; rfl)
theorem quad_put {w : World} {b : Nat} {x0 x1 x2 x3 : Value} {T : TypeId} (h : w.heap[b]? = some (.cells #[x0, x1, x2, x3] T (0, 0))) (y0 y1 y2 y3 : Value) :
    ((((w.setCell ⟨b, 0, none⟩ y0).setCell ⟨b, 1, none⟩ y1).setCell ⟨b, 2, none⟩ y2).setCell ⟨b, 3, none⟩ y3).heap[b]? = some (.cells #[y0, y1, y2, y3] T (0, 0)) := by
  have h0 : (w.setCell ⟨b, 0, none⟩ y0).heap[b]? = some (.cells #[y0, x1, x2, x3] T (0, 0)) := by rw [heap_setCell_same w b 0 _ _ y0 h]; rfl
  have h1 : ((w.setCell ⟨b, 0, none⟩ y0).setCell ⟨b, 1, none⟩ y1).heap[b]? = some (.cells #[y0, y1, x2, x3] T (0, 0)) := by rw [heap_setCell_same _ b 1 _ _ y1 h0]; rfl
  have h2 : (((w.setCell ⟨b, 0, none⟩ y0).setCell ⟨b, 1, none⟩ y1).setCell ⟨b, 2, none⟩ y2).heap[b]? = some (.cells #[y0, y1, y2, x3] T (0, 0)) := by rw [heap_setCell_same _ b 2 _ _ y2 h1]; rfl
  rw [heap_setCell_same _ b 3 _ _ y3 h2]; rfl

/-- RestrictTable, the case that split needs. -/
theorem Sp.rest (n a i b : Nat) (hn : n ≤ 4) (ha : a ≤ fullN (n + 1)) (hi : i < n + 1) (hb : b ≤ 1) (w : World) :
    Calls Tryz.prog 78 #[.agg #[.int .i64 ((n + 1 : Nat) : Int), .int .i64 a], .int .i64 i, .int .i64 b] w fun e w' => e = .returned (.tuple #[.agg #[.int .i64 (n : Int), .int .i64 (restW (n + 1) a i b : Int)], .bool true]) ∧ Below w.heap.size w w' := by
  have := Tab.resI_yes (n + 1) a i b (by omega) (isT_yes (by omega) ha) (by have := fullN_le (n + 1) (by omega); omega) (by omega) (by omega) w
  have e : ((n + 1 : Nat) : Int) - 1 = (n : Int) := by omega
  rw [e] at this
  exact this

set_option maxRecDepth 100000 in
set_option maxHeartbeats 2000000 in
/-- split. -/
theorem Sp.any (n a i : Nat) (hn : n ≤ 4) (ha : a ≤ fullN (n + 1)) (hi : i < n + 1) (w : World) :
    Calls Tryz.prog 58 #[.agg #[.int .i64 ((n + 1 : Nat) : Int), .int .i64 a], .int .i64 i] w fun e w' => e = .returned (.agg #[.int .i64 (n : Int), .int .i64 (restW (n + 1) a i 0 : Int), .int .i64 (n : Int), .int .i64 (restW (n + 1) a i 1 : Int)]) ∧ Below w.heap.size w w' := by
  have H0 : Hid (∀ w, Calls Tryz.prog 78 #[.agg #[.int .i64 ((n + 1 : Nat) : Int), .int .i64 a], .int .i64 i, .int .i64 0] w fun e w' => e = .returned (.tuple #[.agg #[.int .i64 (n : Int), .int .i64 (restW (n + 1) a i 0 : Int)], .bool true]) ∧ Below w.heap.size w w') := Lib.hid fun w => Sp.rest n a i 0 hn ha hi (by decide) w
  have H1 : Hid (∀ w, Calls Tryz.prog 78 #[.agg #[.int .i64 ((n + 1 : Nat) : Int), .int .i64 a], .int .i64 i, .int .i64 1] w fun e w' => e = .returned (.tuple #[.agg #[.int .i64 (n : Int), .int .i64 (restW (n + 1) a i 1 : Int)], .bool true]) ∧ Below w.heap.size w w') := Lib.hid fun w => Sp.rest n a i 1 hn ha hi (by decide) w
  generalize restW (n + 1) a i 0 = r0 at *
  generalize restW (n + 1) a i 1 = r1 at *
  clear ha hi hn
  generalize ((n + 1 : Nat) : Int) = q at *
  go_enter Tryz.func58, Tryz.ntmps58
  go_wp2_with fail
  refine (H0.out _).mono ?_
  rintro e w1 ⟨rfl, hb1⟩
  have X1 : w1.heap[w.heap.size]? = some (.cells #[.int .i64 q, .int .i64 (a : Int)] 25 (0, 0)) := blockB hb1 ((heap_alloc_old _ _ (by simp)).trans (heap_alloc_new w _))
  have Y1 : w1.heap[w.heap.size + 1]? = some (.cells #[.int .i64 0, .int .i64 0, .int .i64 0, .int .i64 0] 72 (0, 0)) := blockB hb1 (by have := heap_alloc_new (w.alloc (.cells #[.int .i64 q, .int .i64 (a : Int)] 25)) (.cells #[.int .i64 0, .int .i64 0, .int .i64 0, .int .i64 0] 72 (0, 0)); rw [World.size_alloc] at this; exact this)
  obtain ⟨c0, c1, f0, f1⟩ := cells2 X1
  have hs1 : w.heap.size + 1 < w1.heap.size := lt_of_block Y1
  have hs0 : w.heap.size < w1.heap.size := lt_of_block X1
  have HX1 := Lib.hid X1
  have HY1 := Lib.hid Y1
  have HB1 := Lib.hid hb1
  clear X1 Y1 hb1
  go_wp2_with fail
  refine (H1.out _).mono ?_
  rintro e w2 ⟨rfl, hb2⟩
  have X2 := blockB hb2 ((heap_alloc_old w1 _ hs0).trans HX1.out)
  have Y2 := blockB hb2 ((heap_alloc_old w1 _ hs1).trans HY1.out)
  have Z2 := blockB hb2 (heap_alloc_new w1 (.cells #[.int .i64 (n : Int), .int .i64 (r0 : Int)] 25 (0, 0)))
  obtain ⟨z0, z1, g0, g1⟩ := cells2 Z2
  obtain ⟨q0, q1, q2, q3⟩ := quad_cells Y2
  have g2 := frozen_of_row w2 (w.heap.size + 1) 0 _ _ Y2
  have g3 := frozen_of_row w2 (w.heap.size + 1) 1 _ _ Y2
  have g4 := frozen_of_row w2 (w.heap.size + 1) 2 _ _ Y2
  have g5 := frozen_of_row w2 (w.heap.size + 1) 3 _ _ Y2
  have hs2 : w1.heap.size < w2.heap.size := lt_of_block Z2
  have hs3 : w.heap.size + 1 < w2.heap.size := lt_of_block Y2
  have HY2 := Lib.hid Y2
  have HB2 := Lib.hid hb2
  clear X2 Y2 Z2 hb2 c0 c1 f0 f1
  go_wp2
  obtain ⟨k0, k1, k2, k3⟩ := quad_cells (quad_put HY2.out (.int .i64 (n : Int)) (.int .i64 (r0 : Int)) (.int .i64 (n : Int)) (.int .i64 (r1 : Int)))
  have m0 := keepA (o := .cells #[.int .i64 (n : Int), .int .i64 (r1 : Int)] 25) k0
  have m1 := keepA (o := .cells #[.int .i64 (n : Int), .int .i64 (r1 : Int)] 25) k1
  have m2 := keepA (o := .cells #[.int .i64 (n : Int), .int .i64 (r1 : Int)] 25) k2
  have m3 := keepA (o := .cells #[.int .i64 (n : Int), .int .i64 (r1 : Int)] 25) k3
  exact bodyPost_ret (v := .agg #[.int .i64 (n : Int), .int .i64 (r0 : Int), .int .i64 (n : Int), .int .i64 (r1 : Int)]) (by simp [results, Tryz.results58, go_sem, m0, m1, m2, m3]) rfl ⟨rfl, by repeat (first | (with_reducible exact Below.refl _ _) | ((with_reducible refine bS ?_ ?_); (focus (dsimp only; omega))) | ((with_reducible refine bB HB2.out ?_ ?_); (focus (first | omega | (simp; done) | (simp; omega)))) | ((with_reducible refine bB HB1.out ?_ ?_); (focus (first | omega | (simp; done) | (simp; omega)))) | ((with_reducible refine bA ?_ ?_); (focus (first | omega | (simp; done) | (simp; omega)))))⟩

end Go.Proofs.YtdhdkonokbkdoaaGreatDoor
