/-
  Contracts of the small functions on words and tables (chapter 2), of the program and of its model.
-/
import Derived.Test.YtlmhdocfdpbhmaaIn
import Derived.Test.YtlmhdocfdpbhmaaPlainT
import Derived.Laws.Bits64b
import Derived.Deep.DeepMust
import Derived.Outline
namespace Go.Proofs.Ytlmhdocfdpbhmaa
open Go.RowKit Plain
set_option linter.unusedVariables false

/-- A callee that only computes, met in a region that draws its order. -/
theorem quiet_eq {P : Program} {f : FuncId} {args : Array Value} {w : World} {n : Nat} {v : Value}
    (h : Calls P f args (w.drewN n) fun e w' => e = .returned v ∧ w.drewN n = w') : Calls P f args (w.drewN n) fun e w'' => e = .returned v ∧ ∃ m, w'' = w.drewN m :=
  h.mono fun _ _ ⟨he, hm⟩ => ⟨he, n, hm.symm⟩

theorem below_drewN {B : Nat} {w w' : World} (h : Below B w w') (n : Nat) : Below B w (w'.drewN n) := ⟨h.os, h.tape, h.output, h.size, h.block⟩

theorem bcell {W w1 : World} (hb : Below W.heap.size W w1) : (∀ b o, b < W.heap.size → w1.cell? ⟨b, o, none⟩ = W.cell? ⟨b, o, none⟩) ∧ (∀ b o, b < W.heap.size → w1.frozen? ⟨b, o, none⟩ = W.frozen? ⟨b, o, none⟩) :=
  ⟨fun b o h => hb.cell (p := ⟨b, o, none⟩) h, fun b o h => hb.frozen (p := ⟨b, o, none⟩) h⟩

theorem bstep {W0 w1 w2 : World} (h1 : Below W0.heap.size W0 w1) (h2 : Below w1.heap.size w1 w2) : Below W0.heap.size W0 w2 := h1.trans (h2.mono h1.size)

/-- For showing a cell anew inside a region that draws its order: behind an alloc, a draw, a callee that writes into nothing that was there. -/
theorem keepA {Y : World} {o : Obj} {a : Addr} {v : Value} (h : Y.cell? a = some v) : (Y.alloc o).cell? a = some v :=
  (World.cell?_alloc_lt Y o a (World.block_lt_of_cell? Y a h)).trans h
theorem keepS {Y : World} {p a : Addr} {u v : Value} (hne : p.block ≠ a.block) (h : Y.cell? a = some v) : (Y.setCell p u).cell? a = some v :=
  (World.cell?_setCell_other Y p a u (fun e => hne (by rw [e]))).trans h
theorem keepN {Y : World} {C : Array Value} {t n j : Nat} {v : Value} (hn : n = Y.heap.size) (hv : C[j]? = some v) : (Y.alloc (.cells C t)).cell? ⟨n, j, none⟩ = some v := by
  subst hn; exact (World.cell?_alloc_mark Y C t _ j).trans hv
theorem keepD {Y : World} {a : Addr} {v : Value} (h : Y.cell? a = some v) : Y.drew.cell? a = some v := h
theorem keepU {Y : World} {a : Addr} {v : Value} (h : Y.drew.cell? a = some v) : Y.cell? a = some v := h
theorem keepB {X w' : World} {a : Addr} {v : Value} (hb : Below X.heap.size X w') (h : X.cell? a = some v) : w'.cell? a = some v :=
  (hb.cell (World.block_lt_of_cell? X a h)).trans h

theorem bS {B : Nat} {W0 Y : World} {p : Addr} {u : Value} (hB : B ≤ p.block) (h : Below B W0 Y) : Below B W0 (Y.setCell p u) := h.setCell hB u
theorem bA {B : Nat} {W0 Y : World} {o : Obj} (hB : B ≤ Y.heap.size) (h : Below B W0 Y) : Below B W0 (Y.alloc o) := h.alloc hB o
theorem bD {B : Nat} {W0 Y : World} (h : Below B W0 Y) : Below B W0 Y.drew := h.drew
theorem bB {B : Nat} {W0 X w' : World} (hb : Below X.heap.size X w') (hB : B ≤ X.heap.size) (h : Below B W0 X) : Below B W0 w' := h.trans (hb.mono hB)
theorem keepT {Y : World} {g : Nat} {u v a b : Value} (h0 : Y.cell? ⟨g, 0, none⟩ = some a) (h1 : Y.cell? ⟨g, 1, none⟩ = some b) :
    ((Y.setCell ⟨g, 0, none⟩ u).setCell ⟨g, 1, none⟩ v).cell? ⟨g, 0, none⟩ = some u ∧ ((Y.setCell ⟨g, 0, none⟩ u).setCell ⟨g, 1, none⟩ v).cell? ⟨g, 1, none⟩ = some v := by
  constructor
  · rw [World.cell?_setCell_other _ _ _ _ (by simp)]
    exact World.cell?_setCell_same _ _ _ h0
  · refine World.cell?_setCell_same _ _ _ (u := b) ?_
    rw [World.cell?_setCell_other _ _ _ _ (by simp)]
    exact h1

theorem Tab.bits (n : Int) (w : World) :
    Calls Try.prog 68 #[.int .i64 n] w fun e w' => e = .returned (.bool (inB n 0 5)) ∧ w = w' := by
  by_cases h1 : 0 ≤ n
  · by_cases h2 : n ≤ 5
    · go_enter Try.func68, Try.ntmps68
      go_wp2
      go_ret
      exact ⟨ret_bool (inB_yes (by omega)).symm, rfl⟩
    · go_enter Try.func68, Try.ntmps68
      go_wp2
      go_ret
      exact ⟨ret_bool (inB_no (by omega)).symm, rfl⟩
  · go_enter Try.func68, Try.ntmps68
    go_wp2
    go_ret
    exact ⟨ret_bool (inB_no (by omega)).symm, rfl⟩

theorem Tab.count (n : Nat) (hn : n ≤ 5) (w : World) :
    Calls Try.prog 88 #[.int .i64 n] w fun e w' => e = .returned (.int .i64 ((2 ^ n : Nat) : Int)) ∧ w = w' := by
  rcases cases5 n hn with rfl | rfl | rfl | rfl | rfl | rfl
  all_goals
    clear hn
    go_enter Try.func88, Try.ntmps88
    go_wp2
    go_ret
    exact ⟨rfl, rfl⟩

theorem Tab.full (n : Nat) (hn : n ≤ 5) (w : World) :
    Calls Try.prog 99 #[.int .i64 n] w fun e w' => e = .returned (.int .u64 (fullN n : Int)) ∧ w = w' := by
  rcases cases5 n hn with rfl | rfl | rfl | rfl | rfl | rfl
  all_goals
    clear hn
    go_enter Try.func99, Try.ntmps99
    go_wp2
    go_ret
    first | rw [fullN_0] | rw [fullN_1] | rw [fullN_2] | rw [fullN_3] | rw [fullN_4] | rw [fullN_5]
    exact ⟨rfl, rfl⟩

end Go.Proofs.Ytlmhdocfdpbhmaa
