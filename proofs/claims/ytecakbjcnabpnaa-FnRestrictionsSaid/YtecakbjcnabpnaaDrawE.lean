/-
  What is drawn from a code for the law of restrictions: a table and a variable.
-/
import Derived.Test.YtecakbjcnabpnaaDrawD
import Derived.Deep.RegionHeld3
import Derived.Deep.DeepCutAuto
import Derived.Deep.DrawnRows
namespace Go.Proofs.Ytecakbjcnabpnaa
open Go.RowKit Plain
set_option linter.unusedVariables false
attribute [local go_sem ↓] Go.wp_at_zero Go.wp_at_succ

/-- A table and a number. -/
def VarOut (w : World) (e : Ending) (w' : World) : Prop :=
  ∃ n a i : Int, e = .returned (.tuple #[.agg #[.int .i64 n, .int .i64 a], .int .i64 i]) ∧ In64 n ∧ In64 a ∧ In64 i ∧ Below w.heap.size w w'

theorem varEnd {w wr : World} {n a i : Int} {u v : Value} (hn : In64 n) (ha : In64 a) (hi : In64 i) (hb : Below w.heap.size w wr) :
    VarOut w (.returned (.tuple #[.agg #[.int .i64 n, .int .i64 a], .int .i64 i])) ((wr.setCell ⟨w.heap.size, 0, none⟩ u).setCell ⟨w.heap.size, 1, none⟩ v) :=
  ⟨n, a, i, rfl, hn, ha, hi, bS (Nat.le_refl _) (bS (Nat.le_refl _) hb)⟩
theorem grownNew {w w1 w2 : World} {b : Nat} (h : Below w.heap.size w w1) (hg : w1.grownBy w2 (some b)) (hB : w.heap.size ≤ b) : Below w.heap.size w w2 :=
  h.grown hg h.size (fun k hk => by cases hk; exact hB)

theorem wrap_in (x : Int) : In64 (IntKind.i64.wrap x) := by unfold In64; rw [IntKind.wrap_i64]; omega
theorem resOver {X w' : World} {b c : Nat} {o : Obj} (h : X.heap[c]? = some o) (hg : X.drew.grownBy w' (some b)) (hne : b ≠ c) : w'.heap[c]? = some o :=
  blockOver (X := X.drew) h hg (Ne.symm hne)

set_option maxRecDepth 100000 in
set_option maxHeartbeats 2000000 in
theorem Draw.var (av : Value) (len : Nat) (w : World) (hc : CodeIn w av len) :
    Calls Try.prog 54 #[av] w (VarOut w) := by
  have HC := Lib.hid hc
  obtain ⟨ad, cap, rfl, _, _⟩ := hc
  go_enter Try.func54, Try.ntmps54
  go_wp2_with fail
  have BA := Lib.hid ((Below.refl w.heap.size w).alloc (Nat.le_refl _) (.cells #[.int .i64 0, .int .i64 0] 25))
  refine (Cur.new _ len _ (HC.out.below BA.out)).mono ?_
  rintro e w1 ⟨b, rfl, hb, hc1, hs1, hb1⟩
  simp only [World.size_alloc] at hb
  have HBN : Hid (w.heap.size ≤ b) := Lib.hid (by omega)
  have B1 := Lib.hid (BA.out.trans (hb1.mono (by simp)))
  have X1 := Lib.hid ((hb1.block w.heap.size (by simp)).trans (heap_alloc_new w _))
  have C1 := Lib.hid hc1
  have S1 := Lib.hid hs1
  have hbne : b ≠ w.heap.size := by omega
  have HBE := Lib.hid hbne
  clear hc1 hs1 hb1 hbne
  go_wp2_with fail
  refine (Draw.any b _ len _ C1.out S1.out).mono ?_
  rintro e w2 ⟨n, a, rfl, hn, ha, hc2, hg2⟩
  have hs2 := hg2.size
  have NN := Lib.hid hn
  have AA := Lib.hid ha
  have B2 := Lib.hid ((grownNew B1.out hg2 HBN.out).alloc (by have := B1.out.size; omega) (.cells #[.int .i64 n, .int .i64 a] 25))
  have X2 := Lib.hid (blockAlloc (blockOver X1.out hg2 (by have := HBE.out; omega)) (.cells #[.int .i64 n, .int .i64 a] 25))
  have F2 := Lib.hid (heap_alloc_new w2 (.cells #[.int .i64 n, .int .i64 a] 25))
  have C2 := Lib.hid (hc2.alloc (.cells #[.int .i64 n, .int .i64 a] 25))
  have S2 := Lib.hid ((S1.out.grown hg2).alloc (.cells #[.int .i64 n, .int .i64 a] 25))
  have HBF : Hid (some w2.heap.size ≠ some b) := Lib.hid (by have := hc2.lt; simp; omega)
  obtain ⟨c0, c1, _, _⟩ := cells2 F2.out
  have F0 := Lib.hid c0
  have F1 := Lib.hid c1
  clear hn ha hc2 hg2 c0 c1
  have hs2' : w.heap.size < w2.heap.size := by have := lt_of_block X1.out; omega
  have hs2'' : w.heap.size < (w2.alloc (.cells #[.int .i64 n, .int .i64 a] 25)).drew.heap.size := by simp; omega
  go_wp2_with fail
  go_region_held3 (fun w' => w'.cell? ⟨w2.heap.size, 0, none⟩ = some (.int .i64 n) ∧ w'.cell? ⟨w2.heap.size, 1, none⟩ = some (.int .i64 a))
    ((first | (go_split_ands; (try dsimp only); (refine ⟨?_, ?_⟩ <;> (repeat (first | with_reducible assumption | exact hg3.cell F0.out HBF.out | exact hg3.cell F1.out HBF.out | ((with_reducible refine keepS ?_ ?_); (focus (dsimp only; omega)))))); done) | go_keep))
    (first | (go_at_call 73; refine (Cur.below b _ len 7 (by omega) _ (by exact C2.out) (by exact S2.out)).mono ?_; rintro e w3 ⟨x, rfl, ⟨hx0, hx7, _⟩, hc3, hg3⟩; have hx8 : x < 7 := hx7 (by omega); obtain ⟨z0, z1, g0, g1⟩ := cells2 (resOver X2.out hg3 HBE.out); have hs3' : w.heap.size < w3.heap.size := Nat.lt_of_lt_of_le hs2'' hg3.size; clear hx7))
  all_goals
    go_wp2
    obtain ⟨k0, k1⟩ := keepT (Y := w3) (g := w.heap.size) (u := .int .i64 n) (v := .int .i64 a) z0 z1
    exact bodyPost_ret (v := .tuple #[.agg #[.int .i64 n, .int .i64 a], .int .i64 (IntKind.i64.wrap (x - 1))]) (by simp [results, Try.results54, go_sem, k0, k1]) rfl (varEnd NN.out AA.out (wrap_in _) (grownNew (bD B2.out) hg3 HBN.out))
end Go.Proofs.Ytecakbjcnabpnaa
