/-
  Chapters 9 and 10: the model's draws of a table and an input.
-/
import Derived.Test.YtbgjiblfnljigaaDrawF
import Derived.Test.YtbgjiblfnljigaaDrawB
import Derived.Test.YtbgjiblfnljigaaCerN
namespace Go.Proofs.Ytbgjiblfnljigaa
open Go.RowKit Plain
set_option linter.unusedVariables false
attribute [local go_sem ↓] Go.wp_at_zero Go.wp_at_succ

theorem blockB' {X w' : World} {b : Nat} {o : Obj} (hb : Below X.heap.size X w') (h : X.heap[b]? = some o) : w'.heap[b]? = some o := blockC hb h


set_option maxRecDepth 100000 in
set_option maxHeartbeats 2000000 in
theorem Draw.nine (av : Value) (len : Nat) (w : World) (hc : CodeIn w av len) :
    Calls Try.prog 63 #[av] w (VarOut w) := by
  have HC := Lib.hid hc
  obtain ⟨ad, cap, rfl, _, _⟩ := hc
  go_enter Try.func63, Try.ntmps63
  go_wp2_with fail
  have BA := Lib.hid ((Below.refl w.heap.size w).alloc (Nat.le_refl _) (.cells #[.int .i64 0, .int .i64 0] 25))
  refine (Cur.new _ len _ (HC.out.below BA.out)).mono ?_
  rintro e w1 ⟨b, rfl, hb, hc1, hs1, hb1⟩
  simp only [World.size_alloc] at hb
  have HBN : Hid (w.heap.size ≤ b) := Lib.hid (by omega)
  have B1 := Lib.hid (BA.out.trans (hb1.mono (by simp)))
  have X1 := Lib.hid ((hb1.block w.heap.size (by simp)).trans (heap_alloc_new w _))
  have C1 := Lib.hid hc1
  have S1 := Lib.hid hs1
  have hbne : b ≠ w.heap.size := by omega
  have HBE := Lib.hid hbne
  clear hc1 hs1 hb1 hbne
  go_wp2_with fail
  refine (Draw.any b _ len _ C1.out S1.out).mono ?_
  rintro e w2 ⟨n, a, rfl, hn, ha, hc2, hg2⟩
  have hs2 := hg2.size
  have NN := Lib.hid hn
  have AA := Lib.hid ha
  have B2 := Lib.hid ((grownNew B1.out hg2 HBN.out).alloc (by have := B1.out.size; omega) (.cells #[.int .i64 n, .int .i64 a] 25))
  have X2 := Lib.hid (blockAlloc (blockOver X1.out hg2 (by have := HBE.out; omega)) (.cells #[.int .i64 n, .int .i64 a] 25))
  have F2 := Lib.hid (heap_alloc_new w2 (.cells #[.int .i64 n, .int .i64 a] 25))
  have C2 := Lib.hid (hc2.alloc (.cells #[.int .i64 n, .int .i64 a] 25))
  have S2 := Lib.hid ((S1.out.grown hg2).alloc (.cells #[.int .i64 n, .int .i64 a] 25))
  have HBF : Hid (some w2.heap.size ≠ some b) := Lib.hid (by have := hc2.lt; simp; omega)
  obtain ⟨c0, c1, _, _⟩ := cells2 F2.out
  have F0 := Lib.hid c0
  have F1 := Lib.hid c1
  clear hn ha hc2 hg2 c0 c1
  have hs2' : w.heap.size < w2.heap.size := by have := lt_of_block X1.out; omega
  have hs2'' : w.heap.size < (w2.alloc (.cells #[.int .i64 n, .int .i64 a] 25)).drew.heap.size := by simp; omega
  go_wp2_with fail
  go_region_held3 (fun w' => w'.cell? ⟨w2.heap.size, 0, none⟩ = some (.int .i64 n) ∧ w'.cell? ⟨w2.heap.size, 1, none⟩ = some (.int .i64 a))
    ((first | (go_split_ands; (try dsimp only); (refine ⟨?_, ?_⟩ <;> (repeat (first | with_reducible assumption | exact hg3.cell F0.out HBF.out | exact hg3.cell F1.out HBF.out | ((with_reducible refine keepS ?_ ?_); (focus (dsimp only; omega)))))); done) | go_keep))
    (first | (go_at_call 77; refine (Cur.below b _ len 18 (by omega) _ (by exact C2.out) (by exact S2.out)).mono ?_; rintro e w3 ⟨x, rfl, ⟨hx0, hx7, _⟩, hc3, hg3⟩; have hx8 : x < 18 := hx7 (by omega); obtain ⟨z0, z1, g0, g1⟩ := cells2 (resOver X2.out hg3 HBE.out); have hs3' : w.heap.size < w3.heap.size := Nat.lt_of_lt_of_le hs2'' hg3.size; clear hx7))
  all_goals
    go_wp2
    obtain ⟨k0, k1⟩ := keepT (Y := w3) (g := w.heap.size) (u := .int .i64 n) (v := .int .i64 a) z0 z1
    exact bodyPost_ret (v := .tuple #[.agg #[.int .i64 n, .int .i64 a], .int .i64 (IntKind.i64.wrap (x - 1))]) (by simp [results, Try.results63, go_sem, k0, k1]) rfl (varEnd NN.out AA.out (wrap_in _) (grownNew (bD B2.out) hg3 HBN.out))

set_option maxRecDepth 100000 in
set_option maxHeartbeats 2000000 in
theorem Draw.cset (av : Value) (len : Nat) (w : World) (hc : CodeIn w av len) :
    Calls Try.prog 30 #[av] w (VarOut w) := by
  have HD := Lib.hid (fun w hc => Draw.nine av len w hc)
  have HC := Lib.hid hc
  clear hc
  go_enter Try.func30, Try.ntmps30
  go_wp2_with fail
  have BA := Lib.hid ((Below.refl w.heap.size w).alloc (Nat.le_refl _) (.cells #[.int .i64 0, .int .i64 0] 25))
  refine (HD.out _ (HC.out.below BA.out)).mono ?_
  rintro e w1 ⟨n, a, i, rfl, hn, ha, hi, hb1⟩
  have X1 := Lib.hid (blockB' hb1 (heap_alloc_new w _))
  have B1 := Lib.hid (bB hb1 (by simp) BA.out)
  have NN := Lib.hid hn
  have AA := Lib.hid ha
  have II := Lib.hid hi
  clear hb1 hn ha hi
  obtain ⟨p0, p1, q0, q1⟩ := cells2 X1.out
  have hz : w.heap.size < w1.heap.size := lt_of_block X1.out
  go_wp2
  obtain ⟨k0, k1⟩ := keepT (Y := w1) (g := w.heap.size) (u := .int .i64 n) (v := .int .i64 a) p0 p1
  have m0 := keepA (o := .cells #[.int .i64 n, .int .i64 a] 25) k0
  have m1 := keepA (o := .cells #[.int .i64 n, .int .i64 a] 25) k1
  exact bodyPost_ret (v := .tuple #[.agg #[.int .i64 n, .int .i64 a], .int .i64 i]) (by simp [results, Try.results30, go_sem, m0, m1]) rfl ⟨n, a, i, rfl, NN.out, AA.out, II.out, by first | exact bS (Nat.le_refl _) (bS (Nat.le_refl _) (bA (by omega) B1.out)) | exact bA (by simp; omega) (bS (Nat.le_refl _) (bS (Nat.le_refl _) B1.out))⟩


set_option maxRecDepth 100000 in
set_option maxHeartbeats 2000000 in
theorem Draw.mblk (av : Value) (len : Nat) (w : World) (hc : CodeIn w av len) :
    Calls Try.prog 39 #[av] w (VarOut w) := by
  have HD := Lib.hid (fun w hc => Draw.nine av len w hc)
  have HC := Lib.hid hc
  clear hc
  go_enter Try.func39, Try.ntmps39
  go_wp2_with fail
  have BA := Lib.hid ((Below.refl w.heap.size w).alloc (Nat.le_refl _) (.cells #[.int .i64 0, .int .i64 0] 25))
  refine (HD.out _ (HC.out.below BA.out)).mono ?_
  rintro e w1 ⟨n, a, i, rfl, hn, ha, hi, hb1⟩
  have X1 := Lib.hid (blockB' hb1 (heap_alloc_new w _))
  have B1 := Lib.hid (bB hb1 (by simp) BA.out)
  have NN := Lib.hid hn
  have AA := Lib.hid ha
  have II := Lib.hid hi
  clear hb1 hn ha hi
  obtain ⟨p0, p1, q0, q1⟩ := cells2 X1.out
  have hz : w.heap.size < w1.heap.size := lt_of_block X1.out
  go_wp2
  obtain ⟨k0, k1⟩ := keepT (Y := w1) (g := w.heap.size) (u := .int .i64 n) (v := .int .i64 a) p0 p1
  have m0 := keepA (o := .cells #[.int .i64 n, .int .i64 a] 25) k0
  have m1 := keepA (o := .cells #[.int .i64 n, .int .i64 a] 25) k1
  exact bodyPost_ret (v := .tuple #[.agg #[.int .i64 n, .int .i64 a], .int .i64 i]) (by simp [results, Try.results39, go_sem, m0, m1]) rfl ⟨n, a, i, rfl, NN.out, AA.out, II.out, by first | exact bS (Nat.le_refl _) (bS (Nat.le_refl _) (bA (by omega) B1.out)) | exact bA (by simp; omega) (bS (Nat.le_refl _) (bS (Nat.le_refl _) B1.out))⟩


set_option maxRecDepth 100000 in
set_option maxHeartbeats 2000000 in
theorem Draw.bsat (av : Value) (len : Nat) (w : World) (hc : CodeIn w av len) :
    Calls Try.prog 45 #[av] w (VarOut w) := by
  have HD := Lib.hid (fun w hc => Draw.nine av len w hc)
  have HC := Lib.hid hc
  clear hc
  go_enter Try.func45, Try.ntmps45
  go_wp2_with fail
  have BA := Lib.hid ((Below.refl w.heap.size w).alloc (Nat.le_refl _) (.cells #[.int .i64 0, .int .i64 0] 25))
  refine (HD.out _ (HC.out.below BA.out)).mono ?_
  rintro e w1 ⟨n, a, i, rfl, hn, ha, hi, hb1⟩
  have X1 := Lib.hid (blockB' hb1 (heap_alloc_new w _))
  have B1 := Lib.hid (bB hb1 (by simp) BA.out)
  have NN := Lib.hid hn
  have AA := Lib.hid ha
  have II := Lib.hid hi
  clear hb1 hn ha hi
  obtain ⟨p0, p1, q0, q1⟩ := cells2 X1.out
  have hz : w.heap.size < w1.heap.size := lt_of_block X1.out
  go_wp2
  obtain ⟨k0, k1⟩ := keepT (Y := w1) (g := w.heap.size) (u := .int .i64 n) (v := .int .i64 a) p0 p1
  have m0 := keepA (o := .cells #[.int .i64 n, .int .i64 a] 25) k0
  have m1 := keepA (o := .cells #[.int .i64 n, .int .i64 a] 25) k1
  exact bodyPost_ret (v := .tuple #[.agg #[.int .i64 n, .int .i64 a], .int .i64 i]) (by simp [results, Try.results45, go_sem, m0, m1]) rfl ⟨n, a, i, rfl, NN.out, AA.out, II.out, by first | exact bS (Nat.le_refl _) (bS (Nat.le_refl _) (bA (by omega) B1.out)) | exact bA (by simp; omega) (bS (Nat.le_refl _) (bS (Nat.le_refl _) B1.out))⟩


set_option maxRecDepth 100000 in
set_option maxHeartbeats 2000000 in
theorem Draw.bsof (av : Value) (len : Nat) (w : World) (hc : CodeIn w av len) :
    Calls Try.prog 43 #[av] w (OneOut w) := by
  have HC := Lib.hid hc
  obtain ⟨ad, cap, rfl, _, _⟩ := hc
  have BA := Lib.hid ((Below.refl w.heap.size w).alloc (Nat.le_refl _) (.cells #[.int .i64 0, .int .i64 0] 25))
  go_enter Try.func43, Try.ntmps43
  go_wp2_with fail
  refine (Cur.new _ len _ (HC.out.below BA.out)).mono ?_
  rintro e w1 ⟨b, rfl, hb, hc1, hs1, hb1⟩
  simp only [World.size_alloc] at hb
  have HBN : Hid (w.heap.size ≤ b) := Lib.hid (by omega)
  have B1 := Lib.hid (BA.out.trans (hb1.mono (by simp)))
  have X1 := Lib.hid ((hb1.block w.heap.size (by simp)).trans (heap_alloc_new w _))
  have C1 := Lib.hid hc1
  have S1 := Lib.hid hs1
  have HBE : Hid (b ≠ w.heap.size) := Lib.hid (by omega)
  clear hc1 hs1 hb1
  go_wp2_with fail
  refine (Draw.any b _ len _ C1.out S1.out).mono ?_
  rintro e w2 ⟨n, a, rfl, hn, ha, hc2, hg2⟩
  have hs2 := hg2.size
  have NN := Lib.hid hn
  have AA := Lib.hid ha
  have B2 := Lib.hid (grownNew B1.out hg2 HBN.out)
  have X2 := Lib.hid (blockOver X1.out hg2 (by have := HBE.out; omega))
  obtain ⟨z0, z1, g0, g1⟩ := cells2 X2.out
  have hz : w.heap.size < w2.heap.size := lt_of_block X2.out
  clear hn ha hc2 hg2
  go_wp2
  obtain ⟨k0, k1⟩ := keepT (Y := w2) (g := w.heap.size) (u := .int .i64 n) (v := .int .i64 a) z0 z1
  exact bodyPost_ret (v := .agg #[.int .i64 n, .int .i64 a]) (by simp [results, Try.results43, go_sem, k0, k1]) rfl ⟨n, a, rfl, NN.out, AA.out, bS (Nat.le_refl _) (bS (Nat.le_refl _) B2.out)⟩

set_option maxRecDepth 100000 in
set_option maxHeartbeats 2000000 in
theorem Draw.meet (av : Value) (len : Nat) (w : World) (hc : CodeIn w av len) :
    Calls Try.prog 44 #[av] w (OneOut w) := by
  have HC := Lib.hid hc
  obtain ⟨ad, cap, rfl, _, _⟩ := hc
  have BA := Lib.hid ((Below.refl w.heap.size w).alloc (Nat.le_refl _) (.cells #[.int .i64 0, .int .i64 0] 25))
  go_enter Try.func44, Try.ntmps44
  go_wp2_with fail
  refine (Cur.new _ len _ (HC.out.below BA.out)).mono ?_
  rintro e w1 ⟨b, rfl, hb, hc1, hs1, hb1⟩
  simp only [World.size_alloc] at hb
  have HBN : Hid (w.heap.size ≤ b) := Lib.hid (by omega)
  have B1 := Lib.hid (BA.out.trans (hb1.mono (by simp)))
  have X1 := Lib.hid ((hb1.block w.heap.size (by simp)).trans (heap_alloc_new w _))
  have C1 := Lib.hid hc1
  have S1 := Lib.hid hs1
  have HBE : Hid (b ≠ w.heap.size) := Lib.hid (by omega)
  clear hc1 hs1 hb1
  go_wp2_with fail
  refine (Draw.any b _ len _ C1.out S1.out).mono ?_
  rintro e w2 ⟨n, a, rfl, hn, ha, hc2, hg2⟩
  have hs2 := hg2.size
  have NN := Lib.hid hn
  have AA := Lib.hid ha
  have B2 := Lib.hid (grownNew B1.out hg2 HBN.out)
  have X2 := Lib.hid (blockOver X1.out hg2 (by have := HBE.out; omega))
  obtain ⟨z0, z1, g0, g1⟩ := cells2 X2.out
  have hz : w.heap.size < w2.heap.size := lt_of_block X2.out
  clear hn ha hc2 hg2
  go_wp2
  obtain ⟨k0, k1⟩ := keepT (Y := w2) (g := w.heap.size) (u := .int .i64 n) (v := .int .i64 a) z0 z1
  exact bodyPost_ret (v := .agg #[.int .i64 n, .int .i64 a]) (by simp [results, Try.results44, go_sem, k0, k1]) rfl ⟨n, a, rfl, NN.out, AA.out, bS (Nat.le_refl _) (bS (Nat.le_refl _) B2.out)⟩

end Go.Proofs.Ytbgjiblfnljigaa
