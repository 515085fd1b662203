/-
  Chapter 8: the model's draws.
-/
import Derived.Test.YtdhdkonokbkdoaaDrawK
import Derived.Test.YtdhdkonokbkdoaaDrawB
import Derived.Test.YtdhdkonokbkdoaaLdM
namespace Go.Proofs.Ytdhdkonokbkdoaa
open Go.RowKit Plain
set_option linter.unusedVariables false
attribute [local go_sem ↓] Go.wp_at_zero Go.wp_at_succ

def list8 : List Int := [-1, 16, 9223372036854775807]
theorem list8_in : ∀ j, j < list8.length → In64 (list8.getD j 0) := by
  intro j hj
  have hj5 : j < 3 := hj
  rcases (show j = 0 ∨ j = 1 ∨ j = 2 by omega) with rfl | rfl | rfl <;> (unfold In64 list8; decide)

set_option maxRecDepth 100000 in
set_option maxHeartbeats 4000000 in
/-- l8Draw. -/
theorem Draw.eight (av : Value) (len : Nat) (w : World) (hc : CodeIn w av len) :
    Calls Try.prog 39 #[av] w (TriOut w) := by
  have HC := Lib.hid hc
  obtain ⟨ad, cap, rfl, _, _⟩ := hc
  go_enter Try.func39, Try.ntmps39
  go_wp2_with fail
  have BA := Lib.hid ((Below.refl w.heap.size w).alloc (Nat.le_refl _) (.cells #[.int .i64 0, .int .i64 0] 25))
  refine (Cur.new _ len _ (HC.out.below BA.out)).mono ?_
  rintro e w1 ⟨b, rfl, hb, hc1, hs1, hb1⟩
  simp only [World.size_alloc] at hb
  have HBN : Hid (w.heap.size ≤ b) := Lib.hid (by omega)
  have B1 := Lib.hid (BA.out.trans (hb1.mono (by simp)))
  have X1 := Lib.hid ((hb1.block w.heap.size (by simp)).trans (heap_alloc_new w _))
  have C1 := Lib.hid hc1
  have S1 := Lib.hid hs1
  have hbne : b ≠ w.heap.size := by omega
  have HBE := Lib.hid hbne
  clear hc1 hs1 hb1 hbne
  go_wp2_with fail
  refine (Draw.any b _ len _ C1.out S1.out).mono ?_
  rintro e w2 ⟨n, a, rfl, hn, ha, hc2, hg2⟩
  have hs2 := hg2.size
  have NN := Lib.hid hn
  have AA := Lib.hid ha
  have B2 := Lib.hid ((grownNew B1.out hg2 HBN.out).alloc (by have := B1.out.size; omega) (.cells #[.int .i64 n, .int .i64 a] 25))
  have X2 := Lib.hid (blockAlloc (blockOver X1.out hg2 (by have := HBE.out; omega)) (.cells #[.int .i64 n, .int .i64 a] 25))
  have F2 := Lib.hid (heap_alloc_new w2 (.cells #[.int .i64 n, .int .i64 a] 25))
  have C2 := Lib.hid (hc2.alloc (.cells #[.int .i64 n, .int .i64 a] 25))
  have S2 := Lib.hid ((S1.out.grown hg2).alloc (.cells #[.int .i64 n, .int .i64 a] 25))
  have HBF : Hid (some w2.heap.size ≠ some b) := Lib.hid (by have := hc2.lt; simp; omega)
  have hs2' : w.heap.size < w2.heap.size := by have := lt_of_block X1.out; omega
  clear hn ha hc2 hg2
  go_wp2_with fail
  refine (Cur.below b _ len 17 (by omega) _ C2.out S2.out).mono ?_
  rintro e wm ⟨m, rfl, ⟨hm0, hm17, _⟩, hcm, hgm⟩
  have hm17' : m < 17 := hm17 (by omega)
  have Bm := Lib.hid (grownNew B2.out hgm HBN.out)
  have Xm := Lib.hid (blockOver X2.out hgm (by have := HBE.out; omega))
  have Fm := Lib.hid (blockOver F2.out hgm (by have := HBF.out; simp at this; omega))
  have Cm := Lib.hid hcm
  have Sm := Lib.hid (S2.out.grown hgm)
  clear hcm hgm hm17
  go_wp2_with fail
  refine (Cur.below b _ len 17 (by omega) _ Cm.out Sm.out).mono ?_
  rintro e w3 ⟨x, rfl, _, hc3, hg3⟩
  have B3 := Lib.hid (grownNew Bm.out hg3 HBN.out)
  have X3 := Lib.hid (blockOver Xm.out hg3 (by have := HBE.out; omega))
  have F3 := Lib.hid (blockOver Fm.out hg3 (by have := HBF.out; simp at this; omega))
  have C3 := Lib.hid hc3
  have S3 := Lib.hid (Sm.out.grown hg3)
  have VV := Lib.hid (bits64_and m x)
  clear hc3 hg3
  go_wp2_with fail
  refine (Draw.once b _ len 14 (by omega) _ C3.out S3.out).mono ?_
  rintro e w4 ⟨r, rfl, hc4, hg4⟩
  have B4 := Lib.hid (grownNew B3.out hg4 HBN.out)
  have X4 := Lib.hid (blockOver X3.out hg4 (by have := HBE.out; omega))
  have F4 := Lib.hid (blockOver F3.out hg4 (by have := HBF.out; simp at this; omega))
  have C4 := Lib.hid hc4
  have S4 := Lib.hid (S3.out.grown hg4)
  clear hc4 hg4
  have hMM : In64 m := by unfold In64; omega
  cases r with
  | false =>
    obtain ⟨p0, p1, q0, q1⟩ := cells2 X4.out
    obtain ⟨r0, r1, _, _⟩ := cells2 F4.out
    have hz : w.heap.size < w4.heap.size := lt_of_block X4.out
    go_wp2
    obtain ⟨k0, k1⟩ := keepT (Y := w4) (g := w.heap.size) (u := .int .i64 n) (v := .int .i64 a) p0 p1
    exact bodyPost_ret (v := .tuple #[.agg #[.int .i64 n, .int .i64 a], .int .i64 m, .int .i64 (Go.bits .and .i64 m x)]) (by simp [results, Try.results39, go_sem, k0, k1]) rfl ⟨n, a, m, _, rfl, NN.out, AA.out, hMM, VV.out, bS (Nat.le_refl _) (bS (Nat.le_refl _) B4.out)⟩
  | true =>
    go_wp2_with fail
    refine (Cur.pickInt b _ len _ list8 _ (C4.out.alloc _) (S4.out.alloc _) (intsNew w4 b C4.out.lt list8 _ (by decide) (by decide))).mono ?_
    rintro e w5 ⟨y, rfl, hy, hc5, hg5⟩
    obtain ⟨j, hj, rfl⟩ := hy
    have HJ := Lib.hid (list8_in j hj)
    generalize list8.getD j 0 = y at HJ ⊢
    have X5 := Lib.hid (blockOver (blockAlloc X4.out (.cells (list8.map (Value.int .i64)).toArray 3)) hg5 (by have := HBE.out; omega))
    have F5 := Lib.hid (blockOver (blockAlloc F4.out (.cells (list8.map (Value.int .i64)).toArray 3)) hg5 (by have := HBF.out; simp at this; omega))
    have B5 := Lib.hid (grownNew (B4.out.alloc B4.out.size _) hg5 HBN.out)
    obtain ⟨p0, p1, q0, q1⟩ := cells2 X5.out
    obtain ⟨r0, r1, _, _⟩ := cells2 F5.out
    have hz : w.heap.size < w5.heap.size := lt_of_block X5.out
    clear hc5 hg5 hj
    go_wp2
    obtain ⟨k0, k1⟩ := keepT (Y := w5) (g := w.heap.size) (u := .int .i64 n) (v := .int .i64 a) p0 p1
    exact bodyPost_ret (v := .tuple #[.agg #[.int .i64 n, .int .i64 a], .int .i64 m, .int .i64 y]) (by simp [results, Try.results39, go_sem, k0, k1]) rfl ⟨n, a, m, _, rfl, NN.out, AA.out, hMM, HJ.out, bS (Nat.le_refl _) (bS (Nat.le_refl _) B5.out)⟩

set_option maxRecDepth 100000 in
set_option maxHeartbeats 2000000 in
theorem Draw.asked (av : Value) (len : Nat) (w : World) (hc : CodeIn w av len) :
    Calls Try.prog 19 #[av] w (TriOut w) := by
  have HD := Lib.hid (fun w hc => Draw.eight av len w hc)
  have HC := Lib.hid hc
  clear hc
  go_enter Try.func19, Try.ntmps19
  go_wp2_with fail
  have BA := Lib.hid ((Below.refl w.heap.size w).alloc (Nat.le_refl _) (.cells #[.int .i64 0, .int .i64 0] 25))
  refine (HD.out _ (HC.out.below BA.out)).mono ?_
  rintro e w1 ⟨n, a, i, j, rfl, hn, ha, hi, hj, hb1⟩
  have X1 := Lib.hid (blockB hb1 (heap_alloc_new w _))
  have B1 := Lib.hid (bB hb1 (by simp) BA.out)
  have NN := Lib.hid hn
  have AA := Lib.hid ha
  have II := Lib.hid hi
  have JJ := Lib.hid hj
  clear hb1 hn ha hi hj
  obtain ⟨p0, p1, q0, q1⟩ := cells2 X1.out
  have hz : w.heap.size < w1.heap.size := lt_of_block X1.out
  go_wp2
  obtain ⟨k0, k1⟩ := keepT (Y := w1) (g := w.heap.size) (u := .int .i64 n) (v := .int .i64 a) p0 p1
  have m0 := keepA (o := .cells #[.int .i64 n, .int .i64 a] 25) k0
  have m1 := keepA (o := .cells #[.int .i64 n, .int .i64 a] 25) k1
  exact bodyPost_ret (v := .tuple #[.agg #[.int .i64 n, .int .i64 a], .int .i64 i, .int .i64 j]) (by simp [results, Try.results19, go_sem, m0, m1]) rfl ⟨n, a, i, j, rfl, NN.out, AA.out, II.out, JJ.out, by first | exact bS (Nat.le_refl _) (bS (Nat.le_refl _) (bA (by omega) B1.out)) | exact bA (by simp; omega) (bS (Nat.le_refl _) (bS (Nat.le_refl _) B1.out))⟩

set_option maxRecDepth 100000 in
set_option maxHeartbeats 2000000 in
theorem Draw.forced (av : Value) (len : Nat) (w : World) (hc : CodeIn w av len) :
    Calls Try.prog 20 #[av] w (TriOut w) := by
  have HD := Lib.hid (fun w hc => Draw.eight av len w hc)
  have HC := Lib.hid hc
  clear hc
  go_enter Try.func20, Try.ntmps20
  go_wp2_with fail
  have BA := Lib.hid ((Below.refl w.heap.size w).alloc (Nat.le_refl _) (.cells #[.int .i64 0, .int .i64 0] 25))
  refine (HD.out _ (HC.out.below BA.out)).mono ?_
  rintro e w1 ⟨n, a, i, j, rfl, hn, ha, hi, hj, hb1⟩
  have X1 := Lib.hid (blockB hb1 (heap_alloc_new w _))
  have B1 := Lib.hid (bB hb1 (by simp) BA.out)
  have NN := Lib.hid hn
  have AA := Lib.hid ha
  have II := Lib.hid hi
  have JJ := Lib.hid hj
  clear hb1 hn ha hi hj
  obtain ⟨p0, p1, q0, q1⟩ := cells2 X1.out
  have hz : w.heap.size < w1.heap.size := lt_of_block X1.out
  go_wp2
  obtain ⟨k0, k1⟩ := keepT (Y := w1) (g := w.heap.size) (u := .int .i64 n) (v := .int .i64 a) p0 p1
  have m0 := keepA (o := .cells #[.int .i64 n, .int .i64 a] 25) k0
  have m1 := keepA (o := .cells #[.int .i64 n, .int .i64 a] 25) k1
  exact bodyPost_ret (v := .tuple #[.agg #[.int .i64 n, .int .i64 a], .int .i64 i, .int .i64 j]) (by simp [results, Try.results20, go_sem, m0, m1]) rfl ⟨n, a, i, j, rfl, NN.out, AA.out, II.out, JJ.out, by first | exact bS (Nat.le_refl _) (bS (Nat.le_refl _) (bA (by omega) B1.out)) | exact bA (by simp; omega) (bS (Nat.le_refl _) (bS (Nat.le_refl _) B1.out))⟩

theorem IntsIn.set {w : World} {g cap : Nat} {l : List Int} (h : IntsIn w (.slice (some ⟨g, 0, none⟩) l.length cap) l) (p : Addr) (hne : p.block ≠ g) (u : Value) : IntsIn (w.setCell p u) (.slice (some ⟨g, 0, none⟩) l.length cap) l := by
  obtain ⟨a, c, he, h1, h2, h3⟩ := h
  simp only [Value.slice.injEq, true_and] at he
  obtain ⟨rfl, rfl⟩ := he
  refine ⟨_, _, rfl, h1, h2, fun h0 => ?_⟩
  obtain ⟨b, off, hb, hlt, hc⟩ := h3 h0
  simp only [Option.some.injEq, Addr.mk.injEq, and_true] at hb
  obtain ⟨rfl, rfl⟩ := hb
  exact ⟨_, _, rfl, by simpa using hlt, fun j hj => keepS hne (hc j hj)⟩

set_option maxRecDepth 100000 in
set_option maxHeartbeats 2000000 in
theorem Draw.play (av : Value) (len : Nat) (w : World) (hc : CodeIn w av len) :
    Calls Try.prog 10 #[av] w (ListOut w) := by
  have HD := Lib.hid (fun w hc => Draw.permuteN av len w hc)
  have HC := Lib.hid hc
  clear hc
  go_enter Try.func10, Try.ntmps10
  go_wp2_with fail
  have BA := Lib.hid ((Below.refl w.heap.size w).alloc (Nat.le_refl _) (.cells #[.int .i64 0, .int .i64 0] 25))
  refine (HD.out _ (HC.out.below BA.out)).mono ?_
  rintro e w1 ⟨n, a, g, cap, l, rfl, hn, ha, hl, hin, hg, hb1⟩
  simp only [World.size_alloc] at hg
  have HGG : Hid (w.heap.size + 1 < g) := Lib.hid hg
  have X1 := Lib.hid (blockB hb1 (heap_alloc_new w _))
  have B1 := Lib.hid (bB hb1 (by simp) BA.out)
  have NN := Lib.hid hn
  have AA := Lib.hid ha
  have LL := Lib.hid hl
  have II := Lib.hid hin
  clear hb1 hn ha hl hin hg
  obtain ⟨p0, p1, q0, q1⟩ := cells2 X1.out
  have hz : w.heap.size < w1.heap.size := lt_of_block X1.out
  go_wp2
  obtain ⟨k0, k1⟩ := keepT (Y := w1) (g := w.heap.size) (u := .int .i64 n) (v := .int .i64 a) p0 p1
  have m0 := keepA (o := .cells #[.int .i64 n, .int .i64 a] 25) k0
  have m1 := keepA (o := .cells #[.int .i64 n, .int .i64 a] 25) k1
  exact bodyPost_ret (v := .tuple #[.agg #[.int .i64 n, .int .i64 a], .slice (some ⟨g, 0, none⟩) l.length cap]) (by simp [results, Try.results10, go_sem, m0, m1]) rfl ⟨n, a, _, _, _, l, rfl, NN.out, AA.out, LL.out, ((II.out.set ⟨w.heap.size, 0, none⟩ (by have := HGG.out; dsimp only; omega) _).set ⟨w.heap.size, 1, none⟩ (by have := HGG.out; dsimp only; omega) _).below ((Below.refl _ _).alloc (Nat.le_refl _) _), bA (by simp; omega) (bS (Nat.le_refl _) (bS (Nat.le_refl _) B1.out))⟩

theorem Draw.evasive (av : Value) (len : Nat) (w : World) (hc : CodeIn w av len) :
    Calls Try.prog 21 #[av] w (fun e w' => ∃ n a : Int, e = .returned (.agg #[.int .i64 n, .int .i64 a]) ∧ In64 n ∧ In64 a ∧ Below w.heap.size w w') := by
  have HC := Lib.hid hc
  obtain ⟨ad, cap, rfl, _, _⟩ := hc
  go_enter Try.func21, Try.ntmps21
  go_wp2_with fail
  have BA := Lib.hid ((Below.refl w.heap.size w).alloc (Nat.le_refl _) (.cells #[.int .i64 0, .int .i64 0] 25))
  refine (Cur.new _ len _ (HC.out.below BA.out)).mono ?_
  rintro e w1 ⟨b, rfl, hb, hc1, hs1, hb1⟩
  simp only [World.size_alloc] at hb
  have HBN : Hid (w.heap.size ≤ b) := Lib.hid (by omega)
  have B1 := Lib.hid (BA.out.trans (hb1.mono (by simp)))
  have X1 := Lib.hid ((hb1.block w.heap.size (by simp)).trans (heap_alloc_new w _))
  have C1 := Lib.hid hc1
  have S1 := Lib.hid hs1
  have hbne : b ≠ w.heap.size := by omega
  have HBE := Lib.hid hbne
  clear hc1 hs1 hb1 hbne
  go_wp2_with fail
  refine (Draw.any b _ len _ C1.out S1.out).mono ?_
  rintro e w2 ⟨n, a, rfl, hn, ha, hc2, hg2⟩
  have NN := Lib.hid hn
  have AA := Lib.hid ha
  have B2 := Lib.hid (grownNew B1.out hg2 HBN.out)
  have x2 := blockOver X1.out hg2 (by have := HBE.out; omega)
  obtain ⟨z0, z1, g0, g1⟩ := cells2 x2
  have hs2 : w.heap.size < w2.heap.size := lt_of_block x2
  clear hn ha hc2 hg2 x2
  go_wp2
  obtain ⟨k0, k1⟩ := keepT (Y := w2) (g := w.heap.size) (u := .int .i64 n) (v := .int .i64 a) z0 z1
  exact bodyPost_ret (v := .agg #[.int .i64 n, .int .i64 a]) (by simp [results, Try.results21, go_sem, k0, k1]) rfl ⟨n, a, rfl, NN.out, AA.out, bS (Nat.le_refl _) (bS (Nat.le_refl _) B2.out)⟩

end Go.Proofs.Ytdhdkonokbkdoaa
