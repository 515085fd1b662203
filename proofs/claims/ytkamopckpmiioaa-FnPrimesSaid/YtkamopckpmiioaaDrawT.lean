/-
  Chapter 6: what the draws of terms answer, whatever the code.
-/
import Derived.Test.YtkamopckpmiioaaDrawI
import Derived.Test.YtkamopckpmiioaaTrmE
import Derived.Test.YtkamopckpmiioaaResJ2
import Derived.Deep.RegionHeld3
import Derived.Deep.RegionWith
namespace Go.Proofs.Ytkamopckpmiioaa
open Go.RowKit Plain
set_option linter.unusedVariables false

theorem In64.small {x : Int} (h0 : 0 ≤ x) (h1 : x ≤ 1000000) : In64 x := by unfold In64; omega

def listV6 : List Int := [-1, 1, 32, 9223372036854775807]
def listN6 : List Int := [4, 4, 3, 5, 0, -1, 6]
theorem listV6_in : ∀ j, j < listV6.length → In64 (listV6.getD j 0) := by
  intro j hj
  have hj5 : j < 4 := hj
  rcases (show j = 0 ∨ j = 1 ∨ j = 2 ∨ j = 3 by omega) with rfl | rfl | rfl | rfl <;> (unfold In64 listV6; decide)
theorem listN6_in : ∀ j, j < listN6.length → In64 (listN6.getD j 0) := by
  intro j hj
  have hj5 : j < 7 := hj
  rcases (show j = 0 ∨ j = 1 ∨ j = 2 ∨ j = 3 ∨ j = 4 ∨ j = 5 ∨ j = 6 by omega) with rfl | rfl | rfl | rfl | rfl | rfl | rfl <;> (unfold In64 listN6; decide)

set_option maxRecDepth 100000 in
set_option maxHeartbeats 2000000 in
theorem Draw.term (b : Nat) (av : Value) (len : Nat) (w : World) (hc : CurAt w b av len) (hs : SrcAt w b av len) :
    Calls Try.prog 81 #[.pointer (some ⟨b, 0, none⟩), .int .i64 4] w (TabOut In64 b av len w) := by
  have hbl := hc.lt
  have HB := Lib.hid hbl
  have HS := Lib.hid hs
  have HC := Lib.hid hc
  have HA : ∀ o : Obj, Hid (w.grownBy (w.alloc o) (some b)) := fun o => Lib.hid (World.grownBy_alloc w o (some b))
  clear hbl hc hs
  go_enter Try.func81, Try.ntmps81
  go_wp2_with fail
  refine (Cur.below b av len 16 (by omega) _ (HC.out.alloc _) (HS.out.grown (HA _).out)).mono ?_
  rintro e w1 ⟨x, rfl, ⟨hx0, hx16, _⟩, hc1, hg1⟩
  have HXX : Hid (In64 x) := Lib.hid (In64.small hx0 (by have := hx16 (by omega); omega))
  have HX1 := Lib.hid (blockOver (heap_alloc_new w _) hg1 (by have := HB.out; omega))
  have HC1 := Lib.hid hc1
  have HG1 := Lib.hid (grownTrans (HA _).out hg1)
  clear hc1 hg1 hx16
  go_wp2_with fail
  refine (Cur.below b av len 16 (by omega) _ HC1.out (HS.out.grown HG1.out)).mono ?_
  rintro e w2 ⟨y, rfl, _, hc2, hg2⟩
  have HX2 := Lib.hid (blockOver HX1.out hg2 (by have := HB.out; omega))
  have HC2 := Lib.hid hc2
  have HG2 := Lib.hid (grownTrans HG1.out hg2)
  have HBW : Hid (b < w2.heap.size) := Lib.hid hc2.lt
  have hszr : w.heap.size < w2.heap.size := lt_of_block HX2.out
  have HY := Lib.hid (bits64_and x y)
  generalize hy : Go.bits .and .i64 x y = z at HY
  clear hc2 hg2
  go_wp2_with fail
  refine (Draw.once b av len 12 (by omega) _ (HC2.out.alloc _) ((HS.out.grown HG2.out).alloc _)).mono ?_
  rintro e w3 ⟨c, rfl, hc3, hg3⟩
  have hs3 := hg3.size
  simp only [World.size_alloc] at hs3
  have HX3 := Lib.hid (blockOver (blockAlloc HX2.out (.cells #[.int .i64 x, .int .i64 z] 25)) hg3 (by have := HB.out; omega))
  have HF3 := Lib.hid (blockOver (heap_alloc_new w2 (.cells #[.int .i64 x, .int .i64 z] 25)) hg3 (by have := HBW.out; omega))
  have HC3 := Lib.hid hc3
  have HG3 := Lib.hid (grownTrans (grownAlloc HG2.out _) hg3)
  clear hc3 hg3
  cases c
  case true =>
    obtain ⟨c0, c1, f0, f1⟩ := cells2 HF3.out
    go_wp2_with fail
    refine (Cur.pickInt b av len _ listV6 _ (HC3.out.alloc _) ((HS.out.grown HG3.out).alloc _) (intsNew w3 b HC3.out.lt listV6 _ (by decide) (by decide))).mono ?_
    rintro e w4 ⟨q, rfl, hq, hc4, hg4⟩
    obtain ⟨j, hj, rfl⟩ := hq
    have HJ := Lib.hid (listV6_in j hj)
    have hs4 := hg4.size
    simp only [World.size_alloc] at hs4
    have HX4 := Lib.hid (blockOver (blockAlloc HX3.out (.cells (listV6.map (Value.int .i64)).toArray 3)) hg4 (by have := HB.out; omega))
    have hf4 := blockOver (blockAlloc HF3.out (.cells (listV6.map (Value.int .i64)).toArray 3)) hg4 (by have := HBW.out; omega)
    have HF4 := Lib.hid hf4
    have HC4 := Lib.hid hc4
    have HG4 := Lib.hid (grownTrans (grownAlloc HG3.out _) hg4)
    obtain ⟨d0, d1, e0, e1⟩ := cells2 hf4
    obtain ⟨p0, p1, q0, q1⟩ := cells2 HX4.out
    generalize listV6.getD j 0 = r at HJ ⊢
    have HFS := Lib.hid (set1 HF4.out (.int .i64 r)).2
    have HXS := Lib.hid (set1_other (b := w2.heap.size) (j := 1) HX4.out (by omega) (.int .i64 r))
    obtain ⟨r0, r1, _, _⟩ := cells2 HFS.out
    obtain ⟨s0, s1, u0, u1⟩ := cells2 HXS.out
    have hszz : w.heap.size < w4.heap.size := by omega
    have hszy : w2.heap.size < w4.heap.size := by omega
    clear hc4 hg4 hf4 hj c0 c1 f0 f1
    go_wp2
    obtain ⟨k0, k1⟩ := keepT (Y := w4.setCell ⟨w2.heap.size, 1, none⟩ (.int .i64 r)) (g := w.heap.size) (u := .int .i64 x) (v := .int .i64 r) s0 s1
    exact bodyPost_ret (v := .agg #[.int .i64 x, .int .i64 r]) (by simp [results, Try.results81, go_sem, k0, k1]) rfl (anyEnd HXX.out HJ.out (HC4.out.set _ _ _ (by have := HBW.out; omega)) (grownOver HG4.out _ _ _ (by omega)) HB.out)
  case false =>
    obtain ⟨c0, c1, f0, f1⟩ := cells2 HF3.out
    obtain ⟨p0, p1, q0, q1⟩ := cells2 HX3.out
    have hszz : w.heap.size < w3.heap.size := by omega
    go_wp2
    obtain ⟨k0, k1⟩ := keepT (Y := w3) (g := w.heap.size) (u := .int .i64 x) (v := .int .i64 z) p0 p1
    exact bodyPost_ret (v := .agg #[.int .i64 x, .int .i64 z]) (by simp [results, Try.results81, go_sem, k0, k1]) rfl (anyEnd HXX.out HY.out HC3.out HG3.out HB.out)

/-- A number and a term. -/
def NamOut (w : World) (e : Ending) (w' : World) : Prop :=
  ∃ n m v : Int, e = .returned (.tuple #[.int .i64 n, .agg #[.int .i64 m, .int .i64 v]]) ∧ In64 n ∧ In64 m ∧ In64 v ∧ Below w.heap.size w w'

theorem Draw.named (av : Value) (len : Nat) (w : World) (hc : CodeIn w av len) :
    Calls Try.prog 76 #[av] w (NamOut w) := by
  have HC := Lib.hid hc
  obtain ⟨ad, cap, rfl, _, _⟩ := hc
  have BA := Lib.hid ((Below.refl w.heap.size w).alloc (Nat.le_refl _) (.cells #[.int .i64 0, .int .i64 0] 25))
  go_enter Try.func76, Try.ntmps76
  go_wp2_with fail
  refine (Cur.new _ len _ (HC.out.below BA.out)).mono ?_
  rintro e w1 ⟨b, rfl, hb, hc1, hs1, hb1⟩
  simp only [World.size_alloc] at hb
  have HBN : Hid (w.heap.size ≤ b) := Lib.hid (by omega)
  have B1 := Lib.hid (BA.out.trans (hb1.mono (by simp)))
  have X1 := Lib.hid ((hb1.block w.heap.size (by simp)).trans (heap_alloc_new w _))
  have C1 := Lib.hid hc1
  have S1 := Lib.hid hs1
  have HBE : Hid (b ≠ w.heap.size) := Lib.hid (by omega)
  clear hc1 hs1 hb1
  go_wp2_with fail
  refine (Cur.pickInt b _ len _ listN6 _ (C1.out.alloc _) (S1.out.alloc _) (intsNew w1 b C1.out.lt listN6 _ (by decide) (by decide))).mono ?_
  rintro e w2 ⟨y, rfl, hy, hc2, hg2⟩
  obtain ⟨j, hj, rfl⟩ := hy
  have HJ := Lib.hid (listN6_in j hj)
  have hs2 := hg2.size
  have HG2 := Lib.hid (grownTrans (World.grownBy_alloc w1 _ (some b)) hg2)
  have C2 := Lib.hid hc2
  have S2 := Lib.hid (S1.out.grown HG2.out)
  have B2 := Lib.hid (grownNew B1.out HG2.out HBN.out)
  have X2 := Lib.hid (blockOver X1.out HG2.out (by have := HBE.out; omega))
  generalize listN6.getD j 0 = n at HJ ⊢
  clear hc2 hg2 hj
  go_wp2_with fail
  refine (Draw.term b _ len _ C2.out S2.out).mono ?_
  rintro e w3 ⟨m, v, rfl, hm, hv, hc3, hg3⟩
  have hs3 := hg3.size
  have MM := Lib.hid hm
  have VV := Lib.hid hv
  have B3 := Lib.hid (grownNew B2.out hg3 HBN.out)
  have X3 := Lib.hid (blockOver X2.out hg3 (by have := HBE.out; omega))
  obtain ⟨z0, z1, g0, g1⟩ := cells2 X3.out
  have hz : w.heap.size < w3.heap.size := lt_of_block X3.out
  clear hm hv hc3 hg3
  go_wp2
  obtain ⟨k0, k1⟩ := keepT (Y := w3) (g := w.heap.size) (u := .int .i64 m) (v := .int .i64 v) z0 z1
  exact bodyPost_ret (v := .tuple #[.int .i64 n, .agg #[.int .i64 m, .int .i64 v]]) (by simp [results, Try.results76, go_sem, k0, k1]) rfl ⟨n, m, v, rfl, HJ.out, MM.out, VV.out, bS (Nat.le_refl _) (bS (Nat.le_refl _) B3.out)⟩

theorem Draw.format (av : Value) (len : Nat) (w : World) (hc : CodeIn w av len) :
    Calls Try.prog 46 #[av] w (NamOut w) := by
  have HC := Lib.hid hc
  obtain ⟨ad, cap, rfl, _, _⟩ := hc
  have BA := Lib.hid ((Below.refl w.heap.size w).alloc (Nat.le_refl _) (.cells #[.int .i64 0, .int .i64 0] 25))
  go_enter Try.func46, Try.ntmps46
  go_wp2_with fail
  refine (Draw.named _ len _ (HC.out.below BA.out)).mono ?_
  rintro e w1 ⟨n, m, v, rfl, hn, hm, hv, hb1⟩
  have NN := Lib.hid hn
  have MM := Lib.hid hm
  have VV := Lib.hid hv
  have B1 := Lib.hid (BA.out.trans (hb1.mono (by simp)))
  have X1 := Lib.hid ((hb1.block w.heap.size (by simp)).trans (heap_alloc_new w _))
  obtain ⟨z0, z1, g0, g1⟩ := cells2 X1.out
  have hz : w.heap.size < w1.heap.size := lt_of_block X1.out
  clear hn hm hv hb1
  go_wp2
  go_region_with (fail)
  all_goals
    go_wp2
    obtain ⟨k0, k1⟩ := keepT (Y := w1) (g := w.heap.size) (u := .int .i64 m) (v := .int .i64 v) z0 z1
    have m0 := keepA (o := .cells #[.int .i64 m, .int .i64 v] 25) k0
    have m1 := keepA (o := .cells #[.int .i64 m, .int .i64 v] 25) k1
    exact bodyPost_ret (v := .tuple #[.int .i64 n, .agg #[.int .i64 m, .int .i64 v]]) (by simp [results, Try.results46, go_sem, m0, m1]) rfl ⟨n, m, v, rfl, NN.out, MM.out, VV.out, by
      repeat (first | (with_reducible exact B1.out) | ((with_reducible refine bS ?_ ?_); (focus (dsimp only; omega))) | ((with_reducible refine bA ?_ ?_); (focus (first | omega | (simp; done) | (simp; omega)))) | (with_reducible refine bD ?_))⟩

theorem Draw.minimal (av : Value) (len : Nat) (w : World) (hc : CodeIn w av len) :
    Calls Try.prog 44 #[av] w (OneOut w) := by
  have HC := Lib.hid hc
  obtain ⟨ad, cap, rfl, _, _⟩ := hc
  have BA := Lib.hid ((Below.refl w.heap.size w).alloc (Nat.le_refl _) (.cells #[.int .i64 0, .int .i64 0] 38))
  go_enter Try.func44, Try.ntmps44
  go_wp2_with fail
  refine (Cur.new _ len _ (HC.out.below BA.out)).mono ?_
  rintro e w1 ⟨b, rfl, hb, hc1, hs1, hb1⟩
  simp only [World.size_alloc] at hb
  have HBN : Hid (w.heap.size ≤ b) := Lib.hid (by omega)
  have B1 := Lib.hid (BA.out.trans (hb1.mono (by simp)))
  have X1 := Lib.hid ((hb1.block w.heap.size (by simp)).trans (heap_alloc_new w _))
  have C1 := Lib.hid hc1
  have S1 := Lib.hid hs1
  have HBE : Hid (b ≠ w.heap.size) := Lib.hid (by omega)
  clear hc1 hs1 hb1
  go_wp2_with fail
  refine (Draw.any b _ len _ C1.out S1.out).mono ?_
  rintro e w2 ⟨n, a, rfl, hn, ha, hc2, hg2⟩
  have hs2 := hg2.size
  have NN := Lib.hid hn
  have AA := Lib.hid ha
  have B2 := Lib.hid (grownNew B1.out hg2 HBN.out)
  have X2 := Lib.hid (blockOver X1.out hg2 (by have := HBE.out; omega))
  obtain ⟨z0, z1, g0, g1⟩ := cells2 X2.out
  have hz : w.heap.size < w2.heap.size := lt_of_block X2.out
  clear hn ha hc2 hg2
  go_wp2
  obtain ⟨k0, k1⟩ := keepT (Y := w2) (g := w.heap.size) (u := .int .i64 n) (v := .int .i64 a) z0 z1
  exact bodyPost_ret (v := .agg #[.int .i64 n, .int .i64 a]) (by simp [results, Try.results44, go_sem, k0, k1]) rfl ⟨n, a, rfl, NN.out, AA.out, bS (Nat.le_refl _) (bS (Nat.le_refl _) B2.out)⟩

/-- A term and a number. -/
def TnOut (w : World) (e : Ending) (w' : World) : Prop :=
  ∃ m v x : Int, e = .returned (.tuple #[.agg #[.int .i64 m, .int .i64 v], .int .i64 x]) ∧ In64 m ∧ In64 v ∧ In64 x ∧ Below w.heap.size w w'
theorem tnEnd {w wr : World} {n a i : Int} {u v : Value} (hn : In64 n) (ha : In64 a) (hi : In64 i) (hb : Below w.heap.size w wr) :
    TnOut w (.returned (.tuple #[.agg #[.int .i64 n, .int .i64 a], .int .i64 i])) ((wr.setCell ⟨w.heap.size, 0, none⟩ u).setCell ⟨w.heap.size, 1, none⟩ v) :=
  ⟨n, a, i, rfl, hn, ha, hi, bS (Nat.le_refl _) (bS (Nat.le_refl _) hb)⟩

set_option maxRecDepth 100000 in
set_option maxHeartbeats 2000000 in
theorem Draw.holds (av : Value) (len : Nat) (w : World) (hc : CodeIn w av len) :
    Calls Try.prog 49 #[av] w (TnOut w) := by
  have HC := Lib.hid hc
  obtain ⟨ad, cap, rfl, _, _⟩ := hc
  have BA := Lib.hid ((Below.refl w.heap.size w).alloc (Nat.le_refl _) (.cells #[.int .i64 0, .int .i64 0] 25))
  go_enter Try.func49, Try.ntmps49
  go_wp2_with fail
  refine (Cur.new _ len _ (HC.out.below BA.out)).mono ?_
  rintro e w1 ⟨b, rfl, hb, hc1, hs1, hb1⟩
  simp only [World.size_alloc] at hb
  have HBN : Hid (w.heap.size ≤ b) := Lib.hid (by omega)
  have B1 := Lib.hid (BA.out.trans (hb1.mono (by simp)))
  have X1 := Lib.hid ((hb1.block w.heap.size (by simp)).trans (heap_alloc_new w _))
  have C1 := Lib.hid hc1
  have S1 := Lib.hid hs1
  have HBE : Hid (b ≠ w.heap.size) := Lib.hid (by omega)
  clear hc1 hs1 hb1
  go_wp2_with fail
  refine (Draw.term b _ len _ C1.out S1.out).mono ?_
  rintro e w2 ⟨n, a, rfl, hn, ha, hc2, hg2⟩
  have NN := Lib.hid hn
  have AA := Lib.hid ha
  have B2 := Lib.hid ((grownNew B1.out hg2 HBN.out).alloc (by have := B1.out.size; have := hg2.size; omega) (.cells #[.int .i64 n, .int .i64 a] 25))
  have X2 := Lib.hid (blockAlloc (blockOver X1.out hg2 (by have := HBE.out; omega)) (.cells #[.int .i64 n, .int .i64 a] 25))
  have F2 := Lib.hid (heap_alloc_new w2 (.cells #[.int .i64 n, .int .i64 a] 25))
  have C2 := Lib.hid (hc2.alloc (.cells #[.int .i64 n, .int .i64 a] 25))
  have S2 := Lib.hid ((S1.out.grown hg2).alloc (.cells #[.int .i64 n, .int .i64 a] 25))
  have HBF : Hid (some w2.heap.size ≠ some b) := Lib.hid (by have := hc2.lt; simp; omega)
  have hs2' : w.heap.size < w2.heap.size := by have := lt_of_block X1.out; have := hg2.size; omega
  obtain ⟨c0, c1, _, _⟩ := cells2 F2.out
  have F0 := Lib.hid c0
  have F1 := Lib.hid c1
  clear hn ha hc2 hg2 c0 c1
  have hs2'' : w.heap.size < (w2.alloc (.cells #[.int .i64 n, .int .i64 a] 25)).drew.heap.size := by simp; omega
  go_wp2_with fail
  go_region_held3 (fun w' => w'.cell? ⟨w2.heap.size, 0, none⟩ = some (.int .i64 n) ∧ w'.cell? ⟨w2.heap.size, 1, none⟩ = some (.int .i64 a))
    ((first | (go_split_ands; (try dsimp only); (refine ⟨?_, ?_⟩ <;> (repeat (first | with_reducible assumption | exact hg3.cell F0.out HBF.out | exact hg3.cell F1.out HBF.out | ((with_reducible refine keepS ?_ ?_); (focus (dsimp only; omega)))))); done) | go_keep))
    (first | (go_at_call 77; refine (Cur.below b _ len 34 (by omega) _ (by exact C2.out) (by exact S2.out)).mono ?_; rintro e w3 ⟨x, rfl, ⟨hx0, hx7, _⟩, hc3, hg3⟩; have hx8 : x < 34 := hx7 (by omega); obtain ⟨z0, z1, g0, g1⟩ := cells2 (resOver X2.out hg3 HBE.out); have hs3' : w.heap.size < w3.heap.size := Nat.lt_of_lt_of_le hs2'' hg3.size; clear hx7))
  all_goals
    go_wp2
    obtain ⟨k0, k1⟩ := keepT (Y := w3) (g := w.heap.size) (u := .int .i64 n) (v := .int .i64 a) z0 z1
    exact bodyPost_ret (v := .tuple #[.agg #[.int .i64 n, .int .i64 a], .int .i64 (IntKind.i64.wrap (x - 1))]) (by simp [results, Try.results49, go_sem, k0, k1]) rfl (tnEnd NN.out AA.out (wrap_in _) (grownNew (bD B2.out) hg3 HBN.out))

end Go.Proofs.Ytkamopckpmiioaa
