/-
  What is drawn from a code for JoinTables: two tables.
-/
import Derived.Test.YtecakbjcnabpnaaDrawH
namespace Go.Proofs.Ytecakbjcnabpnaa
open Go.RowKit Plain
set_option linter.unusedVariables false
attribute [local go_sem ↓] Go.wp_at_zero Go.wp_at_succ

/-- Two tables. -/
def TwoOut (w : World) (e : Ending) (w' : World) : Prop :=
  ∃ n a m c : Int, e = .returned (.tuple #[.agg #[.int .i64 n, .int .i64 a], .agg #[.int .i64 m, .int .i64 c]]) ∧ In64 n ∧ In64 a ∧ In64 m ∧ In64 c ∧ Below w.heap.size w w'
theorem twoRes {w : World} {p q : Nat} (hne : p ≠ q) {x0 x1 y0 y1 : Value} (x y u v : Value) (h0 : w.cell? ⟨p, 0, none⟩ = some x0) (h1 : w.cell? ⟨p, 1, none⟩ = some x1) (h2 : w.cell? ⟨q, 0, none⟩ = some y0) (h3 : w.cell? ⟨q, 1, none⟩ = some y1) :
    ((((w.setCell ⟨p, 0, none⟩ x).setCell ⟨p, 1, none⟩ y).setCell ⟨q, 0, none⟩ u).setCell ⟨q, 1, none⟩ v).cell? ⟨p, 0, none⟩ = some x ∧ ((((w.setCell ⟨p, 0, none⟩ x).setCell ⟨p, 1, none⟩ y).setCell ⟨q, 0, none⟩ u).setCell ⟨q, 1, none⟩ v).cell? ⟨p, 1, none⟩ = some y ∧
    ((((w.setCell ⟨p, 0, none⟩ x).setCell ⟨p, 1, none⟩ y).setCell ⟨q, 0, none⟩ u).setCell ⟨q, 1, none⟩ v).cell? ⟨q, 0, none⟩ = some u ∧ ((((w.setCell ⟨p, 0, none⟩ x).setCell ⟨p, 1, none⟩ y).setCell ⟨q, 0, none⟩ u).setCell ⟨q, 1, none⟩ v).cell? ⟨q, 1, none⟩ = some v := by
  obtain ⟨a0, a1⟩ := keepT (u := x) (v := y) h0 h1
  have b0 := keepS (p := ⟨p, 1, none⟩) (u := y) hne (keepS (p := ⟨p, 0, none⟩) (u := x) hne h2)
  have b1 := keepS (p := ⟨p, 1, none⟩) (u := y) hne (keepS (p := ⟨p, 0, none⟩) (u := x) hne h3)
  obtain ⟨c0, c1⟩ := keepT (u := u) (v := v) b0 b1
  exact ⟨keepS (Ne.symm hne) (keepS (Ne.symm hne) a0), keepS (Ne.symm hne) (keepS (Ne.symm hne) a1), c0, c1⟩
theorem grownAny {w w' : World} (hb : Below w.heap.size w w') (r : Option Nat) : w.grownBy w' r := ⟨hb.os, hb.tape, hb.output, hb.size, fun i hi _ => hb.block i hi⟩

set_option maxRecDepth 100000 in
set_option maxHeartbeats 4000000 in
theorem Draw.two (av : Value) (len : Nat) (w : World) (hc : CodeIn w av len) :
    Calls Try.prog 85 #[av] w (TwoOut w) := by
  have HC := Lib.hid hc
  obtain ⟨ad, cap, rfl, _, _⟩ := hc
  go_enter Try.func85, Try.ntmps85
  go_wp2_with fail
  have BA := Lib.hid (((Below.refl w.heap.size w).alloc (Nat.le_refl _) (.cells #[.int .i64 0, .int .i64 0] 25)).alloc (by simp) (.cells #[.int .i64 0, .int .i64 0] 25))
  refine (Cur.new _ len _ (HC.out.below BA.out)).mono ?_
  rintro e w1 ⟨b, rfl, hb, hc1, hs1, hb1⟩
  simp only [World.size_alloc] at hb
  have HBN : Hid (w.heap.size ≤ b) := Lib.hid (by omega)
  have B1 := Lib.hid (BA.out.trans (hb1.mono (by simp <;> omega)))
  have X1 := Lib.hid ((hb1.block w.heap.size (by simp <;> omega)).trans (heap_alloc2_old w _ _))
  have Y1 := Lib.hid ((hb1.block (w.heap.size + 1) (by simp <;> omega)).trans (heap_alloc2_new w _ _))
  have C1 := Lib.hid hc1
  have S1 := Lib.hid hs1
  have HBE : Hid (b ≠ w.heap.size ∧ b ≠ w.heap.size + 1) := Lib.hid (by omega)
  clear hc1 hs1 hb1
  go_wp2_with fail
  refine (Draw.any b _ len _ C1.out S1.out).mono ?_
  rintro e w2 ⟨n, a, rfl, hn, ha, hc2, hg2⟩
  have hs2 := hg2.size
  have NN := Lib.hid hn
  have AA := Lib.hid ha
  have B2 := Lib.hid ((grownNew B1.out hg2 HBN.out).alloc (by have := B1.out.size; omega) (.cells #[.int .i64 n, .int .i64 a] 25))
  have X2 := Lib.hid (blockAlloc (blockOver X1.out hg2 (by have := HBE.out.1; omega)) (.cells #[.int .i64 n, .int .i64 a] 25))
  have Y2 := Lib.hid (blockAlloc (blockOver Y1.out hg2 (by have := HBE.out.2; omega)) (.cells #[.int .i64 n, .int .i64 a] 25))
  have F2 := Lib.hid (heap_alloc_new w2 (.cells #[.int .i64 n, .int .i64 a] 25))
  have C2 := Lib.hid (hc2.alloc (.cells #[.int .i64 n, .int .i64 a] 25))
  have S2 := Lib.hid ((S1.out.grown hg2).alloc (.cells #[.int .i64 n, .int .i64 a] 25))
  have HBF : Hid (some w2.heap.size ≠ some b) := Lib.hid (by have := hc2.lt; simp; omega)
  have hs2' : w.heap.size + 1 < w2.heap.size := by have := lt_of_block Y1.out; omega
  clear hn ha hc2 hg2
  go_wp2_with fail
  refine (Tab.model _ _ _).mono ?_
  rintro e w3 ⟨rfl, hb3⟩
  have hg3 := grownAny hb3 (some b)
  have hs3 : w2.heap.size + 1 ≤ w3.heap.size := by have := hb3.size; simp at this; omega
  have B3 := Lib.hid (grownNew B2.out hg3 HBN.out)
  have X3 := Lib.hid (blockOver X2.out hg3 (by have := HBE.out.1; omega))
  have Y3 := Lib.hid (blockOver Y2.out hg3 (by have := HBE.out.2; omega))
  have F3 := Lib.hid (blockOver F2.out hg3 (by have := HBF.out; simp at this; omega))
  have C3 := Lib.hid (C2.out.below hb3 C2.out.lt)
  have S3 := Lib.hid (S2.out.grown hg3)
  clear hb3 hg3
  cases ht : isT n a with
  | false =>
    have NF : Hid (isT n a = false) := Lib.hid ht
    clear ht
    obtain ⟨c0, c1, _, _⟩ := cells2 F3.out
    have F0 := Lib.hid c0
    have F1 := Lib.hid c1
    have hsq : w.heap.size + 1 < w3.drew.heap.size := by simp; omega
    have hsq0 : w2.heap.size < w3.heap.size := by omega
    clear c0 c1
    go_wp2_with fail
    go_region_held3 (fun w' => w'.cell? ⟨w2.heap.size, 0, none⟩ = some (.int .i64 n) ∧ w'.cell? ⟨w2.heap.size, 1, none⟩ = some (.int .i64 a))
      ((first | (go_split_ands; (try dsimp only); (refine ⟨?_, ?_⟩ <;> (repeat (first | with_reducible assumption | with_reducible exact F0.out | with_reducible exact F1.out | (with_reducible refine keepD ?_) | ((with_reducible refine keepS ?_ ?_); (focus (dsimp only; omega))) | exact hg5.cell F0.out HBF.out | exact hg5.cell F1.out HBF.out))); done) | go_keep))
      (first | (go_at_call 72; refine (Draw.any b _ len _ (by exact C3.out) (by exact S3.out)).mono ?_; rintro e w5 ⟨n', a', rfl, hn', ha', hc5, hg5⟩; obtain ⟨z0, z1, g0, g1⟩ := cells2 (resOver X3.out hg5 HBE.out.1); obtain ⟨y0, y1, h0, h1⟩ := cells2 (resOver Y3.out hg5 HBE.out.2); have hs5' : w.heap.size + 1 < w5.heap.size := Nat.lt_of_lt_of_le hsq hg5.size; have hs5 : w.heap.size < w5.heap.size := Nat.lt_of_succ_lt hs5'))
    all_goals
      have NN5 : Hid (In64 n') := Lib.hid (hn')
      have AA5 := Lib.hid ha'
      have B5 := Lib.hid (grownNew (bD B3.out) hg5 HBN.out)
      have K1 := Lib.hid (twoRes (by omega) (.int .i64 n) (.int .i64 a) (.int .i64 n') (.int .i64 a') z0 z1 y0 y1)
      have K2 := Lib.hid (twoRes (by omega) (.int .i64 n') (.int .i64 a') (.int .i64 n) (.int .i64 a) y0 y1 z0 z1)
      clear hn' ha' hc5 hg5
      go_wp2
      first
      | (obtain ⟨k0, k1, k2, k3⟩ := K1.out
         exact bodyPost_ret (v := .tuple #[.agg #[.int .i64 n, .int .i64 a], .agg #[.int .i64 n', .int .i64 a']]) (by simp [results, Try.results85, go_sem, k0, k1, k2, k3]) rfl ⟨_, a, n', a', rfl, NN.out, AA.out, NN5.out, AA5.out, by exact bS (by dsimp only; omega) (bS (by dsimp only; omega) (bS (by dsimp only; omega) (bS (by dsimp only; omega) B5.out)))⟩)
      | (obtain ⟨k0, k1, k2, k3⟩ := K2.out
         exact bodyPost_ret (v := .tuple #[.agg #[.int .i64 n, .int .i64 a], .agg #[.int .i64 n', .int .i64 a']]) (by simp [results, Try.results85, go_sem, k0, k1, k2, k3]) rfl ⟨_, a, n', a', rfl, NN.out, AA.out, NN5.out, AA5.out, by exact bS (by dsimp only; omega) (bS (by dsimp only; omega) (bS (by dsimp only; omega) (bS (by dsimp only; omega) B5.out)))⟩)
  | true =>
    obtain ⟨k, y, hk, hy', hk5, _⟩ := isT_nat ht
    subst hk
    have HK := Lib.hid hk5
    clear ht hy' hk5
    go_wp2_with fail
    refine (Draw.once b _ len 6 (by omega) _ C3.out S3.out).mono ?_
    rintro e w4 ⟨r, rfl, hc4, hg4⟩
    have hs4 : w2.heap.size + 1 ≤ w4.heap.size := Nat.le_trans hs3 hg4.size
    have B4 := Lib.hid (grownNew B3.out hg4 HBN.out)
    have X4 := Lib.hid (blockOver X3.out hg4 (by have := HBE.out.1; omega))
    have Y4 := Lib.hid (blockOver Y3.out hg4 (by have := HBE.out.2; omega))
    have F4 := Lib.hid (blockOver F3.out hg4 (by have := HBF.out; simp at this; omega))
    have C4 := Lib.hid hc4
    have S4 := Lib.hid (S3.out.grown hg4)
    clear hc4 hg4
    cases r with
    | true =>
      obtain ⟨c0, c1, _, _⟩ := cells2 F4.out
      have F0 := Lib.hid c0
      have F1 := Lib.hid c1
      have hsq : w.heap.size + 1 < w4.drew.heap.size := by simp; omega
      have hsq0 : w2.heap.size < w4.heap.size := by omega
      clear c0 c1
      go_wp2_with fail
      go_region_held3 (fun w' => w'.cell? ⟨w2.heap.size, 0, none⟩ = some (.int .i64 (k : Int)) ∧ w'.cell? ⟨w2.heap.size, 1, none⟩ = some (.int .i64 a))
        ((first | (go_split_ands; (try dsimp only); (refine ⟨?_, ?_⟩ <;> (repeat (first | with_reducible assumption | with_reducible exact F0.out | with_reducible exact F1.out | (with_reducible refine keepD ?_) | ((with_reducible refine keepS ?_ ?_); (focus (dsimp only; omega))) | exact hg5.cell F0.out HBF.out | exact hg5.cell F1.out HBF.out))); done) | go_keep))
        (first | (go_at_call 72; refine (Draw.any b _ len _ (by exact C4.out) (by exact S4.out)).mono ?_; rintro e w5 ⟨n', a', rfl, hn', ha', hc5, hg5⟩; obtain ⟨z0, z1, g0, g1⟩ := cells2 (resOver X4.out hg5 HBE.out.1); obtain ⟨y0, y1, h0, h1⟩ := cells2 (resOver Y4.out hg5 HBE.out.2); have hs5' : w.heap.size + 1 < w5.heap.size := Nat.lt_of_lt_of_le hsq hg5.size; have hs5 : w.heap.size < w5.heap.size := Nat.lt_of_succ_lt hs5'))
      all_goals
        have NN5 : Hid (In64 n') := Lib.hid (hn')
        have AA5 := Lib.hid ha'
        have B5 := Lib.hid (grownNew (bD B4.out) hg5 HBN.out)
        have K1 := Lib.hid (twoRes (by omega) (.int .i64 (k : Int)) (.int .i64 a) (.int .i64 n') (.int .i64 a') z0 z1 y0 y1)
        have K2 := Lib.hid (twoRes (by omega) (.int .i64 n') (.int .i64 a') (.int .i64 (k : Int)) (.int .i64 a) y0 y1 z0 z1)
        clear hn' ha' hc5 hg5
        go_wp2
        first
        | (obtain ⟨k0, k1, k2, k3⟩ := K1.out
           exact bodyPost_ret (v := .tuple #[.agg #[.int .i64 (k : Int), .int .i64 a], .agg #[.int .i64 n', .int .i64 a']]) (by simp [results, Try.results85, go_sem, k0, k1, k2, k3]) rfl ⟨_, a, n', a', rfl, NN.out, AA.out, NN5.out, AA5.out, by exact bS (by dsimp only; omega) (bS (by dsimp only; omega) (bS (by dsimp only; omega) (bS (by dsimp only; omega) B5.out)))⟩)
        | (obtain ⟨k0, k1, k2, k3⟩ := K2.out
           exact bodyPost_ret (v := .tuple #[.agg #[.int .i64 (k : Int), .int .i64 a], .agg #[.int .i64 n', .int .i64 a']]) (by simp [results, Try.results85, go_sem, k0, k1, k2, k3]) rfl ⟨_, a, n', a', rfl, NN.out, AA.out, NN5.out, AA5.out, by exact bS (by dsimp only; omega) (bS (by dsimp only; omega) (bS (by dsimp only; omega) (bS (by dsimp only; omega) B5.out)))⟩)
    | false =>
      obtain ⟨c0, c1, _, _⟩ := cells2 F4.out
      have F0 := Lib.hid c0
      have F1 := Lib.hid c1
      have hsq : w.heap.size + 1 < w4.drew.heap.size := by simp; omega
      have hsq0 : w2.heap.size < w4.heap.size := by omega
      clear c0 c1
      go_wp2_with fail
      go_region_held3 (fun w' => w'.cell? ⟨w2.heap.size, 0, none⟩ = some (.int .i64 (k : Int)) ∧ w'.cell? ⟨w2.heap.size, 1, none⟩ = some (.int .i64 a))
        ((first | (go_split_ands; (try dsimp only); (refine ⟨?_, ?_⟩ <;> (repeat (first | with_reducible assumption | with_reducible exact F0.out | with_reducible exact F1.out | (with_reducible refine keepD ?_) | ((with_reducible refine keepS ?_ ?_); (focus (dsimp only; omega))) | exact hg5.cell F0.out HBF.out | exact hg5.cell F1.out HBF.out))); done) | go_keep))
        (first | (go_at_call 105; refine (Draw.tab b _ len k HK.out _ (by exact C4.out) (by exact S4.out)).mono ?_; rintro e w5 ⟨_, a', rfl, rfl, ha', hc5, hg5⟩; obtain ⟨z0, z1, g0, g1⟩ := cells2 (resOver X4.out hg5 HBE.out.1); obtain ⟨y0, y1, h0, h1⟩ := cells2 (resOver Y4.out hg5 HBE.out.2); have hs5' : w.heap.size + 1 < w5.heap.size := Nat.lt_of_lt_of_le hsq hg5.size; have hs5 : w.heap.size < w5.heap.size := Nat.lt_of_succ_lt hs5'))
      all_goals
        have NN5 : Hid (In64 (k : Int)) := Lib.hid (by have := HK.out; unfold In64; omega)
        have AA5 := Lib.hid ha'
        have B5 := Lib.hid (grownNew (bD B4.out) hg5 HBN.out)
        have K1 := Lib.hid (twoRes (by omega) (.int .i64 (k : Int)) (.int .i64 a) (.int .i64 (k : Int)) (.int .i64 a') z0 z1 y0 y1)
        have K2 := Lib.hid (twoRes (by omega) (.int .i64 (k : Int)) (.int .i64 a') (.int .i64 (k : Int)) (.int .i64 a) y0 y1 z0 z1)
        clear ha' hc5 hg5
        go_wp2
        first
        | (obtain ⟨k0, k1, k2, k3⟩ := K1.out
           exact bodyPost_ret (v := .tuple #[.agg #[.int .i64 (k : Int), .int .i64 a], .agg #[.int .i64 (k : Int), .int .i64 a']]) (by simp [results, Try.results85, go_sem, k0, k1, k2, k3]) rfl ⟨_, a, _, a', rfl, NN.out, AA.out, NN5.out, AA5.out, by exact bS (by dsimp only; omega) (bS (by dsimp only; omega) (bS (by dsimp only; omega) (bS (by dsimp only; omega) B5.out)))⟩)
        | (obtain ⟨k0, k1, k2, k3⟩ := K2.out
           exact bodyPost_ret (v := .tuple #[.agg #[.int .i64 (k : Int), .int .i64 a], .agg #[.int .i64 (k : Int), .int .i64 a']]) (by simp [results, Try.results85, go_sem, k0, k1, k2, k3]) rfl ⟨_, a, _, a', rfl, NN.out, AA.out, NN5.out, AA5.out, by exact bS (by dsimp only; omega) (bS (by dsimp only; omega) (bS (by dsimp only; omega) (bS (by dsimp only; omega) B5.out)))⟩)
end Go.Proofs.Ytecakbjcnabpnaa
