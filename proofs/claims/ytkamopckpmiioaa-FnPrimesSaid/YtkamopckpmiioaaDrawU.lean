/-
  Chapter 6: the draws of a table with a term, and of lists of terms.
-/
import Derived.Test.YtkamopckpmiioaaDrawT
namespace Go.Proofs.Ytkamopckpmiioaa
open Go.RowKit Plain
set_option linter.unusedVariables false
attribute [local go_sem ↓] Go.wp_at_zero Go.wp_at_succ

theorem TmRow.over {w w' : World} {B b : Nat} {v : Value} {l : List Ti} (h : TmRow w B v l) (hg : w.grownBy w' (some b)) (hb : b < B) : TmRow w' B v l := by
  refine h.kept hg ?_
  cases hv : v.ownBlock with
  | none => exact .inl rfl
  | some g =>
    refine .inr ?_
    have := (h.lt g hv).1
    simp
    omega

theorem TmRow.pick {w : World} {B g cap : Nat} {l : List Ti} (h : TmRow w B (.slice (some ⟨g, 0, none⟩) l.length cap) l) (hx : Small2 l) (j : Nat) (hj : (j : Int) < (l.length : Int)) :
    ∃ p q : Int, w.cell? ⟨g, j * 2, none⟩ = some (.int .i64 p) ∧ w.cell? ⟨g, j * 2 + 1, none⟩ = some (.int .i64 q) ∧ In64 p ∧ In64 q := by
  have hjl : j < l.length := by omega
  obtain ⟨t0, t1⟩ := h.cell j hjl
  have hs := hx _ (getDt hjl)
  exact ⟨_, _, t0, t1, hs.1, hs.2⟩

set_option maxRecDepth 100000 in
set_option maxHeartbeats 8000000 in
theorem Draw.both6 (av : Value) (len : Nat) (w : World) (hc : CodeIn w av len) :
    Calls Try.prog 80 #[av] w (TwoOut w) := by
  have HC := Lib.hid hc
  obtain ⟨ad, cap, rfl, _, _⟩ := hc
  go_enter Try.func80, Try.ntmps80
  go_wp2_with fail
  have BA := Lib.hid (((Below.refl w.heap.size w).alloc (Nat.le_refl _) (.cells #[.int .i64 0, .int .i64 0] 38)).alloc (by simp) (.cells #[.int .i64 0, .int .i64 0] 25))
  refine (Cur.new _ len _ (HC.out.below BA.out)).mono ?_
  rintro e w1 ⟨b, rfl, hb, hc1, hs1, hb1⟩
  simp only [World.size_alloc] at hb
  have HBN : Hid (w.heap.size ≤ b) := Lib.hid (by omega)
  have B1 := Lib.hid (BA.out.trans (hb1.mono (by simp <;> omega)))
  have X1 := Lib.hid ((hb1.block w.heap.size (by simp <;> omega)).trans (heap_alloc2_old w _ _))
  have Y1 := Lib.hid ((hb1.block (w.heap.size + 1) (by simp <;> omega)).trans (heap_alloc2_new w _ _))
  have C1 := Lib.hid hc1
  have S1 := Lib.hid hs1
  have HBE : Hid (b ≠ w.heap.size ∧ b ≠ w.heap.size + 1) := Lib.hid (by omega)
  clear hc1 hs1 hb1
  go_wp2_with fail
  refine (Draw.any b _ len _ C1.out S1.out).mono ?_
  rintro e w2 ⟨n, a, rfl, hn, ha, hc2, hg2⟩
  have hs2 := hg2.size
  have NN := Lib.hid hn
  have AA := Lib.hid ha
  have B2 := Lib.hid ((grownNew B1.out hg2 HBN.out).alloc (by have := B1.out.size; omega) (.cells #[.int .i64 n, .int .i64 a] 38))
  have X2 := Lib.hid (blockAlloc (blockOver X1.out hg2 (by have := HBE.out.1; omega)) (.cells #[.int .i64 n, .int .i64 a] 38))
  have Y2 := Lib.hid (blockAlloc (blockOver Y1.out hg2 (by have := HBE.out.2; omega)) (.cells #[.int .i64 n, .int .i64 a] 38))
  have F2 := Lib.hid (heap_alloc_new w2 (.cells #[.int .i64 n, .int .i64 a] 38))
  have C2 := Lib.hid (hc2.alloc (.cells #[.int .i64 n, .int .i64 a] 38))
  have S2 := Lib.hid ((S1.out.grown hg2).alloc (.cells #[.int .i64 n, .int .i64 a] 38))
  have HBF : Hid (some w2.heap.size ≠ some b) := Lib.hid (by have := hc2.lt; simp; omega)
  have HBW : Hid (b < w2.heap.size) := Lib.hid hc2.lt
  have hs2' : w.heap.size + 1 < w2.heap.size := by have := lt_of_block Y1.out; omega
  have HPM := Lib.hid (Prm.ofM n a)
  have HLO := Lib.hid (primesT_ok n a)
  generalize primesT n a = L at HPM HLO
  generalize isT n a = c at HPM
  clear hn ha hc2 hg2
  go_wp2_with fail
  refine (HPM.out _).mono ?_
  rintro e w3 ⟨⟨v, rfl, hrow⟩, hb3⟩
  have hg3 := grownAny hb3 (some b)
  have hs3 : w2.heap.size + 1 ≤ w3.heap.size := by have := hb3.size; simp at this; omega
  have B3 := Lib.hid (grownNew B2.out hg3 HBN.out)
  have X3 := Lib.hid (blockOver X2.out hg3 (by have := HBE.out.1; omega))
  have Y3 := Lib.hid (blockOver Y2.out hg3 (by have := HBE.out.2; omega))
  have F3 := Lib.hid (blockOver F2.out hg3 (by have := HBF.out; simp at this; omega))
  have C3 := Lib.hid (C2.out.below hb3 C2.out.lt)
  have S3 := Lib.hid (S2.out.grown hg3)
  have R3 := Lib.hid hrow
  rw [World.size_alloc] at R3
  have HB2 : Hid (b < w2.heap.size + 1) := Lib.hid (by have := HBW.out; omega)
  clear hb3 hg3 hrow HPM
  obtain ⟨sa, cp, rfl⟩ : ∃ sa cp, v = .slice sa L.length cp := by
    rcases R3.out.shape with ⟨rfl, hnil⟩ | ⟨g, cp, rfl, _⟩
    · rw [hnil]; exact ⟨_, _, rfl⟩
    · exact ⟨_, _, rfl⟩
  have hlz : (L.length : Int) ≤ 243 := by have := HLO.out.1; omega
  by_cases hyes : c = true ∧ 0 < L.length
  · obtain ⟨rfl, hpos⟩ := hyes
    obtain ⟨g, hgB, hgl, hgw, hgc⟩ : ∃ g, sa = some ⟨g, 0, none⟩ ∧ w2.heap.size + 1 ≤ g ∧ g < w3.heap.size ∧ L.length ≤ cp := by
      rcases R3.out.shape with ⟨_, hnil⟩ | ⟨g, cp', h, h1, h2, h3, _⟩
      · rw [hnil] at hpos; exact absurd hpos (by decide)
      · simp only [Value.slice.injEq, true_and] at h
        obtain ⟨rfl, rfl⟩ := h
        exact ⟨g, rfl, h1, h2, h3⟩
    subst hgB
    have hposz : (0 : Int) < (L.length : Int) := by omega
    have hcpz : (L.length : Int) ≤ (cp : Int) := by omega
    clear hpos
    go_wp2_with fail
    refine (Draw.once b _ len 2 (by omega) _ C3.out S3.out).mono ?_
    rintro e w4 ⟨r, rfl, hc4, hg4⟩
    have hs4 : w2.heap.size + 1 ≤ w4.heap.size := Nat.le_trans hs3 hg4.size
    have B4 := Lib.hid (grownNew B3.out hg4 HBN.out)
    have X4 := Lib.hid (blockOver X3.out hg4 (by have := HBE.out.1; omega))
    have Y4 := Lib.hid (blockOver Y3.out hg4 (by have := HBE.out.2; omega))
    have F4 := Lib.hid (blockOver F3.out hg4 (by have := HBF.out; simp at this; omega))
    have C4 := Lib.hid hc4
    have S4 := Lib.hid (S3.out.grown hg4)
    have R4 := Lib.hid (R3.out.over hg4 HB2.out)
    have hgw4 : g < w4.heap.size := by have := hg4.size; omega
    have hsq : w.heap.size + 1 < w4.drew.heap.size := by simp; omega
    have hsq0 : w2.heap.size < w4.heap.size := by omega
    clear hc4 hg4
    cases r with
    | true =>
      go_wp2_with fail
      obtain ⟨c0, c1, _, _⟩ := cells2 F4.out
      have hbf : b ≠ w2.heap.size := by have := HBW.out; omega
      (go_region_with (first | (go_at_call 77; refine (Cur.below b _ len (L.length : Int) (by omega) _ (by exact C4.out) (by exact S4.out)).mono ?_; rintro e w5 ⟨x, rfl, ⟨hx0, hx7, _⟩, hc5, hg5⟩; obtain ⟨j, rfl⟩ := Int.eq_ofNat_of_zero_le hx0; have hjl : (j : Int) < (L.length : Int) := hx7 (by omega); have hjc : (j : Int) < (cp : Int) := (by omega); obtain ⟨p, q, t0, t1, hpp, hqq⟩ := TmRow.pick (TmRow.over (w := w4.drew) R4.out hg5 HB2.out) HLO.out.2 j hjl; obtain ⟨z0, z1, g0, g1⟩ := cells2 (resOver X4.out hg5 HBE.out.1); obtain ⟨y0, y1, h0, h1⟩ := cells2 (resOver Y4.out hg5 HBE.out.2); obtain ⟨d0, d1, _, _⟩ := cells2 (resOver F4.out hg5 hbf); have hs5' : w.heap.size + 1 < w5.heap.size := Nat.lt_of_lt_of_le hsq hg5.size; have hs5 : w.heap.size < w5.heap.size := Nat.lt_of_succ_lt hs5'; clear hx7)))
      all_goals
        have PP := Lib.hid hpp
        have QQ := Lib.hid hqq
        clear hpp hqq
        have B5 := Lib.hid (grownNew (bD B4.out) hg5 HBN.out)
        have K1 := Lib.hid (twoRes (by omega) (.int .i64 n) (.int .i64 a) (.int .i64 p) (.int .i64 q) z0 z1 y0 y1)
        have K2 := Lib.hid (twoRes (by omega) (.int .i64 p) (.int .i64 q) (.int .i64 n) (.int .i64 a) y0 y1 z0 z1)
        clear hc5 hg5
        go_wp2
        first
        | (obtain ⟨k0, k1, k2, k3⟩ := K1.out
           exact bodyPost_ret (v := .tuple #[.agg #[.int .i64 n, .int .i64 a], .agg #[.int .i64 p, .int .i64 q]]) (by simp [results, Try.results80, go_sem, k0, k1, k2, k3]) rfl ⟨n, a, p, q, rfl, NN.out, AA.out, PP.out, QQ.out, by exact bS (by dsimp only; omega) (bS (by dsimp only; omega) (bS (by dsimp only; omega) (bS (by dsimp only; omega) B5.out)))⟩)
        | (obtain ⟨k0, k1, k2, k3⟩ := K2.out
           exact bodyPost_ret (v := .tuple #[.agg #[.int .i64 n, .int .i64 a], .agg #[.int .i64 p, .int .i64 q]]) (by simp [results, Try.results80, go_sem, k0, k1, k2, k3]) rfl ⟨n, a, p, q, rfl, NN.out, AA.out, PP.out, QQ.out, by exact bS (by dsimp only; omega) (bS (by dsimp only; omega) (bS (by dsimp only; omega) (bS (by dsimp only; omega) B5.out)))⟩)
    | false =>
      obtain ⟨c0, c1, _, _⟩ := cells2 F4.out
      have F0 := Lib.hid c0
      have F1 := Lib.hid c1
      clear c0 c1
      go_wp2_with fail
      go_region_held3 (fun w' => w'.cell? ⟨w2.heap.size, 0, none⟩ = some (.int .i64 n) ∧ w'.cell? ⟨w2.heap.size, 1, none⟩ = some (.int .i64 a))
        ((first | (go_split_ands; (try dsimp only); (refine ⟨?_, ?_⟩ <;> (repeat (first | with_reducible assumption | with_reducible exact F0.out | with_reducible exact F1.out | (with_reducible refine keepD ?_) | ((with_reducible refine keepS ?_ ?_); (focus (dsimp only; omega))) | exact hg5.cell F0.out HBF.out | exact hg5.cell F1.out HBF.out))); done) | go_keep))
        (first | (go_at_call 81; refine (Draw.term b _ len _ (by exact C4.out) (by exact S4.out)).mono ?_; rintro e w5 ⟨p, q, rfl, hpp, hqq, hc5, hg5⟩; obtain ⟨z0, z1, g0, g1⟩ := cells2 (resOver X4.out hg5 HBE.out.1); obtain ⟨y0, y1, h0, h1⟩ := cells2 (resOver Y4.out hg5 HBE.out.2); have hs5' : w.heap.size + 1 < w5.heap.size := Nat.lt_of_lt_of_le hsq hg5.size; have hs5 : w.heap.size < w5.heap.size := Nat.lt_of_succ_lt hs5'))
      all_goals
        have PP := Lib.hid hpp
        have QQ := Lib.hid hqq
        clear hpp hqq
        have B5 := Lib.hid (grownNew (bD B4.out) hg5 HBN.out)
        have K1 := Lib.hid (twoRes (by omega) (.int .i64 n) (.int .i64 a) (.int .i64 p) (.int .i64 q) z0 z1 y0 y1)
        have K2 := Lib.hid (twoRes (by omega) (.int .i64 p) (.int .i64 q) (.int .i64 n) (.int .i64 a) y0 y1 z0 z1)
        clear hc5 hg5
        go_wp2
        first
        | (obtain ⟨k0, k1, k2, k3⟩ := K1.out
           exact bodyPost_ret (v := .tuple #[.agg #[.int .i64 n, .int .i64 a], .agg #[.int .i64 p, .int .i64 q]]) (by simp [results, Try.results80, go_sem, k0, k1, k2, k3]) rfl ⟨n, a, p, q, rfl, NN.out, AA.out, PP.out, QQ.out, by exact bS (by dsimp only; omega) (bS (by dsimp only; omega) (bS (by dsimp only; omega) (bS (by dsimp only; omega) B5.out)))⟩)
        | (obtain ⟨k0, k1, k2, k3⟩ := K2.out
           exact bodyPost_ret (v := .tuple #[.agg #[.int .i64 n, .int .i64 a], .agg #[.int .i64 p, .int .i64 q]]) (by simp [results, Try.results80, go_sem, k0, k1, k2, k3]) rfl ⟨n, a, p, q, rfl, NN.out, AA.out, PP.out, QQ.out, by exact bS (by dsimp only; omega) (bS (by dsimp only; omega) (bS (by dsimp only; omega) (bS (by dsimp only; omega) B5.out)))⟩)
  · have hsq : w.heap.size + 1 < w3.drew.heap.size := by simp; omega
    have hsq0 : w2.heap.size < w3.heap.size := by omega
    obtain ⟨c0, c1, _, _⟩ := cells2 F3.out
    have F0 := Lib.hid c0
    have F1 := Lib.hid c1
    clear c0 c1
    cases c with
    | false =>
      clear hyes
      go_wp2_with fail
      go_region_held3 (fun w' => w'.cell? ⟨w2.heap.size, 0, none⟩ = some (.int .i64 n) ∧ w'.cell? ⟨w2.heap.size, 1, none⟩ = some (.int .i64 a))
        ((first | (go_split_ands; (try dsimp only); (refine ⟨?_, ?_⟩ <;> (repeat (first | with_reducible assumption | with_reducible exact F0.out | with_reducible exact F1.out | (with_reducible refine keepD ?_) | ((with_reducible refine keepS ?_ ?_); (focus (dsimp only; omega))) | exact hg5.cell F0.out HBF.out | exact hg5.cell F1.out HBF.out))); done) | go_keep))
        (first | (go_at_call 81; refine (Draw.term b _ len _ (by exact C3.out) (by exact S3.out)).mono ?_; rintro e w5 ⟨p, q, rfl, hpp, hqq, hc5, hg5⟩; obtain ⟨z0, z1, g0, g1⟩ := cells2 (resOver X3.out hg5 HBE.out.1); obtain ⟨y0, y1, h0, h1⟩ := cells2 (resOver Y3.out hg5 HBE.out.2); have hs5' : w.heap.size + 1 < w5.heap.size := Nat.lt_of_lt_of_le hsq hg5.size; have hs5 : w.heap.size < w5.heap.size := Nat.lt_of_succ_lt hs5'))
      all_goals
        have PP := Lib.hid hpp
        have QQ := Lib.hid hqq
        clear hpp hqq
        have B5 := Lib.hid (grownNew (bD B3.out) hg5 HBN.out)
        have K1 := Lib.hid (twoRes (by omega) (.int .i64 n) (.int .i64 a) (.int .i64 p) (.int .i64 q) z0 z1 y0 y1)
        have K2 := Lib.hid (twoRes (by omega) (.int .i64 p) (.int .i64 q) (.int .i64 n) (.int .i64 a) y0 y1 z0 z1)
        clear hc5 hg5
        go_wp2
        first
        | (obtain ⟨k0, k1, k2, k3⟩ := K1.out
           exact bodyPost_ret (v := .tuple #[.agg #[.int .i64 n, .int .i64 a], .agg #[.int .i64 p, .int .i64 q]]) (by simp [results, Try.results80, go_sem, k0, k1, k2, k3]) rfl ⟨n, a, p, q, rfl, NN.out, AA.out, PP.out, QQ.out, by exact bS (by dsimp only; omega) (bS (by dsimp only; omega) (bS (by dsimp only; omega) (bS (by dsimp only; omega) B5.out)))⟩)
        | (obtain ⟨k0, k1, k2, k3⟩ := K2.out
           exact bodyPost_ret (v := .tuple #[.agg #[.int .i64 n, .int .i64 a], .agg #[.int .i64 p, .int .i64 q]]) (by simp [results, Try.results80, go_sem, k0, k1, k2, k3]) rfl ⟨n, a, p, q, rfl, NN.out, AA.out, PP.out, QQ.out, by exact bS (by dsimp only; omega) (bS (by dsimp only; omega) (bS (by dsimp only; omega) (bS (by dsimp only; omega) B5.out)))⟩)
    | true =>
      have hl0 : (L.length : Int) = 0 := by
        have : ¬ 0 < L.length := fun h => hyes ⟨rfl, h⟩
        omega
      clear hyes
      go_wp2_with fail
      go_region_held3 (fun w' => w'.cell? ⟨w2.heap.size, 0, none⟩ = some (.int .i64 n) ∧ w'.cell? ⟨w2.heap.size, 1, none⟩ = some (.int .i64 a))
        ((first | (go_split_ands; (try dsimp only); (refine ⟨?_, ?_⟩ <;> (repeat (first | with_reducible assumption | with_reducible exact F0.out | with_reducible exact F1.out | (with_reducible refine keepD ?_) | ((with_reducible refine keepS ?_ ?_); (focus (dsimp only; omega))) | exact hg5.cell F0.out HBF.out | exact hg5.cell F1.out HBF.out))); done) | go_keep))
        (first | (go_at_call 81; refine (Draw.term b _ len _ (by exact C3.out) (by exact S3.out)).mono ?_; rintro e w5 ⟨p, q, rfl, hpp, hqq, hc5, hg5⟩; obtain ⟨z0, z1, g0, g1⟩ := cells2 (resOver X3.out hg5 HBE.out.1); obtain ⟨y0, y1, h0, h1⟩ := cells2 (resOver Y3.out hg5 HBE.out.2); have hs5' : w.heap.size + 1 < w5.heap.size := Nat.lt_of_lt_of_le hsq hg5.size; have hs5 : w.heap.size < w5.heap.size := Nat.lt_of_succ_lt hs5'))
      all_goals
        have PP := Lib.hid hpp
        have QQ := Lib.hid hqq
        clear hpp hqq
        have B5 := Lib.hid (grownNew (bD B3.out) hg5 HBN.out)
        have K1 := Lib.hid (twoRes (by omega) (.int .i64 n) (.int .i64 a) (.int .i64 p) (.int .i64 q) z0 z1 y0 y1)
        have K2 := Lib.hid (twoRes (by omega) (.int .i64 p) (.int .i64 q) (.int .i64 n) (.int .i64 a) y0 y1 z0 z1)
        clear hc5 hg5
        go_wp2
        first
        | (obtain ⟨k0, k1, k2, k3⟩ := K1.out
           exact bodyPost_ret (v := .tuple #[.agg #[.int .i64 n, .int .i64 a], .agg #[.int .i64 p, .int .i64 q]]) (by simp [results, Try.results80, go_sem, k0, k1, k2, k3]) rfl ⟨n, a, p, q, rfl, NN.out, AA.out, PP.out, QQ.out, by exact bS (by dsimp only; omega) (bS (by dsimp only; omega) (bS (by dsimp only; omega) (bS (by dsimp only; omega) B5.out)))⟩)
        | (obtain ⟨k0, k1, k2, k3⟩ := K2.out
           exact bodyPost_ret (v := .tuple #[.agg #[.int .i64 n, .int .i64 a], .agg #[.int .i64 p, .int .i64 q]]) (by simp [results, Try.results80, go_sem, k0, k1, k2, k3]) rfl ⟨n, a, p, q, rfl, NN.out, AA.out, PP.out, QQ.out, by exact bS (by dsimp only; omega) (bS (by dsimp only; omega) (bS (by dsimp only; omega) (bS (by dsimp only; omega) B5.out)))⟩)

set_option maxRecDepth 100000 in
set_option maxHeartbeats 4000000 in
theorem Draw.prime6 (av : Value) (len : Nat) (w : World) (hc : CodeIn w av len) :
    Calls Try.prog 48 #[av] w (TwoOut w) := by
  have HC := Lib.hid hc
  obtain ⟨ad, cap, rfl, _, _⟩ := hc
  go_enter Try.func48, Try.ntmps48
  go_wp2_with fail
  have BA := Lib.hid (((Below.refl w.heap.size w).alloc (Nat.le_refl _) (.cells #[.int .i64 0, .int .i64 0] 38)).alloc (by simp) (.cells #[.int .i64 0, .int .i64 0] 25))
  refine (Draw.both6 _ len _ (HC.out.below BA.out)).mono ?_
  rintro e w1 ⟨n, a, p, q, rfl, hn, ha, hp, hq, hb1⟩
  have NN := Lib.hid hn
  have AA := Lib.hid ha
  have PP := Lib.hid hp
  have QQ := Lib.hid hq
  have B1 := Lib.hid (BA.out.trans (hb1.mono (by simp <;> omega)))
  have X1 := Lib.hid ((hb1.block w.heap.size (by simp <;> omega)).trans (heap_alloc2_old w _ _))
  have Y1 := Lib.hid ((hb1.block (w.heap.size + 1) (by simp <;> omega)).trans (heap_alloc2_new w _ _))
  obtain ⟨z0, z1, g0, g1⟩ := cells2 X1.out
  obtain ⟨y0, y1, h0, h1⟩ := cells2 Y1.out
  have hz : w.heap.size + 1 < w1.heap.size := lt_of_block Y1.out
  have hz' : w.heap.size < w1.heap.size := by omega
  have K1 := Lib.hid (twoRes (by omega) (.int .i64 n) (.int .i64 a) (.int .i64 p) (.int .i64 q) z0 z1 y0 y1)
  clear hn ha hp hq hb1
  go_wp2
  go_region_with (fail)
  all_goals
    go_wp2
    obtain ⟨k0, k1, k2, k3⟩ := K1.out
    have m0 := keepA (o := .cells #[.int .i64 p, .int .i64 q] 25) (keepA (o := .cells #[.int .i64 n, .int .i64 a] 38) k0)
    have m1 := keepA (o := .cells #[.int .i64 p, .int .i64 q] 25) (keepA (o := .cells #[.int .i64 n, .int .i64 a] 38) k1)
    have m2 := keepA (o := .cells #[.int .i64 p, .int .i64 q] 25) (keepA (o := .cells #[.int .i64 n, .int .i64 a] 38) k2)
    have m3 := keepA (o := .cells #[.int .i64 p, .int .i64 q] 25) (keepA (o := .cells #[.int .i64 n, .int .i64 a] 38) k3)
    exact bodyPost_ret (v := .tuple #[.agg #[.int .i64 n, .int .i64 a], .agg #[.int .i64 p, .int .i64 q]]) (by simp [results, Try.results48, go_sem, m0, m1, m2, m3]) rfl ⟨n, a, p, q, rfl, NN.out, AA.out, PP.out, QQ.out, by
      repeat (first | (with_reducible exact B1.out) | ((with_reducible refine bS ?_ ?_); (focus (dsimp only; omega))) | ((with_reducible refine bA ?_ ?_); (focus (first | omega | (simp; done) | (simp; omega)))) | (with_reducible refine bD ?_))⟩

/-- A number and a list of terms. -/
def TlOut (w : World) (e : Ending) (w' : World) : Prop :=
  ∃ (n : Int) (v : Value) (l : List Ti), e = .returned (.tuple #[.int .i64 n, v]) ∧ In64 n ∧ l.length ≤ 3 ∧ Small2 l ∧ TmRow w' w.heap.size v l ∧ Below w.heap.size w w'

theorem srcOf {w w' : World} {av : Value} {len b : Nat} (h : CodeIn w av len) (hb : Below w.heap.size w w') (hB : w.heap.size ≤ b) : SrcAt w' b av len := by
  obtain ⟨a, cap, rfl, hl, hrest⟩ := h
  refine ⟨a, cap, rfl, hl, fun h0 => ?_⟩
  obtain ⟨ab, off, rfl, hlt, hc⟩ := hrest h0
  refine ⟨ab, off, rfl, by omega, Nat.lt_of_lt_of_le hlt hb.size, fun j hj => ?_⟩
  obtain ⟨z, h1, h2, h3⟩ := hc j hj
  exact ⟨z, h1, h2, (hb.cell (p := ⟨ab, off + j, none⟩) hlt).trans h3⟩

theorem small_snoc {l : List Ti} {t : Ti} (h : Small2 l) (h1 : In64 t.1) (h2 : In64 t.2) : Small2 (l ++ [t]) := by
  intro x hx
  rcases List.mem_append.1 hx with hx | hx
  · exact h x hx
  · rw [List.mem_singleton] at hx; subst hx; exact ⟨h1, h2⟩

set_option maxRecDepth 100000 in
set_option maxHeartbeats 4000000 in
theorem Draw.lists (av : Value) (len : Nat) (w : World) (hc : CodeIn w av len) :
    Calls Try.prog 50 #[av] w (TlOut w) := by
  have HC := Lib.hid hc
  obtain ⟨ad, cap, rfl, _, _⟩ := hc
  go_enter Try.func50, Try.ntmps50
  go_wp2_with fail
  refine (Cur.new _ len _ HC.out).mono ?_
  rintro e w1 ⟨b, rfl, hb, hc1, hs1, hb1⟩
  have HBN := Lib.hid hb
  have B1 := Lib.hid hb1
  have C1 := Lib.hid hc1
  have S1 := Lib.hid hs1
  clear hb hc1 hs1 hb1
  go_wp2_with fail
  refine (Cur.pickInt b _ len _ listN6 _ (C1.out.alloc _) (S1.out.alloc _) (intsNew w1 b C1.out.lt listN6 _ (by decide) (by decide))).mono ?_
  rintro e w2 ⟨y, rfl, hy, hc2, hg2⟩
  obtain ⟨j, hj, rfl⟩ := hy
  have HJ := Lib.hid (listN6_in j hj)
  have HG2 := Lib.hid (grownTrans (World.grownBy_alloc w1 _ (some b)) hg2)
  have C2 := Lib.hid hc2
  have S2 := Lib.hid (S1.out.grown HG2.out)
  have B2 := Lib.hid (grownNew B1.out HG2.out HBN.out)
  have hw2 : w.heap.size ≤ w2.heap.size := by have := B1.out.size; have := HG2.out.size; omega
  have hb2 : b < w2.heap.size := hc2.lt
  generalize listN6.getD j 0 = n at HJ ⊢
  clear hc2 hg2 hj
  go_wp2_with fail
  refine (Cur.below b _ len 4 (by omega) _ (C2.out.alloc _) (S2.out.alloc _)).mono ?_
  rintro e w3 ⟨x, rfl, ⟨hx0, hx4, _⟩, hc3, hg3⟩
  obtain ⟨q, rfl⟩ := Int.eq_ofNat_of_zero_le hx0
  have hq : q ≤ 3 := by have := hx4 (by omega); omega
  have C3 := Lib.hid hc3
  have S3 := Lib.hid ((S2.out.alloc _).grown hg3)
  have B3 := Lib.hid (grownNew (bA (by omega) B2.out) hg3 HBN.out)
  have R3 := Lib.hid ((tmLit0 w2 w2.heap.size w2.heap.size rfl (Nat.le_refl _)).over (B := w2.heap.size) hg3 hb2)
  have hw3 : w2.heap.size < w3.heap.size := by have := hg3.size; simp at this; omega
  clear hc3 hg3 hx0 hx4
  go_wp2
  go_loopw [6, 7] (fun v i wr => ∃ (k : Nat) (l : List Ti), i = .int .i64 (k : Int) ∧ l.length + k ≤ 3 ∧ Small2 l ∧ TmRow wr w2.heap.size v l ∧ CurAt wr b (.slice ad len cap) len ∧ SrcAt wr b (.slice ad len cap) len ∧ Below w.heap.size w wr ∧ w2.heap.size < wr.heap.size) (fun _ i _ => (intOf i).toNat)
  case atStart => exact ⟨q, [], rfl, by simpa using hq, fun t h => absurd h (by simp), R3.out, C3.out, S3.out, B3.out, hw3⟩
  case round =>
    obtain ⟨k, l, rfl, hlk, hsm, hrow, hcw, hsw, hbw, hww⟩ := hrel
    have SM := Lib.hid hsm
    have RW := Lib.hid hrow
    have CW := Lib.hid hcw
    have SW := Lib.hid hsw
    have BW := Lib.hid hbw
    clear hsm hrow hcw hsw hbw
    by_cases hk : 0 < k
    · have hkz : (0 : Int) < (k : Int) := by omega
      have hk3 : (k : Int) ≤ 3 := by omega
      go_wp2_with fail
      refine (Draw.term b _ len _ CW.out SW.out).mono ?_
      rintro e w4 ⟨m, v', rfl, hm, hv, hc4, hg4⟩
      have SM4 := Lib.hid (small_snoc (t := (m, v')) SM.out hm hv)
      have RW4 := Lib.hid (RW.out.over hg4 hb2)
      have CW4 := Lib.hid hc4
      have SW4 := Lib.hid (SW.out.grown hg4)
      have BW4 := Lib.hid (grownNew BW.out hg4 HBN.out)
      have hs4 : w2.heap.size < w4.heap.size := by have := hg4.size; omega
      have HS4 : Hid (w2.heap.size ≤ w4.heap.size) := Lib.hid (by omega)
      have HLL : Hid (l.length ≤ 1000000) := Lib.hid (by omega)
      clear hm hv hc4 hg4
      go_wp2_with (first | (at_builtin; go_must (refine wp_term rfl _ _ rfl w2.heap.size w4 w4 _ l (m, v') _ RW4.out (Below.refl _ _) HS4.out HLL.out rfl rfl rfl ?_; intro v5 w5 hown5 hbel5 hgr5)) | fail)
      have CW5 := Lib.hid (CW4.out.below hbel5 hb2)
      have BW5 := Lib.hid (BW4.out.trans (hbel5.mono hw2))
      have hs5 : w2.heap.size < w5.heap.size := by have := hbel5.size; omega
      have RW5 := Lib.hid hown5
      clear hbel5 hgr5 hown5
      go_wp2
      go_roundw
      case rel => exact ⟨k - 1, l ++ [(m, v')], by rw [show ((k - 1 : Nat) : Int) = (k : Int) - 1 by omega], by simp; omega, SM4.out, RW5.out, CW5.out, srcOf HC.out BW5.out HBN.out, BW5.out, hs5⟩
      case measure => simp [intOf]; omega
    · have hkz : (k : Int) ≤ 0 := by omega
      have RW2 := Lib.hid (RW.out.base hw2)
      clear hk
      go_wp2
      go_ret2
      exact ⟨n, _, l, rfl, HJ.out, by omega, SM.out, RW2.out, BW.out⟩

end Go.Proofs.Ytkamopckpmiioaa
