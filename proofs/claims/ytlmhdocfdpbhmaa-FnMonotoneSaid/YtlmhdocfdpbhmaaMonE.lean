/-
  Chapter 15: what the draws of monotone tables answer, whatever the code.
-/
import Derived.Test.YtlmhdocfdpbhmaaDrawI
import Derived.Test.YtlmhdocfdpbhmaaDrawB
import Derived.Test.YtlmhdocfdpbhmaaMonM
import Derived.Test.YtlmhdocfdpbhmaaMonU
import Derived.Test.YtlmhdocfdpbhmaaRowO
namespace Go.Proofs.Ytlmhdocfdpbhmaa
open Go.RowKit Plain
set_option linter.unusedVariables false
set_option linter.unusedSimpArgs false
attribute [local go_sem ↓] Go.wp_at_zero Go.wp_at_succ

theorem wrap64_in (x : Int) : In64 (wrap64 x) := by unfold In64 wrap64; omega
theorem hulT_in {n a : Int} (hn : In64 n) : In64 (hulT n a).1 ∧ In64 (hulT n a).2.1 := by
  cases ht : isT n a with
  | false => rw [hulT_no ht]; unfold In64; decide
  | true =>
    obtain ⟨n, a, rfl, rfl, hn5, ha⟩ := isT_nat ht
    rw [hulT_yes ht]
    have := (hulPts hn5 (hulW_lt n a)).2
    exact ⟨hn, by unfold In64; dsimp only; omega⟩

set_option maxRecDepth 100000 in
set_option maxHeartbeats 2000000 in
/-- l15Draw. -/
theorem Draw.l15 (b : Nat) (av : Value) (len : Nat) (w : World) (hc : CurAt w b av len) (hs : SrcAt w b av len) :
    Calls Try.prog 84 #[.pointer (some ⟨b, 0, none⟩)] w (TabOut In64 b av len w) := by
  have hbl := hc.lt
  have HB := Lib.hid hbl
  have HS := Lib.hid hs
  have HC := Lib.hid hc
  have HA : ∀ o : Obj, Hid (w.grownBy (w.alloc o) (some b)) := fun o => Lib.hid (World.grownBy_alloc w o (some b))
  clear hbl hc hs
  go_enter Try.func84, Try.ntmps84
  go_wp2_with fail
  refine (Draw.any b av len _ (HC.out.alloc _) (HS.out.grown (HA _).out)).mono ?_
  rintro e w1 ⟨n, a, rfl, hn, ha, hc1, hg1⟩
  have HX1 := Lib.hid (blockOver (heap_alloc_new w _) hg1 (by have := HB.out; omega))
  have hz1 : w.heap.size < w1.heap.size := lt_of_block HX1.out
  have HN := Lib.hid hn
  have HA64 := Lib.hid ha
  have C1 := Lib.hid (hc1.alloc (.cells #[.int .i64 n, .int .i64 a] 27))
  have G1 := Lib.hid (grownAlloc (grownTrans (HA _).out hg1) (.cells #[.int .i64 n, .int .i64 a] 27))
  have HF1 := Lib.hid (heap_alloc_new w1 (.cells #[.int .i64 n, .int .i64 a] 27))
  have HX1' := Lib.hid (blockAlloc HX1.out (.cells #[.int .i64 n, .int .i64 a] 27))
  have HM := Lib.hid (Hul.model n a)
  have HIN := Lib.hid (hulT_in (a := a) hn)
  have hbw1 : b < w1.heap.size := hc1.lt
  unfold tbV at HM
  generalize hulT n a = r at HM HIN
  obtain ⟨r1, r2, r3⟩ := r
  dsimp only at HM HIN
  obtain ⟨c0, c1, f0, f1⟩ := cells2 HF1.out
  clear hn ha hc1 hg1
  go_wp2_with fail
  refine (HM.out _).mono ?_
  rintro e w2 ⟨rfl, hb2⟩
  have hz2 : w1.heap.size + 1 ≤ w2.heap.size := by simpa using hb2.size
  have C2w := Lib.hid (C1.out.below hb2 (by simp; omega))
  have G2w := Lib.hid (grownTrans G1.out (grownAny hb2 (some b)))
  have HX2w := Lib.hid (blockOn HX1'.out hb2)
  have C2 := Lib.hid ((C1.out.below hb2 (by simp; omega)).alloc (.cells #[.int .i64 r1, .int .i64 r2] 27))
  have G2 := Lib.hid (grownAlloc (grownTrans G1.out (grownAny hb2 (some b))) (.cells #[.int .i64 r1, .int .i64 r2] 27))
  have HF2 := Lib.hid (blockAlloc (blockOn HF1.out hb2) (.cells #[.int .i64 r1, .int .i64 r2] 27))
  have HX2 := Lib.hid (blockAlloc (blockOn HX1'.out hb2) (.cells #[.int .i64 r1, .int .i64 r2] 27))
  have HG2 := Lib.hid (heap_alloc_new w2 (.cells #[.int .i64 r1, .int .i64 r2] 27))
  clear hb2 c0 c1 f0 f1
  cases r3 with
  | false =>
    obtain ⟨c0, c1, f0, f1⟩ := cells2 HF2.out
    obtain ⟨z0, z1, y0, y1⟩ := cells2 HX2.out
    obtain ⟨x0, x1, _, _⟩ := cells2 HX2w.out
    have hzw2 : w.heap.size < w2.heap.size := by omega
    have HBN : Hid (w.heap.size ≠ b) := Lib.hid (by have := HB.out; omega)
    go_wp2
    obtain ⟨j0, j1⟩ := keepT (Y := w2) (g := w.heap.size) (u := .int .i64 n) (v := .int .i64 a) x0 x1
    have k0 := keepA (o := .cells #[.int .i64 r1, .int .i64 r2] 27) j0
    have k1 := keepA (o := .cells #[.int .i64 r1, .int .i64 r2] 27) j1
    exact bodyPost_ret (v := .agg #[.int .i64 n, .int .i64 a]) (by simp [results, Try.results84, go_sem, k0, k1]) rfl
      ⟨n, a, rfl, HN.out, HA64.out, (((C2w.out.set _ 0 _ HBN.out).set _ 1 _ HBN.out).alloc _), grownAlloc (grownOver (grownOver G2w.out _ 0 _ (Nat.le_refl _)) _ 1 _ (Nat.le_refl _)) _⟩
  | true =>
    go_wp2_with fail
    refine (Draw.once b av len 4 (by omega) _ C2.out (HS.out.grown G2.out)).mono ?_
    rintro e w3 ⟨q, rfl, hc3, hg3⟩
    have C3 := Lib.hid hc3
    have G3 := Lib.hid (grownTrans G2.out hg3)
    have HF3 := Lib.hid (blockOver HF2.out hg3 (by omega))
    have HX3 := Lib.hid (blockOver HX2.out hg3 (by have := HB.out; omega))
    have HG3 := Lib.hid (blockOver HG2.out hg3 (by omega))
    have HBN : Hid (w.heap.size ≠ b) := Lib.hid (by have := HB.out; omega)
    have hz3 : w.heap.size < w3.heap.size := lt_of_block HX3.out
    obtain ⟨c0, c1, f0, f1⟩ := cells2 HF3.out
    obtain ⟨d0, d1, g0, g1⟩ := cells2 HG3.out
    obtain ⟨x0, x1, y0, y1⟩ := cells2 HX3.out
    clear hc3 hg3
    cases q with
    | true =>
      go_wp2
      obtain ⟨k0, k1⟩ := keepT (Y := w3) (g := w.heap.size) (u := .int .i64 n) (v := .int .i64 a) x0 x1
      exact bodyPost_ret (v := .agg #[.int .i64 n, .int .i64 a]) (by simp [results, Try.results84, go_sem, k0, k1]) rfl
        ⟨n, a, rfl, HN.out, HA64.out, (C3.out.set _ 0 _ HBN.out).set _ 1 _ HBN.out, grownOver (grownOver G3.out _ 0 _ (Nat.le_refl _)) _ 1 _ (Nat.le_refl _)⟩
    | false =>
      go_wp2
      obtain ⟨k0, k1⟩ := keepT (Y := w3) (g := w.heap.size) (u := .int .i64 r1) (v := .int .i64 r2) x0 x1
      exact bodyPost_ret (v := .agg #[.int .i64 r1, .int .i64 r2]) (by simp [results, Try.results84, go_sem, k0, k1]) rfl
        ⟨r1, r2, rfl, HIN.out.1, HIN.out.2, (C3.out.set _ 0 _ HBN.out).set _ 1 _ HBN.out, grownOver (grownOver G3.out _ 0 _ (Nat.le_refl _)) _ 1 _ (Nat.le_refl _)⟩

set_option maxRecDepth 100000 in
set_option maxHeartbeats 2000000 in
/-- DrawIsMonotone. -/
theorem Draw.isMon (av : Value) (len : Nat) (w : World) (hc : CodeIn w av len) :
    Calls Try.prog 37 #[av] w (OneOut w) := by
  have HC := Lib.hid hc
  obtain ⟨ad, cap, rfl, _, _⟩ := hc
  have BA := Lib.hid ((Below.refl w.heap.size w).alloc (Nat.le_refl _) (.cells #[.int .i64 0, .int .i64 0] 27))
  go_enter Try.func37, Try.ntmps37
  go_wp2_with fail
  refine (Cur.new _ len _ (HC.out.below BA.out)).mono ?_
  rintro e w1 ⟨b, rfl, hb, hc1, hs1, hb1⟩
  simp only [World.size_alloc] at hb
  have HBN : Hid (w.heap.size ≤ b) := Lib.hid (by omega)
  have B1 := Lib.hid (BA.out.trans (hb1.mono (by simp)))
  have X1 := Lib.hid ((hb1.block w.heap.size (by simp)).trans (heap_alloc_new w _))
  have C1 := Lib.hid hc1
  have S1 := Lib.hid hs1
  have HBE : Hid (b ≠ w.heap.size) := Lib.hid (by omega)
  clear hc1 hs1 hb1
  go_wp2_with fail
  refine (Draw.l15 b _ len _ C1.out S1.out).mono ?_
  rintro e w2 ⟨n, a, rfl, hn, ha, hc2, hg2⟩
  have hs2 := hg2.size
  have NN := Lib.hid hn
  have AA := Lib.hid ha
  have B2 := Lib.hid (grownNew B1.out hg2 HBN.out)
  have X2 := Lib.hid (blockOver X1.out hg2 (by have := HBE.out; omega))
  obtain ⟨z0, z1, g0, g1⟩ := cells2 X2.out
  have hz : w.heap.size < w2.heap.size := lt_of_block X2.out
  clear hn ha hc2 hg2
  go_wp2
  obtain ⟨k0, k1⟩ := keepT (Y := w2) (g := w.heap.size) (u := .int .i64 n) (v := .int .i64 a) z0 z1
  exact bodyPost_ret (v := .agg #[.int .i64 n, .int .i64 a]) (by simp [results, Try.results37, go_sem, k0, k1]) rfl ⟨n, a, rfl, NN.out, AA.out, bS (Nat.le_refl _) (bS (Nat.le_refl _) B2.out)⟩

def listS15 : List Int := [232, 170, 204, 150, 142]
theorem listS15_in : ∀ j, j < listS15.length → In64 (listS15.getD j 0) := by
  intro j hj
  have hj5 : j < 5 := hj
  rcases (show j = 0 ∨ j = 1 ∨ j = 2 ∨ j = 3 ∨ j = 4 by omega) with rfl | rfl | rfl | rfl | rfl <;> (unfold In64 listS15; decide)
def listN15 : List Int := [4, 4, 3, 2, 0, 5, -1, 6]
theorem listN15_in : ∀ j, j < listN15.length → In64 (listN15.getD j 0) := by
  intro j hj
  have hj5 : j < 8 := hj
  rcases (show j = 0 ∨ j = 1 ∨ j = 2 ∨ j = 3 ∨ j = 4 ∨ j = 5 ∨ j = 6 ∨ j = 7 by omega) with rfl | rfl | rfl | rfl | rfl | rfl | rfl | rfl <;> (unfold In64 listN15; decide)

set_option maxRecDepth 100000 in
set_option maxHeartbeats 2000000 in
/-- DrawIsSelfDual. -/
theorem Draw.selfDual (av : Value) (len : Nat) (w : World) (hc : CodeIn w av len) :
    Calls Try.prog 54 #[av] w (OneOut w) := by
  have HC := Lib.hid hc
  obtain ⟨ad, cap, rfl, _, _⟩ := hc
  have BA := Lib.hid ((Below.refl w.heap.size w).alloc (Nat.le_refl _) (.cells #[.int .i64 0, .int .i64 0] 27))
  go_enter Try.func54, Try.ntmps54
  go_wp2_with fail
  refine (Cur.new _ len _ (HC.out.below BA.out)).mono ?_
  rintro e w1 ⟨b, rfl, hb, hc1, hs1, hb1⟩
  simp only [World.size_alloc] at hb
  have HBN : Hid (w.heap.size ≤ b) := Lib.hid (by omega)
  have B1 := Lib.hid (BA.out.trans (hb1.mono (by simp)))
  have X1 := Lib.hid ((hb1.block w.heap.size (by simp)).trans (heap_alloc_new w _))
  have C1 := Lib.hid hc1
  have S1 := Lib.hid hs1
  have HBE : Hid (b ≠ w.heap.size) := Lib.hid (by omega)
  clear hc1 hs1 hb1
  go_wp2_with fail
  refine (Draw.once b _ len 2 (by omega) _ C1.out S1.out).mono ?_
  rintro e w2 ⟨q, rfl, hc2, hg2⟩
  have B2 := Lib.hid (grownNew B1.out hg2 HBN.out)
  have X2 := Lib.hid (blockOver X1.out hg2 (by have := HBE.out; omega))
  have C2 := Lib.hid hc2
  have S2 := Lib.hid (S1.out.grown hg2)
  have hs2 := hg2.size
  have hz2 : w.heap.size < w2.heap.size := lt_of_block X2.out
  clear hc2 hg2
  cases q with
  | true =>
    go_wp2_with fail
    refine (Cur.pickInt b _ len _ listS15 _ (C2.out.alloc _) (S2.out.alloc _) (intsNew w2 b C2.out.lt listS15 _ (by decide) (by decide))).mono ?_
    rintro e w3 ⟨y, rfl, hy, hc3, hg3⟩
    obtain ⟨j, hj, rfl⟩ := hy
    have HJ := Lib.hid (listS15_in j hj)
    generalize listS15.getD j 0 = y at HJ ⊢
    have B3 := Lib.hid (grownNew (B2.out.alloc B2.out.size _) hg3 HBN.out)
    have X3 := Lib.hid (blockOver (blockAlloc X2.out _) hg3 (by have := HBE.out; omega))
    obtain ⟨z0, z1, g0, g1⟩ := cells2 X3.out
    have hz : w.heap.size < w3.heap.size := lt_of_block X3.out
    clear hc3 hg3 hj
    go_wp2
    obtain ⟨k0, k1⟩ := keepT (Y := w3) (g := w.heap.size) (u := .int .i64 3) (v := .int .i64 y) z0 z1
    exact bodyPost_ret (v := .agg #[.int .i64 3, .int .i64 y]) (by simp [results, Try.results54, go_sem, k0, k1]) rfl ⟨3, y, rfl, by unfold In64; decide, HJ.out, bS (Nat.le_refl _) (bS (Nat.le_refl _) B3.out)⟩
  | false =>
    go_wp2_with fail
    refine (Draw.l15 b _ len _ C2.out S2.out).mono ?_
    rintro e w3 ⟨n, a, rfl, hn, ha, hc3, hg3⟩
    have NN := Lib.hid hn
    have AA := Lib.hid ha
    have B3 := Lib.hid (grownNew B2.out hg3 HBN.out)
    have X3 := Lib.hid (blockOver X2.out hg3 (by have := HBE.out; omega))
    obtain ⟨z0, z1, g0, g1⟩ := cells2 X3.out
    have hz : w.heap.size < w3.heap.size := lt_of_block X3.out
    clear hn ha hc3 hg3
    go_wp2
    obtain ⟨k0, k1⟩ := keepT (Y := w3) (g := w.heap.size) (u := .int .i64 n) (v := .int .i64 a) z0 z1
    exact bodyPost_ret (v := .agg #[.int .i64 n, .int .i64 a]) (by simp [results, Try.results54, go_sem, k0, k1]) rfl ⟨n, a, rfl, NN.out, AA.out, bS (Nat.le_refl _) (bS (Nat.le_refl _) B3.out)⟩

/-- DrawCountMonotone. -/
theorem Draw.countMon (av : Value) (len : Nat) (w : World) (hc : CodeIn w av len) :
    Calls Try.prog 53 #[av] w (SomeNum w) := by
  have HC := Lib.hid hc
  obtain ⟨ad, cap, rfl, _, _⟩ := hc
  go_enter Try.func53, Try.ntmps53
  go_wp2_with fail
  refine (Cur.new _ len _ HC.out).mono ?_
  rintro e w1 ⟨b, rfl, hb, hc1, hs1, hb1⟩
  have HBN := Lib.hid hb
  have C1 := Lib.hid hc1
  have S1 := Lib.hid hs1
  have B1 := Lib.hid hb1
  clear hc1 hs1 hb1 hb
  go_wp2_with fail
  refine (Cur.below b _ len 6 (by omega) _ C1.out S1.out).mono ?_
  rintro e w2 ⟨x, rfl, _, hc2, hg2⟩
  have B2 := Lib.hid (grownNew B1.out hg2 HBN.out)
  clear hc2 hg2
  go_wp2
  go_ret
  exact ⟨_, rfl, wrap64_in _, B2.out⟩

/-- A number and a list. -/
def PtsOut (w : World) (e : Ending) (w' : World) : Prop :=
  ∃ n : Int, ∃ v : Value, ∃ l : List Int, e = .returned (.tuple #[.int .i64 n, v]) ∧ In64 n ∧ l.length ≤ 8 ∧ IntsIn w' v l ∧ Below w.heap.size w w'
theorem srcOfE {w w' : World} {av : Value} {len b : Nat} (h : CodeIn w av len) (hb : Below w.heap.size w w') (hB : w.heap.size ≤ b) : SrcAt w' b av len := by
  obtain ⟨a, cap, rfl, hl, hrest⟩ := h
  refine ⟨a, cap, rfl, hl, fun h0 => ?_⟩
  obtain ⟨ab, off, rfl, hlt, hc⟩ := hrest h0
  refine ⟨ab, off, rfl, by omega, Nat.lt_of_lt_of_le hlt hb.size, fun j hj => ?_⟩
  obtain ⟨z, h1, h2, h3⟩ := hc j hj
  exact ⟨z, h1, h2, (hb.cell (p := ⟨ab, off + j, none⟩) hlt).trans h3⟩
theorem all_snoc {l : List Int} {x : Int} (h : ∀ y ∈ l, In64 y) (hx : In64 x) : ∀ y ∈ l ++ [x], In64 y := by
  intro y hy
  rcases List.mem_append.1 hy with hy | hy
  · exact h y hy
  · rw [List.mem_singleton] at hy; subst hy; exact hx
theorem OutE.over {w w' : World} {b0 B b : Nat} {v : Value} {l : List Int} (h : OutE w b0 B v l) (hg : w.grownBy w' (some b)) (hb : b < B) : OutE w' b0 B v l := by
  rcases h with ⟨h1, h2⟩ | h
  · exact .inl ⟨h1, h2⟩
  · refine .inr (World.ownsRow.kept h hg ?_)
    cases hv : v.ownBlock with
    | none => exact .inl rfl
    | some g =>
      refine .inr fun e => ?_
      have := (h.lt g hv).1
      have := Option.some.inj e
      omega

set_option maxRecDepth 100000 in
set_option maxHeartbeats 4000000 in
/-- DrawTableOfPoints. -/
theorem Draw.points (av : Value) (len : Nat) (w : World) (hc : CodeIn w av len) :
    Calls Try.prog 51 #[av] w (PtsOut w) := by
  have HC := Lib.hid hc
  obtain ⟨ad, cap, rfl, _, _⟩ := hc
  go_enter Try.func51, Try.ntmps51
  go_wp2_with fail
  refine (Cur.new _ len _ HC.out).mono ?_
  rintro e w1 ⟨b, rfl, hb, hc1, hs1, hb1⟩
  have HBN := Lib.hid hb
  have C1 := Lib.hid hc1
  have S1 := Lib.hid hs1
  have B1 := Lib.hid hb1
  clear hc1 hs1 hb1 hb
  go_wp2_with fail
  refine (Cur.pickInt b _ len _ listN15 _ (C1.out.alloc _) (S1.out.alloc _) (intsNew w1 b C1.out.lt listN15 _ (by decide) (by decide))).mono ?_
  rintro e w2 ⟨y, rfl, hy, hc2, hg2⟩
  obtain ⟨j, hj, rfl⟩ := hy
  have HJ := Lib.hid (listN15_in j hj)
  generalize listN15.getD j 0 = y at HJ ⊢
  have B2 := Lib.hid (grownNew (B1.out.alloc B1.out.size _) hg2 HBN.out)
  have C2 := Lib.hid (hc2.alloc (.cells #[] 3))
  have B2a := Lib.hid (B2.out.alloc B2.out.size (.cells #[] 3))
  have hr := rowLit w2 w2.heap.size w2.heap.size [] rfl (Nat.le_refl _) (by decide)
  have HR0 : Hid (IntRow (w2.alloc (.cells #[] 3)) w2.heap.size (.slice (some ⟨w2.heap.size, 0, none⟩) 0 0) []) := Lib.hid (by simpa using hr.1)
  have hbw2 : b < w2.heap.size := hc2.lt
  have hz2 := B2.out.size
  clear hc2 hg2 hj hr
  go_wp2_with fail
  obtain ⟨X, hX⟩ : ∃ X, w2.alloc (.cells #[] 3) = X := ⟨_, rfl⟩
  have hzX : w2.heap.size + 1 = X.heap.size := by rw [← hX]; simp
  rw [hX] at C2 B2a HR0 ⊢
  refine (Cur.below b _ len 4 (by omega) _ C2.out (srcOfE HC.out B2a.out HBN.out)).mono ?_
  rintro e w3 ⟨k0, rfl, ⟨hk0, hk4, _⟩, hc3, hg3⟩
  have hk5 := hk4 (by omega)
  obtain ⟨k, rfl⟩ := Int.eq_ofNat_of_zero_le hk0
  have C3 := Lib.hid hc3
  have B3 := Lib.hid (grownNew B2a.out hg3 HBN.out)
  have hs3 := hg3.size
  have HR3 : Hid (IntRow w3 w2.heap.size (.slice (some ⟨w2.heap.size, 0, none⟩) 0 0) []) := Lib.hid (World.ownsRow.kept HR0.out hg3 (.inr fun e => by have h : w2.heap.size = b := Option.some.inj e; omega))
  clear hX hc3 hg3 hk4 hk0
  go_wp2_with fail
  go_loopw [6, 7] (fun o i wr => ∃ (m : Nat) (v : Value) (L : List Int), i = .int .i64 (m : Int) ∧ v = o ∧ L.length + m ≤ 4 ∧ (∀ y ∈ L, In64 y) ∧ OutE wr w2.heap.size (w2.heap.size + 1) v L ∧ CurAt wr b (.slice ad len cap) len ∧ Below w.heap.size w wr ∧ (L = [] → IntRow wr w2.heap.size (.slice (some ⟨w2.heap.size, 0, none⟩) 0 0) []) ∧ w2.heap.size + 1 ≤ wr.heap.size) (fun _ i _ => (intOf i).toNat)
  case atStart => exact ⟨k, _, [], rfl, rfl, by simp; omega, fun y hy => absurd hy List.not_mem_nil, .inl ⟨rfl, rfl⟩, C3.out, B3.out, fun _ => HR3.out, by omega⟩
  case round =>
    obtain ⟨m, v, L, rfl, rfl, hlen, hall, hrow, hcr, hbel, hemp, hsz⟩ := hrel
    have HALL := Lib.hid hall
    have HROW := Lib.hid hrow
    have HCR := Lib.hid hcr
    have HBEL := Lib.hid hbel
    have HEMP := Lib.hid hemp
    clear hall hrow hcr hbel hemp
    by_cases hm : 0 < m
    · have hmz : 0 < (m : Int) := by omega
      have hm1 : L.length + 1 + (m - 1) ≤ 4 := by omega
      have hmm : m - 1 < m := by omega
      have hmw : ((m - 1 : Nat) : Int) = (m : Int) - 1 := by omega
      go_wp2_with fail
      refine (Cur.below b _ len 17 (by omega) _ HCR.out (srcOfE HC.out HBEL.out HBN.out)).mono ?_
      rintro e w4 ⟨x, rfl, _, hc4, hg4⟩
      have C4 := Lib.hid hc4
      have B4 := Lib.hid (grownNew HBEL.out hg4 HBN.out)
      have R4 := Lib.hid (HROW.out.over hg4 (by omega))
      have hs4 : w2.heap.size + 1 ≤ w4.heap.size := Nat.le_trans hsz hg4.size
      have HX := Lib.hid (wrap64_in (x - 1))
      have hL6 : L.length ≤ 1000000 := by omega
      clear hc4 hg4
      generalize hq : wrap64 (x - 1) = q at *
      go_wp2_with (at_builtin; go_must (refine wp_intE rfl _ _ rfl w2.heap.size (w2.heap.size + 1) w4 w4 _ _ q _ R4.out (Below.refl _ _) hs4 hL6 rfl rfl (by first | rfl | (rw [← hq]; rfl) | (rw [hq])) ?_; intro v1 w5 k1 k2))
      have hs5 := k2.size
      exact ⟨⟨m - 1, v1, L ++ [q], by rw [hmw], rfl, by rw [List.length_append]; simpa using hm1, all_snoc HALL.out HX.out, .inr k1, C4.out.below k2 (by omega), B4.out.trans (k2.mono (by omega)), fun h => absurd h (by simp), by omega⟩, by show ((m : Int) - 1).toNat < ((m : Int)).toNat; omega⟩
    · obtain rfl : m = 0 := by omega
      have HF : Hid (IntRow wr w2.heap.size v L) := Lib.hid (by
        rcases HROW.out with ⟨rfl, rfl⟩ | h
        · exact HEMP.out rfl
        · exact h.base (by omega))
      go_wp2
      go_ret2
      exact ⟨y, _, L, rfl, HJ.out, by omega, HF.out.ints (by omega) HALL.out, HBEL.out⟩
end Go.Proofs.Ytlmhdocfdpbhmaa
