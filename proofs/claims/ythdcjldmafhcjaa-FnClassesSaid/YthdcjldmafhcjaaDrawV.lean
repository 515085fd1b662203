/-
  Chapter 4: the draws of the laws of classes; the laws' own 'at'.
-/
import Derived.Test.YthdcjldmafhcjaaDrawI
import Derived.Test.YthdcjldmafhcjaaDrawB
import Derived.Test.YthdcjldmafhcjaaResH
import Derived.Test.YthdcjldmafhcjaaLdM
namespace Go.Proofs.Ythdcjldmafhcjaa
open Go.RowKit Plain
set_option linter.unusedVariables false
attribute [local go_sem ↓] Go.wp_at_zero Go.wp_at_succ

/-- One table. -/
def One4 (w : World) (e : Ending) (w' : World) : Prop :=
  ∃ n a : Int, e = .returned (.agg #[.int .i64 n, .int .i64 a]) ∧ In64 n ∧ In64 a ∧ Below w.heap.size w w'
/-- One number. -/
def Num4 (w : World) (e : Ending) (w' : World) : Prop :=
  ∃ n : Int, e = .returned (.int .i64 n) ∧ In64 n ∧ Below w.heap.size w w'

set_option maxRecDepth 100000 in
set_option maxHeartbeats 2000000 in
theorem Draw.canonical (av : Value) (len : Nat) (w : World) (hc : CodeIn w av len) :
    Calls Try.prog 12 #[av] w (One4 w) := by
  have HC := Lib.hid hc
  obtain ⟨ad, cap, rfl, _, _⟩ := hc
  go_enter Try.func12, Try.ntmps12
  go_wp2_with fail
  have BA := Lib.hid ((Below.refl w.heap.size w).alloc (Nat.le_refl _) (.cells #[.int .i64 0, .int .i64 0] 25))
  refine (Cur.new _ len _ (HC.out.below BA.out)).mono ?_
  rintro e w1 ⟨b, rfl, hb, hc1, hs1, hb1⟩
  simp only [World.size_alloc] at hb
  have HBN : Hid (w.heap.size ≤ b) := Lib.hid (by omega)
  have B1 := Lib.hid (BA.out.trans (hb1.mono (by simp)))
  have X1 := Lib.hid ((hb1.block w.heap.size (by simp)).trans (heap_alloc_new w _))
  have C1 := Lib.hid hc1
  have S1 := Lib.hid hs1
  have hbne : b ≠ w.heap.size := by omega
  have HBE := Lib.hid hbne
  clear hc1 hs1 hb1 hbne
  go_wp2_with fail
  refine (Draw.any b _ len _ C1.out S1.out).mono ?_
  rintro e w2 ⟨n, a, rfl, hn, ha, hc2, hg2⟩
  have NN := Lib.hid hn
  have AA := Lib.hid ha
  have B2 := Lib.hid (grownNew B1.out hg2 HBN.out)
  have x2 := blockOver X1.out hg2 (by have := HBE.out; omega)
  obtain ⟨z0, z1, g0, g1⟩ := cells2 x2
  have hs2 : w.heap.size < w2.heap.size := lt_of_block x2
  clear hn ha hc2 hg2 x2
  go_wp2
  obtain ⟨k0, k1⟩ := keepT (Y := w2) (g := w.heap.size) (u := .int .i64 n) (v := .int .i64 a) z0 z1
  exact bodyPost_ret (v := .agg #[.int .i64 n, .int .i64 a]) (by simp [results, Try.results12, go_sem, k0, k1]) rfl ⟨n, a, rfl, NN.out, AA.out, bS (Nat.le_refl _) (bS (Nat.le_refl _) B2.out)⟩

set_option maxRecDepth 100000 in
set_option maxHeartbeats 2000000 in
theorem Draw.count4 (av : Value) (len : Nat) (w : World) (hc : CodeIn w av len) :
    Calls Try.prog 27 #[av] w (Num4 w) := by
  have HC := Lib.hid hc
  obtain ⟨ad, cap, rfl, _, _⟩ := hc
  go_enter Try.func27, Try.ntmps27
  go_wp2_with fail
  refine (Cur.new _ len _ HC.out).mono ?_
  rintro e w1 ⟨b, rfl, hb, hc1, hs1, hb1⟩
  have B1 := Lib.hid hb1
  have HBN := Lib.hid hb
  go_wp2_with fail
  refine (Cur.below b _ len 6 (by omega) _ hc1 hs1).mono ?_
  rintro e w3 ⟨x, rfl, ⟨hx0, hx7, _⟩, hc3, hg3⟩
  have hx8 : x < 6 := hx7 (by omega)
  have HG := Lib.hid hg3
  clear hx7 hc1 hs1 hc3 hg3 hb1 hb
  go_wp2
  go_ret
  exact ⟨_, rfl, by unfold In64; omega, grownNew B1.out HG.out HBN.out⟩

set_option maxRecDepth 100000 in
set_option maxHeartbeats 2000000 in
theorem Draw.perms4 (av : Value) (len : Nat) (w : World) (hc : CodeIn w av len) :
    Calls Try.prog 28 #[av] w (Num4 w) := by
  have HC := Lib.hid hc
  obtain ⟨ad, cap, rfl, _, _⟩ := hc
  go_enter Try.func28, Try.ntmps28
  go_wp2_with fail
  refine (Cur.new _ len _ HC.out).mono ?_
  rintro e w1 ⟨b, rfl, hb, hc1, hs1, hb1⟩
  have B1 := Lib.hid hb1
  have HBN := Lib.hid hb
  go_wp2_with fail
  refine (Cur.below b _ len 7 (by omega) _ hc1 hs1).mono ?_
  rintro e w3 ⟨x, rfl, ⟨hx0, hx7, _⟩, hc3, hg3⟩
  have hx8 : x < 7 := hx7 (by omega)
  have HG := Lib.hid hg3
  clear hx7 hc1 hs1 hc3 hg3 hb1 hb
  go_wp2
  go_ret
  exact ⟨_, rfl, by unfold In64; omega, grownNew B1.out HG.out HBN.out⟩

set_option maxRecDepth 100000 in
set_option maxHeartbeats 2000000 in
/-- The laws' own 'at': some byte. -/
theorem Law.at (av : Value) (len : Nat) (i : Nat) (hi : i ≤ 100) (w : World) (hc : CodeIn w av len) :
    Calls Try.prog 21 #[av, .int .i64 (i : Int)] w fun e w' => (∃ x : Nat, e = .returned (.int .i64 (x : Int)) ∧ x ≤ 255) ∧ w = w' := by
  obtain ⟨ad, cap, rfl, hl, hrest⟩ := hc
  by_cases hlt : (i : Int) < (len : Int)
  · obtain ⟨ab, off, rfl, hab, hcs⟩ := hrest (by omega)
    obtain ⟨z, hz1, hz2, hz⟩ := hcs i (by omega)
    clear hcs hrest
    go_enter Try.func21, Try.ntmps21
    go_wp2
    go_ret
    exact ⟨⟨z.toNat, by rw [show ((z.toNat : Nat) : Int) = z by omega]; rfl, by omega⟩, rfl⟩
  · clear hrest
    have hge : (len : Int) ≤ (i : Int) := by omega
    go_enter Try.func21, Try.ntmps21
    go_wp2
    go_ret
    exact ⟨⟨(i * 37 + len * 11) % 256, ret_int (by omega), by omega⟩, rfl⟩

/-- Two tables. -/
def Pair4 (w : World) (e : Ending) (w' : World) : Prop :=
  ∃ n a m c : Int, e = .returned (.tuple #[.agg #[.int .i64 n, .int .i64 a], .agg #[.int .i64 m, .int .i64 c]]) ∧ In64 n ∧ In64 a ∧ In64 m ∧ In64 c ∧ Below w.heap.size w w'
theorem pairRes {w : World} {p q : Nat} (hne : p ≠ q) {x0 x1 y0 y1 : Value} (x y u v : Value) (h0 : w.cell? ⟨p, 0, none⟩ = some x0) (h1 : w.cell? ⟨p, 1, none⟩ = some x1) (h2 : w.cell? ⟨q, 0, none⟩ = some y0) (h3 : w.cell? ⟨q, 1, none⟩ = some y1) :
    ((((w.setCell ⟨p, 0, none⟩ x).setCell ⟨p, 1, none⟩ y).setCell ⟨q, 0, none⟩ u).setCell ⟨q, 1, none⟩ v).cell? ⟨p, 0, none⟩ = some x ∧ ((((w.setCell ⟨p, 0, none⟩ x).setCell ⟨p, 1, none⟩ y).setCell ⟨q, 0, none⟩ u).setCell ⟨q, 1, none⟩ v).cell? ⟨p, 1, none⟩ = some y ∧
    ((((w.setCell ⟨p, 0, none⟩ x).setCell ⟨p, 1, none⟩ y).setCell ⟨q, 0, none⟩ u).setCell ⟨q, 1, none⟩ v).cell? ⟨q, 0, none⟩ = some u ∧ ((((w.setCell ⟨p, 0, none⟩ x).setCell ⟨p, 1, none⟩ y).setCell ⟨q, 0, none⟩ u).setCell ⟨q, 1, none⟩ v).cell? ⟨q, 1, none⟩ = some v := by
  obtain ⟨a0, a1⟩ := keepT (u := x) (v := y) h0 h1
  have b0 := keepS (p := ⟨p, 1, none⟩) (u := y) hne (keepS (p := ⟨p, 0, none⟩) (u := x) hne h2)
  have b1 := keepS (p := ⟨p, 1, none⟩) (u := y) hne (keepS (p := ⟨p, 0, none⟩) (u := x) hne h3)
  obtain ⟨c0, c1⟩ := keepT (u := u) (v := v) b0 b1
  exact ⟨keepS (Ne.symm hne) (keepS (Ne.symm hne) a0), keepS (Ne.symm hne) (keepS (Ne.symm hne) a1), c0, c1⟩

theorem shi_in (n a x : Int) (hn : In64 n) : In64 (shiT n a x).1 ∧ In64 (shiT n a x).2.1 := by
  unfold Plain.shiT
  split
  · rename_i h
    obtain ⟨m, b, rfl, rfl, hm, hb⟩ := isT_nat h.1
    refine ⟨hn, ?_⟩
    have := tabN_bound (shiV (b : Int).toNat x.toNat) (2 ^ (m : Int).toNat) (by rw [Int.toNat_natCast]; have := two_pow_le m hm; omega)
    show In64 (tabN _ _ : Int)
    unfold In64; omega
  · exact ⟨by show In64 0; unfold In64; omega, by show In64 0; unfold In64; omega⟩

theorem grownD1 {a w : World} {r : Option Nat} (h : a.grownBy w r) : a.grownBy w.drew r := ⟨h.os, h.tape, h.output, h.size, h.block⟩
theorem grownB4 {a w w' : World} {r : Option Nat} (h : a.grownBy w r) (hb : Below w.heap.size w w') : a.grownBy w' r := grownTrans h (grownAny hb r)
theorem curD1 {w : World} {b len : Nat} {av : Value} (h : CurAt w b av len) : CurAt w.drew b av len := h
theorem dropD {X : World} {b : Nat} {o : Option Obj} (h : X.heap[b]? = o) : X.drew.heap[b]? = o := h

set_option maxRecDepth 100000 in
set_option maxHeartbeats 4000000 in
theorem Draw.pair4 (av : Value) (len : Nat) (w : World) (hc : CodeIn w av len) :
    Calls Try.prog 67 #[av] w (Pair4 w) := by
  have HC := Lib.hid hc
  obtain ⟨ad, cap, rfl, _, _⟩ := hc
  go_enter Try.func67, Try.ntmps67
  go_wp2_with fail
  have BA := Lib.hid (((Below.refl w.heap.size w).alloc (Nat.le_refl _) (.cells #[.int .i64 0, .int .i64 0] 25)).alloc (by simp) (.cells #[.int .i64 0, .int .i64 0] 25))
  refine (Cur.new _ len _ (HC.out.below BA.out)).mono ?_
  rintro e w1 ⟨b, rfl, hb, hc1, hs1, hb1⟩
  simp only [World.size_alloc] at hb
  have HBN : Hid (w.heap.size ≤ b) := Lib.hid (by omega)
  have B1 := Lib.hid (BA.out.trans (hb1.mono (by simp <;> omega)))
  have X1 := Lib.hid ((hb1.block w.heap.size (by simp <;> omega)).trans (heap_alloc2_old w _ _))
  have Y1 := Lib.hid ((hb1.block (w.heap.size + 1) (by simp <;> omega)).trans (heap_alloc2_new w _ _))
  have C1 := Lib.hid hc1
  have S1 := Lib.hid hs1
  have HBE : Hid (b ≠ w.heap.size ∧ b ≠ w.heap.size + 1) := Lib.hid (by omega)
  clear hc1 hs1 hb1
  go_wp2_with fail
  refine (Draw.any b _ len _ C1.out S1.out).mono ?_
  rintro e w2 ⟨n, a, rfl, hn, ha, hc2, hg2⟩
  have hs2 := hg2.size
  have NN := Lib.hid hn
  have AA := Lib.hid ha
  have B2 := Lib.hid ((grownNew B1.out hg2 HBN.out).alloc (by have := B1.out.size; omega) (.cells #[.int .i64 n, .int .i64 a] 25))
  have X2 := Lib.hid (blockAlloc (blockOver X1.out hg2 (by have := HBE.out.1; omega)) (.cells #[.int .i64 n, .int .i64 a] 25))
  have Y2 := Lib.hid (blockAlloc (blockOver Y1.out hg2 (by have := HBE.out.2; omega)) (.cells #[.int .i64 n, .int .i64 a] 25))
  have F2 := Lib.hid (heap_alloc_new w2 (.cells #[.int .i64 n, .int .i64 a] 25))
  have C2 := Lib.hid (hc2.alloc (.cells #[.int .i64 n, .int .i64 a] 25))
  have S2 := Lib.hid ((S1.out.grown hg2).alloc (.cells #[.int .i64 n, .int .i64 a] 25))
  have HBF : Hid (some w2.heap.size ≠ some b) := Lib.hid (by have := hc2.lt; simp; omega)
  obtain ⟨c0, c1, _, _⟩ := cells2 F2.out
  have F0 := Lib.hid c0
  have F1 := Lib.hid c1
  clear hn ha hc2 hg2 c0 c1
  have hs2' : w.heap.size + 1 < w2.heap.size := by have := lt_of_block Y1.out; omega
  have hs2'' : w2.heap.size < (w2.alloc (.cells #[.int .i64 n, .int .i64 a] 25)).drew.heap.size := by simp
  have NEWF : Hid (((w2.alloc (.cells #[.int .i64 n, .int .i64 a] 25)).alloc (.cells #[.int .i64 0, .int .i64 0] 25 (0, 0))).heap[w2.heap.size + 1]? = some (.cells #[.int .i64 0, .int .i64 0] 25 (0, 0))) := Lib.hid (by have := heap_alloc_new (w2.alloc (.cells #[.int .i64 n, .int .i64 a] 25)) (.cells #[.int .i64 0, .int .i64 0] 25 (0, 0)); rw [World.size_alloc] at this; exact this)
  have HBG : Hid (w2.heap.size + 1 ≠ b) := Lib.hid (by have := C2.out.lt; have := HBF.out; simp at this; have h2 := C1.out.lt; omega)
  go_wp2_with fail
  go_cut [6, 7] (fun s6 s7 wx => ∃ (g : Nat) (p q : Int) (r : Bool), s6 = .pointer (some ⟨g, 0, none⟩) ∧ s7 = .bool r ∧ (In64 p ∧ In64 q) ∧ (wx.cell? ⟨g, 0, none⟩ = some (.int .i64 p) ∧ wx.cell? ⟨g, 1, none⟩ = some (.int .i64 q)) ∧ (w2.heap.size < g ∧ g ≠ b) ∧ (w2.alloc (.cells #[.int .i64 n, .int .i64 a] 25)).grownBy wx (some b) ∧ CurAt wx b (.slice ad len cap) len)
  case first =>
    go_region_with (first
        | (go_at_call 68; refine (Cur.below b _ len 5 (by omega) _ (by first | exact C2.out | exact C2.out.alloc _) (by first | exact S2.out | exact S2.out.alloc _)).mono ?_; rintro e w3 ⟨x, rfl, ⟨hx0, hx7, _⟩, hc3, hg3⟩; have hs3' : w2.heap.size < w3.heap.size := Nat.lt_of_lt_of_le (by first | exact hs2'' | (simp; done) | (simp; omega)) hg3.size; have d0 := hg3.cell (by first | exact F0.out | exact keepA F0.out) HBF.out; have d1 := hg3.cell (by first | exact F1.out | exact keepA F1.out) HBF.out; (try (have HQ6 := Lib.hid (blockOver (c := w2.heap.size + 1) (by first | (with_reducible exact NEWF.out) | (with_reducible refine dropD ?_; with_reducible exact NEWF.out)) hg3 HBG.out))); have HC3 := Lib.hid hc3; have HG3 := Lib.hid hg3; clear hx7 hc3 hg3)
        | (go_at_call 22; refine (Tab.shiM n a _ _).mono ?_; rintro e w4 ⟨rfl, hb4⟩; have HIN := Lib.hid (shi_in n a x NN.out); generalize shiT n a x = t4 at *; obtain ⟨p4, q4, r4⟩ := t4; dsimp only; have hs4' := hb4.size; (try simp only [World.size_drew] at hs4'); (try (have e6 := blockB (b := w2.heap.size + 1) hb4 (by first | (with_reducible exact HQ6.out) | (with_reducible refine dropD ?_; with_reducible exact HQ6.out)); obtain ⟨e0, e1, e2, e3⟩ := cells2 e6; have HE6 := Lib.hid e6; clear e6)); (try (have e7 := blockB (b := w3.heap.size) hb4 (by first | (with_reducible exact heap_alloc_new w3 (.cells #[.int .i64 0, .int .i64 0] 25 (0, 0))) | (with_reducible refine dropD ?_; with_reducible exact heap_alloc_new w3 (.cells #[.int .i64 0, .int .i64 0] 25 (0, 0)))); obtain ⟨e0, e1, e2, e3⟩ := cells2 e7; have HE7 := Lib.hid e7; clear e7)); have HB4 := Lib.hid hb4; clear hb4))
    all_goals
      go_wp2_with fail
      go_meet
      have hb3 : b < w3.heap.size := HC3.out.lt
      have hs4'' := HB4.out.size
      refine ⟨_, p4, q4, r4, rfl, rfl, HIN.out, ?_, ?_, ?_, ?_⟩
      · first | exact ⟨keepN rfl rfl, keepN rfl rfl⟩ | exact keepT e0 e1
      · exact ⟨by first | omega | (simp; omega), by first | omega | exact HBG.out | (simp; omega)⟩
      · (repeat (first | (with_reducible exact grownRefl _ _) | (with_reducible refine grownD1 ?_) | (with_reducible refine grownOver ?_ _ _ _ (by first | omega | (simp; done) | (simp; omega))) | (with_reducible refine grownAlloc ?_ _) | (with_reducible refine grownB4 ?_ HB4.out) | (with_reducible refine grownTrans ?_ HG3.out)))
      · (repeat (first | (with_reducible exact HC3.out) | (with_reducible refine curD1 ?_) | (with_reducible refine CurAt.set ?_ _ _ _ (by first | omega | exact HBG.out)) | (with_reducible refine CurAt.alloc ?_ _) | (with_reducible refine CurAt.below ?_ HB4.out (by first | omega | (simp; done) | (simp; omega)))))
  case rest =>
    obtain ⟨g, p, q, r, rfl, rfl, hpq, ⟨q0, q1⟩, ⟨hg, hgb⟩, hgr, hcu⟩ := hcut
    have B3 := Lib.hid (grownNew B2.out hgr HBN.out)
    have X3 := Lib.hid (blockOver X2.out hgr (by have := HBE.out.1; omega))
    have Y3 := Lib.hid (blockOver Y2.out hgr (by have := HBE.out.2; omega))
    have F3 := Lib.hid (blockOver F2.out hgr (by have := HBF.out; simp at this; omega))
    have S3 := Lib.hid (S2.out.grown hgr)
    have C3 := Lib.hid hcu
    have PQ := Lib.hid hpq
    have HGB : Hid (g ≠ b) := Lib.hid hgb
    obtain ⟨c0, c1, _, _⟩ := cells2 F3.out
    clear F0 F1
    have F0 := Lib.hid c0
    have F1 := Lib.hid c1
    have hsx := lt_of_block F3.out
    clear hgr hcu hpq c0 c1 F2
    cases r with
    | false =>
      go_wp2_with fail
      go_region_held3 (fun w' => w'.cell? ⟨w2.heap.size, 0, none⟩ = some (.int .i64 n) ∧ w'.cell? ⟨w2.heap.size, 1, none⟩ = some (.int .i64 a))
        ((first | (go_split_ands; (try dsimp only); (refine ⟨?_, ?_⟩ <;> (repeat (first | with_reducible assumption | with_reducible exact F0.out | with_reducible exact F1.out | (with_reducible refine keepD ?_) | ((with_reducible refine keepS ?_ ?_); (focus (dsimp only; omega))) | exact hg5.cell F0.out HBF.out | exact hg5.cell F1.out HBF.out))); done) | go_keep))
        (first | (go_at_call 49; refine (Draw.any b _ len _ (by exact C3.out) (by exact S3.out)).mono ?_; rintro e w5 ⟨n', a', rfl, hn', ha', hc5, hg5⟩; obtain ⟨z0, z1, g0, g1⟩ := cells2 (resOver X3.out hg5 HBE.out.1); obtain ⟨y0, y1, h0, h1⟩ := cells2 (resOver Y3.out hg5 HBE.out.2); have hs5' : w.heap.size + 1 < w5.heap.size := (by have q := hg5.size; (try simp only [World.size_drew] at q); omega); have hs5 : w.heap.size < w5.heap.size := Nat.lt_of_succ_lt hs5'))
      all_goals
        have NN5 : Hid (In64 n') := Lib.hid hn'
        have AA5 := Lib.hid ha'
        have B5 := Lib.hid (grownNew (bD B3.out) hg5 HBN.out)
        have K1 := Lib.hid (pairRes (p := w.heap.size) (q := w.heap.size + 1) (by omega) (.int .i64 n) (.int .i64 a) (.int .i64 n') (.int .i64 a') z0 z1 y0 y1)
        have K2 := Lib.hid (pairRes (p := w.heap.size + 1) (q := w.heap.size) (by omega) (.int .i64 n') (.int .i64 a') (.int .i64 n) (.int .i64 a) y0 y1 z0 z1)
        clear hn' ha' hc5 hg5
        go_wp2
        first
        | (obtain ⟨k0, k1, k2, k3⟩ := K1.out
           exact bodyPost_ret (v := .tuple #[.agg #[.int .i64 n, .int .i64 a], .agg #[.int .i64 n', .int .i64 a']]) (by simp [results, Try.results67, go_sem, k0, k1, k2, k3]) rfl ⟨_, a, n', a', rfl, NN.out, AA.out, NN5.out, AA5.out, by exact bS (by dsimp only; omega) (bS (by dsimp only; omega) (bS (by dsimp only; omega) (bS (by dsimp only; omega) B5.out)))⟩)
        | (obtain ⟨k0, k1, k2, k3⟩ := K2.out
           exact bodyPost_ret (v := .tuple #[.agg #[.int .i64 n, .int .i64 a], .agg #[.int .i64 n', .int .i64 a']]) (by simp [results, Try.results67, go_sem, k0, k1, k2, k3]) rfl ⟨_, a, n', a', rfl, NN.out, AA.out, NN5.out, AA5.out, by exact bS (by dsimp only; omega) (bS (by dsimp only; omega) (bS (by dsimp only; omega) (bS (by dsimp only; omega) B5.out)))⟩)

    | true =>
      go_wp2_with fail
      refine (Draw.once b _ len 2 (by omega) _ C3.out S3.out).mono ?_
      rintro e w7 ⟨rr, rfl, hc7, hg7⟩
      obtain ⟨d0, d1, _, _⟩ := cells2 (blockOver X3.out hg7 (by have := HBE.out.1; omega))
      have Q7 := Lib.hid (hg7.cell q0 (by have := HGB.out; simp; omega))
      have Q8 := Lib.hid (hg7.cell q1 (by have := HGB.out; simp; omega))
      have B4 := Lib.hid (grownNew B3.out hg7 HBN.out)
      have X4 := Lib.hid (blockOver X3.out hg7 (by have := HBE.out.1; omega))
      have Y4 := Lib.hid (blockOver Y3.out hg7 (by have := HBE.out.2; omega))
      have F4 := Lib.hid (blockOver F3.out hg7 (by have := HBF.out; simp at this; omega))
      have S4 := Lib.hid (S3.out.grown hg7)
      have C4 := Lib.hid hc7
      have hsz := lt_of_block F4.out
      clear hc7 hg7 d0 d1 q0 q1 F0 F1 B3 X3 Y3 F3 S3 C3
      have B3 := Lib.hid B4.out
      have X3 := Lib.hid X4.out
      have Y3 := Lib.hid Y4.out
      have F3 := Lib.hid F4.out
      have S3 := Lib.hid S4.out
      have C3 := Lib.hid C4.out
      obtain ⟨c0, c1, _, _⟩ := cells2 F3.out
      have F0 := Lib.hid c0
      have F1 := Lib.hid c1
      clear B4 X4 Y4 F4 S4 C4
      cases rr with
      | false =>
        clear c0 c1
        go_wp2_with fail
        go_region_held3 (fun w' => w'.cell? ⟨w2.heap.size, 0, none⟩ = some (.int .i64 n) ∧ w'.cell? ⟨w2.heap.size, 1, none⟩ = some (.int .i64 a))
          ((first | (go_split_ands; (try dsimp only); (refine ⟨?_, ?_⟩ <;> (repeat (first | with_reducible assumption | with_reducible exact F0.out | with_reducible exact F1.out | (with_reducible refine keepD ?_) | ((with_reducible refine keepS ?_ ?_); (focus (dsimp only; omega))) | exact hg5.cell F0.out HBF.out | exact hg5.cell F1.out HBF.out))); done) | go_keep))
          (first | (go_at_call 49; refine (Draw.any b _ len _ (by exact C3.out) (by exact S3.out)).mono ?_; rintro e w5 ⟨n', a', rfl, hn', ha', hc5, hg5⟩; obtain ⟨z0, z1, g0, g1⟩ := cells2 (resOver X3.out hg5 HBE.out.1); obtain ⟨y0, y1, h0, h1⟩ := cells2 (resOver Y3.out hg5 HBE.out.2); have hs5' : w.heap.size + 1 < w5.heap.size := (by have q := hg5.size; (try simp only [World.size_drew] at q); omega); have hs5 : w.heap.size < w5.heap.size := Nat.lt_of_succ_lt hs5'))
        all_goals
          have NN5 : Hid (In64 n') := Lib.hid hn'
          have AA5 := Lib.hid ha'
          have B5 := Lib.hid (grownNew (bD B3.out) hg5 HBN.out)
          have K1 := Lib.hid (pairRes (p := w.heap.size) (q := w.heap.size + 1) (by omega) (.int .i64 n) (.int .i64 a) (.int .i64 n') (.int .i64 a') z0 z1 y0 y1)
          have K2 := Lib.hid (pairRes (p := w.heap.size + 1) (q := w.heap.size) (by omega) (.int .i64 n') (.int .i64 a') (.int .i64 n) (.int .i64 a) y0 y1 z0 z1)
          clear hn' ha' hc5 hg5
          go_wp2
          first
          | (obtain ⟨k0, k1, k2, k3⟩ := K1.out
             exact bodyPost_ret (v := .tuple #[.agg #[.int .i64 n, .int .i64 a], .agg #[.int .i64 n', .int .i64 a']]) (by simp [results, Try.results67, go_sem, k0, k1, k2, k3]) rfl ⟨_, a, n', a', rfl, NN.out, AA.out, NN5.out, AA5.out, by exact bS (by dsimp only; omega) (bS (by dsimp only; omega) (bS (by dsimp only; omega) (bS (by dsimp only; omega) B5.out)))⟩)
          | (obtain ⟨k0, k1, k2, k3⟩ := K2.out
             exact bodyPost_ret (v := .tuple #[.agg #[.int .i64 n, .int .i64 a], .agg #[.int .i64 n', .int .i64 a']]) (by simp [results, Try.results67, go_sem, k0, k1, k2, k3]) rfl ⟨_, a, n', a', rfl, NN.out, AA.out, NN5.out, AA5.out, by exact bS (by dsimp only; omega) (bS (by dsimp only; omega) (bS (by dsimp only; omega) (bS (by dsimp only; omega) B5.out)))⟩)
      | true =>
        have q0 := Q7.out
        have q1 := Q8.out
        obtain ⟨z0, z1, g0, g1⟩ := cells2 X3.out
        obtain ⟨y0, y1, h0, h1⟩ := cells2 Y3.out
        have K1 := Lib.hid (pairRes (p := w.heap.size) (q := w.heap.size + 1) (by omega) (.int .i64 n) (.int .i64 a) (.int .i64 p) (.int .i64 q) z0 z1 y0 y1)
        have K2 := Lib.hid (pairRes (p := w.heap.size + 1) (q := w.heap.size) (by omega) (.int .i64 p) (.int .i64 q) (.int .i64 n) (.int .i64 a) y0 y1 z0 z1)
        go_wp2_with fail
        go_region_with (fail)
        all_goals
          go_wp2
          first
          | (obtain ⟨k0, k1, k2, k3⟩ := K1.out
             exact bodyPost_ret (v := .tuple #[.agg #[.int .i64 n, .int .i64 a], .agg #[.int .i64 p, .int .i64 q]]) (by simp [results, Try.results67, go_sem, k0, k1, k2, k3]) rfl ⟨_, a, p, q, rfl, NN.out, AA.out, PQ.out.1, PQ.out.2, by exact bS (by dsimp only; omega) (bS (by dsimp only; omega) (bS (by dsimp only; omega) (bS (by dsimp only; omega) (bD B3.out))))⟩)
          | (obtain ⟨k0, k1, k2, k3⟩ := K2.out
             exact bodyPost_ret (v := .tuple #[.agg #[.int .i64 n, .int .i64 a], .agg #[.int .i64 p, .int .i64 q]]) (by simp [results, Try.results67, go_sem, k0, k1, k2, k3]) rfl ⟨_, a, p, q, rfl, NN.out, AA.out, PQ.out.1, PQ.out.2, by exact bS (by dsimp only; omega) (bS (by dsimp only; omega) (bS (by dsimp only; omega) (bS (by dsimp only; omega) (bD B3.out))))⟩)

end Go.Proofs.Ythdcjldmafhcjaa
