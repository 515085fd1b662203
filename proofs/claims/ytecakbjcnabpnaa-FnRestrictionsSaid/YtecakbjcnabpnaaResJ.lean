/-
  ReduceTable of the program and of its model.
-/
import Derived.Test.YtecakbjcnabpnaaResG
namespace Go.Proofs.Ytecakbjcnabpnaa
open Go.RowKit Plain
set_option linter.unusedVariables false

/-- The table without the variables below i that do not matter. -/
def Plain.redS : Nat → Nat → Nat → Nat × Nat
  | 0, n, a => (n, a)
  | i + 1, n, a => if depW n a i = true then redS i n a else redS i (n - 1) (restW n a i 0)
theorem redS_yes {i n a : Nat} (h : depW n a i = true) : redS (i + 1) n a = redS i n a := by show (if _ then _ else _) = _; rw [if_pos h]
theorem redS_no {i n a : Nat} (h : depW n a i = false) : redS (i + 1) n a = redS i (n - 1) (restW n a i 0) := by show (if _ then _ else _) = _; rw [if_neg (by rw [h]; decide)]
theorem isT_rest {n a i b : Nat} (hn : n ≤ 5) : isT ((n - 1 : Nat) : Int) (restW n a i b : Int) = true := isT_yes (by omega) (tabN_full _ _)

/-- What ReduceTable answers. -/
def Plain.redT (n a : Int) : Int × Int × Bool :=
  if isT n a = true then (((redS n.toNat n.toNat a.toNat).1 : Int), ((redS n.toNat n.toNat a.toNat).2 : Int), true) else (0, 0, false)
theorem redT_yes {n a : Nat} (ht : isT n a = true) : redT n a = (((redS n n a).1 : Int), ((redS n n a).2 : Int), true) := by
  unfold redT; rw [if_pos ht]; rfl
theorem redT_no {n a : Int} (h : isT n a = false) : redT n a = (0, 0, false) := if_neg (by rw [h]; decide)

theorem Tab.resI0 (n a i : Nat) (ht : isT n a = true) (ha : (a : Int) ≤ 4294967295) (hi : (i : Int) ≤ (n : Int) - 1) (w : World) :
    Calls Try.prog 12 #[.agg #[.int .i64 n, .int .i64 a], .int .i64 i, .int .i64 0] w fun e w' => e = .returned (.tuple #[.agg #[.int .i64 ((n : Int) - 1), .int .i64 (restW n a i 0 : Int)], .bool true]) ∧ Below w.heap.size w w' := by
  have h := Tab.resI n a i 0 (by omega) w
  rw [show resT n a i 0 = _ from resT_yes (b := 0) ht hi (by decide)] at h
  exact h

theorem set2 {w : World} {b : Nat} {x y : Value} {T : TypeId} (h : w.heap[b]? = some (.cells #[x, y] T (0, 0))) (u v : Value) : ((w.setCell ⟨b, 0, none⟩ u).setCell ⟨b, 1, none⟩ v).heap[b]? = some (.cells #[u, v] T (0, 0)) := by
  have h1 : (w.setCell ⟨b, 0, none⟩ u).heap[b]? = some (.cells #[u, y] T (0, 0)) := by rw [heap_setCell_same w b 0 _ _ u h]; rfl
  rw [heap_setCell_same _ b 1 _ _ v h1]; rfl
theorem set2_other {w : World} {b c : Nat} {o : Option Obj} (h : w.heap[c]? = o) (hne : b ≠ c) (u v : Value) : ((w.setCell ⟨b, 0, none⟩ u).setCell ⟨b, 1, none⟩ v).heap[c]? = o := by
  rw [heap_setCell_other _ ⟨b, 1, none⟩ c v (fun e => hne (by simp [e])), heap_setCell_other _ ⟨b, 0, none⟩ c u (fun e => hne (by simp [e]))]; exact h
theorem below_set2 {w : World} {b : Nat} (u v : Value) {B : Nat} {W : World} (h : Below B W w) (hB : B ≤ b) : Below B W ((w.setCell ⟨b, 0, none⟩ u).setCell ⟨b, 1, none⟩ v) := bS hB (bS hB h)

theorem Tab.redI_no (n a : Int) (h64 : -9223372036854775808 ≤ a ∧ a ≤ 9223372036854775807) (ht : isT n a = false) (w : World) :
    Calls Try.prog 26 #[.agg #[.int .i64 n, .int .i64 a]] w fun e w' => e = .returned (.tuple #[.agg #[.int .i64 0, .int .i64 0], .bool false]) ∧ Below w.heap.size w w' := by
  have H := Lib.hid ht
  clear ht
  have HB := Lib.hid h64
  clear h64
  go_enter Try.func26, Try.ntmps26
  go_wp2_with fail
  refine (Tab.impl _ _ HB.out _).mono ?_
  rintro e w1 ⟨rfl, hb1⟩
  obtain ⟨hc, hf⟩ := bcell hb1
  obtain ⟨hz0_w1, hz1_w1⟩ : w.heap.size < w1.heap.size ∧ w.heap.size + 1 < w1.heap.size := by have := hb1.size; simp at this; omega
  rw [H.out]
  go_wp2
  exact bodyPost_ret (v := .tuple #[.agg #[.int .i64 0, .int .i64 0], .bool false]) (by simp [results, Try.results26, go_sem, hc]) rfl ⟨rfl, bS (by simp <;> omega) (bS (by simp <;> omega) ((((Below.refl _ _).alloc (Nat.le_refl _) _).alloc (by simp <;> omega) _).trans (hb1.mono (by simp <;> omega))))⟩

set_option maxRecDepth 100000 in
set_option maxHeartbeats 1000000 in
theorem Tab.redI_yes (n a : Nat) (hn : n ≤ 5) (ht : isT n a = true) (ha : (a : Int) ≤ 4294967295) (w : World) :
    Calls Try.prog 26 #[.agg #[.int .i64 n, .int .i64 a]] w fun e w' => e = .returned (.tuple #[.agg #[.int .i64 ((redS n n a).1 : Int), .int .i64 ((redS n n a).2 : Int)], .bool true]) ∧ Below w.heap.size w w' := by
  have H := Lib.hid ht
  have HN := Lib.hid hn
  have hn5 : (n : Int) ≤ 5 := by omega
  clear ht hn
  go_enter Try.func26, Try.ntmps26
  go_wp2_with fail
  refine (Tab.impl _ _ (by omega) _).mono ?_
  rintro e w1 ⟨rfl, hb1⟩
  obtain ⟨hc, hf⟩ := bcell hb1
  obtain ⟨hz0_w1, hz1_w1⟩ : w.heap.size < w1.heap.size ∧ w.heap.size + 1 < w1.heap.size := by have := hb1.size; simp at this; omega
  rw [H.out]
  have hx0 := blockOn (heap_alloc2_old w (.cells #[.int .i64 n, .int .i64 a] 25) (.cells #[.int .i64 0, .int .i64 0] 25)) hb1
  have hx1 := blockOn (heap_alloc2_new w (.cells #[.int .i64 n, .int .i64 a] 25) (.cells #[.int .i64 0, .int .i64 0] 25)) hb1
  have HX0 := Lib.hid hx0
  have HX1 := Lib.hid hx1
  clear hx0 hx1
  go_wp2_with fail
  go_loopw [4] (fun s wr => ∃ (j : Int) (i' n' a' : Nat), s = .int .i64 j ∧ j + 1 = (i' : Int) ∧ i' ≤ n' ∧ n' ≤ 5 ∧ isT n' a' = true ∧ redS i' n' a' = redS n n a ∧ Below w.heap.size w wr ∧ wr.heap[w.heap.size]? = some (.cells #[.int .i64 n', .int .i64 a'] 25 (0, 0)) ∧ wr.heap[w.heap.size + 1]? = some (.cells #[.int .i64 0, .int .i64 0] 25 (0, 0))) (fun s _ => (intOf s + 1).toNat)
  case atStart => exact ⟨(n : Int) - 1, n, n, a, rfl, by omega, Nat.le_refl _, HN.out, H.out, rfl, (((Below.refl _ _).alloc (Nat.le_refl _) _).alloc (by simp <;> omega) _).trans (hb1.mono (by simp <;> omega)), HX0.out, HX1.out⟩
  case round =>
    obtain ⟨j, i', n', a', rfl, hj, hin, hn', ht', hr, hbel, hx0, hx1⟩ := hrel
    obtain ⟨c0, c1, f0, f1⟩ := cells2 hx0
    obtain ⟨d0, d1, g0, g1⟩ := cells2 hx1
    have hsz : w.heap.size + 1 < wr.heap.size := lt_of_block hx1
    have hsz0 : w.heap.size < wr.heap.size := by omega
    have hl' : (a' : Int) ≤ 4294967295 := by
      have h1 := (isT_iff.1 ht').2.2.2
      have h2 := fullN_le n' hn'
      simp only [Int.toNat_natCast] at h1
      omega
    have HBEL := Lib.hid hbel
    have HX0 := Lib.hid hx0
    have HX1 := Lib.hid hx1
    have HR := Lib.hid hr
    have HT := Lib.hid ht'
    clear hbel hx0 hx1 hc hf hr ht'
    by_cases h0 : 0 ≤ j
    · obtain ⟨k, rfl⟩ := Int.eq_ofNat_of_zero_le h0
      obtain rfl : i' = k + 1 := by omega
      have hkb : (k : Int) ≤ 4 := by omega
      have hn1 : 1 ≤ (n' : Int) := by omega
      have hn5' : (n' : Int) ≤ 5 := by omega
      have hki : (k : Int) ≤ (n' : Int) - 1 := by omega
      have HD := Lib.hid (Tab.depI n' a' k (by omega))
      rw [depB_in HT.out hki] at HD
      have HRES := Lib.hid (Tab.resI0 n' a' k HT.out hl' hki)
      have HE : Hid ((n' : Int) - 1 = ((n' - 1 : Nat) : Int)) := Lib.hid (by omega)
      have HN' := Lib.hid hn'
      have HIN := Lib.hid hin
      clear hj hn' hin
      cases hd : depW n' a' k with
      | true =>
        have HV := Lib.hid (redS_yes hd)
        rw [hd] at HD
        clear hd
        go_wp2_with fail
        refine (HD.out _).mono ?_
        rintro e w2 ⟨rfl, hb2⟩
        have HB2 := Lib.hid (HBEL.out.trans (hb2.mono (by omega)))
        have HY0 := Lib.hid (blockOn HX0.out hb2)
        have HY1 := Lib.hid (blockOn HX1.out hb2)
        clear hb2
        go_wp2_with fail
        go_roundw
        case rel => exact ⟨(k : Int) - 1, k, n', a', rfl, by omega, by have := HIN.out; omega, HN'.out, HT.out, by rw [← HR.out, HV.out], HB2.out, HY0.out, HY1.out⟩
        case measure => simp [intOf] <;> omega
      | false =>
        have HV := Lib.hid (redS_no hd)
        rw [hd] at HD
        clear hd
        go_wp2_with fail
        refine (HD.out _).mono ?_
        rintro e w2 ⟨rfl, hb2⟩
        obtain ⟨hc2, hf2⟩ := bcell hb2
        have hs2 := hb2.size
        have HB2 := Lib.hid (HBEL.out.trans (hb2.mono (by omega)))
        have HY0 := Lib.hid (blockOn HX0.out hb2)
        have HY1 := Lib.hid (blockOn HX1.out hb2)
        clear hb2
        go_wp2_with fail
        refine (HRES.out _).mono ?_
        rintro e w3 ⟨rfl, hb3⟩
        have hs3 := hb3.size
        have HB3 := Lib.hid (HB2.out.trans (hb3.mono (by omega)))
        have HZ0 := Lib.hid (blockOn HY0.out hb3)
        have HZ1 := Lib.hid (blockOn HY1.out hb3)
        obtain ⟨p0, p1, q0, q1⟩ := cells2 HZ0.out
        clear hb3 hc2 hf2
        go_wp2_with fail
        go_roundw
        case rel => exact ⟨(k : Int) - 1, k, n' - 1, restW n' a' k 0, rfl, by omega, by have := HIN.out; omega, by have := HN'.out; omega, isT_rest HN'.out, by rw [← HR.out, HV.out], below_set2 _ _ HB3.out (Nat.le_refl _), by rw [← HE.out]; exact set2 HZ0.out _ _, set2_other HZ1.out (by omega) _ _⟩
        case measure => simp [intOf] <;> omega
    · obtain rfl : i' = 0 := by omega
      have h0' : j < 0 := by omega
      have HF : Hid (n' = (redS n n a).1 ∧ a' = (redS n n a).2) := Lib.hid (by rw [← HR.out]; exact ⟨rfl, rfl⟩)
      go_wp2
      obtain ⟨k0, k1⟩ := keepT (Y := wr) (g := w.heap.size + 1) (u := .int .i64 (n' : Int)) (v := .int .i64 (a' : Int)) d0 d1
      rw [← HF.out.1, ← HF.out.2]
      exact bodyPost_ret (v := .tuple #[.agg #[.int .i64 n', .int .i64 a'], .bool true]) (by simp [results, Try.results26, go_sem, k0, k1]) rfl ⟨rfl, bS (by simp) (bS (by simp) HBEL.out)⟩

theorem Tab.redM_no (n a : Int) (ht : isT n a = false) (w : World) :
    Calls Try.prog 27 #[.agg #[.int .i64 n, .int .i64 a]] w fun e w' => e = .returned (.tuple #[.agg #[.int .i64 0, .int .i64 0], .bool false]) ∧ Below w.heap.size w w' := by
  have H := Lib.hid ht
  clear ht
  go_enter Try.func27, Try.ntmps27
  go_wp2_with fail
  refine (Tab.model _ _ _).mono ?_
  rintro e w1 ⟨rfl, hb1⟩
  obtain ⟨hc, hf⟩ := bcell hb1
  obtain ⟨hz0_w1, hz1_w1⟩ : w.heap.size < w1.heap.size ∧ w.heap.size + 1 < w1.heap.size := by have := hb1.size; simp at this; omega
  rw [H.out]
  go_wp2
  exact bodyPost_ret (v := .tuple #[.agg #[.int .i64 0, .int .i64 0], .bool false]) (by simp [results, Try.results27, go_sem, hc]) rfl ⟨rfl, bS (by simp <;> omega) (bS (by simp <;> omega) ((((Below.refl _ _).alloc (Nat.le_refl _) _).alloc (by simp <;> omega) _).trans (hb1.mono (by simp <;> omega))))⟩

set_option maxRecDepth 100000 in
set_option maxHeartbeats 1000000 in
theorem Tab.redM_yes (n a : Nat) (hn : n ≤ 5) (ht : isT n a = true) (ha : (a : Int) ≤ 4294967295) (w : World) :
    Calls Try.prog 27 #[.agg #[.int .i64 n, .int .i64 a]] w fun e w' => e = .returned (.tuple #[.agg #[.int .i64 ((redS n n a).1 : Int), .int .i64 ((redS n n a).2 : Int)], .bool true]) ∧ Below w.heap.size w w' := by
  have H := Lib.hid ht
  have HN := Lib.hid hn
  have hn5 : (n : Int) ≤ 5 := by omega
  clear ht hn
  go_enter Try.func27, Try.ntmps27
  go_wp2_with fail
  refine (Tab.model _ _ _).mono ?_
  rintro e w1 ⟨rfl, hb1⟩
  obtain ⟨hc, hf⟩ := bcell hb1
  obtain ⟨hz0_w1, hz1_w1⟩ : w.heap.size < w1.heap.size ∧ w.heap.size + 1 < w1.heap.size := by have := hb1.size; simp at this; omega
  rw [H.out]
  have hx0 := blockOn (heap_alloc2_old w (.cells #[.int .i64 n, .int .i64 a] 25) (.cells #[.int .i64 0, .int .i64 0] 25)) hb1
  have hx1 := blockOn (heap_alloc2_new w (.cells #[.int .i64 n, .int .i64 a] 25) (.cells #[.int .i64 0, .int .i64 0] 25)) hb1
  have HX0 := Lib.hid hx0
  have HX1 := Lib.hid hx1
  clear hx0 hx1
  go_wp2_with fail
  go_loopw [4] (fun s wr => ∃ (j : Int) (i' n' a' : Nat), s = .int .i64 j ∧ j + 1 = (i' : Int) ∧ i' ≤ n' ∧ n' ≤ 5 ∧ isT n' a' = true ∧ redS i' n' a' = redS n n a ∧ Below w.heap.size w wr ∧ wr.heap[w.heap.size]? = some (.cells #[.int .i64 n', .int .i64 a'] 25 (0, 0)) ∧ wr.heap[w.heap.size + 1]? = some (.cells #[.int .i64 0, .int .i64 0] 25 (0, 0))) (fun s _ => (intOf s + 1).toNat)
  case atStart => exact ⟨(n : Int) - 1, n, n, a, rfl, by omega, Nat.le_refl _, HN.out, H.out, rfl, (((Below.refl _ _).alloc (Nat.le_refl _) _).alloc (by simp <;> omega) _).trans (hb1.mono (by simp <;> omega)), HX0.out, HX1.out⟩
  case round =>
    obtain ⟨j, i', n', a', rfl, hj, hin, hn', ht', hr, hbel, hx0, hx1⟩ := hrel
    obtain ⟨c0, c1, f0, f1⟩ := cells2 hx0
    obtain ⟨d0, d1, g0, g1⟩ := cells2 hx1
    have hsz : w.heap.size + 1 < wr.heap.size := lt_of_block hx1
    have hsz0 : w.heap.size < wr.heap.size := by omega
    have hl' : (a' : Int) ≤ 4294967295 := by
      have h1 := (isT_iff.1 ht').2.2.2
      have h2 := fullN_le n' hn'
      simp only [Int.toNat_natCast] at h1
      omega
    have HBEL := Lib.hid hbel
    have HX0 := Lib.hid hx0
    have HX1 := Lib.hid hx1
    have HR := Lib.hid hr
    have HT := Lib.hid ht'
    clear hbel hx0 hx1 hc hf hr ht'
    by_cases h0 : 0 ≤ j
    · obtain ⟨k, rfl⟩ := Int.eq_ofNat_of_zero_le h0
      obtain rfl : i' = k + 1 := by omega
      have hkb : (k : Int) ≤ 4 := by omega
      have hn1 : 1 ≤ (n' : Int) := by omega
      have hn5' : (n' : Int) ≤ 5 := by omega
      have hki : (k : Int) ≤ (n' : Int) - 1 := by omega
      have HD := Lib.hid (Tab.depM_in n' a' k hn' hl' (by omega))
      skip
      have HRES := Lib.hid (Tab.resM0 n' a' k hn' hl' hki)
      have HE : Hid ((n' : Int) - 1 = ((n' - 1 : Nat) : Int)) := Lib.hid (by omega)
      have HN' := Lib.hid hn'
      have HIN := Lib.hid hin
      clear hj hn' hin
      cases hd : depW n' a' k with
      | true =>
        have HV := Lib.hid (redS_yes hd)
        rw [hd] at HD
        clear hd
        go_wp2_with fail
        refine (HD.out _).mono ?_
        rintro e w2 ⟨rfl, hb2⟩
        have HB2 := Lib.hid (HBEL.out.trans (hb2.mono (by omega)))
        have HY0 := Lib.hid (blockOn HX0.out hb2)
        have HY1 := Lib.hid (blockOn HX1.out hb2)
        clear hb2
        go_wp2_with fail
        go_roundw
        case rel => exact ⟨(k : Int) - 1, k, n', a', rfl, by omega, by have := HIN.out; omega, HN'.out, HT.out, by rw [← HR.out, HV.out], HB2.out, HY0.out, HY1.out⟩
        case measure => simp [intOf] <;> omega
      | false =>
        have HV := Lib.hid (redS_no hd)
        rw [hd] at HD
        clear hd
        go_wp2_with fail
        refine (HD.out _).mono ?_
        rintro e w2 ⟨rfl, hb2⟩
        obtain ⟨hc2, hf2⟩ := bcell hb2
        have hs2 := hb2.size
        have HB2 := Lib.hid (HBEL.out.trans (hb2.mono (by omega)))
        have HY0 := Lib.hid (blockOn HX0.out hb2)
        have HY1 := Lib.hid (blockOn HX1.out hb2)
        clear hb2
        go_wp2_with fail
        refine (HRES.out _).mono ?_
        rintro e w3 ⟨rfl, hb3⟩
        have hs3 := hb3.size
        have HB3 := Lib.hid (HB2.out.trans (hb3.mono (by omega)))
        have HZ0 := Lib.hid (blockOn HY0.out hb3)
        have HZ1 := Lib.hid (blockOn HY1.out hb3)
        obtain ⟨p0, p1, q0, q1⟩ := cells2 HZ0.out
        clear hb3 hc2 hf2
        go_wp2_with fail
        go_roundw
        case rel => exact ⟨(k : Int) - 1, k, n' - 1, restW n' a' k 0, rfl, by omega, by have := HIN.out; omega, by have := HN'.out; omega, isT_rest HN'.out, by rw [← HR.out, HV.out], below_set2 _ _ HB3.out (Nat.le_refl _), by rw [← HE.out]; exact set2 HZ0.out _ _, set2_other HZ1.out (by omega) _ _⟩
        case measure => simp [intOf] <;> omega
    · obtain rfl : i' = 0 := by omega
      have h0' : j < 0 := by omega
      have HF : Hid (n' = (redS n n a).1 ∧ a' = (redS n n a).2) := Lib.hid (by rw [← HR.out]; exact ⟨rfl, rfl⟩)
      go_wp2
      obtain ⟨k0, k1⟩ := keepT (Y := wr) (g := w.heap.size + 1) (u := .int .i64 (n' : Int)) (v := .int .i64 (a' : Int)) d0 d1
      rw [← HF.out.1, ← HF.out.2]
      exact bodyPost_ret (v := .tuple #[.agg #[.int .i64 n', .int .i64 a'], .bool true]) (by simp [results, Try.results27, go_sem, k0, k1]) rfl ⟨rfl, bS (by simp) (bS (by simp) HBEL.out)⟩

/-- ReduceTable of the model. -/
theorem Tab.redM (n a : Int) (w : World) :
    Calls Try.prog 27 #[.agg #[.int .i64 n, .int .i64 a]] w fun e w' => e = .returned (.tuple #[.agg #[.int .i64 (redT n a).1, .int .i64 (redT n a).2.1], .bool (redT n a).2.2]) ∧ Below w.heap.size w w' := by
  by_cases ht : isT n a = true
  · obtain ⟨m, y, rfl, rfl, hm, hy⟩ := isT_nat ht
    have hl : (y : Int) ≤ 4294967295 := by have := fullN_le m hm; omega
    rw [redT_yes ht]
    exact Tab.redM_yes m y hm ht hl w
  · have ht' : isT n a = false := by simpa using ht
    rw [redT_no ht']
    exact Tab.redM_no n a ht' w

/-- ReduceTable of the program. -/
theorem Tab.redI (n a : Int) (h64 : -9223372036854775808 ≤ a ∧ a ≤ 9223372036854775807) (w : World) :
    Calls Try.prog 26 #[.agg #[.int .i64 n, .int .i64 a]] w fun e w' => e = .returned (.tuple #[.agg #[.int .i64 (redT n a).1, .int .i64 (redT n a).2.1], .bool (redT n a).2.2]) ∧ Below w.heap.size w w' := by
  by_cases ht : isT n a = true
  · obtain ⟨m, y, rfl, rfl, hm, hy⟩ := isT_nat ht
    have hl : (y : Int) ≤ 4294967295 := by have := fullN_le m hm; omega
    rw [redT_yes ht]
    exact Tab.redI_yes m y hm ht hl w
  · have ht' : isT n a = false := by simpa using ht
    rw [redT_no ht']
    exact Tab.redI_no n a h64 ht' w

end Go.Proofs.Ytecakbjcnabpnaa
