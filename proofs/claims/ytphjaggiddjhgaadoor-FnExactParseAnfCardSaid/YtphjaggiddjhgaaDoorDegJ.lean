/-
  Chapter 11, the program: RealCoefficients.
-/
import Derived.Test.YtphjaggiddjhgaaDoorDegI
import Derived.Test.YtphjaggiddjhgaaDoorResL
namespace Go.Proofs.YtphjaggiddjhgaaDoor
open Go.RowKit Plain
set_option linter.unusedVariables false

/-- The coefficients of the first k sets. -/
def Plain.reL (w k : Nat) : List Int := (List.range k).map (reZ w)
theorem reL_len (w k : Nat) : (reL w k).length = k := by simp [reL]
theorem reL_succ (w k : Nat) : reL w (k + 1) = reL w k ++ [reZ w k] := by simp [reL, List.range_succ]
theorem reL_at {w k j : Nat} (h : j < k) : (reL w k).getD j 0 = reZ w j := by simp [reL, List.getD_eq_getElem?_getD, h]
theorem reL_bound {n w : Nat} (hn : n ≤ 5) : ∀ x ∈ reL w (2 ^ n), -32 ≤ x ∧ x ≤ 32 := by
  intro x hx
  unfold reL at hx
  obtain ⟨m, hm, rfl⟩ := List.mem_map.1 hx
  exact reZ_bound hn (List.mem_range.1 hm)
def Plain.recT (n a : Int) : List Int := if isT n a = true then reL a.toNat (2 ^ n.toNat) else []
theorem recT_yes {n a : Nat} (h : isT n a = true) : recT n a = reL a (2 ^ n) := if_pos h
theorem recT_no {n a : Int} (h : isT n a = false) : recT n a = [] := if_neg (by rw [h]; decide)
theorem seg_vals {n w : Nat} (hn : n ≤ 5) : segL (-1) n 0 (putL (valZ w) 0 (2 ^ n) (List.replicate (2 ^ n) 0)) = reL w (2 ^ n) := by
  refine ext_getD (by rw [segL_len, putL_len, reL_len, List.length_replicate]) fun j hj => ?_
  rw [segL_len, putL_len, List.length_replicate] at hj
  have e := putL_in (parF (-1) n fun x => (putL (valZ w) 0 (2 ^ n) (List.replicate (2 ^ n) 0)).getD (0 + x) 0) 0 (2 ^ n) (putL (valZ w) 0 (2 ^ n) (List.replicate (2 ^ n) 0)) hj (by rw [putL_len, List.length_replicate]; omega)
  rw [Nat.zero_add] at e
  unfold segL
  rw [e, reL_at hj, ← reZ_par hn hj]
  refine parF_congr _ n _ _ (fun x hx => ?_) j hj
  exact putL_in _ _ _ _ hx (by rw [List.length_replicate]; omega)
theorem vals_bound {n w N : Nat} : ∀ x, x < N → -1 ≤ (putL (valZ w) 0 N (List.replicate N 0)).getD (0 + x) 0 ∧ (putL (valZ w) 0 N (List.replicate N 0)).getD (0 + x) 0 ≤ 1 := by
  intro x hx
  rw [putL_in _ _ _ _ hx (by rw [List.length_replicate]; omega)]
  have := bitN_lt w x
  unfold valZ
  omega

theorem Tab.countN (n N : Nat) (hn : n ≤ 5) (hN : 2 ^ n = N) (w : World) :
    Calls Tryd.prog 32 #[.int .i64 n] w fun e w' => e = .returned (.int .i64 (N : Int)) ∧ w = w' :=
  (Tab.count n hn w).mono fun e w' ⟨h1, h2⟩ => ⟨by rw [h1, hN], h2⟩

theorem nil_row (w : World) (B : Nat) : IntRow w B (.slice none 0 0) [] := ⟨by simp [intsV], .inl ⟨rfl, rfl⟩⟩

theorem Rec.impl_no (n a : Int) (hb : -9223372036854775808 ≤ a ∧ a ≤ 9223372036854775807) (ht : isT n a = false) (w : World) :
    Calls Tryd.prog 39 #[.agg #[.int .i64 n, .int .i64 a]] w (RowOut (recT n a) w) := by
  rw [recT_no ht]
  unfold RowOut
  have H := Lib.hid ht
  clear ht
  go_enter Tryd.func39, Tryd.ntmps39
  go_wp2_with fail
  refine (Tab.impl _ _ hb _).mono ?_
  rintro e w1 ⟨rfl, hb1⟩
  rw [H.out]
  obtain ⟨hc1, hf1⟩ := bcell hb1
  go_wp2_with fail
  go_ret
  exact ⟨_, rfl, nil_row _ _, ((Below.refl _ _).alloc (Nat.le_refl _) _).trans (hb1.mono (by simp))⟩

set_option maxRecDepth 100000 in
set_option maxHeartbeats 1000000 in
theorem Rec.impl_yes (n a : Nat) (hn : n ≤ 5) (ha : (a : Int) ≤ 4294967295) (ht : isT n a = true) (w : World) :
    Calls Tryd.prog 39 #[.agg #[.int .i64 n, .int .i64 a]] w (RowOut (recT n a) w) := by
  rw [recT_yes ht]
  unfold RowOut
  have hN5 := two_pow_le n hn
  have hN1 : 1 ≤ 2 ^ n := Nat.one_le_two_pow
  have HSEG := Lib.hid (seg_vals (w := a) hn)
  have HP : Hid (∀ (l : List Int) (B g cap c : Nat) (w : World), 0 + 2 ^ n ≤ l.length → l.length ≤ 32 → 2 ^ n ≤ c → (∀ x, x < 2 ^ n → -1 ≤ l.getD (0 + x) 0 ∧ l.getD (0 + x) 0 ≤ 1) → RowAt w B g cap l →
    Calls Tryd.prog 19 #[.slice (some ⟨g, 0, none⟩) (2 ^ n) c, .int .i64 (-1)] w (PartsOut (-1) n 0 l B g cap w)) := Lib.hid (fun l B g cap c w h1 h2 h3 h4 h5 =>
      Parts.any (-1) (.inr rfl) n hn 0 l 1 B g cap c w h1 h2 h3 (by decide) (by have e : ((2 : Int) ^ n) = ((2 ^ n : Nat) : Int) := (Int.natCast_pow 2 n).symm; rw [e]; omega) h4 h5)
  generalize hNe : 2 ^ n = N at *
  have HC := Lib.hid (Tab.countN n N hn hNe)
  have H := Lib.hid ht
  obtain ⟨i0, hi, hz0, hz1, hz2⟩ := info_parts Tryd.infoInt
  clear ht hNe
  go_enter Tryd.func39, Tryd.ntmps39
  go_wp2_with fail
  refine (Tab.impl _ _ (by omega) _).mono ?_
  rintro e w1 ⟨rfl, hb1⟩
  rw [H.out]
  have hz1' := hb1.size
  simp only [World.size_alloc] at hz1'
  have k0 : w1.cell? ⟨w.heap.size, 0, none⟩ = some (.int .i64 n) := keepB hb1 (keepN rfl rfl)
  have k1 : w1.cell? ⟨w.heap.size, 1, none⟩ = some (.int .i64 a) := keepB hb1 (keepN rfl rfl)
  have HB1 := Lib.hid (((Below.refl w.heap.size w).alloc (Nat.le_refl _) (.cells #[.int .i64 n, .int .i64 a] 23)).trans (hb1.mono (by simp)))
  clear hb1
  go_wp2_with fail
  refine (HC.out _).mono ?_
  rintro e w2 ⟨rfl, rfl⟩
  go_wp2_with (at_make; go_must (refine wpList_make_full _ rfl _ _ 28 rfl w1.heap.size 3 i0 (.int .i64 0) 1 Tryd.underlying28 hi hz0 hz1 _ _ _ _ N rfl rfl rfl rfl (by rw [hz2]; omega) (by unfold maxLen; omega) (Nat.le_refl _) ?_; intro w2 hown hgrow))
  have HROW := Lib.hid (IntRow.made hown)
  have hb2 : Below w1.heap.size w1 w2 := (Below.refl w1.heap.size w1).grown hgrow (Nat.le_refl _) (fun _ h => by cases h)
  have HB2 := Lib.hid (HB1.out.trans (hb2.mono (by omega)))
  have m0 := keepB hb2 k0
  have m1 := keepB hb2 k1
  clear hown hgrow hb2 hi hz0 hz1 hz2 k0 k1
  go_loopw [4, 14] (fun _ i wr => ∃ j : Nat, i = .int .i64 (j : Int) ∧ j ≤ N ∧ RowAt wr w.heap.size w1.heap.size N (putL (valZ a) 0 j (List.replicate N 0)) ∧ Below w.heap.size w wr ∧ wr.cell? ⟨w.heap.size, 0, none⟩ = some (.int .i64 n) ∧ wr.cell? ⟨w.heap.size, 1, none⟩ = some (.int .i64 a)) (fun _ i _ => N - (intOf i).toNat)
  case atStart => exact ⟨0, rfl, by omega, by rw [putL_none]; exact ⟨by rw [List.length_replicate]; exact HROW.out.base (by omega), by rw [List.length_replicate]; omega⟩, HB2.out, m0, m1⟩
  case round =>
    obtain ⟨j, rfl, hj, hrow, hbel, c0, c1⟩ := hrel
    have HB := Lib.hid hbel
    have hzr := hbel.size
    clear hbel
    by_cases hlt : j < N
    · have hcell := hrow.cell j (by rw [putL_len, List.length_replicate]; exact hlt)
      have hfree := hrow.free j
      have hst := hrow.store j (valZ a j)
      have hps := putL_set (valZ a) 0 j (List.replicate N 0) (by rw [List.length_replicate]; omega)
      rw [Nat.zero_add] at hps
      rw [hps] at hst
      unfold valZ at hst
      have HST := Lib.hid hst
      have HC0 := Lib.hid c0
      have HC1 := Lib.hid c1
      have hjz : (j : Int) < (N : Int) := by omega
      have hwr : IntKind.u64.wrap (a : Int) = (a : Int) := by rw [show IntKind.u64.wrap (a : Int) = (a : Int) % 18446744073709551616 from rfl]; omega
      generalize (putL (valZ a) 0 j (List.replicate N 0)).getD j 0 = old at hcell
      clear hst hps hrow
      go_wp2_with fail
      refine (Tab.at a j (by omega) (by omega) _).mono ?_
      rintro e w3 ⟨rfl, rfl⟩
      go_wp2_with fail
      go_roundw
      case rel => exact ⟨j + 1, by go_num, by omega, HST.out.1, bS (by show w.heap.size ≤ w1.heap.size; omega) HB.out, keepS (by show w1.heap.size ≠ w.heap.size; omega) HC0.out, keepS (by show w1.heap.size ≠ w.heap.size; omega) HC1.out⟩
      case measure => simp [intOf] <;> omega
    · obtain rfl : j = N := by omega
      have HR := Lib.hid hrow
      have hb1 := vals_bound (n := n) (w := a) (N := j)
      have HC1 := Lib.hid (HP.out _ _ _ j j wr (by rw [putL_len, List.length_replicate]; omega) (by rw [putL_len, List.length_replicate]; exact hN5) (Nat.le_refl _) hb1 hrow)
      clear hrow hb1
      go_wp2_with fail
      refine HC1.out.mono ?_
      rintro e w3 ⟨rfl, hr3, hg3⟩
      rw [HSEG.out] at hr3
      have HR3 := Lib.hid hr3
      have HB3 := Lib.hid (HB.out.grown hg3 (by omega) (fun k h => by cases h; omega))
      clear hr3 hg3
      go_wp2_with fail
      go_ret
      exact ⟨_, rfl, by have := HR3.out.1; rwa [reL_len] at this, HB3.out⟩

theorem Rec.impl (n a : Int) (hb : -9223372036854775808 ≤ a ∧ a ≤ 9223372036854775807) (w : World) :
    Calls Tryd.prog 39 #[.agg #[.int .i64 n, .int .i64 a]] w (RowOut (recT n a) w) := by
  cases ht : isT n a with
  | false => exact Rec.impl_no n a hb ht w
  | true =>
    obtain ⟨n, a, rfl, rfl, hn, ha⟩ := isT_nat ht
    exact Rec.impl_yes n a hn (by have := fullN_le n hn; omega) ht w

end Go.Proofs.YtphjaggiddjhgaaDoor
