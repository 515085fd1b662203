/-
  RestrictTable of the model, and both at every argument.
-/
import Derived.Test.YtecakbjcnabpnaaResD
namespace Go.Proofs.Ytecakbjcnabpnaa
open Go.RowKit Plain
set_option linter.unusedVariables false

theorem mulbit_i64 (a u y : Nat) (ha : (a : Int) ≤ 4294967295) (hu : u < 2) (hy : y ≤ 32) : Go.bits .or .i64 (a : Int) (wrap64 ((u : Int) * (2 : Int) ^ y)) = ((a ||| u * 2 ^ y : Nat) : Int) := by
  have hp := pow_bound y hy
  rw [up2]
  generalize 2 ^ y = p at hp ⊢
  rcases (show u = 0 ∨ u = 1 by omega) with rfl | rfl
  · simp only [Nat.zero_mul]
    rw [show wrap64 (((0 : Nat) : Int) * (p : Int)) = ((0 : Nat) : Int) by rw [IntWalk.wrap64_in _ ⟨by omega, by omega⟩]; omega]
    exact or64 a 0 (by omega) (by omega)
  · rw [show wrap64 (((1 : Nat) : Int) * (p : Int)) = ((1 * p : Nat) : Int) by rw [IntWalk.wrap64_in _ ⟨by omega, by omega⟩]; omega]
    exact or64 a _ (by omega) (by omega)

set_option maxRecDepth 100000 in
set_option maxHeartbeats 1000000 in
theorem Tab.resM_loop (n a i b : Nat) (hn : n ≤ 5) (ha : (a : Int) ≤ 4294967295) (hi : (i : Int) ≤ (n : Int) - 1) (hb : b < 2) (w : World) :
    Calls Try.prog 64 #[.agg #[.int .i64 n, .int .i64 a], .int .i64 i, .int .i64 b] w fun e w' => e = .returned (.agg #[.int .i64 ((n : Int) - 1), .int .i64 (restW n a i b : Int)]) ∧ Below w.heap.size w w' := by
  obtain ⟨hp1, hp2⟩ := two_pow_int (n - 1) (by omega)
  have HB := Lib.hid hb
  have hn5 : (n : Int) ≤ 5 := by omega
  have hn1 : 1 ≤ (n : Int) := by omega
  have HE : Hid (((n : Int) - 1).toNat = n - 1) := Lib.hid (by omega)
  clear hn hb
  go_enter Try.func64, Try.ntmps64
  go_wp2
  go_loopw [7, 8] (fun a' x wr => ∃ y : Nat, x = .int .i64 (y : Int) ∧ a' = .int .i64 (tabN (fun x => bitN a (insN x i b)) y : Int) ∧ (y : Int) ≤ 2 ^ (n - 1) ∧ Below w.heap.size w wr ∧ wr.heap[w.heap.size]? = some (.cells #[.int .i64 n, .int .i64 a] 25 (0, 0)) ∧ wr.heap[w.heap.size + 1]? = some (.cells #[.int .i64 0, .int .i64 0] 25 (0, 0))) (fun _ x _ => 32 - (intOf x).toNat)
  case atStart => exact ⟨0, rfl, rfl, by omega, ((Below.refl _ _).alloc (Nat.le_refl _) _).alloc (by simp) _, heap_alloc2_old w _ _, heap_alloc2_new w _ _⟩
  case round =>
    obtain ⟨y, rfl, rfl, hy, hbel, hx0, hx1⟩ := hrel
    obtain ⟨c0, c1, _, _⟩ := cells2 hx0
    obtain ⟨d0, d1, g0, g1⟩ := cells2 hx1
    have HBEL := Lib.hid hbel
    have HX0 := Lib.hid hx0
    have HX1 := Lib.hid hx1
    have hsz : w.heap.size + 1 < wr.heap.size := lt_of_block hx1
    clear hbel hx0 hx1
    by_cases hlt : (y : Int) < 2 ^ (n - 1)
    · have hvy := tabN_bound (fun x => bitN a (insN x i b)) y (by omega)
      have HO := Lib.hid (mulbit_i64 (tabN (fun x => bitN a (insN x i b)) y) (bitN a (insN y i b)) y hvy bitN_any (by omega))
      have HV := Lib.hid (tabN_mul (v := fun x => bitN a (insN x i b)) (x := y) bitN_any)
      have HA := Lib.hid (bit_i64 a (insN y i b) (by omega))
      have HL := Lib.hid (ins_all y (by omega) i (by omega) b HB.out).1
      have hlb : (insN y i b : Int) ≤ 63 := by have := HL.out; omega
      have hy31 : y < 32 := by omega
      have HY := Lib.hid hy31
      clear hy31
      go_wp2
      go_quiet ((go_at_call 87; exact quiet_more (Tab.insM y i b HY.out (by omega) HB.out _)))
      go_wp2
      go_roundw
      case rel => exact ⟨y + 1, by go_num, by rw [HV.out, ← HO.out, ← HA.out], by omega, below_drewN HBEL.out _, by simpa using HX0.out, by simpa using HX1.out⟩
      case measure => simp [intOf]; omega
    · have he : y = 2 ^ (n - 1) := by rw [up2] at hy hlt; omega
      have HF : Hid (tabN (fun x => bitN a (insN x i b)) y = restW n a i b) := Lib.hid (by rw [he]; rfl)
      clear he
      go_wp2
      obtain ⟨k0, k1⟩ := keepT (Y := wr) (g := w.heap.size + 1) (u := .int .i64 ((n : Int) - 1)) (v := .int .i64 (tabN (fun x => bitN a (insN x i b)) y : Int)) d0 d1
      rw [← HF.out]
      exact bodyPost_ret (v := .agg #[.int .i64 ((n : Int) - 1), .int .i64 (tabN (fun x => bitN a (insN x i b)) y : Int)]) (by simp [results, Try.results64, go_sem, k0, k1]) rfl ⟨rfl, bS (by simp) (bS (by simp) HBEL.out)⟩
theorem Tab.resM_no1 (n a i b : Int) (ht : isT n a = false) (w : World) :
    Calls Try.prog 13 #[.agg #[.int .i64 n, .int .i64 a], .int .i64 i, .int .i64 b] w fun e w' => e = .returned (.tuple #[.agg #[.int .i64 0, .int .i64 0], .bool false]) ∧ Below w.heap.size w w' := by
  have H := Lib.hid ht
  clear ht
  go_enter Try.func13, Try.ntmps13
  go_wp2_with fail
  refine (Tab.model _ _ _).mono ?_
  rintro e w1 ⟨rfl, hb1⟩
  obtain ⟨hc, hf⟩ := bcell hb1
  obtain ⟨hz0_w1, hz1_w1⟩ : w.heap.size < w1.heap.size ∧ w.heap.size + 1 < w1.heap.size := by have := hb1.size; simp at this; omega
  rw [H.out]
  go_wp2
  exact bodyPost_ret (v := .tuple #[.agg #[.int .i64 0, .int .i64 0], .bool false]) (by simp [results, Try.results13, go_sem, hc]) rfl ⟨rfl, bS (by simp <;> omega) (bS (by simp <;> omega) ((((Below.refl _ _).alloc (Nat.le_refl _) _).alloc (by simp <;> omega) _).trans (hb1.mono (by simp <;> omega))))⟩

theorem Tab.resM_no2 (n a : Nat) (i b : Int) (ht : isT n a = true) (hn : n ≤ 5) (hi : ¬ (0 ≤ i ∧ i ≤ (n : Int) - 1)) (w : World) :
    Calls Try.prog 13 #[.agg #[.int .i64 n, .int .i64 a], .int .i64 i, .int .i64 b] w fun e w' => e = .returned (.tuple #[.agg #[.int .i64 0, .int .i64 0], .bool false]) ∧ Below w.heap.size w w' := by
  have HI := Lib.hid hi
  clear hi
  have H := Lib.hid ht
  have hn5 : (n : Int) ≤ 5 := by omega
  clear ht hn
  go_enter Try.func13, Try.ntmps13
  go_wp2_with fail
  refine (Tab.model _ _ _).mono ?_
  rintro e w1 ⟨rfl, hb1⟩
  obtain ⟨hc, hf⟩ := bcell hb1
  obtain ⟨hz0_w1, hz1_w1⟩ : w.heap.size < w1.heap.size ∧ w.heap.size + 1 < w1.heap.size := by have := hb1.size; simp at this; omega
  rw [H.out]
  go_wp2_with fail
  refine (Widths.in_no _ _ _ HI.out _).mono ?_
  rintro e w2 ⟨rfl, rfl⟩
  go_wp2
  exact bodyPost_ret (v := .tuple #[.agg #[.int .i64 0, .int .i64 0], .bool false]) (by simp [results, Try.results13, go_sem, hc]) rfl ⟨rfl, bS (by simp <;> omega) (bS (by simp <;> omega) ((((Below.refl _ _).alloc (Nat.le_refl _) _).alloc (by simp <;> omega) _).trans (hb1.mono (by simp <;> omega))))⟩

theorem Tab.resM_no3 (n a : Nat) (i b : Int) (ht : isT n a = true) (hn : n ≤ 5) (hi : 0 ≤ i ∧ i ≤ (n : Int) - 1) (hb : ¬ (0 ≤ b ∧ b ≤ 1)) (w : World) :
    Calls Try.prog 13 #[.agg #[.int .i64 n, .int .i64 a], .int .i64 i, .int .i64 b] w fun e w' => e = .returned (.tuple #[.agg #[.int .i64 0, .int .i64 0], .bool false]) ∧ Below w.heap.size w w' := by
  have HI := Lib.hid hi
  have HB := Lib.hid hb
  clear hi hb
  have H := Lib.hid ht
  have hn5 : (n : Int) ≤ 5 := by omega
  clear ht hn
  go_enter Try.func13, Try.ntmps13
  go_wp2_with fail
  refine (Tab.model _ _ _).mono ?_
  rintro e w1 ⟨rfl, hb1⟩
  obtain ⟨hc, hf⟩ := bcell hb1
  obtain ⟨hz0_w1, hz1_w1⟩ : w.heap.size < w1.heap.size ∧ w.heap.size + 1 < w1.heap.size := by have := hb1.size; simp at this; omega
  rw [H.out]
  go_wp2_with fail
  refine (Widths.in_yes _ _ _ HI.out _).mono ?_
  rintro e w2 ⟨rfl, rfl⟩
  go_wp2_with fail
  refine (Widths.in_no _ _ _ HB.out _).mono ?_
  rintro e w2 ⟨rfl, rfl⟩
  go_wp2
  exact bodyPost_ret (v := .tuple #[.agg #[.int .i64 0, .int .i64 0], .bool false]) (by simp [results, Try.results13, go_sem, hc]) rfl ⟨rfl, bS (by simp <;> omega) (bS (by simp <;> omega) ((((Below.refl _ _).alloc (Nat.le_refl _) _).alloc (by simp <;> omega) _).trans (hb1.mono (by simp <;> omega))))⟩

set_option maxRecDepth 100000 in
set_option maxHeartbeats 1000000 in
theorem Tab.resM_yes (n a i b : Nat) (ht : isT n a = true) (hn : n ≤ 5) (ha : (a : Int) ≤ 4294967295) (hi : (i : Int) ≤ (n : Int) - 1) (hb : b < 2) (w : World) :
    Calls Try.prog 13 #[.agg #[.int .i64 n, .int .i64 a], .int .i64 i, .int .i64 b] w fun e w' => e = .returned (.tuple #[.agg #[.int .i64 ((n : Int) - 1), .int .i64 (restW n a i b : Int)], .bool true]) ∧ Below w.heap.size w w' := by
  have HN := Lib.hid hn
  have HB := Lib.hid hb
  have hb1' : (b : Int) ≤ 1 := by omega
  clear hb
  have H := Lib.hid ht
  have hn5 : (n : Int) ≤ 5 := by omega
  clear ht hn
  go_enter Try.func13, Try.ntmps13
  go_wp2_with fail
  refine (Tab.model _ _ _).mono ?_
  rintro e w1 ⟨rfl, hb1⟩
  obtain ⟨hc, hf⟩ := bcell hb1
  obtain ⟨hz0_w1, hz1_w1⟩ : w.heap.size < w1.heap.size ∧ w.heap.size + 1 < w1.heap.size := by have := hb1.size; simp at this; omega
  rw [H.out]
  go_wp2_with fail
  refine (Widths.in_yes _ _ _ (by omega) _).mono ?_
  rintro e w2 ⟨rfl, rfl⟩
  go_wp2_with fail
  refine (Widths.in_yes _ _ _ (by omega) _).mono ?_
  rintro e w2 ⟨rfl, rfl⟩
  go_wp2_with fail
  refine (Tab.resM_loop n a i b HN.out ha hi HB.out _).mono ?_
  rintro e w3 ⟨rfl, hb3⟩
  obtain ⟨hc3, hf3⟩ := bcell hb3
  go_wp2
  obtain ⟨k0, k1⟩ := keepT (Y := w3) (g := w.heap.size + 1) (u := .int .i64 ((n : Int) - 1)) (v := .int .i64 (restW n a i b : Int)) (keepB hb3 (keepB hb1 (keepN (by simp) rfl))) (keepB hb3 (keepB hb1 (keepN (by simp) rfl)))
  exact bodyPost_ret (v := .tuple #[.agg #[.int .i64 ((n : Int) - 1), .int .i64 (restW n a i b : Int)], .bool true]) (by simp [results, Try.results13, go_sem, k0, k1]) rfl ⟨rfl, bS (by simp <;> omega) (bS (by simp <;> omega) (((((Below.refl _ _).alloc (Nat.le_refl _) _).alloc (by simp <;> omega) _).trans (hb1.mono (by simp <;> omega))).trans (hb3.mono (by omega))))⟩

/-- RestrictTable of the model. -/
theorem Tab.resM (n a i b : Int) (w : World) :
    Calls Try.prog 13 #[.agg #[.int .i64 n, .int .i64 a], .int .i64 i, .int .i64 b] w fun e w' => e = .returned (.tuple #[.agg #[.int .i64 (resT n a i b).1, .int .i64 (resT n a i b).2.1], .bool (resT n a i b).2.2]) ∧ Below w.heap.size w w' := by
  by_cases ht : isT n a = true
  · obtain ⟨m, x, rfl, rfl, hm, hx⟩ := isT_nat ht
    have hl : (x : Int) ≤ 4294967295 := by have := fullN_le m hm; omega
    by_cases hi : 0 ≤ i ∧ i ≤ (m : Int) - 1
    · by_cases hb : 0 ≤ b ∧ b ≤ 1
      · obtain ⟨j, rfl⟩ := Int.eq_ofNat_of_zero_le hi.1
        obtain ⟨c, rfl⟩ := Int.eq_ofNat_of_zero_le hb.1
        rw [resT_yes ht hi.2 hb.2]
        exact Tab.resM_yes m x j c ht hm hl hi.2 (by omega) w
      · rw [resT_no fun h => hb h.2.2]
        exact Tab.resM_no3 m x i b ht hm hi hb w
    · rw [resT_no fun h => hi h.2.1]
      exact Tab.resM_no2 m x i b ht hm hi w
  · rw [resT_no fun h => ht h.1]
    exact Tab.resM_no1 n a i b (by simpa using ht) w

/-- RestrictTable of the program. -/
theorem Tab.resI (n a i b : Int) (h64 : -9223372036854775808 ≤ a ∧ a ≤ 9223372036854775807) (w : World) :
    Calls Try.prog 12 #[.agg #[.int .i64 n, .int .i64 a], .int .i64 i, .int .i64 b] w fun e w' => e = .returned (.tuple #[.agg #[.int .i64 (resT n a i b).1, .int .i64 (resT n a i b).2.1], .bool (resT n a i b).2.2]) ∧ Below w.heap.size w w' := by
  by_cases ht : isT n a = true
  · obtain ⟨m, x, rfl, rfl, hm, hx⟩ := isT_nat ht
    have hl : (x : Int) ≤ 4294967295 := by have := fullN_le m hm; omega
    by_cases hi : 0 ≤ i ∧ i ≤ (m : Int) - 1
    · obtain ⟨j, rfl⟩ := Int.eq_ofNat_of_zero_le hi.1
      by_cases hb : 0 ≤ b ∧ b ≤ 1
      · obtain ⟨c, rfl⟩ := Int.eq_ofNat_of_zero_le hb.1
        rw [resT_yes ht hi.2 hb.2]
        exact Tab.resI_yes m x j c hm ht hl hi.2 hb.2 w
      · rw [resT_no fun h => hb h.2.2]
        exact Tab.resI_no3 m x j b ht hl hi.2 hb w
    · rw [resT_no fun h => hi h.2.1]
      exact Tab.resI_no2 m x i b ht hl hi w
  · rw [resT_no fun h => ht h.1]
    exact Tab.resI_no1 n a i b h64 (by simpa using ht) w
end Go.Proofs.Ytecakbjcnabpnaa
