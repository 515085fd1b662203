/-
  Over the twin: DualOfBent of both.
-/
import Derived.Test.YtechkghnmgimbaaTwC
import Derived.Test.YtechkghnmgimbaaQSpcI
import Derived.Test.YtechkghnmgimbaaQResB
import Derived.Deep.RegionWith
namespace Go.Proofs.Ytechkghnmgimbaa.Q
open Go.RowKit Go.Proofs.Ytechkghnmgimbaa.Plain Go.Proofs.Ytechkghnmgimbaa.Q.Plain
set_option linter.unusedVariables false
set_option linter.unusedSimpArgs false
attribute [local go_sem ↓] Go.wp_at_zero Go.wp_at_succ

/-- The closure of tableOfNegatives. -/
theorem Clo.neg (b g cap a M x : Nat) (hx : x < M) (hM : M ≤ 32) (W : World) (hc : W.cell? ⟨b, 0, none⟩ = some (.slice (some ⟨g, 0, none⟩) M cap)) (hg : W.cell? ⟨g, x, none⟩ = some (.int .i64 (spcN a M x))) :
    Calls Tq.prog 57 #[.int .i64 x, .pointer (some ⟨b, 0, none⟩)] W fun e w' => e = .returned (.int .i64 (dulB a M x : Int)) ∧ Below W.heap.size W w' := by
  have hxz : (x : Int) < (M : Int) := by omega
  have hMz : (M : Int) ≤ 32 := by omega
  by_cases h : spcN a M x < 0
  · have HE := Lib.hid (dulB_yes h)
    rw [HE.out]
    clear HE
    generalize spcN a M x = y at *
    go_enter Tq.func57, Tq.ntmps57
    go_wp2
    go_ret
    exact ⟨rfl, Below.refl _ _⟩
  · have HE := Lib.hid (dulB_no h)
    rw [HE.out]
    clear HE
    generalize spcN a M x = y at *
    go_enter Tq.func57, Tq.ntmps57
    go_wp2
    go_ret
    exact ⟨rfl, Below.refl _ _⟩

set_option maxRecDepth 100000 in
set_option maxHeartbeats 2000000 in
theorem Ton.any (n a g cap : Nat) (hn : n ≤ 5) (w : World) (hg : g < w.heap.size) (hcell : ∀ j, j < 2 ^ n → w.cell? ⟨g, j, none⟩ = some (.int .i64 (spcN a (2 ^ n) j))) :
    Calls Tq.prog 45 #[.int .i64 n, .slice (some ⟨g, 0, none⟩) ((2 ^ n : Nat)) cap] w fun e w' => e = .returned (.agg #[.int .i64 n, .int .i64 (dulW n a : Int)]) ∧ Below w.heap.size w w' := by
  have h32 := two_pow_le n hn
  have HC := Lib.hid hcell
  have hvb : (dulW n a : Int) ≤ 4294967295 := tabN_bound _ _ (by omega)
  have HF := Lib.hid (fun lb w hp => Tab.from_any n hn (dulB a (2 ^ n)) 57 lb (enters_of Tq.func57 (by kernel_rfl) rfl) w hp)
  have HW : Hid (tabN (dulB a (2 ^ n)) (2 ^ n) = dulW n a) := Lib.hid rfl
  rw [HW.out] at HF
  clear hcell HW
  generalize dulW n a = z at *
  go_enter Tq.func45, Tq.ntmps45
  go_wp2_with fail
  refine (HF.out _ _ ?gv).mono ?_
  case gv =>
    intro W x hx hbel
    exact Clo.neg w.heap.size g cap a (2 ^ n) x hx h32 W (keepB hbel (keepA (keepN rfl rfl))) (keepB hbel (keepA (keepA (HC.out x hx))))
  rintro e w1 ⟨rfl, hb1⟩
  obtain ⟨hc1, hf1⟩ := bcell hb1
  have hz : w.heap.size + 1 < w1.heap.size := by have := hb1.size; simp at this; omega
  go_wp2
  obtain ⟨k0, k1⟩ := keepT (Y := w1) (g := w.heap.size + 1) (u := .int .i64 n) (v := .int .i64 z) (keepB hb1 (keepN (by simp) rfl)) (keepB hb1 (keepN (by simp) rfl))
  exact bodyPost_ret (v := .agg #[.int .i64 n, .int .i64 z]) (by simp [results, Tq.results45, go_sem, k0, k1]) rfl ⟨rfl, bS (by simp) (bS (by simp) (bB hb1 (by simp; omega) (bA (by simp) (bA (Nat.le_refl _) (Below.refl _ _)))))⟩

set_option maxRecDepth 100000 in
theorem Dul.impl_no (n a : Int) (HB : ∀ w, Calls Tq.prog 21 #[.agg #[.int .i64 n, .int .i64 a]] w fun e w' => e = .returned (.bool false) ∧ Below w.heap.size w w') (w : World) :
    Calls Tq.prog 23 #[.agg #[.int .i64 n, .int .i64 a]] w fun e w' => e = .returned (.tuple #[.agg #[.int .i64 0, .int .i64 0], .bool false]) ∧ Below w.heap.size w w' := by
  have HBT := Lib.hid HB
  clear HB
  go_enter Tq.func23, Tq.ntmps23
  go_wp2_with fail
  refine (HBT.out _).mono ?_
  rintro e w1 ⟨rfl, hb1⟩
  obtain ⟨hc1, hf1⟩ := bcell hb1
  have hz : w.heap.size + 1 < w1.heap.size := by have := hb1.size; simp at this; omega
  go_wp2
  obtain ⟨k0, k1⟩ := keepT (Y := w1) (g := w.heap.size + 1) (u := .int .i64 0) (v := .int .i64 0) (keepB hb1 (keepN (by simp) rfl)) (keepB hb1 (keepN (by simp) rfl))
  exact bodyPost_ret (v := .tuple #[.agg #[.int .i64 0, .int .i64 0], .bool false]) (by simp [results, Tq.results23, go_sem, k0, k1]) rfl ⟨rfl, bS (by simp) (bS (by simp) (bB hb1 (by simp; omega) (bA (by simp) (bA (Nat.le_refl _) (Below.refl _ _)))))⟩

theorem Dul.step1 {n a : Nat} (w w1 : World)
    (HS : ∀ W, Calls Tq.prog 14 #[.agg #[.int .i64 n, .int .i64 a]] W (Spc.Out (spcL a (2 ^ n) (2 ^ n)) W)) (hpos : 0 < 2 ^ n) (hz : w.heap.size + 1 < w1.heap.size)
    (n0 : w1.cell? ⟨w.heap.size, 0, none⟩ = some (.int .i64 n)) (r0 : w1.cell? ⟨w.heap.size + 1, 0, none⟩ = some (.int .i64 0)) (r1 : w1.cell? ⟨w.heap.size + 1, 1, none⟩ = some (.int .i64 0))
    (g0 : w1.frozen? ⟨w.heap.size + 1, 0, none⟩ = false) (g1 : w1.frozen? ⟨w.heap.size + 1, 1, none⟩ = false) (HB1 : Hid (Below w.heap.size w w1)) (W : World) (hW : Below w1.heap.size w1 W) :
    Calls Tq.prog 14 #[.agg #[.int .i64 n, .int .i64 a]] W fun e w3 => ∃ g cap, e = .returned (.slice (some ⟨g, 0, none⟩) ((2 ^ n : Nat)) cap) ∧ w3.cell? ⟨w.heap.size, 0, none⟩ = some (.int .i64 n) ∧ w3.cell? ⟨w.heap.size + 1, 0, none⟩ = some (.int .i64 0) ∧ w3.cell? ⟨w.heap.size + 1, 1, none⟩ = some (.int .i64 0) ∧ w3.frozen? ⟨w.heap.size + 1, 0, none⟩ = false ∧ w3.frozen? ⟨w.heap.size + 1, 1, none⟩ = false ∧ w.heap.size + 1 < w3.heap.size ∧ g < w3.heap.size ∧ Hid (∀ j, j < 2 ^ n → w3.cell? ⟨g, j, none⟩ = some (.int .i64 (spcN a (2 ^ n) j))) ∧ Hid (Below w.heap.size w w3) := by
  refine (HS W).mono ?_
  intro e w3 hout
  obtain ⟨g, cap, rfl, hg0, hg1, hcell, hb⟩ := Spc.open_yes hout hpos
  have hb1 : Below w1.heap.size w1 w3 := hW.trans (hb.mono hW.size)
  have hz0 : w.heap.size < w1.heap.size := by omega
  exact ⟨g, cap, rfl, (hb1.cell (p := ⟨w.heap.size, 0, none⟩) hz0).trans n0, (hb1.cell (p := ⟨w.heap.size + 1, 0, none⟩) hz).trans r0, (hb1.cell (p := ⟨w.heap.size + 1, 1, none⟩) hz).trans r1, (hb1.frozen (p := ⟨w.heap.size + 1, 0, none⟩) hz).trans g0, (hb1.frozen (p := ⟨w.heap.size + 1, 1, none⟩) hz).trans g1, Nat.lt_of_lt_of_le hz hb1.size, hg1, Lib.hid hcell, Lib.hid (bB hb1 (Nat.le_of_lt hz0) HB1.out)⟩

theorem Dul.step2 {n a z : Nat} (w : World)
    (HTN : ∀ (g cap : Nat) (W : World), g < W.heap.size → (∀ j, j < 2 ^ n → W.cell? ⟨g, j, none⟩ = some (.int .i64 (spcN a (2 ^ n) j))) → Calls Tq.prog 45 #[.int .i64 n, .slice (some ⟨g, 0, none⟩) ((2 ^ n : Nat)) cap] W fun e w' => e = .returned (.agg #[.int .i64 n, .int .i64 (z : Int)]) ∧ Below W.heap.size W w')
    (w3 : World) (g cap : Nat) (W : World) (hW : Below w3.heap.size w3 W) (hg1 : g < w3.heap.size) (HC : Hid (∀ j, j < 2 ^ n → w3.cell? ⟨g, j, none⟩ = some (.int .i64 (spcN a (2 ^ n) j))))
    (q0 : w3.cell? ⟨w.heap.size + 1, 0, none⟩ = some (.int .i64 0)) (q1 : w3.cell? ⟨w.heap.size + 1, 1, none⟩ = some (.int .i64 0)) (y0 : w3.frozen? ⟨w.heap.size + 1, 0, none⟩ = false) (y1 : w3.frozen? ⟨w.heap.size + 1, 1, none⟩ = false) (hz3 : w.heap.size + 1 < w3.heap.size) (HB3 : Hid (Below w.heap.size w w3)) :
    Calls Tq.prog 45 #[.int .i64 n, .slice (some ⟨g, 0, none⟩) ((2 ^ n : Nat)) cap] W fun e w4 => e = .returned (.agg #[.int .i64 n, .int .i64 (z : Int)]) ∧ w4.cell? ⟨w.heap.size + 1, 0, none⟩ = some (.int .i64 0) ∧ w4.cell? ⟨w.heap.size + 1, 1, none⟩ = some (.int .i64 0) ∧ w4.frozen? ⟨w.heap.size + 1, 0, none⟩ = false ∧ w4.frozen? ⟨w.heap.size + 1, 1, none⟩ = false ∧ w.heap.size + 1 < w4.heap.size ∧ Hid (Below w.heap.size w w4) := by
  refine (HTN g cap W (Nat.lt_of_lt_of_le hg1 hW.size) (fun j hj => (hW.cell (p := ⟨g, j, none⟩) hg1).trans (HC.out j hj))).mono ?_
  rintro e w4 ⟨rfl, hb⟩
  have hb1 : Below w3.heap.size w3 w4 := hW.trans (hb.mono hW.size)
  exact ⟨rfl, (hb1.cell (p := ⟨w.heap.size + 1, 0, none⟩) hz3).trans q0, (hb1.cell (p := ⟨w.heap.size + 1, 1, none⟩) hz3).trans q1, (hb1.frozen (p := ⟨w.heap.size + 1, 0, none⟩) hz3).trans y0, (hb1.frozen (p := ⟨w.heap.size + 1, 1, none⟩) hz3).trans y1, Nat.lt_of_lt_of_le hz3 hb1.size, Lib.hid (bB hb1 (Nat.le_of_lt (Nat.lt_of_succ_lt hz3)) HB3.out)⟩

set_option maxRecDepth 100000 in
set_option maxHeartbeats 4000000 in
theorem Dul.impl_yes (n a : Nat) (hn : n ≤ 5) (ht : isT (n : Int) (a : Int) = true) (ha : (a : Int) ≤ 4294967295) (hbent : bentB n a = true) (w : World) :
    Calls Tq.prog 23 #[.agg #[.int .i64 n, .int .i64 a]] w fun e w' => e = .returned (.tuple #[.agg #[.int .i64 n, .int .i64 (dulW n a : Int)], .bool true]) ∧ Below w.heap.size w w' := by
  have HBT := Lib.hid (Ben.impl n a hn ht ha)
  have HE := Lib.hid hbent
  have HS := Lib.hid (Spc.impl_yes n a hn ht ha)
  have hpos : 0 < 2 ^ n := Nat.two_pow_pos n
  have HTN := Lib.hid (fun g cap w hg hc => Ton.any n a g cap hn w hg hc)
  clear ht hbent
  generalize dulW n a = z at *
  go_enter Tq.func23, Tq.ntmps23
  go_wp2_with fail
  refine (HBT.out _).mono ?_
  rintro e w1 ⟨rfl, hb1⟩
  rw [HE.out]
  have hz : w.heap.size + 1 < w1.heap.size := by have := hb1.size; simp at this; omega
  have n0 : w1.cell? ⟨w.heap.size, 0, none⟩ = some (.int .i64 n) := keepB hb1 (keepA (keepN rfl rfl))
  have n1 : w1.cell? ⟨w.heap.size, 1, none⟩ = some (.int .i64 a) := keepB hb1 (keepA (keepN rfl rfl))
  have r0 : w1.cell? ⟨w.heap.size + 1, 0, none⟩ = some (.int .i64 0) := keepB hb1 (keepN (by simp) rfl)
  have r1 : w1.cell? ⟨w.heap.size + 1, 1, none⟩ = some (.int .i64 0) := keepB hb1 (keepN (by simp) rfl)
  obtain ⟨hc1, hf1⟩ := bcell hb1
  have g0 : w1.frozen? ⟨w.heap.size + 1, 0, none⟩ = false := (hf1 _ _ (by simp)).trans (by simp)
  have g1 : w1.frozen? ⟨w.heap.size + 1, 1, none⟩ = false := (hf1 _ _ (by simp)).trans (by simp)
  have HB1 : Hid (Below w.heap.size w w1) := Lib.hid (bB hb1 (by simp; omega) (bA (by simp) (bA (Nat.le_refl _) (Below.refl _ _))))
  clear hc1 hf1 hb1
  have HS1 := Lib.hid (Dul.step1 w w1 HS.out hpos hz n0 r0 r1 g0 g1 HB1)
  have HT1 := Lib.hid (Dul.step2 (z := z) w HTN.out)
  clear HS HTN
  go_wp2_with fail
  go_region_with (first
    | (with_reducible refine (HS1.out _ (by repeat (first | (with_reducible exact Below.refl _ _) | (with_reducible refine bD ?_)))).mono ?_; rintro e w3 ⟨g, cap, rfl, m0, q0, q1, y0, y1, hz3, hg1, HC, HB3⟩)
    | (with_reducible refine (HT1.out _ _ _ _ (by repeat (first | (with_reducible exact Below.refl _ _) | (with_reducible refine bD ?_))) hg1 HC q0 q1 y0 y1 hz3 HB3).mono ?_; rintro e w4 ⟨rfl, t0, t1, s0, s1, hz4, HB4⟩))
  all_goals
    go_wp2
    obtain ⟨k0, k1⟩ := keepT (Y := w4) (g := w.heap.size + 1) (u := .int .i64 n) (v := .int .i64 z) t0 t1
    exact bodyPost_ret (v := .tuple #[.agg #[.int .i64 n, .int .i64 z], .bool true]) (by simp [results, Tq.results23, go_sem, k0, k1]) rfl ⟨rfl, by repeat (first | (with_reducible exact HB4.out) | (with_reducible refine bD ?_) | ((with_reducible refine bS ?_ ?_); (focus (first | (simp; done) | (simp; omega)))))⟩

def Plain.dulZ (n a : Int) : Int × Int × Bool := if benZ n a = true then (n, (dulW n.toNat a.toNat : Int), true) else (0, 0, false)
theorem benZ_no {n a : Int} (h : isT n a = false) : benZ n a = false := by unfold Plain.benZ; rw [h]; rfl
theorem benZ_yes {n a : Nat} (h : isT (n : Int) (a : Int) = true) : benZ n a = bentB n a := by unfold Plain.benZ; rw [if_pos h]; rfl
theorem Dul.modelZ (n a : Int) (w : World) :
    Calls Tq.prog 22 #[.agg #[.int .i64 n, .int .i64 a]] w fun e w' => e = .returned (.tuple #[.agg #[.int .i64 (dulZ n a).1, .int .i64 (dulZ n a).2.1], .bool (dulZ n a).2.2]) ∧ Below w.heap.size w w' := by
  cases hz : benZ n a with
  | false =>
    rw [show dulZ n a = (0, 0, false) by unfold Plain.dulZ; rw [hz]; rfl]
    exact Dul.model_no n a (fun w => by have := Ben.modelZ n a w; rwa [hz] at this) w
  | true =>
    have ht : isT n a = true := by
      cases h : isT n a with
      | true => rfl
      | false => rw [benZ_no h] at hz; cases hz
    obtain ⟨n, a, rfl, rfl, hn, ha⟩ := isT_nat ht
    rw [show dulZ n a = ((n : Int), (dulW n a : Int), true) by unfold Plain.dulZ; rw [hz]; rfl]
    exact Dul.model_yes n a hn ht (full_lim hn ha) ((benZ_yes ht).symm.trans hz) w
theorem Dul.implZ (n a : Int) (HR : -9223372036854775808 ≤ a ∧ a ≤ 9223372036854775807) (w : World) :
    Calls Tq.prog 23 #[.agg #[.int .i64 n, .int .i64 a]] w fun e w' => e = .returned (.tuple #[.agg #[.int .i64 (dulZ n a).1, .int .i64 (dulZ n a).2.1], .bool (dulZ n a).2.2]) ∧ Below w.heap.size w w' := by
  cases hz : benZ n a with
  | false =>
    rw [show dulZ n a = (0, 0, false) by unfold Plain.dulZ; rw [hz]; rfl]
    exact Dul.impl_no n a (fun w => by have := Ben.implZ n a HR w; rwa [hz] at this) w
  | true =>
    have ht : isT n a = true := by
      cases h : isT n a with
      | true => rfl
      | false => rw [benZ_no h] at hz; cases hz
    obtain ⟨n, a, rfl, rfl, hn, ha⟩ := isT_nat ht
    rw [show dulZ n a = ((n : Int), (dulW n a : Int), true) by unfold Plain.dulZ; rw [hz]; rfl]
    exact Dul.impl_yes n a hn ht (full_lim hn ha) ((benZ_yes ht).symm.trans hz) w
end Go.Proofs.Ytechkghnmgimbaa.Q
