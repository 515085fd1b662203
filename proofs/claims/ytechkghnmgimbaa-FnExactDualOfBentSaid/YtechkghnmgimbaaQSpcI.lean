/-
  Chapter 12, the model: DualOfBent.
-/
import Derived.Test.YtechkghnmgimbaaQSpcE
import Derived.Test.YtechkghnmgimbaaSpcS
namespace Go.Proofs.Ytechkghnmgimbaa.Q
set_option linter.unusedSimpArgs false
theorem Plain.qSpcI : True := trivial
open Go.RowKit Go.Proofs.Ytechkghnmgimbaa.Plain Go.Proofs.Ytechkghnmgimbaa.Q.Plain
set_option linter.unusedVariables false
set_option linter.unusedSimpArgs false
attribute [local go_sem ↓] Go.wp_at_zero Go.wp_at_succ

set_option maxRecDepth 100000 in
theorem Dul.model_no (n a : Int) (HB : ∀ w, Calls Tq.prog 20 #[.agg #[.int .i64 n, .int .i64 a]] w fun e w' => e = .returned (.bool false) ∧ Below w.heap.size w w') (w : World) :
    Calls Tq.prog 22 #[.agg #[.int .i64 n, .int .i64 a]] w fun e w' => e = .returned (.tuple #[.agg #[.int .i64 0, .int .i64 0], .bool false]) ∧ Below w.heap.size w w' := by
  have HBT := Lib.hid HB
  clear HB
  go_enter Tq.func22, Tq.ntmps22
  go_wp2_with fail
  refine (HBT.out _).mono ?_
  rintro e w1 ⟨rfl, hb1⟩
  obtain ⟨hc1, hf1⟩ := bcell hb1
  have hz : w.heap.size + 1 < w1.heap.size := by have := hb1.size; simp at this; omega
  go_wp2
  obtain ⟨k0, k1⟩ := keepT (Y := w1) (g := w.heap.size + 1) (u := .int .i64 0) (v := .int .i64 0) (keepB hb1 (keepN (by simp) rfl)) (keepB hb1 (keepN (by simp) rfl))
  exact bodyPost_ret (v := .tuple #[.agg #[.int .i64 0, .int .i64 0], .bool false]) (by simp [results, Tq.results22, go_sem, k0, k1]) rfl ⟨rfl, bS (by simp) (bS (by simp) (bB hb1 (by simp; omega) (bA (by simp) (bA (Nat.le_refl _) (Below.refl _ _)))))⟩

set_option maxRecDepth 100000 in
set_option maxHeartbeats 2000000 in
theorem Dul.model_yes (n a : Nat) (hn : n ≤ 5) (ht : isT n a = true) (ha : (a : Int) ≤ 4294967295) (hbent : bentB n a = true) (w : World) :
    Calls Tq.prog 22 #[.agg #[.int .i64 n, .int .i64 a]] w fun e w' => e = .returned (.tuple #[.agg #[.int .i64 n, .int .i64 (dulW n a : Int)], .bool true]) ∧ Below w.heap.size w w' := by
  have HBT := Lib.hid (Ben.model_yes n a hn ht ha)
  have HE := Lib.hid hbent
  have HS := Lib.hid (Spc.model_yes n a hn ht ha)
  have h32 := two_pow_le n hn
  have hpos : 0 < 2 ^ n := Nat.two_pow_pos n
  have HW : Hid (dulW n a = tabN (dulB a (2 ^ n)) (2 ^ n)) := Lib.hid rfl
  rw [HW.out]
  clear ht hbent HW
  generalize 2 ^ n = M at *
  go_enter Tq.func22, Tq.ntmps22
  go_wp2_with fail
  refine (HBT.out _).mono ?_
  rintro e w1 ⟨rfl, hb1⟩
  rw [HE.out]
  obtain ⟨hc1, hf1⟩ := bcell hb1
  have hz : w.heap.size + 1 < w1.heap.size := by have := hb1.size; simp at this; omega
  have n0 : w1.cell? ⟨w.heap.size, 0, none⟩ = some (.int .i64 n) := keepB hb1 (keepA (keepN rfl rfl))
  have r0 : w1.cell? ⟨w.heap.size + 1, 0, none⟩ = some (.int .i64 0) := keepB hb1 (keepN (by simp) rfl)
  have r1 : w1.cell? ⟨w.heap.size + 1, 1, none⟩ = some (.int .i64 0) := keepB hb1 (keepN (by simp) rfl)
  have g0 : w1.frozen? ⟨w.heap.size + 1, 0, none⟩ = false := (hf1 _ _ (by simp)).trans (by simp)
  have g1 : w1.frozen? ⟨w.heap.size + 1, 1, none⟩ = false := (hf1 _ _ (by simp)).trans (by simp)
  have HB1 : Hid (Below w.heap.size w w1) := Lib.hid (bB hb1 (by simp; omega) (bA (by simp) (bA (Nat.le_refl _) (Below.refl _ _))))
  go_wp2_with fail
  refine (HS.out _).mono ?_
  intro e w3 hout
  obtain ⟨g, cap, rfl, hg0, hg1, hcell, hb⟩ := Spc.open_yes hout hpos
  clear hout hc1 hf1 hb1
  obtain ⟨hc3, hf3⟩ := bcell hb
  have m0 := keepB hb n0
  have q0 := keepB hb r0
  have q1 := keepB hb r1
  have hz3 : w.heap.size + 1 < w3.heap.size := by have := hb.size; omega
  have y0 : w3.frozen? ⟨w.heap.size + 1, 0, none⟩ = false := (hf3 _ _ hz).trans g0
  have y1 : w3.frozen? ⟨w.heap.size + 1, 1, none⟩ = false := (hf3 _ _ hz).trans g1
  have HB3 : Hid (Below w.heap.size w w3) := Lib.hid (bB hb (by omega) HB1.out)
  have HC := Lib.hid hcell
  have hMz : (M : Int) ≤ 32 := by omega
  clear hb hcell HS n0 r0 r1 hc3 hf3 g0 g1
  go_wp2_with fail
  go_loop [5, 6] (fun s i => ∃ k : Nat, i = .int .i64 (k : Int) ∧ s = .int .i64 (tabN (dulB a M) k : Int) ∧ k ≤ M) (fun _ i => M - (intOf i).toNat)
  case atStart => exact ⟨0, rfl, rfl, by omega⟩
  case round =>
    obtain ⟨k, rfl, rfl, hk⟩ := hrel
    by_cases hlt : k < M
    · have hlz : (k : Int) < (M : Int) := by omega
      have e1 := HC.out k hlt
      have hvy := tabN_bound (dulB a M) k (by omega)
      have HO := Lib.hid (orbit_i64 (tabN (dulB a M) k) k hvy (by omega))
      by_cases hx : spcN a M k < 0
      · have HV := Lib.hid (tabN_yes (dulB_yes hx))
        generalize spcN a M k = x at *
        go_wp2
        exact ⟨⟨k + 1, by go_num, by rw [HV.out, ← HO.out], by omega⟩, by simp [intOf] <;> omega⟩
      · have HV := Lib.hid (tabN_no (v := dulB a M) (x := k) (by rw [dulB_no hx]; decide))
        generalize spcN a M k = x at *
        go_wp2
        exact ⟨⟨k + 1, by go_num, by rw [HV.out], by omega⟩, by simp [intOf] <;> omega⟩
    · obtain rfl : k = M := by omega
      have hlz : ¬ (k : Int) < (k : Int) := by omega
      generalize hG : tabN (dulB a k) k = z at *
      go_wp2
      obtain ⟨k0, k1⟩ := keepT (Y := w3) (g := w.heap.size + 1) (u := .int .i64 n) (v := .int .i64 z) q0 q1
      exact bodyPost_ret (v := .tuple #[.agg #[.int .i64 n, .int .i64 z], .bool true]) (by simp [results, Tq.results22, go_sem, k0, k1]) rfl ⟨by simp [hG], bS (by simp) (bS (by simp) HB3.out)⟩
end Go.Proofs.Ytechkghnmgimbaa.Q
