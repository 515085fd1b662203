/-
  JoinTables of the program.
-/
import Derived.Test.YtecakbjcnabpnaaResF
namespace Go.Proofs.Ytecakbjcnabpnaa
open Go.RowKit Plain
set_option linter.unusedVariables false

theorem Tab.joinI_no1 (n a m b i : Int) (ha : -9223372036854775808 ≤ a ∧ a ≤ 9223372036854775807) (hb : -9223372036854775808 ≤ b ∧ b ≤ 9223372036854775807) (hf : fitB n a m b = false) (w : World) :
    Calls Try.prog 14 #[.agg #[.int .i64 n, .int .i64 a], .agg #[.int .i64 m, .int .i64 b], .int .i64 i] w fun e w' => e = .returned (.tuple #[.agg #[.int .i64 0, .int .i64 0], .bool false]) ∧ Below w.heap.size w w' := by
  have H := Lib.hid hf
  have HA := Lib.hid ha
  have HB := Lib.hid hb
  clear hf ha hb
  go_enter Try.func14, Try.ntmps14
  go_wp2_with fail
  refine (Tab.fitI _ _ _ _ HA.out HB.out _).mono ?_
  rintro e w1 ⟨rfl, hb1⟩
  obtain ⟨hc, hf⟩ := bcell hb1
  obtain ⟨hz0_w1, hz1_w1, hz2_w1, hz3_w1⟩ : w.heap.size < w1.heap.size ∧ w.heap.size + 1 < w1.heap.size ∧ w.heap.size + 1 + 1 < w1.heap.size ∧ w.heap.size + 1 + 1 + 1 < w1.heap.size := by have := hb1.size; simp at this; omega
  rw [H.out]
  go_wp2
  exact bodyPost_ret (v := .tuple #[.agg #[.int .i64 0, .int .i64 0], .bool false]) (by simp [results, Try.results14, go_sem, hc]) rfl ⟨rfl, bS (by simp <;> omega) (bS (by simp <;> omega) ((((((Below.refl _ _).alloc (Nat.le_refl _) _).alloc (by simp <;> omega) _).alloc (by simp <;> omega) _).alloc (by simp <;> omega) _).trans (hb1.mono (by simp <;> omega))))⟩

theorem Tab.joinI_no2 (a b : Nat) (i : Int) (ha : (a : Int) ≤ 4294967295) (hb : (b : Int) ≤ 4294967295) (hf : fitB 5 a 5 b = true) (w : World) :
    Calls Try.prog 14 #[.agg #[.int .i64 5, .int .i64 a], .agg #[.int .i64 5, .int .i64 b], .int .i64 i] w fun e w' => e = .returned (.tuple #[.agg #[.int .i64 0, .int .i64 0], .bool false]) ∧ Below w.heap.size w w' := by
  have H := Lib.hid hf
  clear hf
  go_enter Try.func14, Try.ntmps14
  go_wp2_with fail
  refine (Tab.fitI _ _ _ _ (by omega) (by omega) _).mono ?_
  rintro e w1 ⟨rfl, hb1⟩
  obtain ⟨hc, hf⟩ := bcell hb1
  obtain ⟨hz0_w1, hz1_w1, hz2_w1, hz3_w1⟩ : w.heap.size < w1.heap.size ∧ w.heap.size + 1 < w1.heap.size ∧ w.heap.size + 1 + 1 < w1.heap.size ∧ w.heap.size + 1 + 1 + 1 < w1.heap.size := by have := hb1.size; simp at this; omega
  rw [H.out]
  go_wp2
  exact bodyPost_ret (v := .tuple #[.agg #[.int .i64 0, .int .i64 0], .bool false]) (by simp [results, Try.results14, go_sem, hc]) rfl ⟨rfl, bS (by simp <;> omega) (bS (by simp <;> omega) ((((((Below.refl _ _).alloc (Nat.le_refl _) _).alloc (by simp <;> omega) _).alloc (by simp <;> omega) _).alloc (by simp <;> omega) _).trans (hb1.mono (by simp <;> omega))))⟩

theorem Tab.joinI_no3 (n a b : Nat) (i : Int) (hn : n ≤ 4) (ha : (a : Int) ≤ 4294967295) (hb : (b : Int) ≤ 4294967295) (hf : fitB n a n b = true) (hi : ¬ (0 ≤ i ∧ i ≤ (n : Int))) (w : World) :
    Calls Try.prog 14 #[.agg #[.int .i64 n, .int .i64 a], .agg #[.int .i64 n, .int .i64 b], .int .i64 i] w fun e w' => e = .returned (.tuple #[.agg #[.int .i64 0, .int .i64 0], .bool false]) ∧ Below w.heap.size w w' := by
  have H := Lib.hid hf
  have h5 : ((n : Int) == 5) = false := by rw [beq_eq_false_iff_ne]; omega
  have hn4 : (n : Int) ≤ 4 := by omega
  clear hf
  have HI : Hid (¬ (0 ≤ i ∧ i < (n : Int) + 1)) := Lib.hid (by omega)
  clear hi hn
  go_enter Try.func14, Try.ntmps14
  go_wp2_with fail
  refine (Tab.fitI _ _ _ _ (by omega) (by omega) _).mono ?_
  rintro e w1 ⟨rfl, hb1⟩
  obtain ⟨hc, hf⟩ := bcell hb1
  obtain ⟨hz0_w1, hz1_w1, hz2_w1, hz3_w1⟩ : w.heap.size < w1.heap.size ∧ w.heap.size + 1 < w1.heap.size ∧ w.heap.size + 1 + 1 < w1.heap.size ∧ w.heap.size + 1 + 1 + 1 < w1.heap.size := by have := hb1.size; simp at this; omega
  rw [H.out]
  go_wp2_with fail
  refine (Tab.isVar_no _ _ HI.out _).mono ?_
  rintro e w2 ⟨rfl, rfl⟩
  go_wp2
  exact bodyPost_ret (v := .tuple #[.agg #[.int .i64 0, .int .i64 0], .bool false]) (by simp [results, Try.results14, go_sem, hc]) rfl ⟨rfl, bS (by simp <;> omega) (bS (by simp <;> omega) ((((((Below.refl _ _).alloc (Nat.le_refl _) _).alloc (by simp <;> omega) _).alloc (by simp <;> omega) _).alloc (by simp <;> omega) _).trans (hb1.mono (by simp <;> omega))))⟩

set_option maxRecDepth 100000 in
set_option maxHeartbeats 1000000 in
theorem Tab.joinI_yes (n a b i : Nat) (hn : n ≤ 4) (ha : (a : Int) ≤ 4294967295) (hb : (b : Int) ≤ 4294967295) (hf : fitB n a n b = true) (hi : (i : Int) ≤ (n : Int)) (w : World) :
    Calls Try.prog 14 #[.agg #[.int .i64 n, .int .i64 a], .agg #[.int .i64 n, .int .i64 b], .int .i64 i] w fun e w' => e = .returned (.tuple #[.agg #[.int .i64 ((n : Int) + 1), .int .i64 (joinW n a b i : Int)], .bool true]) ∧ Below w.heap.size w w' := by
  have H := Lib.hid hf
  have h5 : ((n : Int) == 5) = false := by rw [beq_eq_false_iff_ne]; omega
  have hn4 : (n : Int) ≤ 4 := by omega
  clear hf
  have HN := Lib.hid hn
  have HE : Hid (((n + 1 : Nat) : Int) = (n : Int) + 1) := Lib.hid (by omega)
  clear hn
  go_enter Try.func14, Try.ntmps14
  go_wp2_with fail
  refine (Tab.fitI _ _ _ _ (by omega) (by omega) _).mono ?_
  rintro e w1 ⟨rfl, hb1⟩
  obtain ⟨hc, hf⟩ := bcell hb1
  obtain ⟨hz0_w1, hz1_w1, hz2_w1, hz3_w1⟩ : w.heap.size < w1.heap.size ∧ w.heap.size + 1 < w1.heap.size ∧ w.heap.size + 1 + 1 < w1.heap.size ∧ w.heap.size + 1 + 1 + 1 < w1.heap.size := by have := hb1.size; simp at this; omega
  rw [H.out]
  go_wp2_with fail
  refine (Tab.isVar_yes _ _ (by omega) _).mono ?_
  rintro e w2 ⟨rfl, rfl⟩
  go_wp2_with fail
  rw [← HE.out]
  refine (Tab.from_any (n + 1) (by have := HN.out; omega) (joinV a b i) 66 #[.pointer (some ⟨w1.heap.size, 0, none⟩), .pointer (some ⟨w.heap.size + 1 + 1, 0, none⟩)] (enters_of Try.func66 (by kernel_rfl) rfl) _ ?gv).mono ?_
  case gv => exact .of_drew fun W x hx hbb => Clo.join _ _ a b i x (pow5 (by have := HN.out; omega) hx) (by have := HN.out; omega) ha hb W (cellOn hbb (keepN rfl rfl)) (cellOn hbb (keepN rfl rfl)) (cellOn hbb (keepA (keepB hb1 (keepA (keepN (by simp) rfl)))))
  rw [HE.out]
  rintro e w3 ⟨rfl, hb3⟩
  obtain ⟨hc3, hf3⟩ := bcell hb3
  have hy3 : w1.heap.size < w3.heap.size := by have := hb3.size; simp at this; omega
  go_wp2
  obtain ⟨k0, k1⟩ := keepT (Y := w3) (g := w.heap.size + 1 + 1 + 1) (u := .int .i64 ((n : Int) + 1)) (v := .int .i64 (tabN (joinV a b i) (2 ^ (n + 1)) : Int)) (keepB hb3 (keepA (keepB hb1 (keepN (by simp) rfl)))) (keepB hb3 (keepA (keepB hb1 (keepN (by simp) rfl))))
  exact bodyPost_ret (v := .tuple #[.agg #[.int .i64 ((n : Int) + 1), .int .i64 (tabN (joinV a b i) (2 ^ (n + 1)) : Int)], .bool true]) (by simp [results, Try.results14, go_sem, k0, k1]) rfl ⟨rfl, bS (by simp <;> omega) (bS (by simp <;> omega) ((((((((Below.refl _ _).alloc (Nat.le_refl _) _).alloc (by simp <;> omega) _).alloc (by simp <;> omega) _).alloc (by simp <;> omega) _).trans (hb1.mono (by simp <;> omega))).alloc (by omega) _).trans (hb3.mono (by simp <;> omega))))⟩
end Go.Proofs.Ytecakbjcnabpnaa
