/-
  Chapter 10, the model: SensitivityOf, BlockSensitivityOf, SensitiveEdges, IsSensitiveBlock.
-/
import Derived.Test.YtbgjiblfnljigaaSenN
namespace Go.Proofs.Ytbgjiblfnljigaa
open Go.RowKit Plain
set_option linter.unusedVariables false
attribute [local go_sem ↓] Go.wp_at_zero Go.wp_at_succ

set_option maxRecDepth 100000 in
set_option maxHeartbeats 1000000 in
theorem SenO.model_yes (n a : Nat) (hn : n ≤ 5) (ht : isT n a = true) (ha : (a : Int) ≤ 4294967295) (w : World) :
    Calls Try.prog 14 #[.agg #[.int .i64 n, .int .i64 a]] w fun e w' => e = .returned (.int .i64 (maxN (fun x => senN a x n) (2 ^ n) : Int)) ∧ Below w.heap.size w w' := by
  have H := Lib.hid ht
  have HN := Lib.hid hn
  obtain ⟨hp1, hp2⟩ := two_pow_int n hn
  have hn5 : (n : Int) ≤ 5 := by omega
  have HG : Hid (∀ x : Nat, (x : Int) < 2 ^ n → ∀ w, Calls Try.prog 52 #[.agg #[.int .i64 n, .int .i64 a], .int .i64 x] w fun e w' => e = .returned (.int .i64 ((fun x => senN a x n) x : Int)) ∧ Below w.heap.size w w') := Lib.hid (by
    intro x hx w
    exact L10At.any n a x hn ha hx w)
  have HM : Hid (∀ x, (fun x => senN a x n) x ≤ 1000) := Lib.hid (fun x => by have := senN_le a x n; show senN a x n ≤ 1000; omega)
  generalize (fun x => senN a x n) = m at *
  clear hn ht
  go_enter Try.func14, Try.ntmps14
  go_wp2_with fail
  refine (Tab.model _ _ _).mono ?_
  rintro e w1 ⟨rfl, hb1⟩
  have X1 := blockC hb1 (heap_alloc_new w _)
  obtain ⟨c0, c1, f0, f1⟩ := cells2 X1
  have hz1 : w.heap.size < w1.heap.size := lt_of_block X1
  have HX1 := Lib.hid X1
  have HB1 : Hid (Below w.heap.size w w1) := Lib.hid (bB hb1 (by simp) (bA (Nat.le_refl _) (Below.refl _ _)))
  clear X1 hb1
  rw [H.out]
  go_wp2_with fail
  clear c0 c1 f0 f1
  go_loopw [3, 4] (fun c i wr => ∃ k : Nat, i = .int .i64 (k : Int) ∧ c = .int .i64 (maxN m k : Int) ∧ (k : Int) ≤ 2 ^ n ∧ wr.heap[w.heap.size]? = some (.cells #[.int .i64 n, .int .i64 a] 25 (0, 0)) ∧ Below w.heap.size w wr) (fun _ i _ => 32 - (intOf i).toNat)
  case atStart => exact ⟨0, rfl, rfl, by omega, HX1.out, HB1.out⟩
  case round =>
    obtain ⟨k, rfl, rfl, hk, hblk, hbel⟩ := hrel
    obtain ⟨c0, c1, f0, f1⟩ := cells2 hblk
    have HBLK := Lib.hid hblk
    have HBEL := Lib.hid hbel
    have hlz : w.heap.size < wr.heap.size := lt_of_block hblk
    clear hblk hbel
    by_cases hlt : (k : Int) < 2 ^ n
    · have HA := Lib.hid (HG.out k hlt)
      have HT : Hid (((maxN m (k + 1) : Nat) : Int) = max (maxN m k : Int) (m k : Int)) := Lib.hid (by show ((max (maxN m k) (m k) : Nat) : Int) = _; omega)
      have hg := maxN_le HM.out k
      have hmk := HM.out k
      generalize hg1 : ((maxN m (k + 1) : Nat) : Int) = g1 at *
      generalize maxN m k = g0 at *
      generalize m k = p at *
      go_wp2_with fail
      refine (HA.out _).mono ?_
      rintro e w2 ⟨rfl, hb2⟩
      have HBLK2 := Lib.hid (blockC hb2 HBLK.out)
      have HB2 := Lib.hid (bB hb2 (by omega) HBEL.out)
      clear hb2
      go_wp2_with fail
      all_goals
        go_roundw
        case rel => exact ⟨k + 1, by go_num, by (rw [hg1, HT.out]; congr 1; (first | rfl | (split <;> omega) | omega)), by omega, HBLK2.out, HB2.out⟩
        case measure => simp [intOf]; omega
    · have he : k = 2 ^ n := by rw [up2] at hk hlt; omega
      have HE : Hid (maxN m k = maxN m (2 ^ n)) := Lib.hid (by rw [he])
      clear he
      go_wp2
      go_ret
      exact ⟨ret_int (by rw [HE.out]), HBEL.out⟩

theorem SenO.model_no (n a : Int) (ht : isT n a = false) (w : World) :
    Calls Try.prog 14 #[.agg #[.int .i64 n, .int .i64 a]] w fun e w' => e = .returned (.int .i64 (-1)) ∧ Below w.heap.size w w' := by
  have H := Lib.hid ht
  clear ht
  go_enter Try.func14, Try.ntmps14
  go_wp2_with fail
  refine (Tab.model _ _ _).mono ?_
  rintro e w1 ⟨rfl, hb1⟩
  obtain ⟨hc, hf⟩ := bcell hb1
  have hz0_w1 : w.heap.size < w1.heap.size := by have := hb1.size; simp at this; omega
  rw [H.out]
  go_wp2
  go_ret
  exact ⟨rfl, bB hb1 (by simp) (bA (Nat.le_refl _) (Below.refl _ _))⟩

/-- SensitivityOf of the model. -/
theorem SenO.model (n a : Int) (w : World) :
    Calls Try.prog 14 #[.agg #[.int .i64 n, .int .i64 a]] w fun e w' => e = .returned (.int .i64 (sofT n a)) ∧ Below w.heap.size w w' := by
  cases ht : isT n a with
  | false =>
    rw [show sofT n a = -1 from greT_no ht]
    exact SenO.model_no n a ht w
  | true =>
    obtain ⟨n, a, rfl, rfl, hn, ha⟩ := isT_nat ht
    rw [show sofT n a = (maxN (fun x => senN a x n) (2 ^ n) : Int) from greT_yes ht]
    exact SenO.model_yes n a hn ht (by have := fullN_le n hn; omega) w

set_option maxRecDepth 100000 in
set_option maxHeartbeats 1000000 in
theorem BsO.model_yes (n a : Nat) (hn : n ≤ 5) (ht : isT n a = true) (ha : (a : Int) ≤ 4294967295) (w : World) :
    Calls Try.prog 25 #[.agg #[.int .i64 n, .int .i64 a]] w fun e w' => e = .returned (.int .i64 (maxN (bsN n a) (2 ^ n) : Int)) ∧ Below w.heap.size w w' := by
  have H := Lib.hid ht
  have HN := Lib.hid hn
  obtain ⟨hp1, hp2⟩ := two_pow_int n hn
  have hn5 : (n : Int) ≤ 5 := by omega
  have HG : Hid (∀ x : Nat, (x : Int) < 2 ^ n → ∀ w, Calls Try.prog 23 #[.agg #[.int .i64 n, .int .i64 a], .int .i64 x] w fun e w' => e = .returned (.int .i64 ((bsN n a) x : Int)) ∧ Below w.heap.size w w') := Lib.hid (by
    intro x hx w
    have h := BsA.model n a x w
    rwa [bsaT_yes ht hx] at h)
  have HM : Hid (∀ x, (bsN n a) x ≤ 1000) := Lib.hid (bsN_cap hn a)
  generalize (bsN n a) = m at *
  clear hn ht
  go_enter Try.func25, Try.ntmps25
  go_wp2_with fail
  refine (Tab.model _ _ _).mono ?_
  rintro e w1 ⟨rfl, hb1⟩
  have X1 := blockC hb1 (heap_alloc_new w _)
  obtain ⟨c0, c1, f0, f1⟩ := cells2 X1
  have hz1 : w.heap.size < w1.heap.size := lt_of_block X1
  have HX1 := Lib.hid X1
  have HB1 : Hid (Below w.heap.size w w1) := Lib.hid (bB hb1 (by simp) (bA (Nat.le_refl _) (Below.refl _ _)))
  clear X1 hb1
  rw [H.out]
  go_wp2_with fail
  clear c0 c1 f0 f1
  go_loopw [3, 4] (fun c i wr => ∃ k : Nat, i = .int .i64 (k : Int) ∧ c = .int .i64 (maxN m k : Int) ∧ (k : Int) ≤ 2 ^ n ∧ wr.heap[w.heap.size]? = some (.cells #[.int .i64 n, .int .i64 a] 25 (0, 0)) ∧ Below w.heap.size w wr) (fun _ i _ => 32 - (intOf i).toNat)
  case atStart => exact ⟨0, rfl, rfl, by omega, HX1.out, HB1.out⟩
  case round =>
    obtain ⟨k, rfl, rfl, hk, hblk, hbel⟩ := hrel
    obtain ⟨c0, c1, f0, f1⟩ := cells2 hblk
    have HBLK := Lib.hid hblk
    have HBEL := Lib.hid hbel
    have hlz : w.heap.size < wr.heap.size := lt_of_block hblk
    clear hblk hbel
    by_cases hlt : (k : Int) < 2 ^ n
    · have HA := Lib.hid (HG.out k hlt)
      have HT : Hid (((maxN m (k + 1) : Nat) : Int) = max (maxN m k : Int) (m k : Int)) := Lib.hid (by show ((max (maxN m k) (m k) : Nat) : Int) = _; omega)
      have hg := maxN_le HM.out k
      have hmk := HM.out k
      generalize hg1 : ((maxN m (k + 1) : Nat) : Int) = g1 at *
      generalize maxN m k = g0 at *
      generalize m k = p at *
      go_wp2_with fail
      refine (HA.out _).mono ?_
      rintro e w2 ⟨rfl, hb2⟩
      have HBLK2 := Lib.hid (blockC hb2 HBLK.out)
      have HB2 := Lib.hid (bB hb2 (by omega) HBEL.out)
      clear hb2
      go_wp2_with fail
      all_goals
        go_roundw
        case rel => exact ⟨k + 1, by go_num, by (rw [hg1, HT.out]; congr 1; (first | rfl | (split <;> omega) | omega)), by omega, HBLK2.out, HB2.out⟩
        case measure => simp [intOf]; omega
    · have he : k = 2 ^ n := by rw [up2] at hk hlt; omega
      have HE : Hid (maxN m k = maxN m (2 ^ n)) := Lib.hid (by rw [he])
      clear he
      go_wp2
      go_ret
      exact ⟨ret_int (by rw [HE.out]), HBEL.out⟩

theorem BsO.model_no (n a : Int) (ht : isT n a = false) (w : World) :
    Calls Try.prog 25 #[.agg #[.int .i64 n, .int .i64 a]] w fun e w' => e = .returned (.int .i64 (-1)) ∧ Below w.heap.size w w' := by
  have H := Lib.hid ht
  clear ht
  go_enter Try.func25, Try.ntmps25
  go_wp2_with fail
  refine (Tab.model _ _ _).mono ?_
  rintro e w1 ⟨rfl, hb1⟩
  obtain ⟨hc, hf⟩ := bcell hb1
  have hz0_w1 : w.heap.size < w1.heap.size := by have := hb1.size; simp at this; omega
  rw [H.out]
  go_wp2
  go_ret
  exact ⟨rfl, bB hb1 (by simp) (bA (Nat.le_refl _) (Below.refl _ _))⟩

/-- BlockSensitivityOf of the model. -/
theorem BsO.model (n a : Int) (w : World) :
    Calls Try.prog 25 #[.agg #[.int .i64 n, .int .i64 a]] w fun e w' => e = .returned (.int .i64 (bsoT n a)) ∧ Below w.heap.size w w' := by
  cases ht : isT n a with
  | false =>
    rw [show bsoT n a = -1 from greT_no ht]
    exact BsO.model_no n a ht w
  | true =>
    obtain ⟨n, a, rfl, rfl, hn, ha⟩ := isT_nat ht
    rw [show bsoT n a = (maxN (bsN n a) (2 ^ n) : Int) from greT_yes ht]
    exact BsO.model_yes n a hn ht (by have := fullN_le n hn; omega) w

set_option maxRecDepth 100000 in
set_option maxHeartbeats 1000000 in
theorem SenE.model_yes (n a : Nat) (hn : n ≤ 5) (ht : isT n a = true) (ha : (a : Int) ≤ 4294967295) (w : World) :
    Calls Try.prog 27 #[.agg #[.int .i64 n, .int .i64 a]] w fun e w' => e = .returned (.int .i64 ((sumS n a (2 ^ n) / 2 : Nat) : Int)) ∧ Below w.heap.size w w' := by
  have H := Lib.hid ht
  have HN := Lib.hid hn
  obtain ⟨hp1, hp2⟩ := two_pow_int n hn
  have hn5 : (n : Int) ≤ 5 := by omega
  have HSA := Lib.hid (fun (x : Nat) (hx : (x : Int) < 2 ^ n) => L10At.any n a x hn ha hx)
  have HS1 : Hid (∀ k : Nat, (k : Int) ≤ 2 ^ n → sumS n a k ≤ 160) := Lib.hid fun k hk => sumS_160 hn a k (by omega)
  clear hn ht
  go_enter Try.func27, Try.ntmps27
  go_wp2_with fail
  refine (Tab.model _ _ _).mono ?_
  rintro e w1 ⟨rfl, hb1⟩
  have X1 := blockC hb1 (heap_alloc_new w _)
  obtain ⟨c0, c1, f0, f1⟩ := cells2 X1
  have hz1 : w.heap.size < w1.heap.size := lt_of_block X1
  have HX1 := Lib.hid X1
  have HB1 : Hid (Below w.heap.size w w1) := Lib.hid (bB hb1 (by simp) (bA (Nat.le_refl _) (Below.refl _ _)))
  clear X1 hb1
  rw [H.out]
  go_wp2_with fail
  clear c0 c1 f0 f1
  go_loopw [3, 4] (fun c i wr => ∃ k : Nat, i = .int .i64 (k : Int) ∧ c = .int .i64 (sumS n a k : Int) ∧ (k : Int) ≤ 2 ^ n ∧ wr.heap[w.heap.size]? = some (.cells #[.int .i64 n, .int .i64 a] 25 (0, 0)) ∧ Below w.heap.size w wr) (fun _ i _ => 32 - (intOf i).toNat)
  case atStart => exact ⟨0, rfl, rfl, by omega, HX1.out, HB1.out⟩
  case round =>
    obtain ⟨k, rfl, rfl, hk, hblk, hbel⟩ := hrel
    obtain ⟨c0, c1, f0, f1⟩ := cells2 hblk
    have HBLK := Lib.hid hblk
    have HBEL := Lib.hid hbel
    have hlz : w.heap.size < wr.heap.size := lt_of_block hblk
    clear hblk hbel
    have hs := HS1.out k hk
    by_cases hlt : (k : Int) < 2 ^ n
    · have HA := Lib.hid (HSA.out k hlt)
      have HT : Hid (((sumS n a (k + 1) : Nat) : Int) = (sumS n a k : Int) + (senN a k n : Int)) := Lib.hid (by show ((sumS n a k + senN a k n : Nat) : Int) = _; omega)
      have hmk := senN_le a k n
      generalize hg1 : ((sumS n a (k + 1) : Nat) : Int) = g1 at *
      generalize sumS n a k = g0 at *
      generalize senN a k n = p at *
      go_wp2_with fail
      refine (HA.out _).mono ?_
      rintro e w2 ⟨rfl, hb2⟩
      have HBLK2 := Lib.hid (blockC hb2 HBLK.out)
      have HB2 := Lib.hid (bB hb2 (by omega) HBEL.out)
      clear hb2
      go_wp2_with fail
      go_roundw
      case rel => exact ⟨k + 1, by go_num, by rw [hg1, HT.out], by omega, HBLK2.out, HB2.out⟩
      case measure => simp [intOf]; omega
    · have he : k = 2 ^ n := by rw [up2] at hk hlt; omega
      have HE : Hid (sumS n a k = sumS n a (2 ^ n)) := Lib.hid (by rw [he])
      clear he
      generalize sumS n a k = g0 at *
      go_wp2
      go_ret
      exact ⟨ret_int (by rw [← HE.out]), HBEL.out⟩

theorem SenE.model_no (n a : Int) (ht : isT n a = false) (w : World) :
    Calls Try.prog 27 #[.agg #[.int .i64 n, .int .i64 a]] w fun e w' => e = .returned (.int .i64 (-1)) ∧ Below w.heap.size w w' := by
  have H := Lib.hid ht
  clear ht
  go_enter Try.func27, Try.ntmps27
  go_wp2_with fail
  refine (Tab.model _ _ _).mono ?_
  rintro e w1 ⟨rfl, hb1⟩
  obtain ⟨hc, hf⟩ := bcell hb1
  have hz0_w1 : w.heap.size < w1.heap.size := by have := hb1.size; simp at this; omega
  rw [H.out]
  go_wp2
  go_ret
  exact ⟨rfl, bB hb1 (by simp) (bA (Nat.le_refl _) (Below.refl _ _))⟩

/-- SensitiveEdges of the model. -/
theorem SenE.model (n a : Int) (w : World) :
    Calls Try.prog 27 #[.agg #[.int .i64 n, .int .i64 a]] w fun e w' => e = .returned (.int .i64 (edgT n a)) ∧ Below w.heap.size w w' := by
  cases ht : isT n a with
  | false =>
    rw [edgT_no ht]
    exact SenE.model_no n a ht w
  | true =>
    obtain ⟨n, a, rfl, rfl, hn, ha⟩ := isT_nat ht
    rw [edgT_yes ht]
    exact SenE.model_yes n a hn ht (by have := fullN_le n hn; omega) w

end Go.Proofs.Ytbgjiblfnljigaa
