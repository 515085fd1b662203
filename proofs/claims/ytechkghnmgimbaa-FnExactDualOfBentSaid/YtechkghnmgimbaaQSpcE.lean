/-
  Chapter 12, the model: IsBent, Nonlinearity, CorrelationImmunity.
-/
import Derived.Test.YtechkghnmgimbaaQSpcN
import Derived.Test.YtechkghnmgimbaaSpcQ
import Derived.BigRegion
namespace Go.Proofs.Ytechkghnmgimbaa.Q
set_option linter.unusedSimpArgs false
theorem Plain.qSpcE : True := trivial
open Go.RowKit Go.Proofs.Ytechkghnmgimbaa.Plain Go.Proofs.Ytechkghnmgimbaa.Q.Plain
set_option linter.unusedVariables false
set_option linter.unusedSimpArgs false
attribute [local go_sem ↓] Go.wp_at_zero Go.wp_at_succ

theorem spcL_getD {a M k j : Nat} (h : j < k) : (spcL a M k).getD j 0 = spcN a M j := by
  simp [Plain.spcL, List.getD_eq_getElem?_getD, h]; rfl
/-- What a row of sums gives to read. -/
theorem Spc.open_yes {a M : Nat} {w w' : World} {e : Ending} (h : Spc.Out (spcL a M M) w e w') (h0 : 0 < M) :
    ∃ g cap, e = .returned (.slice (some ⟨g, 0, none⟩) M cap) ∧ w.heap.size ≤ g ∧ g < w'.heap.size ∧ (∀ j, j < M → w'.cell? ⟨g, j, none⟩ = some (.int .i64 (spcN a M j))) ∧ Below w.heap.size w w' := by
  obtain ⟨v, rfl, hr, hb⟩ := h
  have hl := spcL_len a M M
  rcases hr.shape with ⟨rfl, hn⟩ | ⟨g, cap, rfl, hB, hg⟩
  · rw [hn] at hl
    exact absurd hl (by simp; omega)
  · refine ⟨g, cap, by rw [hl], hB, hg, fun j hj => ?_, hb⟩
    rw [hr.cell j (by omega), spcL_getD hj]
theorem Spc.open_no {w w' : World} {e : Ending} (h : Spc.Out [] w e w') : ∃ o cap, e = .returned (.slice o 0 cap) ∧ Below w.heap.size w w' := by
  obtain ⟨v, rfl, hr, hb⟩ := h
  rcases hr.shape with ⟨rfl, hn⟩ | ⟨g, cap, rfl, hB, hg⟩
  · exact ⟨_, _, rfl, hb⟩
  · exact ⟨_, _, rfl, hb⟩

set_option maxRecDepth 100000 in
set_option maxHeartbeats 2000000 in
theorem Ben.model_no (n a : Int) (ht : isT n a = false) (w : World) :
    Calls Tq.prog 20 #[.agg #[.int .i64 n, .int .i64 a]] w fun e w' => e = .returned (.bool false) ∧ Below w.heap.size w w' := by
  have HS := Lib.hid (Spc.model_no n a ht)
  have H := Lib.hid ht
  clear ht
  go_enter Tq.func20, Tq.ntmps20
  go_wp2_with fail
  refine (HS.out _).mono ?_
  intro e w1 hout
  obtain ⟨o, cap, rfl, hb⟩ := Spc.open_no hout
  clear hout
  have c0 : w1.cell? ⟨w.heap.size, 0, none⟩ = some (.int .i64 n) := (hb.cell (by simp)).trans (keepN rfl rfl)
  have c1 : w1.cell? ⟨w.heap.size, 1, none⟩ = some (.int .i64 a) := (hb.cell (by simp)).trans (keepN rfl rfl)
  have hsz := hb.size
  have HB := Lib.hid hb
  clear hb
  go_wp2_with fail
  go_loopw [4] (fun i wr => i = .int .i64 1 ∧ wr = w1) (fun _ _ => 0)
  case atStart => exact ⟨rfl, rfl⟩
  case round =>
    obtain ⟨rfl, rfl⟩ := hrel
    go_wp2_with fail
    refine (Tab.model _ _ _).mono ?_
    rintro e w2 ⟨rfl, hb2⟩
    rw [H.out]
    go_wp2
    go_ret
    exact ⟨rfl, ((Below.refl _ _).alloc (Nat.le_refl _) _).trans ((HB.out.trans (hb2.mono (by simp at hsz ⊢; omega))).mono (by simp))⟩

set_option maxRecDepth 100000 in
set_option maxHeartbeats 2000000 in
theorem Ben.model_yes (n a : Nat) (hn : n ≤ 5) (ht : isT n a = true) (ha : (a : Int) ≤ 4294967295) (w : World) :
    Calls Tq.prog 20 #[.agg #[.int .i64 n, .int .i64 a]] w fun e w' => e = .returned (.bool (bentB n a)) ∧ Below w.heap.size w w' := by
  have HS := Lib.hid (Spc.model_yes n a hn ht ha)
  have H := Lib.hid ht
  have h32 := two_pow_le n hn
  have hpos : 0 < 2 ^ n := Nat.two_pow_pos n
  have hbent : bentB n a = (flatB a (2 ^ n) (2 ^ n) && (decide (n = 2) || decide (n = 4))) := rfl
  rw [hbent]
  clear ht hbent
  generalize 2 ^ n = M at *
  go_enter Tq.func20, Tq.ntmps20
  go_wp2_with fail
  refine (HS.out _).mono ?_
  intro e w1 hout
  obtain ⟨g, cap, rfl, hg0, hg1, hcell, hb⟩ := Spc.open_yes hout hpos
  clear hout
  have c0 : w1.cell? ⟨w.heap.size, 0, none⟩ = some (.int .i64 n) := (hb.cell (by simp)).trans (keepN rfl rfl)
  have c1 : w1.cell? ⟨w.heap.size, 1, none⟩ = some (.int .i64 a) := (hb.cell (by simp)).trans (keepN rfl rfl)
  have hsz := hb.size
  have HB := Lib.hid hb
  have HC := Lib.hid hcell
  clear hb hcell
  go_wp2_with fail
  go_loopw [4] (fun i wr => ∃ k m : Nat, i = .int .i64 (k : Int) ∧ 1 ≤ k ∧ k ≤ M ∧ flatB a M k = true ∧ wr = w1.drewN m) (fun i _ => M - (intOf i).toNat)
  case atStart => exact ⟨1, 0, rfl, by omega, by omega, flatB_one a M, rfl⟩
  case round =>
    obtain ⟨k, m, rfl, hk1, hk, hfl, rfl⟩ := hrel
    have HF := Lib.hid hfl
    clear hfl
    by_cases hlt : k < M
    · have hlz : (k : Int) < (M : Int) := by omega
      have e0 := HC.out 0 hpos
      have e1 := HC.out k hlt
      have l0 := spcN_lim a M 0
      have l1 := spcN_lim a M k
      have hMz : (M : Int) ≤ 32 := by omega
      have q0 := sq_lim l0 hMz
      have q1 := sq_lim l1 hMz
      have HX := Lib.hid (sq_abs (spcN a M k) (spcN a M 0))
      have HOFF := Lib.hid (flatB_off (a := a) (M := M) (k := k) (m := M) hlt)
      have HON := Lib.hid (flatB_on (a := a) (M := M) (k := k) HF.out)
      generalize spcN a M 0 = x0 at *
      generalize spcN a M k = x1 at *
      generalize hX0 : x0 * x0 = X0 at *
      generalize hX1 : x1 * x1 = X1 at *
      clear HS
      go_wp2
      go_quiet (fail)
      by_cases hsq : X1 = X0
      · have hon := HON.out (HX.out.1 hsq)
        go_wp2
        go_roundw
        case rel => exact ⟨k + 1, _, by go_num, by omega, by omega, hon, rfl⟩
        case measure => simp [intOf] <;> omega
      · have hoff := HOFF.out (fun h => hsq (HX.out.2 h))
        go_wp2
        go_ret
        exact ⟨by rw [hoff]; rfl, ((Below.refl _ _).alloc (Nat.le_refl _) _).trans ((below_drewN (below_drewN HB.out _) _).mono (by simp))⟩
    · obtain rfl : k = M := by omega
      have hlz : ¬ (k : Int) < (k : Int) := by omega
      go_wp2_with fail
      refine (Tab.model _ _ _).mono ?_
      rintro e w2 ⟨rfl, hb2⟩
      rw [H.out]
      have hb3 := hb2
      have d0 : w2.cell? ⟨w.heap.size, 0, none⟩ = some (.int .i64 n) := (hb2.cell (by simp at hsz ⊢; omega)).trans c0
      have HB2 := Lib.hid ((below_drewN HB.out m).trans (hb2.mono (by simp at hsz ⊢; omega)))
      clear hb2 hb3
      by_cases e2 : n = 2
      · subst e2
        go_wp2
        go_ret
        exact ⟨by rw [HF.out]; rfl, ((Below.refl _ _).alloc (Nat.le_refl _) _).trans (HB2.out.mono (by simp))⟩
      · have e2z : ¬ (n : Int) = 2 := by omega
        by_cases e4 : n = 4
        · subst e4
          go_wp2
          go_ret
          exact ⟨by rw [HF.out]; rfl, ((Below.refl _ _).alloc (Nat.le_refl _) _).trans (HB2.out.mono (by simp))⟩
        · have e4z : ¬ (n : Int) = 4 := by omega
          go_wp2
          go_ret
          exact ⟨by simp [HF.out, e2, e4]; omega, ((Below.refl _ _).alloc (Nat.le_refl _) _).trans (HB2.out.mono (by simp))⟩

set_option maxRecDepth 100000 in
set_option maxHeartbeats 2000000 in
theorem Non.model_no (n a : Int) (ht : isT n a = false) (w : World) :
    Calls Tq.prog 18 #[.agg #[.int .i64 n, .int .i64 a]] w fun e w' => e = .returned (.int .i64 (-1)) ∧ Below w.heap.size w w' := by
  have HS := Lib.hid (Spc.model_no n a ht)
  clear ht
  go_enter Tq.func18, Tq.ntmps18
  go_wp2_with fail
  refine (HS.out _).mono ?_
  intro e w1 hout
  obtain ⟨o, cap, rfl, hb⟩ := Spc.open_no hout
  clear hout
  have HB := Lib.hid hb
  clear hb
  go_wp2
  go_ret
  exact ⟨rfl, ((Below.refl _ _).alloc (Nat.le_refl _) _).trans (HB.out.mono (by simp))⟩

set_option maxRecDepth 100000 in
set_option maxHeartbeats 2000000 in
theorem Non.model_yes (n a : Nat) (hn : n ≤ 5) (ht : isT n a = true) (ha : (a : Int) ≤ 4294967295) (w : World) :
    Calls Tq.prog 18 #[.agg #[.int .i64 n, .int .i64 a]] w fun e w' => e = .returned (.int .i64 (nonN n a : Int)) ∧ Below w.heap.size w w' := by
  have HS := Lib.hid (Spc.model_yes n a hn ht ha)
  have h32 := two_pow_le n hn
  have hpos : 0 < 2 ^ n := Nat.two_pow_pos n
  have hnon : nonN n a = (2 ^ n - grtA a (2 ^ n) (2 ^ n)) / 2 := rfl
  rw [hnon]
  clear ht hnon
  generalize 2 ^ n = M at *
  go_enter Tq.func18, Tq.ntmps18
  go_wp2_with fail
  refine (HS.out _).mono ?_
  intro e w1 hout
  obtain ⟨g, cap, rfl, hg0, hg1, hcell, hb⟩ := Spc.open_yes hout hpos
  clear hout
  have HB := Lib.hid hb
  have HC := Lib.hid hcell
  have hMz : (M : Int) ≤ 32 := by omega
  have hMp : ¬ (M : Int) = 0 := by omega
  clear hb hcell HS
  go_wp2_with fail
  go_loopw [4, 5] (fun s i wr => ∃ k m : Nat, i = .int .i64 (k : Int) ∧ s = .int .i64 (grtA a M k : Int) ∧ k ≤ M ∧ wr = w1.drewN m) (fun _ i _ => M - (intOf i).toNat)
  case atStart => exact ⟨0, 0, rfl, rfl, by omega, rfl⟩
  case round =>
    obtain ⟨k, m, rfl, rfl, hk, rfl⟩ := hrel
    have hgl := grtA_le a M k
    by_cases hlt : k < M
    · have hlz : (k : Int) < (M : Int) := by omega
      have e1 := HC.out k hlt
      have l1 := spcN_lim a M k
      have HG : Hid (grtA a M (k + 1) = max (grtA a M k) (spcN a M k).natAbs) := Lib.hid rfl
      generalize hG1 : grtA a M (k + 1) = G1 at *
      generalize grtA a M k = G0 at *
      generalize spcN a M k = x1 at *
      go_wp2
      go_quiet (fail)
      go_wp2
      go_roundw
      case rel => exact ⟨k + 1, _, by go_num, by rw [hG1, HG.out]; congr 1; omega, by omega, rfl⟩
      case measure => simp [intOf] <;> omega
    · obtain rfl : k = M := by omega
      have hlz : ¬ (k : Int) < (k : Int) := by omega
      generalize hG : grtA a k k = G0 at *
      have hdiv : ((k : Int) - (G0 : Int)).tdiv 2 = (((k - G0) / 2 : Nat) : Int) := by rw [Int.tdiv_eq_ediv_of_nonneg (by omega)]; omega
      go_wp2
      go_ret
      exact ⟨by simp [hdiv, hG], ((Below.refl _ _).alloc (Nat.le_refl _) _).trans ((below_drewN HB.out _).mono (by simp))⟩

set_option maxRecDepth 100000 in
set_option maxHeartbeats 2000000 in
theorem Cor.model_no (n a : Int) (ht : isT n a = false) (w : World) :
    Calls Tq.prog 27 #[.agg #[.int .i64 n, .int .i64 a]] w fun e w' => e = .returned (.int .i64 (-1)) ∧ Below w.heap.size w w' := by
  have HS := Lib.hid (Spc.model_no n a ht)
  clear ht
  go_enter Tq.func27, Tq.ntmps27
  go_wp2_with fail
  refine (HS.out _).mono ?_
  intro e w1 hout
  obtain ⟨o, cap, rfl, hb⟩ := Spc.open_no hout
  clear hout
  have HB := Lib.hid hb
  clear hb
  go_wp2
  go_ret
  exact ⟨rfl, ((Below.refl _ _).alloc (Nat.le_refl _) _).trans (HB.out.mono (by simp))⟩

set_option maxRecDepth 100000 in
set_option maxHeartbeats 2000000 in
theorem Cor.model_yes (n a : Nat) (hn : n ≤ 5) (ht : isT n a = true) (ha : (a : Int) ≤ 4294967295) (w : World) :
    Calls Tq.prog 27 #[.agg #[.int .i64 n, .int .i64 a]] w fun e w' => e = .returned (.int .i64 (corN n a (2 ^ n) (2 ^ n) : Int)) ∧ Below w.heap.size w w' := by
  have HS := Lib.hid (Spc.model_yes n a hn ht ha)
  have h32 := two_pow_le n hn
  have hpos : 0 < 2 ^ n := Nat.two_pow_pos n
  have HP := Lib.hid (fun (v : Nat) (hv : (v : Int) ≤ 4294967295) => Tab.onesM v hv)
  clear ht
  generalize 2 ^ n = M at *
  go_enter Tq.func27, Tq.ntmps27
  go_wp2_with fail
  refine (HS.out _).mono ?_
  intro e w1 hout
  obtain ⟨g, cap, rfl, hg0, hg1, hcell, hb⟩ := Spc.open_yes hout hpos
  clear hout
  have c0 : w1.cell? ⟨w.heap.size, 0, none⟩ = some (.int .i64 n) := (hb.cell (by simp)).trans (keepN rfl rfl)
  have HB := Lib.hid hb
  have HC := Lib.hid hcell
  have hMz : (M : Int) ≤ 32 := by omega
  have hMp : ¬ (M : Int) = 0 := by omega
  clear hb hcell HS
  go_wp2_with fail
  go_loop [4, 5] (fun s i => ∃ k : Nat, i = .int .i64 (k : Int) ∧ s = .int .i64 (corN n a M k : Int) ∧ 1 ≤ k ∧ k ≤ M) (fun _ i => M - (intOf i).toNat)
  case atStart => exact ⟨1, rfl, by rw [corN_one], by omega, by omega⟩
  case round =>
    obtain ⟨k, rfl, rfl, hk1, hk⟩ := hrel
    have hgl := corN_le n a M k
    by_cases hlt : k < M
    · have hlz : (k : Int) < (M : Int) := by omega
      have e1 := HC.out k hlt
      have HON := Lib.hid (corN_on (n := n) (a := a) (M := M) (k := k) (by omega))
      have HOFF := Lib.hid (corN_off (n := n) (a := a) (M := M) (k := k))
      have hpl := popN_lim k (by omega)
      have hpp := pop_pos k (by omega)
      have HK := Lib.hid (HP.out k (by omega))
      have l1 := spcN_lim a M k
      generalize hG1 : corN n a M (k + 1) = G1 at *
      generalize corN n a M k = G0 at *
      generalize popN k = q at *
      generalize spcN a M k = x1 at *
      by_cases hz : x1 = 0
      · have hoff := HOFF.out hz
        subst hz
        go_wp2
        exact ⟨⟨k + 1, by go_num, by rw [hG1, hoff], by omega, by omega⟩, by simp [intOf] <;> omega⟩
      · have HO := Lib.hid (HON.out hz)
        have hzb : (x1 == 0) = false := by simpa using hz
        go_wp2_with fail
        refine (HK.out _).mono ?_
        rintro e w2 ⟨rfl, rfl⟩
        go_wp2_with fail
        all_goals exact ⟨⟨k + 1, by go_num, by rw [hG1, HO.out]; congr 1; omega, by omega, by omega⟩, by simp [intOf] <;> omega⟩
    · obtain rfl : k = M := by omega
      have hlz : ¬ (k : Int) < (k : Int) := by omega
      generalize hG : corN n a k k = G0 at *
      go_wp2
      go_ret
      exact ⟨by simp [hG], ((Below.refl _ _).alloc (Nat.le_refl _) _).trans (HB.out.mono (by simp))⟩
end Go.Proofs.Ytechkghnmgimbaa.Q
