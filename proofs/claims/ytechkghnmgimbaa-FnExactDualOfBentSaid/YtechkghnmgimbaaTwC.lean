/-
  The twin's spectrum in one form: a row of the call's own.
  Over the twin: IsBent, Nonlinearity and CorrelationImmunity of the program.
  Over the twin: what IsBent, Nonlinearity, CorrelationImmunity and SpectrumOf of both answer at any two ints.
-/
import Derived.Test.YtechkghnmgimbaaTwA
import Derived.Test.YtechkghnmgimbaaQSpcN
import Derived.Test.YtechkghnmgimbaaQRowB
import Derived.Test.YtechkghnmgimbaaQSpcE
import Derived.Test.YtechkghnmgimbaaQSetS
import Derived.BigQuiet
import Derived.Deep.QuietTactic

namespace Go.Proofs.Ytechkghnmgimbaa.Q
open Go.RowKit Go.Proofs.Ytechkghnmgimbaa.Plain Go.Proofs.Ytechkghnmgimbaa.Q.Plain
set_option linter.unusedVariables false
set_option linter.unusedSimpArgs false

theorem PR.below {W : World} {bl : List Obj} {w : World} (h : PR W bl w) : Below W.heap.size W w := ⟨h.os, h.tape, h.output, by rw [h.size]; omega, h.keep⟩

theorem Spc.impl_no (n a : Int) (hnr : -9223372036854775808 ≤ n ∧ n ≤ 9223372036854775807) (HR : -9223372036854775808 ≤ a ∧ a ≤ 9223372036854775807) (ht : isT n a = false) (w : World) :
    Calls Tq.prog 14 #[.agg #[.int .i64 n, .int .i64 a]] w (Spc.Out [] w) := by
  refine (Spc.twin_no #[.agg #[.int .i64 n, .int .i64 a]] #[.int .i64 n, .int .i64 a] _ _ _ _ _ _ _ _ _ _ _ _ _ rfl n a rfl rfl hnr HR ht w).mono ?_
  rintro e w' ⟨rfl, h2⟩
  exact ⟨_, rfl, ⟨rfl, .inl ⟨rfl, rfl⟩⟩, PR.below h2⟩

theorem spcL_vals (a M : Nat) : (Wk.vals (spcV a) M) = intsV (spcL a M M) := by
  simp [Wk.vals, intsV, Plain.spcL, Wk.val]

theorem Spc.impl_yes (n a : Nat) (hn : n ≤ 5) (ht : isT n a = true) (ha : (a : Int) ≤ 4294967295) (w : World) :
    Calls Tq.prog 14 #[.agg #[.int .i64 n, .int .i64 a]] w (Spc.Out (spcL a (2 ^ n) (2 ^ n)) w) := by
  have h32 := two_pow_le n hn
  refine (Spc.twin_yes #[.agg #[.int .i64 n, .int .i64 a]] #[.int .i64 n, .int .i64 a] _ _ _ _ _ _ _ _ _ _ _ _ _ rfl n a rfl rfl hn ha ht w).mono ?_
  rintro e w' ⟨rfl, h2⟩
  have hl := spcL_len a (2 ^ n) (2 ^ n)
  refine ⟨_, rfl, ⟨by simp [intsV], .inr ⟨w.heap.size + 5, 2 ^ n, Wk.rowS (spcV a) (2 ^ n) (2 ^ n), by rw [hl], by omega, h2.blk 5 _ (Spc.made_at _ _ _ _ _ _ _ _ _ _ (by omega) rfl), by omega, by unfold maxLen; omega, by rw [Wk.rowS_size]; omega, ?_⟩⟩, PR.below h2⟩
  rw [Wk.rowS_full, ← spcL_vals, hl]
  exact List.take_of_length_le (by simp [Wk.vals])
end Go.Proofs.Ytechkghnmgimbaa.Q

namespace Go.Proofs.Ytechkghnmgimbaa.Q
open Go.RowKit Go.Proofs.Ytechkghnmgimbaa.Plain Go.Proofs.Ytechkghnmgimbaa.Q.Plain
set_option linter.unusedVariables false
set_option linter.unusedSimpArgs false
attribute [local go_sem ↓] Go.wp_at_zero Go.wp_at_succ

theorem Mag.any (x : Int) (hx : -64 ≤ x ∧ x ≤ 64) (w : World) :
    Calls Tq.prog 43 #[.int .i64 x] w fun e w' => e = .returned (.int .i64 (x.natAbs : Int)) ∧ w' = w := by
  go_enter Tq.func43, Tq.ntmps43
  go_wp2
  all_goals (go_ret; exact ⟨by simp; omega, rfl⟩)

section
variable (n a : Int) (HR : -9223372036854775808 ≤ a ∧ a ≤ 9223372036854775807) (ht : isT n a = false) (w : World)
include HR ht
set_option maxRecDepth 100000 in
theorem Ben.impl_no : Calls Tq.prog 21 #[.agg #[.int .i64 n, .int .i64 a]] w fun e w' => e = .returned (.bool false) ∧ Below w.heap.size w w' := by
  have HT := Lib.hid (Tab.implX n a HR)
  have H := Lib.hid ht
  clear ht
  go_enter Tq.func21, Tq.ntmps21
  go_wp2_with fail
  refine (HT.out _).mono ?_
  rintro e w1 ⟨rfl, rfl⟩
  rw [H.out]
  go_wp2
  go_ret
  exact ⟨rfl, ((Below.refl _ _).alloc (Nat.le_refl _) _).alloc (by simp) _⟩
set_option maxRecDepth 100000 in
theorem Non.impl_no : Calls Tq.prog 19 #[.agg #[.int .i64 n, .int .i64 a]] w fun e w' => e = .returned (.int .i64 (-1)) ∧ Below w.heap.size w w' := by
  have HT := Lib.hid (Tab.implX n a HR)
  have H := Lib.hid ht
  clear ht
  go_enter Tq.func19, Tq.ntmps19
  go_wp2_with fail
  refine (HT.out _).mono ?_
  rintro e w1 ⟨rfl, rfl⟩
  rw [H.out]
  go_wp2
  go_ret
  exact ⟨rfl, ((Below.refl _ _).alloc (Nat.le_refl _) _).alloc (by simp) _⟩
set_option maxRecDepth 100000 in
theorem Cor.impl_no : Calls Tq.prog 28 #[.agg #[.int .i64 n, .int .i64 a]] w fun e w' => e = .returned (.int .i64 (-1)) ∧ Below w.heap.size w w' := by
  have HT := Lib.hid (Tab.implX n a HR)
  have H := Lib.hid ht
  clear ht
  go_enter Tq.func28, Tq.ntmps28
  go_wp2_with fail
  refine (HT.out _).mono ?_
  rintro e w1 ⟨rfl, rfl⟩
  rw [H.out]
  go_wp2
  go_ret
  exact ⟨rfl, ((Below.refl _ _).alloc (Nat.le_refl _) _).alloc (by simp) _⟩
end

section
variable (n a : Nat) (hn : n ≤ 5) (ht : isT (n : Int) (a : Int) = true) (ha : (a : Int) ≤ 4294967295) (w : World)
include hn ht ha
omit hn in
set_option maxRecDepth 100000 in
theorem Ben.impl_off (h2 : n ≠ 2) (h4 : n ≠ 4) : Calls Tq.prog 21 #[.agg #[.int .i64 n, .int .i64 a]] w fun e w' => e = .returned (.bool (bentB n a)) ∧ Below w.heap.size w w' := by
  have HT := Lib.hid (Tab.implX n a (by omega))
  have H := Lib.hid ht
  have hb : bentB n a = false := by unfold Plain.bentB; simp [h2, h4]
  have h2z : ¬ (n : Int) = 2 := by omega
  have h4z : ¬ (n : Int) = 4 := by omega
  have h2b : ((n : Int) != 2) = true := by simpa using h2z
  have h4b : ((n : Int) != 4) = true := by simpa using h4z
  rw [hb]
  clear ht hb
  go_enter Tq.func21, Tq.ntmps21
  go_wp2_with fail
  refine (HT.out _).mono ?_
  rintro e w1 ⟨rfl, rfl⟩
  rw [H.out]
  go_wp2
  go_ret
  exact ⟨rfl, ((Below.refl _ _).alloc (Nat.le_refl _) _).alloc (by simp) _⟩

set_option maxRecDepth 100000 in
set_option maxHeartbeats 2000000 in
theorem Ben.impl_on (h24 : n = 2 ∨ n = 4) : Calls Tq.prog 21 #[.agg #[.int .i64 n, .int .i64 a]] w fun e w' => e = .returned (.bool (bentB n a)) ∧ Below w.heap.size w w' := by
  have HT := Lib.hid (Tab.implX n a (by omega))
  have H := Lib.hid ht
  have HS := Lib.hid (Spc.impl_yes n a hn ht ha)
  have h32 := two_pow_le n hn
  have hpos : 0 < 2 ^ n := Nat.two_pow_pos n
  have hbent : bentB n a = flatB a (2 ^ n) (2 ^ n) := by unfold Plain.bentB; rcases h24 with rfl | rfl <;> simp
  have HM := Lib.hid (fun (x : Int) (hx : -64 ≤ x ∧ x ≤ 64) => Mag.any x hx)
  have hd : (decide (¬ (n : Int) = 2) && decide (¬ (n : Int) = 4)) = false := by rcases h24 with rfl | rfl <;> rfl
  rw [hbent]
  clear ht hbent
  generalize 2 ^ n = M at *
  go_enter Tq.func21, Tq.ntmps21
  go_wp2_with fail
  refine (HT.out _).mono ?_
  rintro e w1 ⟨rfl, rfl⟩
  rw [H.out]
  rcases h24 with rfl | rfl
  all_goals
    go_wp2_with fail
    refine (HS.out _).mono ?_
    intro e w1 hout
    obtain ⟨g, cap, rfl, hg0, hg1, hcell, hb⟩ := Spc.open_yes hout hpos
    clear hout
    have HB : Hid (Below w.heap.size w w1) := Lib.hid ((((Below.refl _ _).alloc (Nat.le_refl _) _).alloc (by simp) _).trans (hb.mono (by simp; omega)))
    have HC := Lib.hid hcell
    clear hb hcell HS
    go_wp2_with fail
    go_loopw [23] (fun i wr => ∃ k : Nat, i = .int .i64 (k : Int) ∧ k ≤ M ∧ flatB a M k = true ∧ (∀ j, j < M → wr.cell? ⟨g, j, none⟩ = some (.int .i64 (spcN a M j))) ∧ Below w.heap.size w wr) (fun i _ => M - (intOf i).toNat)
    case atStart => exact ⟨0, rfl, by omega, rfl, HC.out, HB.out⟩
    case round =>
      obtain ⟨k, rfl, hk, hfl, hcell, hbel⟩ := hrel
      have HF := Lib.hid hfl
      have HC := Lib.hid hcell
      have HB := Lib.hid hbel
      clear hfl hcell hbel
      by_cases hlt : k < M
      · have hlz : (k : Int) < (M : Int) := by omega
        have e0 := HC.out 0 hpos
        have e1 := HC.out k hlt
        have l0 := spcN_lim a M 0
        have l1 := spcN_lim a M k
        have hMz : (M : Int) ≤ 32 := by omega
        have HOFF := Lib.hid (flatB_off (a := a) (M := M) (k := k) (m := M) hlt)
        have HON := Lib.hid (flatB_on (a := a) (M := M) (k := k) HF.out)
        generalize spcN a M 0 = x0 at *
        generalize spcN a M k = x1 at *
        have K0 := Lib.hid (HM.out x0 (by omega))
        have K1 := Lib.hid (HM.out x1 (by omega))
        go_wp2
        go_quiet (first
          | (go_at_call 43; exact Calls.quiet_of_same (K1.out _))
          | (go_at_call 43; exact Calls.quiet_of_same (K0.out _)))
        by_cases hsq : x1.natAbs = x0.natAbs
        · have hon := HON.out hsq
          go_wp2
          go_roundw
          case rel => exact ⟨k + 1, by go_num, by omega, hon, HC.out, below_drewN HB.out _⟩
          case measure => simp [intOf] <;> omega
        · have hoff := HOFF.out hsq
          go_wp2
          go_ret
          exact ⟨by simp [hoff], below_drewN HB.out _⟩
      · obtain rfl : k = M := by omega
        have hlz : ¬ (k : Int) < (k : Int) := by omega
        go_wp2
        go_ret
        exact ⟨by simp [HF.out], HB.out⟩

theorem Ben.impl : Calls Tq.prog 21 #[.agg #[.int .i64 n, .int .i64 a]] w fun e w' => e = .returned (.bool (bentB n a)) ∧ Below w.heap.size w w' := by
  by_cases h2 : n = 2
  · exact Ben.impl_on n a hn ht ha w (.inl h2)
  · by_cases h4 : n = 4
    · exact Ben.impl_on n a hn ht ha w (.inr h4)
    · exact Ben.impl_off n a ht ha w h2 h4

set_option maxRecDepth 100000 in
set_option maxHeartbeats 2000000 in
theorem Non.impl : Calls Tq.prog 19 #[.agg #[.int .i64 n, .int .i64 a]] w fun e w' => e = .returned (.int .i64 (nonN n a : Int)) ∧ Below w.heap.size w w' := by
  have HT := Lib.hid (Tab.implX n a (by omega))
  have H := Lib.hid ht
  have HS := Lib.hid (Spc.impl_yes n a hn ht ha)
  have HN := Lib.hid (Tab.count n hn)
  have h32 := two_pow_le n hn
  have hpos : 0 < 2 ^ n := Nat.two_pow_pos n
  have hnon : nonN n a = (2 ^ n - grtA a (2 ^ n) (2 ^ n)) / 2 := rfl
  have HM := Lib.hid (fun (x : Int) (hx : -64 ≤ x ∧ x ≤ 64) => Mag.any x hx)
  rw [hnon]
  clear ht hnon
  generalize 2 ^ n = M at *
  go_enter Tq.func19, Tq.ntmps19
  go_wp2_with fail
  refine (HT.out _).mono ?_
  rintro e w1 ⟨rfl, rfl⟩
  rw [H.out]
  go_wp2_with fail
  refine (HS.out _).mono ?_
  intro e w1 hout
  obtain ⟨g, cap, rfl, hg0, hg1, hcell, hb⟩ := Spc.open_yes hout hpos
  clear hout
  have c0 : w1.cell? ⟨w.heap.size, 0, none⟩ = some (.int .i64 n) := (hb.cell (by simp; omega)).trans (keepA (keepN rfl rfl))
  have HB : Hid (Below w.heap.size w w1) := Lib.hid ((((Below.refl _ _).alloc (Nat.le_refl _) _).alloc (by simp) _).trans (hb.mono (by simp; omega)))
  have HC := Lib.hid hcell
  clear hb hcell HS
  go_wp2_with fail
  go_loop [3, 12] (fun s i => ∃ k : Nat, i = .int .i64 (k : Int) ∧ s = .int .i64 (grtA a M k : Int) ∧ k ≤ M) (fun _ i => M - (intOf i).toNat)
  case atStart => exact ⟨0, rfl, rfl, by omega⟩
  case round =>
    obtain ⟨k, rfl, rfl, hk⟩ := hrel
    have hgl := grtA_le a M k
    by_cases hlt : k < M
    · have hlz : (k : Int) < (M : Int) := by omega
      have e1 := HC.out k hlt
      have l1 := spcN_lim a M k
      have HG : Hid (grtA a M (k + 1) = max (grtA a M k) (spcN a M k).natAbs) := Lib.hid rfl
      generalize hG1 : grtA a M (k + 1) = G1 at *
      generalize grtA a M k = G0 at *
      generalize spcN a M k = x1 at *
      have K1 := Lib.hid (HM.out x1 (by omega))
      go_wp2_with fail
      refine (K1.out _).mono ?_
      rintro e w2 ⟨rfl, rfl⟩
      go_wp2_with fail
      all_goals exact ⟨⟨k + 1, by go_num, by rw [hG1, HG.out]; congr 1; omega, by omega⟩, by simp [intOf] <;> omega⟩
    · obtain rfl : k = M := by omega
      have hlz : ¬ (k : Int) < (k : Int) := by omega
      generalize hG : grtA a k k = G0 at *
      have hdiv : ((k : Int) - (G0 : Int)).tdiv 2 = (((k - G0) / 2 : Nat) : Int) := by rw [Int.tdiv_eq_ediv_of_nonneg (by omega)]; omega
      go_wp2_with fail
      refine (HN.out _).mono ?_
      rintro e w2 ⟨rfl, rfl⟩
      go_wp2
      go_ret
      exact ⟨by simp [hdiv, hG], HB.out⟩

set_option maxRecDepth 100000 in
set_option maxHeartbeats 2000000 in
theorem Cor.impl : Calls Tq.prog 28 #[.agg #[.int .i64 n, .int .i64 a]] w fun e w' => e = .returned (.int .i64 (corN n a (2 ^ n) (2 ^ n) : Int)) ∧ Below w.heap.size w w' := by
  have HT := Lib.hid (Tab.implX n a (by omega))
  have H := Lib.hid ht
  have HS := Lib.hid (Spc.impl_yes n a hn ht ha)
  have h32 := two_pow_le n hn
  have hpos : 0 < 2 ^ n := Nat.two_pow_pos n
  have HP := Lib.hid (fun (v : Nat) (hv : (v : Int) ≤ 4294967295) => SetSize.any v hv)
  have hnz : (n : Int) ≤ 5 := by omega
  clear ht
  generalize 2 ^ n = M at *
  go_enter Tq.func28, Tq.ntmps28
  go_wp2_with fail
  refine (HT.out _).mono ?_
  rintro e w1 ⟨rfl, rfl⟩
  rw [H.out]
  go_wp2_with fail
  refine (HS.out _).mono ?_
  intro e w1 hout
  obtain ⟨g, cap, rfl, hg0, hg1, hcell, hb⟩ := Spc.open_yes hout hpos
  clear hout
  have HB : Hid (Below w.heap.size w w1) := Lib.hid ((((Below.refl _ _).alloc (Nat.le_refl _) _).alloc (by simp) _).trans (hb.mono (by simp; omega)))
  have HC := Lib.hid hcell
  clear hb hcell HS
  go_wp2_with fail
  go_loop [3, 15] (fun s i => ∃ k : Nat, i = .int .i64 (k : Int) ∧ s = .int .i64 (corN n a M k + 1 : Int) ∧ k ≤ M) (fun _ i => M - (intOf i).toNat)
  case atStart => exact ⟨0, rfl, rfl, by omega⟩
  case round =>
    obtain ⟨k, rfl, rfl, hk⟩ := hrel
    have hgl := corN_le n a M k
    by_cases hlt : k < M
    · have hlz : (k : Int) < (M : Int) := by omega
      have e1 := HC.out k hlt
      have HON := Lib.hid (fun h0 => corN_on (n := n) (a := a) (M := M) (k := k) h0)
      have HOFF := Lib.hid (corN_off (n := n) (a := a) (M := M) (k := k))
      have hpl := popN_lim k (by omega)
      have HPP := Lib.hid (pop_pos k)
      have HK := Lib.hid (HP.out k (by omega))
      have l1 := spcN_lim a M k
      have H1 : Hid (k = 0 → corN n a M (k + 1) = corN n a M k) := Lib.hid (fun h => by subst h; exact corN_one n a M)
      generalize hG1 : corN n a M (k + 1) = G1 at *
      generalize corN n a M k = G0 at *
      generalize popN k = q at *
      generalize spcN a M k = x1 at *
      by_cases h0 : k = 0
      · have hoff := H1.out h0
        subst h0
        go_wp2
        exact ⟨⟨0 + 1, by go_num, by rw [hG1, hoff], by omega⟩, by simp [intOf] <;> omega⟩
      · have h0z : ¬ (k : Int) = 0 := by omega
        by_cases hz : x1 = 0
        · have hoff := HOFF.out hz
          subst hz
          go_wp2
          exact ⟨⟨k + 1, by go_num, by rw [hG1, hoff], by omega⟩, by simp [intOf] <;> omega⟩
        · have HO := Lib.hid (HON.out h0 hz)
          have hpp := HPP.out h0
          have h0b : ((k : Int) != 0) = true := by simpa using h0
          have hzb : (x1 != 0) = true := by simpa using hz
          go_wp2_with fail
          refine (HK.out _).mono ?_
          rintro e w2 ⟨rfl, rfl⟩
          go_wp2_with fail
          all_goals exact ⟨⟨k + 1, by go_num, by rw [hG1, HO.out]; congr 1; omega, by omega⟩, by simp [intOf] <;> omega⟩
    · obtain rfl : k = M := by omega
      have hlz : ¬ (k : Int) < (k : Int) := by omega
      generalize hG : corN n a k k = G0 at *
      go_wp2
      go_ret
      exact ⟨by simp [hG], HB.out⟩
end
end Go.Proofs.Ytechkghnmgimbaa.Q

namespace Go.Proofs.Ytechkghnmgimbaa.Q
open Go.RowKit Go.Proofs.Ytechkghnmgimbaa.Plain Go.Proofs.Ytechkghnmgimbaa.Q.Plain
set_option linter.unusedVariables false

def Plain.benZ (n a : Int) : Bool := if isT n a = true then bentB n.toNat a.toNat else false
def Plain.nonZ (n a : Int) : Int := if isT n a = true then (nonN n.toNat a.toNat : Int) else -1
def Plain.corZ (n a : Int) : Int := if isT n a = true then (corN n.toNat a.toNat (2 ^ n.toNat) (2 ^ n.toNat) : Int) else -1
def Plain.spcZ (n a : Int) : List Int := if isT n a = true then spcL a.toNat (2 ^ n.toNat) (2 ^ n.toNat) else []

theorem full_lim {n a : Nat} (hn : n ≤ 5) (h : a ≤ fullN n) : (a : Int) ≤ 4294967295 := by
  have := fullN_le n hn; omega

theorem Ben.modelZ (n a : Int) (w : World) :
    Calls Tq.prog 20 #[.agg #[.int .i64 n, .int .i64 a]] w fun e w' => e = .returned (.bool (benZ n a)) ∧ Below w.heap.size w w' := by
  cases ht : isT n a with
  | false => rw [show benZ n a = false by simp [Plain.benZ, ht]]; exact Ben.model_no n a ht w
  | true =>
    obtain ⟨n, a, rfl, rfl, hn, ha⟩ := isT_nat ht
    rw [show benZ n a = bentB n a by simp [Plain.benZ, ht]]
    exact Ben.model_yes n a hn ht (full_lim hn ha) w
theorem Ben.implZ (n a : Int) (HR : -9223372036854775808 ≤ a ∧ a ≤ 9223372036854775807) (w : World) :
    Calls Tq.prog 21 #[.agg #[.int .i64 n, .int .i64 a]] w fun e w' => e = .returned (.bool (benZ n a)) ∧ Below w.heap.size w w' := by
  cases ht : isT n a with
  | false => rw [show benZ n a = false by simp [Plain.benZ, ht]]; exact Ben.impl_no n a HR ht w
  | true =>
    obtain ⟨n, a, rfl, rfl, hn, ha⟩ := isT_nat ht
    rw [show benZ n a = bentB n a by simp [Plain.benZ, ht]]
    exact Ben.impl n a hn ht (full_lim hn ha) w

theorem Non.modelZ (n a : Int) (w : World) :
    Calls Tq.prog 18 #[.agg #[.int .i64 n, .int .i64 a]] w fun e w' => e = .returned (.int .i64 (nonZ n a)) ∧ Below w.heap.size w w' := by
  cases ht : isT n a with
  | false => rw [show nonZ n a = -1 by simp [Plain.nonZ, ht]]; exact Non.model_no n a ht w
  | true =>
    obtain ⟨n, a, rfl, rfl, hn, ha⟩ := isT_nat ht
    rw [show nonZ n a = nonN n a by simp [Plain.nonZ, ht]]
    exact Non.model_yes n a hn ht (full_lim hn ha) w
theorem Non.implZ (n a : Int) (HR : -9223372036854775808 ≤ a ∧ a ≤ 9223372036854775807) (w : World) :
    Calls Tq.prog 19 #[.agg #[.int .i64 n, .int .i64 a]] w fun e w' => e = .returned (.int .i64 (nonZ n a)) ∧ Below w.heap.size w w' := by
  cases ht : isT n a with
  | false => rw [show nonZ n a = -1 by simp [Plain.nonZ, ht]]; exact Non.impl_no n a HR ht w
  | true =>
    obtain ⟨n, a, rfl, rfl, hn, ha⟩ := isT_nat ht
    rw [show nonZ n a = nonN n a by simp [Plain.nonZ, ht]]
    exact Non.impl n a hn ht (full_lim hn ha) w

theorem Cor.modelZ (n a : Int) (w : World) :
    Calls Tq.prog 27 #[.agg #[.int .i64 n, .int .i64 a]] w fun e w' => e = .returned (.int .i64 (corZ n a)) ∧ Below w.heap.size w w' := by
  cases ht : isT n a with
  | false => rw [show corZ n a = -1 by simp [Plain.corZ, ht]]; exact Cor.model_no n a ht w
  | true =>
    obtain ⟨n, a, rfl, rfl, hn, ha⟩ := isT_nat ht
    rw [show corZ n a = corN n a (2 ^ n) (2 ^ n) by simp [Plain.corZ, ht]]
    exact Cor.model_yes n a hn ht (full_lim hn ha) w
theorem Cor.implZ (n a : Int) (HR : -9223372036854775808 ≤ a ∧ a ≤ 9223372036854775807) (w : World) :
    Calls Tq.prog 28 #[.agg #[.int .i64 n, .int .i64 a]] w fun e w' => e = .returned (.int .i64 (corZ n a)) ∧ Below w.heap.size w w' := by
  cases ht : isT n a with
  | false => rw [show corZ n a = -1 by simp [Plain.corZ, ht]]; exact Cor.impl_no n a HR ht w
  | true =>
    obtain ⟨n, a, rfl, rfl, hn, ha⟩ := isT_nat ht
    rw [show corZ n a = corN n a (2 ^ n) (2 ^ n) by simp [Plain.corZ, ht]]
    exact Cor.impl n a hn ht (full_lim hn ha) w

theorem spcZ_len (n a : Int) : (spcZ n a).length ≤ 32 := by
  unfold Plain.spcZ
  split
  · next ht =>
    obtain ⟨n, a, rfl, rfl, hn, ha⟩ := isT_nat ht
    rw [spcL_len]
    have := two_pow_le n hn
    simpa using this
  · simp
theorem spcZ_lim (n a : Int) : ∀ x ∈ spcZ n a, -9223372036854775808 ≤ x ∧ x ≤ 9223372036854775807 := by
  intro x hx
  unfold Plain.spcZ at hx
  split at hx
  · next ht =>
    obtain ⟨n, a, rfl, rfl, hn, ha⟩ := isT_nat ht
    have h2 := two_pow_le n hn
    simp only [Plain.spcL, List.mem_map, List.mem_range, Int.toNat_natCast] at hx
    obtain ⟨u, _, rfl⟩ := hx
    have := spcN_lim a (2 ^ n) u
    unfold Plain.spcN at this
    omega
  · simp at hx
theorem Spc.modelZ (n a : Int) (w : World) :
    Calls Tq.prog 12 #[.agg #[.int .i64 n, .int .i64 a]] w (Spc.Out (spcZ n a) w) := by
  cases ht : isT n a with
  | false => rw [show spcZ n a = [] by simp [Plain.spcZ, ht]]; exact Spc.model_no n a ht w
  | true =>
    obtain ⟨n, a, rfl, rfl, hn, ha⟩ := isT_nat ht
    rw [show spcZ n a = spcL a (2 ^ n) (2 ^ n) by simp [Plain.spcZ, ht]]
    exact Spc.model_yes n a hn ht (full_lim hn ha) w
theorem Spc.implZ (n a : Int) (hnr : -9223372036854775808 ≤ n ∧ n ≤ 9223372036854775807) (HR : -9223372036854775808 ≤ a ∧ a ≤ 9223372036854775807) (w : World) :
    Calls Tq.prog 14 #[.agg #[.int .i64 n, .int .i64 a]] w (Spc.Out (spcZ n a) w) := by
  cases ht : isT n a with
  | false => rw [show spcZ n a = [] by simp [Plain.spcZ, ht]]; exact Spc.impl_no n a hnr HR ht w
  | true =>
    obtain ⟨n, a, rfl, rfl, hn, ha⟩ := isT_nat ht
    rw [show spcZ n a = spcL a (2 ^ n) (2 ^ n) by simp [Plain.spcZ, ht]]
    exact Spc.impl_yes n a hn ht (full_lim hn ha) w
end Go.Proofs.Ytechkghnmgimbaa.Q
