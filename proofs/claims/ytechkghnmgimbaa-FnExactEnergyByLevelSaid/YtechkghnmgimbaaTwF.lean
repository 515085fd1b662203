/-
  Over the twin: EnergyByLevel of both.
-/
import Derived.Test.YtechkghnmgimbaaTwC
import Derived.Test.YtechkghnmgimbaaQSpcF
import Derived.Deep.RegionWith
namespace Go.Proofs.Ytechkghnmgimbaa.Q
open Go.RowKit Go.Proofs.Ytechkghnmgimbaa.Plain Go.Proofs.Ytechkghnmgimbaa.Q.Plain
set_option linter.unusedVariables false
set_option linter.unusedSimpArgs false
attribute [local go_sem ↓] Go.wp_at_zero Go.wp_at_succ
attribute [local go_sem] undef

set_option maxRecDepth 100000 in
theorem Eng.impl_no (n a : Int) (HR : -9223372036854775808 ≤ a ∧ a ≤ 9223372036854775807) (ht : isT n a = false) (w : World) :
    Calls Tq.prog 30 #[.agg #[.int .i64 n, .int .i64 a]] w (Spc.Out [] w) := by
  have HT := Lib.hid (Tab.implX n a HR)
  have H := Lib.hid ht
  clear ht
  go_enter Tq.func30, Tq.ntmps30
  go_wp2_with fail
  refine (HT.out _).mono ?_
  rintro e w1 ⟨rfl, rfl⟩
  rw [H.out]
  go_wp2
  go_ret
  exact ⟨_, rfl, ⟨rfl, .inl ⟨rfl, rfl⟩⟩, ((Below.refl _ _).alloc (Nat.le_refl _) _).alloc (by simp) _⟩

set_option maxRecDepth 100000 in
set_option maxHeartbeats 4000000 in
theorem Eng.impl_yes (n a : Nat) (hn : n ≤ 5) (ht : isT (n : Int) (a : Int) = true) (ha : (a : Int) ≤ 4294967295) (w : World) :
    Calls Tq.prog 30 #[.agg #[.int .i64 n, .int .i64 a]] w (Spc.Out (engL n a (2 ^ n) (2 ^ n)) w) := by
  have HT := Lib.hid (Tab.implX n a (by omega))
  have H := Lib.hid ht
  have HS := Lib.hid (Spc.impl_yes n a hn ht ha)
  have h32 := two_pow_le n hn
  have hpos : 0 < 2 ^ n := Nat.two_pow_pos n
  have HP := Lib.hid (fun (v : Nat) (hv : (v : Int) ≤ 4294967295) => SetSize.any v hv)
  have HPL := Lib.hid (fun (k : Nat) (hk : k < 2 ^ n) => popN_le n k hk)
  have hnz : (n : Int) ≤ 5 := by omega
  obtain ⟨i0, hi, hz0, hz1, hz2⟩ := info_parts info_int
  clear ht
  generalize 2 ^ n = M at *
  go_enter Tq.func30, Tq.ntmps30
  go_wp2_with fail
  refine (HT.out _).mono ?_
  rintro e w1 ⟨rfl, hw1⟩
  rw [H.out]
  have c0 : w1.cell? ⟨w.heap.size, 0, none⟩ = some (.int .i64 n) := by rw [← hw1]; exact keepA (keepN rfl rfl)
  have c1 : w1.cell? ⟨w.heap.size, 1, none⟩ = some (.int .i64 a) := by rw [← hw1]; exact keepA (keepN rfl rfl)
  have hsz : w.heap.size + 2 = w1.heap.size := by rw [← hw1]; simp
  have HB : Hid (Below w.heap.size w w1) := Lib.hid (by rw [← hw1]; exact ((Below.refl _ _).alloc (Nat.le_refl _) _).alloc (by simp) _)
  clear hw1
  go_wp2_with (at_make; go_must (refine wpList_make_full _ rfl _ _ 24 rfl w1.heap.size 3 i0 (.int .i64 0) 1 Tq.underlying24 hi hz0 hz1 _ _ _ _ (n + 1) rfl rfl rfl rfl (by rw [hz2]; omega) (by unfold maxLen; omega) (Nat.le_refl _) ?_; intro w2 hown hgrow; have d0 : w2.cell? ⟨w.heap.size, 0, none⟩ = some (.int .i64 n) := hgrow.cell c0 (by simp); have d1 : w2.cell? ⟨w.heap.size, 1, none⟩ = some (.int .i64 a) := hgrow.cell c1 (by simp)))
  have HR0 : Hid (IntRow w2 w1.heap.size (.slice (some ⟨w1.heap.size, 0, none⟩) (n + 1) (n + 1)) (engL n a M 0)) := Lib.hid (by rw [engL_zero]; exact IntRow.made hown)
  have hz2' := hgrow.size
  have HB2 := Lib.hid (HB.out.grown hgrow (by omega) (fun _ h => by cases h))
  have hlt1 : w1.heap.size < w2.heap.size := (HR0.out.lt _ rfl).2
  clear hown hgrow hi hz0 hz1 hz2 c0 c1
  refine (HS.out _).mono ?_
  intro e w3 hout
  obtain ⟨g, cap, rfl, hg0, hg1, hcell, hb⟩ := Spc.open_yes hout hpos
  have HR1 := Lib.hid (HR0.out.below hb)
  have HB3 := Lib.hid (HB2.out.trans (hb.mono (by omega)))
  have HC := Lib.hid hcell
  have hz3 := hb.size
  have hMz : (M : Int) ≤ 32 := by omega
  clear hout hb hcell HS
  go_wp2_with fail
  go_loopw [16] (fun i wr => ∃ k : Nat, i = .int .i64 (k : Int) ∧ k ≤ M ∧ IntRow wr w1.heap.size (.slice (some ⟨w1.heap.size, 0, none⟩) (n + 1) (n + 1)) (engL n a M k) ∧ (∀ j, j < M → wr.cell? ⟨g, j, none⟩ = some (.int .i64 (spcN a M j))) ∧ Below w.heap.size w wr) (fun i _ => M - (intOf i).toNat)
  case atStart => exact ⟨0, rfl, by omega, HR1.out, HC.out, HB3.out⟩
  case round =>
    obtain ⟨k, rfl, hk, hrow, hcell, hbel⟩ := hrel
    have HR := Lib.hid hrow
    have HC := Lib.hid hcell
    have HB := Lib.hid hbel
    clear hrow hcell hbel
    by_cases hlt : k < M
    · have hlz : (k : Int) < (M : Int) := by omega
      have hq := HPL.out k hlt
      have hrow := HR.out
      have hcl := IntRow.cell (w := wr) (B := w1.heap.size) (g := w1.heap.size) (cap := n + 1) (l := engL n a M k) (by rw [engL_len]; exact hrow) (popN k) (by rw [engL_len]; omega)
      have hfr := IntRow.free (w := wr) (B := w1.heap.size) (g := w1.heap.size) (cap := n + 1) (l := engL n a M k) (by rw [engL_len]; exact hrow) (popN k)
      have hst := hrow.store (engL_len n a M k) (popN k) (enA a M (popN k) k + spcN a M k * spcN a M k)
      rw [← engL_succ] at hst
      rw [engL_getD hq] at hcl
      have HST := Lib.hid hst.1
      have e1 := HC.out k hlt
      have l1 := sq_lim (spcN_lim a M k) hMz
      have l2 := enA_lim (a := a) hMz (popN k) k
      have HK := Lib.hid (HP.out k (by omega))
      have HCS : Hid (∀ v : Value, ∀ j, j < M → (wr.setCell ⟨w1.heap.size, popN k, none⟩ v).cell? ⟨g, j, none⟩ = some (.int .i64 (spcN a M j))) := Lib.hid (fun v j hj => keepS (by simp; omega) (HC.out j hj))
      generalize spcN a M k = x1 at e1 l1 HST
      generalize enA a M (popN k) k = y1 at hcl l2 HST
      generalize popN k = q at *
      generalize hX : x1 * x1 = X1 at *
      have hql : (q : Int) ≤ (n : Int) := by omega
      have hkz : (k : Int) ≤ 32 := by omega
      have HBS : Hid (∀ v : Value, Below w.heap.size w (wr.setCell ⟨w1.heap.size, q, none⟩ v)) := Lib.hid (fun v => bS (by simp; omega) HB.out)
      clear hrow hst HPL
      go_wp2_with fail
      refine (HK.out _).mono ?_
      rintro e w4 ⟨rfl, rfl⟩
      go_wp2
      go_roundw
      case rel => exact ⟨k + 1, by go_num, by omega, HST.out, HCS.out _, HBS.out _⟩
      case measure => simp [intOf] <;> omega
    · obtain rfl : k = M := by omega
      have hlz : ¬ (k : Int) < (k : Int) := by omega
      go_wp2
      go_ret
      exact ⟨_, rfl, HR.out.base (by omega), HB.out⟩

def Plain.engZ (n a : Int) : List Int := if isT n a = true then engL n.toNat a.toNat (2 ^ n.toNat) (2 ^ n.toNat) else []
theorem engZ_len (n a : Int) : (engZ n a).length ≤ 6 := by
  unfold Plain.engZ
  split
  · next ht =>
    obtain ⟨n, a, rfl, rfl, hn, ha⟩ := isT_nat ht
    rw [engL_len]
    simpa using hn
  · simp
theorem engZ_lim (n a : Int) : ∀ x ∈ engZ n a, -9223372036854775808 ≤ x ∧ x ≤ 9223372036854775807 := by
  unfold Plain.engZ
  split
  · next ht =>
    obtain ⟨n, a, rfl, rfl, hn, ha⟩ := isT_nat ht
    have h2 := two_pow_le n hn
    simp only [Int.toNat_natCast]
    exact engL_mem (by omega) _ (by omega)
  · simp
theorem Eng.modelZ (n a : Int) (w : World) :
    Calls Tq.prog 29 #[.agg #[.int .i64 n, .int .i64 a]] w (Spc.Out (engZ n a) w) := by
  cases ht : isT n a with
  | false => rw [show engZ n a = [] by simp [Plain.engZ, ht]]; exact Eng.model_no n a ht w
  | true =>
    obtain ⟨n, a, rfl, rfl, hn, ha⟩ := isT_nat ht
    rw [show engZ n a = engL n a (2 ^ n) (2 ^ n) by simp [Plain.engZ, ht]]
    exact Eng.model_yes n a hn ht (full_lim hn ha) w
theorem Eng.implZ (n a : Int) (HR : -9223372036854775808 ≤ a ∧ a ≤ 9223372036854775807) (w : World) :
    Calls Tq.prog 30 #[.agg #[.int .i64 n, .int .i64 a]] w (Spc.Out (engZ n a) w) := by
  cases ht : isT n a with
  | false => rw [show engZ n a = [] by simp [Plain.engZ, ht]]; exact Eng.impl_no n a HR ht w
  | true =>
    obtain ⟨n, a, rfl, rfl, hn, ha⟩ := isT_nat ht
    rw [show engZ n a = engL n a (2 ^ n) (2 ^ n) by simp [Plain.engZ, ht]]
    exact Eng.impl_yes n a hn ht (full_lim hn ha) w
end Go.Proofs.Ytechkghnmgimbaa.Q
