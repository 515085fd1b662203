/-
  Chapter 15, the model: l15Monotone, IsMonotone, MonotoneHull, CountMonotone, DualTable, IsSelfDual.
-/
import Derived.Test.YtlmhdocfdpbhmaaMonP
import Derived.Test.YtlmhdocfdpbhmaaTabK
import Derived.Test.YtlmhdocfdpbhmaaTabI
import Derived.Test.YtlmhdocfdpbhmaaResH
import Derived.Test.YtlmhdocfdpbhmaaResE
import Derived.Test.YtlmhdocfdpbhmaaMonI
import Derived.Deep.RegionHeld3
import Derived.Deep.RegionWith
namespace Go.Proofs.Ytlmhdocfdpbhmaa
open Go.RowKit Plain
set_option linter.unusedVariables false
set_option linter.unusedSimpArgs false
attribute [local go_sem ↓] Go.wp_at_zero Go.wp_at_succ

theorem run_word (x y : Int) (w : World) : (Instr.field 27 (.agg #[.int .i64 x, .int .i64 y]) 1).run Try.prog w = .ok (.int .i64 y) w := by kernel_rfl
attribute [local go_sem] run_word

/-- What is asked of the first k variables. -/
def Plain.varOk (n a i : Nat) : Prop := restW n a i 0 &&& restW n a i 1 = restW n a i 0
theorem mon_yes {n a : Nat} (hn : n ≤ 5) (h : ∀ i, i < n → varOk n a i) : monB n a = true :=
  monB_iff.2 fun x hx i hi hb => (mon_var n a i hn hi).1 (h i hi) x hx hb
theorem mon_no {n a i : Nat} (hn : n ≤ 5) (hi : i < n) (h : ¬ varOk n a i) : monB n a = false := by
  cases hm : monB n a with
  | false => rfl
  | true => exact absurd ((mon_var n a i hn hi).2 fun x hx hb => monB_iff.1 hm x hx i hi hb) h

set_option maxRecDepth 100000 in
set_option maxHeartbeats 2000000 in
theorem L15.mon (n a : Nat) (hn : n ≤ 5) (ha : (a : Int) ≤ 4294967295) (w : World) :
    Calls Try.prog 86 #[.agg #[.int .i64 n, .int .i64 a]] w fun e w' => e = .returned (.bool (monB n a)) ∧ Below w.heap.size w w' := by
  have hn5 : (n : Int) ≤ 5 := by omega
  have HY := Lib.hid (mon_yes (n := n) (a := a) hn)
  have HNO := Lib.hid (fun i => mon_no (n := n) (a := a) (i := i) hn)
  have HR := Lib.hid (fun (i b : Nat) (hi : (i : Int) ≤ (n : Int) - 1) (hb : b < 2) => Tab.resM_loop n a i b hn ha hi hb)
  have HBD := Lib.hid (fun i b => restW_bound n a i b hn)
  clear hn ha
  go_enter Try.func86, Try.ntmps86
  go_wp2_with fail
  go_loopw [3, 4, 5] (fun i _ _ wr => ∃ k : Nat, i = .int .i64 (k : Int) ∧ k ≤ n ∧ (∀ j, j < k → varOk n a j) ∧ wr.heap[w.heap.size]? = some (.cells #[.int .i64 n, .int .i64 a] 27 (0, 0)) ∧ Below w.heap.size w wr) (fun i _ _ _ => n - (intOf i).toNat)
  case atStart => exact ⟨0, rfl, by omega, fun j hj => absurd hj (by omega), heap_alloc_new w _, bA (Nat.le_refl _) (Below.refl _ _)⟩
  case round =>
    obtain ⟨k, rfl, hk, hok, hblk, hbel⟩ := hrel
    obtain ⟨c0, c1, f0, f1⟩ := cells2 hblk
    have HOK := Lib.hid hok
    have HBLK := Lib.hid hblk
    have HBEL := Lib.hid hbel
    have hlz : w.heap.size < wr.heap.size := lt_of_block hblk
    clear hok hblk hbel
    by_cases hlt : k < n
    · have hkn : (k : Int) < (n : Int) := by omega
      have H0 := Lib.hid (HR.out k 0 (by omega) (by decide))
      have H1 := Lib.hid (HR.out k 1 (by omega) (by decide))
      go_wp2_with fail
      refine (H0.out _).mono ?_
      rintro e w2 ⟨rfl, hb2⟩
      have HBLK2 := Lib.hid (blockOn HBLK.out hb2)
      have HB2 := Lib.hid (bB hb2 (by omega) HBEL.out)
      obtain ⟨d0, d1, g0, g1⟩ := cells2 HBLK2.out
      have hlz2 : w.heap.size < w2.heap.size := lt_of_block HBLK2.out
      clear hb2 c0 c1 f0 f1
      go_wp2_with fail
      refine (H1.out _).mono ?_
      rintro e w3 ⟨rfl, hb3⟩
      have HBLK3 := Lib.hid (blockOn HBLK2.out hb3)
      have HB3 := Lib.hid (bB hb3 (by omega) HB2.out)
      clear hb3 d0 d1 g0 g1
      have b0 := HBD.out k 0
      have b1 := HBD.out k 1
      have hand := and64 (restW n a k 0) (restW n a k 1) (by omega) (by omega)
      by_cases hv : varOk n a k
      · have HV := Lib.hid hv
        have he : ((restW n a k 0 &&& restW n a k 1 : Nat) : Int) = (restW n a k 0 : Int) := by exact_mod_cast hv
        rw [he] at hand
        clear hv he
        go_wp2_with fail
        go_roundw
        case rel =>
          refine ⟨k + 1, by go_num, by omega, fun j hj => ?_, HBLK3.out, HB3.out⟩
          by_cases e : j = k
          · rw [e]; exact HV.out
          · exact HOK.out j (by omega)
        case measure => simp [intOf] <;> omega
      · have HV := Lib.hid (HNO.out k hlt hv)
        have hne : ¬ ((restW n a k 0 &&& restW n a k 1 : Nat) : Int) = (restW n a k 0 : Int) := by
          intro q
          exact hv (by unfold Plain.varOk; exact_mod_cast q)
        clear hv
        go_wp2
        go_ret
        exact ⟨by rw [HV.out]; rfl, HB3.out⟩
    · obtain rfl : k = n := by omega
      have HV := Lib.hid (HY.out HOK.out)
      go_wp2
      go_ret
      exact ⟨by rw [HV.out]; rfl, HBEL.out⟩

/-- IsMonotone of the model. -/
theorem Mon.model (n a : Int) (w : World) :
    Calls Try.prog 40 #[.agg #[.int .i64 n, .int .i64 a]] w fun e w' => e = .returned (.bool (monT n a)) ∧ Below w.heap.size w w' := by
  cases ht : isT n a with
  | false =>
    have H := Lib.hid ht
    have HM : Hid (monT n a = false) := Lib.hid (by unfold Plain.monT; rw [ht]; rfl)
    clear ht
    go_enter Try.func40, Try.ntmps40
    go_wp2_with fail
    refine (Tab.model _ _ _).mono ?_
    rintro e w1 ⟨rfl, hb1⟩
    rw [H.out]
    go_wp2
    go_ret
    exact ⟨by rw [HM.out]; rfl, bB hb1 (by simp) (bA (Nat.le_refl _) (Below.refl _ _))⟩
  | true =>
    obtain ⟨n, a, rfl, rfl, hn, ha⟩ := isT_nat ht
    have H := Lib.hid ht
    have HM : Hid (monT n a = monB n a) := Lib.hid (by unfold Plain.monT; rw [ht]; simp)
    have HL := Lib.hid (L15.mon n a hn (by have := fullN_le n hn; omega))
    rw [HM.out]
    clear ht ha hn HM
    go_enter Try.func40, Try.ntmps40
    go_wp2_with fail
    refine (Tab.model _ _ _).mono ?_
    rintro e w1 ⟨rfl, hb1⟩
    obtain ⟨c0, c1, f0, f1⟩ := cells2 (blockOn (heap_alloc_new w _) hb1)
    have HB1 := Lib.hid (bB hb1 (by simp) (bA (Nat.le_refl _) (Below.refl w.heap.size w)))
    have hs1 := HB1.out.size
    clear hb1
    rw [H.out]
    go_wp2_with fail
    refine (HL.out _).mono ?_
    rintro e w2 ⟨rfl, hb2⟩
    go_wp2
    go_ret
    exact ⟨by rfl, bB hb2 hs1 HB1.out⟩
end Go.Proofs.Ytlmhdocfdpbhmaa

namespace Go.Proofs.Ytlmhdocfdpbhmaa
open Go.RowKit Plain
set_option linter.unusedVariables false
set_option linter.unusedSimpArgs false
attribute [local go_sem ↓] Go.wp_at_zero Go.wp_at_succ

theorem Hul.model_no (n a : Int) (ht : isT n a = false) (w : World) :
    Calls Try.prog 46 #[.agg #[.int .i64 n, .int .i64 a]] w fun e w' => e = .returned (.tuple #[.agg #[.int .i64 0, .int .i64 0], .bool false]) ∧ Below w.heap.size w w' := by
  have H := Lib.hid ht
  clear ht
  go_enter Try.func46, Try.ntmps46
  go_wp2_with fail
  refine (Tab.model _ _ _).mono ?_
  rintro e w1 ⟨rfl, hb1⟩
  obtain ⟨hc1, hf1⟩ := bcell hb1
  have hz : w.heap.size + 1 < w1.heap.size := by have := hb1.size; simp at this; omega
  rw [H.out]
  go_wp2
  exact bodyPost_ret (v := .tuple #[.agg #[.int .i64 0, .int .i64 0], .bool false]) (by simp [results, Try.results46, go_sem, hc1]) rfl ⟨rfl, by exact (((((Below.refl _ _).alloc (Nat.le_refl _) _).alloc (by simp) _).trans (hb1.mono (by simp; omega))).setCell (by simp) _).setCell (by simp) _⟩

theorem pow31 (x : Nat) (hx : x ≤ 31) : ((2 ^ (x + 1) : Nat) : Int) ≤ 4294967296 := by
  have h : 2 ^ (x + 1) ≤ 2 ^ 32 := Nat.pow_le_pow_right (by decide) (by omega)
  omega

set_option maxRecDepth 100000 in
set_option maxHeartbeats 2000000 in
theorem Hul.model_yes (n a : Nat) (hn : n ≤ 5) (ht : isT n a = true) (ha : (a : Int) ≤ 4294967295) (w : World) :
    Calls Try.prog 46 #[.agg #[.int .i64 n, .int .i64 a]] w fun e w' => e = .returned (.tuple #[.agg #[.int .i64 n, .int .i64 (hulW n a : Int)], .bool true]) ∧ Below w.heap.size w w' := by
  have H := Lib.hid ht
  have hn5 : (n : Int) ≤ 5 := by omega
  have h32 := two_pow_le n hn
  obtain ⟨hsh1, hsh2, _⟩ := shl_at n (by omega)
  obtain ⟨M, hM⟩ : ∃ M, 2 ^ n = M := ⟨_, rfl⟩
  rw [hM] at h32 hsh1 hsh2
  have HM := Lib.hid (show tabN (hulV a) M = hulW n a by rw [← hM]; rfl)
  clear hM ht hn
  go_enter Try.func46, Try.ntmps46
  go_wp2_with fail
  refine (Tab.model _ _ _).mono ?_
  rintro e w1 ⟨rfl, hb1⟩
  rw [H.out]
  have hz : w.heap.size + 2 ≤ w1.heap.size := by simpa using hb1.size
  have HT := Lib.hid (blockOn (b := w.heap.size) (heap_alloc2_old w _ _) hb1)
  have HZ := Lib.hid (blockOn (b := w.heap.size + 1) (heap_alloc2_new w _ _) hb1)
  have HB1 := Lib.hid (bB hb1 (by simp; omega) (bA (by simp) (bA (Nat.le_refl _) (Below.refl w.heap.size w))))
  clear hb1
  obtain ⟨c0, c1, f0, f1⟩ := cells2 HT.out
  obtain ⟨z0, z1, g0, g1⟩ := cells2 HZ.out
  go_wp2_with fail
  go_loopw [4, 5, 6] (fun acc x _ wr => ∃ k : Nat, x = .int .i64 (k : Int) ∧ k ≤ M ∧ acc = .int .i64 (tabN (hulV a) k : Int) ∧ w1 = wr) (fun _ x _ _ => M - (intOf x).toNat)
  case atStart => exact ⟨0, rfl, by omega, rfl, rfl⟩
  case round =>
    obtain ⟨k, rfl, hk, rfl, rfl⟩ := hrel
    by_cases hlt : k < M
    · have hkz : (k : Int) < (M : Int) := by omega
      have HS := Lib.hid (hulA_start a k)
      have HE := Lib.hid (hulA_end a k)
      go_wp2_with fail
      go_loopw [4, 6] (fun acc y wr => ∃ j : Nat, y = .int .i64 (j : Int) ∧ j ≤ k + 1 ∧ acc = .int .i64 (hulA a k j : Int) ∧ w1 = wr) (fun _ y _ => k + 1 - (intOf y).toNat)
      case atStart => exact ⟨0, rfl, by omega, by rw [HS.out], rfl⟩
      case round =>
        obtain ⟨j, rfl, hj, rfl, rfl⟩ := hrel
        by_cases hjl : j < k + 1
        · have hjz : (j : Int) ≤ (k : Int) := by omega
          have hand := and64 j k (by omega) (by omega)
          have hal := hulA_lt a k j
          have hp31 := pow31 k (by omega)
          have hor := orbit_i64 (hulA a k j) k (by omega) (by omega)
          have hbt := bit_i64 a j (by omega)
          by_cases h1 : j &&& k = j
          · rw [h1] at hand
            by_cases h2 : a.testBit j = true
            · have HN := Lib.hid (hulA_yes (x := k) h1 h2)
              rw [bit_test1.2 h2] at hbt
              clear h1 h2 hal
              go_wp2_with fail
              exact ⟨⟨j + 1, by go_num, by omega, by rw [HN.out], trivial⟩, by simp [intOf] <;> omega⟩
            · have HN := Lib.hid (hulA_no (x := k) (fun q => h2 q.2))
              have h0 : bitN a j = 0 := by
                rcases bitN_cases a j with h0 | h1
                · exact h0
                · exact absurd (bit_test1.1 h1) h2
              rw [h0] at hbt
              clear h1 h2 h0 hal
              go_wp2_with fail
              exact ⟨⟨j + 1, by go_num, by omega, by rw [HN.out], trivial⟩, by simp [intOf] <;> omega⟩
          · have HN := Lib.hid (hulA_no (x := k) (a := a) (fun q => h1 q.1))
            have hne : ¬ ((j &&& k : Nat) : Int) = (j : Int) := by omega
            clear h1 hal
            go_wp2_with fail
            exact ⟨⟨j + 1, by go_num, by omega, by rw [HN.out], trivial⟩, by simp [intOf] <;> omega⟩
        · obtain rfl : j = k + 1 := by omega
          go_wp2_with fail
          exact ⟨⟨k + 1, by go_num, by omega, by rw [HE.out], trivial⟩, by simp [intOf] <;> omega⟩
    · obtain rfl : k = M := by omega
      go_wp2
      obtain ⟨k0, k1⟩ := keepT (Y := w1) (g := w.heap.size + 1) (u := .int .i64 n) (v := .int .i64 (hulW n a : Int)) z0 z1
      rw [HM.out]
      exact bodyPost_ret (v := .tuple #[.agg #[.int .i64 n, .int .i64 (hulW n a : Int)], .bool true]) (by simp [results, Try.results46, go_sem, k0, k1]) rfl ⟨rfl, bS (by simp) (bS (by simp) HB1.out)⟩

/-- MonotoneHull of the model. -/
theorem Hul.model (n a : Int) (w : World) :
    Calls Try.prog 46 #[.agg #[.int .i64 n, .int .i64 a]] w fun e w' => e = .returned (tbV (hulT n a)) ∧ Below w.heap.size w w' := by
  cases ht : isT n a with
  | false => rw [hulT_no ht]; exact Hul.model_no n a ht w
  | true =>
    obtain ⟨n, a, rfl, rfl, hn, ha⟩ := isT_nat ht
    rw [hulT_yes ht]
    exact Hul.model_yes n a hn ht (by have := fullN_le n hn; omega) w

/-- What CountMonotone answers. -/
def Plain.cmT (n : Int) : Int := if 0 ≤ n ∧ n ≤ 4 then (monN n.toNat (fullN n.toNat + 1) : Int) else -1
theorem cmT_yes {n : Nat} (h : n ≤ 4) : cmT n = (monN n (fullN n + 1) : Int) := if_pos ⟨by omega, by omega⟩
theorem cmT_no {n : Int} (h : ¬ (0 ≤ n ∧ n ≤ 4)) : cmT n = -1 := if_neg h
end Go.Proofs.Ytlmhdocfdpbhmaa
