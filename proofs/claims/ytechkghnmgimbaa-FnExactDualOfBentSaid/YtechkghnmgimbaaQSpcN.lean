/-
  Chapter 12, the model: the spectrum.
-/
import Derived.Test.YtechkghnmgimbaaQSpcM
import Derived.Test.YtechkghnmgimbaaQRowB
import Derived.Test.YtechkghnmgimbaaQTabC
import Derived.Test.YtechkghnmgimbaaQTabK
namespace Go.Proofs.Ytechkghnmgimbaa.Q
set_option linter.unusedSimpArgs false
theorem Plain.qSpcN : True := trivial
open Go.RowKit Go.Proofs.Ytechkghnmgimbaa.Plain Go.Proofs.Ytechkghnmgimbaa.Q.Plain
set_option linter.unusedVariables false
attribute [local go_sem ↓] Go.wp_at_zero Go.wp_at_succ
attribute [local go_sem] undef

/-- A row of the call's own. -/
def Spc.Out (l : List Int) (w : World) (e : Ending) (w' : World) : Prop := ∃ v, e = .returned v ∧ IntRow w' w.heap.size v l ∧ Below w.heap.size w w'

set_option maxRecDepth 100000 in
theorem Spc.model_no (n a : Int) (ht : isT n a = false) (w : World) :
    Calls Tq.prog 12 #[.agg #[.int .i64 n, .int .i64 a]] w (Spc.Out [] w) := by
  have H := Lib.hid ht
  clear ht
  go_enter Tq.func12, Tq.ntmps12
  go_wp2_with fail
  have hr := rowLit (w.alloc (.cells #[.int .i64 n, .int .i64 a] 26)) w.heap.size (w.heap.size + 1) [] (by simp) (by omega) (by simp)
  have HR : Hid (IntRow ((w.alloc (.cells #[.int .i64 n, .int .i64 a] 26)).alloc (.cells #[] 3)) w.heap.size (.slice (some ⟨w.heap.size + 1, 0, none⟩) 0 0) []) := Lib.hid (by simpa using hr.1)
  clear hr
  go_loopw [3, 4] (fun s i wr => s = .slice (some ⟨w.heap.size + 1, 0, none⟩) 0 0 ∧ i = .int .i64 0 ∧ wr = (w.alloc (.cells #[.int .i64 n, .int .i64 a] 26)).alloc (.cells #[] 3)) (fun _ _ _ => 0)
  case atStart => exact ⟨rfl, rfl, rfl⟩
  case round =>
    obtain ⟨rfl, rfl, rfl⟩ := hrel
    go_wp2_with fail
    refine (Tab.model _ _ _).mono ?_
    rintro e w1 ⟨rfl, hb1⟩
    rw [H.out]
    go_wp2
    go_ret
    exact ⟨_, rfl, HR.out.below hb1, (((Below.refl _ _).alloc (Nat.le_refl _) _).alloc (by simp) _).trans (hb1.mono (by simp <;> omega))⟩

/-- The first k sums. -/
def Plain.spcL (a M k : Nat) : List Int := (List.range k).map fun u => sumT (spcV a) u M
theorem spcL_len (a M k : Nat) : (spcL a M k).length = k := by simp [Plain.spcL]
theorem spcL_succ (a M k : Nat) : spcL a M (k + 1) = spcL a M k ++ [sumT (spcV a) k M] := by simp [Plain.spcL, List.range_succ]

set_option maxRecDepth 100000 in
set_option maxHeartbeats 2000000 in
theorem Spc.model_yes (n a : Nat) (hn : n ≤ 5) (ht : isT n a = true) (ha : (a : Int) ≤ 4294967295) (w : World) :
    Calls Tq.prog 12 #[.agg #[.int .i64 n, .int .i64 a]] w (Spc.Out (spcL a (2 ^ n) (2 ^ n)) w) := by
  have H := Lib.hid ht
  have hn5 : (n : Int) ≤ 5 := by omega
  obtain ⟨hp1, hp2⟩ := two_pow_int n hn
  have hM : (2 : Int) ^ n = ((2 ^ n : Nat) : Int) := up2 n
  have hsh : IntKind.i64.wrap ((2 : Int) ^ n) = ((2 ^ n : Nat) : Int) := by rw [IntKind.wrap_i64]; omega
  have hsh64 : wrap64 ((2 : Int) ^ n) = ((2 ^ n : Nat) : Int) := by rw [hM]; exact IntWalk.wrap64_in _ ⟨by omega, by omega⟩
  have hM32 : ((2 ^ n : Nat) : Int) ≤ 32 := by omega
  have hM1 : 1 ≤ ((2 ^ n : Nat) : Int) := by omega
  have HS := Lib.hid (fun (v : Nat) (hv : (v : Int) ≤ 4294967295) => Sgn.model v hv)
  clear ht hn hp1 hp2 hM
  generalize 2 ^ n = M at *
  go_enter Tq.func12, Tq.ntmps12
  go_wp2_with fail
  have hr := rowLit (w.alloc (.cells #[.int .i64 n, .int .i64 a] 26)) (w.heap.size + 1) (w.heap.size + 1) [] (by simp) (by omega) (by simp)
  have HR : Hid (IntRow ((w.alloc (.cells #[.int .i64 n, .int .i64 a] 26)).alloc (.cells #[] 3)) (w.heap.size + 1) (.slice (some ⟨w.heap.size + 1, 0, none⟩) 0 0) []) := Lib.hid (by simpa using hr.1)
  clear hr
  go_loopw [3, 4] (fun s i wr => ∃ (k : Nat) (v : Value), i = .int .i64 (k : Int) ∧ v = s ∧ k ≤ M ∧ IntRow wr (w.heap.size + 1) v (spcL a M k) ∧ Below (w.heap.size + 1) (w.alloc (.cells #[.int .i64 n, .int .i64 a] 26)) wr ∧ w.heap.size + 1 ≤ wr.heap.size) (fun _ i _ => M - (intOf i).toNat)
  case atStart => exact ⟨0, _, rfl, rfl, by omega, HR.out, (Below.refl _ _).alloc (by simp) _, by simp <;> omega⟩
  case round =>
    obtain ⟨k, v, rfl, rfl, hk, hrow, hbel, hsz⟩ := hrel
    have c0 : wr.cell? ⟨w.heap.size, 0, none⟩ = some (.int .i64 n) := (hbel.cell (by dsimp only; omega)).trans (keepN rfl rfl)
    have c1 : wr.cell? ⟨w.heap.size, 1, none⟩ = some (.int .i64 a) := (hbel.cell (by dsimp only; omega)).trans (keepN rfl rfl)
    have HROW := Lib.hid hrow
    have HBEL := Lib.hid hbel
    clear hrow hbel
    go_wp2_with fail
    refine (Tab.model _ _ _).mono ?_
    rintro e w1 ⟨rfl, hb1⟩
    rw [H.out]
    have hsz1 := hb1.size
    have HR1 := Lib.hid (HROW.out.below hb1)
    have HB1 := Lib.hid (HBEL.out.trans (hb1.mono hsz))
    have d0 : w1.cell? ⟨w.heap.size, 0, none⟩ = some (.int .i64 n) := (HB1.out.cell (by dsimp only; omega)).trans (keepN rfl rfl)
    clear hb1 c0 c1
    by_cases hlt : (k : Int) < (M : Int)
    · go_wp2_with fail
      go_loopw [5, 6] (fun s x wx => ∃ j : Nat, x = .int .i64 (j : Int) ∧ s = .int .i64 (sumT (spcV a) k j) ∧ j ≤ M ∧ IntRow wx (w.heap.size + 1) v (spcL a M k) ∧ Below (w.heap.size + 1) (w.alloc (.cells #[.int .i64 n, .int .i64 a] 26)) wx ∧ w.heap.size + 1 ≤ wx.heap.size) (fun _ x _ => M - (intOf x).toNat)
      case atStart => exact ⟨0, rfl, rfl, by omega, HR1.out, HB1.out, by omega⟩
      case round =>
        obtain ⟨j, rfl, rfl, hj, hrow, hbel, hszx⟩ := hrel
        have c0 : wr.cell? ⟨w.heap.size, 0, none⟩ = some (.int .i64 n) := (hbel.cell (by dsimp only; omega)).trans (keepN rfl rfl)
        have c1 : wr.cell? ⟨w.heap.size, 1, none⟩ = some (.int .i64 a) := (hbel.cell (by dsimp only; omega)).trans (keepN rfl rfl)
        have HR2 := Lib.hid hrow
        have HB2 := Lib.hid hbel
        clear hrow hbel d0
        by_cases hjl : (j : Int) < (M : Int)
        · have hb1 := bit_i64 a j (by omega)
          have hb2 := and64 k j (by omega) (by omega)
          have hbl : bitN a j < 2 := bitN_lt a j
          have HP := Lib.hid (popN_bit _ hbl)
          have hal : k &&& j < 2 ^ 5 := Nat.and_lt_two_pow _ (by omega)
          have hal2 : ((k &&& j : Nat) : Int) ≤ 4294967295 := by omega
          have hbl2 : ((bitN a j : Nat) : Int) ≤ 4294967295 := by omega
          have hq := sgN_spc a k j
          have ht := spcV_one a k j
          have hl := sumT_lim (spcV_one a) k j
          have HT : Hid (sumT (spcV a) k (j + 1) = sumT (spcV a) k j + spcV a k j) := Lib.hid rfl
          have H1 := Lib.hid (HS.out _ hbl2)
          have H2 := Lib.hid (HS.out _ hal2)
          rw [HP.out] at H1
          generalize hS1 : sumT (spcV a) k (j + 1) = S1 at *
          generalize sumT (spcV a) k j = S0 at *
          generalize spcV a k j = t at *
          generalize popN (k &&& j) = q at *
          generalize k &&& j = kj at *
          generalize bitN a j = bj at *
          generalize sgN bj = p1 at *
          generalize sgN q = p2 at *
          clear hal hal2 hbl2 hbl
          go_wp2_with fail
          refine (H1.out _).mono ?_
          rintro e w2 ⟨rfl, rfl⟩
          go_wp2_with fail
          refine (H2.out _).mono ?_
          rintro e w3 ⟨rfl, rfl⟩
          have ht1 : -1 ≤ t ∧ t ≤ 1 := by omega
          clear ht
          go_wp2_with fail
          go_roundw
          case rel => exact ⟨j + 1, by go_num, by rw [hS1, HT.out], by omega, HR2.out, HB2.out, hszx⟩
          case measure => simp [intOf] <;> omega
        · obtain rfl : j = M := by omega
          have hll := spcL_len a j k
          have hl := sumT_lim (spcV_one a) k j
          go_wp2_with (at_builtin; go_must (refine wp_int rfl _ _ rfl (w.heap.size + 1) _ _ _ _ (sumT (spcV a) k j) _ HR2.out HB2.out (by omega) (by omega) rfl rfl rfl ?_; intro v1 w4 k1 k2 k3))
          have hsz4 := k3.size
          go_roundw
          case rel => exact ⟨k + 1, by omega, by omega, by rw [spcL_succ]; exact k1, by omega⟩
          case measure => simp [intOf] <;> omega
    · obtain rfl : k = M := by omega
      go_wp2
      go_ret
      exact ⟨_, rfl, HR1.out.base (by omega), ((Below.refl _ _).alloc (Nat.le_refl _) _).trans (HB1.out.mono (by omega))⟩
end Go.Proofs.Ytechkghnmgimbaa.Q
