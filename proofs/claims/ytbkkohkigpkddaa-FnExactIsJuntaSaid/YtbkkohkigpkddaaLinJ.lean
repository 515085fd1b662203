/-
  Chapter 14, the program: AffineTable, DistanceBetween, TestRejects, IsJunta.
-/
import Derived.Test.YtbkkohkigpkddaaLinI
import Derived.Test.YtbkkohkigpkddaaLinN
import Derived.Test.YtbkkohkigpkddaaResE
namespace Go.Proofs.Ytbkkohkigpkddaa
open Go.RowKit Plain Go.Shelf
set_option linter.unusedVariables false
set_option linter.unusedSimpArgs false

set_option maxRecDepth 100000 in
set_option maxHeartbeats 1000000 in
/-- tableFrom at the method 'at' of a sum, bound to it. -/
theorem Tab.from_sum (n u b : Nat) (hn : n ≤ 5) (hu : u < 32) (hb : b < 2) (w : World) :
    Calls Try.prog 28 #[.int .i64 n, .func (.func 29) #[.agg #[.int .i64 u, .int .i64 b]] #[]] w fun e w' => e = .returned (.agg #[.int .i64 n, .int .i64 (tabN (affB u b) (2 ^ n) : Int)]) ∧ Below w.heap.size w w' := by
  obtain ⟨hp1, hp2⟩ := two_pow_int n hn
  have hvb : (tabN (affB u b) (2 ^ n) : Int) ≤ 4294967295 := tabN_bound (affB u b) _ (by have := two_pow_le n hn; omega)
  have HP := Lib.hid (fun W x hx => Sum.at u b x hu hb (pow5 hn hx) W)
  generalize affB u b = v at *
  go_enter Try.func28, Try.ntmps28
  go_wp2_with fail
  refine (Tab.count n hn _).mono ?_
  rintro e w1 ⟨rfl, rfl⟩
  go_wp2_with fail
  go_loopw [5, 6, 9] (fun a _ x wr => ∃ y : Nat, x = .int .i64 (y : Int) ∧ a = .int .u64 (tabN v y : Int) ∧ (y : Int) ≤ 2 ^ n ∧ Below w.heap.size w wr ∧ wr.heap[w.heap.size]? = some (.cells #[.int .i64 0, .int .i64 0] 25 (0, 0))) (fun _ _ x _ => 32 - (intOf x).toNat)
  case atStart => exact ⟨0, rfl, rfl, by omega, (Below.refl _ _).alloc (Nat.le_refl _) _, heap_alloc_new w _⟩
  case round =>
    obtain ⟨y, rfl, rfl, hy, hbel, hcell⟩ := hrel
    have HB := Lib.hid hbel
    have HX := Lib.hid hcell
    have hszr : w.heap.size ≤ wr.heap.size := hbel.size
    clear hbel hcell
    by_cases hlt : (y : Int) < 2 ^ n
    · have hvy := tabN_bound v y (by omega)
      have hy2 : y < 2 ^ n := by rw [up2] at hlt; omega
      by_cases hb : v y = 1
      · have HV := Lib.hid (tabN_yes hb)
        have HC := Lib.hid (HP.out wr y hy2)
        have HE := Lib.hid hb
        clear hb hy2
        go_wp2_with fail
        refine HC.out.mono ?_
        rintro e w' ⟨rfl, hb'⟩
        rw [HE.out]
        have HB' := Lib.hid (HB.out.trans (hb'.mono hszr))
        have HX' := Lib.hid (blockOn HX.out hb')
        clear hb'
        go_wp2_with fail
        refine (Tab.withBit _ _ hvy (by omega) _).mono ?_
        rintro e w2 ⟨rfl, rfl⟩
        go_wp2_with fail
        go_roundw
        case rel => exact ⟨y + 1, by go_num, by rw [HV.out], by omega, HB'.out, HX'.out⟩
        case measure => simp [intOf]; omega
      · have HV := Lib.hid (tabN_no hb)
        have HC := Lib.hid (HP.out wr y hy2)
        have hne : (((v y : Nat) : Int) == 1) = false := by rw [beq_eq_false_iff_ne]; omega
        clear hb hy2
        go_wp2_with fail
        refine HC.out.mono ?_
        rintro e w' ⟨rfl, hb'⟩
        have HB' := Lib.hid (HB.out.trans (hb'.mono hszr))
        have HX' := Lib.hid (blockOn HX.out hb')
        clear hb'
        go_wp2_with fail
        go_roundw
        case rel => exact ⟨y + 1, by go_num, by rw [HV.out], by omega, HB'.out, HX'.out⟩
        case measure => simp [intOf]; omega
    · have he : y = 2 ^ n := by rw [up2] at hy hlt; omega
      have HE : Hid (tabN v y = tabN v (2 ^ n)) := Lib.hid (by rw [he])
      have hvy : (tabN v y : Int) ≤ 9223372036854775807 := by rw [HE.out]; omega
      clear he
      obtain ⟨c0, c1, f0, f1⟩ := cells2 HX.out
      have hlt2 : w.heap.size < wr.heap.size := lt_of_block HX.out
      have HVE := HE
      clear HE
      go_wp2_with fail
      refine (Tab.tableX' n _ hvy _).mono ?_
      rintro e w1 ⟨rfl, rfl⟩
      go_wp2
      rw [← HVE.out]
      obtain ⟨k0, k1⟩ := keepT (u := .int .i64 n) (v := .int .i64 (tabN v y : Int)) c0 c1
      have m0 := keepA (o := .cells #[.int .i64 n, .int .i64 (tabN v y : Int)] 25) k0
      have m1 := keepA (o := .cells #[.int .i64 n, .int .i64 (tabN v y : Int)] 25) k1
      exact bodyPost_ret (v := .agg #[.int .i64 n, .int .i64 (tabN v y : Int)]) (by simp [results, Try.results28, go_sem, m0, m1]) rfl ⟨rfl, bA (by simp; omega) (bS (Nat.le_refl _) (bS (Nat.le_refl _) HB.out))⟩

attribute [local go_sem ↓] Go.wp_at_zero Go.wp_at_succ

theorem affOk_not2 {n : Nat} {u b : Int} (h : ¬ (0 ≤ u ∧ u < 2 ^ n)) : ¬ affOk n u b := fun hh => by
  have h2 := hh.2.1
  rw [Int.toNat_natCast] at h2
  exact h ⟨h2.1, by omega⟩

set_option maxRecDepth 100000 in
theorem AffT.impl (n u b : Int) (w : World) :
    Calls Try.prog 13 #[.int .i64 n, .int .i64 u, .int .i64 b] w fun e w' => e = .returned (.tuple #[.agg #[.int .i64 (affT n u b).1, .int .i64 (affT n u b).2.1], .bool (affT n u b).2.2]) ∧ Below w.heap.size w w' := by
  by_cases hn : 0 ≤ n ∧ n ≤ 5
  · obtain ⟨n, rfl⟩ := Int.eq_ofNat_of_zero_le hn.1
    obtain ⟨hp1, hp2⟩ := two_pow_int n (by omega)
    have HN := Lib.hid hn
    by_cases hu : 0 ≤ u ∧ u < 2 ^ n
    · obtain ⟨u, rfl⟩ := Int.eq_ofNat_of_zero_le hu.1
      have HU := Lib.hid (inpB_yes hu)
      by_cases hb : 0 ≤ b ∧ b ≤ 1
      · obtain ⟨b, rfl⟩ := Int.eq_ofNat_of_zero_le hb.1
        rw [affT_yes ⟨hn, ⟨hu.1, by rw [Int.toNat_natCast]; omega⟩, hb⟩]
        have HW := Lib.hid (Tab.from_sum n u b (by omega) (by omega) (by omega))
        have HB := Lib.hid hb
        clear hn hb hu
        have HA : Hid (tabN (affB u b) (2 ^ n) = affW n u b) := Lib.hid rfl
        rw [HA.out] at HW
        clear HA
        generalize affW n u b = z at *
        go_enter Try.func13, Try.ntmps13
        go_wp2_with fail
        refine (Tab.bits_yes _ HN.out _).mono ?_
        rintro e w1 ⟨rfl, rfl⟩
        go_wp2_with fail
        refine (Tab.input n _ (by have := HN.out; omega) _).mono ?_
        rintro e w1 ⟨rfl, rfl⟩
        rw [HU.out]
        go_wp2_with fail
        refine (Tab.isVal_yes _ HB.out _).mono ?_
        rintro e w1 ⟨rfl, rfl⟩
        go_wp2_with fail
        refine (HW.out _).mono ?_
        rintro e w2 ⟨rfl, hb2⟩
        obtain ⟨hc2, hf2⟩ := bcell hb2
        have hz : w.heap.size < w2.heap.size := by have := hb2.size; simp at this; omega
        go_wp2
        obtain ⟨k0, k1⟩ := keepT (Y := w2) (g := w.heap.size) (u := .int .i64 n) (v := .int .i64 z) (keepB hb2 (keepA (keepN rfl rfl))) (keepB hb2 (keepA (keepN rfl rfl)))
        exact bodyPost_ret (v := .tuple #[.agg #[.int .i64 n, .int .i64 z], .bool true]) (by simp [results, Try.results13, go_sem, k0, k1]) rfl ⟨rfl, bS (by simp) (bS (by simp) (bB hb2 (by simp; omega) (bA (by simp) (bA (Nat.le_refl _) (Below.refl _ _)))))⟩
      · rw [affT_no fun h => hb h.2.2]
        have H := Lib.hid hb
        clear hb hn
        go_enter Try.func13, Try.ntmps13
        go_wp2_with fail
        refine (Tab.bits_yes _ HN.out _).mono ?_
        rintro e w1 ⟨rfl, rfl⟩
        go_wp2_with fail
        refine (Tab.input n _ (by have := HN.out; omega) _).mono ?_
        rintro e w1 ⟨rfl, rfl⟩
        rw [HU.out]
        go_wp2_with fail
        refine (Tab.isVal_no _ H.out _).mono ?_
        rintro e w1 ⟨rfl, rfl⟩
        go_wp2
        exact bodyPost_ret (v := .tuple #[.agg #[.int .i64 0, .int .i64 0], .bool false]) (by simp [results, Try.results13, go_sem]) rfl ⟨rfl, bA (Nat.le_refl _) (Below.refl _ _)⟩
    · rw [affT_no (affOk_not2 hu)]
      have HU := Lib.hid (inpB_no hu)
      clear hu hn
      go_enter Try.func13, Try.ntmps13
      go_wp2_with fail
      refine (Tab.bits_yes _ HN.out _).mono ?_
      rintro e w1 ⟨rfl, rfl⟩
      go_wp2_with fail
      refine (Tab.input n _ (by have := HN.out; omega) _).mono ?_
      rintro e w1 ⟨rfl, rfl⟩
      rw [HU.out]
      go_wp2
      exact bodyPost_ret (v := .tuple #[.agg #[.int .i64 0, .int .i64 0], .bool false]) (by simp [results, Try.results13, go_sem]) rfl ⟨rfl, bA (Nat.le_refl _) (Below.refl _ _)⟩
  · rw [affT_no fun h => hn h.1]
    have H := Lib.hid hn
    clear hn
    go_enter Try.func13, Try.ntmps13
    go_wp2_with fail
    refine (Tab.bits_no _ H.out _).mono ?_
    rintro e w1 ⟨rfl, rfl⟩
    go_wp2
    exact bodyPost_ret (v := .tuple #[.agg #[.int .i64 0, .int .i64 0], .bool false]) (by simp [results, Try.results13, go_sem]) rfl ⟨rfl, bA (Nat.le_refl _) (Below.refl _ _)⟩

set_option maxRecDepth 100000 in
theorem Dis.impl (n a m b : Int) (ha : -9223372036854775808 ≤ a ∧ a ≤ 9223372036854775807) (hb : -9223372036854775808 ≤ b ∧ b ≤ 9223372036854775807) (w : World) :
    Calls Try.prog 20 #[.agg #[.int .i64 n, .int .i64 a], .agg #[.int .i64 m, .int .i64 b]] w fun e w' => e = .returned (.int .i64 (disT n a m b)) ∧ Below w.heap.size w w' := by
  have HT := Lib.hid (Tab.fitI n a m b ha hb)
  clear ha hb
  cases hfit : fitB n a m b with
  | false =>
    rw [disT_no hfit]
    have H := Lib.hid hfit
    clear hfit
    go_enter Try.func20, Try.ntmps20
    go_wp2_with fail
    refine (HT.out _).mono ?_
    rintro e w1 ⟨rfl, hb1⟩
    rw [H.out]
    go_wp2
    go_ret
    exact ⟨rfl, (((Below.refl _ _).alloc (Nat.le_refl _) _).alloc (by simp) _).trans (hb1.mono (by simp; omega))⟩
  | true =>
    obtain ⟨n, a, b, rfl, rfl, rfl, rfl, hn, ha, hb⟩ := fit_nat hfit
    have h32 := fullN_le n hn
    rw [disT_yes hfit]
    have HD := Lib.hid (Dst.any n hn (.wrd a) (.wrd b) (show (a : Int) ≤ 18446744073709551615 by omega) (show (b : Int) ≤ 18446744073709551615 by omega))
    unfold vTy vRaw vVal at HD
    dsimp only at HD
    have hwa : IntKind.u64.wrap (a : Int) = a := by rw [IntKind.wrap_u64]; omega
    have hwb : IntKind.u64.wrap (b : Int) = b := by rw [IntKind.wrap_u64]; omega
    have H := Lib.hid hfit
    clear hfit
    generalize disN (bitN a) (bitN b) (2 ^ n) = d at *
    go_enter Try.func20, Try.ntmps20
    go_wp2_with fail
    refine (HT.out _).mono ?_
    rintro e w1 ⟨rfl, hb1⟩
    obtain ⟨hc1, hf1⟩ := bcell hb1
    have hz : w.heap.size + 1 < w1.heap.size := by have := hb1.size; simp at this; omega
    rw [H.out]
    go_wp2_with fail
    refine (HD.out _).mono ?_
    rintro e w2 ⟨rfl, hb2⟩
    go_wp2
    go_ret
    exact ⟨rfl, ((((Below.refl _ _).alloc (Nat.le_refl _) _).alloc (by simp) _).trans (hb1.mono (by simp; omega))).trans (hb2.mono (by omega))⟩

end Go.Proofs.Ytbkkohkigpkddaa
