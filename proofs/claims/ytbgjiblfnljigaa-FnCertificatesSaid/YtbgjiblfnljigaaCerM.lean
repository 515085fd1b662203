/-
  Chapter 9, the model: l9In, l9Set, IsCertificate, CertificateSet, CertificateAt.
-/
import Derived.Test.YtbgjiblfnljigaaCerG
namespace Go.Proofs.Ytbgjiblfnljigaa
open Go.RowKit Plain
set_option linter.unusedVariables false

theorem L9In.any (n a x : Int) (w : World) :
    Calls Try.prog 51 #[.agg #[.int .i64 n, .int .i64 a], .int .i64 x] w fun e w' => e = .returned (.bool (decide (setOk n a x))) ∧ Below w.heap.size w w' := by
  cases ht : isT n a with
  | false =>
    rw [decide_eq_false fun h : setOk n a x => by rw [h.1] at ht; exact absurd ht (by decide)]
    have H := Lib.hid ht
    clear ht
    go_enter Try.func51, Try.ntmps51
    go_wp2_with fail
    refine (Tab.model _ _ _).mono ?_
    rintro e w1 ⟨rfl, hb1⟩
    obtain ⟨hc, hf⟩ := bcell hb1
    have hz0_w1 : w.heap.size < w1.heap.size := by have := hb1.size; simp at this; omega
    rw [H.out]
    go_wp2
    go_ret
    exact ⟨rfl, bB hb1 (by simp) (bA (Nat.le_refl _) (Below.refl _ _))⟩
  | true =>
    obtain ⟨n, a, rfl, rfl, hn, ha⟩ := isT_nat ht
    have hd : decide (setOk n a x) = inB x 0 (2 ^ n - 1) := by
      unfold inB
      apply decide_eq_decide.2
      constructor
      · intro h; have h2 := h.2.1; have h3 : x < 2 ^ n := h.2.2; omega
      · intro h; exact ⟨ht, h.1, by rw [Int.toNat_natCast]; omega⟩
    rw [hd]
    have H := Lib.hid ht
    obtain ⟨hp1, hp2⟩ := two_pow_int n hn
    have hn5 : (n : Int) ≤ 5 := by omega
    have HX := Lib.hid (Widths.inRange x 0 (2 ^ n - 1))
    generalize inB x 0 (2 ^ n - 1) = c at *
    clear ht hd ha hn
    go_enter Try.func51, Try.ntmps51
    go_wp2_with fail
    refine (Tab.model _ _ _).mono ?_
    rintro e w1 ⟨rfl, hb1⟩
    obtain ⟨hc, hf⟩ := bcell hb1
    have hz0_w1 : w.heap.size < w1.heap.size := by have := hb1.size; simp at this; omega
    rw [H.out]
    go_wp2_with fail
    refine (HX.out _).mono ?_
    rintro e w2 ⟨rfl, rfl⟩
    go_wp2
    go_ret
    exact ⟨rfl, bB hb1 (by simp) (bA (Nat.le_refl _) (Below.refl _ _))⟩

set_option maxRecDepth 100000 in
set_option maxHeartbeats 1000000 in
/-- l9Set. -/
theorem L9Set.any (n a x : Nat) (hn : n ≤ 5) (ha : (a : Int) ≤ 4294967295) (hx : (x : Int) < 2 ^ n) (w : World) :
    Calls Try.prog 67 #[.agg #[.int .i64 n, .int .i64 a], .int .i64 x] w fun e w' => e = .returned (.int .i64 (setN n a x : Int)) ∧ Below w.heap.size w w' := by
  have HN := Lib.hid hn
  have HX := Lib.hid hx
  have HA := Lib.hid ha
  obtain ⟨hp1, hp2⟩ := two_pow_int n hn
  have hn5 : (n : Int) ≤ 5 := by omega
  have h32 := two_pow_le n hn
  have HW : Hid (((2 ^ n - 1 : Nat) : Int) = 2 ^ n - 1) := Lib.hid (by rw [up2]; have := Nat.two_pow_pos n; omega)
  clear hn hx
  go_enter Try.func67, Try.ntmps67
  go_wp2_with fail
  go_loopw [5, 6] (fun b i wr => ∃ k : Nat, i = .int .i64 (k : Int) ∧ b = .int .i64 (bestS n a x k : Int) ∧ (k : Int) ≤ 2 ^ n ∧ wr.heap[w.heap.size]? = some (.cells #[.int .i64 n, .int .i64 a] 25 (0, 0)) ∧ Below w.heap.size w wr) (fun _ i _ => 32 - (intOf i).toNat)
  case atStart => exact ⟨0, rfl, by show _ = Value.int .i64 ((2 ^ n - 1 : Nat) : Int); rw [HW.out], by omega, heap_alloc_new w _, bA (Nat.le_refl _) (Below.refl _ _)⟩
  case round =>
    obtain ⟨k, rfl, rfl, hk, hblk, hbel⟩ := hrel
    obtain ⟨c0, c1, f0, f1⟩ := cells2 hblk
    have HBLK := Lib.hid hblk
    have HBEL := Lib.hid hbel
    have hlz : w.heap.size < wr.heap.size := lt_of_block hblk
    clear hblk hbel
    by_cases hlt : (k : Int) < 2 ^ n
    · have hkn : k < 2 ^ n := pow_nat.1 hlt
      have hq := bestS_lt n a x k (by omega)
      have HO := Lib.hid (Tab.onesM k (by omega))
      have HB := Lib.hid (Tab.onesM (bestS n a x k) (by omega))
      have hand := and_small HN.out HX.out hlt
      have HC := Lib.hid (Tab.cubM_loop n a k (x &&& k) HN.out HA.out hlt (and_twice x k))
      by_cases hp : popN k < popN (bestS n a x k)
      · have hpz : ((popN k : Nat) : Int) < ((popN (bestS n a x k) : Nat) : Int) := by omega
        by_cases hc : cubV n a k (x &&& k) < 2
        · have HT := Lib.hid (bestS_yes hp (decide_eq_true hc))
          generalize cubV n a k (x &&& k) = c at *
          generalize bestS n a x k = q at *
          generalize popN k = pk at *
          generalize popN q = pq at *
          clear hp hkn hq
          go_wp2_with fail
          refine (HO.out _).mono ?_
          rintro e w2 ⟨rfl, rfl⟩
          go_wp2_with fail
          refine (HB.out _).mono ?_
          rintro e w2 ⟨rfl, rfl⟩
          go_wp2_with fail
          refine (HC.out _).mono ?_
          rintro e w2 ⟨rfl, hb2⟩
          have HBLK2 := Lib.hid (blockC hb2 HBLK.out)
          have HB2 := Lib.hid (bB hb2 (by omega) HBEL.out)
          go_wp2_with fail
          go_roundw
          case rel => exact ⟨k + 1, by go_num, by rw [HT.out], by omega, HBLK2.out, HB2.out⟩
          case measure => simp [intOf]; omega
        · have HT := Lib.hid (bestS_no fun h : popN k < popN (bestS n a x k) ∧ certB n a x k = true => hc (of_decide_eq_true h.2))
          generalize cubV n a k (x &&& k) = c at *
          generalize hq1 : bestS n a x (k + 1) = q1 at *
          generalize hq0 : bestS n a x k = q at *
          have hcf : decide (c < 2) = false := decide_eq_false hc
          generalize popN k = pk at *
          generalize popN q = pq at *
          clear hp hkn hq
          go_wp2_with fail
          refine (HO.out _).mono ?_
          rintro e w2 ⟨rfl, rfl⟩
          go_wp2_with fail
          refine (HB.out _).mono ?_
          rintro e w2 ⟨rfl, rfl⟩
          go_wp2_with fail
          refine (HC.out _).mono ?_
          rintro e w2 ⟨rfl, hb2⟩
          have HBLK2 := Lib.hid (blockC hb2 HBLK.out)
          have HB2 := Lib.hid (bB hb2 (by omega) HBEL.out)
          go_wp2_with fail
          go_roundw
          case rel => exact ⟨k + 1, by go_num, by rw [hq1, HT.out], by omega, HBLK2.out, HB2.out⟩
          case measure => simp [intOf]; omega
      · have HT := Lib.hid (bestS_no fun h : popN k < popN (bestS n a x k) ∧ certB n a x k = true => hp h.1)
        have hpz : ¬ ((popN k : Nat) : Int) < ((popN (bestS n a x k) : Nat) : Int) := by omega
        generalize hq1 : bestS n a x (k + 1) = q1 at *
        generalize hq0 : bestS n a x k = q at *
        generalize popN k = pk at *
        generalize popN q = pq at *
        clear hkn hq hp
        go_wp2_with fail
        refine (HO.out _).mono ?_
        rintro e w2 ⟨rfl, rfl⟩
        go_wp2_with fail
        refine (HB.out _).mono ?_
        rintro e w2 ⟨rfl, rfl⟩
        go_wp2_with fail
        go_roundw
        case rel => exact ⟨k + 1, by go_num, by rw [hq1, HT.out], by omega, HBLK.out, HBEL.out⟩
        case measure => simp [intOf]; omega
    · have he : k = 2 ^ n := by rw [up2] at hk hlt; omega
      have HE : Hid (bestS n a x k = setN n a x) := Lib.hid (by rw [he]; rfl)
      clear he
      go_wp2
      go_ret
      exact ⟨ret_int (by rw [HE.out]), HBEL.out⟩

end Go.Proofs.Ytbgjiblfnljigaa
