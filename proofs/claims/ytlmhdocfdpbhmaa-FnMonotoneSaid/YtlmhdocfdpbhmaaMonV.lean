/-
  Chapter 15, the program: turningPoints, MinimalPoints, MaximalZeros; both sides together.
-/
import Derived.Test.YtlmhdocfdpbhmaaMonT
namespace Go.Proofs.Ytlmhdocfdpbhmaa
open Go.RowKit Plain
set_option linter.unusedVariables false
set_option linter.unusedSimpArgs false
attribute [local go_sem ↓] Go.wp_at_zero Go.wp_at_succ

theorem Tur.no (n a : Int) (b : Int) (hb64 : -9223372036854775808 ≤ a ∧ a ≤ 9223372036854775807) (ht : isT n a = false) (w : World) :
    Calls Try.prog 85 #[.agg #[.int .i64 n, .int .i64 a], .int .i64 b] w (RowOut [] w) := by
  have H := Lib.hid ht
  have HB := Lib.hid hb64
  clear ht hb64
  go_enter Try.func85, Try.ntmps85
  go_wp2_with fail
  go_step3
  go_wp2_with fail
  refine (Tab.impl _ _ HB.out _).mono ?_
  rintro e w1 ⟨rfl, hb1⟩
  obtain ⟨hc, hf⟩ := bcell hb1
  have hz0_w1 : w.heap.size < w1.heap.size := by have := hb1.size; simp at this; omega
  rw [H.out]
  go_wp2
  (try rw [Exit.noGoto_ret])
  exact bodyPost_ret (v := .slice none 0 0) (by simp [results, Try.results85, go_sem]) rfl ⟨_, rfl, rowNil _ _, bB hb1 (by simp) (bA (Nat.le_refl _) (Below.refl _ _))⟩

set_option maxRecDepth 100000 in
set_option maxHeartbeats 4000000 in
theorem Tur.yes (n a b : Nat) (hb2 : b < 2) (hn : n ≤ 5) (ht : isT n a = true) (ha : (a : Int) ≤ 4294967295) (w : World) :
    Calls Try.prog 85 #[.agg #[.int .i64 n, .int .i64 a], .int .i64 b] w (RowOut (natI (turL n a b (2 ^ n))) w) := by
  have H := Lib.hid ht
  have hn5 : (n : Int) ≤ 5 := by omega
  have h32 := two_pow_le n hn
  have HC := Lib.hid (Tab.count n hn)
  have hwa : IntKind.u64.wrap (a : Int) = a := by rw [IntKind.wrap_u64]; omega
  have HXL := Lib.hid (fun k j (hk : k < 2 ^ n) (hj : j < n) => (Nat.xor_lt_two_pow hk (Nat.pow_lt_pow_right (by decide) hj) : k ^^^ 2 ^ j < 2 ^ n))
  obtain ⟨M, hM⟩ : ∃ M, 2 ^ n = M := ⟨_, rfl⟩
  rw [hM] at h32 HC HXL ⊢
  clear hM ht
  go_enter Try.func85, Try.ntmps85
  go_wp2_with fail
  go_step3
  go_wp2_with fail
  refine (Tab.impl _ _ (by omega) _).mono ?_
  rintro e w1 ⟨rfl, hb1⟩
  have X1 := Lib.hid (blockOn (heap_alloc_new w _) hb1)
  obtain ⟨c0, c1, f0, f1⟩ := cells2 X1.out
  have hz1 : w.heap.size < w1.heap.size := lt_of_block X1.out
  have HB1 : Hid (Below w.heap.size w w1) := Lib.hid (bB hb1 (by simp) (bA (Nat.le_refl _) (Below.refl _ _)))
  clear hb1
  rw [H.out]
  go_wp2_with fail
  go_step3
  go_wp2_with fail
  refine (HC.out _).mono ?_
  rintro e w2 ⟨rfl, rfl⟩
  go_wp2_with fail
  clear c0 c1 f0 f1
  go_loopg [6, 18] 32 (fun g o x wr => ∃ (k : Nat) (v : Value), x = .int .i64 (k : Int) ∧ v = o ∧ k + g = 32 ∧ k ≤ M ∧ IntRow wr w1.heap.size v (natI (turL n a b k)) ∧ Below w1.heap.size w1 wr)
  case atStart => exact ⟨0, _, rfl, rfl, by omega, by omega, rowNil _ _, Below.refl _ _⟩
  case round =>
    obtain ⟨k, v, rfl, rfl, hkg, hk, hrow, hbel⟩ := hrel
    obtain ⟨G, rfl⟩ : ∃ G, G = gk := ⟨gk, rfl⟩
    have HROW := Lib.hid hrow
    have HBEL := Lib.hid hbel
    have hsr := hbel.size
    obtain ⟨c0, c1, f0, f1⟩ := cells2 (blockOn X1.out hbel)
    have hlz : w.heap.size < wr.heap.size := by omega
    clear hrow hbel
    by_cases hlt : k < M
    · have hkz : (k : Int) < (M : Int) := by omega
      have hk1 : k + 1 ≤ M := hlt
      have hG1 : k + 1 + (G - 1) = 32 := by omega
      have hGG : G - 1 < G := by omega
      have hk32 : k < 32 := by omega
      have hll := turL_len n a b k
      have HK0 : Hid (turK a b k 0 = decide (bitN a k = b)) := Lib.hid rfl
      have HYES := Lib.hid (fun h => turL_nat n a b k h)
      have HNO := Lib.hid (fun h => turL_no (n := n) (a := a) (b := b) (m := k) h)
      have HLL : Hid ((natI (turL n a b k)).length ≤ 10000000) := Lib.hid (by rw [natI_len]; omega)
      have HGONE := Lib.hid (fun j h => turK_gone (a := a) (b := b) (x := k) (k := j) (m := n) h)
      have HNXT := Lib.hid (fun j => turK_next (a := a) (b := b) (x := k) (k := j))
      have HOFF := Lib.hid (fun j => turK_off (a := a) (b := b) (x := k) (k := j))
      generalize hL1 : turL n a b (k + 1) = L1 at *
      generalize turL n a b k = L0 at *
      by_cases hv : bitN a k = b
      · have hve : (((bitN a k : Nat) : Int) == (b : Int)) = true := by rw [hv]; simp
        have hvz : ((bitN a k : Nat) : Int) = (b : Int) := by rw [hv]
        have HK1 : Hid (turK a b k 0 = true) := Lib.hid (by rw [HK0.out]; exact decide_eq_true hv)
        clear hve
        go_wp2_with fail
        refine (Tab.at a k (by omega) (by omega) _).mono ?_
        rintro e w2 ⟨rfl, rfl⟩
        rw [hvz]
        clear hvz hv
        go_wp2_with fail
        clear c0 c1 f0 f1
        go_loopg [28] n (fun g i wy => ∃ j : Nat, i = .int .i64 (j : Int) ∧ j + g = n ∧ turK a b k j = true ∧ wr = wy)
        case atStart => exact ⟨0, rfl, by omega, HK1.out, rfl⟩
        case round =>
          obtain ⟨j, rfl, hj, htk, rfl⟩ := hrel
          have HTK := Lib.hid htk
          clear htk
          by_cases hjn : j < n
          · have hjz : (j : Int) < (n : Int) := by omega
            have hjg : j + 1 + (gk - 1) = n := by omega
            have hgg : gk - 1 < gk := by omega
            have hj1n : j + 1 ≤ n := hjn
            obtain ⟨hj1, hj2, hj3⟩ := shl_at j (by omega)
            have hxor := xor_at k j hk32 (by omega)
            have hxl := HXL.out k j hlt hjn
            have hx31 : ((k ^^^ 2 ^ j : Nat) : Int) ≤ 31 := by omega
            have hx63 : k ^^^ 2 ^ j ≤ 63 := by omega
            have hbj := bit_i64 k j (by omega)
            have HAT := Lib.hid (Tab.at a (k ^^^ 2 ^ j) (by omega) hx63)
            have HI : Hid (turI a b k j = decide (bitN k j = b ∧ bitN a (k ^^^ 2 ^ j) = b)) := Lib.hid rfl
            have HN := Lib.hid (HNXT.out j)
            have HO := Lib.hid (HOFF.out j)
            have HGN := Lib.hid (HGONE.out (j + 1))
            generalize hT1 : turK a b k (j + 1) = T1 at *
            generalize turI a b k j = TI at *
            generalize bitN a (k ^^^ 2 ^ j) = p at *
            generalize bitN k j = q at *
            generalize k ^^^ 2 ^ j = y at *
            generalize 2 ^ j = P at *
            clear hxl
            by_cases hq : q = b
            · have hqz : ((q : Nat) : Int) = (b : Int) := by rw [hq]
              by_cases hp : p = b
              · have HE := Lib.hid (HO.out (HI.out.trans (decide_eq_true ⟨hq, hp⟩)))
                have HLE := Lib.hid (HNO.out (HGN.out HE.out hj1n))
                have hpz : ((p : Nat) : Int) = (b : Int) := by rw [hp]
                clear hq hp
                go_wp2_with fail
                refine (HAT.out _).mono ?_
                rintro e w3 ⟨rfl, rfl⟩
                go_wp2_with fail
                go_roundg (G - 1)
                case rel => exact ⟨k + 1, v, by go_num, rfl, hG1, hk1, by rw [hL1, HLE.out]; exact HROW.out, HBEL.out⟩
                case measure => exact hGG
              · have HE := Lib.hid (HN.out (HI.out.trans (decide_eq_false fun h => hp h.2)))
                have hpz : ¬ ((p : Nat) : Int) = (b : Int) := by omega
                clear hq hp
                go_wp2_with fail
                refine (HAT.out _).mono ?_
                rintro e w3 ⟨rfl, rfl⟩
                go_wp2_with fail
                go_roundg (gk - 1)
                case rel => exact ⟨j + 1, by go_num, hjg, by rw [hT1, HE.out]; exact HTK.out, rfl⟩
                case measure => exact hgg
            · have HE := Lib.hid (HN.out (HI.out.trans (decide_eq_false fun h => hq h.1)))
              have hqz : ¬ ((q : Nat) : Int) = (b : Int) := by omega
              clear hq
              go_wp2_with fail
              go_roundg (gk - 1)
              case rel => exact ⟨j + 1, by go_num, hjg, by rw [hT1, HE.out]; exact HTK.out, rfl⟩
              case measure => exact hgg
          · obtain rfl : j = n := by omega
            have HE := Lib.hid (HYES.out HTK.out)
            go_wp2_with (at_builtin; go_must (refine wp_int rfl _ _ rfl w1.heap.size _ wr _ _ (k : Int) _ HROW.out HBEL.out hsr HLL.out rfl rfl rfl ?_; intro v1 w4 k1 k2 k3))
            go_roundg (G - 1)
            case rel => exact ⟨k + 1, v1, by go_num, rfl, hG1, hk1, by rw [hL1, HE.out]; exact k1, k2⟩
            case measure => exact hGG
      · have hvz : ¬ ((bitN a k : Nat) : Int) = (b : Int) := by omega
        have HLE := Lib.hid (HNO.out (HGONE.out 0 (by rw [HK0.out]; exact decide_eq_false hv) (Nat.zero_le _)))
        clear hv
        go_wp2_with fail
        refine (Tab.at a k (by omega) (by omega) _).mono ?_
        rintro e w2 ⟨rfl, rfl⟩
        go_wp2_with fail
        go_roundg (G - 1)
        case rel => exact ⟨k + 1, v, by go_num, rfl, hG1, hk1, by rw [hL1, HLE.out]; exact HROW.out, HBEL.out⟩
        case measure => exact hGG
    · obtain rfl : k = M := by omega
      go_wp2
      (try rw [Exit.noGoto_ret])
      exact bodyPost_ret (v := v) (by simp [results, Try.results85, go_sem]) rfl ⟨_, rfl, HROW.out.base (by omega), HB1.out.trans (HBEL.out.mono (by omega))⟩
theorem RowOut.of {l : List Int} {w : World} {e : Ending} {w' : World} {B : Nat} {X : World} (h : RowOut l X e w') (hX : w.heap.size ≤ X.heap.size) (hb : Below w.heap.size w X) : RowOut l w e w' := by
  obtain ⟨v, rfl, hr, hb2⟩ := h
  exact ⟨v, rfl, hr.base hX, hb.trans (hb2.mono hX)⟩
theorem Tur.any (n a : Int) (b : Nat) (hb2 : b < 2) (hb : -9223372036854775808 ≤ a ∧ a ≤ 9223372036854775807) (w : World) :
    Calls Try.prog 85 #[.agg #[.int .i64 n, .int .i64 a], .int .i64 b] w (RowOut (turT b n a) w) := by
  cases ht : isT n a with
  | false => rw [turT_no ht]; exact Tur.no n a b hb ht w
  | true =>
    obtain ⟨n, a, rfl, rfl, hn, ha⟩ := isT_nat ht
    rw [turT_yes ht]
    exact Tur.yes n a b hb2 hn ht (by have := fullN_le n hn; omega) w

theorem Mip.impl (n a : Int) (hb : -9223372036854775808 ≤ a ∧ a ≤ 9223372036854775807) (w : World) :
    Calls Try.prog 38 #[.agg #[.int .i64 n, .int .i64 a]] w (RowOut (turT 1 n a) w) := by
  have HT := Lib.hid (Tur.any n a 1 (by decide) hb)
  generalize turT 1 n a = l at *
  clear hb
  go_enter Try.func38, Try.ntmps38
  go_wp2_with fail
  refine (HT.out _).mono ?_
  intro e w1 hout
  obtain ⟨v, rfl, hr, hb1⟩ := hout
  have HR := Lib.hid hr
  have HB := Lib.hid hb1
  clear hr hb1
  go_wp2
  go_ret
  exact ⟨v, rfl, HR.out.base (by simp), (bA (Nat.le_refl _) (Below.refl _ _)).trans (HB.out.mono (by simp))⟩
theorem Mip.model (n a : Int) (w : World) :
    Calls Try.prog 42 #[.agg #[.int .i64 n, .int .i64 a]] w (RowOut (turT 1 n a) w) := by
  cases ht : isT n a with
  | false => rw [turT_no ht]; exact Mip.model_no n a ht w
  | true =>
    obtain ⟨n, a, rfl, rfl, hn, ha⟩ := isT_nat ht
    rw [turT_yes ht]
    exact Mip.model_yes n a hn ht (by have := fullN_le n hn; omega) w

theorem Maz.impl (n a : Int) (hb : -9223372036854775808 ≤ a ∧ a ≤ 9223372036854775807) (w : World) :
    Calls Try.prog 39 #[.agg #[.int .i64 n, .int .i64 a]] w (RowOut (turT 0 n a) w) := by
  have HT := Lib.hid (Tur.any n a 0 (by decide) hb)
  generalize turT 0 n a = l at *
  clear hb
  go_enter Try.func39, Try.ntmps39
  go_wp2_with fail
  refine (HT.out _).mono ?_
  intro e w1 hout
  obtain ⟨v, rfl, hr, hb1⟩ := hout
  have HR := Lib.hid hr
  have HB := Lib.hid hb1
  clear hr hb1
  go_wp2
  go_ret
  exact ⟨v, rfl, HR.out.base (by simp), (bA (Nat.le_refl _) (Below.refl _ _)).trans (HB.out.mono (by simp))⟩
theorem Maz.model (n a : Int) (w : World) :
    Calls Try.prog 43 #[.agg #[.int .i64 n, .int .i64 a]] w (RowOut (turT 0 n a) w) := by
  cases ht : isT n a with
  | false => rw [turT_no ht]; exact Maz.model_no n a ht w
  | true =>
    obtain ⟨n, a, rfl, rfl, hn, ha⟩ := isT_nat ht
    rw [turT_yes ht]
    exact Maz.model_yes n a hn ht (by have := fullN_le n hn; omega) w
end Go.Proofs.Ytlmhdocfdpbhmaa
