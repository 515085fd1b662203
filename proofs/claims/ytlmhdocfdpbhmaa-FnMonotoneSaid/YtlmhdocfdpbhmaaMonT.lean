/-
  Chapter 15: MinimalPoints, MaximalZeros of both.
-/
import Derived.Test.YtlmhdocfdpbhmaaMonM
import Derived.Test.YtlmhdocfdpbhmaaRowO
import Derived.Test.YtlmhdocfdpbhmaaSenP
import Derived.Test.YtlmhdocfdpbhmaaSenE
import Derived.BigQuiet
import Derived.Deep.QuietTactic
import Derived.Deep.LoopGhost
import Derived.WalkMore
namespace Go.Proofs.Ytlmhdocfdpbhmaa
open Go.RowKit Plain
set_option linter.unusedVariables false
set_option linter.unusedSimpArgs false
attribute [local go_sem ↓] Go.wp_at_zero Go.wp_at_succ

/-- What MinimalPoints (b = 1) and MaximalZeros (b = 0) answer. -/
def Plain.turT (b : Nat) (n a : Int) : List Int := if isT n a = true then natI (turL n.toNat a.toNat b (2 ^ n.toNat)) else []
theorem turT_yes {b n a : Nat} (h : isT n a = true) : turT b n a = natI (turL n a b (2 ^ n)) := if_pos h
theorem turT_no {b : Nat} {n a : Int} (h : isT n a = false) : turT b n a = [] := if_neg (by rw [h]; decide)
theorem turT_ok (b : Nat) (n a : Int) : (turT b n a).length ≤ 32 ∧ ∀ x ∈ turT b n a, 0 ≤ x ∧ x < 32 := by
  cases ht : isT n a with
  | false => rw [turT_no ht]; exact ⟨by decide, fun x hx => absurd hx List.not_mem_nil⟩
  | true =>
    obtain ⟨n, a, rfl, rfl, hn, ha⟩ := isT_nat ht
    rw [turT_yes ht, natI_len]
    have h32 := two_pow_le n hn
    refine ⟨Nat.le_trans (turL_len _ _ _ _) h32, ?_⟩
    intro y hy
    have h := natI_mem (m := 2 ^ n) (fun x hx => ((turL_mem x).1 hx).1) y hy
    omega
theorem turL_nat (n a b m : Nat) (h : turK a b m n = true) : natI (turL n a b (m + 1)) = natI (turL n a b m) ++ [(m : Int)] := by rw [turL_yes h, natI_snoc]
theorem bit01 {x : Nat} (h : x < 2) {b : Nat} (hb : b < 2) : x = b ∨ x = 1 - b := by omega
/-- A list of ints, in new memory or nil. -/
def RowOut (l : List Int) (w : World) (e : Ending) (w' : World) : Prop := ∃ v, e = .returned v ∧ IntRow w' w.heap.size v l ∧ Below w.heap.size w w'
theorem xor_at (k j : Nat) (hk : k < 32) (hj : j < 6) : Go.bits .xor .i64 (k : Int) ((2 ^ j : Nat) : Int) = ((k ^^^ 2 ^ j : Nat) : Int) := by
  have h := (shl_at j hj).2.2
  generalize 2 ^ j = P at *
  exact xor64 k P (by omega) (by omega)
theorem rowNil (w : World) (B : Nat) : IntRow w B (.slice none 0 0) [] := ⟨by simp [intsV], .inl ⟨rfl, rfl⟩⟩

set_option maxRecDepth 100000 in
set_option maxHeartbeats 2000000 in
theorem Mip.model_no (n a : Int) (ht : isT n a = false) (w : World) :
    Calls Try.prog 42 #[.agg #[.int .i64 n, .int .i64 a]] w (RowOut [] w) := by
  have H := Lib.hid ht
  clear ht
  have hr := rowLit (w.alloc (.cells #[.int .i64 n, .int .i64 a] 27)) w.heap.size (w.heap.size + 1) [] (by simp) (by omega) (by simp)
  have HR : Hid (IntRow ((w.alloc (.cells #[.int .i64 n, .int .i64 a] 27)).alloc (.cells #[] 3)) w.heap.size (.slice (some ⟨w.heap.size + 1, 0, none⟩) 0 0) []) := Lib.hid (by simpa using hr.1)
  clear hr
  go_enter Try.func42, Try.ntmps42
  go_wp2_with fail
  obtain ⟨W0, hW0⟩ : ∃ W0, (w.alloc (.cells #[.int .i64 n, .int .i64 a] 27)).alloc (.cells #[] 3) = W0 := ⟨_, rfl⟩
  have HT := Lib.hid (show W0.heap[w.heap.size]? = some (.cells #[.int .i64 n, .int .i64 a] 27 (0, 0)) from hW0 ▸ heap_alloc2_old w _ _)
  have HB0 := Lib.hid (show Below w.heap.size w W0 from hW0 ▸ bA (by simp) (bA (Nat.le_refl _) (Below.refl w.heap.size w)))
  rw [hW0] at HR ⊢
  clear hW0
  go_loopw [3, 4, 5, 6] (fun o x _ _ wr => o = .slice (some ⟨w.heap.size + 1, 0, none⟩) 0 0 ∧ x = .int .i64 0 ∧ wr = W0) (fun _ _ _ _ _ => 0)
  case atStart => exact ⟨rfl, rfl, rfl⟩
  case round =>
    obtain ⟨rfl, rfl, rfl⟩ := hrel
    obtain ⟨c0, c1, f0, f1⟩ := cells2 HT.out
    go_wp2_with fail
    refine (Tab.model _ _ _).mono ?_
    rintro e w1 ⟨rfl, hb1⟩
    rw [H.out]
    have HR1 := Lib.hid (HR.out.below hb1)
    have HB1 := Lib.hid (bB hb1 HB0.out.size HB0.out)
    clear hb1
    go_wp2
    go_ret
    exact ⟨_, rfl, HR1.out, HB1.out⟩

set_option maxRecDepth 100000 in
set_option maxHeartbeats 4000000 in
theorem Mip.model_yes (n a : Nat) (hn : n ≤ 5) (ht : isT n a = true) (ha : (a : Int) ≤ 4294967295) (w : World) :
    Calls Try.prog 42 #[.agg #[.int .i64 n, .int .i64 a]] w (RowOut (natI (turL n a 1 (2 ^ n))) w) := by
  have H := Lib.hid ht
  have hn5 : (n : Int) ≤ 5 := by omega
  have h32 := two_pow_le n hn
  obtain ⟨hsh1, hsh2, _⟩ := shl_at n (by omega)
  have hr := rowLit (w.alloc (.cells #[.int .i64 n, .int .i64 a] 27)) w.heap.size (w.heap.size + 1) [] (by simp) (by omega) (by simp)
  have HR : Hid (IntRow ((w.alloc (.cells #[.int .i64 n, .int .i64 a] 27)).alloc (.cells #[] 3)) w.heap.size (.slice (some ⟨w.heap.size + 1, 0, none⟩) 0 0) []) := Lib.hid (by simpa using hr.1)
  have HXL := Lib.hid (fun k j (hk : k < 2 ^ n) (hj : j < n) => (Nat.xor_lt_two_pow hk (Nat.pow_lt_pow_right (by decide) hj) : k ^^^ 2 ^ j < 2 ^ n))
  obtain ⟨M, hM⟩ : ∃ M, 2 ^ n = M := ⟨_, rfl⟩
  rw [hM] at h32 hsh1 hsh2 HXL ⊢
  clear hr hM ht
  go_enter Try.func42, Try.ntmps42
  go_wp2_with fail
  obtain ⟨W0, hW0⟩ : ∃ W0, (w.alloc (.cells #[.int .i64 n, .int .i64 a] 27)).alloc (.cells #[] 3) = W0 := ⟨_, rfl⟩
  have HT := Lib.hid (show W0.heap[w.heap.size]? = some (.cells #[.int .i64 n, .int .i64 a] 27 (0, 0)) from hW0 ▸ heap_alloc2_old w _ _)
  have HB0 := Lib.hid (show Below w.heap.size w W0 from hW0 ▸ bA (by simp) (bA (Nat.le_refl _) (Below.refl w.heap.size w)))
  have hz0 : w.heap.size + 2 = W0.heap.size := by rw [← hW0]; simp
  rw [hW0] at HR ⊢
  clear hW0
  go_loopw [3, 4, 5, 6] (fun o x _ _ wr => ∃ (k : Nat) (v : Value), x = .int .i64 (k : Int) ∧ v = o ∧ k ≤ M ∧ OutE wr (w.heap.size + 1) W0.heap.size v (natI (turL n a 1 k)) ∧ Below W0.heap.size W0 wr) (fun _ x _ _ _ => M - (intOf x).toNat)
  case atStart => exact ⟨0, _, rfl, rfl, by omega, .inl ⟨rfl, rfl⟩, Below.refl _ _⟩
  case round =>
    obtain ⟨k, v, rfl, rfl, hk, hrow, hbel⟩ := hrel
    have hsr := hbel.size
    have HROW := Lib.hid hrow
    have HBEL := Lib.hid hbel
    obtain ⟨c0, c1, f0, f1⟩ := cells2 (blockOn HT.out hbel)
    have hlz : w.heap.size < wr.heap.size := by omega
    by_cases hlt : k < M
    · have hkz : (k : Int) < (M : Int) := by omega
      have hk1 : k + 1 ≤ M := hlt
      have hkm : M - (k + 1) < M - k := by omega
      have hll := turL_len n a 1 k
      have hk32 : k < 32 := by omega
      have hbk := bit_i64 a k (by omega)
      have HYES := Lib.hid (fun h => turL_nat n a 1 k h)
      have HNO := Lib.hid (fun h => turL_no (n := n) (a := a) (b := 1) (m := k) h)
      have HLL : Hid ((natI (turL n a 1 k)).length ≤ 1000000) := Lib.hid (by rw [natI_len]; omega)
      have HK0 : Hid ((((bitN a k : Nat) : Int) == 1) = turK a 1 k 0) := Lib.hid (by
        show _ = decide (bitN a k = 1)
        by_cases h : bitN a k = 1
        · rw [h]; rfl
        · rw [decide_eq_false h, beq_eq_false_iff_ne]; omega)
      generalize hG1 : turL n a 1 (k + 1) = G1 at *
      generalize turL n a 1 k = G0 at *
      clear hrow hbel
      go_wp2_with fail
      refine (Tab.model _ _ _).mono ?_
      rintro e w3 ⟨rfl, hb3⟩
      rw [H.out]
      have HR3 := Lib.hid (HROW.out.below hb3)
      have hs3 := hb3.size
      have HB3 := Lib.hid (bB hb3 hsr HBEL.out)
      obtain ⟨d0, d1, g0, g1⟩ := cells2 (blockOn HT.out HB3.out)
      have hlz3 : w.heap.size < w3.heap.size := by omega
      clear hb3 c0 c1 f0 f1
      go_wp2_with fail
      rw [HK0.out]
      clear d0 d1 g0 g1
      go_loopw [5, 6] (fun fine i wy => ∃ j : Nat, i = .int .i64 (j : Int) ∧ j ≤ n ∧ fine = .bool (turK a 1 k j) ∧ OutE wy (w.heap.size + 1) W0.heap.size v (natI G0) ∧ Below W0.heap.size W0 wy) (fun _ i _ => n - (intOf i).toNat)
      case atStart => exact ⟨0, rfl, by omega, rfl, HR3.out, HB3.out⟩
      case round =>
        obtain ⟨j, rfl, hj, rfl, hrowy, hbely⟩ := hrel
        have HROWY := Lib.hid hrowy
        have HBELY := Lib.hid hbely
        have hsy := hbely.size
        obtain ⟨d0, d1, g0, g1⟩ := cells2 (blockOn HT.out hbely)
        have hlzy : w.heap.size < wr.heap.size := by omega
        clear hrowy hbely
        by_cases hjn : j < n
        · have hj1n : j + 1 ≤ n := hjn
          have hjm : n - (j + 1) < n - j := by omega
          have hjz : (j : Int) < (n : Int) := by omega
          obtain ⟨hj1, hj2, hj3⟩ := shl_at j (by omega)
          have hxor := xor_at k j hk32 (by omega)
          have hxl := HXL.out k j hlt hjn
          have hx31 : ((k ^^^ 2 ^ j : Nat) : Int) ≤ 31 := by omega
          have hbj := bit_i64 k j (by omega)
          have hbx := bit_i64 a (k ^^^ 2 ^ j) (by omega)
          have HI : Hid (turI a 1 k j = decide (bitN k j = 1 ∧ bitN a (k ^^^ 2 ^ j) = 1)) := Lib.hid rfl
          have HSTAY := Lib.hid (turK_next (a := a) (b := 1) (x := k) (k := j))
          have HOFF := Lib.hid (turK_off (a := a) (b := 1) (x := k) (k := j))
          have HGONE := Lib.hid (fun h => turK_gone (a := a) (b := 1) (x := k) (k := j) (m := j + 1) h (by omega))
          generalize hT1 : turK a 1 k (j + 1) = T1 at *
          generalize turK a 1 k j = T0 at *
          generalize turI a 1 k j = TI at *
          have c1 := bitN_cases k j
          have c2 := bitN_cases a (k ^^^ 2 ^ j)
          generalize bitN a (k ^^^ 2 ^ j) = p at *
          generalize bitN k j = q at *
          generalize k ^^^ 2 ^ j = y at *
          generalize 2 ^ j = P at *
          clear hxl
          cases T0 with
          | false =>
            have HE := Lib.hid (HGONE.out rfl)
            clear c1 c2
            go_wp2_with fail
            go_quiet (fail)
            all_goals
              go_wp2_with fail
              exact ⟨⟨j + 1, by go_num, hj1n, by rw [hT1, HE.out], HROWY.out.drewN _, below_drewN HBELY.out _⟩, hjm⟩
          | true =>
            rcases c1 with rfl | rfl
            · have HE := Lib.hid (HSTAY.out (HI.out.trans (by simp)))
              go_wp2_with fail
              go_quiet (fail)
              all_goals
                go_wp2_with fail
                exact ⟨⟨j + 1, by go_num, hj1n, by rw [hT1, HE.out], HROWY.out.drewN _, below_drewN HBELY.out _⟩, hjm⟩
            · rcases c2 with rfl | rfl
              · have HE := Lib.hid (HSTAY.out (HI.out.trans (by decide)))
                go_wp2_with fail
                go_quiet (fail)
                all_goals
                  go_wp2_with fail
                  exact ⟨⟨j + 1, by go_num, hj1n, by rw [hT1, HE.out], HROWY.out.drewN _, below_drewN HBELY.out _⟩, hjm⟩
              · have HE := Lib.hid (HOFF.out (HI.out.trans (by decide)))
                go_wp2_with fail
                go_quiet (fail)
                all_goals
                  go_wp2_with fail
                  exact ⟨⟨j + 1, by go_num, hj1n, by rw [hT1, HE.out], HROWY.out.drewN _, below_drewN HBELY.out _⟩, hjm⟩
        · obtain rfl : j = n := by omega
          cases hf : turK a 1 k j with
          | false =>
            have HE := Lib.hid (HNO.out hf)
            clear hf
            go_wp2_with fail
            exact ⟨⟨k + 1, v, by go_num, rfl, hk1, by rw [hG1, HE.out]; exact HROWY.out, HBELY.out⟩, hkm⟩
          | true =>
            have HE := Lib.hid (HYES.out hf)
            clear hf
            go_wp2_with (at_builtin; go_must (refine wp_intE rfl _ _ rfl (w.heap.size + 1) W0.heap.size _ _ _ _ (k : Int) _ HROWY.out HBELY.out hsy HLL.out rfl rfl rfl ?_; intro v1 w4 k1 k2))
            exact ⟨⟨k + 1, v1, by go_num, rfl, hk1, .inr (by rw [hG1, HE.out]; exact k1), k2⟩, hkm⟩
    · obtain rfl : k = M := by omega
      have HF : Hid (IntRow wr w.heap.size v (natI (turL n a 1 k))) := Lib.hid (by
        rcases hrow with ⟨rfl, hnil⟩ | h
        · rw [hnil]; exact HR.out.below hbel
        · exact h.base (by omega))
      clear hrow hbel
      go_wp2_with fail
      refine (Tab.model _ _ _).mono ?_
      rintro e w3 ⟨rfl, hb3⟩
      rw [H.out]
      have HF3 := Lib.hid (HF.out.below hb3)
      have HB3 := Lib.hid (bB hb3 hsr HBEL.out)
      obtain ⟨d0, d1, g0, g1⟩ := cells2 (blockOn HT.out HB3.out)
      clear hb3 c0 c1 f0 f1
      go_wp2
      go_ret
      exact ⟨_, rfl, HF3.out, HB0.out.trans (HB3.out.mono (by omega))⟩

set_option maxRecDepth 100000 in
set_option maxHeartbeats 2000000 in
theorem Maz.model_no (n a : Int) (ht : isT n a = false) (w : World) :
    Calls Try.prog 43 #[.agg #[.int .i64 n, .int .i64 a]] w (RowOut [] w) := by
  have H := Lib.hid ht
  clear ht
  have hr := rowLit (w.alloc (.cells #[.int .i64 n, .int .i64 a] 27)) w.heap.size (w.heap.size + 1) [] (by simp) (by omega) (by simp)
  have HR : Hid (IntRow ((w.alloc (.cells #[.int .i64 n, .int .i64 a] 27)).alloc (.cells #[] 3)) w.heap.size (.slice (some ⟨w.heap.size + 1, 0, none⟩) 0 0) []) := Lib.hid (by simpa using hr.1)
  clear hr
  go_enter Try.func43, Try.ntmps43
  go_wp2_with fail
  obtain ⟨W0, hW0⟩ : ∃ W0, (w.alloc (.cells #[.int .i64 n, .int .i64 a] 27)).alloc (.cells #[] 3) = W0 := ⟨_, rfl⟩
  have HT := Lib.hid (show W0.heap[w.heap.size]? = some (.cells #[.int .i64 n, .int .i64 a] 27 (0, 0)) from hW0 ▸ heap_alloc2_old w _ _)
  have HB0 := Lib.hid (show Below w.heap.size w W0 from hW0 ▸ bA (by simp) (bA (Nat.le_refl _) (Below.refl w.heap.size w)))
  rw [hW0] at HR ⊢
  clear hW0
  go_loopw [3, 4, 5, 6] (fun o x _ _ wr => o = .slice (some ⟨w.heap.size + 1, 0, none⟩) 0 0 ∧ x = .int .i64 0 ∧ wr = W0) (fun _ _ _ _ _ => 0)
  case atStart => exact ⟨rfl, rfl, rfl⟩
  case round =>
    obtain ⟨rfl, rfl, rfl⟩ := hrel
    obtain ⟨c0, c1, f0, f1⟩ := cells2 HT.out
    go_wp2_with fail
    refine (Tab.model _ _ _).mono ?_
    rintro e w1 ⟨rfl, hb1⟩
    rw [H.out]
    have HR1 := Lib.hid (HR.out.below hb1)
    have HB1 := Lib.hid (bB hb1 HB0.out.size HB0.out)
    clear hb1
    go_wp2
    go_ret
    exact ⟨_, rfl, HR1.out, HB1.out⟩

set_option maxRecDepth 100000 in
set_option maxHeartbeats 4000000 in
theorem Maz.model_yes (n a : Nat) (hn : n ≤ 5) (ht : isT n a = true) (ha : (a : Int) ≤ 4294967295) (w : World) :
    Calls Try.prog 43 #[.agg #[.int .i64 n, .int .i64 a]] w (RowOut (natI (turL n a 0 (2 ^ n))) w) := by
  have H := Lib.hid ht
  have hn5 : (n : Int) ≤ 5 := by omega
  have h32 := two_pow_le n hn
  obtain ⟨hsh1, hsh2, _⟩ := shl_at n (by omega)
  have hr := rowLit (w.alloc (.cells #[.int .i64 n, .int .i64 a] 27)) w.heap.size (w.heap.size + 1) [] (by simp) (by omega) (by simp)
  have HR : Hid (IntRow ((w.alloc (.cells #[.int .i64 n, .int .i64 a] 27)).alloc (.cells #[] 3)) w.heap.size (.slice (some ⟨w.heap.size + 1, 0, none⟩) 0 0) []) := Lib.hid (by simpa using hr.1)
  have HXL := Lib.hid (fun k j (hk : k < 2 ^ n) (hj : j < n) => (Nat.xor_lt_two_pow hk (Nat.pow_lt_pow_right (by decide) hj) : k ^^^ 2 ^ j < 2 ^ n))
  obtain ⟨M, hM⟩ : ∃ M, 2 ^ n = M := ⟨_, rfl⟩
  rw [hM] at h32 hsh1 hsh2 HXL ⊢
  clear hr hM ht
  go_enter Try.func43, Try.ntmps43
  go_wp2_with fail
  obtain ⟨W0, hW0⟩ : ∃ W0, (w.alloc (.cells #[.int .i64 n, .int .i64 a] 27)).alloc (.cells #[] 3) = W0 := ⟨_, rfl⟩
  have HT := Lib.hid (show W0.heap[w.heap.size]? = some (.cells #[.int .i64 n, .int .i64 a] 27 (0, 0)) from hW0 ▸ heap_alloc2_old w _ _)
  have HB0 := Lib.hid (show Below w.heap.size w W0 from hW0 ▸ bA (by simp) (bA (Nat.le_refl _) (Below.refl w.heap.size w)))
  have hz0 : w.heap.size + 2 = W0.heap.size := by rw [← hW0]; simp
  rw [hW0] at HR ⊢
  clear hW0
  go_loopw [3, 4, 5, 6] (fun o x _ _ wr => ∃ (k : Nat) (v : Value), x = .int .i64 (k : Int) ∧ v = o ∧ k ≤ M ∧ OutE wr (w.heap.size + 1) W0.heap.size v (natI (turL n a 0 k)) ∧ Below W0.heap.size W0 wr) (fun _ x _ _ _ => M - (intOf x).toNat)
  case atStart => exact ⟨0, _, rfl, rfl, by omega, .inl ⟨rfl, rfl⟩, Below.refl _ _⟩
  case round =>
    obtain ⟨k, v, rfl, rfl, hk, hrow, hbel⟩ := hrel
    have hsr := hbel.size
    have HROW := Lib.hid hrow
    have HBEL := Lib.hid hbel
    obtain ⟨c0, c1, f0, f1⟩ := cells2 (blockOn HT.out hbel)
    have hlz : w.heap.size < wr.heap.size := by omega
    by_cases hlt : k < M
    · have hkz : (k : Int) < (M : Int) := by omega
      have hk1 : k + 1 ≤ M := hlt
      have hkm : M - (k + 1) < M - k := by omega
      have hll := turL_len n a 0 k
      have hk32 : k < 32 := by omega
      have hbk := bit_i64 a k (by omega)
      have HYES := Lib.hid (fun h => turL_nat n a 0 k h)
      have HNO := Lib.hid (fun h => turL_no (n := n) (a := a) (b := 0) (m := k) h)
      have HLL : Hid ((natI (turL n a 0 k)).length ≤ 1000000) := Lib.hid (by rw [natI_len]; omega)
      have HK0 : Hid ((((bitN a k : Nat) : Int) == 0) = turK a 0 k 0) := Lib.hid (by
        show _ = decide (bitN a k = 0)
        by_cases h : bitN a k = 0
        · rw [h]; rfl
        · rw [decide_eq_false h, beq_eq_false_iff_ne]; omega)
      generalize hG1 : turL n a 0 (k + 1) = G1 at *
      generalize turL n a 0 k = G0 at *
      clear hrow hbel
      go_wp2_with fail
      refine (Tab.model _ _ _).mono ?_
      rintro e w3 ⟨rfl, hb3⟩
      rw [H.out]
      have HR3 := Lib.hid (HROW.out.below hb3)
      have hs3 := hb3.size
      have HB3 := Lib.hid (bB hb3 hsr HBEL.out)
      obtain ⟨d0, d1, g0, g1⟩ := cells2 (blockOn HT.out HB3.out)
      have hlz3 : w.heap.size < w3.heap.size := by omega
      clear hb3 c0 c1 f0 f1
      go_wp2_with fail
      rw [HK0.out]
      clear d0 d1 g0 g1
      go_loopw [5, 6] (fun fine i wy => ∃ j : Nat, i = .int .i64 (j : Int) ∧ j ≤ n ∧ fine = .bool (turK a 0 k j) ∧ OutE wy (w.heap.size + 1) W0.heap.size v (natI G0) ∧ Below W0.heap.size W0 wy) (fun _ i _ => n - (intOf i).toNat)
      case atStart => exact ⟨0, rfl, by omega, rfl, HR3.out, HB3.out⟩
      case round =>
        obtain ⟨j, rfl, hj, rfl, hrowy, hbely⟩ := hrel
        have HROWY := Lib.hid hrowy
        have HBELY := Lib.hid hbely
        have hsy := hbely.size
        obtain ⟨d0, d1, g0, g1⟩ := cells2 (blockOn HT.out hbely)
        have hlzy : w.heap.size < wr.heap.size := by omega
        clear hrowy hbely
        by_cases hjn : j < n
        · have hj1n : j + 1 ≤ n := hjn
          have hjm : n - (j + 1) < n - j := by omega
          have hjz : (j : Int) < (n : Int) := by omega
          obtain ⟨hj1, hj2, hj3⟩ := shl_at j (by omega)
          have hxor := xor_at k j hk32 (by omega)
          have hxl := HXL.out k j hlt hjn
          have hx31 : ((k ^^^ 2 ^ j : Nat) : Int) ≤ 31 := by omega
          have hbj := bit_i64 k j (by omega)
          have hbx := bit_i64 a (k ^^^ 2 ^ j) (by omega)
          have HI : Hid (turI a 0 k j = decide (bitN k j = 0 ∧ bitN a (k ^^^ 2 ^ j) = 0)) := Lib.hid rfl
          have HSTAY := Lib.hid (turK_next (a := a) (b := 0) (x := k) (k := j))
          have HOFF := Lib.hid (turK_off (a := a) (b := 0) (x := k) (k := j))
          have HGONE := Lib.hid (fun h => turK_gone (a := a) (b := 0) (x := k) (k := j) (m := j + 1) h (by omega))
          generalize hT1 : turK a 0 k (j + 1) = T1 at *
          generalize turK a 0 k j = T0 at *
          generalize turI a 0 k j = TI at *
          have c1 := bitN_cases k j
          have c2 := bitN_cases a (k ^^^ 2 ^ j)
          generalize bitN a (k ^^^ 2 ^ j) = p at *
          generalize bitN k j = q at *
          generalize k ^^^ 2 ^ j = y at *
          generalize 2 ^ j = P at *
          clear hxl
          cases T0 with
          | false =>
            have HE := Lib.hid (HGONE.out rfl)
            clear c1 c2
            go_wp2_with fail
            go_quiet (fail)
            all_goals
              go_wp2_with fail
              exact ⟨⟨j + 1, by go_num, hj1n, by rw [hT1, HE.out], HROWY.out.drewN _, below_drewN HBELY.out _⟩, hjm⟩
          | true =>
            rcases c1 with rfl | rfl
            · rcases c2 with rfl | rfl
              · have HE := Lib.hid (HOFF.out (HI.out.trans (by decide)))
                go_wp2_with fail
                go_quiet (fail)
                all_goals
                  go_wp2_with fail
                  exact ⟨⟨j + 1, by go_num, hj1n, by rw [hT1, HE.out], HROWY.out.drewN _, below_drewN HBELY.out _⟩, hjm⟩
              · have HE := Lib.hid (HSTAY.out (HI.out.trans (by decide)))
                go_wp2_with fail
                go_quiet (fail)
                all_goals
                  go_wp2_with fail
                  exact ⟨⟨j + 1, by go_num, hj1n, by rw [hT1, HE.out], HROWY.out.drewN _, below_drewN HBELY.out _⟩, hjm⟩
            · have HE := Lib.hid (HSTAY.out (HI.out.trans (by simp)))
              go_wp2_with fail
              go_quiet (fail)
              all_goals
                go_wp2_with fail
                exact ⟨⟨j + 1, by go_num, hj1n, by rw [hT1, HE.out], HROWY.out.drewN _, below_drewN HBELY.out _⟩, hjm⟩
        · obtain rfl : j = n := by omega
          cases hf : turK a 0 k j with
          | false =>
            have HE := Lib.hid (HNO.out hf)
            clear hf
            go_wp2_with fail
            exact ⟨⟨k + 1, v, by go_num, rfl, hk1, by rw [hG1, HE.out]; exact HROWY.out, HBELY.out⟩, hkm⟩
          | true =>
            have HE := Lib.hid (HYES.out hf)
            clear hf
            go_wp2_with (at_builtin; go_must (refine wp_intE rfl _ _ rfl (w.heap.size + 1) W0.heap.size _ _ _ _ (k : Int) _ HROWY.out HBELY.out hsy HLL.out rfl rfl rfl ?_; intro v1 w4 k1 k2))
            exact ⟨⟨k + 1, v1, by go_num, rfl, hk1, .inr (by rw [hG1, HE.out]; exact k1), k2⟩, hkm⟩
    · obtain rfl : k = M := by omega
      have HF : Hid (IntRow wr w.heap.size v (natI (turL n a 0 k))) := Lib.hid (by
        rcases hrow with ⟨rfl, hnil⟩ | h
        · rw [hnil]; exact HR.out.below hbel
        · exact h.base (by omega))
      clear hrow hbel
      go_wp2_with fail
      refine (Tab.model _ _ _).mono ?_
      rintro e w3 ⟨rfl, hb3⟩
      rw [H.out]
      have HF3 := Lib.hid (HF.out.below hb3)
      have HB3 := Lib.hid (bB hb3 hsr HBEL.out)
      obtain ⟨d0, d1, g0, g1⟩ := cells2 (blockOn HT.out HB3.out)
      clear hb3 c0 c1 f0 f1
      go_wp2
      go_ret
      exact ⟨_, rfl, HF3.out, HB0.out.trans (HB3.out.mono (by omega))⟩
end Go.Proofs.Ytlmhdocfdpbhmaa
