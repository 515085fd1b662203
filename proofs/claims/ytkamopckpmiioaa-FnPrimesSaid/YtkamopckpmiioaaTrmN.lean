/-
  Chapter 6: MinimalSum of the program and of its model.
-/
import Derived.Test.YtkamopckpmiioaaTrmM
namespace Go.Proofs.Ytkamopckpmiioaa
open Go.RowKit Plain
set_option linter.unusedVariables false

theorem Min.M_no1 (n a : Int) (ht : isT n a = false) (w : World) :
    Calls Try.prog 36 #[.agg #[.int .i64 n, .int .i64 a]] w (TmOut [] false w) := by
  have H := Lib.hid ht
  clear ht
  have HL := Lib.hid (fun (X : World) (hX : w.heap.size ≤ X.heap.size) => tmLit0 X w.heap.size X.heap.size rfl hX)
  go_enter Try.func36, Try.ntmps36
  go_wp2_with fail
  refine (Tab.model _ _ _).mono ?_
  rintro e w1 ⟨rfl, hb1⟩
  have hs := hb1.size
  simp at hs
  rw [H.out]
  go_wp2
  go_ret2
  exact ⟨⟨_, rfl, HL.out w1 (by omega)⟩, bA (by omega) (bB hb1 (by simp) (bA (Nat.le_refl _) (Below.refl _ _)))⟩

theorem Min.M_no2 (n a : Int) (ht : isT n a = true) (hn : 4 < n) (w : World) :
    Calls Try.prog 36 #[.agg #[.int .i64 n, .int .i64 a]] w (TmOut [] false w) := by
  have H := Lib.hid ht
  clear ht
  have HL := Lib.hid (fun (X : World) (hX : w.heap.size ≤ X.heap.size) => tmLit0 X w.heap.size X.heap.size rfl hX)
  go_enter Try.func36, Try.ntmps36
  go_wp2_with fail
  refine (Tab.model _ _ _).mono ?_
  rintro e w1 ⟨rfl, hb1⟩
  have hs := hb1.size
  simp at hs
  have k0 : w1.cell? ⟨w.heap.size, 0, none⟩ = some (.int .i64 n) := keepB hb1 (keepN rfl rfl)
  rw [H.out]
  go_wp2
  go_ret2
  exact ⟨⟨_, rfl, HL.out w1 (by omega)⟩, bA (by omega) (bB hb1 (by simp) (bA (Nat.le_refl _) (Below.refl _ _)))⟩

set_option maxRecDepth 100000 in
set_option maxHeartbeats 1000000 in
theorem Min.M_yes (n a : Nat) (hn : n ≤ 4) (ha : a < 2 ^ 2 ^ n) (ht : isT n a = true) (w : World) :
    Calls Try.prog 36 #[.agg #[.int .i64 n, .int .i64 a]] w (TmOut (tiL (minS n a)) true w) := by
  have H := Lib.hid ht
  have hn5 : n ≤ 5 := by omega
  have ha2 : (a : Int) ≤ 4294967295 := by
    obtain ⟨k, x, h1, h2, h3, h4⟩ := isT_nat ht
    have := fullN_le k h3
    omega
  obtain ⟨c, r, hc8, hcl, hcr, hcm⟩ := min_exists hn ha
  have HMS := Lib.hid (minS_at hc8 hcr hcm)
  have HHIT := Lib.hid (cover_least _ _ _ _ _ hcr hcm)
  have HMISS : Hid (∀ k, k < c → coverM (wT n) (primesL n a) k a = none) := Lib.hid (fun k hk => cover_none _ _ _ _ fun d hd => hcm d (by omega))
  have HPL := Lib.hid (Prm.listM n a hn5 ha2)
  have HCOV := Lib.hid (fun ad cap => Min.cover n a hn5 (primesL n a) (primes_len hn5) (prime_small hn5) ad cap)
  have HSM := Lib.hid (prime_small (a := a) hn5)
  have HLEN := Lib.hid (primes_len (a := a) hn5)
  have hn4 : (n : Int) ≤ 4 := by omega
  have hcz : (c : Int) ≤ 8 := by omega
  clear ht hn ha hcr hcm hcl
  go_enter Try.func36, Try.ntmps36
  go_wp2_with fail
  refine (Tab.model _ _ _).mono ?_
  rintro e w1 ⟨rfl, hb1⟩
  rw [H.out]
  have k0 : w1.cell? ⟨w.heap.size, 0, none⟩ = some (.int .i64 n) := keepB hb1 (keepN rfl rfl)
  have k1 : w1.cell? ⟨w.heap.size, 1, none⟩ = some (.int .i64 a) := keepB hb1 (keepN rfl rfl)
  have HB1 := Lib.hid (bB hb1 (by simp) (bA (Nat.le_refl _) (Below.refl w.heap.size w)))
  have hz1 : w.heap.size < w1.heap.size := by have := hb1.size; simp at this; omega
  clear hb1
  go_wp2_with fail
  refine (HPL.out _).mono ?_
  rintro e w2 ⟨⟨v, rfl, hrow⟩, hb2⟩
  have j0 : w2.cell? ⟨w.heap.size, 0, none⟩ = some (.int .i64 n) := keepB hb2 k0
  have j1 : w2.cell? ⟨w.heap.size, 1, none⟩ = some (.int .i64 a) := keepB hb2 k1
  have hz2 : w.heap.size < w2.heap.size := by have := hb2.size; omega
  have HB2 := Lib.hid (bB hb2 (by omega) HB1.out)
  have hin := hrow.terms (by rw [tiL_len]; have := HLEN.out; omega) (tiL_small HSM.out)
  obtain ⟨ad, cap, rfl⟩ : ∃ ad cap, v = .slice ad (primesL n a).length cap := by
    obtain ⟨ad, cap, rfl, _⟩ := hin
    exact ⟨ad, cap, by rw [tiL_len]⟩
  have HIN := Lib.hid hin
  have HCV := Lib.hid (HCOV.out ad cap)
  clear hin hrow hb2 k0 k1 HCOV
  generalize primesL n a = L at HIN HCV HMISS HHIT HLEN
  go_wp2
  go_loopw [5, 6, 7] (fun i _ _ wr => ∃ k : Nat, i = .int .i64 (k : Int) ∧ k ≤ c ∧ Below w2.heap.size w2 wr) (fun i _ _ _ => 9 - (intOf i).toNat)
  case atStart => exact ⟨0, rfl, by omega, Below.refl _ _⟩
  case round =>
    obtain ⟨k, rfl, hk, hbel⟩ := hrel
    have HBEL := Lib.hid hbel
    have c0 : wr.cell? ⟨w.heap.size, 0, none⟩ = some (.int .i64 n) := keepB hbel j0
    have c1 : wr.cell? ⟨w.heap.size, 1, none⟩ = some (.int .i64 a) := keepB hbel j1
    have hsz := hbel.size
    have hk8 : (k : Int) ≤ 8 := by omega
    have HIN2 := Lib.hid (HIN.out.below hbel)
    clear hbel
    by_cases hkc : k = c
    · subst hkc
      have HC : Hid (Calls Try.prog 70 #[.agg #[.int .i64 n, .int .i64 a], .slice ad L.length cap, .int .i64 0, .int .i64 a, .int .i64 k] wr (OptOut (some r) wr)) := Lib.hid (by
        have := HCV.out k (by omega) 0 a wr (by omega) (by omega) HIN2.out
        rw [List.drop_zero, HHIT.out] at this
        exact this)
      go_wp2_with fail
      refine HC.out.mono ?_
      rintro e w3 ⟨⟨v3, rfl, hrow3⟩, hb3⟩
      have HR3 := Lib.hid hrow3
      clear hrow3
      go_wp2
      go_ret2
      rw [HMS.out]
      exact ⟨⟨_, rfl, HR3.out.base (by omega)⟩, bB hb3 (by omega) (bB HBEL.out (by omega) HB2.out)⟩
    · have HC : Hid (Calls Try.prog 70 #[.agg #[.int .i64 n, .int .i64 a], .slice ad L.length cap, .int .i64 0, .int .i64 a, .int .i64 k] wr (OptOut none wr)) := Lib.hid (by
        have := HCV.out k (by omega) 0 a wr (by omega) (by omega) HIN2.out
        rw [List.drop_zero, HMISS.out k (by omega)] at this
        exact this)
      go_wp2_with fail
      refine HC.out.mono ?_
      rintro e w3 ⟨⟨v3, rfl, hrow3⟩, hb3⟩
      clear hrow3
      go_wp2
      go_roundw
      case rel => exact ⟨k + 1, by go_num, by omega, bB hb3 hsz HBEL.out⟩
      case measure => simp [intOf] <;> omega

/-- MinimalSum of the model. -/
theorem Min.M (n a : Int) (w : World) :
    Calls Try.prog 36 #[.agg #[.int .i64 n, .int .i64 a]] w (TmOut (minT n a) (minOk n a) w) := by
  cases hm : minOk n a with
  | true =>
    obtain ⟨k, x, rfl, rfl, hk, hx, ht⟩ := minOk_nat hm
    rw [minT_yes hm]
    exact Min.M_yes k x hk hx ht w
  | false =>
    rw [minT_no hm]
    cases ht : isT n a with
    | false => exact Min.M_no1 n a ht w
    | true =>
      refine Min.M_no2 n a ht ?_ w
      unfold minOk at hm
      rw [ht, Bool.true_and, decide_eq_false_iff_not] at hm
      omega

/-! The program's. -/
theorem Min.I_no1 (n a : Int) (h64 : -9223372036854775808 ≤ a ∧ a ≤ 9223372036854775807) (ht : isT n a = false) (w : World) :
    Calls Try.prog 37 #[.agg #[.int .i64 n, .int .i64 a]] w (TmOut [] false w) := by
  have H := Lib.hid ht
  have HI := Lib.hid (Tab.impl n a h64)
  clear ht h64
  go_enter Try.func37, Try.ntmps37
  go_wp2_with fail
  refine (HI.out _).mono ?_
  rintro e w1 ⟨rfl, hb1⟩
  rw [H.out]
  go_wp2
  go_ret2
  exact ⟨⟨_, rfl, tmNil _ _⟩, bB hb1 (by simp) (bA (Nat.le_refl _) (Below.refl _ _))⟩

theorem Min.I_no2 (n a : Int) (h64 : -9223372036854775808 ≤ a ∧ a ≤ 9223372036854775807) (ht : isT n a = true) (hn : 4 < n) (w : World) :
    Calls Try.prog 37 #[.agg #[.int .i64 n, .int .i64 a]] w (TmOut [] false w) := by
  have H := Lib.hid ht
  have HI := Lib.hid (Tab.impl n a h64)
  clear ht h64
  go_enter Try.func37, Try.ntmps37
  go_wp2_with fail
  refine (HI.out _).mono ?_
  rintro e w1 ⟨rfl, hb1⟩
  have k0 : w1.cell? ⟨w.heap.size, 0, none⟩ = some (.int .i64 n) := keepB hb1 (keepN rfl rfl)
  rw [H.out]
  go_wp2
  go_ret2
  exact ⟨⟨_, rfl, tmNil _ _⟩, bB hb1 (by simp) (bA (Nat.le_refl _) (Below.refl _ _))⟩

set_option maxRecDepth 100000 in
set_option maxHeartbeats 1000000 in
theorem Min.I_yes (n a : Nat) (hn : n ≤ 4) (ha : a < 2 ^ 2 ^ n) (ht : isT n a = true) (w : World) :
    Calls Try.prog 37 #[.agg #[.int .i64 n, .int .i64 a]] w (TmOut (tiL (minS n a)) true w) := by
  have H := Lib.hid ht
  have hn5 : n ≤ 5 := by omega
  have ha2 : (a : Int) ≤ 4294967295 := by
    obtain ⟨k, x, h1, h2, h3, h4⟩ := isT_nat ht
    have := fullN_le k h3
    omega
  have HN := Lib.hid hn5
  have HI := Lib.hid (Tab.impl n a (by omega))
  obtain ⟨c, r, hc8, hcl, hcr, hcm⟩ := min_exists hn ha
  have HMS := Lib.hid (minS_at hc8 hcr hcm)
  have HHIT := Lib.hid hcr
  have HMISS := Lib.hid hcm
  have HPL := Lib.hid (Prm.listI n a hn5 ha2 ht)
  have HSM := Lib.hid (prime_small (a := a) hn5)
  have HLEN := Lib.hid (primes_len (a := a) hn5)
  have hn4 : (n : Int) ≤ 4 := by omega
  have hcz : (c : Int) ≤ 8 := by omega
  have hwz : IntKind.u64.wrap (a : Int) = (a : Int) := by rw [IntKind.wrap_u64]; omega
  have HCL := Lib.hid hcl
  have HALL : Hid (c = (primesL n a).length → r = primesL n a) := Lib.hid (fun h => by
    obtain ⟨h1, h2, _⟩ := firstC_sound _ _ _ _ _ hcr
    exact h1.eq_of_length (by omega))
  clear ht hn ha hcr hcm hcl
  go_enter Try.func37, Try.ntmps37
  go_wp2_with fail
  refine (HI.out _).mono ?_
  rintro e w1 ⟨rfl, hb1⟩
  rw [H.out]
  have k0 : w1.cell? ⟨w.heap.size, 0, none⟩ = some (.int .i64 n) := keepB hb1 (keepN rfl rfl)
  have k1 : w1.cell? ⟨w.heap.size, 1, none⟩ = some (.int .i64 a) := keepB hb1 (keepN rfl rfl)
  have HB1 := Lib.hid (bB hb1 (by simp) (bA (Nat.le_refl _) (Below.refl w.heap.size w)))
  have hz1 : w.heap.size < w1.heap.size := by have := hb1.size; simp at this; omega
  clear hb1
  go_wp2_with fail
  refine (HPL.out _).mono ?_
  rintro e w2 ⟨⟨v, rfl, hrow⟩, hb2⟩
  have j0 : w2.cell? ⟨w.heap.size, 0, none⟩ = some (.int .i64 n) := keepB hb2 k0
  have j1 : w2.cell? ⟨w.heap.size, 1, none⟩ = some (.int .i64 a) := keepB hb2 k1
  have hz2 : w.heap.size < w2.heap.size := by have := hb2.size; omega
  have HB2 := Lib.hid (bB hb2 (by omega) HB1.out)
  have hin := hrow.terms (by rw [tiL_len]; have := HLEN.out; omega) (tiL_small HSM.out)
  obtain ⟨ad, cap, rfl⟩ : ∃ ad cap, v = .slice ad (primesL n a).length cap := by
    obtain ⟨ad, cap, rfl, _⟩ := hin
    exact ⟨ad, cap, by rw [tiL_len]⟩
  have HIN := Lib.hid hin
  have HROW := Lib.hid (hrow.base (C := w.heap.size) (by omega))
  clear hin hrow hb2 k0 k1
  generalize primesL n a = L at *
  go_wp2_with fail
  refine (Wd.inputs n HN.out L (fun t h => (HSM.out t h).1) ad cap _ HIN.out).mono ?_
  rintro e w3 ⟨g, rfl, hrow3, hb3⟩
  have hwl := wordsL_len n L
  have HB3 := Lib.hid (bB hb3 (by omega) HB2.out)
  have HWD := Lib.hid (hrow3.words (by rw [hwl]; have := HLEN.out; omega) (wordsL_bound HN.out L))
  have hz3 := hb3.size
  have i0 : w3.cell? ⟨w.heap.size, 0, none⟩ = some (.int .i64 n) := keepB hb3 j0
  have i1 : w3.cell? ⟨w.heap.size, 1, none⟩ = some (.int .i64 a) := keepB hb3 j1
  have HIN3 := Lib.hid (HIN.out.below hb3)
  have HROW3 := Lib.hid (HROW.out.below hb3)
  rw [hwl]
  clear hb3 hrow3 HIN HROW j0 j1
  rw [hwl] at HWD
  have hlz : (L.length : Int) ≤ 243 := by have := HLEN.out; omega
  go_wp2
  go_loopw [7, 8, 9, 29] (fun _ _ _ i wr => ∃ k : Nat, i = .int .i64 (k : Int) ∧ k ≤ c ∧ Below w3.heap.size w3 wr) (fun _ _ _ i _ => 9 - (intOf i).toNat)
  case atStart => exact ⟨0, rfl, by omega, Below.refl _ _⟩
  case round =>
    obtain ⟨k, rfl, hk, hbel⟩ := hrel
    have HBEL := Lib.hid hbel
    have c0 : wr.cell? ⟨w.heap.size, 0, none⟩ = some (.int .i64 n) := keepB hbel i0
    have c1 : wr.cell? ⟨w.heap.size, 1, none⟩ = some (.int .i64 a) := keepB hbel i1
    have hsz := hbel.size
    have hk8 : (k : Int) ≤ 8 := by omega
    have HIN4 := Lib.hid (HIN3.out.below hbel)
    have HWD4 := Lib.hid (HWD.out.below hbel)
    have HROW4 := Lib.hid (HROW3.out.below hbel)
    clear hbel
    have HC : Hid (Calls Try.prog 71 #[.slice ad L.length cap, .slice (some ⟨g, 0, none⟩) L.length L.length, .int .i64 k, .int .u64 a] wr (OptOut (firstC (wT n) L k a) wr)) := Lib.hid (Min.first n HN.out k (by omega) L a ad _ cap _ wr (by omega) HLEN.out HIN4.out HWD4.out)
    by_cases hlt : k < L.length
    · have hltz : (k : Int) < (L.length : Int) := by omega
      by_cases hkc : k = c
      · subst hkc
        rw [HHIT.out] at HC
        clear hlt
        go_wp2_with fail
        refine HC.out.mono ?_
        rintro e w4 ⟨⟨v4, rfl, hrow4⟩, hb4⟩
        have HR4 := Lib.hid hrow4
        clear hrow4
        go_wp2
        go_ret2
        rw [HMS.out]
        exact ⟨⟨_, rfl, HR4.out.base (by omega)⟩, bB hb4 (by omega) (bB HBEL.out (by omega) HB3.out)⟩
      · rw [HMISS.out k (by omega)] at HC
        clear hlt
        go_wp2_with fail
        refine HC.out.mono ?_
        rintro e w4 ⟨⟨v4, rfl, hrow4⟩, hb4⟩
        clear hrow4
        go_wp2
        go_roundw
        case rel => exact ⟨k + 1, by go_num, by omega, bB hb4 hsz HBEL.out⟩
        case measure => simp [intOf] <;> omega
    · have hkc : k = c := by have := HCL.out; omega
      have HE := Lib.hid (HALL.out (by have := HCL.out; omega))
      subst hkc
      have hkl : k = L.length := by have := HCL.out; omega
      clear hlt HC
      subst hkl
      go_wp2
      go_ret2
      rw [HMS.out, HE.out]
      exact ⟨⟨_, rfl, HROW4.out⟩, bB HBEL.out (by omega) HB3.out⟩

/-- MinimalSum of the program. -/
theorem Min.I (n a : Int) (h64 : -9223372036854775808 ≤ a ∧ a ≤ 9223372036854775807) (w : World) :
    Calls Try.prog 37 #[.agg #[.int .i64 n, .int .i64 a]] w (TmOut (minT n a) (minOk n a) w) := by
  cases hm : minOk n a with
  | true =>
    obtain ⟨k, x, rfl, rfl, hk, hx, ht⟩ := minOk_nat hm
    rw [minT_yes hm]
    exact Min.I_yes k x hk hx ht w
  | false =>
    rw [minT_no hm]
    cases ht : isT n a with
    | false => exact Min.I_no1 n a h64 ht w
    | true =>
      refine Min.I_no2 n a h64 ht ?_ w
      unfold minOk at hm
      rw [ht, Bool.true_and, decide_eq_false_iff_not] at hm
      omega

end Go.Proofs.Ytkamopckpmiioaa
