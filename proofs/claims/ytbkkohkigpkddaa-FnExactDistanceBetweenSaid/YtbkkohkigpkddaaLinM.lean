/-
  Chapter 14, the model: AffineTable, DistanceBetween, NearestAffine, IsAffine, TestRejects, IsJunta.
-/
import Derived.Test.YtbkkohkigpkddaaLinP
import Derived.Test.YtbkkohkigpkddaaTabG
import Derived.Test.YtbkkohkigpkddaaTabI
import Derived.Test.YtbkkohkigpkddaaTabK
import Derived.Test.YtbkkohkigpkddaaResL
namespace Go.Proofs.Ytbkkohkigpkddaa
open Go.RowKit Plain
set_option linter.unusedVariables false
set_option linter.unusedSimpArgs false
attribute [local go_sem ↓] Go.wp_at_zero Go.wp_at_succ

/-- The word of a sum. -/
theorem Aff.word (n u b : Nat) (hn : n ≤ 5) (hu : u < 32) (hb : b < 2) (w : World) :
    Calls Try.prog 24 #[.int .i64 n, .int .i64 u, .int .i64 b] w fun e w' => e = .returned (.int .i64 (affW n u b : Int)) ∧ w = w' := by
  obtain ⟨hp1, hp2⟩ := two_pow_int n hn
  have hn5 : (n : Int) ≤ 5 := by omega
  go_enter Try.func24, Try.ntmps24
  go_wp2
  go_loop [7, 8] (fun a x => ∃ y : Nat, x = .int .i64 (y : Int) ∧ a = .int .i64 (tabN (affB u b) y : Int) ∧ (y : Int) ≤ 2 ^ n) (fun _ x => 32 - (intOf x).toNat)
  case atStart => exact ⟨0, rfl, rfl, by omega⟩
  case round =>
    obtain ⟨y, rfl, rfl, hy⟩ := hrel
    by_cases hlt : (y : Int) < 2 ^ n
    · have hvy := tabN_bound (affB u b) y (by omega)
      have hand := and64 u y (by omega) (by omega)
      have hal : u &&& y ≤ u := Nat.and_le_left
      have HP := Lib.hid (Tab.onesM (u &&& y) (by omega))
      have hpl := popN_lim (u &&& y) (by omega)
      have HO := Lib.hid (mulbit_i64 (tabN (affB u b) y) (affB u b y) y hvy (affB_lt u b y) (by omega))
      have HV := Lib.hid (tabN_mul (v := affB u b) (x := y) (affB_lt u b y))
      have htm : ((popN (u &&& y) : Int) + (b : Int)).tmod 2 = ((affB u b y : Nat) : Int) := by
        rw [Int.tmod_eq_emod_of_nonneg (by omega)]; unfold Plain.affB; omega
      have hz2 := affB_lt u b y
      generalize affB u b y = z at *
      generalize popN (u &&& y) = q at *
      generalize u &&& y = uy at *
      go_wp2_with fail
      try rw [hand]
      refine (HP.out _).mono ?_
      rintro e w1 ⟨rfl, rfl⟩
      go_wp2_with fail
      exact ⟨⟨y + 1, by go_num, by rw [HV.out, ← HO.out], by omega⟩, by simp [intOf]; omega⟩
    · have he : y = 2 ^ n := by rw [up2] at hy hlt; omega
      have HE : Hid (tabN (affB u b) y = affW n u b) := Lib.hid (by rw [he]; rfl)
      clear he
      go_wp2
      go_ret
      exact ⟨ret_int (by rw [HE.out]), rfl⟩

/-- What AffineTable answers. -/
def Plain.affOk (n u b : Int) : Prop := (0 ≤ n ∧ n ≤ 5) ∧ (0 ≤ u ∧ u ≤ 2 ^ n.toNat - 1) ∧ (0 ≤ b ∧ b ≤ 1)
instance (n u b : Int) : Decidable (affOk n u b) := inferInstanceAs (Decidable (_ ∧ _ ∧ _))
def Plain.affT (n u b : Int) : Int × Int × Bool := if affOk n u b then (n, (affW n.toNat u.toNat b.toNat : Int), true) else (0, 0, false)
theorem affT_yes {n u b : Nat} (h : affOk n u b) : affT n u b = ((n : Int), (affW n u b : Int), true) := if_pos h
theorem affT_no {n u b : Int} (h : ¬ affOk n u b) : affT n u b = (0, 0, false) := if_neg h

theorem AffT.model (n u b : Int) (w : World) :
    Calls Try.prog 12 #[.int .i64 n, .int .i64 u, .int .i64 b] w fun e w' => e = .returned (.tuple #[.agg #[.int .i64 (affT n u b).1, .int .i64 (affT n u b).2.1], .bool (affT n u b).2.2]) ∧ Below w.heap.size w w' := by
  by_cases hn : 0 ≤ n ∧ n ≤ 5
  · obtain ⟨n, rfl⟩ := Int.eq_ofNat_of_zero_le hn.1
    obtain ⟨hp1, hp2⟩ := two_pow_int n (by omega)
    by_cases hu : 0 ≤ u ∧ u ≤ 2 ^ n - 1
    · obtain ⟨u, rfl⟩ := Int.eq_ofNat_of_zero_le hu.1
      by_cases hb : 0 ≤ b ∧ b ≤ 1
      · obtain ⟨b, rfl⟩ := Int.eq_ofNat_of_zero_le hb.1
        rw [affT_yes ⟨hn, hu, hb⟩]
        have HW := Lib.hid (Aff.word n u b (by omega) (by omega) (by omega))
        go_enter Try.func12, Try.ntmps12
        go_wp2_with fail
        refine (Widths.in_yes _ _ _ hn _).mono ?_
        rintro e w1 ⟨rfl, rfl⟩
        go_wp2_with fail
        refine (Widths.in_yes _ _ _ hu _).mono ?_
        rintro e w1 ⟨rfl, rfl⟩
        go_wp2_with fail
        refine (Widths.in_yes _ _ _ hb _).mono ?_
        rintro e w1 ⟨rfl, rfl⟩
        go_wp2_with fail
        refine (HW.out _).mono ?_
        rintro e w1 ⟨rfl, rfl⟩
        go_wp2
        exact bodyPost_ret (v := .tuple #[.agg #[.int .i64 n, .int .i64 (affW n u b : Int)], .bool true]) (by simp [results, Try.results12, go_sem]) rfl ⟨rfl, (Below.refl _ _).alloc (Nat.le_refl _) _⟩
      · rw [affT_no fun h => hb h.2.2]
        have H := Lib.hid hb
        clear hb
        go_enter Try.func12, Try.ntmps12
        go_wp2_with fail
        refine (Widths.in_yes _ _ _ hn _).mono ?_
        rintro e w1 ⟨rfl, rfl⟩
        go_wp2_with fail
        refine (Widths.in_yes _ _ _ hu _).mono ?_
        rintro e w1 ⟨rfl, rfl⟩
        go_wp2_with fail
        refine (Widths.in_no _ _ _ H.out _).mono ?_
        rintro e w1 ⟨rfl, rfl⟩
        go_wp2
        exact bodyPost_ret (v := .tuple #[.agg #[.int .i64 0, .int .i64 0], .bool false]) (by simp [results, Try.results12, go_sem]) rfl ⟨rfl, (Below.refl _ _).alloc (Nat.le_refl _) _⟩
    · rw [affT_no fun h => hu h.2.1]
      have H := Lib.hid hu
      clear hu
      go_enter Try.func12, Try.ntmps12
      go_wp2_with fail
      refine (Widths.in_yes _ _ _ hn _).mono ?_
      rintro e w1 ⟨rfl, rfl⟩
      go_wp2_with fail
      refine (Widths.in_no _ _ _ H.out _).mono ?_
      rintro e w1 ⟨rfl, rfl⟩
      go_wp2
      exact bodyPost_ret (v := .tuple #[.agg #[.int .i64 0, .int .i64 0], .bool false]) (by simp [results, Try.results12, go_sem]) rfl ⟨rfl, (Below.refl _ _).alloc (Nat.le_refl _) _⟩
  · rw [affT_no fun h => hn h.1]
    have H := Lib.hid hn
    clear hn
    go_enter Try.func12, Try.ntmps12
    go_wp2_with fail
    refine (Widths.in_no _ _ _ H.out _).mono ?_
    rintro e w1 ⟨rfl, rfl⟩
    go_wp2
    exact bodyPost_ret (v := .tuple #[.agg #[.int .i64 0, .int .i64 0], .bool false]) (by simp [results, Try.results12, go_sem]) rfl ⟨rfl, (Below.refl _ _).alloc (Nat.le_refl _) _⟩

/-- What DistanceBetween answers. -/
def Plain.disT (n a m b : Int) : Int := if fitB n a m b = true then (disN (bitN a.toNat) (bitN b.toNat) (2 ^ n.toNat) : Int) else -1

theorem fit_nat {n a m b : Int} (h : fitB n a m b = true) : ∃ k x y : Nat, n = k ∧ m = k ∧ a = x ∧ b = y ∧ k ≤ 5 ∧ x ≤ fullN k ∧ y ≤ fullN k := by
  unfold Plain.fitB at h
  simp only [Bool.and_eq_true, decide_eq_true_eq] at h
  obtain ⟨⟨h1, h2⟩, rfl⟩ := h
  obtain ⟨k, x, rfl, rfl, hk, hx⟩ := isT_nat h1
  obtain ⟨k', y, e, rfl, _, hy⟩ := isT_nat h2
  obtain rfl : k = k' := by omega
  exact ⟨k, x, y, rfl, rfl, rfl, rfl, hk, hx, hy⟩
theorem disT_yes {n a b : Nat} (h : fitB n a n b = true) : disT n a n b = (disN (bitN a) (bitN b) (2 ^ n) : Int) := if_pos h
theorem disT_no {n a m b : Int} (h : fitB n a m b = false) : disT n a m b = -1 := if_neg (by rw [h]; decide)

set_option maxRecDepth 100000 in
theorem Dis.model (n a m b : Int) (w : World) :
    Calls Try.prog 19 #[.agg #[.int .i64 n, .int .i64 a], .agg #[.int .i64 m, .int .i64 b]] w fun e w' => e = .returned (.int .i64 (disT n a m b)) ∧ Below w.heap.size w w' := by
  cases hfit : fitB n a m b with
  | false =>
    rw [disT_no hfit]
    have H := Lib.hid hfit
    clear hfit
    go_enter Try.func19, Try.ntmps19
    go_wp2_with fail
    refine (Tab.fitM _ _ _ _ _).mono ?_
    rintro e w1 ⟨rfl, hb1⟩
    rw [H.out]
    go_wp2
    go_ret
    exact ⟨rfl, (((Below.refl _ _).alloc (Nat.le_refl _) _).alloc (by simp) _).trans (hb1.mono (by simp; omega))⟩
  | true =>
    obtain ⟨n, a, b, rfl, rfl, rfl, rfl, hn, ha, hb⟩ := fit_nat hfit
    have h32 := fullN_le n hn
    rw [disT_yes hfit, ← dis_ones (fullN_lt a ha) (fullN_lt b hb)]
    have hxor := xor64 a b (by omega) (by omega)
    have hlt : a ^^^ b < 2 ^ 32 := Nat.xor_lt_two_pow (by omega) (by omega)
    have HP := Lib.hid (Tab.onesM (a ^^^ b) (by omega))
    have H := Lib.hid hfit
    clear hfit
    generalize a ^^^ b = c at *
    go_enter Try.func19, Try.ntmps19
    go_wp2_with fail
    refine (Tab.fitM _ _ _ _ _).mono ?_
    rintro e w1 ⟨rfl, hb1⟩
    obtain ⟨hc1, hf1⟩ := bcell hb1
    have hz : w.heap.size + 1 < w1.heap.size := by have := hb1.size; simp at this; omega
    rw [H.out]
    go_wp2_with fail
    try rw [hxor]
    refine (HP.out _).mono ?_
    rintro e w2 ⟨rfl, rfl⟩
    go_wp2
    go_ret
    exact ⟨rfl, (((Below.refl _ _).alloc (Nat.le_refl _) _).alloc (by simp) _).trans (hb1.mono (by simp; omega))⟩

/-- What NearestAffine answers: the set, the constant, the distance. -/
def Plain.nrT (n a : Int) : Int × Int × Int × Bool :=
  if isT n a = true then (((nrJ n.toNat a.toNat (2 * 2 ^ n.toNat) / 2 : Nat) : Int), ((nrJ n.toNat a.toNat (2 * 2 ^ n.toNat) % 2 : Nat) : Int), (nrD n.toNat a.toNat (nrJ n.toNat a.toNat (2 * 2 ^ n.toNat)) : Int), true) else (0, 0, 0, false)
theorem nrT_yes {n a : Nat} (h : isT n a = true) : nrT n a = (((nrJ n a (2 * 2 ^ n) / 2 : Nat) : Int), ((nrJ n a (2 * 2 ^ n) % 2 : Nat) : Int), (nrD n a (nrJ n a (2 * 2 ^ n)) : Int), true) := if_pos h
theorem nrT_no {n a : Int} (h : isT n a = false) : nrT n a = (0, 0, 0, false) := if_neg (by rw [h]; decide)

theorem Nea.model_no (n a : Int) (ht : isT n a = false) (w : World) :
    Calls Try.prog 15 #[.agg #[.int .i64 n, .int .i64 a]] w fun e w' => e = .returned (.tuple #[.int .i64 0, .int .i64 0, .int .i64 0, .bool false]) ∧ Below w.heap.size w w' := by
  have H := Lib.hid ht
  clear ht
  go_enter Try.func15, Try.ntmps15
  go_wp2_with fail
  refine (Tab.model _ _ _).mono ?_
  rintro e w1 ⟨rfl, hb1⟩
  rw [H.out]
  go_wp2
  exact bodyPost_ret (v := .tuple #[.int .i64 0, .int .i64 0, .int .i64 0, .bool false]) (by simp [results, Try.results15, go_sem]) rfl ⟨rfl, ((Below.refl _ _).alloc (Nat.le_refl _) _).trans (hb1.mono (by simp))⟩

theorem Aff.word' (n u b : Nat) (hn : n ≤ 5) (hu : u < 32) (hb : b < 2) (w : World) :
    Calls Try.prog 24 #[.int .i64 n, .int .i64 u, .int .i64 b] w fun e w' => e = .returned (.int .i64 (affW n u b : Int)) ∧ w' = w :=
  (Aff.word n u b hn hu hb w).mono fun e w' h => ⟨h.1, h.2.symm⟩
theorem Tab.onesM' (v : Nat) (hv : (v : Int) ≤ 4294967295) (w : World) :
    Calls Try.prog 31 #[.int .i64 v] w fun e w' => e = .returned (.int .i64 (popN v : Int)) ∧ w' = w :=
  (Tab.onesM v hv w).mono fun e w' h => ⟨h.1, h.2.symm⟩

set_option maxRecDepth 100000 in
set_option maxHeartbeats 4000000 in
theorem Nea.model_yes (n a : Nat) (hn : n ≤ 5) (ht : isT n a = true) (ha : a < 2 ^ 2 ^ n) (ha4 : (a : Int) ≤ 4294967295) (w : World) :
    Calls Try.prog 15 #[.agg #[.int .i64 n, .int .i64 a]] w fun e w' => e = .returned (.tuple #[.int .i64 ((nrJ n a (2 * 2 ^ n) / 2 : Nat) : Int), .int .i64 ((nrJ n a (2 * 2 ^ n) % 2 : Nat) : Int), .int .i64 (nrD n a (nrJ n a (2 * 2 ^ n)) : Int), .bool true]) ∧ Below w.heap.size w w' := by
  have H := Lib.hid ht
  have HW := Lib.hid (fun (u b : Nat) (hu : u < 32) (hb : b < 2) => Aff.word' n u b hn hu hb)
  have HP := Lib.hid (fun (v : Nat) (hv : (v : Int) ≤ 4294967295) => Tab.onesM' v hv)
  have HD := Lib.hid (fun (u b : Nat) => dis_aff (n := n) u b ha)
  have h22 : (2 : Nat) ^ 2 ^ n ≤ 2 ^ 32 := Nat.pow_le_pow_right (by decide) (Nat.pow_le_pow_right (n := 2) (by decide) hn)
  have HAL : Hid (∀ u b, affW n u b < 4294967296) := Lib.hid (fun u b => Nat.lt_of_lt_of_le (affW_lt n u b) h22)
  obtain ⟨hp1, hp2⟩ := two_pow_int n hn
  have hM : (2 : Int) ^ n = ((2 ^ n : Nat) : Int) := up2 n
  have hsh : IntKind.i64.wrap ((2 : Int) ^ n) = ((2 ^ n : Nat) : Int) := by rw [IntKind.wrap_i64]; omega
  have hsh64 : wrap64 ((2 : Int) ^ n) = ((2 ^ n : Nat) : Int) := by rw [hM]; exact IntWalk.wrap64_in _ ⟨by omega, by omega⟩
  have hM32 : ((2 ^ n : Nat) : Int) ≤ 32 := by omega
  have hM1 : 1 ≤ ((2 ^ n : Nat) : Int) := by omega
  have hn5 : (n : Int) ≤ 5 := by omega
  have HN := Lib.hid hn
  have HS : Hid (nrS n a (2 * 2 ^ n) = nrD n a (nrJ n a (2 * 2 ^ n))) := Lib.hid (if_neg (by omega))
  rw [← HS.out]
  clear ht ha hn h22 hp1 hp2 hM HS
  generalize hMM : 2 ^ n = M at *
  go_enter Try.func15, Try.ntmps15
  go_wp2_with fail
  refine (Tab.model _ _ _).mono ?_
  rintro e w1 ⟨rfl, hb1⟩
  rw [H.out]
  have c0 : w1.cell? ⟨w.heap.size, 0, none⟩ = some (.int .i64 n) := (hb1.cell (by simp)).trans (keepN rfl rfl)
  have c1 : w1.cell? ⟨w.heap.size, 1, none⟩ = some (.int .i64 a) := (hb1.cell (by simp)).trans (keepN rfl rfl)
  have HB := Lib.hid (((Below.refl w.heap.size w).alloc (Nat.le_refl _) _).trans (hb1.mono (by simp)))
  clear hb1
  go_wp2_with fail
  go_loopw [6, 7, 8, 9] (fun u b s v wr => ∃ k : Nat, v = .int .i64 (k : Int) ∧ k ≤ M ∧ u = .int .i64 ((nrJ n a (2 * k) / 2 : Nat) : Int) ∧ b = .int .i64 ((nrJ n a (2 * k) % 2 : Nat) : Int) ∧ s = .int .i64 (nrS n a (2 * k) : Int) ∧ wr.cell? ⟨w.heap.size, 0, none⟩ = some (.int .i64 n) ∧ wr.cell? ⟨w.heap.size, 1, none⟩ = some (.int .i64 a) ∧ Below w.heap.size w wr) (fun _ _ _ v _ => M - (intOf v).toNat)
  case atStart => exact ⟨0, rfl, by omega, by simp [Plain.nrJ], by simp [Plain.nrJ], by simp [Plain.nrS], c0, c1, HB.out⟩
  case round =>
    obtain ⟨k, rfl, hk, rfl, rfl, rfl, d0, d1, hbel⟩ := hrel
    have HBR := Lib.hid hbel
    clear hbel c0 c1
    by_cases hlt : k < M
    · have hlz : (k : Int) < (M : Int) := by omega
      go_wp2_with fail
      go_loopw [6, 7, 8, 10] (fun u b s c wx => ∃ j : Nat, c = .int .i64 (j : Int) ∧ j ≤ 2 ∧ u = .int .i64 ((nrJ n a (2 * k + j) / 2 : Nat) : Int) ∧ b = .int .i64 ((nrJ n a (2 * k + j) % 2 : Nat) : Int) ∧ s = .int .i64 (nrS n a (2 * k + j) : Int) ∧ wx.cell? ⟨w.heap.size, 0, none⟩ = some (.int .i64 n) ∧ wx.cell? ⟨w.heap.size, 1, none⟩ = some (.int .i64 a) ∧ Below w.heap.size w wx) (fun _ _ _ c _ => 2 - (intOf c).toNat)
      case atStart => exact ⟨0, rfl, by omega, rfl, rfl, rfl, d0, d1, HBR.out⟩
      case round =>
        obtain ⟨j, rfl, hj, rfl, rfl, rfl, e0, e1, hbel⟩ := hrel
        have HBX := Lib.hid hbel
        clear hbel d0 d1
        by_cases hjl : j < 2
        · have hjz : (j : Int) < 2 := by omega
          have HW1 := Lib.hid (HW.out k j (by omega) hjl)
          have hal := HAL.out k j
          have hxl : a ^^^ affW n k j < 2 ^ 32 := Nat.xor_lt_two_pow (by omega) (by omega)
          have hxor := xor64 a (affW n k j) (by omega) (by omega)
          have HP1 := Lib.hid (HP.out (a ^^^ affW n k j) (by omega))
          have hd : popN (a ^^^ affW n k j) = nrD n a (2 * k + j) := by
            rw [HD.out]; unfold Plain.nrD; rw [show (2 * k + j) / 2 = k by omega, show (2 * k + j) % 2 = j by omega, hMM]
          have hdl := nrD_le HN.out a (2 * k + j)
          have hsl := nrS_le HN.out a (2 * k + j)
          have HON := Lib.hid (nrS_on (n := n) (a := a) (k := 2 * k + j) HN.out)
          have HOFF := Lib.hid (nrS_off (n := n) (a := a) (k := 2 * k + j) HN.out)
          rw [hd] at HP1
          have HJ : Hid ((2 * k + j) / 2 = k ∧ (2 * k + j) % 2 = j) := Lib.hid ⟨by omega, by omega⟩
          generalize hK1 : 2 * k + j + 1 = K1 at *
          generalize a ^^^ affW n k j = ax at *
          generalize affW n k j = af at *
          generalize nrD n a (2 * k + j) = D at *
          generalize nrS n a (2 * k + j) = S at *
          generalize nrJ n a (2 * k + j) = J at *
          clear hd
          go_wp2
          go_quiet (first
            | (go_at_call 24; exact Calls.quiet_of_same (HW1.out _))
            | (go_at_call 31; (try rw [hxor]); exact Calls.quiet_of_same (HP1.out _)))
          by_cases hDS : D < S
          · have hds : (D : Int) < (S : Int) := by omega
            obtain ⟨g1, g2⟩ := HON.out hDS
            have HG1 := Lib.hid g1
            have HG2 := Lib.hid g2
            clear g1 g2
            go_wp2
            go_roundw
            case rel => exact ⟨j + 1, by go_num, by omega, by rw [← Nat.add_assoc, hK1, HG1.out, HJ.out.1], by rw [← Nat.add_assoc, hK1, HG1.out, HJ.out.2], by rw [← Nat.add_assoc, hK1, HG2.out], e0, e1, below_drewN HBX.out _⟩
            case measure => simp [intOf] <;> omega
          · have hds : ¬ (D : Int) < (S : Int) := by omega
            obtain ⟨g1, g2⟩ := HOFF.out hDS
            have HG1 := Lib.hid g1
            have HG2 := Lib.hid g2
            clear g1 g2
            go_wp2
            go_roundw
            case rel => exact ⟨j + 1, by go_num, by omega, by rw [← Nat.add_assoc, hK1, HG1.out], by rw [← Nat.add_assoc, hK1, HG1.out], by rw [← Nat.add_assoc, hK1, HG2.out], e0, e1, below_drewN HBX.out _⟩
            case measure => simp [intOf] <;> omega
        · obtain rfl : j = 2 := by omega
          go_wp2
          go_roundw
          case rel => exact ⟨k + 1, by go_num, by omega, by rw [Nat.mul_succ], by rw [Nat.mul_succ], by rw [Nat.mul_succ], e0, e1, HBX.out⟩
          case measure => simp [intOf] <;> omega
    · obtain rfl : k = M := by omega
      have hlz : ¬ (k : Int) < (k : Int) := by omega
      go_wp2
      exact bodyPost_ret (v := .tuple #[.int .i64 ((nrJ n a (2 * k) / 2 : Nat) : Int), .int .i64 ((nrJ n a (2 * k) % 2 : Nat) : Int), .int .i64 (nrS n a (2 * k) : Int), .bool true]) (by simp [results, Try.results15, go_sem]) rfl ⟨rfl, HBR.out⟩

end Go.Proofs.Ytbkkohkigpkddaa
