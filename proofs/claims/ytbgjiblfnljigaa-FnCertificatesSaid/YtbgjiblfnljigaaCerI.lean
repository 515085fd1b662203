/-
  Chapter 9, the program: IsCertificate, certificatesAt, firstLeast, CertificateSet, CertificateAt.
-/
import Derived.Test.YtbgjiblfnljigaaCerP
import Derived.Shelf.Abstract
namespace Go.Proofs.Ytbgjiblfnljigaa
open Go.RowKit Plain
set_option linter.unusedVariables false

/-- What IsCertificate answers. -/
def Plain.isCer (n a x m : Int) : Bool := isT n a && (decide (0 ≤ x ∧ x < 2 ^ n.toNat) && (decide (0 ≤ m ∧ m < 2 ^ n.toNat) && certB n.toNat a.toNat x.toNat m.toNat))
theorem isCer_no1 {n a x m : Int} (h : isT n a = false) : isCer n a x m = false := by unfold Plain.isCer; rw [h]; rfl
theorem isCer_no2 {n a : Nat} {x m : Int} (h : ¬ (0 ≤ x ∧ x < 2 ^ n)) : isCer n a x m = false := by
  unfold Plain.isCer; rw [Int.toNat_natCast, decide_eq_false h]; simp
theorem isCer_no3 {n a : Nat} {x m : Int} (h : ¬ (0 ≤ m ∧ m < 2 ^ n)) : isCer n a x m = false := by
  unfold Plain.isCer; rw [Int.toNat_natCast, decide_eq_false h]; simp
theorem isCer_in {n a x m : Nat} (ht : isT n a = true) (hx : (x : Int) < 2 ^ n) (hm : (m : Int) < 2 ^ n) : isCer n a x m = certB n a x m := by
  unfold Plain.isCer
  rw [ht, Int.toNat_natCast, decide_eq_true ⟨by omega, hx⟩, decide_eq_true ⟨by omega, hm⟩]; rfl

theorem and_small {n x m : Nat} (hn : n ≤ 5) (hx : (x : Int) < 2 ^ n) (hm : (m : Int) < 2 ^ n) : Go.bits .and .i64 (x : Int) (m : Int) = ((x &&& m : Nat) : Int) := by
  obtain ⟨hp1, hp2⟩ := two_pow_int n hn
  exact and64 x m (by omega) (by omega)

set_option maxRecDepth 100000 in
/-- IsCertificate of the program. -/
theorem IsCer.impl (n a x m : Int) (hb : -9223372036854775808 ≤ a ∧ a ≤ 9223372036854775807) (w : World) :
    Calls Try.prog 34 #[.agg #[.int .i64 n, .int .i64 a], .int .i64 x, .int .i64 m] w fun e w' => e = .returned (.bool (isCer n a x m)) ∧ Below w.heap.size w w' := by
  cases ht : isT n a with
  | false =>
    rw [isCer_no1 ht]
    have H := Lib.hid ht
    have HB := Lib.hid hb
    clear ht hb
    go_enter Try.func34, Try.ntmps34
    go_wp2_with fail
    refine (Tab.impl _ _ HB.out _).mono ?_
    rintro e w1 ⟨rfl, hb1⟩
    obtain ⟨hc, hf⟩ := bcell hb1
    have hz0_w1 : w.heap.size < w1.heap.size := by have := hb1.size; simp at this; omega
    rw [H.out]
    go_wp2
    go_ret
    exact ⟨rfl, bB hb1 (by simp) (bA (Nat.le_refl _) (Below.refl _ _))⟩
  | true =>
    obtain ⟨n, a, rfl, rfl, hn, ha⟩ := isT_nat ht
    have HB := Lib.hid hb
    have H := Lib.hid ht
    have HN := Lib.hid hn
    by_cases hx : 0 ≤ x ∧ x < 2 ^ n
    · by_cases hm : 0 ≤ m ∧ m < 2 ^ n
      · obtain ⟨x, rfl⟩ := Int.eq_ofNat_of_zero_le hx.1
        obtain ⟨m, rfl⟩ := Int.eq_ofNat_of_zero_le hm.1
        rw [isCer_in ht hx.2 hm.2]
        have HC := Lib.hid (Tab.cubI_yes n a m (x &&& m) ht hn (by have := fullN_le n hn; omega) hm.2 (and_twice x m))
        have HE := Lib.hid (certB_ne n a x m)
        have hand := and_small hn hx.2 hm.2
        have HX := Lib.hid (inpB_yes hx)
        have HM := Lib.hid (inpB_yes hm)
        generalize hK : cubV n a m (x &&& m) = K at *
        generalize certB n a x m = c at *
        have HE2 : Hid (((K : Int) != 2) = c) := HE
        clear ht hb hn ha hx hm
        go_enter Try.func34, Try.ntmps34
        go_wp2_with fail
        refine (Tab.impl _ _ HB.out _).mono ?_
        rintro e w1 ⟨rfl, hb1⟩
        obtain ⟨hc, hf⟩ := bcell hb1
        have hz0_w1 : w.heap.size < w1.heap.size := by have := hb1.size; simp at this; omega
        rw [H.out]
        go_wp2_with fail
        refine (Tab.input _ _ HN.out _).mono ?_
        rintro e w2 ⟨rfl, rfl⟩
        rw [HX.out]
        go_wp2_with fail
        refine (Tab.input _ _ HN.out _).mono ?_
        rintro e w2 ⟨rfl, rfl⟩
        rw [HM.out]
        go_wp2_with fail
        refine (HC.out _).mono ?_
        rintro e w3 ⟨rfl, hb3⟩
        go_wp2
        go_ret
        exact ⟨ret_bool HE2.out, bB hb3 (by omega) (bB hb1 (by simp) (bA (Nat.le_refl _) (Below.refl _ _)))⟩
      · rw [isCer_no3 hm]
        have HX := Lib.hid (inpB_yes hx)
        have HM := Lib.hid (inpB_no hm)
        clear ht hb hn ha hx hm
        go_enter Try.func34, Try.ntmps34
        go_wp2_with fail
        refine (Tab.impl _ _ HB.out _).mono ?_
        rintro e w1 ⟨rfl, hb1⟩
        obtain ⟨hc, hf⟩ := bcell hb1
        have hz0_w1 : w.heap.size < w1.heap.size := by have := hb1.size; simp at this; omega
        rw [H.out]
        go_wp2_with fail
        refine (Tab.input _ _ HN.out _).mono ?_
        rintro e w2 ⟨rfl, rfl⟩
        rw [HX.out]
        go_wp2_with fail
        refine (Tab.input _ _ HN.out _).mono ?_
        rintro e w2 ⟨rfl, rfl⟩
        rw [HM.out]
        go_wp2
        go_ret
        exact ⟨rfl, bB hb1 (by simp) (bA (Nat.le_refl _) (Below.refl _ _))⟩
    · rw [isCer_no2 hx]
      have HX := Lib.hid (inpB_no hx)
      clear ht hb hn ha hx
      go_enter Try.func34, Try.ntmps34
      go_wp2_with fail
      refine (Tab.impl _ _ HB.out _).mono ?_
      rintro e w1 ⟨rfl, hb1⟩
      obtain ⟨hc, hf⟩ := bcell hb1
      have hz0_w1 : w.heap.size < w1.heap.size := by have := hb1.size; simp at this; omega
      rw [H.out]
      go_wp2_with fail
      refine (Tab.input _ _ HN.out _).mono ?_
      rintro e w2 ⟨rfl, rfl⟩
      rw [HX.out]
      go_wp2
      go_ret
      exact ⟨rfl, bB hb1 (by simp) (bA (Nat.le_refl _) (Below.refl _ _))⟩

set_option maxRecDepth 100000 in
set_option maxHeartbeats 1000000 in
/-- certificatesAt: the certificates in ascending order. -/
theorem CerL.any (n a x : Nat) (hn : n ≤ 5) (ht : isT n a = true) (ha : (a : Int) ≤ 4294967295) (hx : (x : Int) < 2 ^ n) (w : World) :
    Calls Try.prog 65 #[.agg #[.int .i64 n, .int .i64 a], .int .i64 x] w fun e w' => ∃ v, e = .returned v ∧ IntRow w' w.heap.size v (certL n a x (2 ^ n)) ∧ Below w.heap.size w w' := by
  have H := Lib.hid ht
  have HN := Lib.hid hn
  have HX := Lib.hid hx
  obtain ⟨hp1, hp2⟩ := two_pow_int n hn
  have HC := Lib.hid (Tab.count n hn)
  have hn5 : (n : Int) ≤ 5 := by omega
  clear ht hn hx
  go_enter Try.func65, Try.ntmps65
  go_wp2_with fail
  refine (HC.out _).mono ?_
  rintro e w1 ⟨rfl, rfl⟩
  go_wp2_with fail
  go_loopw [5, 6, 10] (fun s _ i wr => ∃ (k : Nat) (v : Value), i = .int .i64 (k : Int) ∧ s = v ∧ (k : Int) ≤ 2 ^ n ∧ IntRow wr (w.heap.size + 1) v (certL n a x k) ∧ Below (w.heap.size + 1) (w.alloc (.cells #[.int .i64 n, .int .i64 a] 25)) wr ∧ w.heap.size + 1 ≤ wr.heap.size) (fun _ _ i _ => 32 - (intOf i).toNat)
  case atStart => exact ⟨0, _, rfl, rfl, by omega, ⟨by simp [intsV, Plain.certL], .inl ⟨rfl, rfl⟩⟩, by simpa using Below.refl _ _, by simp⟩
  case round =>
    obtain ⟨k, v, rfl, rfl, hk, hrow, hbel, hsz⟩ := hrel
    have c0 : wr.cell? ⟨w.heap.size, 0, none⟩ = some (.int .i64 n) := (hbel.cell (by dsimp only; omega)).trans (keepN rfl rfl)
    have c1 : wr.cell? ⟨w.heap.size, 1, none⟩ = some (.int .i64 a) := (hbel.cell (by dsimp only; omega)).trans (keepN rfl rfl)
    have HROW := Lib.hid hrow
    have HBEL := Lib.hid hbel
    clear hrow hbel
    by_cases hlt : (k : Int) < 2 ^ n
    · have HI := Lib.hid (IsCer.impl n a x k (by omega))
      rw [isCer_in H.out HX.out hlt] at HI
      have hvl := certL_len n a x k
      cases hd : certB n a x k with
      | true =>
        have HV := Lib.hid (certL_yes hd)
        rw [hd] at HI
        clear hd
        go_wp2_with fail
        refine (HI.out _).mono ?_
        rintro e w2 ⟨rfl, hb2⟩
        have hsz2 := hb2.size
        have HR2 := Lib.hid (HROW.out.below hb2)
        have HB2 := Lib.hid (HBEL.out.trans (hb2.mono hsz))
        clear hb2
        go_wp2_with (at_builtin; go_must (refine wp_int rfl _ _ rfl (w.heap.size + 1) _ w2 _ _ (k : Int) _ HR2.out HB2.out (by omega) (by omega) rfl rfl rfl ?_; intro v1 w4 k1 k2 k3))
        have hsz4 := k3.size
        go_roundw
        case rel => exact ⟨k + 1, v1, by go_num, rfl, by omega, by rw [HV.out]; exact k1, k2, by omega⟩
        case measure => simp [intOf] <;> omega
      | false =>
        have HV := Lib.hid (certL_no hd)
        rw [hd] at HI
        clear hd
        go_wp2_with fail
        refine (HI.out _).mono ?_
        rintro e w2 ⟨rfl, hb2⟩
        have hsz2 := hb2.size
        have HR2 := Lib.hid (HROW.out.below hb2)
        have HB2 := Lib.hid (HBEL.out.trans (hb2.mono hsz))
        clear hb2
        go_wp2_with fail
        go_roundw
        case rel => exact ⟨k + 1, _, by go_num, rfl, by omega, by rw [HV.out]; exact HR2.out, HB2.out, by omega⟩
        case measure => simp [intOf] <;> omega
    · have he : k = 2 ^ n := by rw [up2] at hk hlt; omega
      have HE : Hid (certL n a x k = certL n a x (2 ^ n)) := Lib.hid (by rw [he])
      clear he
      go_wp2
      go_ret
      exact ⟨_, rfl, HE.out ▸ HROW.out.base (by omega), ((Below.refl _ _).alloc (Nat.le_refl _) _).trans (HBEL.out.mono (by omega))⟩

end Go.Proofs.Ytbgjiblfnljigaa
