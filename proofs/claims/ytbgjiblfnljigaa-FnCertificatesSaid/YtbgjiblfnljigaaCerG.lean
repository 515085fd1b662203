/-
  Chapter 9, the program: firstLeast at setSize, CertificateSet, CertificateAt, CertificateOf.
-/
import Derived.Test.YtbgjiblfnljigaaCerF
namespace Go.Proofs.Ytbgjiblfnljigaa
open Go.RowKit Plain
set_option linter.unusedVariables false

theorem First.any (l : List Int) (v : Value) (h0 : 0 < l.length) (hx : ∀ x ∈ l, 0 ≤ x ∧ x ≤ 31) (w : World) (hi : IntsIn w v l) :
    Calls Try.prog 64 #[v, .func (.func 66) #[] #[]] w fun e w' => e = .returned (.int .i64 (minI (l.getD 0 0) l)) ∧ Below w.heap.size w w' := by
  have HI := Lib.hid hi
  have HX := Lib.hid hx
  have H0 := Lib.hid h0
  obtain ⟨q, hq⟩ : ∃ q, minI (l.getD 0 0) l = q := ⟨_, rfl⟩
  have HQ := Lib.hid hq
  rw [hq]
  clear hi hx h0 hq
  go_enter Try.func64, Try.ntmps64
  go_wp2_with fail
  refine (MinF.any l v H0.out HX.out 79 #[.pointer (some ⟨w.heap.size, 0, none⟩)] (enters_of Try.func79 (by kernel_rfl) rfl) _ (HI.out.below (bA (Nat.le_refl _) (Below.refl _ _))) ?gv).mono ?_
  case gv => exact fun W x y hx hy hb => Clo.least _ x y hx hy W (cellOn hb (by simp))
  rintro e w1 ⟨rfl, hb1⟩
  rw [HQ.out]
  go_wp2
  go_ret
  exact ⟨rfl, bB hb1 (by simp) (bA (Nat.le_refl _) (Below.refl _ _))⟩

/-- What CertificateSet answers. -/
def Plain.setOk (n a x : Int) : Prop := isT n a = true ∧ 0 ≤ x ∧ x < 2 ^ n.toNat
instance (n a x : Int) : Decidable (setOk n a x) := inferInstanceAs (Decidable (_ ∧ _ ∧ _))
def Plain.setT (n a x : Int) : Int × Bool := if setOk n a x then ((setN n.toNat a.toNat x.toNat : Int), true) else (0, false)
theorem setT_yes {n a x : Nat} (ht : isT n a = true) (hx : (x : Int) < 2 ^ n) : setT n a x = ((setN n a x : Int), true) := if_pos ⟨ht, by omega, hx⟩
theorem setT_no {n a x : Int} (h : ¬ setOk n a x) : setT n a x = (0, false) := if_neg h
/-- What CertificateAt answers. -/
def Plain.catT (n a x : Int) : Int := if setOk n a x then (popN (setN n.toNat a.toNat x.toNat) : Int) else -1
theorem catT_yes {n a x : Nat} (ht : isT n a = true) (hx : (x : Int) < 2 ^ n) : catT n a x = (popN (setN n a x) : Int) := if_pos ⟨ht, by omega, hx⟩
theorem catT_no {n a x : Int} (h : ¬ setOk n a x) : catT n a x = -1 := if_neg h

theorem certL_31 {n a x : Nat} (hn : n ≤ 5) : ∀ y ∈ certL n a x (2 ^ n), 0 ≤ y ∧ y ≤ 31 := by
  intro y hy
  obtain ⟨m, rfl, hm⟩ := certL_mem y hy
  have := two_pow_le n hn
  omega
theorem pow_nat {n x : Nat} : (x : Int) < 2 ^ n ↔ x < 2 ^ n := by rw [up2]; omega

set_option maxRecDepth 100000 in
/-- CertificateSet of the program. -/
theorem CerS.impl (n a x : Int) (hb : -9223372036854775808 ≤ a ∧ a ≤ 9223372036854775807) (w : World) :
    Calls Try.prog 31 #[.agg #[.int .i64 n, .int .i64 a], .int .i64 x] w fun e w' => e = .returned (.tuple #[.int .i64 (setT n a x).1, .bool (setT n a x).2]) ∧ Below w.heap.size w w' := by
  cases ht : isT n a with
  | false =>
    rw [setT_no fun h => by rw [h.1] at ht; exact absurd ht (by decide)]
    have H := Lib.hid ht
    have HB := Lib.hid hb
    clear ht hb
    go_enter Try.func31, Try.ntmps31
    go_wp2_with fail
    refine (Tab.impl _ _ HB.out _).mono ?_
    rintro e w1 ⟨rfl, hb1⟩
    obtain ⟨hc, hf⟩ := bcell hb1
    have hz0_w1 : w.heap.size < w1.heap.size := by have := hb1.size; simp at this; omega
    rw [H.out]
    go_wp2
    exact bodyPost_ret (v := .tuple #[.int .i64 0, .bool false]) (by simp [results, Try.results31, go_sem]) rfl ⟨rfl, bB hb1 (by simp) (bA (Nat.le_refl _) (Below.refl _ _))⟩
  | true =>
    obtain ⟨n, a, rfl, rfl, hn, ha⟩ := isT_nat ht
    have HB := Lib.hid hb
    have H := Lib.hid ht
    have HN := Lib.hid hn
    by_cases hx : 0 ≤ x ∧ x < 2 ^ n
    · obtain ⟨x, rfl⟩ := Int.eq_ofNat_of_zero_le hx.1
      rw [setT_yes ht hx.2]
      have hxn : x < 2 ^ n := pow_nat.1 hx.2
      have HX := Lib.hid (inpB_yes hx)
      have HL := Lib.hid (CerL.any n a x hn ht (by have := fullN_le n hn; omega) hx.2)
      have HF := Lib.hid (fun v w hi => First.any (certL n a x (2 ^ n)) v (certL_pos hxn) (certL_31 hn) w hi)
      rw [minI_set hxn] at HF
      have h31 := certL_31 (a := a) (x := x) hn
      have HI : Hid (∀ (w' : World) (B : Nat) (v : Value), IntRow w' B v (certL n a x (2 ^ n)) → IntsIn w' v (certL n a x (2 ^ n))) := Lib.hid fun w' B v h =>
        h.ints (by have := certL_len n a x (2 ^ n); have := two_pow_le n hn; omega) (fun y hy => by have := h31 y hy; omega)
      generalize setN n a x = q at *
      generalize certL n a x (2 ^ n) = l at *
      clear ht hb hn ha hx hxn h31
      go_enter Try.func31, Try.ntmps31
      go_wp2_with fail
      refine (Tab.impl _ _ HB.out _).mono ?_
      rintro e w1 ⟨rfl, hb1⟩
      have X1 := blockC hb1 (heap_alloc_new w _)
      obtain ⟨c0, c1, f0, f1⟩ := cells2 X1
      have hz1 : w.heap.size < w1.heap.size := lt_of_block X1
      rw [H.out]
      go_wp2_with fail
      refine (Tab.input _ _ HN.out _).mono ?_
      rintro e w2 ⟨rfl, rfl⟩
      rw [HX.out]
      go_wp2_with fail
      refine (HL.out _).mono ?_
      rintro e w2 ⟨v, rfl, hrow, hb2⟩
      have HR := Lib.hid (HI.out _ _ _ hrow)
      clear hrow
      go_wp2_with fail
      refine (HF.out _ _ HR.out).mono ?_
      rintro e w3 ⟨rfl, hb3⟩
      have hs2 := hb2.size
      go_wp2
      exact bodyPost_ret (v := .tuple #[.int .i64 (q : Int), .bool true]) (by simp [results, Try.results31, go_sem]) rfl ⟨rfl, bB hb3 (by omega) (bB hb2 (by omega) (bB hb1 (by simp) (bA (Nat.le_refl _) (Below.refl _ _))))⟩
    · rw [setT_no fun h => hx h.2]
      have HX := Lib.hid (inpB_no hx)
      clear ht hb hn ha hx
      go_enter Try.func31, Try.ntmps31
      go_wp2_with fail
      refine (Tab.impl _ _ HB.out _).mono ?_
      rintro e w1 ⟨rfl, hb1⟩
      obtain ⟨hc, hf⟩ := bcell hb1
      have hz0_w1 : w.heap.size < w1.heap.size := by have := hb1.size; simp at this; omega
      rw [H.out]
      go_wp2_with fail
      refine (Tab.input _ _ HN.out _).mono ?_
      rintro e w2 ⟨rfl, rfl⟩
      rw [HX.out]
      go_wp2
      exact bodyPost_ret (v := .tuple #[.int .i64 0, .bool false]) (by simp [results, Try.results31, go_sem]) rfl ⟨rfl, bB hb1 (by simp) (bA (Nat.le_refl _) (Below.refl _ _))⟩

set_option maxRecDepth 100000 in
/-- CertificateAt of the program. -/
theorem CerA.impl (n a x : Int) (hb : -9223372036854775808 ≤ a ∧ a ≤ 9223372036854775807) (w : World) :
    Calls Try.prog 33 #[.agg #[.int .i64 n, .int .i64 a], .int .i64 x] w fun e w' => e = .returned (.int .i64 (catT n a x)) ∧ Below w.heap.size w w' := by
  have HS := Lib.hid (CerS.impl n a x hb)
  by_cases h : setOk n a x
  · obtain ⟨n, a, rfl, rfl, hn, ha⟩ := isT_nat h.1
    obtain ⟨x, rfl⟩ := Int.eq_ofNat_of_zero_le h.2.1
    have hx : (x : Int) < 2 ^ n := h.2.2
    rw [catT_yes h.1 hx]
    rw [setT_yes h.1 hx] at HS
    have hl := setN_lt n a x
    have h32 := two_pow_le n hn
    have HZ := Lib.hid (SetSize.any (setN n a x) (by omega))
    generalize setN n a x = q at *
    generalize popN q = p at *
    clear h hb hn ha hx hl h32
    go_enter Try.func33, Try.ntmps33
    go_wp2_with fail
    refine (HS.out _).mono ?_
    rintro e w1 ⟨rfl, hb1⟩
    go_wp2_with fail
    refine (HZ.out _).mono ?_
    rintro e w2 ⟨rfl, rfl⟩
    go_wp2
    go_ret
    exact ⟨rfl, bB hb1 (by simp) (bA (Nat.le_refl _) (Below.refl _ _))⟩
  · rw [catT_no h]
    rw [setT_no h] at HS
    clear h hb
    go_enter Try.func33, Try.ntmps33
    go_wp2_with fail
    refine (HS.out _).mono ?_
    rintro e w1 ⟨rfl, hb1⟩
    go_wp2
    go_ret
    exact ⟨rfl, bB hb1 (by simp) (bA (Nat.le_refl _) (Below.refl _ _))⟩

end Go.Proofs.Ytbgjiblfnljigaa
