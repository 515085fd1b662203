/-
  Chapter 8: PlayAgainst of the model.
-/
import Derived.Test.YtdhdkonokbkdoaaAdvG
import Derived.Test.YtdhdkonokbkdoaaAdvK
namespace Go.Proofs.Ytdhdkonokbkdoaa
open Go.RowKit Plain
set_option linter.unusedVariables false

theorem shl_all64 : ∀ r < 2, ∀ i < 4, wrap64 (((r : Nat) : Int) * 2 ^ i) = ((r * 2 ^ i : Nat) : Int) := by decide +kernel
theorem one_shl64 : ∀ i < 4, wrap64 ((2 : Int) ^ i) = ((2 ^ i : Nat) : Int) := by decide +kernel

theorem knB_zero (n a : Int) : knB n a 0 0 = btB n a := by
  unfold Plain.knB Plain.btB
  have h : (cubOk n a 0 0 ∧ n ≤ 4) ↔ (isT n a = true ∧ n ≤ 4) := by
    constructor
    · rintro ⟨⟨h1, _⟩, h2⟩; exact ⟨h1, h2⟩
    · rintro ⟨h1, h2⟩; exact ⟨⟨h1, ⟨by omega, Int.pow_pos (by decide)⟩, by omega, rfl⟩, h2⟩
  rw [decide_eq_decide.2 h, Bool.decide_and]
  congr 1
  simp

set_option maxRecDepth 100000 in
set_option maxHeartbeats 2000000 in
theorem Pla.model_yes (n a : Nat) (ad : Option Addr) (cl cap : Nat) (l : List Int) (hn : n ≤ 4) (ha : a ≤ fullN n) (hp : permB l n = true) (w : World) (hv : IntsIn w (.slice ad cl cap) l) :
    Calls Try.prog 12 #[.agg #[.int .i64 (n : Int), .int .i64 (a : Int)], .slice ad cl cap] w fun e w' => e = .returned (.int .i64 (played n a l : Int)) ∧ Below w.heap.size w w' := by
  have HV := Lib.hid hv
  have HF : Hid (∀ w, Calls Try.prog 34 #[.agg #[.int .i64 (n : Int), .int .i64 (a : Int)], .int .i64 0, .int .i64 0] w fun e w' => e = .returned (.bool true) ∧ Below w.heap.size w w') := Lib.hid fun w => by
    have := Fine.any n a 0 0 w
    rw [show knB n a 0 0 = true from knB_in (m := 0) (v := 0) hn ha (Nat.pow_pos (by decide)) (by simp)] at this
    exact this
  have HO := Lib.hid (fun w h => Tab.ordM n (by omega) ad cl cap l w h)
  rw [hp] at HO
  have hll := (permB_iff.1 hp).1
  have h16 : 2 ^ n ≤ 16 := Nat.pow_le_pow_right (n := 2) (by decide) hn
  obtain ⟨ad', cap', he, hl2, hbd, hrd⟩ := hv
  simp only [Value.slice.injEq] at he
  obtain ⟨rfl, rfl, rfl⟩ := he
  have HRD := Lib.hid hrd
  have HSTEP := Lib.hid (fun t ht hlt => gm_step (a := a) (t := t) hn hp ht hlt)
  have HEND := Lib.hid (fun t hlt => gm_end (n := n) (a := a) (l := l) (t := t) hlt)
  have HCUB : Hid (∀ t, t ≤ n → ∀ w, Calls Try.prog 36 #[.agg #[.int .i64 (n : Int), .int .i64 (a : Int)], .int .i64 ((gm n a l t).1 : Int), .int .i64 ((gm n a l t).2 : Int)] w fun e w' => e = .returned (.int .i64 (cubV n a (gm n a l t).1 (gm n a l t).2)) ∧ Below w.heap.size w w') := Lib.hid fun t ht w => Tab.cubM_loop n a _ _ (by omega) (table_word hn ha) (by have := (gm_ok (a := a) hn hp t ht).lt; rw [up2]; omega) (gm_ok hn hp t ht).sub w
  have HADV : Hid (∀ t, t ≤ n → 2 ≤ cubV n a (gm n a l t).1 (gm n a l t).2 → ∀ w, Calls Try.prog 16 #[.agg #[.int .i64 (n : Int), .int .i64 (a : Int)], .int .i64 ((gm n a l t).1 : Int), .int .i64 ((gm n a l t).2 : Int), .int .i64 (l.getD t 0)] w fun e w' => e = .returned (.int .i64 (advN n a (gm n a l t).1 (gm n a l t).2 (pAt l t) : Int)) ∧ Below w.heap.size w w') := Lib.hid fun t ht hlt w => by
    obtain ⟨h1, h2, h3, h4, h5, _⟩ := gm_step hn hp ht (show ¬ cubV n a (gm n a l t).1 (gm n a l t).2 < 2 by omega)
    rw [← h3]
    exact Adv.at n a _ _ _ hn ha (gm_ok hn hp t ht).lt (gm_ok hn hp t ht).sub h2 h4 w
  have HB16 : Hid (∀ t, t ≤ n → (gm n a l t).1 < 16 ∧ (gm n a l t).2 < 16) := Lib.hid fun t ht => by
    have ok := gm_ok (a := a) hn hp t ht
    have h1 : (gm n a l t).1 < 16 := Nat.lt_of_lt_of_le ok.lt h16
    exact ⟨h1, Nat.lt_of_le_of_lt (by rw [← ok.sub]; exact Nat.and_le_right) h1⟩
  have HTWO : Hid (∀ t, t ≤ n → cubV n a (gm n a l t).1 (gm n a l t).2 < 2 ∨ cubV n a (gm n a l t).1 (gm n a l t).2 = 2) := Lib.hid fun t _ => by
    cases h : cubX a (gm n a l t).1 (gm n a l t).2 (2 ^ n) with
    | true => exact .inr (cubV_mixed h)
    | false => left; rw [cubV_same h]; have := bitN_lt a (gm n a l t).2; omega
  have hn4 : (n : Int) ≤ 4 := by omega
  have HLL := Lib.hid hll
  clear hll hbd hrd ha hp h16
  go_enter Try.func12, Try.ntmps12
  go_wp2_with fail
  refine (HF.out _).mono ?_
  rintro e w1 ⟨rfl, hb1⟩
  have HX1 := Lib.hid (blockB hb1 (heap_alloc_new w _))
  obtain ⟨c0, c1, f0, f1⟩ := cells2 HX1.out
  have HB1 : Hid (Below w.heap.size w w1) := Lib.hid (bB hb1 (by simp) (bA (Nat.le_refl _) (Below.refl _ _)))
  clear hb1
  go_wp2_with fail
  refine (HO.out _ (HV.out.below HB1.out)).mono ?_
  rintro e w2 ⟨rfl, hb2⟩
  have HX2 := Lib.hid (blockB hb2 HX1.out)
  have hs1 := HB1.out.size
  have HB2 : Hid (Below w.heap.size w w2) := Lib.hid (bB hb2 (by omega) HB1.out)
  clear hb2 c0 c1 f0 f1
  go_wp2_with fail
  go_loopw [5, 6, 7, 8] (fun m v x _ wr => ∃ t : Nat, m = .int .i64 ((gm n a l t).1 : Int) ∧ v = .int .i64 ((gm n a l t).2 : Int) ∧ x = .int .i64 (t : Int) ∧ t ≤ n ∧ plN n a l (n - t) t = played n a l ∧ wr.heap[w.heap.size]? = some (.cells #[.int .i64 (n : Int), .int .i64 (a : Int)] 25 (0, 0)) ∧ Below w.heap.size w wr) (fun _ _ x _ _ => n - (intOf x).toNat)
  case atStart => exact ⟨0, rfl, rfl, rfl, Nat.zero_le _, rfl, HX2.out, HB2.out⟩
  case round =>
    obtain ⟨t, rfl, rfl, rfl, ht, hpl, hx, hbel⟩ := hrel
    have HX := Lib.hid hx
    have HB := Lib.hid hbel
    have hbr : w.heap.size < wr.heap.size := lt_of_block hx
    have HC := Lib.hid (HCUB.out t ht)
    have htz : (t : Int) ≤ (n : Int) := by omega
    obtain ⟨c0, c1, f0, f1⟩ := cells2 hx
    clear hx hbel
    rcases HTWO.out t ht with hlt | h2
    · have HE : Hid (t = played n a l) := Lib.hid (by rw [← hpl, HEND.out t hlt])
      have hne : (cubV n a (gm n a l t).1 (gm n a l t).2 == 2) = false := by rw [beq_eq_false_iff_ne]; omega
      clear hlt hpl
      generalize cubV n a (gm n a l t).1 (gm n a l t).2 = x at *
      go_wp2_with fail
      refine (HC.out _).mono ?_
      rintro e w3 ⟨rfl, hb3⟩
      go_wp2
      go_ret
      exact ⟨by rw [← HE.out]; rfl, bB hb3 (by omega) HB.out⟩
    · rw [h2] at HC
      obtain ⟨htn, hi1, hi2, _, _, hp6⟩ := HSTEP.out t ht (by omega)
      have HP6 : Hid (plN n a l (n - (t + 1)) (t + 1) = played n a l) := Lib.hid (by rw [← hp6, hpl])
      have HA := Lib.hid (fun w => HADV.out t ht (by omega) w)
      obtain ⟨g16, k16⟩ := HB16.out t ht
      have htl : t < l.length := by rw [HLL.out]; exact htn
      have hlz : (l.length : Int) = (n : Int) := by rw [HLL.out]
      obtain ⟨bo, off, rfl, hbo, hcl⟩ := HRD.out (by omega)
      have hcw : wr.cell? ⟨bo, off + t, none⟩ = some (.int .i64 (l.getD t 0)) := (HB.out.cell (p := ⟨bo, off + t, none⟩) hbo).trans (hcl t htl)
      have hbob : bo < wr.heap.size := by omega
      have htnz : (t : Int) < (l.length : Int) := by omega
      have HT1 : Hid (t + 1 ≤ n) := Lib.hid (by omega)
      have hr2 := advN_lt n a (gm n a l t).1 (gm n a l t).2 (pAt l t)
      have hi4 : pAt l t < 4 := by omega
      have h2i : 2 ^ pAt l t ≤ 8 := Nat.pow_le_pow_right (n := 2) (by decide) (show pAt l t ≤ 3 by omega)
      have hri : advN n a (gm n a l t).1 (gm n a l t).2 (pAt l t) * 2 ^ pAt l t ≤ 8 := by
        rcases (show advN n a (gm n a l t).1 (gm n a l t).2 (pAt l t) = 0 ∨ advN n a (gm n a l t).1 (gm n a l t).2 (pAt l t) = 1 by omega) with e | e <;> rw [e] <;> omega
      have HV2 : Hid (Go.bits .or .i64 ((gm n a l t).2 : Int) ((advN n a (gm n a l t).1 (gm n a l t).2 (pAt l t) * 2 ^ pAt l t : Nat) : Int) = ((gm n a l (t + 1)).2 : Int)) := Lib.hid (or64 _ _ (by omega) (by omega))
      have HM2 : Hid (Go.bits .or .i64 ((gm n a l t).1 : Int) ((2 ^ pAt l t : Nat) : Int) = ((gm n a l (t + 1)).1 : Int)) := Lib.hid (or64 _ _ (by omega) (by omega))
      have HS := Lib.hid (one_shl64 (pAt l t) hi4)
      have HR := Lib.hid (shl_all64 _ hr2 _ hi4)
      rw [← hi2] at hcw HA
      have hi4z : (pAt l t : Int) < 4 := by omega
      have hr2z : (advN n a (gm n a l t).1 (gm n a l t).2 (pAt l t) : Int) < 2 := by omega
      clear hp6 hpl hcl hi1 hi2 g16 k16 h2i hri hr2 h2
      generalize advN n a (gm n a l t).1 (gm n a l t).2 (pAt l t) = r at *
      generalize pAt l t = i at *
      generalize ((r * 2 ^ i : Nat) : Int) = vi at *
      generalize ((2 ^ i : Nat) : Int) = mi at *
      go_wp2_with fail
      refine (HC.out _).mono ?_
      rintro e w3 ⟨rfl, hb3⟩
      have hce3 : w3.cell? ⟨bo, off + t, none⟩ = some (.int .i64 (i : Int)) := (hb3.cell (p := ⟨bo, off + t, none⟩) hbob).trans hcw
      have HX3 := Lib.hid (blockB hb3 HX.out)
      have HB3 : Hid (Below w.heap.size w w3) := Lib.hid (bB hb3 (by omega) HB.out)
      have hs3 := hb3.size
      clear hb3 hcw c0 c1 f0 f1
      obtain ⟨c0, c1, f0, f1⟩ := cells2 HX3.out
      go_wp2_with fail
      refine (HA.out _).mono ?_
      rintro e w4 ⟨rfl, hb4⟩
      have HX4 := Lib.hid (blockB hb4 HX3.out)
      have HB4 : Hid (Below w.heap.size w w4) := Lib.hid (bB hb4 (by omega) HB3.out)
      clear hb4
      go_wp2
      go_roundw
      case rel => exact ⟨t + 1, by rw [HS.out, HM2.out], by rw [HR.out, HV2.out], by go_num, HT1.out, HP6.out, HX4.out, HB4.out⟩
      case measure => simp [intOf]; omega

set_option maxRecDepth 100000 in
/-- PlayAgainst of the model. -/
theorem Pla.model (n a : Int) (ad : Option Addr) (cl cap : Nat) (l : List Int) (w : World) (hv : IntsIn w (.slice ad cl cap) l) :
    Calls Try.prog 12 #[.agg #[.int .i64 n, .int .i64 a], .slice ad cl cap] w fun e w' => e = .returned (.int .i64 (plaT n a l)) ∧ Below w.heap.size w w' := by
  have HH := Lib.hid (Fine.any n a 0 0)
  rw [knB_zero] at HH
  cases hc : btB n a with
  | false =>
    rw [plaT_no (by rw [hc]; simp)]
    rw [hc] at HH
    clear hc hv
    go_enter Try.func12, Try.ntmps12
    go_wp2_with fail
    refine (HH.out _).mono ?_
    rintro e w1 ⟨rfl, hb1⟩
    obtain ⟨hc1, hf1⟩ := bcell hb1
    go_wp2
    go_ret
    exact ⟨rfl, bB hb1 (by simp) (bA (Nat.le_refl _) (Below.refl _ _))⟩
  | true =>
    rw [hc] at HH
    obtain ⟨m, x, rfl, rfl, hm, hx, _⟩ := btB_yes hc
    have HV := Lib.hid hv
    have HO := Lib.hid (fun w h => Tab.ordM m (by omega) ad cl cap l w h)
    cases hp : permB l m with
    | false =>
      rw [plaT_no (by rw [Int.toNat_natCast, hp]; simp)]
      rw [hp] at HO
      clear hp hc hv hx
      go_enter Try.func12, Try.ntmps12
      go_wp2_with fail
      refine (HH.out _).mono ?_
      rintro e w1 ⟨rfl, hb1⟩
      obtain ⟨c0, c1, f0, f1⟩ := cells2 (blockB hb1 (heap_alloc_new w _))
      have HB1 : Hid (Below w.heap.size w w1) := Lib.hid (bB hb1 (by simp) (bA (Nat.le_refl _) (Below.refl _ _)))
      clear hb1
      go_wp2_with fail
      refine (HO.out _ (HV.out.below HB1.out)).mono ?_
      rintro e w2 ⟨rfl, hb2⟩
      have hs1 := HB1.out.size
      go_wp2
      go_ret
      exact ⟨rfl, bB hb2 (by omega) HB1.out⟩
    | true =>
      rw [plaT_yes hc hp]
      exact Pla.model_yes m x ad cl cap l hm hx hp w hv

end Go.Proofs.Ytdhdkonokbkdoaa
