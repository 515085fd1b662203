/-
  Chapter 8: ForcedLeft, AdversaryAnswer, AskedOf and IsEvasive of the model.
-/
import Derived.Test.YtdhdkonokbkdoaaAdvJ
import Derived.Test.YtdhdkonokbkdoaaAdvM
namespace Go.Proofs.Ytdhdkonokbkdoaa
open Go.RowKit Plain
set_option linter.unusedVariables false

set_option maxRecDepth 100000 in
/-- ForcedLeft of the model. -/
theorem For.model (n a m v : Int) (w : World) :
    Calls Try.prog 23 #[.agg #[.int .i64 n, .int .i64 a], .int .i64 m, .int .i64 v] w fun e w' => e = .returned (.int .i64 (forT n a m v)) ∧ Below w.heap.size w w' := by
  have HK := Lib.hid (Fine.any n a m v)
  cases hc : knB n a m v with
  | false =>
    rw [forT_no hc]
    rw [hc] at HK
    clear hc
    go_enter Try.func23, Try.ntmps23
    go_wp2_with fail
    refine (HK.out _).mono ?_
    rintro e w1 ⟨rfl, hb1⟩
    go_wp2
    go_ret
    exact ⟨rfl, bB hb1 (by simp) (bA (Nat.le_refl _) (Below.refl _ _))⟩
  | true =>
    rw [hc] at HK
    obtain ⟨n, a, m, v, rfl, rfl, rfl, rfl, hn, ha, hm, hvm⟩ := knB_yes hc
    rw [forT_yes hc]
    have HL := Lib.hid (fun w => Lst.any n a hn (table_word hn ha) _ m v w hm hvm rfl)
    generalize mdl JD 10 n a (cntN n m) m v = r at *
    clear hc ha hm hvm
    go_enter Try.func23, Try.ntmps23
    go_wp2_with fail
    refine (HK.out _).mono ?_
    rintro e w1 ⟨rfl, hb1⟩
    obtain ⟨c0, c1, f0, f1⟩ := cells2 (blockB hb1 (heap_alloc_new w _))
    have hz : w.heap.size < w1.heap.size := by have := hb1.size; simp at this; omega
    go_wp2_with fail
    refine (HL.out _).mono ?_
    rintro e w2 ⟨rfl, hb2⟩
    go_wp2
    go_ret
    exact ⟨rfl, bB hb2 (by omega) (bB hb1 (by simp) (bA (Nat.le_refl _) (Below.refl _ _)))⟩

set_option maxRecDepth 100000 in
set_option maxHeartbeats 4000000 in
/-- AdversaryAnswer of the model, where it answers. -/
theorem Adv.at (n a m v i : Nat) (hn : n ≤ 4) (ha : a ≤ fullN n) (hm : m < 2 ^ n) (hv : v &&& m = v) (hi : i < n) (hb : bitN m i = 0) (w : World) :
    Calls Try.prog 16 #[.agg #[.int .i64 (n : Int), .int .i64 (a : Int)], .int .i64 (m : Int), .int .i64 (v : Int), .int .i64 (i : Int)] w fun e w' => e = .returned (.int .i64 (advN n a m v i : Int)) ∧ Below w.heap.size w w' := by
  have hc := knB_in hn ha hm hv
  have HK := Lib.hid (Fine.any n a m v)
  rw [hc] at HK
  have h16 : 2 ^ n ≤ 16 := Nat.pow_le_pow_right (n := 2) (by decide) hn
  have hm16 : m < 16 := by omega
  have hv16 : v < 16 := Nat.lt_of_le_of_lt (by rw [← hv]; exact Nat.and_le_right) hm16
  have hb' : m.testBit i = false := by rw [bitN_test] at hb; cases h : m.testBit i with | false => rfl | true => rw [h] at hb; cases hb
  obtain ⟨k, hk⟩ : ∃ k, cntN n m = k + 1 := by
    obtain ⟨j, hj, _⟩ := (sub_ok n m v hn hm hv).all i hi hb'
    exact ⟨cntN n m - 1, by omega⟩
  obtain ⟨p1, p2, p3, p4⟩ := place_more hn hm hv hk hi hb'
  have HL0 := Lib.hid (fun w => Lst.any n a hn (table_word hn ha) k (m ||| 2 ^ i) v w p1 p3 p2)
  have HL1 := Lib.hid (fun w => Lst.any n a hn (table_word hn ha) k (m ||| 2 ^ i) (v ||| 2 ^ i) w p1 p4 p2)
  have HI : Hid ((0 : Int) ≤ i ∧ (i : Int) ≤ (n : Int) - 1) := Lib.hid ⟨by omega, by omega⟩
  have hbit := bit_i64 m i (by omega)
  rw [hb] at hbit
  have hi4 : i < 4 := by omega
  have HS : Hid (wrap64 ((2 : Int) ^ i) = ((2 ^ i : Nat) : Int)) := Lib.hid (by rcases (show i = 0 ∨ i = 1 ∨ i = 2 ∨ i = 3 by omega) with rfl | rfl | rfl | rfl <;> decide +kernel)
  have h2i : ((2 ^ i : Nat) : Int) ≤ 8 := by rcases (show i = 0 ∨ i = 1 ∨ i = 2 ∨ i = 3 by omega) with rfl | rfl | rfl | rfl <;> decide
  have HOM : Hid (Go.bits .or .i64 (m : Int) ((2 ^ i : Nat) : Int) = ((m ||| 2 ^ i : Nat) : Int)) := Lib.hid (or64 _ _ (by omega) (by omega))
  have HOV : Hid (Go.bits .or .i64 (v : Int) ((2 ^ i : Nat) : Int) = ((v ||| 2 ^ i : Nat) : Int)) := Lib.hid (or64 _ _ (by omega) (by omega))
  have hiz : (i : Int) < 4 := by omega
  have HE : Hid ((advN n a m v i : Int) = if (mdl JD 10 n a k (m ||| 2 ^ i) v : Int) < (mdl JD 10 n a k (m ||| 2 ^ i) (v ||| 2 ^ i) : Int) then 1 else 0) := Lib.hid (by
    unfold Plain.advN
    rw [hk, Nat.add_sub_cancel]
    by_cases h : mdl JD 10 n a k (m ||| 2 ^ i) v < mdl JD 10 n a k (m ||| 2 ^ i) (v ||| 2 ^ i)
    · rw [if_pos h, if_pos (by omega)]; rfl
    · rw [if_neg h, if_neg (by omega)]; rfl)
  generalize advN n a m v i = r at *
  generalize mdl JD 10 n a k (m ||| 2 ^ i) v = z1 at *
  generalize mdl JD 10 n a k (m ||| 2 ^ i) (v ||| 2 ^ i) = z2 at *
  generalize m ||| 2 ^ i = mi at *
  generalize v ||| 2 ^ i = vi at *
  generalize ((2 ^ i : Nat) : Int) = q at *
  have hn4 : (n : Int) ≤ 4 := by omega
  clear hc ha hm hv hi hb h16 hm16 hv16 hb' hk p1 p2 p3 p4 hi4 h2i hn
  go_enter Try.func16, Try.ntmps16
  go_wp2_with fail
  refine (HK.out _).mono ?_
  rintro e w1 ⟨rfl, hb1⟩
  have X1 : w1.heap[w.heap.size]? = some (.cells #[.int .i64 (n : Int), .int .i64 (a : Int)] 25 (0, 0)) := blockB hb1 (heap_alloc_new w _)
  obtain ⟨c0, c1, f0, f1⟩ := cells2 X1
  have hz : w.heap.size < w1.heap.size := by have := hb1.size; simp at this; omega
  have HB1 : Hid (Below w.heap.size w w1) := Lib.hid (bB hb1 (by simp) (bA (Nat.le_refl _) (Below.refl _ _)))
  clear hb1 X1
  go_wp2_with fail
  refine (Widths.in_yes _ _ _ HI.out _).mono ?_
  rintro e w2 ⟨rfl, rfl⟩
  go_wp2_with fail
  rw [HS.out]
  go_region_held3 (fun w' => w'.cell? ⟨w.heap.size, 0, none⟩ = some (.int .i64 (n : Int)) ∧ w'.cell? ⟨w.heap.size, 1, none⟩ = some (.int .i64 (a : Int))) ((first | (go_split_ands; (try dsimp only); (refine ⟨?_, ?_⟩ <;> (repeat (first | with_reducible assumption | ((with_reducible refine keepU ?_); (with_reducible assumption)) | (with_reducible refine keepD ?_) | ((with_reducible refine keepN ?_ ?_); (focus (simp; done)); (focus rfl)) | (with_reducible refine keepA ?_) | (with_reducible refine keepB hb3 ?_) | (with_reducible refine keepB hb4 ?_)))); done) | go_keep))
    (first
      | ((try rw [HOM.out]); with_reducible refine (HL0.out _).mono ?_; rintro e w3 ⟨rfl, hb3⟩; obtain ⟨hc3, hf3⟩ := bcell hb3; have hs3 := hb3.size; try simp only [World.size_alloc, World.size_drew] at hs3)
      | ((try rw [HOM.out]); (try rw [HOV.out]); with_reducible refine (HL1.out _).mono ?_; rintro e w4 ⟨rfl, hb4⟩; obtain ⟨hc4, hf4⟩ := bcell hb4; have hs4 := hb4.size; try simp only [World.size_drew] at hs4))
  all_goals
    by_cases hgl : (z1 : Int) < (z2 : Int)
    · rw [if_pos hgl] at HE
      go_wp2
      go_ret
      exact ⟨by rw [HE.out]; rfl, by repeat (first | (with_reducible exact HB1.out) | (with_reducible refine bD ?_) | ((with_reducible refine bB hb4 ?_ ?_); (focus (first | omega | (simp; done) | (simp; omega)))) | ((with_reducible refine bB hb3 ?_ ?_); (focus (first | omega | (simp; done) | (simp; omega)))) | ((with_reducible refine bA ?_ ?_); (focus (first | omega | (simp; done) | (simp; omega)))))⟩
    · rw [if_neg hgl] at HE
      go_wp2
      go_ret
      exact ⟨by rw [HE.out]; rfl, by repeat (first | (with_reducible exact HB1.out) | (with_reducible refine bD ?_) | ((with_reducible refine bB hb4 ?_ ?_); (focus (first | omega | (simp; done) | (simp; omega)))) | ((with_reducible refine bB hb3 ?_ ?_); (focus (first | omega | (simp; done) | (simp; omega)))) | ((with_reducible refine bA ?_ ?_); (focus (first | omega | (simp; done) | (simp; omega)))))⟩

set_option maxRecDepth 100000 in
set_option maxHeartbeats 1000000 in
/-- AdversaryAnswer of the model. -/
theorem Adv.model (n a m v i : Int) (w : World) :
    Calls Try.prog 16 #[.agg #[.int .i64 n, .int .i64 a], .int .i64 m, .int .i64 v, .int .i64 i] w fun e w' => e = .returned (.int .i64 (advT n a m v i)) ∧ Below w.heap.size w w' := by
  have HK := Lib.hid (Fine.any n a m v)
  cases hc : knB n a m v with
  | false =>
    rw [advT_no1 hc]
    rw [hc] at HK
    clear hc
    go_enter Try.func16, Try.ntmps16
    go_wp2_with fail
    refine (HK.out _).mono ?_
    rintro e w1 ⟨rfl, hb1⟩
    obtain ⟨hc1, hf1⟩ := bcell hb1
    go_wp2
    go_ret
    exact ⟨rfl, bB hb1 (by simp) (bA (Nat.le_refl _) (Below.refl _ _))⟩
  | true =>
    rw [hc] at HK
    obtain ⟨n, a, m, v, rfl, rfl, rfl, rfl, hn, ha, hm, hvm⟩ := knB_yes hc
    by_cases hi : 0 ≤ i ∧ i < (n : Int)
    · obtain ⟨i, rfl⟩ := Int.eq_ofNat_of_zero_le hi.1
      have h16 : 2 ^ n ≤ 16 := Nat.pow_le_pow_right (n := 2) (by decide) hn
      by_cases hbt : bitN m i = 0
      · rw [advT_yes hc (by omega) hbt]
        exact Adv.at n a m v i hn ha hm hvm (by omega) hbt w
      · have hbo : bitN m i = 1 := by have := bitN_lt m i; omega
        have hbit := bit_i64 m i (by omega)
        have HI : Hid ((0 : Int) ≤ i ∧ (i : Int) ≤ (n : Int) - 1) := Lib.hid ⟨by omega, by omega⟩
        rw [advT_no3 hbo]
        rw [hbo] at hbit
        have hn4 : (n : Int) ≤ 4 := by omega
        have hiz : (i : Int) < 4 := by omega
        clear hc ha hm hvm h16 hbt hbo hn hi
        go_enter Try.func16, Try.ntmps16
        go_wp2_with fail
        refine (HK.out _).mono ?_
        rintro e w1 ⟨rfl, hb1⟩
        obtain ⟨c0, c1, f0, f1⟩ := cells2 (blockB hb1 (heap_alloc_new w _))
        go_wp2_with fail
        refine (Widths.in_yes _ _ _ HI.out _).mono ?_
        rintro e w2 ⟨rfl, rfl⟩
        go_wp2
        go_ret
        exact ⟨rfl, bB hb1 (by simp) (bA (Nat.le_refl _) (Below.refl _ _))⟩
    · rw [advT_no2 hi]
      have HI : Hid (¬ ((0 : Int) ≤ i ∧ i ≤ (n : Int) - 1)) := Lib.hid (by omega)
      have hn4 : (n : Int) ≤ 4 := by omega
      clear hc ha hm hvm hi hn
      go_enter Try.func16, Try.ntmps16
      go_wp2_with fail
      refine (HK.out _).mono ?_
      rintro e w1 ⟨rfl, hb1⟩
      obtain ⟨c0, c1, f0, f1⟩ := cells2 (blockB hb1 (heap_alloc_new w _))
      go_wp2_with fail
      refine (Widths.in_no _ _ _ HI.out _).mono ?_
      rintro e w2 ⟨rfl, rfl⟩
      go_wp2
      go_ret
      exact ⟨rfl, bB hb1 (by simp) (bA (Nat.le_refl _) (Below.refl _ _))⟩

end Go.Proofs.Ytdhdkonokbkdoaa
