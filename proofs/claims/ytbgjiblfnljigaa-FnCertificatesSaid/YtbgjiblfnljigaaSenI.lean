/-
  Chapter 10, the program: IsSensitiveBlock, SensitivityAt, greatestAt, SensitivityOf, SensitiveEdges.
-/
import Derived.Test.YtbgjiblfnljigaaSenP
import Derived.Test.YtbgjiblfnljigaaCerN
import Derived.Deep.RegionHeld3
import Derived.Shelf.Abstract
namespace Go.Proofs.Ytbgjiblfnljigaa
open Go.RowKit Plain
set_option linter.unusedVariables false

/-- What IsSensitiveBlock answers. -/
def Plain.isSen (n a x m : Int) : Bool := isT n a && (decide (0 ≤ x ∧ x < 2 ^ n.toNat) && (decide (0 ≤ m ∧ m < 2 ^ n.toNat) && senB a.toNat x.toNat m.toNat))

theorem isSen_no1 {n a x m : Int} (h : isT n a = false) : isSen n a x m = false := by unfold Plain.isSen; rw [h]; rfl

theorem isSen_no2 {n a : Nat} {x m : Int} (h : ¬ (0 ≤ x ∧ x < 2 ^ n)) : isSen n a x m = false := by
  unfold Plain.isSen; rw [Int.toNat_natCast, decide_eq_false h]; simp

theorem isSen_no3 {n a : Nat} {x m : Int} (h : ¬ (0 ≤ m ∧ m < 2 ^ n)) : isSen n a x m = false := by
  unfold Plain.isSen; rw [Int.toNat_natCast, decide_eq_false h]; simp

theorem isSen_in {n a x m : Nat} (ht : isT n a = true) (hx : (x : Int) < 2 ^ n) (hm : (m : Int) < 2 ^ n) : isSen n a x m = senB a x m := by
  unfold Plain.isSen
  rw [ht, Int.toNat_natCast, decide_eq_true ⟨by omega, hx⟩, decide_eq_true ⟨by omega, hm⟩]; rfl

theorem ne_cast (p q : Nat) : ((p : Int) != (q : Int)) = (p != q) := by
  by_cases h : p = q
  · subst h; simp
  · have h1 : (p : Int) ≠ (q : Int) := by omega
    rw [bne_iff_ne.2 h, bne_iff_ne.2 h1]

theorem shl_one (i : Nat) (hi : i < 5) : IntKind.i64.wrap ((2 : Int) ^ i) = ((2 ^ i : Nat) : Int) := by
  rcases (show i = 0 ∨ i = 1 ∨ i = 2 ∨ i = 3 ∨ i = 4 by omega) with rfl | rfl | rfl | rfl | rfl <;> decide +kernel

theorem shl_one64 (i : Nat) (hi : i < 5) : wrap64 ((2 : Int) ^ i) = ((2 ^ i : Nat) : Int) := by
  rcases (show i = 0 ∨ i = 1 ∨ i = 2 ∨ i = 3 ∨ i = 4 by omega) with rfl | rfl | rfl | rfl | rfl <;> decide +kernel

set_option maxRecDepth 100000 in
/-- IsSensitiveBlock of the program. -/
theorem IsSen.impl (n a x m : Int) (hb : -9223372036854775808 ≤ a ∧ a ≤ 9223372036854775807) (w : World) :
    Calls Try.prog 17 #[.agg #[.int .i64 n, .int .i64 a], .int .i64 x, .int .i64 m] w fun e w' => e = .returned (.bool (isSen n a x m)) ∧ Below w.heap.size w w' := by
  cases ht : isT n a with
  | false =>
    rw [isSen_no1 ht]
    have H := Lib.hid ht
    have HB := Lib.hid hb
    clear ht hb
    go_enter Try.func17, Try.ntmps17
    go_wp2_with fail
    refine (Tab.impl _ _ HB.out _).mono ?_
    rintro e w1 ⟨rfl, hb1⟩
    obtain ⟨hc, hf⟩ := bcell hb1
    have hz0_w1 : w.heap.size < w1.heap.size := by have := hb1.size; simp at this; omega
    rw [H.out]
    go_wp2
    go_ret
    exact ⟨rfl, bB hb1 (by simp) (bA (Nat.le_refl _) (Below.refl _ _))⟩
  | true =>
    obtain ⟨n, a, rfl, rfl, hn, ha⟩ := isT_nat ht
    have HB := Lib.hid hb
    have H := Lib.hid ht
    have HN := Lib.hid hn
    by_cases hx : 0 ≤ x ∧ x < 2 ^ n
    · by_cases hm : 0 ≤ m ∧ m < 2 ^ n
      · obtain ⟨x, rfl⟩ := Int.eq_ofNat_of_zero_le hx.1
        obtain ⟨m, rfl⟩ := Int.eq_ofNat_of_zero_le hm.1
        rw [isSen_in ht hx.2 hm.2]
        have HX := Lib.hid (inpB_yes hx)
        have HM := Lib.hid (inpB_yes hm)
        have hxn : x < 2 ^ n := pow_nat.1 hx.2
        have hmn : m < 2 ^ n := pow_nat.1 hm.2
        have hl : x ^^^ m < 2 ^ n := Nat.xor_lt_two_pow hxn hmn
        have h32 := two_pow_le n hn
        have ha32 : (a : Int) ≤ 4294967295 := by have := fullN_le n hn; omega
        have hxor := xor64 x m (by omega) (by omega)
        have HAX := Lib.hid (Tab.at a x (by omega) (by omega))
        have HAY := Lib.hid (Tab.at a (x ^^^ m) (by omega) (by omega))
        have HE : Hid ((((bitN a x : Nat) : Int) != ((bitN a (x ^^^ m) : Nat) : Int)) = senB a x m) := Lib.hid (ne_cast _ _)
        generalize senB a x m = c at *
        generalize bitN a (x ^^^ m) = b2 at *
        generalize bitN a x = b1 at *
        generalize x ^^^ m = y at *
        clear ht hb hn ha hx hm hxn hmn
        go_enter Try.func17, Try.ntmps17
        go_wp2_with fail
        refine (Tab.impl _ _ HB.out _).mono ?_
        rintro e w1 ⟨rfl, hb1⟩
        obtain ⟨hc, hf⟩ := bcell hb1
        have hz0_w1 : w.heap.size < w1.heap.size := by have := hb1.size; simp at this; omega
        have HB1 : Hid (Below w.heap.size w w1) := Lib.hid (bB hb1 (by simp) (bA (Nat.le_refl _) (Below.refl _ _)))
        rw [H.out]
        go_wp2_with fail
        refine (Tab.input _ _ HN.out _).mono ?_
        rintro e w2 ⟨rfl, rfl⟩
        rw [HX.out]
        go_wp2_with fail
        refine (Tab.input _ _ HN.out _).mono ?_
        rintro e w2 ⟨rfl, rfl⟩
        rw [HM.out]
        go_wp2_with fail
        refine (HAX.out _).mono ?_
        rintro e w2 ⟨rfl, rfl⟩
        go_wp2_with fail
        refine (HAY.out _).mono ?_
        rintro e w2 ⟨rfl, rfl⟩
        go_wp2
        go_ret
        exact ⟨ret_bool HE.out, HB1.out⟩
      · rw [isSen_no3 hm]
        have HX := Lib.hid (inpB_yes hx)
        have HM := Lib.hid (inpB_no hm)
        clear ht hb hn ha hx hm
        go_enter Try.func17, Try.ntmps17
        go_wp2_with fail
        refine (Tab.impl _ _ HB.out _).mono ?_
        rintro e w1 ⟨rfl, hb1⟩
        obtain ⟨hc, hf⟩ := bcell hb1
        have hz0_w1 : w.heap.size < w1.heap.size := by have := hb1.size; simp at this; omega
        rw [H.out]
        go_wp2_with fail
        refine (Tab.input _ _ HN.out _).mono ?_
        rintro e w2 ⟨rfl, rfl⟩
        rw [HX.out]
        go_wp2_with fail
        refine (Tab.input _ _ HN.out _).mono ?_
        rintro e w2 ⟨rfl, rfl⟩
        rw [HM.out]
        go_wp2
        go_ret
        exact ⟨rfl, bB hb1 (by simp) (bA (Nat.le_refl _) (Below.refl _ _))⟩
    · rw [isSen_no2 hx]
      have HX := Lib.hid (inpB_no hx)
      clear ht hb hn ha hx
      go_enter Try.func17, Try.ntmps17
      go_wp2_with fail
      refine (Tab.impl _ _ HB.out _).mono ?_
      rintro e w1 ⟨rfl, hb1⟩
      obtain ⟨hc, hf⟩ := bcell hb1
      have hz0_w1 : w.heap.size < w1.heap.size := by have := hb1.size; simp at this; omega
      rw [H.out]
      go_wp2_with fail
      refine (Tab.input _ _ HN.out _).mono ?_
      rintro e w2 ⟨rfl, rfl⟩
      rw [HX.out]
      go_wp2
      go_ret
      exact ⟨rfl, bB hb1 (by simp) (bA (Nat.le_refl _) (Below.refl _ _))⟩

/-- What SensitivityAt answers. -/
def Plain.senT (n a x : Int) : Int := if setOk n a x then (senN a.toNat x.toNat n.toNat : Int) else -1

theorem senT_yes {n a x : Nat} (ht : isT n a = true) (hx : (x : Int) < 2 ^ n) : senT n a x = (senN a x n : Int) := if_pos ⟨ht, by omega, hx⟩

theorem senT_no {n a x : Int} (h : ¬ setOk n a x) : senT n a x = -1 := if_neg h

set_option maxRecDepth 100000 in
set_option maxHeartbeats 1000000 in
theorem SenA.impl_yes (n a x : Nat) (hn : n ≤ 5) (ht : isT n a = true) (ha : (a : Int) ≤ 4294967295) (hx : (x : Int) < 2 ^ n) (w : World) :
    Calls Try.prog 13 #[.agg #[.int .i64 n, .int .i64 a], .int .i64 x] w fun e w' => e = .returned (.int .i64 (senN a x n : Int)) ∧ Below w.heap.size w w' := by
  have H := Lib.hid ht
  have HN := Lib.hid hn
  have HX := Lib.hid (inpB_yes (n := n) (x := (x : Int)) ⟨by omega, hx⟩)
  have hn5 : (n : Int) ≤ 5 := by omega
  have HIS : Hid (∀ k : Nat, k < n → ∀ w : World, Calls Try.prog 17 #[.agg #[.int .i64 n, .int .i64 a], .int .i64 x, .int .i64 ((2 ^ k : Nat) : Int)] w fun e w' => e = .returned (.bool (senB a x (2 ^ k))) ∧ Below w.heap.size w w') := Lib.hid (by
    intro k hk w
    have h := IsSen.impl n a x ((2 ^ k : Nat) : Int) (by omega) w
    rwa [isSen_in ht hx (pow_nat.2 (Nat.pow_lt_pow_right (by decide) hk))] at h)
  clear ht hn hx
  go_enter Try.func13, Try.ntmps13
  go_wp2_with fail
  refine (Tab.impl _ _ (by omega) _).mono ?_
  rintro e w1 ⟨rfl, hb1⟩
  have X1 := blockC hb1 (heap_alloc_new w _)
  obtain ⟨c0, c1, f0, f1⟩ := cells2 X1
  have hz1 : w.heap.size < w1.heap.size := lt_of_block X1
  have HX1 := Lib.hid X1
  have HB1 : Hid (Below w.heap.size w w1) := Lib.hid (bB hb1 (by simp) (bA (Nat.le_refl _) (Below.refl _ _)))
  clear X1 hb1
  rw [H.out]
  go_wp2_with fail
  refine (Tab.input _ _ HN.out _).mono ?_
  rintro e w2 ⟨rfl, rfl⟩
  rw [HX.out]
  go_wp2_with fail
  clear c0 c1 f0 f1
  go_loopw [5, 6, 19] (fun c _ i wr => ∃ k : Nat, i = .int .i64 (k : Int) ∧ c = .int .i64 (senN a x k : Int) ∧ k ≤ n ∧ wr.heap[w.heap.size]? = some (.cells #[.int .i64 n, .int .i64 a] 25 (0, 0)) ∧ Below w.heap.size w wr) (fun _ _ i _ => n - (intOf i).toNat)
  case atStart => exact ⟨0, rfl, rfl, by omega, HX1.out, HB1.out⟩
  case round =>
    obtain ⟨k, rfl, rfl, hk, hblk, hbel⟩ := hrel
    obtain ⟨c0, c1, f0, f1⟩ := cells2 hblk
    have HBLK := Lib.hid hblk
    have HBEL := Lib.hid hbel
    have hlz : w.heap.size < wr.heap.size := lt_of_block hblk
    clear hblk hbel
    by_cases hlt : k < n
    · have hkn : (k : Int) < (n : Int) := by omega
      have hk5 : k < 5 := by omega
      have HI := Lib.hid (HIS.out k hlt)
      have hsh := shl_one k hk5
      have hsh64 := shl_one64 k hk5
      have hg := senN_le a x k
      cases hd : senB a x (2 ^ k) with
      | true =>
        have HT := Lib.hid (senN_yes hd)
        rw [hd] at HI
        generalize hg1 : senN a x (k + 1) = g1 at *
        generalize senN a x k = g at *
        generalize 2 ^ k = P at *
        clear hd
        go_wp2_with fail
        go_region_held3 (fun w' => w'.cell? ⟨w.heap.size, 0, none⟩ = some (.int .i64 n) ∧ w'.cell? ⟨w.heap.size, 1, none⟩ = some (.int .i64 a)) ((first | (go_split_ands; (try dsimp only); (refine ⟨?_, ?_⟩ <;> (repeat (first | with_reducible assumption | ((with_reducible refine keepU ?_); (with_reducible assumption)) | (with_reducible refine keepD ?_) | (with_reducible refine keepB hb5 ?_)))); done) | go_keep))
          (first | (go_at_call 17; refine (HI.out _).mono ?_; rintro e w5 ⟨rfl, hb5⟩))
        have HBLK2 := Lib.hid (blockC hb5 HBLK.out)
        have HB2 := Lib.hid (bB hb5 (by simp; omega) (bD HBEL.out))
        clear hb5
        go_wp2_with fail
        go_roundw
        case rel => exact ⟨k + 1, by go_num, by rw [hg1, HT.out]; go_num, by omega, HBLK2.out, HB2.out⟩
        case measure => simp [intOf]; omega
      | false =>
        have HT := Lib.hid (senN_no hd)
        rw [hd] at HI
        generalize hg1 : senN a x (k + 1) = g1 at *
        generalize senN a x k = g at *
        generalize 2 ^ k = P at *
        clear hd
        go_wp2_with fail
        go_region_held3 (fun w' => w'.cell? ⟨w.heap.size, 0, none⟩ = some (.int .i64 n) ∧ w'.cell? ⟨w.heap.size, 1, none⟩ = some (.int .i64 a)) ((first | (go_split_ands; (try dsimp only); (refine ⟨?_, ?_⟩ <;> (repeat (first | with_reducible assumption | ((with_reducible refine keepU ?_); (with_reducible assumption)) | (with_reducible refine keepD ?_) | (with_reducible refine keepB hb5 ?_)))); done) | go_keep))
          (first | (go_at_call 17; refine (HI.out _).mono ?_; rintro e w5 ⟨rfl, hb5⟩))
        have HBLK2 := Lib.hid (blockC hb5 HBLK.out)
        have HB2 := Lib.hid (bB hb5 (by simp; omega) (bD HBEL.out))
        clear hb5
        go_wp2_with fail
        go_roundw
        case rel => exact ⟨k + 1, by go_num, by rw [hg1, HT.out], by omega, HBLK2.out, HB2.out⟩
        case measure => simp [intOf]; omega
    · obtain rfl : k = n := by omega
      go_wp2
      go_ret
      exact ⟨rfl, HBEL.out⟩

theorem SenA.impl_no1 (n a x : Int) (hb : -9223372036854775808 ≤ a ∧ a ≤ 9223372036854775807) (ht : isT n a = false) (w : World) :
    Calls Try.prog 13 #[.agg #[.int .i64 n, .int .i64 a], .int .i64 x] w fun e w' => e = .returned (.int .i64 (-1)) ∧ Below w.heap.size w w' := by
  have H := Lib.hid ht
  have HB := Lib.hid hb
  clear ht hb
  go_enter Try.func13, Try.ntmps13
  go_wp2_with fail
  refine (Tab.impl _ _ HB.out _).mono ?_
  rintro e w1 ⟨rfl, hb1⟩
  obtain ⟨hc, hf⟩ := bcell hb1
  have hz0_w1 : w.heap.size < w1.heap.size := by have := hb1.size; simp at this; omega
  rw [H.out]
  go_wp2
  go_ret
  exact ⟨rfl, bB hb1 (by simp) (bA (Nat.le_refl _) (Below.refl _ _))⟩

theorem SenA.impl_no2 (n a : Nat) (x : Int) (hn : n ≤ 5) (hb : -9223372036854775808 ≤ (a : Int) ∧ (a : Int) ≤ 9223372036854775807) (ht : isT n a = true) (hx : ¬ (0 ≤ x ∧ x < 2 ^ n)) (w : World) :
    Calls Try.prog 13 #[.agg #[.int .i64 n, .int .i64 a], .int .i64 x] w fun e w' => e = .returned (.int .i64 (-1)) ∧ Below w.heap.size w w' := by
  have H := Lib.hid ht
  have HB := Lib.hid hb
  have HN := Lib.hid hn
  have HX := Lib.hid (inpB_no hx)
  clear ht hb hn hx
  go_enter Try.func13, Try.ntmps13
  go_wp2_with fail
  refine (Tab.impl _ _ HB.out _).mono ?_
  rintro e w1 ⟨rfl, hb1⟩
  obtain ⟨hc, hf⟩ := bcell hb1
  have hz0_w1 : w.heap.size < w1.heap.size := by have := hb1.size; simp at this; omega
  rw [H.out]
  go_wp2_with fail
  refine (Tab.input _ _ HN.out _).mono ?_
  rintro e w2 ⟨rfl, rfl⟩
  rw [HX.out]
  go_wp2
  go_ret
  exact ⟨rfl, bB hb1 (by simp) (bA (Nat.le_refl _) (Below.refl _ _))⟩

/-- SensitivityAt of the program. -/
theorem SenA.impl (n a x : Int) (hb : -9223372036854775808 ≤ a ∧ a ≤ 9223372036854775807) (w : World) :
    Calls Try.prog 13 #[.agg #[.int .i64 n, .int .i64 a], .int .i64 x] w fun e w' => e = .returned (.int .i64 (senT n a x)) ∧ Below w.heap.size w w' := by
  cases ht : isT n a with
  | false =>
    rw [senT_no fun h => by rw [h.1] at ht; exact absurd ht (by decide)]
    exact SenA.impl_no1 n a x hb ht w
  | true =>
    obtain ⟨n, a, rfl, rfl, hn, ha⟩ := isT_nat ht
    by_cases hx : 0 ≤ x ∧ x < 2 ^ n
    · obtain ⟨x, rfl⟩ := Int.eq_ofNat_of_zero_le hx.1
      rw [senT_yes ht hx.2]
      exact SenA.impl_yes n a x hn ht (by have := fullN_le n hn; omega) hx.2 w
    · rw [senT_no fun h => hx h.2]
      exact SenA.impl_no2 n a x hn hb ht hx w

/-- What greatestAt answers at a measure m. -/
def Plain.greT (m : Nat → Nat → Nat → Nat) (n a : Int) : Int := if isT n a = true then (maxN (m n.toNat a.toNat) (2 ^ n.toNat) : Int) else -1

theorem greT_yes {m : Nat → Nat → Nat → Nat} {n a : Nat} (ht : isT n a = true) : greT m n a = (maxN (m n a) (2 ^ n) : Int) := if_pos ht

theorem greT_no {m : Nat → Nat → Nat → Nat} {n a : Int} (ht : isT n a = false) : greT m n a = -1 := if_neg (by rw [ht]; decide)

set_option maxRecDepth 100000 in
set_option maxHeartbeats 1000000 in
theorem Great.yes (n a : Nat) (hn : n ≤ 5) (ht : isT n a = true) (ha : (a : Int) ≤ 4294967295) (m : Nat → Nat) (hm : ∀ x, m x ≤ 1000) (g : Nat) (lb : Array Value) (eg : ∀ args w, (callFunc g args).run Try.prog w = .ok (.enter g args) w)
    (hg : ∀ (x : Nat) (W : World), x < 2 ^ n → Calls Try.prog g (#[.agg #[.int .i64 n, .int .i64 a], .int .i64 x] ++ lb) W fun e w' => e = .returned (.int .i64 (m x : Int)) ∧ Below W.heap.size W w') (w : World) :
    Calls Try.prog 56 #[.agg #[.int .i64 n, .int .i64 a], .func (.func g) #[] lb] w fun e w' => e = .returned (.int .i64 (maxN m (2 ^ n) : Int)) ∧ Below w.heap.size w w' := by
  have H := Lib.hid ht
  have HN := Lib.hid hn
  have HG := Lib.hid hg
  have HM := Lib.hid hm
  obtain ⟨hp1, hp2⟩ := two_pow_int n hn
  have HC := Lib.hid (Tab.count n hn)
  have hn5 : (n : Int) ≤ 5 := by omega
  clear hn ht hg hm
  go_enter Try.func56, Try.ntmps56
  go_wp2_with fail
  refine (Tab.impl _ _ (by omega) _).mono ?_
  rintro e w1 ⟨rfl, hb1⟩
  have X1 := blockC hb1 (heap_alloc_new w _)
  obtain ⟨c0, c1, f0, f1⟩ := cells2 X1
  have hz1 : w.heap.size < w1.heap.size := lt_of_block X1
  have HX1 := Lib.hid X1
  have HB1 : Hid (Below w.heap.size w w1) := Lib.hid (bB hb1 (by simp) (bA (Nat.le_refl _) (Below.refl _ _)))
  clear X1 hb1
  rw [H.out]
  go_wp2_with fail
  refine (HC.out _).mono ?_
  rintro e w2 ⟨rfl, rfl⟩
  go_wp2_with fail
  clear c0 c1 f0 f1
  go_loopw [5, 6, 13] (fun c _ i wr => ∃ k : Nat, i = .int .i64 (k : Int) ∧ c = .int .i64 (maxN m k : Int) ∧ (k : Int) ≤ 2 ^ n ∧ wr.heap[w.heap.size]? = some (.cells #[.int .i64 n, .int .i64 a] 25 (0, 0)) ∧ Below w.heap.size w wr) (fun _ _ i _ => 32 - (intOf i).toNat)
  case atStart => exact ⟨0, rfl, rfl, by omega, HX1.out, HB1.out⟩
  case round =>
    obtain ⟨k, rfl, rfl, hk, hblk, hbel⟩ := hrel
    obtain ⟨c0, c1, f0, f1⟩ := cells2 hblk
    have HBLK := Lib.hid hblk
    have HBEL := Lib.hid hbel
    have hlz : w.heap.size < wr.heap.size := lt_of_block hblk
    clear hblk hbel
    by_cases hlt : (k : Int) < 2 ^ n
    · have HA := Lib.hid (fun W => HG.out k W (pow_nat.1 hlt))
      have HT : Hid (((maxN m (k + 1) : Nat) : Int) = max (maxN m k : Int) (m k : Int)) := Lib.hid (by show ((max (maxN m k) (m k) : Nat) : Int) = _; omega)
      have hg := maxN_le HM.out k
      have hmk := HM.out k
      generalize hg1 : ((maxN m (k + 1) : Nat) : Int) = g1 at *
      generalize maxN m k = g0 at *
      generalize m k = p at *
      go_wp2_with fail
      refine (HA.out _).mono ?_
      rintro e w2 ⟨rfl, hb2⟩
      have HBLK2 := Lib.hid (blockC hb2 HBLK.out)
      have HB2 := Lib.hid (bB hb2 (by omega) HBEL.out)
      clear hb2
      go_wp2_with fail
      all_goals
        go_roundw
        case rel => exact ⟨k + 1, by go_num, by (rw [hg1, HT.out]; congr 1; (first | rfl | (split <;> omega) | omega)), by omega, HBLK2.out, HB2.out⟩
        case measure => simp [intOf]; omega
    · have he : k = 2 ^ n := by rw [up2] at hk hlt; omega
      have HE : Hid (maxN m k = maxN m (2 ^ n)) := Lib.hid (by rw [he])
      clear he
      go_wp2
      go_ret
      exact ⟨ret_int (by rw [HE.out]), HBEL.out⟩

theorem Great.no (n a : Int) (hb : -9223372036854775808 ≤ a ∧ a ≤ 9223372036854775807) (ht : isT n a = false) (g : Nat) (lb : Array Value) (w : World) :
    Calls Try.prog 56 #[.agg #[.int .i64 n, .int .i64 a], .func (.func g) #[] lb] w fun e w' => e = .returned (.int .i64 (-1)) ∧ Below w.heap.size w w' := by
  have H := Lib.hid ht
  have HB := Lib.hid hb
  clear ht hb
  go_enter Try.func56, Try.ntmps56
  go_wp2_with fail
  refine (Tab.impl _ _ HB.out _).mono ?_
  rintro e w1 ⟨rfl, hb1⟩
  obtain ⟨hc, hf⟩ := bcell hb1
  have hz0_w1 : w.heap.size < w1.heap.size := by have := hb1.size; simp at this; omega
  rw [H.out]
  go_wp2
  go_ret
  exact ⟨rfl, bB hb1 (by simp) (bA (Nat.le_refl _) (Below.refl _ _))⟩

/-- The greatest sensitivity. -/
def Plain.sofT (n a : Int) : Int := greT (fun n a x => senN a x n) n a

/-- greatestAt at SensitivityAt. -/
theorem Great.sens (n a : Int) (hb : -9223372036854775808 ≤ a ∧ a ≤ 9223372036854775807) (w : World) :
    Calls Try.prog 56 #[.agg #[.int .i64 n, .int .i64 a], .func (.func 13) #[] #[]] w fun e w' => e = .returned (.int .i64 (sofT n a)) ∧ Below w.heap.size w w' := by
  cases ht : isT n a with
  | false =>
    rw [show sofT n a = -1 from greT_no ht]
    exact Great.no n a hb ht _ _ w
  | true =>
    obtain ⟨n, a, rfl, rfl, hn, ha⟩ := isT_nat ht
    rw [show sofT n a = (maxN (fun x => senN a x n) (2 ^ n) : Int) from greT_yes ht]
    have ha32 : (a : Int) ≤ 4294967295 := by have := fullN_le n hn; omega
    exact Great.yes n a hn ht ha32 (fun x => senN a x n) (fun x => by have := senN_le a x n; omega) 13 #[] (enters_of Try.func13 (by kernel_rfl) rfl)
      (fun x W hx => SenA.impl_yes n a x hn ht ha32 (pow_nat.2 hx) W) w

/-- SensitivityOf of the program. -/
theorem SenO.impl (n a : Int) (hb : -9223372036854775808 ≤ a ∧ a ≤ 9223372036854775807) (w : World) :
    Calls Try.prog 15 #[.agg #[.int .i64 n, .int .i64 a]] w fun e w' => e = .returned (.int .i64 (sofT n a)) ∧ Below w.heap.size w w' := by
  have HG := Lib.hid (Great.sens n a hb)
  generalize sofT n a = q at *
  clear hb
  go_enter Try.func15, Try.ntmps15
  go_wp2_with fail
  refine (HG.out _).mono ?_
  rintro e w1 ⟨rfl, hb1⟩
  go_wp2
  go_ret
  exact ⟨rfl, bB hb1 (by simp) (bA (Nat.le_refl _) (Below.refl _ _))⟩

/-- What SensitiveEdges answers. -/
def Plain.edgT (n a : Int) : Int := if isT n a = true then ((sumS n.toNat a.toNat (2 ^ n.toNat) / 2 : Nat) : Int) else -1

theorem edgT_yes {n a : Nat} (ht : isT n a = true) : edgT n a = ((sumS n a (2 ^ n) / 2 : Nat) : Int) := if_pos ht

theorem edgT_no {n a : Int} (ht : isT n a = false) : edgT n a = -1 := if_neg (by rw [ht]; decide)

theorem sumS_160 {n : Nat} (hn : n ≤ 5) (a k : Nat) (hk : k ≤ 32) : sumS n a k ≤ 160 := by
  have h1 := sumS_le n a k
  have h2 : n * k ≤ 5 * 32 := Nat.mul_le_mul hn hk
  omega

set_option maxRecDepth 100000 in
set_option maxHeartbeats 1000000 in
theorem SenE.impl_yes (n a : Nat) (hn : n ≤ 5) (ht : isT n a = true) (ha : (a : Int) ≤ 4294967295) (w : World) :
    Calls Try.prog 28 #[.agg #[.int .i64 n, .int .i64 a]] w fun e w' => e = .returned (.int .i64 ((sumS n a (2 ^ n) / 2 : Nat) : Int)) ∧ Below w.heap.size w w' := by
  have H := Lib.hid ht
  have HN := Lib.hid hn
  obtain ⟨hp1, hp2⟩ := two_pow_int n hn
  have HC := Lib.hid (Tab.count n hn)
  have hn5 : (n : Int) ≤ 5 := by omega
  have HSA := Lib.hid (fun (x : Nat) (hx : (x : Int) < 2 ^ n) => SenA.impl_yes n a x hn ht ha hx)
  have HS1 : Hid (∀ k : Nat, (k : Int) ≤ 2 ^ n → sumS n a k ≤ 160) := Lib.hid fun k hk => sumS_160 hn a k (by omega)
  clear hn ht
  go_enter Try.func28, Try.ntmps28
  go_wp2_with fail
  refine (Tab.impl _ _ (by omega) _).mono ?_
  rintro e w1 ⟨rfl, hb1⟩
  have X1 := blockC hb1 (heap_alloc_new w _)
  obtain ⟨c0, c1, f0, f1⟩ := cells2 X1
  have hz1 : w.heap.size < w1.heap.size := lt_of_block X1
  have HX1 := Lib.hid X1
  have HB1 : Hid (Below w.heap.size w w1) := Lib.hid (bB hb1 (by simp) (bA (Nat.le_refl _) (Below.refl _ _)))
  clear X1 hb1
  rw [H.out]
  go_wp2_with fail
  refine (HC.out _).mono ?_
  rintro e w2 ⟨rfl, rfl⟩
  go_wp2_with fail
  clear c0 c1 f0 f1
  go_loopw [3, 4, 11] (fun c _ i wr => ∃ k : Nat, i = .int .i64 (k : Int) ∧ c = .int .i64 (sumS n a k : Int) ∧ (k : Int) ≤ 2 ^ n ∧ wr.heap[w.heap.size]? = some (.cells #[.int .i64 n, .int .i64 a] 25 (0, 0)) ∧ Below w.heap.size w wr) (fun _ _ i _ => 32 - (intOf i).toNat)
  case atStart => exact ⟨0, rfl, rfl, by omega, HX1.out, HB1.out⟩
  case round =>
    obtain ⟨k, rfl, rfl, hk, hblk, hbel⟩ := hrel
    obtain ⟨c0, c1, f0, f1⟩ := cells2 hblk
    have HBLK := Lib.hid hblk
    have HBEL := Lib.hid hbel
    have hlz : w.heap.size < wr.heap.size := lt_of_block hblk
    clear hblk hbel
    have hs := HS1.out k hk
    by_cases hlt : (k : Int) < 2 ^ n
    · have HA := Lib.hid (HSA.out k hlt)
      have HT : Hid (((sumS n a (k + 1) : Nat) : Int) = (sumS n a k : Int) + (senN a k n : Int)) := Lib.hid (by show ((sumS n a k + senN a k n : Nat) : Int) = _; omega)
      have hmk := senN_le a k n
      generalize hg1 : ((sumS n a (k + 1) : Nat) : Int) = g1 at *
      generalize sumS n a k = g0 at *
      generalize senN a k n = p at *
      go_wp2_with fail
      refine (HA.out _).mono ?_
      rintro e w2 ⟨rfl, hb2⟩
      have HBLK2 := Lib.hid (blockC hb2 HBLK.out)
      have HB2 := Lib.hid (bB hb2 (by omega) HBEL.out)
      clear hb2
      go_wp2_with fail
      go_roundw
      case rel => exact ⟨k + 1, by go_num, by rw [hg1, HT.out], by omega, HBLK2.out, HB2.out⟩
      case measure => simp [intOf]; omega
    · have he : k = 2 ^ n := by rw [up2] at hk hlt; omega
      have HE : Hid (sumS n a k = sumS n a (2 ^ n)) := Lib.hid (by rw [he])
      clear he
      generalize sumS n a k = g0 at *
      go_wp2
      go_ret
      exact ⟨ret_int (by rw [← HE.out]), HBEL.out⟩

theorem SenE.impl_no (n a : Int) (hb : -9223372036854775808 ≤ a ∧ a ≤ 9223372036854775807) (ht : isT n a = false) (w : World) :
    Calls Try.prog 28 #[.agg #[.int .i64 n, .int .i64 a]] w fun e w' => e = .returned (.int .i64 (-1)) ∧ Below w.heap.size w w' := by
  have H := Lib.hid ht
  have HB := Lib.hid hb
  clear ht hb
  go_enter Try.func28, Try.ntmps28
  go_wp2_with fail
  refine (Tab.impl _ _ HB.out _).mono ?_
  rintro e w1 ⟨rfl, hb1⟩
  obtain ⟨hc, hf⟩ := bcell hb1
  have hz0_w1 : w.heap.size < w1.heap.size := by have := hb1.size; simp at this; omega
  rw [H.out]
  go_wp2
  go_ret
  exact ⟨rfl, bB hb1 (by simp) (bA (Nat.le_refl _) (Below.refl _ _))⟩

/-- SensitiveEdges of the program. -/
theorem SenE.impl (n a : Int) (hb : -9223372036854775808 ≤ a ∧ a ≤ 9223372036854775807) (w : World) :
    Calls Try.prog 28 #[.agg #[.int .i64 n, .int .i64 a]] w fun e w' => e = .returned (.int .i64 (edgT n a)) ∧ Below w.heap.size w w' := by
  cases ht : isT n a with
  | false =>
    rw [edgT_no ht]
    exact SenE.impl_no n a hb ht w
  | true =>
    obtain ⟨n, a, rfl, rfl, hn, ha⟩ := isT_nat ht
    rw [edgT_yes ht]
    exact SenE.impl_yes n a hn ht (by have := fullN_le n hn; omega) w

end Go.Proofs.Ytbgjiblfnljigaa
