/-
  Chapter 8: harderAnswer, ForcedLeft, AdversaryAnswer, AskedOf and IsEvasive of the program.
-/
import Derived.Test.YtdhdkonokbkdoaaAdvI
namespace Go.Proofs.Ytdhdkonokbkdoaa
open Go.RowKit Plain
set_option linter.unusedVariables false

/-- The harder answer, by tables. -/
def Plain.hardN (n a i : Nat) : Nat := if cst JD n (restW (n + 1) a i 0) < cst JD n (restW (n + 1) a i 1) then 1 else 0

set_option maxRecDepth 100000 in
set_option maxHeartbeats 2000000 in
/-- harderAnswer. -/
theorem Hard.any (n a i : Nat) (hn : n + 1 ≤ 4) (ha : a ≤ fullN (n + 1)) (hi : i < n + 1) (w : World) :
    Calls Try.prog 32 #[.agg #[.int .i64 ((n + 1 : Nat) : Int), .int .i64 (a : Int)], .int .i64 (i : Int)] w fun e w' => e = .returned (.int .i64 (hardN n a i : Int)) ∧ Below w.heap.size w w' := by
  have HS := Lib.hid (Sp.any n a i (by omega) ha hi)
  have HA := Lib.hid (fun (w : World) => Ld.at n (restW (n + 1) a i 0) (by omega) (tabN_full _ _) w)
  have HD := Lib.hid (fun (w : World) => Ld.at n (restW (n + 1) a i 1) (by omega) (tabN_full _ _) w)
  have HE : Hid ((hardN n a i : Int) = if (cst JD n (restW (n + 1) a i 0) : Int) < (cst JD n (restW (n + 1) a i 1) : Int) then 1 else 0) := Lib.hid (by
    unfold Plain.hardN
    by_cases h : cst JD n (restW (n + 1) a i 0) < cst JD n (restW (n + 1) a i 1)
    · rw [if_pos h, if_pos (by omega)]; rfl
    · rw [if_neg h, if_neg (by omega)]; rfl)
  clear ha hi hn
  generalize hardN n a i = r at *
  generalize cst JD n (restW (n + 1) a i 0) = z1 at *
  generalize cst JD n (restW (n + 1) a i 1) = z2 at *
  generalize restW (n + 1) a i 0 = r0 at *
  generalize restW (n + 1) a i 1 = r1 at *
  generalize ((n + 1 : Nat) : Int) = q at *
  go_enter Try.func32, Try.ntmps32
  go_wp2_with fail
  refine (HS.out _).mono ?_
  rintro e w2 ⟨rfl, hb2⟩
  have HB2 : Hid (Below w.heap.size w w2) := Lib.hid (bB hb2 (by simp) (bA (Nat.le_refl _) (Below.refl _ _)))
  have hs2 : w.heap.size < w2.heap.size := by have := hb2.size; simp at this; omega
  clear hb2
  go_wp2_with fail
  go_region_held3 (fun w' => w'.cell? ⟨w2.heap.size, 0, none⟩ = some (.int .i64 (n : Int)) ∧ w'.cell? ⟨w2.heap.size, 1, none⟩ = some (.int .i64 (r0 : Int)) ∧ w'.cell? ⟨w2.heap.size, 2, none⟩ = some (.int .i64 (n : Int)) ∧ w'.cell? ⟨w2.heap.size, 3, none⟩ = some (.int .i64 (r1 : Int))) ((first | (go_split_ands; (try dsimp only); (refine ⟨?_, ?_, ?_, ?_⟩ <;> (repeat (first | with_reducible assumption | ((with_reducible refine keepU ?_); (with_reducible assumption)) | (with_reducible refine keepD ?_) | ((with_reducible refine keepN ?_ ?_); (focus (simp; done)); (focus rfl)) | (with_reducible refine keepA ?_) | (with_reducible refine keepB hb3 ?_) | (with_reducible refine keepB hb4 ?_)))); done) | go_keep))
    (first
      | (with_reducible refine (HA.out _).mono ?_; rintro e w3 ⟨rfl, hb3⟩; obtain ⟨hc3, hf3⟩ := bcell hb3; have hs3 := hb3.size; try simp only [World.size_alloc, World.size_drew] at hs3)
      | (with_reducible refine (HD.out _).mono ?_; rintro e w4 ⟨rfl, hb4⟩; obtain ⟨hc4, hf4⟩ := bcell hb4; have hs4 := hb4.size; try simp only [World.size_alloc, World.size_drew] at hs4))
  all_goals
    by_cases hgl : (z1 : Int) < (z2 : Int)
    · rw [if_pos hgl] at HE
      go_wp2
      go_ret
      exact ⟨by rw [HE.out]; rfl, by repeat (first | (with_reducible exact HB2.out) | (with_reducible refine bD ?_) | ((with_reducible refine bB hb4 ?_ ?_); (focus (first | omega | (simp; done) | (simp; omega)))) | ((with_reducible refine bB hb3 ?_ ?_); (focus (first | omega | (simp; done) | (simp; omega)))) | ((with_reducible refine bA ?_ ?_); (focus (first | omega | (simp; done) | (simp; omega)))))⟩
    · rw [if_neg hgl] at HE
      go_wp2
      go_ret
      exact ⟨by rw [HE.out]; rfl, by repeat (first | (with_reducible exact HB2.out) | (with_reducible refine bD ?_) | ((with_reducible refine bB hb4 ?_ ?_); (focus (first | omega | (simp; done) | (simp; omega)))) | ((with_reducible refine bB hb3 ?_ ?_); (focus (first | omega | (simp; done) | (simp; omega)))) | ((with_reducible refine bA ?_ ?_); (focus (first | omega | (simp; done) | (simp; omega)))))⟩

/-- What ForcedLeft answers. -/
def Plain.forT (n a m v : Int) : Int := if knB n a m v = true then (mdl JD 10 n.toNat a.toNat (cntN n.toNat m.toNat) m.toNat v.toNat : Int) else -1
theorem forT_yes {n a m v : Nat} (h : knB n a m v = true) : forT n a m v = (mdl JD 10 n a (cntN n m) m v : Int) := if_pos h
theorem forT_no {n a m v : Int} (h : knB n a m v = false) : forT n a m v = -1 := if_neg (by rw [h]; decide)

theorem table_word {n a : Nat} (hn : n ≤ 4) (ha : a ≤ fullN n) : (a : Int) ≤ 4294967295 := by have := fullN_le n (by omega); omega

set_option maxRecDepth 100000 in
/-- ForcedLeft of the program. -/
theorem For.impl (n a m v : Int) (hb : -9223372036854775808 ≤ a ∧ a ≤ 9223372036854775807) (hv : -9223372036854775808 ≤ v ∧ v ≤ 9223372036854775807) (w : World) :
    Calls Try.prog 17 #[.agg #[.int .i64 n, .int .i64 a], .int .i64 m, .int .i64 v] w fun e w' => e = .returned (.int .i64 (forT n a m v)) ∧ Below w.heap.size w w' := by
  have HK := Lib.hid (Kn.any n a m v hb hv)
  cases hc : knB n a m v with
  | false =>
    rw [forT_no hc]
    rw [hc] at HK
    clear hc hb hv
    go_enter Try.func17, Try.ntmps17
    go_wp2_with fail
    refine (HK.out _).mono ?_
    rintro e w1 ⟨rfl, hb1⟩
    go_wp2
    go_ret
    exact ⟨rfl, bB hb1 (by simp) (bA (Nat.le_refl _) (Below.refl _ _))⟩
  | true =>
    rw [hc] at HK
    obtain ⟨n, a, m, v, rfl, rfl, rfl, rfl, hn, ha, hm, hvm⟩ := knB_yes hc
    rw [forT_yes hc]
    have HL := Lib.hid (Left.any n a m v hn (table_word hn ha) hm hvm)
    have HD := Lib.hid (fun w => Ld.at n (keptW n a m v) hn (kept_full n a m v) w)
    rw [least_kept hn hm hvm] at HD
    generalize mdl JD 10 n a (cntN n m) m v = r at *
    generalize keptW n a m v = x at *
    clear hc hb hv ha hm hvm
    go_enter Try.func17, Try.ntmps17
    go_wp2_with fail
    refine (HK.out _).mono ?_
    rintro e w1 ⟨rfl, hb1⟩
    obtain ⟨c0, c1, f0, f1⟩ := cells2 (blockB hb1 (heap_alloc_new w _))
    have hz : w.heap.size < w1.heap.size := by have := hb1.size; simp at this; omega
    go_wp2_with fail
    refine (HL.out _).mono ?_
    rintro e w2 ⟨rfl, hb2⟩
    go_wp2_with fail
    refine (HD.out _).mono ?_
    rintro e w3 ⟨rfl, hb3⟩
    have hz2 := hb2.size
    go_wp2
    go_ret
    exact ⟨rfl, bB hb3 (by omega) (bB hb2 (by omega) (bB hb1 (by simp) (bA (Nat.le_refl _) (Below.refl _ _))))⟩

/-- What AdversaryAnswer answers. -/
def Plain.advN (n a m v i : Nat) : Nat := if mdl JD 10 n a (cntN n m - 1) (m ||| 2 ^ i) v < mdl JD 10 n a (cntN n m - 1) (m ||| 2 ^ i) (v ||| 2 ^ i) then 1 else 0
def Plain.advT (n a m v i : Int) : Int := if knB n a m v = true ∧ (0 ≤ i ∧ i < n) ∧ bitN m.toNat i.toNat = 0 then (advN n.toNat a.toNat m.toNat v.toNat i.toNat : Int) else -1
theorem advT_yes {n a m v i : Nat} (h : knB n a m v = true) (hi : i < n) (hb : bitN m i = 0) : advT n a m v i = (advN n a m v i : Int) := if_pos ⟨h, ⟨by omega, by omega⟩, hb⟩
theorem advT_no1 {n a m v i : Int} (h : knB n a m v = false) : advT n a m v i = -1 := if_neg fun q => by rw [h] at q; exact absurd q.1 (by decide)
theorem advT_no2 {n a m v i : Int} (h : ¬ (0 ≤ i ∧ i < n)) : advT n a m v i = -1 := if_neg fun q => h q.2.1
theorem advT_no3 {n a m v i : Nat} (h : bitN m i = 1) : advT n a m v i = -1 := if_neg fun q => by have := q.2.2; rw [Int.toNat_natCast, Int.toNat_natCast, h] at this; exact absurd this (by decide)
theorem advN_lt (n a m v i : Nat) : advN n a m v i < 2 := by unfold Plain.advN; split <;> decide

/-- The harder answer of what is left. -/
theorem hard_kept {n a m v i : Nat} (hn : n + 1 ≤ 4) (hm : m < 2 ^ (n + 1)) (hv : v &&& m = v) (hi : i < n + 1) (hb : bitN m i = 0) : hardN n (keptW (n + 1) a m v) i = advN (n + 1) a m v i := by
  have hb' : m.testBit i = false := by rw [bitN_test] at hb; cases h : m.testBit i with | false => rfl | true => rw [h] at hb; cases hb
  obtain ⟨k, hk⟩ : ∃ k, cntN (n + 1) m = k + 1 := by
    obtain ⟨j, hj, _⟩ := (sub_ok (n + 1) m v hn hm hv).all i hi hb'
    exact ⟨cntN (n + 1) m - 1, by omega⟩
  unfold Plain.hardN Plain.advN
  rw [split_kept hn hm hv hk hi (by decide) hb', split_kept hn hm hv hk hi (by decide) hb', Nat.zero_mul, Nat.or_zero, Nat.one_mul, hk]
  rfl

set_option maxRecDepth 100000 in
set_option maxHeartbeats 1000000 in
/-- AdversaryAnswer of the program. -/
theorem Adv.impl (n a m v i : Int) (hb : -9223372036854775808 ≤ a ∧ a ≤ 9223372036854775807) (hv : -9223372036854775808 ≤ v ∧ v ≤ 9223372036854775807) (w : World) :
    Calls Try.prog 15 #[.agg #[.int .i64 n, .int .i64 a], .int .i64 m, .int .i64 v, .int .i64 i] w fun e w' => e = .returned (.int .i64 (advT n a m v i)) ∧ Below w.heap.size w w' := by
  have HK := Lib.hid (Kn.any n a m v hb hv)
  cases hc : knB n a m v with
  | false =>
    rw [advT_no1 hc]
    rw [hc] at HK
    clear hc hb hv
    go_enter Try.func15, Try.ntmps15
    go_wp2_with fail
    refine (HK.out _).mono ?_
    rintro e w1 ⟨rfl, hb1⟩
    obtain ⟨hc1, hf1⟩ := bcell hb1
    go_wp2
    go_ret
    exact ⟨rfl, bB hb1 (by simp) (bA (Nat.le_refl _) (Below.refl _ _))⟩
  | true =>
    rw [hc] at HK
    obtain ⟨n, a, m, v, rfl, rfl, rfl, rfl, hn, ha, hm, hvm⟩ := knB_yes hc
    by_cases hi : 0 ≤ i ∧ i < (n : Int)
    · have HI := Lib.hid (Tab.isVar_yes n i hi)
      obtain ⟨i, rfl⟩ := Int.eq_ofNat_of_zero_le hi.1
      have h16 : 2 ^ n ≤ 16 := Nat.pow_le_pow_right (n := 2) (by decide) hn
      have hbit := bit_i64 m i (by omega)
      have hi4 : (i : Int) < 4 := by omega
      by_cases hbt : bitN m i = 0
      · rw [advT_yes hc (by omega) hbt]
        obtain ⟨k, rfl⟩ : ∃ k, n = k + 1 := ⟨n - 1, by omega⟩
        have HL := Lib.hid (Left.any (k + 1) a m v hn (table_word hn ha) hm hvm)
        have HD := Lib.hid (Hard.any k (keptW (k + 1) a m v) i hn (kept_full _ a m v) (by omega))
        rw [hard_kept hn hm hvm (by omega) hbt] at HD
        have HBZ : Hid (((bitN m i : Nat) : Int) = 0) := Lib.hid (by rw [hbt]; rfl)
        generalize advN (k + 1) a m v i = r at *
        generalize keptW (k + 1) a m v = x at *
        generalize ((k + 1 : Nat) : Int) = q at *
        clear hc hb hv ha hm hvm h16 hbt
        go_enter Try.func15, Try.ntmps15
        go_wp2_with fail
        refine (HK.out _).mono ?_
        rintro e w1 ⟨rfl, hb1⟩
        obtain ⟨c0, c1, f0, f1⟩ := cells2 (blockB hb1 (heap_alloc_new w _))
        have hz : w.heap.size < w1.heap.size := by have := hb1.size; simp at this; omega
        go_wp2_with fail
        refine (HI.out _).mono ?_
        rintro e w2 ⟨rfl, rfl⟩
        rw [HBZ.out] at hbit
        go_wp2_with fail
        refine (HL.out _).mono ?_
        rintro e w3 ⟨rfl, hb3⟩
        have hz3 := hb3.size
        go_wp2_with fail
        refine (HD.out _).mono ?_
        rintro e w4 ⟨rfl, hb4⟩
        go_wp2
        go_ret
        exact ⟨rfl, bB hb4 (by omega) (bB hb3 (by omega) (bB hb1 (by simp) (bA (Nat.le_refl _) (Below.refl _ _))))⟩
      · have hbo : bitN m i = 1 := by have := bitN_lt m i; omega
        rw [advT_no3 hbo]
        rw [hbo] at hbit
        clear hc hb hv ha hm hvm h16 hbt hbo
        go_enter Try.func15, Try.ntmps15
        go_wp2_with fail
        refine (HK.out _).mono ?_
        rintro e w1 ⟨rfl, hb1⟩
        obtain ⟨c0, c1, f0, f1⟩ := cells2 (blockB hb1 (heap_alloc_new w _))
        go_wp2_with fail
        refine (HI.out _).mono ?_
        rintro e w2 ⟨rfl, rfl⟩
        go_wp2
        go_ret
        exact ⟨rfl, bB hb1 (by simp) (bA (Nat.le_refl _) (Below.refl _ _))⟩
    · rw [advT_no2 hi]
      have HI := Lib.hid (Tab.isVar_no n i hi)
      clear hc hb hv ha hm hvm hi
      go_enter Try.func15, Try.ntmps15
      go_wp2_with fail
      refine (HK.out _).mono ?_
      rintro e w1 ⟨rfl, hb1⟩
      obtain ⟨c0, c1, f0, f1⟩ := cells2 (blockB hb1 (heap_alloc_new w _))
      go_wp2_with fail
      refine (HI.out _).mono ?_
      rintro e w2 ⟨rfl, rfl⟩
      go_wp2
      go_ret
      exact ⟨rfl, bB hb1 (by simp) (bA (Nat.le_refl _) (Below.refl _ _))⟩

/-- What AskedOf answers. -/
def Plain.askT (n a m v : Int) : Int := if knB n a m v = true ∧ ¬ cubV n.toNat a.toNat m.toNat v.toNat < 2 then (askN n.toNat a.toNat (cntN n.toNat m.toNat - 1) m.toNat v.toNat : Int) else -1
theorem askT_yes {n a m v : Nat} (h : knB n a m v = true) (hc : ¬ cubV n a m v < 2) : askT n a m v = (askN n a (cntN n m - 1) m v : Int) := if_pos ⟨h, hc⟩
theorem askT_no1 {n a m v : Int} (h : knB n a m v = false) : askT n a m v = -1 := if_neg fun q => by rw [h] at q; exact absurd q.1 (by decide)
theorem askT_no2 {n a m v : Nat} (h : cubV n a m v < 2) : askT n a m v = -1 := if_neg fun q => q.2 h

set_option maxRecDepth 100000 in
set_option maxHeartbeats 1000000 in
/-- AskedOf of the program. -/
theorem Ask.impl (n a m v : Int) (hb : -9223372036854775808 ≤ a ∧ a ≤ 9223372036854775807) (hv : -9223372036854775808 ≤ v ∧ v ≤ 9223372036854775807) (w : World) :
    Calls Try.prog 18 #[.agg #[.int .i64 n, .int .i64 a], .int .i64 m, .int .i64 v] w fun e w' => e = .returned (.int .i64 (askT n a m v)) ∧ Below w.heap.size w w' := by
  have HK := Lib.hid (Kn.any n a m v hb hv)
  cases hc : knB n a m v with
  | false =>
    rw [askT_no1 hc]
    rw [hc] at HK
    clear hc hb hv
    go_enter Try.func18, Try.ntmps18
    go_wp2_with fail
    refine (HK.out _).mono ?_
    rintro e w1 ⟨rfl, hb1⟩
    go_wp2
    go_ret
    exact ⟨rfl, bB hb1 (by simp) (bA (Nat.le_refl _) (Below.refl _ _))⟩
  | true =>
    rw [hc] at HK
    obtain ⟨n, a, m, v, rfl, rfl, rfl, rfl, hn, ha, hm, hvm⟩ := knB_yes hc
    have HL := Lib.hid (Left.any n a m v hn (table_word hn ha) hm hvm)
    have HC := Lib.hid (fun w => Tab.conI n (keptW n a m v) (by have := table_word hn (kept_full n a m v); omega) w)
    rw [con_kept hn hm hvm] at HC
    by_cases hlt : cubV n a m v < 2
    · rw [askT_no2 hlt]
      rw [decide_eq_true hlt] at HC
      generalize keptW n a m v = x at *
      clear hc hb hv ha hm hvm hlt
      go_enter Try.func18, Try.ntmps18
      go_wp2_with fail
      refine (HK.out _).mono ?_
      rintro e w1 ⟨rfl, hb1⟩
      obtain ⟨c0, c1, f0, f1⟩ := cells2 (blockB hb1 (heap_alloc_new w _))
      have hz : w.heap.size < w1.heap.size := by have := hb1.size; simp at this; omega
      go_wp2_with fail
      refine (HL.out _).mono ?_
      rintro e w2 ⟨rfl, hb2⟩
      have hz2 := hb2.size
      go_wp2_with fail
      refine (HC.out _).mono ?_
      rintro e w3 ⟨rfl, hb3⟩
      go_wp2
      go_ret
      exact ⟨rfl, bB hb3 (by simp; omega) (bA (by omega) (bB hb2 (by omega) (bB hb1 (by simp) (bA (Nat.le_refl _) (Below.refl _ _)))))⟩
    · rw [askT_yes hc hlt]
      rw [decide_eq_false hlt] at HC
      obtain ⟨k, hk⟩ : ∃ k, cntN n m = k + 1 := by
        cases hz : cntN n m with
        | zero => exact absurd (cub_whole hn hm hvm hz) hlt
        | succ k => exact ⟨k, rfl⟩
      obtain ⟨n, rfl⟩ : ∃ p, n = p + 1 := ⟨n - 1, by have := cnt_le n m; omega⟩
      have HQ := Lib.hid (Bq.any n (keptW (n + 1) a m v) hn (kept_full _ a m v))
      rw [ask_kept hn hm hvm hk hlt] at HQ
      rw [hk, Nat.add_sub_cancel]
      generalize askN (n + 1) a k m v = r at *
      generalize keptW (n + 1) a m v = x at *
      generalize ((n + 1 : Nat) : Int) = q at *
      clear hc hb hv ha hm hvm hlt hk
      go_enter Try.func18, Try.ntmps18
      go_wp2_with fail
      refine (HK.out _).mono ?_
      rintro e w1 ⟨rfl, hb1⟩
      obtain ⟨c0, c1, f0, f1⟩ := cells2 (blockB hb1 (heap_alloc_new w _))
      have hz : w.heap.size < w1.heap.size := by have := hb1.size; simp at this; omega
      go_wp2_with fail
      refine (HL.out _).mono ?_
      rintro e w2 ⟨rfl, hb2⟩
      have hz2 := hb2.size
      go_wp2_with fail
      refine (HC.out _).mono ?_
      rintro e w3 ⟨rfl, hb3⟩
      obtain ⟨d0, d1, g0, g1⟩ := cells2 (blockB hb3 (heap_alloc_new w2 _))
      have hz3 := hb3.size
      simp only [World.size_alloc] at hz3
      go_wp2_with fail
      refine (HQ.out _).mono ?_
      rintro e w4 ⟨rfl, hb4⟩
      go_wp2
      go_ret
      exact ⟨rfl, bB hb4 (by omega) (bB hb3 (by simp; omega) (bA (by omega) (bB hb2 (by omega) (bB hb1 (by simp) (bA (Nat.le_refl _) (Below.refl _ _))))))⟩

/-- What IsEvasive answers. -/
def Plain.evaB (n a : Int) : Bool := isT n a && (ldT n a == n)

set_option maxRecDepth 100000 in
set_option maxHeartbeats 1000000 in
/-- IsEvasive of the program. -/
theorem Eva.impl (n a : Int) (hb : -9223372036854775808 ≤ a ∧ a ≤ 9223372036854775807) (w : World) :
    Calls Try.prog 24 #[.agg #[.int .i64 n, .int .i64 a]] w fun e w' => e = .returned (.bool (evaB n a)) ∧ Below w.heap.size w w' := by
  have HB := Lib.hid hb
  cases ht : isT n a with
  | false =>
    have HE : Hid (evaB n a = false) := Lib.hid (by unfold Plain.evaB; rw [ht]; rfl)
    have H := Lib.hid ht
    rw [HE.out]
    clear ht hb HE
    go_enter Try.func24, Try.ntmps24
    go_wp2_with fail
    first | (go_region_with ((go_at_call 50; refine (Tab.implV _ _ HB.out _ H.out _).mono ?_; rintro e w1 ⟨rfl, hb⟩))) | (fail)
    all_goals
      go_wp2
      go_ret
      exact ⟨rfl, bB hb (by simp) (bD (bA (Nat.le_refl _) (Below.refl _ _)))⟩
  | true =>
    have HE : Hid (evaB n a = (ldT n a == n)) := Lib.hid (by unfold Plain.evaB; rw [ht]; rfl)
    have HT := Lib.hid (fun w => Tab.implV n a hb true ht w)
    have HD := Lib.hid (fun w => Ld.impl n a hb w)
    rw [HE.out]
    generalize ldT n a = z at *
    clear ht hb HE
    go_enter Try.func24, Try.ntmps24
    go_wp2_with fail
    go_region_held3 (fun w' => w'.cell? ⟨w.heap.size, 0, none⟩ = some (.int .i64 n) ∧ w'.cell? ⟨w.heap.size, 1, none⟩ = some (.int .i64 a)) ((first | (go_split_ands; (try dsimp only); (refine ⟨?_, ?_⟩ <;> (repeat (first | with_reducible assumption | ((with_reducible refine keepU ?_); (with_reducible assumption)) | (with_reducible refine keepD ?_) | ((with_reducible refine keepN ?_ ?_); (focus (simp; done)); (focus rfl)) | (with_reducible refine keepA ?_) | (with_reducible refine keepB hb3 ?_) | (with_reducible refine keepB hb4 ?_)))); done) | go_keep))
      (first
        | (with_reducible refine (HT.out _).mono ?_; rintro e w3 ⟨rfl, hb3⟩; obtain ⟨hc3, hf3⟩ := bcell hb3; have hs3 := hb3.size; try simp only [World.size_alloc, World.size_drew] at hs3)
        | (with_reducible refine (HD.out _).mono ?_; rintro e w4 ⟨rfl, hb4⟩; obtain ⟨hc4, hf4⟩ := bcell hb4; have hs4 := hb4.size; try simp only [World.size_alloc, World.size_drew] at hs4))
    all_goals
      go_wp2
      go_ret
      exact ⟨rfl, by repeat (first | (with_reducible exact Below.refl _ _) | (with_reducible refine bD ?_) | ((with_reducible refine bB hb4 ?_ ?_); (focus (first | omega | (simp; done) | (simp; omega)))) | ((with_reducible refine bB hb3 ?_ ?_); (focus (first | omega | (simp; done) | (simp; omega)))) | ((with_reducible refine bA ?_ ?_); (focus (first | omega | (simp; done) | (simp; omega)))))⟩

end Go.Proofs.Ytdhdkonokbkdoaa
