/-
  Prime terms, of the program and of its model; TermHolds.
-/
import Derived.Test.YtkamopckpmiioaaTrmC
import Derived.Deep.RegionHeld3
import Derived.Deep.DeepCutAuto
import Derived.Deep.DrawnRows

namespace Go.Proofs.Ytkamopckpmiioaa
open Go.RowKit Plain
set_option linter.unusedVariables false

theorem off_i64 : ∀ m < 32, ∀ i < 5, Go.bits .andNot .i64 ((m : Nat) : Int) (IntKind.i64.wrap ((2 : Int) ^ i)) = ((offB m i : Nat) : Int) := by decide +kernel
theorem pick_i64 : ∀ m < 32, ∀ i < 5, Go.bits .and .i64 ((m : Nat) : Int) (wrap64 ((2 : Int) ^ i)) = ((m &&& 2 ^ i : Nat) : Int) := by decide +kernel
theorem pick_bit : ∀ m < 32, ∀ i < 5, (((m &&& 2 ^ i : Nat) : Int) != 0) = decide (bitN m i = 1) := by decide +kernel
theorem off_val : ∀ v < 32, ∀ i < 5, wrap64 (((v : Nat) : Int) - Go.bits .and .i64 ((v : Nat) : Int) (wrap64 ((2 : Int) ^ i))) = ((offB v i : Nat) : Int) := by decide +kernel
theorem off_msk : ∀ m < 32, ∀ i < 5, bitN m i = 1 → wrap64 (((m : Nat) : Int) - wrap64 ((2 : Int) ^ i)) = ((offB m i : Nat) : Int) := by decide +kernel

/-- The term without a letter. -/
theorem Trm.without (m v i : Nat) (hm : m < 32) (hv : v < 32) (hi : i < 5) (w : World) :
    Calls Try.prog 63 #[.agg #[.int .i64 m, .int .i64 v], .int .i64 i] w fun e w' => e = .returned (.agg #[.int .i64 (offB m i), .int .i64 (offB v i)]) ∧ Below w.heap.size w w' := by
  have h1 := off_i64 m hm i hi
  have h2 := off_i64 v hv i hi
  clear hm hv
  go_enter Try.func63, Try.ntmps63
  go_wp2_with fail
  go_region_with (fail)
  all_goals
    go_wp2
    exact bodyPost_ret (v := .agg #[.int .i64 (offB m i), .int .i64 (offB v i)]) (by simp [results, Try.results63, go_sem]) rfl ⟨rfl, by
      repeat (first | (with_reducible exact Below.refl _ _) | (with_reducible assumption) | ((with_reducible refine bS ?_ ?_); (focus (dsimp only; omega))) | ((with_reducible refine bA ?_ ?_); (focus (first | omega | (simp; done) | (simp; omega)))) | (with_reducible refine bD ?_))⟩

/-- IsPrimeTerm of the program. -/
theorem Trm.prmI_no (n a m v : Int) (h64 : -9223372036854775808 ≤ a ∧ a ≤ 9223372036854775807) (hv64 : -9223372036854775808 ≤ v ∧ v ≤ 9223372036854775807) (h : impT n a m v = false) (w : World) :
    Calls Try.prog 28 #[.agg #[.int .i64 n, .int .i64 a], .agg #[.int .i64 m, .int .i64 v]] w fun e w' => e = .returned (.bool false) ∧ Below w.heap.size w w' := by
  have HA := Lib.hid h64
  have HV := Lib.hid hv64
  have H := Lib.hid h
  clear h64 hv64 h
  go_enter Try.func28, Try.ntmps28
  go_wp2_with fail
  refine (Trm.impI n a m v HA.out HV.out _).mono ?_
  rintro e w1 ⟨rfl, hb1⟩
  rw [H.out]
  go_wp2
  go_ret
  exact ⟨rfl, bB hb1 (by simp; omega) (bA (by simp) (bA (Nat.le_refl _) (Below.refl _ _)))⟩

theorem off_tm : ∀ m < 32, ∀ v < 32, ∀ i < 5, v &&& m = v → offB v i &&& offB m i = offB v i := offB_sub

theorem primeX_step {n a m v k : Nat} (h : primeX n a m v k) (hk : bitN m k = 1 → impB n a (offB m k) (offB v k) = false) : primeX n a m v (k + 1) := by
  intro i hi hb
  rcases (show i < k ∨ i = k by omega) with g | rfl
  · exact h i g hb
  · exact hk hb

set_option maxRecDepth 100000 in
set_option maxHeartbeats 2000000 in
theorem Trm.prmI_yes (n a m v : Nat) (ht : isT n a = true) (hn : n ≤ 5) (ha : (a : Int) ≤ 4294967295) (hm : m < 2 ^ n) (hv : v &&& m = v) (hi : impB n a m v = true) (w : World) :
    Calls Try.prog 28 #[.agg #[.int .i64 n, .int .i64 a], .agg #[.int .i64 m, .int .i64 v]] w fun e w' => e = .returned (.bool (primeB n a m v)) ∧ Below w.heap.size w w' := by
  have hle := tm_le hn hm hv
  have HA : Hid (-9223372036854775808 ≤ (a : Int) ∧ (a : Int) ≤ 9223372036854775807) := Lib.hid (by omega)
  have HV : Hid (-9223372036854775808 ≤ (v : Int) ∧ (v : Int) ≤ 9223372036854775807) := Lib.hid (by omega)
  have H : Hid (impT (n : Int) a m v = true) := Lib.hid (by rw [impT_nat ht (isTm_yes hn hm hv)]; exact hi)
  have HI := Lib.hid hi
  have HT := Lib.hid ht
  have HM : Hid (m < 32) := Lib.hid (by omega)
  have HV2 : Hid (v < 32) := Lib.hid (by omega)
  have HMV := Lib.hid hv
  have HN := Lib.hid hn
  have HMN := Lib.hid hm
  have hn5 : (n : Int) ≤ 5 := by omega
  have hm31 : (m : Int) ≤ 31 := by omega
  have hv31 : (v : Int) ≤ 31 := by omega
  clear hi ht hv hn hm hle ha
  go_enter Try.func28, Try.ntmps28
  go_wp2_with fail
  refine (Trm.impI n a m v HA.out HV.out _).mono ?_
  rintro e w1 ⟨rfl, hb1⟩
  obtain ⟨hc1, hf1⟩ := bcell hb1
  have hz1 : w.heap.size + 1 < w1.heap.size := by have := hb1.size; simp at this; omega
  have hz1' : w.heap.size < w1.heap.size := by omega
  have k0 : w1.cell? ⟨w.heap.size, 0, none⟩ = some (.int .i64 n) := keepB hb1 (keepA (keepN rfl rfl))
  have k1 : w1.cell? ⟨w.heap.size, 1, none⟩ = some (.int .i64 a) := keepB hb1 (keepA (keepN rfl rfl))
  have k2 : w1.cell? ⟨w.heap.size + 1, 0, none⟩ = some (.int .i64 m) := keepB hb1 (keepN (by simp) rfl)
  have k3 : w1.cell? ⟨w.heap.size + 1, 1, none⟩ = some (.int .i64 v) := keepB hb1 (keepN (by simp) rfl)
  have HB1 : Hid (Below w.heap.size w w1) := Lib.hid (bB hb1 (by simp; omega) (bA (by simp) (bA (Nat.le_refl _) (Below.refl _ _))))
  clear hb1 hc1 hf1
  rw [H.out]
  go_wp2_with fail
  go_loopw [5, 12] (fun _ x wr => ∃ y : Nat, x = .int .i64 (y : Int) ∧ (y : Int) ≤ n ∧ primeX n a m v y ∧ wr.cell? ⟨w.heap.size, 0, none⟩ = some (.int .i64 n) ∧ wr.cell? ⟨w.heap.size, 1, none⟩ = some (.int .i64 a) ∧ wr.cell? ⟨w.heap.size + 1, 0, none⟩ = some (.int .i64 m) ∧ wr.cell? ⟨w.heap.size + 1, 1, none⟩ = some (.int .i64 v) ∧ w.heap.size + 1 < wr.heap.size ∧ Below w.heap.size w wr) (fun _ x _ => 32 - (intOf x).toNat)
  case atStart => exact ⟨0, rfl, by omega, fun i hi => absurd hi (by omega), k0, k1, k2, k3, hz1, HB1.out⟩
  case round =>
    clear k0 k1 k2 k3 hz1 hz1'
    obtain ⟨y, rfl, hy, hp, k0, k1, k2, k3, hz, hB⟩ := hrel
    have HP := Lib.hid hp
    have HB := Lib.hid hB
    have hz' : w.heap.size < wr.heap.size := by omega
    clear hp hB
    by_cases hlt : (y : Int) < n
    · have hbit := bit_i64 m y (by omega)
      have HY : Hid (y < 5) := Lib.hid (by omega)
      have HYN : Hid (y < n) := Lib.hid (by omega)
      rcases bitN_cases m y with hb | hb
      · have HX := Lib.hid (primeX_step HP.out (fun h => by rw [hb] at h; exact absurd h (by decide)))
        rw [hb] at hbit
        clear hb
        go_wp2_with fail
        go_quiet (fail)
        go_wp2
        go_roundw
        case rel => exact ⟨y + 1, by go_num, by omega, HX.out, k0, k1, k2, k3, hz, below_drewN HB.out _⟩
        case measure => simp [intOf]; omega
      · have HBT := Lib.hid hb
        have HTM : Hid (isTm (n : Int) (offB m y : Int) (offB v y : Int) = true) := Lib.hid (isTm_yes HN.out (Nat.lt_of_le_of_lt (offB_lt m y) HMN.out) (offB_sub m HM.out v HV2.out y HY.out HMV.out))
        have HOV : Hid (-9223372036854775808 ≤ ((offB v y : Nat) : Int) ∧ ((offB v y : Nat) : Int) ≤ 9223372036854775807) := Lib.hid (by have := offB_lt v y; omega)
        rw [hb] at hbit
        clear hb
        cases hi : impB n a (offB m y) (offB v y) with
        | true =>
          have HT2 : Hid (impT (n : Int) a (offB m y) (offB v y) = true) := Lib.hid (by rw [impT_nat HT.out HTM.out]; exact hi)
          have HE := Lib.hid (primeB_no2 HYN.out HBT.out hi)
          clear hi
          go_wp2_with fail
          go_region_held3 (fun w' => w'.cell? ⟨w.heap.size, 0, none⟩ = some (.int .i64 n) ∧ w'.cell? ⟨w.heap.size, 1, none⟩ = some (.int .i64 a) ∧ w'.cell? ⟨w.heap.size + 1, 0, none⟩ = some (.int .i64 m) ∧ w'.cell? ⟨w.heap.size + 1, 1, none⟩ = some (.int .i64 v)) ((first | (go_split_ands; (try dsimp only); (refine ⟨?_, ?_, ?_, ?_⟩ <;> (repeat (first | with_reducible assumption | ((with_reducible refine keepU ?_); (with_reducible assumption)) | (with_reducible refine keepD ?_) | (with_reducible refine keepB hb ?_) | (with_reducible refine keepB hb' ?_)))); done) | go_keep))
            (first
              | (go_at_call 63; ((with_reducible refine (Trm.without m v y HM.out HV2.out HY.out _).mono ?_); rintro e w14 ⟨rfl, hb⟩; have hs := hb.size; try simp only [World.size_drew] at hs))
              | (go_at_call 26; ((with_reducible refine (Trm.impI n a (offB m y) (offB v y) HA.out HOV.out _).mono ?_); rintro e w15 ⟨rfl, hb'⟩; rw [HT2.out]; have hs' := hb'.size; try simp only [World.size_alloc, World.size_drew] at hs')))
          all_goals
            go_wp2
            go_ret
            refine ⟨ret_bool HE.out.symm, ?_⟩
            have HBB := HB.out
            repeat (first | (with_reducible exact Below.refl _ _) | (with_reducible assumption) | ((with_reducible refine bS ?_ ?_); (focus (dsimp only; omega))) | ((with_reducible refine bA ?_ ?_); (focus (first | omega | (simp; done) | (simp; omega)))) | (with_reducible refine bD ?_) | ((with_reducible refine bB hb ?_ ?_); (focus (first | omega | (simp; done) | (simp; omega)))) | ((with_reducible refine bB hb' ?_ ?_); (focus (first | omega | (simp; done) | (simp; omega)))))
        | false =>
          have HT2 : Hid (impT (n : Int) a (offB m y) (offB v y) = false) := Lib.hid (by rw [impT_nat HT.out HTM.out]; exact hi)
          have HX := Lib.hid (primeX_step HP.out (fun _ => hi))
          clear hi
          go_wp2_with fail
          go_region_held3 (fun w' => w'.cell? ⟨w.heap.size, 0, none⟩ = some (.int .i64 n) ∧ w'.cell? ⟨w.heap.size, 1, none⟩ = some (.int .i64 a) ∧ w'.cell? ⟨w.heap.size + 1, 0, none⟩ = some (.int .i64 m) ∧ w'.cell? ⟨w.heap.size + 1, 1, none⟩ = some (.int .i64 v)) ((first | (go_split_ands; (try dsimp only); (refine ⟨?_, ?_, ?_, ?_⟩ <;> (repeat (first | with_reducible assumption | ((with_reducible refine keepU ?_); (with_reducible assumption)) | (with_reducible refine keepD ?_) | (with_reducible refine keepB hb ?_) | (with_reducible refine keepB hb' ?_)))); done) | go_keep))
            (first
              | (go_at_call 63; ((with_reducible refine (Trm.without m v y HM.out HV2.out HY.out _).mono ?_); rintro e w14 ⟨rfl, hb⟩; have hs := hb.size; try simp only [World.size_drew] at hs))
              | (go_at_call 26; ((with_reducible refine (Trm.impI n a (offB m y) (offB v y) HA.out HOV.out _).mono ?_); rintro e w15 ⟨rfl, hb'⟩; rw [HT2.out]; have hs' := hb'.size; try simp only [World.size_alloc, World.size_drew] at hs')))
          all_goals
            go_wp2
            go_roundw
            case rel =>
              refine ⟨y + 1, by go_num, by omega, HX.out, ?_, ?_, ?_, ?_, by omega, ?_⟩
              all_goals
                have HBB := HB.out
                repeat (first | (with_reducible assumption) | ((with_reducible refine keepU ?_); (with_reducible assumption)) | (with_reducible refine keepD ?_) | (with_reducible refine keepB hb ?_) | (with_reducible refine keepB hb' ?_) | ((with_reducible refine bS ?_ ?_); (focus (dsimp only; omega))) | ((with_reducible refine bA ?_ ?_); (focus (first | omega | (simp; done) | (simp; omega)))) | (with_reducible refine bD ?_) | ((with_reducible refine bB hb ?_ ?_); (focus (first | omega | (simp; done) | (simp; omega)))) | ((with_reducible refine bB hb' ?_ ?_); (focus (first | omega | (simp; done) | (simp; omega)))))
            case measure => simp [intOf]; omega
    · have he : y = n := by omega
      have HE : Hid (primeB n a m v = true) := Lib.hid ((primeB_iff _ _ _ _).2 ⟨HI.out, by have := HP.out; rw [he] at this; exact this⟩)
      clear he
      go_wp2
      go_ret
      exact ⟨ret_bool HE.out.symm, HB.out⟩

theorem Trm.prmI (n a m v : Int) (h64 : -9223372036854775808 ≤ a ∧ a ≤ 9223372036854775807) (hv64 : -9223372036854775808 ≤ v ∧ v ≤ 9223372036854775807) (w : World) :
    Calls Try.prog 28 #[.agg #[.int .i64 n, .int .i64 a], .agg #[.int .i64 m, .int .i64 v]] w fun e w' => e = .returned (.bool (prmT n a m v)) ∧ Below w.heap.size w w' := by
  cases hi : impT n a m v with
  | false =>
    have : prmT n a m v = false := by
      unfold impT at hi
      unfold prmT
      cases ht : isT n a with
      | false => rfl
      | true =>
        cases hv : isTm n m v with
        | false => rfl
        | true =>
          rw [ht, hv] at hi
          rw [primeB_no1 (by simpa using hi)]; rfl
    rw [this]; exact Trm.prmI_no n a m v h64 hv64 hi w
  | true =>
    have hi' := hi
    unfold impT at hi'
    rw [Bool.and_eq_true, Bool.and_eq_true] at hi'
    obtain ⟨ht, hv, hb⟩ := hi'
    obtain ⟨k, x, rfl, rfl, hk, hx⟩ := isT_nat ht
    obtain ⟨k', b, c, e1, rfl, rfl, _, hbm, hc⟩ := isTm_nat hv
    obtain rfl : k = k' := by omega
    rw [prmT_nat ht hv]
    exact Trm.prmI_yes k x b c ht hk (by have := fullN_le k hk; omega) hbm hc (by simpa using hb) w

/-! The model's. -/
theorem Trm.primeM_no (n a m v : Nat) (hn : n ≤ 5) (ha : (a : Int) ≤ 4294967295) (hm : (m : Int) ≤ 31) (h : impB n a m v = false) (w : World) :
    Calls Try.prog 62 #[.agg #[.int .i64 n, .int .i64 a], .agg #[.int .i64 m, .int .i64 v]] w fun e w' => e = .returned (.bool false) ∧ Below w.heap.size w w' := by
  have HI := Lib.hid (Trm.impliesM n a m v m v rfl rfl hn ha hm)
  have H := Lib.hid h
  clear hn ha hm h
  go_enter Try.func62, Try.ntmps62
  go_wp2_with fail
  refine (HI.out _).mono ?_
  rintro e w1 ⟨rfl, hb1⟩
  rw [H.out]
  go_wp2
  go_ret
  exact ⟨rfl, bB hb1 (by simp; omega) (bA (by simp) (bA (Nat.le_refl _) (Below.refl _ _)))⟩

theorem pick_zero : ∀ m < 32, ∀ i < 5, bitN m i = 0 → (m &&& 2 ^ i) = 0 := by decide +kernel

set_option maxRecDepth 100000 in
set_option maxHeartbeats 2000000 in
theorem Trm.primeM_yes (n a m v : Nat) (hn : n ≤ 5) (ha : (a : Int) ≤ 4294967295) (hm : (m : Int) ≤ 31) (hv : v ≤ m) (hi : impB n a m v = true) (w : World) :
    Calls Try.prog 62 #[.agg #[.int .i64 n, .int .i64 a], .agg #[.int .i64 m, .int .i64 v]] w fun e w' => e = .returned (.bool (primeB n a m v)) ∧ Below w.heap.size w w' := by
  have HIM := Lib.hid (Trm.impliesM n a m v m v rfl rfl hn ha hm)
  have HI := Lib.hid hi
  have HM : Hid (m < 32) := Lib.hid (by omega)
  have HV2 : Hid (v < 32) := Lib.hid (by omega)
  have HN := Lib.hid hn
  have HA := Lib.hid ha
  have hn5 : (n : Int) ≤ 5 := by omega
  have hv31 : (v : Int) ≤ 31 := by omega
  clear hi hn ha hv
  go_enter Try.func62, Try.ntmps62
  go_wp2_with fail
  refine (HIM.out _).mono ?_
  rintro e w1 ⟨rfl, hb1⟩
  obtain ⟨hc1, hf1⟩ := bcell hb1
  have hz1 : w.heap.size + 1 < w1.heap.size := by have := hb1.size; simp at this; omega
  have k0 : w1.cell? ⟨w.heap.size, 0, none⟩ = some (.int .i64 n) := keepB hb1 (keepA (keepN rfl rfl))
  have k1 : w1.cell? ⟨w.heap.size, 1, none⟩ = some (.int .i64 a) := keepB hb1 (keepA (keepN rfl rfl))
  have k2 : w1.cell? ⟨w.heap.size + 1, 0, none⟩ = some (.int .i64 m) := keepB hb1 (keepN (by simp) rfl)
  have k3 : w1.cell? ⟨w.heap.size + 1, 1, none⟩ = some (.int .i64 v) := keepB hb1 (keepN (by simp) rfl)
  have HB1 : Hid (Below w.heap.size w w1) := Lib.hid (bB hb1 (by simp; omega) (bA (by simp) (bA (Nat.le_refl _) (Below.refl _ _))))
  clear hb1 hc1 hf1
  rw [HI.out]
  go_wp2_with fail
  go_loopw [5, 6] (fun x _ wr => ∃ y : Nat, x = .int .i64 (y : Int) ∧ (y : Int) ≤ n ∧ primeX n a m v y ∧ wr.cell? ⟨w.heap.size, 0, none⟩ = some (.int .i64 n) ∧ wr.cell? ⟨w.heap.size, 1, none⟩ = some (.int .i64 a) ∧ wr.cell? ⟨w.heap.size + 1, 0, none⟩ = some (.int .i64 m) ∧ wr.cell? ⟨w.heap.size + 1, 1, none⟩ = some (.int .i64 v) ∧ w.heap.size + 1 < wr.heap.size ∧ Below w.heap.size w wr) (fun x _ _ => 32 - (intOf x).toNat)
  case atStart => exact ⟨0, rfl, by omega, fun i hi => absurd hi (by omega), k0, k1, k2, k3, hz1, HB1.out⟩
  case round =>
    clear k0 k1 k2 k3 hz1
    obtain ⟨y, rfl, hy, hp, k0, k1, k2, k3, hz, hB⟩ := hrel
    have HP := Lib.hid hp
    have HB := Lib.hid hB
    have hz' : w.heap.size < wr.heap.size := by omega
    clear hp hB
    by_cases hlt : (y : Int) < n
    · have HY : Hid (y < 5) := Lib.hid (by omega)
      have HYN : Hid (y < n) := Lib.hid (by omega)
      have p1 := pick_i64 m HM.out y HY.out
      have p2 := pick_i64 v HV2.out y HY.out
      have p3 := pick_bit m HM.out y HY.out
      rcases bitN_cases m y with hb | hb
      · have HX := Lib.hid (primeX_step HP.out (fun h => by rw [hb] at h; exact absurd h (by decide)))
        rw [pick_zero m HM.out y HY.out hb] at p1
        clear hb p3 p2
        go_wp2
        go_roundw
        case rel => exact ⟨y + 1, by go_num, by omega, HX.out, k0, k1, k2, k3, hz, HB.out⟩
        case measure => simp [intOf]; omega
      · have HBT := Lib.hid hb
        have HM2 : Hid ((((offB m y : Nat)) : Int) ≤ 31) := Lib.hid (by have := offB_lt m y; omega)
        have hs1 := off_msk m HM.out y HY.out hb
        have hs2 := off_val v HV2.out y HY.out
        rw [decide_eq_true hb] at p3
        clear hb
        cases hi : impB n a (offB m y) (offB v y) with
        | true =>
          have HI2 := Lib.hid hi
          have HE := Lib.hid (primeB_no2 HYN.out HBT.out hi)
          clear hi
          have HS1 := Lib.hid hs1
          have HS2 := Lib.hid hs2
          clear hs1 hs2 p2
          go_wp2_with fail
          refine (Trm.impliesM n a (offB m y) (offB v y) _ _ HS1.out HS2.out HN.out HA.out HM2.out _).mono ?_
          rintro e w2 ⟨rfl, hb2⟩
          rw [HI2.out]
          go_wp2
          go_ret
          exact ⟨ret_bool HE.out.symm, bB hb2 (by omega) HB.out⟩
        | false =>
          have HI2 := Lib.hid hi
          have HX := Lib.hid (primeX_step HP.out (fun _ => hi))
          clear hi
          have HS1 := Lib.hid hs1
          have HS2 := Lib.hid hs2
          clear hs1 hs2 p2
          go_wp2_with fail
          refine (Trm.impliesM n a (offB m y) (offB v y) _ _ HS1.out HS2.out HN.out HA.out HM2.out _).mono ?_
          rintro e w2 ⟨rfl, hb2⟩
          have hz2 := hb2.size
          rw [HI2.out]
          have c0 := keepB hb2 k0
          have c1 := keepB hb2 k1
          have c2 := keepB hb2 k2
          have c3 := keepB hb2 k3
          go_wp2
          go_roundw
          case rel => exact ⟨y + 1, by go_num, by omega, HX.out, c0, c1, c2, c3, by omega, bB hb2 (by omega) HB.out⟩
          case measure => simp [intOf]; omega
    · have he : y = n := by omega
      have HE : Hid (primeB n a m v = true) := Lib.hid ((primeB_iff _ _ _ _).2 ⟨HI.out, by have := HP.out; rw [he] at this; exact this⟩)
      clear he
      go_wp2
      go_ret
      exact ⟨ret_bool HE.out.symm, HB.out⟩

theorem Trm.prmM_no1 (n a m v : Int) (ht : isT n a = false) (w : World) :
    Calls Try.prog 27 #[.agg #[.int .i64 n, .int .i64 a], .agg #[.int .i64 m, .int .i64 v]] w fun e w' => e = .returned (.bool false) ∧ Below w.heap.size w w' := by
  have H := Lib.hid ht
  clear ht
  go_enter Try.func27, Try.ntmps27
  go_wp2_with fail
  refine (Tab.model _ _ _).mono ?_
  rintro e w1 ⟨rfl, hb1⟩
  rw [H.out]
  go_wp2
  go_ret
  exact ⟨rfl, bB hb1 (by simp; omega) (bA (by simp) (bA (Nat.le_refl _) (Below.refl _ _)))⟩

theorem Trm.prmM_no2 (n a m v : Int) (ht : isT n a = true) (hv : isTm n m v = false) (w : World) :
    Calls Try.prog 27 #[.agg #[.int .i64 n, .int .i64 a], .agg #[.int .i64 m, .int .i64 v]] w fun e w' => e = .returned (.bool false) ∧ Below w.heap.size w w' := by
  have H := Lib.hid ht
  have HV := Lib.hid hv
  clear ht hv
  go_enter Try.func27, Try.ntmps27
  go_wp2_with fail
  refine (Tab.model _ _ _).mono ?_
  rintro e w1 ⟨rfl, hb1⟩
  obtain ⟨hc1, hf1⟩ := bcell hb1
  have hz : w.heap.size + 1 < w1.heap.size := by have := hb1.size; simp at this; omega
  have hz' : w.heap.size < w1.heap.size := by omega
  rw [H.out]
  go_wp2_with fail
  refine (Trm.isM _ _ _ _).mono ?_
  rintro e w2 ⟨rfl, hb2⟩
  rw [HV.out]
  go_wp2
  go_ret
  exact ⟨rfl, bB hb2 (by omega) (bB hb1 (by simp; omega) (bA (by simp) (bA (Nat.le_refl _) (Below.refl _ _))))⟩

theorem Trm.primeM (n a m v : Nat) (hn : n ≤ 5) (ha : (a : Int) ≤ 4294967295) (hm : (m : Int) ≤ 31) (hv : v ≤ m) (w : World) :
    Calls Try.prog 62 #[.agg #[.int .i64 n, .int .i64 a], .agg #[.int .i64 m, .int .i64 v]] w fun e w' => e = .returned (.bool (primeB n a m v)) ∧ Below w.heap.size w w' := by
  cases hi : impB n a m v with
  | false => rw [primeB_no1 hi]; exact Trm.primeM_no n a m v hn ha hm hi w
  | true => exact Trm.primeM_yes n a m v hn ha hm hv hi w

theorem Trm.prmM_yes (n a m v : Nat) (ht : isT n a = true) (hn : n ≤ 5) (ha : (a : Int) ≤ 4294967295) (hm : (m : Int) ≤ 31) (hle : v ≤ m) (hv : isTm n m v = true) (w : World) :
    Calls Try.prog 27 #[.agg #[.int .i64 n, .int .i64 a], .agg #[.int .i64 m, .int .i64 v]] w fun e w' => e = .returned (.bool (primeB n a m v)) ∧ Below w.heap.size w w' := by
  have H := Lib.hid ht
  have HV := Lib.hid hv
  have HI := Lib.hid (Trm.primeM n a m v hn ha hm hle)
  clear ht hv hn ha hm hle
  go_enter Try.func27, Try.ntmps27
  go_wp2_with fail
  refine (Tab.model _ _ _).mono ?_
  rintro e w1 ⟨rfl, hb1⟩
  obtain ⟨hc1, hf1⟩ := bcell hb1
  have hz : w.heap.size + 1 < w1.heap.size := by have := hb1.size; simp at this; omega
  have hz' : w.heap.size < w1.heap.size := by omega
  rw [H.out]
  go_wp2_with fail
  refine (Trm.isM _ _ _ _).mono ?_
  rintro e w2 ⟨rfl, hb2⟩
  obtain ⟨hc2, hf2⟩ := bcell hb2
  have hz2 : w.heap.size + 1 < w2.heap.size := by have := hb2.size; omega
  have hz2' : w.heap.size < w2.heap.size := by omega
  rw [HV.out]
  go_wp2_with fail
  refine (HI.out _).mono ?_
  rintro e w3 ⟨rfl, hb3⟩
  go_wp2
  go_ret
  exact ⟨rfl, bB hb3 (by omega) (bB hb2 (by omega) (bB hb1 (by simp; omega) (bA (by simp) (bA (Nat.le_refl _) (Below.refl _ _)))))⟩

/-- IsPrimeTerm of the model. -/
theorem Trm.prmM (n a m v : Int) (w : World) :
    Calls Try.prog 27 #[.agg #[.int .i64 n, .int .i64 a], .agg #[.int .i64 m, .int .i64 v]] w fun e w' => e = .returned (.bool (prmT n a m v)) ∧ Below w.heap.size w w' := by
  cases ht : isT n a with
  | false =>
    have : prmT n a m v = false := by unfold prmT; rw [ht]; rfl
    rw [this]; exact Trm.prmM_no1 n a m v ht w
  | true =>
    cases hv : isTm n m v with
    | false =>
      have : prmT n a m v = false := by unfold prmT; rw [ht, hv]; rfl
      rw [this]; exact Trm.prmM_no2 n a m v ht hv w
    | true =>
      obtain ⟨k, x, rfl, rfl, hk, hx⟩ := isT_nat ht
      obtain ⟨k', b, c, e1, rfl, rfl, _, hb, hc⟩ := isTm_nat hv
      obtain rfl : k = k' := by omega
      have := tm_le hk hb hc
      rw [prmT_nat ht hv]
      exact Trm.prmM_yes k x b c ht hk (by have := fullN_le k hk; omega) (by omega) (by omega) hv w

/-! TermHolds. -/
def Plain.holdT (m v x : Int) : Bool := isTm 5 m v && (decide (0 ≤ x ∧ x ≤ 31) && decide (x.toNat &&& m.toNat = v.toNat))

theorem Trm.holdI_no1 (m v x : Int) (hv64 : -9223372036854775808 ≤ v ∧ v ≤ 9223372036854775807) (h : isTm 5 m v = false) (w : World) :
    Calls Try.prog 18 #[.agg #[.int .i64 m, .int .i64 v], .int .i64 x] w fun e w' => e = .returned (.bool false) ∧ Below w.heap.size w w' := by
  have H := Lib.hid h
  have HV := Lib.hid hv64
  clear h hv64
  go_enter Try.func18, Try.ntmps18
  go_wp2_with fail
  refine (Trm.isI _ _ _ HV.out _).mono ?_
  rintro e w1 ⟨rfl, hb1⟩
  rw [H.out]
  go_wp2
  go_ret
  exact ⟨rfl, bB hb1 (by simp) (bA (Nat.le_refl _) (Below.refl _ _))⟩

theorem Trm.input5 (x : Int) (w : World) : Calls Try.prog 54 #[.int .i64 5, .int .i64 x] w fun e w' => e = .returned (.bool (inpB 5 x)) ∧ w = w' := Tab.input 5 x (by decide) w

theorem Trm.holdI_no2 (m v x : Int) (hv64 : -9223372036854775808 ≤ v ∧ v ≤ 9223372036854775807) (h : isTm 5 m v = true) (hx : ¬ (0 ≤ x ∧ x ≤ 31)) (w : World) :
    Calls Try.prog 18 #[.agg #[.int .i64 m, .int .i64 v], .int .i64 x] w fun e w' => e = .returned (.bool false) ∧ Below w.heap.size w w' := by
  have H := Lib.hid h
  have HV := Lib.hid hv64
  have HX : Hid (inpB 5 x = false) := Lib.hid (inpB_no (n := 5) (x := x) (by have e : ((2 : Int) ^ 5) = 32 := rfl; rw [e]; omega))
  clear h hv64 hx
  go_enter Try.func18, Try.ntmps18
  go_wp2_with fail
  refine (Trm.isI _ _ _ HV.out _).mono ?_
  rintro e w1 ⟨rfl, hb1⟩
  rw [H.out]
  go_wp2_with fail
  refine (Trm.input5 _ _).mono ?_
  rintro e w2 ⟨rfl, rfl⟩
  rw [HX.out]
  go_wp2
  go_ret
  exact ⟨rfl, bB hb1 (by simp) (bA (Nat.le_refl _) (Below.refl _ _))⟩

theorem Trm.holdI_yes (m v x : Nat) (hm : (m : Int) ≤ 31) (hv : (v : Int) ≤ 31) (h : isTm 5 m v = true) (hx : (x : Int) ≤ 31) (w : World) :
    Calls Try.prog 18 #[.agg #[.int .i64 m, .int .i64 v], .int .i64 x] w fun e w' => e = .returned (.bool (decide (x &&& m = v))) ∧ Below w.heap.size w w' := by
  have H := Lib.hid h
  have HV : Hid (-9223372036854775808 ≤ (v : Int) ∧ (v : Int) ≤ 9223372036854775807) := Lib.hid (by omega)
  have HX : Hid (inpB 5 (x : Int) = true) := Lib.hid (inpB_yes (n := 5) (x := (x : Int)) (by have e : ((2 : Int) ^ 5) = 32 := rfl; rw [e]; omega))
  have HH := Lib.hid (Trm.holds m v x hm (by omega))
  clear h hx hm hv
  go_enter Try.func18, Try.ntmps18
  go_wp2_with fail
  refine (Trm.isI _ _ _ HV.out _).mono ?_
  rintro e w1 ⟨rfl, hb1⟩
  obtain ⟨hc1, hf1⟩ := bcell hb1
  have hz : w.heap.size < w1.heap.size := by have := hb1.size; simp at this; omega
  rw [H.out]
  go_wp2_with fail
  refine (Trm.input5 _ _).mono ?_
  rintro e w2 ⟨rfl, rfl⟩
  rw [HX.out]
  go_wp2_with fail
  refine (HH.out _).mono ?_
  rintro e w2 ⟨rfl, hb2⟩
  go_wp2
  go_ret
  exact ⟨rfl, bB hb2 (by omega) (bB hb1 (by simp) (bA (Nat.le_refl _) (Below.refl _ _)))⟩

/-- TermHolds of the program. -/
theorem Trm.holdI (m v x : Int) (hv64 : -9223372036854775808 ≤ v ∧ v ≤ 9223372036854775807) (w : World) :
    Calls Try.prog 18 #[.agg #[.int .i64 m, .int .i64 v], .int .i64 x] w fun e w' => e = .returned (.bool (holdT m v x)) ∧ Below w.heap.size w w' := by
  cases h : isTm 5 m v with
  | false =>
    have : holdT m v x = false := by unfold holdT; rw [h]; rfl
    rw [this]; exact Trm.holdI_no1 m v x hv64 h w
  | true =>
    by_cases hx : 0 ≤ x ∧ x ≤ 31
    · obtain ⟨k, b, c, e1, rfl, rfl, hk, hb, hc⟩ := isTm_nat h
      obtain ⟨y, rfl⟩ := Int.eq_ofNat_of_zero_le hx.1
      have := tm_le hk hb hc
      have e : holdT (b : Int) (c : Int) (y : Int) = decide (y &&& b = c) := by unfold holdT; rw [h, decide_eq_true hx]; simp
      rw [e]
      exact Trm.holdI_yes b c y (by omega) (by omega) h hx.2 w
    · have : holdT m v x = false := by unfold holdT; rw [decide_eq_false hx]; simp
      rw [this]; exact Trm.holdI_no2 m v x hv64 h hx w

theorem Trm.holdM_no1 (m v x : Int) (h : isTm 5 m v = false) (w : World) :
    Calls Try.prog 17 #[.agg #[.int .i64 m, .int .i64 v], .int .i64 x] w fun e w' => e = .returned (.bool false) ∧ Below w.heap.size w w' := by
  have H := Lib.hid h
  clear h
  go_enter Try.func17, Try.ntmps17
  go_wp2_with fail
  refine (Trm.isM _ _ _ _).mono ?_
  rintro e w1 ⟨rfl, hb1⟩
  rw [H.out]
  go_wp2
  go_ret
  exact ⟨rfl, bB hb1 (by simp) (bA (Nat.le_refl _) (Below.refl _ _))⟩

theorem Trm.holdM_no2 (m v x : Int) (h : isTm 5 m v = true) (hx : ¬ (0 ≤ x ∧ x ≤ 31)) (w : World) :
    Calls Try.prog 17 #[.agg #[.int .i64 m, .int .i64 v], .int .i64 x] w fun e w' => e = .returned (.bool false) ∧ Below w.heap.size w w' := by
  have H := Lib.hid h
  have HX := Lib.hid hx
  clear h hx
  go_enter Try.func17, Try.ntmps17
  go_wp2_with fail
  refine (Trm.isM _ _ _ _).mono ?_
  rintro e w1 ⟨rfl, hb1⟩
  rw [H.out]
  go_wp2_with fail
  refine (Widths.in_no _ _ _ HX.out _).mono ?_
  rintro e w2 ⟨rfl, rfl⟩
  go_wp2
  go_ret
  exact ⟨rfl, bB hb1 (by simp) (bA (Nat.le_refl _) (Below.refl _ _))⟩

theorem Trm.holdM_yes (m v x : Nat) (hm : (m : Int) ≤ 31) (h : isTm 5 m v = true) (hx : (x : Int) ≤ 31) (w : World) :
    Calls Try.prog 17 #[.agg #[.int .i64 m, .int .i64 v], .int .i64 x] w fun e w' => e = .returned (.bool (decide (x &&& m = v))) ∧ Below w.heap.size w w' := by
  have H := Lib.hid h
  have HX : Hid ((0 : Int) ≤ x ∧ (x : Int) ≤ 31) := Lib.hid (by omega)
  have hand := and64 x m (by omega) (by omega)
  have hb := hold_beq m v x
  clear h hx hm
  go_enter Try.func17, Try.ntmps17
  go_wp2_with fail
  refine (Trm.isM _ _ _ _).mono ?_
  rintro e w1 ⟨rfl, hb1⟩
  obtain ⟨hc1, hf1⟩ := bcell hb1
  have hz : w.heap.size < w1.heap.size := by have := hb1.size; simp at this; omega
  rw [H.out]
  go_wp2_with fail
  refine (Widths.in_yes _ _ _ HX.out _).mono ?_
  rintro e w2 ⟨rfl, rfl⟩
  go_wp2
  go_ret
  exact ⟨rfl, bB hb1 (by simp) (bA (Nat.le_refl _) (Below.refl _ _))⟩

/-- TermHolds of the model. -/
theorem Trm.holdM (m v x : Int) (w : World) :
    Calls Try.prog 17 #[.agg #[.int .i64 m, .int .i64 v], .int .i64 x] w fun e w' => e = .returned (.bool (holdT m v x)) ∧ Below w.heap.size w w' := by
  cases h : isTm 5 m v with
  | false =>
    have : holdT m v x = false := by unfold holdT; rw [h]; rfl
    rw [this]; exact Trm.holdM_no1 m v x h w
  | true =>
    by_cases hx : 0 ≤ x ∧ x ≤ 31
    · obtain ⟨k, b, c, e1, rfl, rfl, hk, hb, hc⟩ := isTm_nat h
      obtain ⟨y, rfl⟩ := Int.eq_ofNat_of_zero_le hx.1
      have := tm_le hk hb hc
      have e : holdT (b : Int) (c : Int) (y : Int) = decide (y &&& b = c) := by unfold holdT; rw [h, decide_eq_true hx]; simp
      rw [e]
      exact Trm.holdM_yes b c y (by omega) h hx.2 w
    · have : holdT m v x = false := by unfold holdT; rw [decide_eq_false hx]; simp
      rw [this]; exact Trm.holdM_no2 m v x h hx w

end Go.Proofs.Ytkamopckpmiioaa
