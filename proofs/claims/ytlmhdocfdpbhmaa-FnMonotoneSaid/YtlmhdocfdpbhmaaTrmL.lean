/-
  Terms, of the program and of its model: IsTerm, TermHolds, the word of a term, implicants, prime terms.
  Terms: when they hold, their words, implicants, prime terms; of the program and of its model.
  Implicants and prime terms, of the program and of its model; TermHolds.
  Prime terms, of the program and of its model; TermHolds.
  The laws' copies of terms and their comparison.
-/
import Derived.Test.YtlmhdocfdpbhmaaPlainQ
import Derived.Test.YtlmhdocfdpbhmaaResKB
import Derived.Deep.RegionWith
import Derived.Deep.RegionHeld3
import Derived.Deep.DeepCutAuto
import Derived.Deep.DrawnRows

namespace Go.Proofs.Ytlmhdocfdpbhmaa
open Go.RowKit Plain
set_option linter.unusedVariables false

theorem isTm_no {n m v : Int} (h : ¬ ((0 ≤ n ∧ n ≤ 5) ∧ (0 ≤ m ∧ m < 2 ^ n.toNat) ∧ 0 ≤ v ∧ v.toNat &&& m.toNat = v.toNat)) : isTm n m v = false := decide_eq_false h

/-! The program's. -/
theorem Trm.isI_no1 (n m v : Int) (hn : ¬ (0 ≤ n ∧ n ≤ 5)) (w : World) :
    Calls Try.prog 113 #[.int .i64 n, .agg #[.int .i64 m, .int .i64 v]] w fun e w' => e = .returned (.bool false) ∧ Below w.heap.size w w' := by
  have H := Lib.hid (inB_no hn)
  clear hn
  go_enter Try.func113, Try.ntmps113
  go_wp2_with fail
  refine (Tab.bits _ _).mono ?_
  rintro e w1 ⟨rfl, rfl⟩
  rw [H.out]
  go_wp2
  go_ret
  exact ⟨rfl, (Below.refl _ _).alloc (Nat.le_refl _) _⟩

theorem Trm.isI_any (n : Nat) (m v : Int) (b : Bool) (hn : n ≤ 5) (w : World)
    (hC : ∀ w, Calls Try.prog 131 #[.int .i64 n, .int .i64 m, .int .i64 v] w fun e w' => e = .returned (.bool b) ∧ w = w') :
    Calls Try.prog 113 #[.int .i64 n, .agg #[.int .i64 m, .int .i64 v]] w fun e w' => e = .returned (.bool b) ∧ Below w.heap.size w w' := by
  have H : Hid (inB (n : Int) 0 5 = true) := Lib.hid (inB_yes (by omega))
  have HC := Lib.hid hC
  clear hn hC
  go_enter Try.func113, Try.ntmps113
  go_wp2_with fail
  refine (Tab.bits _ _).mono ?_
  rintro e w1 ⟨rfl, rfl⟩
  rw [H.out]
  go_wp2_with fail
  refine (HC.out _).mono ?_
  rintro e w1 ⟨rfl, rfl⟩
  go_wp2
  go_ret
  exact ⟨rfl, (Below.refl _ _).alloc (Nat.le_refl _) _⟩

theorem Trm.cube (n : Nat) (m v : Int) (hn : n ≤ 5) (hb : -9223372036854775808 ≤ v ∧ v ≤ 9223372036854775807) (w : World) :
    Calls Try.prog 131 #[.int .i64 n, .int .i64 m, .int .i64 v] w fun e w' => e = .returned (.bool (isTm n m v)) ∧ w = w' := by
  by_cases hm : 0 ≤ m ∧ m < 2 ^ n
  · obtain ⟨a, rfl⟩ := Int.eq_ofNat_of_zero_le hm.1
    by_cases hv : 0 ≤ v ∧ v.toNat &&& a = v.toNat
    · have e : isTm (n : Int) (a : Int) v = true := isTm_iff.2 ⟨by omega, by simpa using hm, hv.1, by simpa using hv.2⟩
      rw [e]
      obtain ⟨b, rfl⟩ := Int.eq_ofNat_of_zero_le hv.1
      exact Tab.isCube_yes n a b hn hm.2 (by simpa using hv.2) w
    · have e : isTm (n : Int) (a : Int) v = false := isTm_no fun h => hv ⟨h.2.2.1, by simpa using h.2.2.2⟩
      rw [e]
      exact Tab.isCube_no2 n a v hn hm.2 hb hv w
  · have e : isTm (n : Int) m v = false := isTm_no fun h => hm (by simpa using h.2.1)
    rw [e]
    exact Tab.isCube_no1 n m v hn hm w

/-- IsTerm of the program. -/
theorem Trm.isI (n m v : Int) (hb : -9223372036854775808 ≤ v ∧ v ≤ 9223372036854775807) (w : World) :
    Calls Try.prog 113 #[.int .i64 n, .agg #[.int .i64 m, .int .i64 v]] w fun e w' => e = .returned (.bool (isTm n m v)) ∧ Below w.heap.size w w' := by
  by_cases hn : 0 ≤ n ∧ n ≤ 5
  · obtain ⟨k, rfl⟩ := Int.eq_ofNat_of_zero_le hn.1
    exact Trm.isI_any k m v _ (by omega) w fun w => Trm.cube k m v (by omega) hb w
  · rw [isTm_no fun h => hn h.1]
    exact Trm.isI_no1 n m v hn w

end Go.Proofs.Ytlmhdocfdpbhmaa

namespace Go.Proofs.Ytlmhdocfdpbhmaa
open Go.RowKit Plain
set_option linter.unusedVariables false

theorem hold_beq (m v x : Nat) : (((x &&& m : Nat) : Int) == (v : Int)) = decide (x &&& m = v) := by
  by_cases h : x &&& m = v
  · rw [h]; simp
  · rw [decide_eq_false h, beq_eq_false_iff_ne]; omega

end Go.Proofs.Ytlmhdocfdpbhmaa

namespace Go.Proofs.Ytlmhdocfdpbhmaa
open Go.RowKit Plain
set_option linter.unusedVariables false

/-- What IsImplicant and IsPrimeTerm answer. -/
def Plain.impT (n a m v : Int) : Bool := isT n a && (isTm n m v && impB n.toNat a.toNat m.toNat v.toNat)
def Plain.prmT (n a m v : Int) : Bool := isT n a && (isTm n m v && primeB n.toNat a.toNat m.toNat v.toNat)
theorem impT_nat {n a m v : Nat} (ht : isT n a = true) (hv : isTm n m v = true) : impT n a m v = impB n a m v := by unfold impT; rw [ht, hv]; rfl
theorem prmT_nat {n a m v : Nat} (ht : isT n a = true) (hv : isTm n m v = true) : prmT n a m v = primeB n a m v := by unfold prmT; rw [ht, hv]; rfl
theorem cub_imp {n a m v : Nat} (hn : n ≤ 5) (hm : m < 2 ^ n) (hv : v &&& m = v) : (cubV n a m v = 1) ↔ impB n a m v = true := by
  have hvn : v < 2 ^ n := by have := tm_le hn hm hv; omega
  rw [impB_iff]
  constructor
  · intro h x hx he
    rw [← bitN_one]
    cases hc : cubX a m v (2 ^ n) with
    | true => rw [cubV_mixed hc] at h; omega
    | false =>
      rw [cubV_same hc] at h
      by_cases e : bitN a x = bitN a v
      · omega
      · rw [cubX_hit hx he e] at hc; exact absurd hc (by decide)
  · intro h
    have hb : bitN a v = 1 := (bitN_one a v).2 (h v hvn hv)
    have hc : cubX a m v (2 ^ n) = false := by
      rw [Bool.eq_false_iff]
      intro hc
      obtain ⟨x, h1, h2, h3⟩ := (cubX_iff a m v (2 ^ n)).1 hc
      exact h3 (((bitN_one a x).2 (h x h1 h2)).trans hb.symm)
    rw [cubV_same hc, hb]; rfl
theorem cub_impT (n a m v : Int) : (cubT n a m v == 1) = impT n a m v := by
  by_cases h : cubOk n a m v
  · obtain ⟨ht, hm, hv⟩ := h
    obtain ⟨k, x, rfl, rfl, hk, hx⟩ := isT_nat ht
    have htm : isTm (k : Int) m v = true := isTm_iff.2 ⟨by omega, hm, hv⟩
    obtain ⟨k', b, c, e1, rfl, rfl, _, hb, hc⟩ := isTm_nat htm
    obtain rfl : k = k' := by omega
    rw [impT_nat ht htm, cubT_yes ht (by have := pow2i k; omega) hc, Bool.eq_iff_iff, beq_iff_eq, cub_imp hk hb hc]
  · rw [cubT_no h]
    have : impT n a m v = false := by
      unfold impT
      cases ht : isT n a with
      | false => rfl
      | true =>
        cases hv : isTm n m v with
        | false => rfl
        | true =>
          obtain ⟨_, h2, h3⟩ := isTm_iff.1 hv
          exact absurd ⟨ht, h2, h3⟩ h
    rw [this]; rfl

/-- IsImplicant of the program. -/
theorem Trm.impI (n a m v : Int) (h64 : -9223372036854775808 ≤ a ∧ a ≤ 9223372036854775807) (hv64 : -9223372036854775808 ≤ v ∧ v ≤ 9223372036854775807) (w : World) :
    Calls Try.prog 114 #[.agg #[.int .i64 n, .int .i64 a], .agg #[.int .i64 m, .int .i64 v]] w fun e w' => e = .returned (.bool (impT n a m v)) ∧ Below w.heap.size w w' := by
  have HA := Lib.hid h64
  have HV := Lib.hid hv64
  have HC := Lib.hid (cub_impT n a m v)
  clear h64 hv64
  go_enter Try.func114, Try.ntmps114
  go_wp2_with fail
  refine (Tab.cubI n a m v HA.out HV.out _).mono ?_
  rintro e w1 ⟨rfl, hb1⟩
  have HB := Lib.hid hb1
  generalize cubT n a m v = z at HC
  have hz := HC.out
  clear hb1 HC
  go_wp2
  go_ret
  exact ⟨rfl, bB HB.out (by simp; omega) (bA (by simp) (bA (Nat.le_refl _) (Below.refl _ _)))⟩

end Go.Proofs.Ytlmhdocfdpbhmaa

namespace Go.Proofs.Ytlmhdocfdpbhmaa
open Go.RowKit Plain
set_option linter.unusedVariables false

theorem off_i64 : ∀ m < 32, ∀ i < 5, Go.bits .andNot .i64 ((m : Nat) : Int) (IntKind.i64.wrap ((2 : Int) ^ i)) = ((offB m i : Nat) : Int) := by decide +kernel
theorem pick_i64 : ∀ m < 32, ∀ i < 5, Go.bits .and .i64 ((m : Nat) : Int) (wrap64 ((2 : Int) ^ i)) = ((m &&& 2 ^ i : Nat) : Int) := by decide +kernel
theorem pick_bit : ∀ m < 32, ∀ i < 5, (((m &&& 2 ^ i : Nat) : Int) != 0) = decide (bitN m i = 1) := by decide +kernel
theorem off_val : ∀ v < 32, ∀ i < 5, wrap64 (((v : Nat) : Int) - Go.bits .and .i64 ((v : Nat) : Int) (wrap64 ((2 : Int) ^ i))) = ((offB v i : Nat) : Int) := by decide +kernel
theorem off_msk : ∀ m < 32, ∀ i < 5, bitN m i = 1 → wrap64 (((m : Nat) : Int) - wrap64 ((2 : Int) ^ i)) = ((offB m i : Nat) : Int) := by decide +kernel

/-- The term without a letter. -/
theorem Trm.without (m v i : Nat) (hm : m < 32) (hv : v < 32) (hi : i < 5) (w : World) :
    Calls Try.prog 115 #[.agg #[.int .i64 m, .int .i64 v], .int .i64 i] w fun e w' => e = .returned (.agg #[.int .i64 (offB m i), .int .i64 (offB v i)]) ∧ Below w.heap.size w w' := by
  have h1 := off_i64 m hm i hi
  have h2 := off_i64 v hv i hi
  clear hm hv
  go_enter Try.func115, Try.ntmps115
  go_wp2_with fail
  go_region_with (fail)
  all_goals
    go_wp2
    exact bodyPost_ret (v := .agg #[.int .i64 (offB m i), .int .i64 (offB v i)]) (by simp [results, Try.results115, go_sem]) rfl ⟨rfl, by
      repeat (first | (with_reducible exact Below.refl _ _) | (with_reducible assumption) | ((with_reducible refine bS ?_ ?_); (focus (dsimp only; omega))) | ((with_reducible refine bA ?_ ?_); (focus (first | omega | (simp; done) | (simp; omega)))) | (with_reducible refine bD ?_))⟩

/-- IsPrimeTerm of the program. -/
theorem Trm.prmI_no (n a m v : Int) (h64 : -9223372036854775808 ≤ a ∧ a ≤ 9223372036854775807) (hv64 : -9223372036854775808 ≤ v ∧ v ≤ 9223372036854775807) (h : impT n a m v = false) (w : World) :
    Calls Try.prog 96 #[.agg #[.int .i64 n, .int .i64 a], .agg #[.int .i64 m, .int .i64 v]] w fun e w' => e = .returned (.bool false) ∧ Below w.heap.size w w' := by
  have HA := Lib.hid h64
  have HV := Lib.hid hv64
  have H := Lib.hid h
  clear h64 hv64 h
  go_enter Try.func96, Try.ntmps96
  go_wp2_with fail
  refine (Trm.impI n a m v HA.out HV.out _).mono ?_
  rintro e w1 ⟨rfl, hb1⟩
  rw [H.out]
  go_wp2
  go_ret
  exact ⟨rfl, bB hb1 (by simp; omega) (bA (by simp) (bA (Nat.le_refl _) (Below.refl _ _)))⟩

theorem off_tm : ∀ m < 32, ∀ v < 32, ∀ i < 5, v &&& m = v → offB v i &&& offB m i = offB v i := offB_sub

theorem primeX_step {n a m v k : Nat} (h : primeX n a m v k) (hk : bitN m k = 1 → impB n a (offB m k) (offB v k) = false) : primeX n a m v (k + 1) := by
  intro i hi hb
  rcases (show i < k ∨ i = k by omega) with g | rfl
  · exact h i g hb
  · exact hk hb

set_option maxRecDepth 100000 in
set_option maxHeartbeats 2000000 in
theorem Trm.prmI_yes (n a m v : Nat) (ht : isT n a = true) (hn : n ≤ 5) (ha : (a : Int) ≤ 4294967295) (hm : m < 2 ^ n) (hv : v &&& m = v) (hi : impB n a m v = true) (w : World) :
    Calls Try.prog 96 #[.agg #[.int .i64 n, .int .i64 a], .agg #[.int .i64 m, .int .i64 v]] w fun e w' => e = .returned (.bool (primeB n a m v)) ∧ Below w.heap.size w w' := by
  have hle := tm_le hn hm hv
  have HA : Hid (-9223372036854775808 ≤ (a : Int) ∧ (a : Int) ≤ 9223372036854775807) := Lib.hid (by omega)
  have HV : Hid (-9223372036854775808 ≤ (v : Int) ∧ (v : Int) ≤ 9223372036854775807) := Lib.hid (by omega)
  have H : Hid (impT (n : Int) a m v = true) := Lib.hid (by rw [impT_nat ht (isTm_yes hn hm hv)]; exact hi)
  have HI := Lib.hid hi
  have HT := Lib.hid ht
  have HM : Hid (m < 32) := Lib.hid (by omega)
  have HV2 : Hid (v < 32) := Lib.hid (by omega)
  have HMV := Lib.hid hv
  have HN := Lib.hid hn
  have HMN := Lib.hid hm
  have hn5 : (n : Int) ≤ 5 := by omega
  have hm31 : (m : Int) ≤ 31 := by omega
  have hv31 : (v : Int) ≤ 31 := by omega
  clear hi ht hv hn hm hle ha
  go_enter Try.func96, Try.ntmps96
  go_wp2_with fail
  refine (Trm.impI n a m v HA.out HV.out _).mono ?_
  rintro e w1 ⟨rfl, hb1⟩
  obtain ⟨hc1, hf1⟩ := bcell hb1
  have hz1 : w.heap.size + 1 < w1.heap.size := by have := hb1.size; simp at this; omega
  have hz1' : w.heap.size < w1.heap.size := by omega
  have k0 : w1.cell? ⟨w.heap.size, 0, none⟩ = some (.int .i64 n) := keepB hb1 (keepA (keepN rfl rfl))
  have k1 : w1.cell? ⟨w.heap.size, 1, none⟩ = some (.int .i64 a) := keepB hb1 (keepA (keepN rfl rfl))
  have k2 : w1.cell? ⟨w.heap.size + 1, 0, none⟩ = some (.int .i64 m) := keepB hb1 (keepN (by simp) rfl)
  have k3 : w1.cell? ⟨w.heap.size + 1, 1, none⟩ = some (.int .i64 v) := keepB hb1 (keepN (by simp) rfl)
  have HB1 : Hid (Below w.heap.size w w1) := Lib.hid (bB hb1 (by simp; omega) (bA (by simp) (bA (Nat.le_refl _) (Below.refl _ _))))
  clear hb1 hc1 hf1
  rw [H.out]
  go_wp2_with fail
  go_loopw [5, 12] (fun _ x wr => ∃ y : Nat, x = .int .i64 (y : Int) ∧ (y : Int) ≤ n ∧ primeX n a m v y ∧ wr.cell? ⟨w.heap.size, 0, none⟩ = some (.int .i64 n) ∧ wr.cell? ⟨w.heap.size, 1, none⟩ = some (.int .i64 a) ∧ wr.cell? ⟨w.heap.size + 1, 0, none⟩ = some (.int .i64 m) ∧ wr.cell? ⟨w.heap.size + 1, 1, none⟩ = some (.int .i64 v) ∧ w.heap.size + 1 < wr.heap.size ∧ Below w.heap.size w wr) (fun _ x _ => 32 - (intOf x).toNat)
  case atStart => exact ⟨0, rfl, by omega, fun i hi => absurd hi (by omega), k0, k1, k2, k3, hz1, HB1.out⟩
  case round =>
    clear k0 k1 k2 k3 hz1 hz1'
    obtain ⟨y, rfl, hy, hp, k0, k1, k2, k3, hz, hB⟩ := hrel
    have HP := Lib.hid hp
    have HB := Lib.hid hB
    have hz' : w.heap.size < wr.heap.size := by omega
    clear hp hB
    by_cases hlt : (y : Int) < n
    · have hbit := bit_i64 m y (by omega)
      have HY : Hid (y < 5) := Lib.hid (by omega)
      have HYN : Hid (y < n) := Lib.hid (by omega)
      rcases bitN_cases m y with hb | hb
      · have HX := Lib.hid (primeX_step HP.out (fun h => by rw [hb] at h; exact absurd h (by decide)))
        rw [hb] at hbit
        clear hb
        go_wp2_with fail
        go_quiet (fail)
        go_wp2
        go_roundw
        case rel => exact ⟨y + 1, by go_num, by omega, HX.out, k0, k1, k2, k3, hz, below_drewN HB.out _⟩
        case measure => simp [intOf]; omega
      · have HBT := Lib.hid hb
        have HTM : Hid (isTm (n : Int) (offB m y : Int) (offB v y : Int) = true) := Lib.hid (isTm_yes HN.out (Nat.lt_of_le_of_lt (offB_lt m y) HMN.out) (offB_sub m HM.out v HV2.out y HY.out HMV.out))
        have HOV : Hid (-9223372036854775808 ≤ ((offB v y : Nat) : Int) ∧ ((offB v y : Nat) : Int) ≤ 9223372036854775807) := Lib.hid (by have := offB_lt v y; omega)
        rw [hb] at hbit
        clear hb
        cases hi : impB n a (offB m y) (offB v y) with
        | true =>
          have HT2 : Hid (impT (n : Int) a (offB m y) (offB v y) = true) := Lib.hid (by rw [impT_nat HT.out HTM.out]; exact hi)
          have HE := Lib.hid (primeB_no2 HYN.out HBT.out hi)
          clear hi
          go_wp2_with fail
          go_region_held3 (fun w' => w'.cell? ⟨w.heap.size, 0, none⟩ = some (.int .i64 n) ∧ w'.cell? ⟨w.heap.size, 1, none⟩ = some (.int .i64 a) ∧ w'.cell? ⟨w.heap.size + 1, 0, none⟩ = some (.int .i64 m) ∧ w'.cell? ⟨w.heap.size + 1, 1, none⟩ = some (.int .i64 v)) ((first | (go_split_ands; (try dsimp only); (refine ⟨?_, ?_, ?_, ?_⟩ <;> (repeat (first | with_reducible assumption | ((with_reducible refine keepU ?_); (with_reducible assumption)) | (with_reducible refine keepD ?_) | (with_reducible refine keepB hb ?_) | (with_reducible refine keepB hb' ?_)))); done) | go_keep))
            (first
              | (go_at_call 115; ((with_reducible refine (Trm.without m v y HM.out HV2.out HY.out _).mono ?_); rintro e w14 ⟨rfl, hb⟩; have hs := hb.size; try simp only [World.size_drew] at hs))
              | (go_at_call 114; ((with_reducible refine (Trm.impI n a (offB m y) (offB v y) HA.out HOV.out _).mono ?_); rintro e w15 ⟨rfl, hb'⟩; rw [HT2.out]; have hs' := hb'.size; try simp only [World.size_alloc, World.size_drew] at hs')))
          all_goals
            go_wp2
            go_ret
            refine ⟨ret_bool HE.out.symm, ?_⟩
            have HBB := HB.out
            repeat (first | (with_reducible exact Below.refl _ _) | (with_reducible assumption) | ((with_reducible refine bS ?_ ?_); (focus (dsimp only; omega))) | ((with_reducible refine bA ?_ ?_); (focus (first | omega | (simp; done) | (simp; omega)))) | (with_reducible refine bD ?_) | ((with_reducible refine bB hb ?_ ?_); (focus (first | omega | (simp; done) | (simp; omega)))) | ((with_reducible refine bB hb' ?_ ?_); (focus (first | omega | (simp; done) | (simp; omega)))))
        | false =>
          have HT2 : Hid (impT (n : Int) a (offB m y) (offB v y) = false) := Lib.hid (by rw [impT_nat HT.out HTM.out]; exact hi)
          have HX := Lib.hid (primeX_step HP.out (fun _ => hi))
          clear hi
          go_wp2_with fail
          go_region_held3 (fun w' => w'.cell? ⟨w.heap.size, 0, none⟩ = some (.int .i64 n) ∧ w'.cell? ⟨w.heap.size, 1, none⟩ = some (.int .i64 a) ∧ w'.cell? ⟨w.heap.size + 1, 0, none⟩ = some (.int .i64 m) ∧ w'.cell? ⟨w.heap.size + 1, 1, none⟩ = some (.int .i64 v)) ((first | (go_split_ands; (try dsimp only); (refine ⟨?_, ?_, ?_, ?_⟩ <;> (repeat (first | with_reducible assumption | ((with_reducible refine keepU ?_); (with_reducible assumption)) | (with_reducible refine keepD ?_) | (with_reducible refine keepB hb ?_) | (with_reducible refine keepB hb' ?_)))); done) | go_keep))
            (first
              | (go_at_call 115; ((with_reducible refine (Trm.without m v y HM.out HV2.out HY.out _).mono ?_); rintro e w14 ⟨rfl, hb⟩; have hs := hb.size; try simp only [World.size_drew] at hs))
              | (go_at_call 114; ((with_reducible refine (Trm.impI n a (offB m y) (offB v y) HA.out HOV.out _).mono ?_); rintro e w15 ⟨rfl, hb'⟩; rw [HT2.out]; have hs' := hb'.size; try simp only [World.size_alloc, World.size_drew] at hs')))
          all_goals
            go_wp2
            go_roundw
            case rel =>
              refine ⟨y + 1, by go_num, by omega, HX.out, ?_, ?_, ?_, ?_, by omega, ?_⟩
              all_goals
                have HBB := HB.out
                repeat (first | (with_reducible assumption) | ((with_reducible refine keepU ?_); (with_reducible assumption)) | (with_reducible refine keepD ?_) | (with_reducible refine keepB hb ?_) | (with_reducible refine keepB hb' ?_) | ((with_reducible refine bS ?_ ?_); (focus (dsimp only; omega))) | ((with_reducible refine bA ?_ ?_); (focus (first | omega | (simp; done) | (simp; omega)))) | (with_reducible refine bD ?_) | ((with_reducible refine bB hb ?_ ?_); (focus (first | omega | (simp; done) | (simp; omega)))) | ((with_reducible refine bB hb' ?_ ?_); (focus (first | omega | (simp; done) | (simp; omega)))))
            case measure => simp [intOf]; omega
    · have he : y = n := by omega
      have HE : Hid (primeB n a m v = true) := Lib.hid ((primeB_iff _ _ _ _).2 ⟨HI.out, by have := HP.out; rw [he] at this; exact this⟩)
      clear he
      go_wp2
      go_ret
      exact ⟨ret_bool HE.out.symm, HB.out⟩

theorem Trm.prmI (n a m v : Int) (h64 : -9223372036854775808 ≤ a ∧ a ≤ 9223372036854775807) (hv64 : -9223372036854775808 ≤ v ∧ v ≤ 9223372036854775807) (w : World) :
    Calls Try.prog 96 #[.agg #[.int .i64 n, .int .i64 a], .agg #[.int .i64 m, .int .i64 v]] w fun e w' => e = .returned (.bool (prmT n a m v)) ∧ Below w.heap.size w w' := by
  cases hi : impT n a m v with
  | false =>
    have : prmT n a m v = false := by
      unfold impT at hi
      unfold prmT
      cases ht : isT n a with
      | false => rfl
      | true =>
        cases hv : isTm n m v with
        | false => rfl
        | true =>
          rw [ht, hv] at hi
          rw [primeB_no1 (by simpa using hi)]; rfl
    rw [this]; exact Trm.prmI_no n a m v h64 hv64 hi w
  | true =>
    have hi' := hi
    unfold impT at hi'
    rw [Bool.and_eq_true, Bool.and_eq_true] at hi'
    obtain ⟨ht, hv, hb⟩ := hi'
    obtain ⟨k, x, rfl, rfl, hk, hx⟩ := isT_nat ht
    obtain ⟨k', b, c, e1, rfl, rfl, _, hbm, hc⟩ := isTm_nat hv
    obtain rfl : k = k' := by omega
    rw [prmT_nat ht hv]
    exact Trm.prmI_yes k x b c ht hk (by have := fullN_le k hk; omega) hbm hc (by simpa using hb) w

theorem pick_zero : ∀ m < 32, ∀ i < 5, bitN m i = 0 → (m &&& 2 ^ i) = 0 := by decide +kernel

/-! TermHolds. -/
def Plain.holdT (m v x : Int) : Bool := isTm 5 m v && (decide (0 ≤ x ∧ x ≤ 31) && decide (x.toNat &&& m.toNat = v.toNat))

theorem Trm.input5 (x : Int) (w : World) : Calls Try.prog 94 #[.int .i64 5, .int .i64 x] w fun e w' => e = .returned (.bool (inpB 5 x)) ∧ w = w' := Tab.input 5 x (by decide) w

end Go.Proofs.Ytlmhdocfdpbhmaa

namespace Go.Proofs.Ytlmhdocfdpbhmaa
open Go.RowKit Plain
set_option linter.unusedVariables false

end Go.Proofs.Ytlmhdocfdpbhmaa
