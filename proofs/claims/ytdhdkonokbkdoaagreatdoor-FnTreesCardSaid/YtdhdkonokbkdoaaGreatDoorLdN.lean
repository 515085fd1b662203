/-
  Chapter 7: the least sum of the model (l7Average), LeastDepth and LeastAverage of the model.
-/
import Derived.Test.YtdhdkonokbkdoaaGreatDoorLdM
namespace Go.Proofs.YtdhdkonokbkdoaaGreatDoor
open Go.RowKit Plain
set_option linter.unusedVariables false

theorem JA_64 : ∀ k, k ≤ 4 → k * 2 ^ k ≤ 64 := by
  intro k hk
  have : k = 0 ∨ k = 1 ∨ k = 2 ∨ k = 3 ∨ k = 4 := by omega
  rcases this with rfl | rfl | rfl | rfl | rfl <;> decide

set_option maxRecDepth 100000 in
set_option maxHeartbeats 4000000 in
/-- l7Average. -/
theorem Lav.any (n a : Nat) (hn : n ≤ 4) (ha : (a : Int) ≤ 4294967295) (k : Nat) : ∀ (m v : Nat) (w : World), m < 2 ^ n → v &&& m = v → cntN n m = k →
    Calls Tryz.prog 38 #[.agg #[.int .i64 n, .int .i64 a], .int .i64 m, .int .i64 v, .int .i64 (k : Int)] w fun e w' => e = .returned (.int .i64 (mdl JA 1000 n a k m v : Int)) ∧ Below w.heap.size w w' := by
  induction k with
  | zero =>
    intro m v w hm hv hc
    have hlt := cub_whole (a := a) hn hm hv hc
    have HC := Lib.hid (Tab.cubM_loop n a m v (by omega) ha (by rw [up2]; omega) hv)
    have t2 : decide (cubV n a m v < 2) = true := decide_eq_true hlt
    have HZ : Hid (mdl JA 1000 n a 0 m v = 0) := Lib.hid rfl
    clear hlt hn hm hv hc
    generalize mdl JA 1000 n a 0 m v = r at *
    generalize cubV n a m v = c at *
    go_enter Tryz.func38, Tryz.ntmps38
    go_wp2_with fail
    refine (HC.out _).mono ?_
    rintro e w1 ⟨rfl, hb1⟩
    go_wp2_with fail
    go_ret
    exact ⟨by rw [HZ.out]; rfl, bB hb1 (by simp) (bA (Nat.le_refl _) (Below.refl _ _))⟩
  | succ k ih =>
    intro m v w hm hv hc
    have HC := Lib.hid (Tab.cubM_loop n a m v (by omega) ha (by rw [up2]; omega) hv)
    by_cases hlt : cubV n a m v < 2
    · have t2 : decide (cubV n a m v < 2) = true := decide_eq_true hlt
      have HZ : Hid (mdl JA 1000 n a (k + 1) m v = 0) := Lib.hid (mdl_con hlt)
      clear hlt hn hm hv hc ih
      generalize mdl JA 1000 n a (k + 1) m v = r at *
      generalize cubV n a m v = c at *
      go_enter Tryz.func38, Tryz.ntmps38
      go_wp2_with fail
      refine (HC.out _).mono ?_
      rintro e w1 ⟨rfl, hb1⟩
      go_wp2_with fail
      go_ret
      exact ⟨by rw [HZ.out]; rfl, bB hb1 (by simp) (bA (Nat.le_refl _) (Below.refl _ _))⟩
    · have t2 : decide (cubV n a m v < 2) = false := decide_eq_false hlt
      have HR := Lib.hid (mdl_step (J := JA) (I := 1000) (k := k) hlt)
      rw [HR.out]
      have hn4 := hn
      have hk4 : k + 1 ≤ 4 := by have := cnt_le n m; omega
      have h32 : m < 32 := by have := Nat.pow_le_pow_right (n := 2) (by decide) hn; omega
      have hv32 : v < 32 := Nat.lt_of_le_of_lt (by rw [← hv]; exact Nat.and_le_right) h32
      have HPL := Lib.hid (fun i => place_more (i := i) hn hm hv hc)
      have HIH := Lib.hid ih
      have HLE : Hid (∀ {m v : Nat}, m < 2 ^ n → v &&& m = v → cntN n m = k → mdl JA 1000 n a k m v ≤ 64) := Lib.hid fun h1 h2 h3 => Nat.le_trans (mdl_le JA_ok hn JA_I (by decide) h1 h2 h3) (JA_64 k (by omega))
      obtain ⟨g, hg⟩ : ∃ g : Nat → Nat, (fun i => JA (k + 1) (mdl JA 1000 n a k (m ||| 2 ^ i) v) (mdl JA 1000 n a k (m ||| 2 ^ i) (v ||| 2 ^ i))) = g := ⟨_, rfl⟩
      have HG : Hid (∀ i, g i = 2 ^ (k + 1) + mdl JA 1000 n a k (m ||| 2 ^ i) v + mdl JA 1000 n a k (m ||| 2 ^ i) (v ||| 2 ^ i)) := Lib.hid fun i => by rw [← hg]; rfl
      rw [hg]
      have HMN := Lib.hid (fun i => (mnF_spec m g 1000 i).1)
      clear hlt hm hv hc ih HR hg
      generalize cubV n a m v = c at *
      go_enter Tryz.func38, Tryz.ntmps38
      go_wp2_with fail
      refine (HC.out _).mono ?_
      rintro e w1 ⟨rfl, hb1⟩
      have HX0 : Hid (w1.heap[w.heap.size]? = some (.cells #[.int .i64 (n : Int), .int .i64 (a : Int)] 25 (0, 0))) := Lib.hid (blockB hb1 (heap_alloc_new w _))
      have HB0 : Hid (Below w.heap.size w w1) := Lib.hid (bB hb1 (by simp) (bA (Nat.le_refl _) (Below.refl _ _)))
      clear hb1
      go_wp2_with fail
      go_loopw [9, 10] (fun r x wr => ∃ i : Nat, x = .int .i64 (i : Int) ∧ r = .int .i64 (mnF m g 1000 i : Int) ∧ i ≤ n ∧ wr.heap[w.heap.size]? = some (.cells #[.int .i64 (n : Int), .int .i64 (a : Int)] 25 (0, 0)) ∧ Below w.heap.size w wr) (fun _ x _ => 10 - (intOf x).toNat)
      case atStart => exact ⟨0, rfl, rfl, Nat.zero_le _, HX0.out, HB0.out⟩
      case round =>
        obtain ⟨i, rfl, rfl, hin, hx, hbel⟩ := hrel
        have HX := Lib.hid hx
        have HB := Lib.hid hbel
        have hszr : w.heap.size < wr.heap.size := lt_of_block hx
        obtain ⟨c0, c1, f0, f1⟩ := cells2 hx
        clear hx hbel HX0 HB0
        by_cases hi : (i : Int) < (n : Int)
        · have hi5 : i < 5 := by omega
          cases hb : m.testBit i with
          | true =>
            obtain ⟨q, ⟨hq1, hq2⟩, hq0⟩ := andw_q h32 hi5 hb
            have HE := Lib.hid (mnF_yes g 1000 hb)
            clear hb
            go_wp2_with fail
            go_roundw
            case rel => exact ⟨i + 1, by go_num, by rw [HE.out], by omega, HX.out, HB.out⟩
            case measure => simp [intOf]; omega
          | false =>
            obtain ⟨q, ⟨hq1, hq2⟩, hq0⟩ := andw_q h32 hi5 hb
            have HE := Lib.hid (mnF_no g 1000 hb)
            obtain ⟨p1, p2, p3, p4⟩ := HPL.out i (by omega) hb
            have HA : Hid (∀ w, Calls Tryz.prog 38 #[.agg #[.int .i64 n, .int .i64 a], .int .i64 ((m ||| 2 ^ i : Nat) : Int), .int .i64 v, .int .i64 (k : Int)] w fun e w' => e = .returned (.int .i64 (mdl JA 1000 n a k (m ||| 2 ^ i) v : Int)) ∧ Below w.heap.size w w') := Lib.hid fun w => HIH.out _ _ w p1 p3 p2
            have HD : Hid (∀ w, Calls Tryz.prog 38 #[.agg #[.int .i64 n, .int .i64 a], .int .i64 ((m ||| 2 ^ i : Nat) : Int), .int .i64 ((v ||| 2 ^ i : Nat) : Int), .int .i64 (k : Int)] w fun e w' => e = .returned (.int .i64 (mdl JA 1000 n a k (m ||| 2 ^ i) (v ||| 2 ^ i) : Int)) ∧ Below w.heap.size w w') := Lib.hid fun w => HIH.out _ _ w p1 p4 p2
            have b1 : (mdl JA 1000 n a k (m ||| 2 ^ i) v : Int) ≤ 64 := by have := HLE.out p1 p3 p2; omega
            have b2 : (mdl JA 1000 n a k (m ||| 2 ^ i) (v ||| 2 ^ i) : Int) ≤ 64 := by have := HLE.out p1 p4 p2; omega
            have HGI := Lib.hid (HG.out i)
            have ho1 := orw_i64 m h32 i hi5
            have ho2 := orw_i64' m h32 i hi5
            have ho3 := orw_i64 v hv32 i hi5
            have ho4 := orw_i64' v hv32 i hi5
            generalize mdl JA 1000 n a k (m ||| 2 ^ i) v = z1 at *
            generalize mdl JA 1000 n a k (m ||| 2 ^ i) (v ||| 2 ^ i) = z2 at *
            obtain ⟨P, hP⟩ : ∃ P : Nat, 2 ^ (k + 1) = P := ⟨_, rfl⟩
            have hP16 : P ≤ 16 := by have := Nat.pow_le_pow_right (n := 2) (by decide) hk4; omega
            rw [hP] at HGI
            have hp2 : (2 : Int) ^ (k + 1) = (P : Int) := by rw [← hP, up2]
            have hp1 : IntKind.i64.wrap ((2 : Int) ^ (k + 1)) = (P : Int) := by rw [hp2]; exact IntWalk.i64_in _ (by omega)
            have hkw : IntKind.i64.wrap (k : Int) = (k : Int) := IntWalk.i64_in _ (by omega)
            have HW0 : Hid (IntKind.i64.wrap (P : Int) = (P : Int)) := Lib.hid (IntWalk.i64_in _ (by omega))
            have HW1 : Hid (IntKind.i64.wrap ((P : Int) + (z1 : Int)) = (P : Int) + (z1 : Int)) := Lib.hid (IntWalk.i64_in _ (by omega))
            have HW2 : Hid (IntKind.i64.wrap ((P : Int) + (z1 : Int) + (z2 : Int)) = (P : Int) + (z1 : Int) + (z2 : Int)) := Lib.hid (IntWalk.i64_in _ (by omega))
            clear hP
            clear hb p1 p2 p3 p4
            generalize m ||| 2 ^ i = M at *
            generalize v ||| 2 ^ i = V at *
            go_wp2_with fail
            go_region_held3 (fun w' => w'.cell? ⟨w.heap.size, 0, none⟩ = some (.int .i64 n) ∧ w'.cell? ⟨w.heap.size, 1, none⟩ = some (.int .i64 a)) ((first | (go_split_ands; (try dsimp only); (refine ⟨?_, ?_⟩ <;> (repeat (first | with_reducible assumption | ((with_reducible refine keepU ?_); (with_reducible assumption)) | (with_reducible refine keepD ?_) | (with_reducible refine keepB hb ?_) | (with_reducible refine keepB hb' ?_)))); done) | go_keep))
              (first
                | (with_reducible refine (HA.out _).mono ?_; rintro e w14 ⟨rfl, hb⟩; obtain ⟨hc, hf⟩ := bcell hb; have hs := hb.size; try simp only [World.size_drew] at hs)
                | (with_reducible refine (HD.out _).mono ?_; rintro e w15 ⟨rfl, hb'⟩; obtain ⟨hc', hf'⟩ := bcell hb'; have hs' := hb'.size; try simp only [World.size_drew] at hs'))
            all_goals
              go_wp2
              go_roundw
              case rel =>
                refine ⟨i + 1, by go_num, ?_, by omega, ?_, ?_⟩
                · rw [HE.out, HGI.out, HW0.out, HW1.out, HW2.out]; congr 1; (first | omega | (split <;> omega))
                · repeat (first | (exact HX.out) | (refine blockB hb ?_) | (refine blockB hb' ?_))
                · repeat (first | (with_reducible exact HB.out) | (with_reducible refine bD ?_) | ((with_reducible refine bB hb ?_ ?_); (focus (first | omega | (simp; done) | (simp; omega)))) | ((with_reducible refine bB hb' ?_ ?_); (focus (first | omega | (simp; done) | (simp; omega)))))
              case measure => simp [intOf]; omega
        · obtain rfl : i = n := by omega
          go_wp2_with fail
          go_ret
          exact ⟨rfl, HB.out⟩


/-- What LeastDepth and LeastAverage answer. -/
def Plain.ldT (n a : Int) : Int := if isT n a = true ∧ n ≤ 4 then (cst JD n.toNat a.toNat : Int) else -1
def Plain.laT (n a : Int) : Int := if isT n a = true ∧ n ≤ 4 then (cst JA n.toNat a.toNat : Int) else -1
theorem ldT_yes {n a : Nat} (hn : n ≤ 4) (ha : a ≤ fullN n) : ldT n a = (cst JD n a : Int) := if_pos ⟨isT_yes (by omega) ha, by omega⟩
theorem laT_yes {n a : Nat} (hn : n ≤ 4) (ha : a ≤ fullN n) : laT n a = (cst JA n a : Int) := if_pos ⟨isT_yes (by omega) ha, by omega⟩
theorem ldT_no {n a : Int} (h : ¬ (isT n a = true ∧ n ≤ 4)) : ldT n a = -1 := if_neg h
theorem laT_no {n a : Int} (h : ¬ (isT n a = true ∧ n ≤ 4)) : laT n a = -1 := if_neg h

set_option maxRecDepth 100000 in
/-- LeastDepth of the model. -/
theorem Ld.model (n a : Int) (w : World) :
    Calls Tryz.prog 10 #[.agg #[.int .i64 n, .int .i64 a]] w fun e w' => e = .returned (.int .i64 (ldT n a)) ∧ Below w.heap.size w w' := by
  cases ht : isT n a with
  | false =>
    have HM := Lib.hid (Tab.modelV n a false ht)
    rw [ldT_no (by rw [ht]; simp)]
    clear ht
    go_enter Tryz.func10, Tryz.ntmps10
    go_wp2_with fail
    refine (HM.out _).mono ?_
    rintro e w1 ⟨rfl, hb1⟩
    go_wp2_with fail
    go_ret
    exact ⟨rfl, bB hb1 (by simp) (bA (Nat.le_refl _) (Below.refl _ _))⟩
  | true =>
    have HM := Lib.hid (Tab.modelV n a true ht)
    obtain ⟨m, x, rfl, rfl, hm, hx⟩ := isT_nat ht
    by_cases h4 : m ≤ 4
    · have hL : Hid (∀ w, Calls Tryz.prog 37 #[.agg #[.int .i64 m, .int .i64 x], .int .i64 0, .int .i64 0] w fun e w' => e = .returned (.int .i64 (ldT m x)) ∧ Below w.heap.size w w') := Lib.hid fun w => by
        have := Lst.any m x h4 (by have := fullN_le m (by omega); omega) m 0 0 w (Nat.pow_pos (by decide)) (by simp) (spr_zero m (by omega)).1
        rw [mdl_whole JD_ok h4 hx JD_I (by decide), ← ldT_yes h4 hx] at this
        exact this
      generalize ldT m x = r at *
      clear ht hx
      go_enter Tryz.func10, Tryz.ntmps10
      go_wp2_with fail
      refine (HM.out _).mono ?_
      rintro e w1 ⟨rfl, hb1⟩
      have HX0 : w1.heap[w.heap.size]? = some (.cells #[.int .i64 (m : Int), .int .i64 (x : Int)] 25 (0, 0)) := blockB hb1 (heap_alloc_new w _)
      obtain ⟨c0, c1, f0, f1⟩ := cells2 HX0
      have hz := lt_of_block HX0
      have HB1 := Lib.hid hb1
      clear hb1 HX0
      go_wp2_with fail
      refine (hL.out _).mono ?_
      rintro e w2 ⟨rfl, hb2⟩
      go_wp2_with fail
      go_ret
      exact ⟨rfl, bB hb2 (by omega) (bB HB1.out (by simp) (bA (Nat.le_refl _) (Below.refl _ _)))⟩
    · have hgt : ¬ (m : Int) ≤ 4 := by omega
      rw [ldT_no (fun h => hgt h.2)]
      have hlt : (4 : Int) < (m : Int) := by omega
      clear ht hx h4 hgt
      go_enter Tryz.func10, Tryz.ntmps10
      go_wp2_with fail
      refine (HM.out _).mono ?_
      rintro e w1 ⟨rfl, hb1⟩
      have HX0 : w1.heap[w.heap.size]? = some (.cells #[.int .i64 (m : Int), .int .i64 (x : Int)] 25 (0, 0)) := blockB hb1 (heap_alloc_new w _)
      obtain ⟨c0, c1, f0, f1⟩ := cells2 HX0
      have HB1 := Lib.hid hb1
      clear hb1 HX0
      go_wp2_with fail
      go_ret
      exact ⟨rfl, bB HB1.out (by simp) (bA (Nat.le_refl _) (Below.refl _ _))⟩

set_option maxRecDepth 100000 in
/-- LeastAverage of the model. -/
theorem La.model (n a : Int) (w : World) :
    Calls Tryz.prog 11 #[.agg #[.int .i64 n, .int .i64 a]] w fun e w' => e = .returned (.int .i64 (laT n a)) ∧ Below w.heap.size w w' := by
  cases ht : isT n a with
  | false =>
    have HM := Lib.hid (Tab.modelV n a false ht)
    rw [laT_no (by rw [ht]; simp)]
    clear ht
    go_enter Tryz.func11, Tryz.ntmps11
    go_wp2_with fail
    refine (HM.out _).mono ?_
    rintro e w1 ⟨rfl, hb1⟩
    go_wp2_with fail
    go_ret
    exact ⟨rfl, bB hb1 (by simp) (bA (Nat.le_refl _) (Below.refl _ _))⟩
  | true =>
    have HM := Lib.hid (Tab.modelV n a true ht)
    obtain ⟨m, x, rfl, rfl, hm, hx⟩ := isT_nat ht
    by_cases h4 : m ≤ 4
    · have hL : Hid (∀ w, Calls Tryz.prog 38 #[.agg #[.int .i64 m, .int .i64 x], .int .i64 0, .int .i64 0, .int .i64 (m : Int)] w fun e w' => e = .returned (.int .i64 (laT m x)) ∧ Below w.heap.size w w') := Lib.hid fun w => by
        have := Lav.any m x h4 (by have := fullN_le m (by omega); omega) m 0 0 w (Nat.pow_pos (by decide)) (by simp) (spr_zero m (by omega)).1
        rw [mdl_whole JA_ok h4 hx JA_I (by decide), ← laT_yes h4 hx] at this
        exact this
      generalize laT m x = r at *
      clear ht hx
      go_enter Tryz.func11, Tryz.ntmps11
      go_wp2_with fail
      refine (HM.out _).mono ?_
      rintro e w1 ⟨rfl, hb1⟩
      have HX0 : w1.heap[w.heap.size]? = some (.cells #[.int .i64 (m : Int), .int .i64 (x : Int)] 25 (0, 0)) := blockB hb1 (heap_alloc_new w _)
      obtain ⟨c0, c1, f0, f1⟩ := cells2 HX0
      have hz := lt_of_block HX0
      have HB1 := Lib.hid hb1
      clear hb1 HX0
      go_wp2_with fail
      refine (hL.out _).mono ?_
      rintro e w2 ⟨rfl, hb2⟩
      go_wp2_with fail
      go_ret
      exact ⟨rfl, bB hb2 (by omega) (bB HB1.out (by simp) (bA (Nat.le_refl _) (Below.refl _ _)))⟩
    · have hgt : ¬ (m : Int) ≤ 4 := by omega
      rw [laT_no (fun h => hgt h.2)]
      have hlt : (4 : Int) < (m : Int) := by omega
      clear ht hx h4 hgt
      go_enter Tryz.func11, Tryz.ntmps11
      go_wp2_with fail
      refine (HM.out _).mono ?_
      rintro e w1 ⟨rfl, hb1⟩
      have HX0 : w1.heap[w.heap.size]? = some (.cells #[.int .i64 (m : Int), .int .i64 (x : Int)] 25 (0, 0)) := blockB hb1 (heap_alloc_new w _)
      obtain ⟨c0, c1, f0, f1⟩ := cells2 HX0
      have HB1 := Lib.hid hb1
      clear hb1 HX0
      go_wp2_with fail
      go_ret
      exact ⟨rfl, bB HB1.out (by simp) (bA (Nat.le_refl _) (Below.refl _ _))⟩

end Go.Proofs.YtdhdkonokbkdoaaGreatDoor
