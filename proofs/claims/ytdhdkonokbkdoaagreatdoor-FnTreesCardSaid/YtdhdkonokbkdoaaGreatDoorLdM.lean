/-
  Chapter 7: the least depth and the least sum, of the model (l7Least, l7Average, LeastDepth, LeastAverage).
-/
import Derived.Test.YtdhdkonokbkdoaaGreatDoorPlainH
import Derived.Test.YtdhdkonokbkdoaaGreatDoorTreE
import Derived.Test.YtdhdkonokbkdoaaGreatDoorTabC
import Derived.BigQuiet
import Derived.Deep.QuietTactic
import Derived.Deep.RegionHeld3
namespace Go.Proofs.YtdhdkonokbkdoaaGreatDoor
open Go.RowKit Plain
set_option linter.unusedVariables false

theorem andw_all : ∀ m < 32, ∀ i < 5, (Go.bits .and .i64 ((m : Nat) : Int) (IntKind.i64.wrap ((2 : Int) ^ i)) == 0) = !m.testBit i ∧ Go.bits .and .i64 ((m : Nat) : Int) (wrap64 ((2 : Int) ^ i)) = Go.bits .and .i64 ((m : Nat) : Int) (IntKind.i64.wrap ((2 : Int) ^ i)) := by decide +kernel
theorem andw_q {m i : Nat} {b : Bool} (hm : m < 32) (hi : i < 5) (h : m.testBit i = b) : ∃ q : Int, (Go.bits .and .i64 (m : Int) (IntKind.i64.wrap ((2 : Int) ^ i)) = q ∧ Go.bits .and .i64 (m : Int) (wrap64 ((2 : Int) ^ i)) = q) ∧ (q == 0) = !b :=
  ⟨_, ⟨rfl, (andw_all m hm i hi).2⟩, by rw [← h]; exact (andw_all m hm i hi).1⟩

theorem blockB {X w' : World} {b : Nat} {o : Obj} (hb : Below X.heap.size X w') (h : X.heap[b]? = some o) : w'.heap[b]? = some o := blockOn h hb

theorem mdl_le {J : Nat → Nat → Nat → Nat} {B : Nat → Nat} (hJ : JB J B) {I n a : Nat} (hn : n ≤ 4) (hI : ∀ k, k ≤ 4 → B k ≤ I) (hM : I ≤ maxI) {k m v : Nat} (hm : m < 2 ^ n) (hv : v &&& m = v) (hc : cntN n m = k) :
    mdl J I n a k m v ≤ B k := by rw [mdl_cst hJ hn hI hM k m v hm hv hc]; exact cst_le hJ k _

theorem cub_whole {n a m v : Nat} (hn : n ≤ 4) (hm : m < 2 ^ n) (hv : v &&& m = v) (hc : cntN n m = 0) : cubV n a m v < 2 := by
  have h := subW_con (a := a) hn (sub_ok n m v hn hm hv)
  rw [hc] at h
  have : conT (0 : Nat) (subW n a m v) = true := by
    have hf := subW_full n a m v
    rw [hc] at hf
    exact (conT_iff (by decide) hf).2 fun x hx => by
      have : x = 0 := by simpa using hx
      rw [this]
  rw [this] at h
  exact of_decide_eq_true h.symm

/-- One place more in a set. -/
theorem place_more {n m v k i : Nat} (hn : n ≤ 4) (hm : m < 2 ^ n) (hv : v &&& m = v) (hc : cntN n m = k + 1) (hi : i < n) (hb : m.testBit i = false) :
    m ||| 2 ^ i < 2 ^ n ∧ cntN n (m ||| 2 ^ i) = k ∧ v &&& (m ||| 2 ^ i) = v ∧ (v ||| 2 ^ i) &&& (m ||| 2 ^ i) = v ||| 2 ^ i := by
  have ok := sub_ok n m v hn hm hv
  obtain ⟨j, hj, rfl⟩ := ok.all i hi hb
  have s0 := (ok.sub j hj 0 (by decide)).1
  have s1 := (ok.sub j hj 1 (by decide)).1
  rw [Nat.zero_mul, Nat.or_zero] at s0
  rw [Nat.one_mul] at s1
  have p := ok.place j hj
  exact ⟨p.2.2.1, by omega, s0, s1⟩

set_option maxRecDepth 100000 in
set_option maxHeartbeats 4000000 in
/-- l7Least. -/
theorem Lst.any (n a : Nat) (hn : n ≤ 4) (ha : (a : Int) ≤ 4294967295) (k : Nat) : ∀ (m v : Nat) (w : World), m < 2 ^ n → v &&& m = v → cntN n m = k →
    Calls Tryz.prog 37 #[.agg #[.int .i64 n, .int .i64 a], .int .i64 m, .int .i64 v] w fun e w' => e = .returned (.int .i64 (mdl JD 10 n a k m v : Int)) ∧ Below w.heap.size w w' := by
  induction k with
  | zero =>
    intro m v w hm hv hc
    have hlt := cub_whole (a := a) hn hm hv hc
    have HC := Lib.hid (Tab.cubM_loop n a m v (by omega) ha (by rw [up2]; omega) hv)
    have t2 : decide (cubV n a m v < 2) = true := decide_eq_true hlt
    have HZ : Hid (mdl JD 10 n a 0 m v = 0) := Lib.hid rfl
    clear hlt hn hm hv hc
    generalize mdl JD 10 n a 0 m v = r at *
    generalize cubV n a m v = c at *
    go_enter Tryz.func37, Tryz.ntmps37
    go_wp2_with fail
    refine (HC.out _).mono ?_
    rintro e w1 ⟨rfl, hb1⟩
    go_wp2_with fail
    go_ret
    exact ⟨by rw [HZ.out]; rfl, bB hb1 (by simp) (bA (Nat.le_refl _) (Below.refl _ _))⟩
  | succ k ih =>
    intro m v w hm hv hc
    have HC := Lib.hid (Tab.cubM_loop n a m v (by omega) ha (by rw [up2]; omega) hv)
    by_cases hlt : cubV n a m v < 2
    · have t2 : decide (cubV n a m v < 2) = true := decide_eq_true hlt
      have HZ : Hid (mdl JD 10 n a (k + 1) m v = 0) := Lib.hid (mdl_con hlt)
      clear hlt hn hm hv hc ih
      generalize mdl JD 10 n a (k + 1) m v = r at *
      generalize cubV n a m v = c at *
      go_enter Tryz.func37, Tryz.ntmps37
      go_wp2_with fail
      refine (HC.out _).mono ?_
      rintro e w1 ⟨rfl, hb1⟩
      go_wp2_with fail
      go_ret
      exact ⟨by rw [HZ.out]; rfl, bB hb1 (by simp) (bA (Nat.le_refl _) (Below.refl _ _))⟩
    · have t2 : decide (cubV n a m v < 2) = false := decide_eq_false hlt
      have HR := Lib.hid (mdl_step (J := JD) (I := 10) (k := k) hlt)
      rw [HR.out]
      have hn4 := hn
      have hk4 : k + 1 ≤ 4 := by have := cnt_le n m; omega
      have h32 : m < 32 := by have := Nat.pow_le_pow_right (n := 2) (by decide) hn; omega
      have hv32 : v < 32 := Nat.lt_of_le_of_lt (by rw [← hv]; exact Nat.and_le_right) h32
      have HPL := Lib.hid (fun i => place_more (i := i) hn hm hv hc)
      have HIH := Lib.hid ih
      have HLE : Hid (∀ {m v : Nat}, m < 2 ^ n → v &&& m = v → cntN n m = k → mdl JD 10 n a k m v ≤ 4) := Lib.hid fun h1 h2 h3 => Nat.le_trans (mdl_le JD_ok hn JD_I (by decide) h1 h2 h3) (by omega)
      obtain ⟨g, hg⟩ : ∃ g : Nat → Nat, (fun i => JD (k + 1) (mdl JD 10 n a k (m ||| 2 ^ i) v) (mdl JD 10 n a k (m ||| 2 ^ i) (v ||| 2 ^ i))) = g := ⟨_, rfl⟩
      have HG : Hid (∀ i, g i = 1 + max (mdl JD 10 n a k (m ||| 2 ^ i) v) (mdl JD 10 n a k (m ||| 2 ^ i) (v ||| 2 ^ i))) := Lib.hid fun i => by rw [← hg]; rfl
      rw [hg]
      have HMN := Lib.hid (fun i => (mnF_spec m g 10 i).1)
      clear hlt hm hv hc ih HR hg
      generalize cubV n a m v = c at *
      go_enter Tryz.func37, Tryz.ntmps37
      go_wp2_with fail
      refine (HC.out _).mono ?_
      rintro e w1 ⟨rfl, hb1⟩
      have HX0 : Hid (w1.heap[w.heap.size]? = some (.cells #[.int .i64 (n : Int), .int .i64 (a : Int)] 25 (0, 0))) := Lib.hid (blockB hb1 (heap_alloc_new w _))
      have HB0 : Hid (Below w.heap.size w w1) := Lib.hid (bB hb1 (by simp) (bA (Nat.le_refl _) (Below.refl _ _)))
      clear hb1
      go_wp2_with fail
      go_loopw [7, 8] (fun r x wr => ∃ i : Nat, x = .int .i64 (i : Int) ∧ r = .int .i64 (mnF m g 10 i : Int) ∧ i ≤ n ∧ wr.heap[w.heap.size]? = some (.cells #[.int .i64 (n : Int), .int .i64 (a : Int)] 25 (0, 0)) ∧ Below w.heap.size w wr) (fun _ x _ => 10 - (intOf x).toNat)
      case atStart => exact ⟨0, rfl, rfl, Nat.zero_le _, HX0.out, HB0.out⟩
      case round =>
        obtain ⟨i, rfl, rfl, hin, hx, hbel⟩ := hrel
        have HX := Lib.hid hx
        have HB := Lib.hid hbel
        have hszr : w.heap.size < wr.heap.size := lt_of_block hx
        obtain ⟨c0, c1, f0, f1⟩ := cells2 hx
        clear hx hbel HX0 HB0
        by_cases hi : (i : Int) < (n : Int)
        · have hi5 : i < 5 := by omega
          cases hb : m.testBit i with
          | true =>
            obtain ⟨q, ⟨hq1, hq2⟩, hq0⟩ := andw_q h32 hi5 hb
            have HE := Lib.hid (mnF_yes g 10 hb)
            clear hb
            go_wp2_with fail
            go_roundw
            case rel => exact ⟨i + 1, by go_num, by rw [HE.out], by omega, HX.out, HB.out⟩
            case measure => simp [intOf]; omega
          | false =>
            obtain ⟨q, ⟨hq1, hq2⟩, hq0⟩ := andw_q h32 hi5 hb
            have HE := Lib.hid (mnF_no g 10 hb)
            obtain ⟨p1, p2, p3, p4⟩ := HPL.out i (by omega) hb
            have HA : Hid (∀ w, Calls Tryz.prog 37 #[.agg #[.int .i64 n, .int .i64 a], .int .i64 ((m ||| 2 ^ i : Nat) : Int), .int .i64 v] w fun e w' => e = .returned (.int .i64 (mdl JD 10 n a k (m ||| 2 ^ i) v : Int)) ∧ Below w.heap.size w w') := Lib.hid fun w => HIH.out _ _ w p1 p3 p2
            have HD : Hid (∀ w, Calls Tryz.prog 37 #[.agg #[.int .i64 n, .int .i64 a], .int .i64 ((m ||| 2 ^ i : Nat) : Int), .int .i64 ((v ||| 2 ^ i : Nat) : Int)] w fun e w' => e = .returned (.int .i64 (mdl JD 10 n a k (m ||| 2 ^ i) (v ||| 2 ^ i) : Int)) ∧ Below w.heap.size w w') := Lib.hid fun w => HIH.out _ _ w p1 p4 p2
            have b1 : (mdl JD 10 n a k (m ||| 2 ^ i) v : Int) ≤ 4 := by have := HLE.out p1 p3 p2; omega
            have b2 : (mdl JD 10 n a k (m ||| 2 ^ i) (v ||| 2 ^ i) : Int) ≤ 4 := by have := HLE.out p1 p4 p2; omega
            have HGI := Lib.hid (HG.out i)
            have ho1 := orw_i64 m h32 i hi5
            have ho2 := orw_i64' m h32 i hi5
            have ho3 := orw_i64 v hv32 i hi5
            have ho4 := orw_i64' v hv32 i hi5
            generalize mdl JD 10 n a k (m ||| 2 ^ i) v = z1 at *
            generalize mdl JD 10 n a k (m ||| 2 ^ i) (v ||| 2 ^ i) = z2 at *
            have HW : Hid (IntKind.i64.wrap (1 + max (z1 : Int) (z2 : Int)) = 1 + max (z1 : Int) (z2 : Int)) := Lib.hid (IntWalk.i64_in _ (by omega))
            have HIF : Hid ((if z1 < z2 then (z2 : Int) else (z1 : Int)) = max (z1 : Int) (z2 : Int)) := Lib.hid (by split <;> omega)
            clear hb p1 p2 p3 p4
            generalize m ||| 2 ^ i = M at *
            generalize v ||| 2 ^ i = V at *
            go_wp2_with fail
            go_region_held3 (fun w' => w'.cell? ⟨w.heap.size, 0, none⟩ = some (.int .i64 n) ∧ w'.cell? ⟨w.heap.size, 1, none⟩ = some (.int .i64 a)) ((first | (go_split_ands; (try dsimp only); (refine ⟨?_, ?_⟩ <;> (repeat (first | with_reducible assumption | ((with_reducible refine keepU ?_); (with_reducible assumption)) | (with_reducible refine keepD ?_) | (with_reducible refine keepB hb ?_) | (with_reducible refine keepB hb' ?_)))); done) | go_keep))
              (first
                | (with_reducible refine (HA.out _).mono ?_; rintro e w14 ⟨rfl, hb⟩; obtain ⟨hc, hf⟩ := bcell hb; have hs := hb.size; try simp only [World.size_drew] at hs)
                | (with_reducible refine (HD.out _).mono ?_; rintro e w15 ⟨rfl, hb'⟩; obtain ⟨hc', hf'⟩ := bcell hb'; have hs' := hb'.size; try simp only [World.size_drew] at hs'))
            all_goals
              go_wp2
              go_roundw
              case rel =>
                refine ⟨i + 1, by go_num, ?_, by omega, ?_, ?_⟩
                · rw [HE.out, HGI.out, HIF.out, HW.out]; congr 1; omega
                · repeat (first | (exact HX.out) | (refine blockB hb ?_) | (refine blockB hb' ?_))
                · repeat (first | (with_reducible exact HB.out) | (with_reducible refine bD ?_) | ((with_reducible refine bB hb ?_ ?_); (focus (first | omega | (simp; done) | (simp; omega)))) | ((with_reducible refine bB hb' ?_ ?_); (focus (first | omega | (simp; done) | (simp; omega)))))
              case measure => simp [intOf]; omega
        · obtain rfl : i = n := by omega
          go_wp2_with fail
          go_ret
          exact ⟨rfl, HB.out⟩

end Go.Proofs.YtdhdkonokbkdoaaGreatDoor
