/-
  Chapter 7: leastCost, LeastDepth and LeastAverage of the program.
-/
import Derived.Test.YtdhdkonokbkdoaaGreatDoorLdI
namespace Go.Proofs.YtdhdkonokbkdoaaGreatDoor
open Go.RowKit Plain
set_option linter.unusedVariables false

/-- What is asked of a function value that joins costs. -/
def Joins (g : Nat) (J : Nat → Nat → Nat → Nat) (B : Nat → Nat) : Prop :=
  ∀ (n a z o : Nat) (W : World), n + 1 ≤ 4 → z ≤ B n → o ≤ B n → Calls Tryz.prog g #[.agg #[.int .i64 ((n + 1 : Nat) : Int), .int .i64 (a : Int)], .int .i64 (z : Int), .int .i64 (o : Int)] W fun e w' => e = .returned (.int .i64 (J (n + 1) z o : Int)) ∧ Below W.heap.size W w'

theorem con_zero {a : Nat} (ha : a ≤ fullN 0) : conT ((0 : Nat) : Int) (a : Int) = true := (conT_iff (by decide) ha).2 fun x hx => by
  have : x = 0 := by simpa using hx
  rw [this]

set_option maxRecDepth 100000 in
set_option maxHeartbeats 4000000 in
/-- leastCost. -/
theorem Lc.any (J : Nat → Nat → Nat → Nat) (B : Nat → Nat) (hJB : JB J B) (g : Nat) (eg : ∀ args w, (callFunc g args).run Tryz.prog w = .ok (.enter g args) w) (hJ : Joins g J B) (n : Nat) : ∀ (a : Nat) (w : World), n ≤ 4 → a ≤ fullN n →
    Calls Tryz.prog 33 #[.agg #[.int .i64 (n : Int), .int .i64 (a : Int)], .func (.func g) #[] #[]] w fun e w' => e = .returned (.int .i64 (cst J n a : Int)) ∧ Below w.heap.size w w' := by
  induction n with
  | zero =>
    intro a w hn ha
    have hc := con_zero ha
    have hf := fullN_le 0 (by decide)
    have HC : Hid (∀ w, Calls Tryz.prog 54 #[.agg #[.int .i64 0, .int .i64 (a : Int)]] w fun e w' => e = .returned (.bool true) ∧ Below w.heap.size w w') := Lib.hid fun w => by
      have := Tab.conI ((0 : Nat) : Int) a (by omega) w
      rw [hc] at this
      exact this
    have HZ : Hid (cst J 0 a = 0) := Lib.hid rfl
    generalize cst J 0 a = r at *
    show Calls _ _ #[.agg #[.int .i64 0, .int .i64 (a : Int)], _] _ _
    clear hc hf ha hn
    go_enter Tryz.func33, Tryz.ntmps33
    go_wp2_with fail
    refine (HC.out _).mono ?_
    rintro e w1 ⟨rfl, hb1⟩
    go_wp2_with fail
    go_ret
    exact ⟨by rw [HZ.out]; rfl, bB hb1 (by simp) (bA (Nat.le_refl _) (Below.refl _ _))⟩
  | succ n ih =>
    intro a w hn ha
    have hf := fullN_le (n + 1) (by omega)
    have HC := Lib.hid (Tab.conI ((n + 1 : Nat) : Int) a (by omega))
    cases hc : conT ((n + 1 : Nat) : Int) (a : Int) with
    | true =>
      have HZ : Hid (cst J (n + 1) a = 0) := Lib.hid (cst_con hc)
      rw [hc] at HC
      generalize cst J (n + 1) a = r at *
      clear hc hf ha ih
      generalize ((n + 1 : Nat) : Int) = q at *
      go_enter Tryz.func33, Tryz.ntmps33
      go_wp2_with fail
      refine (HC.out _).mono ?_
      rintro e w1 ⟨rfl, hb1⟩
      go_wp2_with fail
      go_ret
      exact ⟨by rw [HZ.out]; rfl, bB hb1 (by simp) (bA (Nat.le_refl _) (Below.refl _ _))⟩
    | false =>
      rw [hc] at HC
      have HR := Lib.hid (cst_step (J := J) hc)
      rw [HR.out]
      have HSP := Lib.hid (fun i hi => Sp.any n a i (by omega) ha hi)
      have HIH := Lib.hid (fun (i b : Nat) (w : World) => ih (restW (n + 1) a i b) w (by omega) (tabN_full _ _))
      have HLE := Lib.hid (cst_le hJB n)
      have HJ := Lib.hid (fun (z o : Nat) (W : World) => hJ n a z o W hn)
      obtain ⟨G, hG⟩ : ∃ G : Nat → Nat, (fun i => J (n + 1) (cst J n (restW (n + 1) a i 0)) (cst J n (restW (n + 1) a i 1))) = G := ⟨_, rfl⟩
      have HG : Hid (∀ i, J (n + 1) (cst J n (restW (n + 1) a i 0)) (cst J n (restW (n + 1) a i 1)) = G i) := Lib.hid fun i => by rw [← hG]
      rw [hG]
      have HQ : Hid (∀ i : Nat, (i : Int) < ((n + 1 : Nat) : Int) → i < n + 1) := Lib.hid fun i h => by omega
      have HQ2 : Hid (∀ i : Nat, ¬ (i : Int) < ((n + 1 : Nat) : Int) → i ≤ n + 1 → i = n + 1) := Lib.hid fun i h h2 => by omega
      clear hc hf ha ih HR hG hJ
      have hq5 : ((n + 1 : Nat) : Int) ≤ 5 := by omega
      generalize ((n + 1 : Nat) : Int) = q at *
      go_enter Tryz.func33, Tryz.ntmps33
      go_wp2_with fail
      refine (HC.out _).mono ?_
      rintro e w1 ⟨rfl, hb1⟩
      have hx0 : w1.heap[w.heap.size]? = some (.cells #[.int .i64 q, .int .i64 (a : Int)] 25 (0, 0)) := blockB hb1 (heap_alloc_new w _)
      obtain ⟨c0, c1, f0, f1⟩ := cells2 hx0
      have HX0 := Lib.hid hx0
      have HB0 : Hid (Below w.heap.size w w1) := Lib.hid (bB hb1 (by simp) (bA (Nat.le_refl _) (Below.refl _ _)))
      clear hb1 hx0
      go_wp2_with fail
      go_loopw [5, 12] (fun r x wr => ∃ i : Nat, x = .int .i64 (i : Int) ∧ r = .int .i64 (mnK G maxI i : Int) ∧ i ≤ n + 1 ∧ wr.heap[w.heap.size]? = some (.cells #[.int .i64 q, .int .i64 (a : Int)] 25 (0, 0)) ∧ Below w.heap.size w wr) (fun _ x _ => 10 - (intOf x).toNat)
      case atStart => exact ⟨0, rfl, rfl, Nat.zero_le _, HX0.out, HB0.out⟩
      case round =>
        clear c0 c1 f0 f1
        obtain ⟨i, rfl, rfl, hin, hx, hbel⟩ := hrel
        have HX := Lib.hid hx
        have HBL := Lib.hid hbel
        have hszr : w.heap.size < wr.heap.size := lt_of_block hx
        obtain ⟨c0, c1, f0, f1⟩ := cells2 hx
        clear hx hbel HX0 HB0
        by_cases hi : (i : Int) < q
        · have hi2 := HQ.out i hi
          have hi5 : (i : Int) ≤ 5 := by omega
          have HS := Lib.hid (HSP.out i hi2)
          have HE : Hid (mnK G maxI (i + 1) = min (mnK G maxI i) (G i)) := Lib.hid rfl
          have HA := Lib.hid (HIH.out i 0)
          have HD := Lib.hid (HIH.out i 1)
          have HJJ := Lib.hid (fun W => HJ.out (cst J n (restW (n + 1) a i 0)) (cst J n (restW (n + 1) a i 1)) W (HLE.out _) (HLE.out _))
          have HGI := HG.out i
          generalize J (n + 1) (cst J n (restW (n + 1) a i 0)) (cst J n (restW (n + 1) a i 1)) = z3 at *
          subst HGI
          generalize cst J n (restW (n + 1) a i 0) = z1 at *
          generalize cst J n (restW (n + 1) a i 1) = z2 at *
          generalize restW (n + 1) a i 0 = r0 at *
          generalize restW (n + 1) a i 1 = r1 at *
          have HI2 : Hid (i + 1 ≤ n + 1) := Lib.hid (by omega)
          clear hi2
          go_wp2_with fail
          refine (HS.out _).mono ?_
          rintro e w2 ⟨rfl, hb2⟩
          have X2 := blockB hb2 HX.out
          obtain ⟨c0, c1, f0, f1⟩ := cells2 X2
          have HX2 := Lib.hid X2
          have HB2 : Hid (Below w.heap.size w w2) := Lib.hid (bB hb2 (by omega) HBL.out)
          have hs2 : w.heap.size < w2.heap.size := lt_of_block X2
          clear X2 hb2
          go_wp2_with fail
          go_region_held3 (fun w' => w'.cell? ⟨w.heap.size, 0, none⟩ = some (.int .i64 q) ∧ w'.cell? ⟨w.heap.size, 1, none⟩ = some (.int .i64 (a : Int)) ∧ w'.cell? ⟨w2.heap.size, 0, none⟩ = some (.int .i64 (n : Int)) ∧ w'.cell? ⟨w2.heap.size, 1, none⟩ = some (.int .i64 (r0 : Int)) ∧ w'.cell? ⟨w2.heap.size, 2, none⟩ = some (.int .i64 (n : Int)) ∧ w'.cell? ⟨w2.heap.size, 3, none⟩ = some (.int .i64 (r1 : Int))) ((first | (go_split_ands; (try dsimp only); (refine ⟨?_, ?_, ?_, ?_, ?_, ?_⟩ <;> (repeat (first | with_reducible assumption | ((with_reducible refine keepU ?_); (with_reducible assumption)) | (with_reducible refine keepD ?_) | ((with_reducible refine keepN ?_ ?_); (focus (simp; done)); (focus rfl)) | (with_reducible refine keepA ?_) | (with_reducible refine keepB hb3 ?_) | (with_reducible refine keepB hb4 ?_) | (with_reducible refine keepB hb5 ?_)))); done) | go_keep))
            (first
              | (with_reducible refine (HA.out _).mono ?_; rintro e w3 ⟨rfl, hb3⟩; obtain ⟨hc3, hf3⟩ := bcell hb3; have hs3 := hb3.size; try simp only [World.size_alloc, World.size_drew] at hs3)
              | (with_reducible refine (HD.out _).mono ?_; rintro e w4 ⟨rfl, hb4⟩; obtain ⟨hc4, hf4⟩ := bcell hb4; have hs4 := hb4.size; try simp only [World.size_alloc, World.size_drew] at hs4)
              | (with_reducible refine (HJJ.out _).mono ?_; rintro e w5 ⟨rfl, hb5⟩; obtain ⟨hc5, hf5⟩ := bcell hb5; have hs5 := hb5.size; try simp only [World.size_alloc, World.size_drew] at hs5))
          all_goals
            go_wp2
            go_roundw
            case rel =>
              refine ⟨i + 1, by go_num, ?_, HI2.out, ?_, ?_⟩
              · rw [HE.out]; congr 1; (first | omega | (split <;> omega))
              · repeat (first | (exact HX2.out) | (exact (heap_alloc_old w2 _ hs2).trans HX2.out) | (refine blockB hb5 ?_) | (refine blockB hb4 ?_) | (refine blockB hb3 ?_))
              · repeat (first | (with_reducible exact HB2.out) | (with_reducible refine bD ?_) | ((with_reducible refine bB hb5 ?_ ?_); (focus (first | omega | (simp; done) | (simp; omega)))) | ((with_reducible refine bB hb4 ?_ ?_); (focus (first | omega | (simp; done) | (simp; omega)))) | ((with_reducible refine bB hb3 ?_ ?_); (focus (first | omega | (simp; done) | (simp; omega)))) | ((with_reducible refine bA ?_ ?_); (focus (first | omega | (simp; done) | (simp; omega)))))
            case measure => simp [intOf]; omega
        · have hE := HQ2.out i (by omega) hin
          have HE : Hid (mnK G maxI i = mnK G maxI (n + 1)) := Lib.hid (by rw [hE])
          clear hE
          go_wp2_with fail
          go_ret
          exact ⟨by rw [← HE.out]; rfl, HBL.out⟩

set_option maxRecDepth 100000 in
/-- The closure of LeastDepth. -/
theorem Jn.depth : Joins 34 JD (fun n => n) := by
  intro n a z o W hn hz ho
  have hz4 : (z : Int) ≤ 4 := by have : z ≤ n := hz; omega
  have ho4 : (o : Int) ≤ 4 := by have : o ≤ n := ho; omega
  have HE : Hid ((JD (n + 1) z o : Int) = 1 + max (z : Int) (o : Int)) := Lib.hid (by show ((1 + max z o : Nat) : Int) = _; omega)
  clear hz ho hn
  generalize ((n + 1 : Nat) : Int) = q at *
  generalize JD (n + 1) z o = r at *
  go_enter Tryz.func34, Tryz.ntmps34
  go_wp2_with fail
  all_goals
    go_ret
    exact ⟨by rw [HE.out]; exact ret_int (by omega), bA (Nat.le_refl _) (Below.refl _ _)⟩

set_option maxRecDepth 100000 in
/-- The closure of LeastAverage. -/
theorem Jn.sum : Joins 35 JA (fun n => n * 2 ^ n) := by
  intro n a z o W hn hz ho
  have hz4 : (z : Int) ≤ 64 := by have : z ≤ n * 2 ^ n := hz; have := JA_64 n (by omega); omega
  have ho4 : (o : Int) ≤ 64 := by have : o ≤ n * 2 ^ n := ho; have := JA_64 n (by omega); omega
  have hp := two_pow_le (n + 1) (by omega)
  have HC := Lib.hid (Tab.count (n + 1) (by omega))
  have HE : Hid ((JA (n + 1) z o : Int) = ((2 ^ (n + 1) : Nat) : Int) + (z : Int) + (o : Int)) := Lib.hid (by show ((2 ^ (n + 1) + z + o : Nat) : Int) = _; omega)
  clear hz ho hn
  generalize 2 ^ (n + 1) = p at *
  generalize ((n + 1 : Nat) : Int) = q at *
  generalize JA (n + 1) z o = r at *
  go_enter Tryz.func35, Tryz.ntmps35
  go_wp2_with fail
  refine (HC.out _).mono ?_
  rintro e w1 ⟨rfl, rfl⟩
  go_wp2_with fail
  go_ret
  exact ⟨by rw [HE.out]; exact ret_int rfl, bA (Nat.le_refl _) (Below.refl _ _)⟩

def Plain.btB (n a : Int) : Bool := isT n a && decide (n ≤ 4)
theorem btB_yes {n a : Int} (h : btB n a = true) : ∃ m c : Nat, n = m ∧ a = c ∧ m ≤ 4 ∧ c ≤ fullN m ∧ isT n a = true := by
  unfold btB at h
  simp only [Bool.and_eq_true, decide_eq_true_eq] at h
  obtain ⟨m, c, rfl, rfl, hm, hc⟩ := isT_nat h.1
  exact ⟨m, c, rfl, rfl, by omega, hc, h.1⟩

/-- hasBestTree. -/
theorem Hb.any (n a : Int) (hb : -9223372036854775808 ≤ a ∧ a ≤ 9223372036854775807) (w : World) :
    Calls Tryz.prog 28 #[.agg #[.int .i64 n, .int .i64 a]] w fun e w' => e = .returned (.bool (btB n a)) ∧ Below w.heap.size w w' := by
  have HB := Lib.hid hb
  have HC : Hid (btB n a = (isT n a && decide (n ≤ 4))) := Lib.hid rfl
  clear hb
  go_enter Tryz.func28, Tryz.ntmps28
  go_wp2_with fail
  refine (Tab.impl _ _ HB.out _).mono ?_
  rintro e w1 ⟨rfl, hb1⟩
  have k0 : w1.cell? ⟨w.heap.size, 0, none⟩ = some (.int .i64 n) := keepB hb1 (keepN rfl rfl)
  cases ht : isT n a with
  | false =>
    rw [ht] at HC
    clear ht
    go_wp2
    go_ret
    exact ⟨by rw [HC.out]; rfl, bB hb1 (by simp) ((Below.refl _ _).alloc (Nat.le_refl _) _)⟩
  | true =>
    rw [ht] at HC
    clear ht
    go_wp2
    go_ret
    exact ⟨ret_bool (by rw [HC.out]; rfl), bB hb1 (by simp) ((Below.refl _ _).alloc (Nat.le_refl _) _)⟩

theorem btB_out {n a : Int} (h : btB n a = false) : ¬ (isT n a = true ∧ n ≤ 4) := by
  intro hh
  unfold btB at h
  rw [hh.1, decide_eq_true hh.2] at h
  cases h

set_option maxRecDepth 100000 in
/-- LeastDepth of the program. -/
theorem Ld.impl (n a : Int) (hb : -9223372036854775808 ≤ a ∧ a ≤ 9223372036854775807) (w : World) :
    Calls Tryz.prog 8 #[.agg #[.int .i64 n, .int .i64 a]] w fun e w' => e = .returned (.int .i64 (ldT n a)) ∧ Below w.heap.size w w' := by
  have HH := Lib.hid (Hb.any n a hb)
  cases hc : btB n a with
  | false =>
    rw [ldT_no (btB_out hc)]
    rw [hc] at HH
    clear hc hb
    go_enter Tryz.func8, Tryz.ntmps8
    go_wp2_with fail
    refine (HH.out _).mono ?_
    rintro e w1 ⟨rfl, hb1⟩
    go_wp2_with fail
    go_ret
    exact ⟨rfl, bB hb1 (by simp) (bA (Nat.le_refl _) (Below.refl _ _))⟩
  | true =>
    rw [hc] at HH
    obtain ⟨m, x, rfl, rfl, hm, hx, _⟩ := btB_yes hc
    rw [ldT_yes hm hx]
    have HL := Lib.hid (fun w => Lc.any JD (fun n => n) JD_ok 34 (enters_of Tryz.func34 (by kernel_rfl) rfl) Jn.depth m x w hm hx)
    generalize cst JD m x = r at *
    clear hc hb hx
    go_enter Tryz.func8, Tryz.ntmps8
    go_wp2_with fail
    refine (HH.out _).mono ?_
    rintro e w1 ⟨rfl, hb1⟩
    have HX0 : w1.heap[w.heap.size]? = some (.cells #[.int .i64 (m : Int), .int .i64 (x : Int)] 25 (0, 0)) := blockB hb1 (heap_alloc_new w _)
    obtain ⟨c0, c1, f0, f1⟩ := cells2 HX0
    have hz := lt_of_block HX0
    have HB1 := Lib.hid hb1
    clear hb1 HX0
    go_wp2_with fail
    refine (HL.out _).mono ?_
    rintro e w2 ⟨rfl, hb2⟩
    go_wp2_with fail
    go_ret
    exact ⟨rfl, bB hb2 (by omega) (bB HB1.out (by simp) (bA (Nat.le_refl _) (Below.refl _ _)))⟩

set_option maxRecDepth 100000 in
/-- LeastAverage of the program. -/
theorem La.impl (n a : Int) (hb : -9223372036854775808 ≤ a ∧ a ≤ 9223372036854775807) (w : World) :
    Calls Tryz.prog 9 #[.agg #[.int .i64 n, .int .i64 a]] w fun e w' => e = .returned (.int .i64 (laT n a)) ∧ Below w.heap.size w w' := by
  have HH := Lib.hid (Hb.any n a hb)
  cases hc : btB n a with
  | false =>
    rw [laT_no (btB_out hc)]
    rw [hc] at HH
    clear hc hb
    go_enter Tryz.func9, Tryz.ntmps9
    go_wp2_with fail
    refine (HH.out _).mono ?_
    rintro e w1 ⟨rfl, hb1⟩
    go_wp2_with fail
    go_ret
    exact ⟨rfl, bB hb1 (by simp) (bA (Nat.le_refl _) (Below.refl _ _))⟩
  | true =>
    rw [hc] at HH
    obtain ⟨m, x, rfl, rfl, hm, hx, _⟩ := btB_yes hc
    rw [laT_yes hm hx]
    have HL := Lib.hid (fun w => Lc.any JA (fun n => n * 2 ^ n) JA_ok 35 (enters_of Tryz.func35 (by kernel_rfl) rfl) Jn.sum m x w hm hx)
    generalize cst JA m x = r at *
    clear hc hb hx
    go_enter Tryz.func9, Tryz.ntmps9
    go_wp2_with fail
    refine (HH.out _).mono ?_
    rintro e w1 ⟨rfl, hb1⟩
    have HX0 : w1.heap[w.heap.size]? = some (.cells #[.int .i64 (m : Int), .int .i64 (x : Int)] 25 (0, 0)) := blockB hb1 (heap_alloc_new w _)
    obtain ⟨c0, c1, f0, f1⟩ := cells2 HX0
    have hz := lt_of_block HX0
    have HB1 := Lib.hid hb1
    clear hb1 HX0
    go_wp2_with fail
    refine (HL.out _).mono ?_
    rintro e w2 ⟨rfl, hb2⟩
    go_wp2_with fail
    go_ret
    exact ⟨rfl, bB hb2 (by omega) (bB HB1.out (by simp) (bA (Nat.le_refl _) (Below.refl _ _)))⟩

end Go.Proofs.YtdhdkonokbkdoaaGreatDoor
