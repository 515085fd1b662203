/-
  AreAlike and CountTableClasses of the program; all functions of classes of the model.
  ClassSize of the model; CountTableClasses of both.
  CountTableClasses of the program.
-/
import Derived.Test.YthdcjldmafhcjaaClsX
import Derived.Test.YthdcjldmafhcjaaClsZ

namespace Go.Proofs.Ythdcjldmafhcjaa
open Go.RowKit Plain
set_option linter.unusedVariables false
attribute [local go_sem ↓] Go.wp_at_zero Go.wp_at_succ

/-! The model -/
theorem Cls.symM_no (n a : Int) (h : clsB n a = false) (w : World) :
    Calls Try.prog 16 #[.agg #[.int .i64 n, .int .i64 a]] w fun e w' => e = .returned (.int .i64 (-1)) ∧ Below w.heap.size w w' := by
  have H := Lib.hid h
  clear h
  cases ht : isT n a with
  | false =>
    have HT := Lib.hid ht
    clear ht
    go_enter Try.func16, Try.ntmps16
    go_wp2_with fail
    refine (Tab.model _ _ _).mono ?_
    rintro e w1 ⟨rfl, hb1⟩
    rw [HT.out]
    go_wp2
    go_ret
    exact ⟨rfl, bB hb1 (by simp) ((Below.refl _ _).alloc (Nat.le_refl _) _)⟩
  | true =>
    have hn : 4 < n := by
      have := H.out
      unfold clsB at this
      rw [ht] at this
      simp at this
      omega
    have HT := Lib.hid ht
    clear ht
    go_enter Try.func16, Try.ntmps16
    go_wp2_with fail
    refine (Tab.model _ _ _).mono ?_
    rintro e w1 ⟨rfl, hb1⟩
    have k0 : w1.cell? ⟨w.heap.size, 0, none⟩ = some (.int .i64 n) := keepB hb1 (keepN rfl rfl)
    rw [HT.out]
    go_wp2
    go_ret
    exact ⟨rfl, bB hb1 (by simp) ((Below.refl _ _).alloc (Nat.le_refl _) _)⟩

theorem Cls.symM_yes (n a : Nat) (hn : n ≤ 4) (ha : a ≤ fullN n) (ht : isT n a = true) (w : World) :
    Calls Try.prog 16 #[.agg #[.int .i64 n, .int .i64 a]] w fun e w' => e = .returned (.int .i64 (symT n a)) ∧ Below w.heap.size w w' := by
  have HN := Lib.hid hn
  have hnz : (n : Int) ≤ 4 := by omega
  have HA := Lib.hid ha
  have HS := Lib.hid (symT_yes ht hn)
  have HT := Lib.hid ht
  clear hn ha ht
  go_enter Try.func16, Try.ntmps16
  go_wp2_with fail
  refine (Tab.model _ _ _).mono ?_
  rintro e w1 ⟨rfl, hb1⟩
  have k0 : w1.cell? ⟨w.heap.size, 0, none⟩ = some (.int .i64 n) := keepB hb1 (keepN rfl rfl)
  have k1 : w1.cell? ⟨w.heap.size, 1, none⟩ = some (.int .i64 a) := keepB hb1 (keepN rfl rfl)
  have HB1 := Lib.hid (bB hb1 (by simp) ((Below.refl w.heap.size w).alloc (Nat.le_refl _) (.cells #[.int .i64 (n : Int), .int .i64 (a : Int)] 25)))
  clear hb1
  rw [HT.out]
  go_wp2_with fail
  refine (Cls.leastM n a HN.out HA.out _).mono ?_
  rintro e w2 ⟨rfl, hb2⟩
  go_wp2
  go_ret
  exact ⟨by rw [HS.out]; rfl, bB hb2 HB1.out.size HB1.out⟩

theorem Cls.canM_no (n a : Int) (h : clsB n a = false) (w : World) :
    Calls Try.prog 14 #[.agg #[.int .i64 n, .int .i64 a]] w fun e w' => e = .returned (.tuple #[.agg #[.int .i64 0, .int .i64 0], .bool false]) ∧ Below w.heap.size w w' := by
  have H := Lib.hid h
  clear h
  cases ht : isT n a with
  | false =>
    have HT := Lib.hid ht
    clear ht
    go_enter Try.func14, Try.ntmps14
    go_wp2_with fail
    refine (Tab.model _ _ _).mono ?_
    rintro e w1 ⟨rfl, hb1⟩
    obtain ⟨hc1, hf1⟩ := bcell hb1
    have hz : w.heap.size + 1 < w1.heap.size := by have := hb1.size; simp at this; omega
    rw [HT.out]
    go_wp2
    exact bodyPost_ret (v := .tuple #[.agg #[.int .i64 0, .int .i64 0], .bool false]) (by simp [results, Try.results14, go_sem, hc1]) rfl ⟨rfl, by exact (((((Below.refl _ _).alloc (Nat.le_refl _) _).alloc (by simp) _).trans (hb1.mono (by simp; omega))).setCell (by simp) _).setCell (by simp) _⟩
  | true =>
    have hn : 4 < n := by
      have := H.out
      unfold clsB at this
      rw [ht] at this
      simp at this
      omega
    have HT := Lib.hid ht
    clear ht
    go_enter Try.func14, Try.ntmps14
    go_wp2_with fail
    refine (Tab.model _ _ _).mono ?_
    rintro e w1 ⟨rfl, hb1⟩
    obtain ⟨hc1, hf1⟩ := bcell hb1
    have hz : w.heap.size + 1 < w1.heap.size := by have := hb1.size; simp at this; omega
    have k0 : w1.cell? ⟨w.heap.size, 0, none⟩ = some (.int .i64 n) := keepB hb1 (keepA (keepN rfl rfl))
    rw [HT.out]
    go_wp2
    exact bodyPost_ret (v := .tuple #[.agg #[.int .i64 0, .int .i64 0], .bool false]) (by simp [results, Try.results14, go_sem, hc1]) rfl ⟨rfl, by exact (((((Below.refl _ _).alloc (Nat.le_refl _) _).alloc (by simp) _).trans (hb1.mono (by simp; omega))).setCell (by simp) _).setCell (by simp) _⟩

theorem Cls.canM_yes (n a : Nat) (hn : n ≤ 4) (ha : a ≤ fullN n) (ht : isT n a = true) (w : World) :
    Calls Try.prog 14 #[.agg #[.int .i64 n, .int .i64 a]] w fun e w' => e = .returned (.tuple #[.agg #[.int .i64 n, .int .i64 (leastW n a : Int)], .bool true]) ∧ Below w.heap.size w w' := by
  have HN := Lib.hid hn
  have hnz : (n : Int) ≤ 4 := by omega
  have HA := Lib.hid ha
  have HT := Lib.hid ht
  clear hn ha ht
  go_enter Try.func14, Try.ntmps14
  go_wp2_with fail
  refine (Tab.model _ _ _).mono ?_
  rintro e w1 ⟨rfl, hb1⟩
  have k0 : w1.cell? ⟨w.heap.size, 0, none⟩ = some (.int .i64 n) := keepB hb1 (keepA (keepN rfl rfl))
  have k1 : w1.cell? ⟨w.heap.size, 1, none⟩ = some (.int .i64 a) := keepB hb1 (keepA (keepN rfl rfl))
  have z0 : w1.cell? ⟨w.heap.size + 1, 0, none⟩ = some (.int .i64 0) := keepB hb1 (keepN (by simp) rfl)
  have z1 : w1.cell? ⟨w.heap.size + 1, 1, none⟩ = some (.int .i64 0) := keepB hb1 (keepN (by simp) rfl)
  have hsz : w.heap.size + 1 < w1.heap.size := by have := hb1.size; simp at this; omega
  have HB1 := Lib.hid (bB hb1 (by simp; omega) (((Below.refl w.heap.size w).alloc (Nat.le_refl _) (.cells #[.int .i64 (n : Int), .int .i64 (a : Int)] 25)).alloc (by simp) (.cells #[.int .i64 0, .int .i64 0] 25)))
  have g0 : w1.frozen? ⟨w.heap.size + 1, 0, none⟩ = false := keepF hb1 (by simp) (frozen_of_row _ _ 0 _ _ (heap_alloc2_new w _ _))
  have g1 : w1.frozen? ⟨w.heap.size + 1, 1, none⟩ = false := keepF hb1 (by simp) (frozen_of_row _ _ 1 _ _ (heap_alloc2_new w _ _))
  clear hb1
  rw [HT.out]
  go_wp2_with fail
  refine (Cls.leastM n a HN.out HA.out _).mono ?_
  rintro e w2 ⟨rfl, hb2⟩
  have m0 := keepB hb2 k0
  have y0 := keepB hb2 z0
  have y1 := keepB hb2 z1
  have f0 := keepF hb2 hsz g0
  have f1 := keepF hb2 hsz g1
  have hs2 : w.heap.size + 1 < w2.heap.size := Nat.lt_of_lt_of_le hsz hb2.size
  go_wp2
  obtain ⟨r0, r1⟩ := keepT (u := .int .i64 (n : Int)) (v := .int .i64 (leastW n a : Int)) y0 y1
  exact bodyPost_ret (v := .tuple #[.agg #[.int .i64 n, .int .i64 (leastW n a : Int)], .bool true]) (by simp [results, Try.results14, go_sem, r0, r1]) rfl ⟨rfl, bS (by simp) (bS (by simp) (bB hb2 (by omega) HB1.out))⟩

theorem Cls.symM (n a : Int) (w : World) :
    Calls Try.prog 16 #[.agg #[.int .i64 n, .int .i64 a]] w fun e w' => e = .returned (.int .i64 (symT n a)) ∧ Below w.heap.size w w' := by
  cases h : clsB n a with
  | true =>
    obtain ⟨m, c, rfl, rfl, hm, hc, ht⟩ := clsB_yes h
    exact Cls.symM_yes m c hm hc ht w
  | false => rw [symT_no (clsB_no h)]; exact Cls.symM_no n a h w

theorem Cls.canM (n a : Int) (w : World) :
    Calls Try.prog 14 #[.agg #[.int .i64 n, .int .i64 a]] w fun e w' => e = .returned (.tuple #[.agg #[.int .i64 (canT n a).1, .int .i64 (canT n a).2.1], .bool (canT n a).2.2]) ∧ Below w.heap.size w w' := by
  cases h : clsB n a with
  | true =>
    obtain ⟨m, c, rfl, rfl, hm, hc, ht⟩ := clsB_yes h
    rw [canT_yes ht hm]
    exact Cls.canM_yes m c hm hc ht w
  | false => rw [canT_no (clsB_no h)]; exact Cls.canM_no n a h w

/-! AreAlike -/
def Plain.aliT (n a m c : Int) : Bool := (canT n a).2.2 && ((canT m c).2.2 && (((canT n a).1 == (canT m c).1) && ((canT n a).2.1 == (canT m c).2.1)))

theorem Cls.alM_of (n a m c p x q y : Int) (c0 c1 c2 : Bool) (hc : c2 = (c0 && (c1 && ((p == q) && (x == y))))) 
    (h0 : canT n a = (p, x, c0)) (h1 : canT m c = (q, y, c1)) (w : World) :
    Calls Try.prog 30 #[.agg #[.int .i64 n, .int .i64 a], .agg #[.int .i64 m, .int .i64 c]] w fun e w' => e = .returned (.bool c2) ∧ Below w.heap.size w w' := by
  have H0 := fun w => Cls.canM n a  w
  have H1 := fun w => Cls.canM m c  w
  rw [h0] at H0
  rw [h1] at H1
  have HH0 := Lib.hid H0
  have HH1 := Lib.hid H1
  have HC := Lib.hid hc
  clear H0 H1 h0 h1  hc
  cases c0 <;> cases c1 <;> by_cases hpq : p = q <;> by_cases hxy : x = y
  all_goals
    first | subst hpq | have hne1 : (p == q) = false := by rw [beq_eq_false_iff_ne]; exact hpq
    first | subst hxy | have hne2 : (x == y) = false := by rw [beq_eq_false_iff_ne]; exact hxy
    go_enter Try.func30, Try.ntmps30
    go_wp2_with fail
    refine (HH0.out _).mono ?_
    rintro e w1 ⟨rfl, hb1⟩
    obtain ⟨hc1, hf1⟩ := bcell hb1
    have hz1 : w.heap.size + 1 < w1.heap.size := by have := hb1.size; simp at this; omega
    go_wp2_with fail
    refine (HH1.out _).mono ?_
    rintro e w2 ⟨rfl, hb2⟩
    obtain ⟨hc2, hf2⟩ := bcell hb2
    have hz2 : w1.heap.size < w2.heap.size := by have := hb2.size; simp at this; omega
    go_wp2
    go_ret
    exact ⟨by first | (rw [HC.out]; rfl) | (rw [HC.out]; simp; done) | (rw [HC.out]; simp [hne1]; done) | (rw [HC.out]; simp [hne2]; done) | (refine ret_bool ?_; rw [HC.out]; simp; done), bA (by first | omega | (simp; done) | (simp; omega)) (bB hb2 (by first | omega | (simp; done) | (simp; omega)) (bA (by first | omega | (simp; done) | (simp; omega)) (bB hb1 (by first | omega | (simp; done) | (simp; omega)) (bA (by simp) ((Below.refl _ _).alloc (Nat.le_refl _) _)))))⟩

theorem Cls.alI_of (n a m c p x q y : Int) (c0 c1 c2 : Bool) (hc : c2 = (c0 && (c1 && ((p == q) && (x == y))))) (hb : -9223372036854775808 ≤ a ∧ a ≤ 9223372036854775807) (hd : -9223372036854775808 ≤ c ∧ c ≤ 9223372036854775807)
    (h0 : canT n a = (p, x, c0)) (h1 : canT m c = (q, y, c1)) (w : World) :
    Calls Try.prog 24 #[.agg #[.int .i64 n, .int .i64 a], .agg #[.int .i64 m, .int .i64 c]] w fun e w' => e = .returned (.bool c2) ∧ Below w.heap.size w w' := by
  have H0 := fun w => Cls.canI n a hb w
  have H1 := fun w => Cls.canI m c hd w
  rw [h0] at H0
  rw [h1] at H1
  have HH0 := Lib.hid H0
  have HH1 := Lib.hid H1
  have HC := Lib.hid hc
  clear H0 H1 h0 h1 hb hd hc
  cases c0 <;> cases c1 <;> by_cases hpq : p = q <;> by_cases hxy : x = y
  all_goals
    first | subst hpq | have hne1 : (p == q) = false := by rw [beq_eq_false_iff_ne]; exact hpq
    first | subst hxy | have hne2 : (x == y) = false := by rw [beq_eq_false_iff_ne]; exact hxy
    go_enter Try.func24, Try.ntmps24
    go_wp2_with fail
    refine (HH0.out _).mono ?_
    rintro e w1 ⟨rfl, hb1⟩
    obtain ⟨hc1, hf1⟩ := bcell hb1
    have hz1 : w.heap.size + 1 < w1.heap.size := by have := hb1.size; simp at this; omega
    go_wp2_with fail
    refine (HH1.out _).mono ?_
    rintro e w2 ⟨rfl, hb2⟩
    obtain ⟨hc2, hf2⟩ := bcell hb2
    have hz2 : w1.heap.size < w2.heap.size := by have := hb2.size; simp at this; omega
    go_wp2
    go_ret
    exact ⟨by first | (rw [HC.out]; rfl) | (rw [HC.out]; simp; done) | (rw [HC.out]; simp [hne1]; done) | (rw [HC.out]; simp [hne2]; done) | (refine ret_bool ?_; rw [HC.out]; simp; done), bA (by first | omega | (simp; done) | (simp; omega)) (bB hb2 (by first | omega | (simp; done) | (simp; omega)) (bA (by first | omega | (simp; done) | (simp; omega)) (bB hb1 (by first | omega | (simp; done) | (simp; omega)) (bA (by simp) ((Below.refl _ _).alloc (Nat.le_refl _) _)))))⟩

theorem Cls.alM (n a m c : Int) (w : World) :
    Calls Try.prog 30 #[.agg #[.int .i64 n, .int .i64 a], .agg #[.int .i64 m, .int .i64 c]] w fun e w' => e = .returned (.bool (aliT n a m c)) ∧ Below w.heap.size w w' :=
  Cls.alM_of n a m c _ _ _ _ _ _ _ rfl rfl rfl w

theorem Cls.alI (n a m c : Int) (hb : -9223372036854775808 ≤ a ∧ a ≤ 9223372036854775807) (hd : -9223372036854775808 ≤ c ∧ c ≤ 9223372036854775807) (w : World) :
    Calls Try.prog 24 #[.agg #[.int .i64 n, .int .i64 a], .agg #[.int .i64 m, .int .i64 c]] w fun e w' => e = .returned (.bool (aliT n a m c)) ∧ Below w.heap.size w w' :=
  Cls.alI_of n a m c _ _ _ _ _ _ _ rfl hb hd rfl rfl w

end Go.Proofs.Ythdcjldmafhcjaa

namespace Go.Proofs.Ythdcjldmafhcjaa
open Go.RowKit Plain
set_option linter.unusedVariables false

/-- How many ways there are. -/
def Plain.allN : Nat → Nat
  | 0 => 2
  | k + 1 => allN k * 2 * (k + 1)
theorem all_ways {n : Nat} (hn : n ≤ 4) (a : Nat) : allN n = (waysL n a).length := by
  rw [waysL_len]
  rcases perms_len n hn with ⟨h, rfl⟩ | ⟨h, rfl⟩ | ⟨h, rfl⟩ | ⟨h, rfl⟩ | ⟨h, rfl⟩ <;> rw [h] <;> rfl
theorem wrap64_small (x : Int) (h0 : -9223372036854775808 ≤ x) (h1 : x ≤ 9223372036854775807) : wrap64 x = x := by unfold wrap64; omega
theorem all_le {k : Nat} (h : k ≤ 4) : allN k ≤ 768 := by
  rcases lt5 h with rfl | rfl | rfl | rfl | rfl <;> decide

theorem Cls.sizM_no (n a : Int) (h : clsB n a = false) (w : World) :
    Calls Try.prog 18 #[.agg #[.int .i64 n, .int .i64 a]] w fun e w' => e = .returned (.int .i64 (-1)) ∧ Below w.heap.size w w' := by
  have H := Lib.hid (fun w => Cls.symM_no n a h w)
  clear h
  go_enter Try.func18, Try.ntmps18
  go_wp2_with fail
  refine (H.out _).mono ?_
  rintro e w1 ⟨rfl, hb1⟩
  go_wp2
  go_ret
  exact ⟨rfl, bB hb1 (by simp) ((Below.refl _ _).alloc (Nat.le_refl _) _)⟩

theorem Cls.sizM_yes (n a : Nat) (hn : n ≤ 4) (ha : a ≤ fullN n) (ht : isT n a = true) (w : World) :
    Calls Try.prog 18 #[.agg #[.int .i64 n, .int .i64 a]] w fun e w' => e = .returned (.int .i64 (sizT n a)) ∧ Below w.heap.size w w' := by
  have H := Lib.hid (fun w => Cls.symM_yes n a hn ha ht w)
  rw [symT_yes ht hn] at H
  have HN := Lib.hid hn
  have hnz : (n : Int) ≤ 4 := by omega
  have HS := Lib.hid (sizT_yes ht hn)
  have hc0 := count_pos hn (fullN_lt a ha)
  have HAL := Lib.hid (all_ways hn a)
  have hcz : 1 ≤ ((waysL n a).count a : Int) := by omega
  have HQ : Hid (∀ c : Nat, Int.tdiv ((allN n : Nat) : Int) (c : Int) = ((allN n / c : Nat) : Int)) := Lib.hid (fun c => (Int.ofNat_tdiv _ _).symm)
  have hq : (((allN n / (waysL n a).count a : Nat) : Nat) : Int) ≤ 768 := by
    have h1 := all_le hn
    have h2 := Nat.div_le_self (allN n) ((waysL n a).count a)
    omega
  clear hn ha ht hc0
  rw [← HAL.out] at HS
  generalize (waysL n a).count a = c at H HS hcz hq
  go_enter Try.func18, Try.ntmps18
  go_wp2_with fail
  refine (H.out _).mono ?_
  rintro e w1 ⟨rfl, hb1⟩
  have k0 : w1.cell? ⟨w.heap.size, 0, none⟩ = some (.int .i64 n) := keepB hb1 (keepN rfl rfl)
  have HB1 := Lib.hid (bB hb1 (by simp) ((Below.refl w.heap.size w).alloc (Nat.le_refl _) (.cells #[.int .i64 (n : Int), .int .i64 (a : Int)] 25)))
  clear hb1
  go_wp2
  go_loopw [4, 5] (fun m x wr => ∃ k : Nat, x = .int .i64 ((k : Int) + 1) ∧ k ≤ n ∧ m = .int .i64 (allN k : Int) ∧ wr = w1) (fun _ x _ => n + 1 - (intOf x).toNat)
  case atStart => exact ⟨0, rfl, by omega, rfl, rfl⟩
  case round =>
    obtain ⟨k, rfl, hk, rfl, rfl⟩ := hrel
    by_cases hlt : k < n
    · have hkz : (k : Int) + 1 ≤ (n : Int) := by omega
      have h1 := all_le (k := k) (by omega)
      have h2 := all_le (k := k + 1) (by omega)
      have h3 : ((allN (k + 1) : Nat) : Int) = (allN k : Int) * 2 * ((k : Int) + 1) := by show ((allN k * 2 * (k + 1) : Nat) : Int) = _; push_cast; rfl
      have h4 : (allN k : Int) ≤ 768 := by omega
      have h5 : (allN k : Int) * 2 * ((k : Int) + 1) ≤ 768 := by omega
      have h6 : 0 ≤ (allN k : Int) * 2 * ((k : Int) + 1) := by omega
      have H3 := Lib.hid h3
      clear h1 h2 h3
      go_wp2
      go_roundw
      case rel => exact ⟨k + 1, by go_num, by omega, by rw [H3.out], trivial⟩
      case measure => simp [intOf] <;> omega
    · obtain rfl : k = n := by omega
      have HQZ := Lib.hid hq
      clear hq
      go_wp2
      go_ret
      refine ⟨?_, HB1.out⟩
      have e1 : ((allN k : Nat) : Int) / (c : Int) = ((allN k / c : Nat) : Int) := (Int.natCast_ediv _ _).symm
      have e2 : wrap64 (((allN k / c : Nat)) : Int) = ((allN k / c : Nat) : Int) := by
        have h := HQZ.out
        generalize allN k / c = z at h ⊢
        exact wrap64_small _ (by omega) (by omega)
      rw [HS.out]
      show Ending.returned (Value.int .i64 (wrap64 (((allN k : Nat) : Int) / (c : Int)))) = _
      rw [e1, e2]

theorem Cls.sizM (n a : Int) (w : World) :
    Calls Try.prog 18 #[.agg #[.int .i64 n, .int .i64 a]] w fun e w' => e = .returned (.int .i64 (sizT n a)) ∧ Below w.heap.size w w' := by
  cases h : clsB n a with
  | true =>
    obtain ⟨m, c, rfl, rfl, hm, hc, ht⟩ := clsB_yes h
    exact Cls.sizM_yes m c hm hc ht w
  | false => rw [sizT_no (clsB_no h)]; exact Cls.sizM_no n a h w

/-! CountTableClasses -/
def Plain.clsN (n k : Nat) : Nat := ((List.range k).filter (fun x => leastW n x == x)).length
theorem clsN_yes {n k : Nat} (h : leastW n k = k) : clsN n (k + 1) = clsN n k + 1 := by
  unfold clsN; rw [List.range_succ, List.filter_append]; simp [h]
theorem clsN_no {n k : Nat} (h : leastW n k ≠ k) : clsN n (k + 1) = clsN n k := by
  unfold clsN; rw [List.range_succ, List.filter_append]; simp [h]
theorem clsN_le (n k : Nat) : clsN n k ≤ k := by
  unfold clsN
  have := List.length_filter_le (fun x => leastW n x == x) (List.range k)
  rw [List.length_range] at this
  exact this
def Plain.ctcT (n : Int) : Int := if 0 ≤ n ∧ n ≤ 3 then (clsN n.toNat (fullN n.toNat + 1) : Int) else -1
theorem ctcT_yes {n : Nat} (h : n ≤ 3) : ctcT n = (clsN n (fullN n + 1) : Int) := by unfold ctcT; rw [if_pos ⟨by omega, by omega⟩]; rfl
theorem ctcT_no {n : Int} (h : ¬ (0 ≤ n ∧ n ≤ 3)) : ctcT n = -1 := if_neg h
theorem full3 {n : Nat} (h : n ≤ 3) : fullN n ≤ 255 := by
  rcases (show n = 0 ∨ n = 1 ∨ n = 2 ∨ n = 3 by omega) with rfl | rfl | rfl | rfl <;> decide

theorem Cls.ctcM_no (n : Int) (h : ¬ (0 ≤ n ∧ n ≤ 3)) (w : World) :
    Calls Try.prog 32 #[.int .i64 n] w fun e w' => e = .returned (.int .i64 (-1)) ∧ Below w.heap.size w w' := by
  have H := Lib.hid h
  clear h
  go_enter Try.func32, Try.ntmps32
  go_wp2_with fail
  refine (Widths.in_no _ _ _ H.out _).mono ?_
  rintro e w1 ⟨rfl, rfl⟩
  go_wp2
  go_ret
  exact ⟨rfl, Below.refl _ _⟩

set_option maxRecDepth 100000 in
theorem Cls.ctcM_yes (n : Nat) (h : n ≤ 3) (w : World) :
    Calls Try.prog 32 #[.int .i64 n] w fun e w' => e = .returned (.int .i64 (clsN n (fullN n + 1) : Int)) ∧ Below w.heap.size w w' := by
  have H := Lib.hid h
  have hnz : (n : Int) ≤ 3 := by omega
  have hf := full3 h
  have HF := Lib.hid hf
  have hfz : (fullN n : Int) ≤ 255 := by omega
  clear h hf
  go_enter Try.func32, Try.ntmps32
  go_wp2_with fail
  refine (Widths.in_yes _ _ _ ⟨by omega, by omega⟩ _).mono ?_
  rintro e w1 ⟨rfl, rfl⟩
  go_wp2
  go_loopw [3, 4, 5, 6] (fun m x _ _ wr => ∃ k : Nat, x = .int .i64 (k : Int) ∧ k ≤ fullN n + 1 ∧ m = .int .i64 (clsN n k : Int) ∧ Below w.heap.size w wr) (fun _ x _ _ _ => fullN n + 1 - (intOf x).toNat)
  case atStart => exact ⟨0, rfl, by omega, rfl, Below.refl _ _⟩
  case round =>
    obtain ⟨k, rfl, hk, rfl, hbel⟩ := hrel
    have HB := Lib.hid hbel
    have hkz : (k : Int) ≤ 256 := by omega
    go_wp2_with fail
    refine (Tab.fullM n (by have := H.out; omega) _).mono ?_
    rintro e w1 ⟨rfl, rfl⟩
    by_cases hlt : k < fullN n + 1
    · have hltz : (k : Int) ≤ (fullN n : Int) := by omega
      have hcl := clsN_le n k
      have hcz : (clsN n k : Int) ≤ 256 := by omega
      have HK : Hid (k ≤ fullN n) := Lib.hid (by omega)
      clear hcl hbel
      by_cases he : leastW n k = k
      · have HN := Lib.hid (clsN_yes he)
        have HE := Lib.hid he
        clear he
        go_wp2_with fail
        refine (Cls.leastM n k (by have := H.out; omega) HK.out _).mono ?_
        rintro e w2 ⟨rfl, hb2⟩
        rw [HE.out]
        have HB2 := Lib.hid (bstep HB.out hb2)
        clear hb2
        go_wp2
        go_roundw
        case rel => exact ⟨k + 1, by go_num, by have := HK.out; omega, by rw [HN.out]; go_num, HB2.out⟩
        case measure => simp [intOf] <;> omega
      · have HN := Lib.hid (clsN_no he)
        have hne : (((leastW n k : Nat) : Int) == (k : Int)) = false := by rw [beq_eq_false_iff_ne]; omega
        have hlz : ((leastW n k : Nat) : Int) ≤ 255 := by have := least_full n k HK.out; omega
        clear he
        go_wp2_with fail
        refine (Cls.leastM n k (by have := H.out; omega) HK.out _).mono ?_
        rintro e w2 ⟨rfl, hb2⟩
        have HB2 := Lib.hid (bstep HB.out hb2)
        clear hb2
        go_wp2
        go_roundw
        case rel => exact ⟨k + 1, by go_num, by have := HK.out; omega, by rw [HN.out], HB2.out⟩
        case measure => simp [intOf] <;> omega
    · obtain rfl : k = fullN n + 1 := by omega
      have hgt : (fullN n : Int) < ((fullN n + 1 : Nat) : Int) := by omega
      clear hbel
      go_wp2
      go_ret
      exact ⟨rfl, HB.out⟩
theorem Cls.ctcM (n : Int) (w : World) :
    Calls Try.prog 32 #[.int .i64 n] w fun e w' => e = .returned (.int .i64 (ctcT n)) ∧ Below w.heap.size w w' := by
  by_cases h : 0 ≤ n ∧ n ≤ 3
  · obtain ⟨m, rfl⟩ := Int.eq_ofNat_of_zero_le h.1
    rw [show ((m : Nat) : Int) = Int.ofNat m from rfl] at *
    have hm : m ≤ 3 := by have := h.2; simp at this; omega
    have := Cls.ctcM_yes m hm w
    rw [← ctcT_yes hm] at this
    exact this
  · rw [ctcT_no h]; exact Cls.ctcM_no n h w

end Go.Proofs.Ythdcjldmafhcjaa

namespace Go.Proofs.Ythdcjldmafhcjaa
open Go.RowKit Plain
set_option linter.unusedVariables false

theorem Cls.ctcI_no (n : Int) (h : ¬ (0 ≤ n ∧ n ≤ 3)) (w : World) :
    Calls Try.prog 31 #[.int .i64 n] w fun e w' => e = .returned (.int .i64 (-1)) ∧ Below w.heap.size w w' := by
  go_enter Try.func31, Try.ntmps31
  by_cases h0 : n < 0
  · go_wp2
    go_ret
    exact ⟨rfl, Below.refl _ _⟩
  · have h4 : 3 < n := by omega
    go_wp2
    go_ret
    exact ⟨rfl, Below.refl _ _⟩

set_option maxRecDepth 100000 in
set_option maxHeartbeats 1000000 in
theorem Cls.ctcI_yes (n : Nat) (h : n ≤ 3) (w : World) :
    Calls Try.prog 31 #[.int .i64 n] w fun e w' => e = .returned (.int .i64 (clsN n (fullN n + 1) : Int)) ∧ Below w.heap.size w w' := by
  have hmm := @run_makeMap Try.prog
  have H := Lib.hid h
  have hnz : (n : Int) ≤ 3 := by omega
  have hf := full3 h
  have HF := Lib.hid hf
  have hfz : (fullN n : Int) ≤ 255 := by omega
  have HM := Lib.hid (mapIs_made w)
  clear h hf
  go_enter Try.func31, Try.ntmps31
  go_wp2_with fail
  refine (Tab.full n (by have := H.out; omega) _).mono ?_
  rintro e w1 ⟨rfl, rfl⟩
  go_wp2
  clear hmm
  go_loopw [3, 5, 16] (fun m _ x wr => ∃ (k N : Nat) (l : List Nat), x = .int .u64 (k : Int) ∧ k ≤ fullN n + 1 ∧ m = .int .i64 (clsN n k : Int) ∧ MapIs wr w.heap.size N l ∧ Below w.heap.size w wr) (fun _ _ x _ => fullN n + 1 - (intOf x).toNat)
  case atStart => exact ⟨0, 0, [], rfl, by omega, rfl, HM.out, (Below.refl _ _).alloc (Nat.le_refl _) _⟩
  case round =>
    obtain ⟨k, N, l, rfl, hk, rfl, hm, hbel⟩ := hrel
    have HB := Lib.hid hbel
    have HMP := Lib.hid hm
    have hkz : (k : Int) ≤ 256 := by omega
    have hsz := hm.lt
    by_cases hlt : k < fullN n + 1
    · have hltz : (k : Int) < (fullN n : Int) + 1 := by omega
      have hcl := clsN_le n k
      have hcz : (clsN n k : Int) ≤ 256 := by omega
      have HK : Hid (k ≤ fullN n) := Lib.hid (by omega)
      clear hcl hbel hm
      by_cases he : leastW n k = k
      · have HN := Lib.hid (clsN_yes he)
        have HE := Lib.hid he
        clear he
        go_wp2_with fail
        refine (Tab.table n k (by omega) _).mono ?_
        rintro e w2 ⟨rfl, hb2⟩
        have HM2 := Lib.hid (HMP.out.below hb2)
        have HB2 := Lib.hid (bstep HB.out hb2)
        have hs2 := hb2.size
        clear hb2
        go_wp2_with fail
        refine (Map.count n k w.heap.size N l (by have := H.out; omega) HK.out _ HM2.out).mono ?_
        rintro e w3 ⟨rfl, hm3, hg3⟩
        have HM3 := Lib.hid hm3
        have HB3 := Lib.hid (HB2.out.grown hg3 (by omega) (fun j hj => by cases hj; exact Nat.le_refl _))
        clear hm3 hg3
        go_wp2_with fail
        refine (Map.least n (by have := H.out; omega) w.heap.size _ _ (fun x hx => ways_full n k x hx) _ HM3.out).mono ?_
        rintro e w4 ⟨⟨z, rfl, hz1, hz2, hz3⟩, hb4⟩
        obtain rfl := least_is (by have := H.out; omega) HK.out hz2 hz3
        rw [HE.out]
        have HM4 := Lib.hid (HM3.out.below hb4)
        have HB4 := Lib.hid (bstep HB3.out hb4)
        clear hz1 hz2 hz3 hb4
        go_wp2
        go_roundw
        case rel => exact ⟨k + 1, _, _, by go_num, by have := HK.out; omega, by rw [HN.out]; go_num, HM4.out, HB4.out⟩
        case measure => simp [intOf] <;> omega
      · have HN := Lib.hid (clsN_no he)
        have hne : (((leastW n k : Nat) : Int) == (k : Int)) = false := by rw [beq_eq_false_iff_ne]; omega
        have hlz : ((leastW n k : Nat) : Int) ≤ 255 := by have := least_full n k HK.out; omega
        clear he
        go_wp2_with fail
        refine (Tab.table n k (by omega) _).mono ?_
        rintro e w2 ⟨rfl, hb2⟩
        have HM2 := Lib.hid (HMP.out.below hb2)
        have HB2 := Lib.hid (bstep HB.out hb2)
        have hs2 := hb2.size
        clear hb2
        go_wp2_with fail
        refine (Map.count n k w.heap.size N l (by have := H.out; omega) HK.out _ HM2.out).mono ?_
        rintro e w3 ⟨rfl, hm3, hg3⟩
        have HM3 := Lib.hid hm3
        have HB3 := Lib.hid (HB2.out.grown hg3 (by omega) (fun j hj => by cases hj; exact Nat.le_refl _))
        clear hm3 hg3
        go_wp2_with fail
        refine (Map.least n (by have := H.out; omega) w.heap.size _ _ (fun x hx => ways_full n k x hx) _ HM3.out).mono ?_
        rintro e w4 ⟨⟨z, rfl, hz1, hz2, hz3⟩, hb4⟩
        obtain rfl := least_is (by have := H.out; omega) HK.out hz2 hz3
        have HM4 := Lib.hid (HM3.out.below hb4)
        have HB4 := Lib.hid (bstep HB3.out hb4)
        clear hz1 hz2 hz3 hb4
        go_wp2
        go_roundw
        case rel => exact ⟨k + 1, _, _, by go_num, by have := HK.out; omega, by rw [HN.out], HM4.out, HB4.out⟩
        case measure => simp [intOf] <;> omega
    · have HE : Hid (k = fullN n + 1) := Lib.hid (by omega)
      have hgt : (fullN n : Int) + 1 ≤ (k : Int) := by omega
      clear hbel hm
      go_wp2
      go_ret
      exact ⟨by rw [← HE.out]; rfl, HB.out⟩
theorem Cls.ctcI (n : Int) (w : World) :
    Calls Try.prog 31 #[.int .i64 n] w fun e w' => e = .returned (.int .i64 (ctcT n)) ∧ Below w.heap.size w w' := by
  by_cases h : 0 ≤ n ∧ n ≤ 3
  · obtain ⟨m, rfl⟩ := Int.eq_ofNat_of_zero_le h.1
    have hm : m ≤ 3 := by have := h.2; omega
    have := Cls.ctcI_yes m hm w
    rw [← ctcT_yes hm] at this
    exact this
  · rw [ctcT_no h]; exact Cls.ctcI_no n h w

end Go.Proofs.Ythdcjldmafhcjaa
