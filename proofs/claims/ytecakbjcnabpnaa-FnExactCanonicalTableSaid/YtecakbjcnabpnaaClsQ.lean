/-
  AreAlike and CountTableClasses of the program; all functions of classes of the model.
-/
import Derived.Test.YtecakbjcnabpnaaClsX
import Derived.Test.YtecakbjcnabpnaaClsZ
namespace Go.Proofs.Ytecakbjcnabpnaa
open Go.RowKit Plain
set_option linter.unusedVariables false
attribute [local go_sem ↓] Go.wp_at_zero Go.wp_at_succ

/-! The model -/
theorem Cls.symM_no (n a : Int) (h : clsB n a = false) (w : World) :
    Calls Try.prog 52 #[.agg #[.int .i64 n, .int .i64 a]] w fun e w' => e = .returned (.int .i64 (-1)) ∧ Below w.heap.size w w' := by
  have H := Lib.hid h
  clear h
  cases ht : isT n a with
  | false =>
    have HT := Lib.hid ht
    clear ht
    go_enter Try.func52, Try.ntmps52
    go_wp2_with fail
    refine (Tab.model _ _ _).mono ?_
    rintro e w1 ⟨rfl, hb1⟩
    rw [HT.out]
    go_wp2
    go_ret
    exact ⟨rfl, bB hb1 (by simp) ((Below.refl _ _).alloc (Nat.le_refl _) _)⟩
  | true =>
    have hn : 4 < n := by
      have := H.out
      unfold clsB at this
      rw [ht] at this
      simp at this
      omega
    have HT := Lib.hid ht
    clear ht
    go_enter Try.func52, Try.ntmps52
    go_wp2_with fail
    refine (Tab.model _ _ _).mono ?_
    rintro e w1 ⟨rfl, hb1⟩
    have k0 : w1.cell? ⟨w.heap.size, 0, none⟩ = some (.int .i64 n) := keepB hb1 (keepN rfl rfl)
    rw [HT.out]
    go_wp2
    go_ret
    exact ⟨rfl, bB hb1 (by simp) ((Below.refl _ _).alloc (Nat.le_refl _) _)⟩

theorem Cls.symM_yes (n a : Nat) (hn : n ≤ 4) (ha : a ≤ fullN n) (ht : isT n a = true) (w : World) :
    Calls Try.prog 52 #[.agg #[.int .i64 n, .int .i64 a]] w fun e w' => e = .returned (.int .i64 (symT n a)) ∧ Below w.heap.size w w' := by
  have HN := Lib.hid hn
  have hnz : (n : Int) ≤ 4 := by omega
  have HA := Lib.hid ha
  have HS := Lib.hid (symT_yes ht hn)
  have HT := Lib.hid ht
  clear hn ha ht
  go_enter Try.func52, Try.ntmps52
  go_wp2_with fail
  refine (Tab.model _ _ _).mono ?_
  rintro e w1 ⟨rfl, hb1⟩
  have k0 : w1.cell? ⟨w.heap.size, 0, none⟩ = some (.int .i64 n) := keepB hb1 (keepN rfl rfl)
  have k1 : w1.cell? ⟨w.heap.size, 1, none⟩ = some (.int .i64 a) := keepB hb1 (keepN rfl rfl)
  have HB1 := Lib.hid (bB hb1 (by simp) ((Below.refl w.heap.size w).alloc (Nat.le_refl _) (.cells #[.int .i64 (n : Int), .int .i64 (a : Int)] 25)))
  clear hb1
  rw [HT.out]
  go_wp2_with fail
  refine (Cls.leastM n a HN.out HA.out _).mono ?_
  rintro e w2 ⟨rfl, hb2⟩
  go_wp2
  go_ret
  exact ⟨by rw [HS.out]; rfl, bB hb2 HB1.out.size HB1.out⟩

theorem Cls.canM_no (n a : Int) (h : clsB n a = false) (w : World) :
    Calls Try.prog 37 #[.agg #[.int .i64 n, .int .i64 a]] w fun e w' => e = .returned (.tuple #[.agg #[.int .i64 0, .int .i64 0], .bool false]) ∧ Below w.heap.size w w' := by
  have H := Lib.hid h
  clear h
  cases ht : isT n a with
  | false =>
    have HT := Lib.hid ht
    clear ht
    go_enter Try.func37, Try.ntmps37
    go_wp2_with fail
    refine (Tab.model _ _ _).mono ?_
    rintro e w1 ⟨rfl, hb1⟩
    obtain ⟨hc1, hf1⟩ := bcell hb1
    have hz : w.heap.size + 1 < w1.heap.size := by have := hb1.size; simp at this; omega
    rw [HT.out]
    go_wp2
    exact bodyPost_ret (v := .tuple #[.agg #[.int .i64 0, .int .i64 0], .bool false]) (by simp [results, Try.results37, go_sem, hc1]) rfl ⟨rfl, by exact (((((Below.refl _ _).alloc (Nat.le_refl _) _).alloc (by simp) _).trans (hb1.mono (by simp; omega))).setCell (by simp) _).setCell (by simp) _⟩
  | true =>
    have hn : 4 < n := by
      have := H.out
      unfold clsB at this
      rw [ht] at this
      simp at this
      omega
    have HT := Lib.hid ht
    clear ht
    go_enter Try.func37, Try.ntmps37
    go_wp2_with fail
    refine (Tab.model _ _ _).mono ?_
    rintro e w1 ⟨rfl, hb1⟩
    obtain ⟨hc1, hf1⟩ := bcell hb1
    have hz : w.heap.size + 1 < w1.heap.size := by have := hb1.size; simp at this; omega
    have k0 : w1.cell? ⟨w.heap.size, 0, none⟩ = some (.int .i64 n) := keepB hb1 (keepA (keepN rfl rfl))
    rw [HT.out]
    go_wp2
    exact bodyPost_ret (v := .tuple #[.agg #[.int .i64 0, .int .i64 0], .bool false]) (by simp [results, Try.results37, go_sem, hc1]) rfl ⟨rfl, by exact (((((Below.refl _ _).alloc (Nat.le_refl _) _).alloc (by simp) _).trans (hb1.mono (by simp; omega))).setCell (by simp) _).setCell (by simp) _⟩

theorem Cls.canM_yes (n a : Nat) (hn : n ≤ 4) (ha : a ≤ fullN n) (ht : isT n a = true) (w : World) :
    Calls Try.prog 37 #[.agg #[.int .i64 n, .int .i64 a]] w fun e w' => e = .returned (.tuple #[.agg #[.int .i64 n, .int .i64 (leastW n a : Int)], .bool true]) ∧ Below w.heap.size w w' := by
  have HN := Lib.hid hn
  have hnz : (n : Int) ≤ 4 := by omega
  have HA := Lib.hid ha
  have HT := Lib.hid ht
  clear hn ha ht
  go_enter Try.func37, Try.ntmps37
  go_wp2_with fail
  refine (Tab.model _ _ _).mono ?_
  rintro e w1 ⟨rfl, hb1⟩
  have k0 : w1.cell? ⟨w.heap.size, 0, none⟩ = some (.int .i64 n) := keepB hb1 (keepA (keepN rfl rfl))
  have k1 : w1.cell? ⟨w.heap.size, 1, none⟩ = some (.int .i64 a) := keepB hb1 (keepA (keepN rfl rfl))
  have z0 : w1.cell? ⟨w.heap.size + 1, 0, none⟩ = some (.int .i64 0) := keepB hb1 (keepN (by simp) rfl)
  have z1 : w1.cell? ⟨w.heap.size + 1, 1, none⟩ = some (.int .i64 0) := keepB hb1 (keepN (by simp) rfl)
  have hsz : w.heap.size + 1 < w1.heap.size := by have := hb1.size; simp at this; omega
  have HB1 := Lib.hid (bB hb1 (by simp; omega) (((Below.refl w.heap.size w).alloc (Nat.le_refl _) (.cells #[.int .i64 (n : Int), .int .i64 (a : Int)] 25)).alloc (by simp) (.cells #[.int .i64 0, .int .i64 0] 25)))
  have g0 : w1.frozen? ⟨w.heap.size + 1, 0, none⟩ = false := keepF hb1 (by simp) (frozen_of_row _ _ 0 _ _ (heap_alloc2_new w _ _))
  have g1 : w1.frozen? ⟨w.heap.size + 1, 1, none⟩ = false := keepF hb1 (by simp) (frozen_of_row _ _ 1 _ _ (heap_alloc2_new w _ _))
  clear hb1
  rw [HT.out]
  go_wp2_with fail
  refine (Cls.leastM n a HN.out HA.out _).mono ?_
  rintro e w2 ⟨rfl, hb2⟩
  have m0 := keepB hb2 k0
  have y0 := keepB hb2 z0
  have y1 := keepB hb2 z1
  have f0 := keepF hb2 hsz g0
  have f1 := keepF hb2 hsz g1
  have hs2 : w.heap.size + 1 < w2.heap.size := Nat.lt_of_lt_of_le hsz hb2.size
  go_wp2
  obtain ⟨r0, r1⟩ := keepT (u := .int .i64 (n : Int)) (v := .int .i64 (leastW n a : Int)) y0 y1
  exact bodyPost_ret (v := .tuple #[.agg #[.int .i64 n, .int .i64 (leastW n a : Int)], .bool true]) (by simp [results, Try.results37, go_sem, r0, r1]) rfl ⟨rfl, bS (by simp) (bS (by simp) (bB hb2 (by omega) HB1.out))⟩

theorem Cls.symM (n a : Int) (w : World) :
    Calls Try.prog 52 #[.agg #[.int .i64 n, .int .i64 a]] w fun e w' => e = .returned (.int .i64 (symT n a)) ∧ Below w.heap.size w w' := by
  cases h : clsB n a with
  | true =>
    obtain ⟨m, c, rfl, rfl, hm, hc, ht⟩ := clsB_yes h
    exact Cls.symM_yes m c hm hc ht w
  | false => rw [symT_no (clsB_no h)]; exact Cls.symM_no n a h w

theorem Cls.canM (n a : Int) (w : World) :
    Calls Try.prog 37 #[.agg #[.int .i64 n, .int .i64 a]] w fun e w' => e = .returned (.tuple #[.agg #[.int .i64 (canT n a).1, .int .i64 (canT n a).2.1], .bool (canT n a).2.2]) ∧ Below w.heap.size w w' := by
  cases h : clsB n a with
  | true =>
    obtain ⟨m, c, rfl, rfl, hm, hc, ht⟩ := clsB_yes h
    rw [canT_yes ht hm]
    exact Cls.canM_yes m c hm hc ht w
  | false => rw [canT_no (clsB_no h)]; exact Cls.canM_no n a h w

/-! AreAlike -/
def Plain.aliT (n a m c : Int) : Bool := (canT n a).2.2 && ((canT m c).2.2 && (((canT n a).1 == (canT m c).1) && ((canT n a).2.1 == (canT m c).2.1)))

theorem Cls.alM_of (n a m c p x q y : Int) (c0 c1 c2 : Bool) (hc : c2 = (c0 && (c1 && ((p == q) && (x == y))))) 
    (h0 : canT n a = (p, x, c0)) (h1 : canT m c = (q, y, c1)) (w : World) :
    Calls Try.prog 41 #[.agg #[.int .i64 n, .int .i64 a], .agg #[.int .i64 m, .int .i64 c]] w fun e w' => e = .returned (.bool c2) ∧ Below w.heap.size w w' := by
  have H0 := fun w => Cls.canM n a  w
  have H1 := fun w => Cls.canM m c  w
  rw [h0] at H0
  rw [h1] at H1
  have HH0 := Lib.hid H0
  have HH1 := Lib.hid H1
  have HC := Lib.hid hc
  clear H0 H1 h0 h1  hc
  cases c0 <;> cases c1 <;> by_cases hpq : p = q <;> by_cases hxy : x = y
  all_goals
    first | subst hpq | have hne1 : (p == q) = false := by rw [beq_eq_false_iff_ne]; exact hpq
    first | subst hxy | have hne2 : (x == y) = false := by rw [beq_eq_false_iff_ne]; exact hxy
    go_enter Try.func41, Try.ntmps41
    go_wp2_with fail
    refine (HH0.out _).mono ?_
    rintro e w1 ⟨rfl, hb1⟩
    obtain ⟨hc1, hf1⟩ := bcell hb1
    have hz1 : w.heap.size + 1 < w1.heap.size := by have := hb1.size; simp at this; omega
    go_wp2_with fail
    refine (HH1.out _).mono ?_
    rintro e w2 ⟨rfl, hb2⟩
    obtain ⟨hc2, hf2⟩ := bcell hb2
    have hz2 : w1.heap.size < w2.heap.size := by have := hb2.size; simp at this; omega
    go_wp2
    go_ret
    exact ⟨by first | (rw [HC.out]; rfl) | (rw [HC.out]; simp; done) | (rw [HC.out]; simp [hne1]; done) | (rw [HC.out]; simp [hne2]; done) | (refine ret_bool ?_; rw [HC.out]; simp; done), bA (by first | omega | (simp; done) | (simp; omega)) (bB hb2 (by first | omega | (simp; done) | (simp; omega)) (bA (by first | omega | (simp; done) | (simp; omega)) (bB hb1 (by first | omega | (simp; done) | (simp; omega)) (bA (by simp) ((Below.refl _ _).alloc (Nat.le_refl _) _)))))⟩

theorem Cls.alI_of (n a m c p x q y : Int) (c0 c1 c2 : Bool) (hc : c2 = (c0 && (c1 && ((p == q) && (x == y))))) (hb : -9223372036854775808 ≤ a ∧ a ≤ 9223372036854775807) (hd : -9223372036854775808 ≤ c ∧ c ≤ 9223372036854775807)
    (h0 : canT n a = (p, x, c0)) (h1 : canT m c = (q, y, c1)) (w : World) :
    Calls Try.prog 42 #[.agg #[.int .i64 n, .int .i64 a], .agg #[.int .i64 m, .int .i64 c]] w fun e w' => e = .returned (.bool c2) ∧ Below w.heap.size w w' := by
  have H0 := fun w => Cls.canI n a hb w
  have H1 := fun w => Cls.canI m c hd w
  rw [h0] at H0
  rw [h1] at H1
  have HH0 := Lib.hid H0
  have HH1 := Lib.hid H1
  have HC := Lib.hid hc
  clear H0 H1 h0 h1 hb hd hc
  cases c0 <;> cases c1 <;> by_cases hpq : p = q <;> by_cases hxy : x = y
  all_goals
    first | subst hpq | have hne1 : (p == q) = false := by rw [beq_eq_false_iff_ne]; exact hpq
    first | subst hxy | have hne2 : (x == y) = false := by rw [beq_eq_false_iff_ne]; exact hxy
    go_enter Try.func42, Try.ntmps42
    go_wp2_with fail
    refine (HH0.out _).mono ?_
    rintro e w1 ⟨rfl, hb1⟩
    obtain ⟨hc1, hf1⟩ := bcell hb1
    have hz1 : w.heap.size + 1 < w1.heap.size := by have := hb1.size; simp at this; omega
    go_wp2_with fail
    refine (HH1.out _).mono ?_
    rintro e w2 ⟨rfl, hb2⟩
    obtain ⟨hc2, hf2⟩ := bcell hb2
    have hz2 : w1.heap.size < w2.heap.size := by have := hb2.size; simp at this; omega
    go_wp2
    go_ret
    exact ⟨by first | (rw [HC.out]; rfl) | (rw [HC.out]; simp; done) | (rw [HC.out]; simp [hne1]; done) | (rw [HC.out]; simp [hne2]; done) | (refine ret_bool ?_; rw [HC.out]; simp; done), bA (by first | omega | (simp; done) | (simp; omega)) (bB hb2 (by first | omega | (simp; done) | (simp; omega)) (bA (by first | omega | (simp; done) | (simp; omega)) (bB hb1 (by first | omega | (simp; done) | (simp; omega)) (bA (by simp) ((Below.refl _ _).alloc (Nat.le_refl _) _)))))⟩

theorem Cls.alM (n a m c : Int) (w : World) :
    Calls Try.prog 41 #[.agg #[.int .i64 n, .int .i64 a], .agg #[.int .i64 m, .int .i64 c]] w fun e w' => e = .returned (.bool (aliT n a m c)) ∧ Below w.heap.size w w' :=
  Cls.alM_of n a m c _ _ _ _ _ _ _ rfl rfl rfl w

theorem Cls.alI (n a m c : Int) (hb : -9223372036854775808 ≤ a ∧ a ≤ 9223372036854775807) (hd : -9223372036854775808 ≤ c ∧ c ≤ 9223372036854775807) (w : World) :
    Calls Try.prog 42 #[.agg #[.int .i64 n, .int .i64 a], .agg #[.int .i64 m, .int .i64 c]] w fun e w' => e = .returned (.bool (aliT n a m c)) ∧ Below w.heap.size w w' :=
  Cls.alI_of n a m c _ _ _ _ _ _ _ rfl hb hd rfl rfl w
end Go.Proofs.Ytecakbjcnabpnaa
