/-
  Chapter 11, the program: AnfOf; degreeOf; DegreeMod2, RealDegree.
-/
import Derived.Test.YtphjaggiddjhgaaDoorDegJ
import Derived.Test.YtphjaggiddjhgaaDoorSetS
namespace Go.Proofs.YtphjaggiddjhgaaDoor
open Go.RowKit Plain
set_option linter.unusedVariables false

theorem and1_small : ∀ j < 65, Go.bits .and .i64 (((j : Nat) : Int) - 32) 1 = (((j : Nat) : Int) - 32) % 2 := by decide +kernel
theorem and1_int {z : Int} (h : -32 ≤ z ∧ z ≤ 32) : Go.bits .and .i64 z 1 = z % 2 := by
  have := and1_small (z + 32).toNat (by omega)
  rwa [show (((z + 32).toNat : Nat) : Int) - 32 = z by omega] at this

theorem Clo.anf (b g cap a x N : Nat) (hx : (x : Int) < (N : Int)) (hb : -32 ≤ reZ a x ∧ reZ a x ≤ 32) (hm : reZ a x % 2 = (anN a x : Int)) (W : World) (hc : W.cell? ⟨b, 0, none⟩ = some (.slice (some ⟨g, 0, none⟩) N cap)) (hr : W.cell? ⟨g, x, none⟩ = some (.int .i64 (reZ a x))) :
    Calls Tryd.prog 40 #[.int .i64 x, .pointer (some ⟨b, 0, none⟩)] W fun e w' => e = .returned (.int .i64 (anN a x : Int)) ∧ W = w' := by
  have H := Lib.hid (and1_int hb)
  have HM := Lib.hid hm
  generalize reZ a x = z at *
  clear hm
  go_enter Tryd.func40, Tryd.ntmps40
  go_wp2
  go_ret
  exact ⟨ret_int (by rw [H.out, HM.out]), rfl⟩

/-- What AnfOf answers. -/
def Plain.anfT (n a : Int) : Int × Int × Bool := if isT n a = true then (n, (anW n.toNat a.toNat : Int), true) else (0, 0, false)
theorem anfT_yes {n a : Nat} (h : isT n a = true) : anfT n a = ((n : Int), (anW n a : Int), true) := if_pos h
theorem anfT_no {n a : Int} (h : isT n a = false) : anfT n a = (0, 0, false) := if_neg (by rw [h]; decide)

theorem Anf.impl_no (n a : Int) (hb : -9223372036854775808 ≤ a ∧ a ≤ 9223372036854775807) (ht : isT n a = false) (w : World) :
    Calls Tryd.prog 29 #[.agg #[.int .i64 n, .int .i64 a]] w fun e w' => e = .returned (.tuple #[.agg #[.int .i64 0, .int .i64 0], .bool false]) ∧ Below w.heap.size w w' := by
  have H := Lib.hid ht
  clear ht
  go_enter Tryd.func29, Tryd.ntmps29
  go_wp2_with fail
  refine (Tab.impl _ _ hb _).mono ?_
  rintro e w1 ⟨rfl, hb1⟩
  rw [H.out]
  obtain ⟨hc1, hf1⟩ := bcell hb1
  have hz1 : w.heap.size + 1 < w1.heap.size := by have := hb1.size; simp at this; omega
  go_wp2_with fail
  exact bodyPost_ret (v := .tuple #[.agg #[.int .i64 0, .int .i64 0], .bool false]) (by simp [results, Tryd.results29, go_sem, hc1]) rfl ⟨rfl, bS (by simp) (bS (by simp) ((((Below.refl _ _).alloc (Nat.le_refl _) _).alloc (by simp) _).trans (hb1.mono (by simp; omega))))⟩

set_option maxRecDepth 100000 in
set_option maxHeartbeats 1000000 in
theorem Anf.impl_yes (n a : Nat) (hn : n ≤ 5) (ha : (a : Int) ≤ 4294967295) (ht : isT n a = true) (w : World) :
    Calls Tryd.prog 29 #[.agg #[.int .i64 n, .int .i64 a]] w fun e w' => e = .returned (.tuple #[.agg #[.int .i64 n, .int .i64 (anW n a : Int)], .bool true]) ∧ Below w.heap.size w w' := by
  have H := Lib.hid ht
  have HR := Lib.hid (Rec.impl_yes n a hn ha ht)
  have hN1 : 1 ≤ 2 ^ n := Nat.one_le_two_pow
  have HN := Lib.hid hn
  rw [recT_yes ht] at HR
  clear ht
  go_enter Tryd.func29, Tryd.ntmps29
  go_wp2_with fail
  refine (Tab.impl _ _ (by omega) _).mono ?_
  rintro e w1 ⟨rfl, hb1⟩
  rw [H.out]
  obtain ⟨hc1, hf1⟩ := bcell hb1
  have hz1 : w.heap.size + 1 < w1.heap.size := by have := hb1.size; simp at this; omega
  have hy1 : w.heap.size < w1.heap.size := by omega
  go_wp2_with fail
  refine (HR.out _).mono ?_
  rintro e w2 ⟨v, rfl, hrow, hb2⟩
  have hz2 := hb2.size
  obtain ⟨hc2, hf2⟩ := bcell hb2
  have HB2 := Lib.hid ((((Below.refl w.heap.size w).alloc (Nat.le_refl _) (.cells #[.int .i64 n, .int .i64 a] 23)).alloc (by simp) (.cells #[.int .i64 0, .int .i64 0] 23)).trans ((hb1.mono (by simp; omega)).trans (hb2.mono (by omega))))
  have hy2 : w.heap.size < w2.heap.size := by omega
  have hx2 : w.heap.size + 1 < w2.heap.size := by omega
  obtain ⟨g, cap, rfl, hg1, hg2⟩ : ∃ g cap, v = .slice (some ⟨g, 0, none⟩) (2 ^ n) cap ∧ w1.heap.size ≤ g ∧ g < w2.heap.size := by
    rcases hrow.shape with ⟨rfl, hnil⟩ | ⟨g, cap, rfl, h1, h2⟩
    · have := reL_len a (2 ^ n); rw [hnil] at this; simp at this; omega
    · exact ⟨g, cap, by rw [reL_len], h1, h2⟩
  have HCL : Hid (∀ x, x < 2 ^ n → w2.cell? ⟨g, x, none⟩ = some (.int .i64 (reZ a x))) := Lib.hid (fun x hx => by
    have := IntRow.cell (w := w2) (B := w1.heap.size) (g := g) (cap := cap) (l := reL a (2 ^ n)) (by rw [reL_len]; exact hrow) x (by rw [reL_len]; exact hx)
    rwa [reL_at hx] at this)
  clear hb1 hb2 hrow
  go_wp2_with fail
  refine (Tab.from_any n HN.out (anN a) 40 #[.pointer (some ⟨w2.heap.size, 0, none⟩)] (enters_of Tryd.func40 (by kernel_rfl) rfl) _ ?gv).mono ?_
  case gv =>
    intro W x hx hb
    refine (Clo.anf w2.heap.size g cap a x (2 ^ n) (by omega) (reZ_bound HN.out hx) (reZ_mod HN.out hx) W (cellOn hb (by simp)) (cellOn hb ?_)).mono fun e w' h => ⟨h.1, h.2 ▸ Below.refl _ _⟩
    first | exact keepA (HCL.out x hx) | exact keepS (by simp; omega) (keepA (HCL.out x hx))
  rintro e w3 ⟨rfl, hb3⟩
  obtain ⟨hc3, hf3⟩ := bcell hb3
  have hz3 : w2.heap.size < w3.heap.size := by have := hb3.size; simp at this; omega
  have hy3 : w.heap.size < w2.heap.size + 1 := by omega
  have hx3 : w.heap.size + 1 < w2.heap.size + 1 := by omega
  have hx4 : w.heap.size + 1 < w3.heap.size := by omega
  go_wp2_with fail
  exact bodyPost_ret (v := .tuple #[.agg #[.int .i64 n, .int .i64 (anW n a : Int)], .bool true]) (by simp [results, Tryd.results29, go_sem, hc3, hc2, hc1, hx3, hx2, hz1, anW]) rfl ⟨rfl, bS (by simp) (bS (by simp) ((bA (by omega) HB2.out).trans (hb3.mono (by simp; omega))))⟩

/-- AnfOf of the program. -/
theorem Anf.impl (n a : Int) (hb : -9223372036854775808 ≤ a ∧ a ≤ 9223372036854775807) (w : World) :
    Calls Tryd.prog 29 #[.agg #[.int .i64 n, .int .i64 a]] w fun e w' => e = .returned (.tuple #[.agg #[.int .i64 (anfT n a).1, .int .i64 (anfT n a).2.1], .bool (anfT n a).2.2]) ∧ Below w.heap.size w w' := by
  cases ht : isT n a with
  | false => rw [anfT_no ht]; exact Anf.impl_no n a hb ht w
  | true =>
    obtain ⟨n, a, rfl, rfl, hn, ha⟩ := isT_nat ht
    rw [anfT_yes ht]
    exact Anf.impl_yes n a hn (by have := fullN_le n hn; omega) ht w

/-! Degrees. -/
def Plain.degN (p : Nat → Bool) : Nat → Int
  | 0 => -1
  | k + 1 => if p k = true then max (degN p k) (popN k : Int) else degN p k
theorem degN_yes {p : Nat → Bool} {k : Nat} (h : p k = true) : degN p (k + 1) = max (degN p k) (popN k : Int) := if_pos h
theorem degN_no {p : Nat → Bool} {k : Nat} (h : p k = false) : degN p (k + 1) = degN p k := if_neg (by rw [h]; decide)
theorem degN_bound (p : Nat → Bool) (k : Nat) : k ≤ 32 → -1 ≤ degN p k ∧ degN p k ≤ 5 := by
  induction k with
  | zero => intro _; show (-1 : Int) ≤ -1 ∧ (-1 : Int) ≤ 5; decide
  | succ k ih =>
    intro hk
    have := ih (by omega)
    have h5 := popN_le 5 k (by omega)
    cases h : p k with
    | false => rw [degN_no h]; exact this
    | true => rw [degN_yes h]; omega
theorem degN_congr {p q : Nat → Bool} {k : Nat} (h : ∀ x, x < k → p x = q x) : degN p k = degN q k := by
  induction k with
  | zero => rfl
  | succ k ih =>
    have e := ih fun x hx => h x (by omega)
    have ek := h k (by omega)
    cases hq : q k with
    | false => rw [degN_no hq, degN_no (by rw [ek, hq]), e]
    | true => rw [degN_yes hq, degN_yes (by rw [ek, hq]), e]

def Plain.reP (a x : Nat) : Bool := decide (reZ a x ≠ 0)
/-- What DegreeMod2 and RealDegree answer. -/
def Plain.dmT (n a : Int) : Int := if isT n a = true then degN (anP a.toNat) (2 ^ n.toNat) else -2
def Plain.rdT (n a : Int) : Int := if isT n a = true then degN (reP a.toNat) (2 ^ n.toNat) else -2
theorem dmT_yes {n a : Nat} (h : isT n a = true) : dmT n a = degN (anP a) (2 ^ n) := if_pos h
theorem dmT_no {n a : Int} (h : isT n a = false) : dmT n a = -2 := if_neg (by rw [h]; decide)
theorem rdT_yes {n a : Nat} (h : isT n a = true) : rdT n a = degN (reP a) (2 ^ n) := if_pos h
theorem rdT_no {n a : Int} (h : isT n a = false) : rdT n a = -2 := if_neg (by rw [h]; decide)

end Go.Proofs.YtphjaggiddjhgaaDoor
