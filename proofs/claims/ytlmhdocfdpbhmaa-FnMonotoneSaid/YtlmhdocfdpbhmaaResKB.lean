/-
  CubeValue of the program and of its model.
  CubeValue of the program and of its model, at every argument.
-/
import Derived.Test.YtlmhdocfdpbhmaaResE

namespace Go.Proofs.Ytlmhdocfdpbhmaa
open Go.RowKit Plain
set_option linter.unusedVariables false

/-- Do two of the first k inputs that agree with v on m have another value than v? -/
def Plain.cubX (a m v : Nat) : Nat → Bool
  | 0 => false
  | k + 1 => cubX a m v k || (decide (k &&& m = v) && decide (bitN a k ≠ bitN a v))
theorem cubX_iff (a m v k : Nat) : cubX a m v k = true ↔ ∃ x, x < k ∧ x &&& m = v ∧ bitN a x ≠ bitN a v := by
  induction k with
  | zero => simp [cubX]
  | succ k ih =>
    show ((cubX a m v k || (decide (k &&& m = v) && decide (bitN a k ≠ bitN a v))) = true) ↔ _
    rw [Bool.or_eq_true, ih, Bool.and_eq_true, decide_eq_true_iff, decide_eq_true_iff]
    constructor
    · rintro (⟨x, h1, h2⟩ | h)
      · exact ⟨x, by omega, h2⟩
      · exact ⟨k, by omega, h⟩
    · rintro ⟨x, h1, h2⟩
      rcases (show x < k ∨ x = k by omega) with h4 | rfl
      · exact .inl ⟨x, h4, h2⟩
      · exact .inr h2
theorem cubX_hit {a m v k n : Nat} (hk : k < n) (h1 : k &&& m = v) (h2 : bitN a k ≠ bitN a v) : cubX a m v n = true := (cubX_iff a m v n).2 ⟨k, hk, h1, h2⟩
theorem cubX_miss {a m v k : Nat} (h : cubX a m v k = false) (h2 : ¬ (k &&& m = v ∧ bitN a k ≠ bitN a v)) : cubX a m v (k + 1) = false := by
  show (cubX a m v k || (decide (k &&& m = v) && decide (bitN a k ≠ bitN a v))) = false
  rw [h, Bool.false_or]
  simpa [Bool.and_eq_false_iff] using h2
/-- What CubeValue answers. -/
def Plain.cubV (n a m v : Nat) : Int := if cubX a m v (2 ^ n) = true then 2 else (bitN a v : Int)
theorem cubV_mixed {n a m v : Nat} (h : cubX a m v (2 ^ n) = true) : cubV n a m v = 2 := if_pos h
theorem cubV_same {n a m v : Nat} (h : cubX a m v (2 ^ n) = false) : cubV n a m v = (bitN a v : Int) := if_neg (by rw [h]; decide)
def Plain.cubOk (n a m v : Int) : Prop := isT n a = true ∧ (0 ≤ m ∧ m < 2 ^ n.toNat) ∧ 0 ≤ v ∧ v.toNat &&& m.toNat = v.toNat
instance (n a m v : Int) : Decidable (cubOk n a m v) := inferInstanceAs (Decidable (_ ∧ _ ∧ _ ∧ _))
def Plain.cubT (n a m v : Int) : Int := if cubOk n a m v then cubV n.toNat a.toNat m.toNat v.toNat else -1
theorem cubT_yes {n a m v : Nat} (ht : isT n a = true) (hm : (m : Int) < 2 ^ n) (hv : v &&& m = v) : cubT n a m v = cubV n a m v := by
  unfold cubT; rw [if_pos ⟨ht, ⟨by omega, hm⟩, by omega, hv⟩]; rfl
theorem cubT_no {n a m v : Int} (h : ¬ cubOk n a m v) : cubT n a m v = -1 := if_neg h

/-- The model's loop: what 'out' is behind y inputs. -/
def Plain.seenS (a m v : Nat) (o : Int) (y : Nat) : Prop :=
  (o = -1 ∧ ∀ x, x < y → x &&& m ≠ v) ∨ ∃ x0, x0 < y ∧ x0 &&& m = v ∧ o = (bitN a x0 : Int) ∧ ∀ x, x < y → x &&& m = v → bitN a x = bitN a x0
theorem seen_skip {a m v y : Nat} {o : Int} (h : seenS a m v o y) (hs : y &&& m ≠ v) : seenS a m v o (y + 1) := by
  rcases h with ⟨rfl, h⟩ | ⟨x0, h1, h2, h3, h4⟩
  · refine .inl ⟨rfl, fun x hx => ?_⟩
    rcases (show x < y ∨ x = y by omega) with hh | rfl
    · exact h x hh
    · exact hs
  · refine .inr ⟨x0, by omega, h2, h3, fun x hx he => ?_⟩
    rcases (show x < y ∨ x = y by omega) with hh | rfl
    · exact h4 x hh he
    · exact absurd he hs
theorem seen_take {a m v y : Nat} {o : Int} (h : seenS a m v o y) (hs : y &&& m = v) (ho : ¬ (0 ≤ o ∧ o ≠ (bitN a y : Int))) : seenS a m v (bitN a y : Int) (y + 1) := by
  rcases h with ⟨rfl, h⟩ | ⟨x0, h1, h2, rfl, h4⟩
  · refine .inr ⟨y, by omega, hs, rfl, fun x hx he => ?_⟩
    rcases (show x < y ∨ x = y by omega) with hh | rfl
    · exact absurd he (h x hh)
    · rfl
  · have e : bitN a x0 = bitN a y := by omega
    refine .inr ⟨y, by omega, hs, rfl, fun x hx he => ?_⟩
    rcases (show x < y ∨ x = y by omega) with hh | rfl
    · rw [h4 x hh he, e]
    · rfl
theorem seen_mixed {n a m v y : Nat} {o : Int} (h : seenS a m v o y) (hy : y < 2 ^ n) (hs : y &&& m = v) (ho : 0 ≤ o) (hne : o ≠ (bitN a y : Int)) : cubV n a m v = 2 := by
  rcases h with ⟨rfl, h⟩ | ⟨x0, h1, h2, rfl, h4⟩
  · omega
  · refine cubV_mixed ?_
    by_cases e : bitN a y = bitN a v
    · exact cubX_hit (k := x0) (by omega) h2 (by omega)
    · exact cubX_hit hy hs e
theorem seen_end {n a m v : Nat} {o : Int} (h : seenS a m v o (2 ^ n)) (hm : m < 2 ^ n) (hv : v &&& m = v) : o = cubV n a m v := by
  have hvm : v ≤ m := by rw [← hv]; exact Nat.and_le_right
  rcases h with ⟨rfl, h⟩ | ⟨x0, h1, h2, rfl, h4⟩
  · exact absurd hv (h v (by omega))
  · have e := h4 v (by omega) hv
    rw [cubV_same, e]
    rw [Bool.eq_false_iff]
    intro hc
    obtain ⟨x, hx, he, hne⟩ := (cubX_iff a m v (2 ^ n)).1 hc
    exact hne ((h4 x hx he).trans e.symm)

theorem notBits (x y : BitVec 64) : x &&& ~~~y = 0#64 ↔ x &&& y = x := by
  constructor
  · intro h
    apply BitVec.eq_of_getLsbD_eq
    intro i hi
    have hh := congrArg (fun z => z.getLsbD i) h
    simp only [BitVec.getLsbD_and, BitVec.getLsbD_not, BitVec.getLsbD_zero, hi, decide_true, Bool.true_and] at hh
    rw [BitVec.getLsbD_and]
    cases hx : x.getLsbD i <;> cases hy : y.getLsbD i <;> simp [hx, hy] at hh ⊢
  · intro h
    apply BitVec.eq_of_getLsbD_eq
    intro i hi
    have hh := congrArg (fun z => z.getLsbD i) h
    simp only [BitVec.getLsbD_and] at hh
    simp only [BitVec.getLsbD_and, BitVec.getLsbD_not, BitVec.getLsbD_zero, hi, decide_true, Bool.true_and]
    cases hx : x.getLsbD i <;> cases hy : y.getLsbD i <;> simp [hx, hy] at hh ⊢
theorem andNot_zero (v : Int) (m : Nat) (hm : (m : Int) ≤ 31) (h1 : -9223372036854775808 ≤ v) (h2 : v ≤ 9223372036854775807) :
    Go.bits .andNot .i64 v (m : Int) = 0 ↔ 0 ≤ v ∧ v.toNat &&& m = v.toNat := by
  have hw : Go.bits .andNot .i64 v (m : Int) = 0 ↔ BitVec.ofInt 64 v &&& ~~~(BitVec.ofInt 64 (m : Int)) = 0#64 := by
    show IntKind.i64.wrap ((BitVec.ofInt 64 v &&& ~~~(BitVec.ofInt 64 (m : Int))).toNat : Int) = 0 ↔ _
    have hlt := (BitVec.ofInt 64 v &&& ~~~(BitVec.ofInt 64 (m : Int))).isLt
    rw [IntKind.wrap_i64, ← BitVec.toNat_inj]
    generalize (BitVec.ofInt 64 v &&& ~~~(BitVec.ofInt 64 (m : Int))).toNat = t at hlt ⊢
    simp only [BitVec.toNat_ofNat]
    omega
  rw [hw, notBits, ← BitVec.toNat_inj, BitVec.toNat_and, up64 m (by omega)]
  by_cases hv : 0 ≤ v
  · obtain ⟨k, rfl⟩ := Int.eq_ofNat_of_zero_le hv
    rw [up64 k (by omega)]
    simp
  · have hx : (BitVec.ofInt 64 v).toNat = (v + 18446744073709551616).toNat := by
      rw [BitVec.toNat_ofInt]
      congr 1
      omega
    rw [hx]
    constructor
    · intro h
      have : (v + 18446744073709551616).toNat ≤ m := by rw [← h]; exact Nat.and_le_right
      omega
    · rintro ⟨h, _⟩; exact absurd h hv

theorem Tab.isCube_no1 (n : Nat) (m v : Int) (hn : n ≤ 5) (hm : ¬ (0 ≤ m ∧ m < 2 ^ n)) (w : World) :
    Calls Try.prog 131 #[.int .i64 n, .int .i64 m, .int .i64 v] w fun e w' => e = .returned (.bool false) ∧ w = w' := by
  have HI := Lib.hid (inpB_no hm)
  have HN := Lib.hid hn
  clear hn hm
  go_enter Try.func131, Try.ntmps131
  go_wp2_with fail
  refine (Tab.input _ _ HN.out _).mono ?_
  rintro e w1 ⟨rfl, rfl⟩
  rw [HI.out]
  go_wp2
  go_ret
  exact ⟨rfl, rfl⟩

theorem Tab.isCube_no2 (n m : Nat) (v : Int) (hn : n ≤ 5) (hm : (m : Int) < 2 ^ n) (hb : -9223372036854775808 ≤ v ∧ v ≤ 9223372036854775807) (hv : ¬ (0 ≤ v ∧ v.toNat &&& m = v.toNat)) (w : World) :
    Calls Try.prog 131 #[.int .i64 n, .int .i64 m, .int .i64 v] w fun e w' => e = .returned (.bool false) ∧ w = w' := by
  have HI := Lib.hid (inpB_yes (n := n) (x := (m : Int)) ⟨by omega, hm⟩)
  have HN := Lib.hid hn
  obtain ⟨hp1, hp2⟩ := two_pow_int n hn
  have hz : (Go.bits .andNot .i64 v (m : Int) == 0) = false := by
    rw [beq_eq_false_iff_ne]
    exact fun h => hv ((andNot_zero v m (by omega) hb.1 hb.2).1 h)
  clear hn hm hv hb hp1 hp2
  go_enter Try.func131, Try.ntmps131
  go_wp2_with fail
  refine (Tab.input _ _ HN.out _).mono ?_
  rintro e w1 ⟨rfl, rfl⟩
  rw [HI.out]
  go_wp2
  go_ret
  exact ⟨rfl, rfl⟩

theorem Tab.isCube_yes (n m v : Nat) (hn : n ≤ 5) (hm : (m : Int) < 2 ^ n) (hv : v &&& m = v) (w : World) :
    Calls Try.prog 131 #[.int .i64 n, .int .i64 m, .int .i64 v] w fun e w' => e = .returned (.bool true) ∧ w = w' := by
  have HI := Lib.hid (inpB_yes (n := n) (x := (m : Int)) ⟨by omega, hm⟩)
  have HN := Lib.hid hn
  obtain ⟨hp1, hp2⟩ := two_pow_int n hn
  have hvm : v ≤ m := by rw [← hv]; exact Nat.and_le_right
  have hz : Go.bits .andNot .i64 (v : Int) (m : Int) = 0 := (andNot_zero v m (by omega) (by omega) (by omega)).2 ⟨by omega, hv⟩
  clear hn hm hv hp1 hp2 hvm
  go_enter Try.func131, Try.ntmps131
  go_wp2_with fail
  refine (Tab.input _ _ HN.out _).mono ?_
  rintro e w1 ⟨rfl, rfl⟩
  rw [HI.out]
  go_wp2
  go_ret
  exact ⟨rfl, rfl⟩

end Go.Proofs.Ytlmhdocfdpbhmaa

namespace Go.Proofs.Ytlmhdocfdpbhmaa
open Go.RowKit Plain
set_option linter.unusedVariables false

theorem Tab.cubI_no1 (n a m v : Int) (h64 : -9223372036854775808 ≤ a ∧ a ≤ 9223372036854775807) (ht : isT n a = false) (w : World) :
    Calls Try.prog 132 #[.agg #[.int .i64 n, .int .i64 a], .int .i64 m, .int .i64 v] w fun e w' => e = .returned (.int .i64 (-1)) ∧ Below w.heap.size w w' := by
  have H := Lib.hid ht
  have HB := Lib.hid h64
  clear ht h64
  go_enter Try.func132, Try.ntmps132
  go_wp2_with fail
  refine (Tab.impl _ _ HB.out _).mono ?_
  rintro e w1 ⟨rfl, hb1⟩
  obtain ⟨hc, hf⟩ := bcell hb1
  have hz0_w1 : w.heap.size < w1.heap.size := by have := hb1.size; simp at this; omega
  rw [H.out]
  go_wp2
  go_ret
  exact ⟨rfl, ((Below.refl _ _).alloc (Nat.le_refl _) _).trans (hb1.mono (by simp <;> omega))⟩

theorem Tab.cubI_no2 (n a : Nat) (ht : isT n a = true) (hn : n ≤ 5) (ha : (a : Int) ≤ 4294967295) (m v : Int) (hm : ¬ (0 ≤ m ∧ m < 2 ^ n)) (w : World) :
    Calls Try.prog 132 #[.agg #[.int .i64 n, .int .i64 a], .int .i64 m, .int .i64 v] w fun e w' => e = .returned (.int .i64 (-1)) ∧ Below w.heap.size w w' := by
  have HC := Lib.hid (Tab.isCube_no1 n m v hn hm)
  clear hm
  have H := Lib.hid ht
  have HN := Lib.hid hn
  have hn5 : (n : Int) ≤ 5 := by omega
  clear ht hn
  go_enter Try.func132, Try.ntmps132
  go_wp2_with fail
  refine (Tab.impl _ _ (by omega) _).mono ?_
  rintro e w1 ⟨rfl, hb1⟩
  obtain ⟨hc, hf⟩ := bcell hb1
  have hz0_w1 : w.heap.size < w1.heap.size := by have := hb1.size; simp at this; omega
  rw [H.out]
  go_wp2_with fail
  refine (HC.out _).mono ?_
  rintro e w2 ⟨rfl, rfl⟩
  go_wp2
  go_ret
  exact ⟨rfl, ((Below.refl _ _).alloc (Nat.le_refl _) _).trans (hb1.mono (by simp <;> omega))⟩

theorem Tab.cubI_no3 (n a : Nat) (ht : isT n a = true) (hn : n ≤ 5) (ha : (a : Int) ≤ 4294967295) (m : Nat) (v : Int) (hm : (m : Int) < 2 ^ n) (hb : -9223372036854775808 ≤ v ∧ v ≤ 9223372036854775807) (hv : ¬ (0 ≤ v ∧ v.toNat &&& m = v.toNat)) (w : World) :
    Calls Try.prog 132 #[.agg #[.int .i64 n, .int .i64 a], .int .i64 m, .int .i64 v] w fun e w' => e = .returned (.int .i64 (-1)) ∧ Below w.heap.size w w' := by
  have HC := Lib.hid (Tab.isCube_no2 n m v hn hm hb hv)
  clear hm hb hv
  have H := Lib.hid ht
  have HN := Lib.hid hn
  have hn5 : (n : Int) ≤ 5 := by omega
  clear ht hn
  go_enter Try.func132, Try.ntmps132
  go_wp2_with fail
  refine (Tab.impl _ _ (by omega) _).mono ?_
  rintro e w1 ⟨rfl, hb1⟩
  obtain ⟨hc, hf⟩ := bcell hb1
  have hz0_w1 : w.heap.size < w1.heap.size := by have := hb1.size; simp at this; omega
  rw [H.out]
  go_wp2_with fail
  refine (HC.out _).mono ?_
  rintro e w2 ⟨rfl, rfl⟩
  go_wp2
  go_ret
  exact ⟨rfl, ((Below.refl _ _).alloc (Nat.le_refl _) _).trans (hb1.mono (by simp <;> omega))⟩

set_option maxRecDepth 100000 in
set_option maxHeartbeats 1000000 in
theorem Tab.cubI_yes (n a m v : Nat) (ht : isT n a = true) (hn : n ≤ 5) (ha : (a : Int) ≤ 4294967295) (hm : (m : Int) < 2 ^ n) (hv : v &&& m = v) (w : World) :
    Calls Try.prog 132 #[.agg #[.int .i64 n, .int .i64 a], .int .i64 m, .int .i64 v] w fun e w' => e = .returned (.int .i64 (cubV n a m v)) ∧ Below w.heap.size w w' := by
  obtain ⟨hp1, hp2⟩ := two_pow_int n hn
  have HC := Lib.hid (Tab.isCube_yes n m v hn hm hv)
  have hvm : v ≤ m := by rw [← hv]; exact Nat.and_le_right
  have hvl : (v : Int) ≤ 31 := by omega
  have HVN : Hid (v ≤ 63) := Lib.hid (by omega)
  clear hv hvm
  have H := Lib.hid ht
  have HN := Lib.hid hn
  have hn5 : (n : Int) ≤ 5 := by omega
  clear ht hn
  go_enter Try.func132, Try.ntmps132
  go_wp2_with fail
  refine (Tab.impl _ _ (by omega) _).mono ?_
  rintro e w1 ⟨rfl, hb1⟩
  obtain ⟨hc, hf⟩ := bcell hb1
  have hz0_w1 : w.heap.size < w1.heap.size := by have := hb1.size; simp at this; omega
  rw [H.out]
  go_wp2_with fail
  refine (HC.out _).mono ?_
  rintro e w2 ⟨rfl, rfl⟩
  go_wp2_with fail
  refine (Tab.count n HN.out _).mono ?_
  rintro e w2 ⟨rfl, rfl⟩
  go_wp2_with fail
  go_loop [8, 26] (fun _ x => ∃ y : Nat, x = .int .i64 (y : Int) ∧ (y : Int) ≤ 2 ^ n ∧ cubX a m v y = false) (fun _ x => 32 - (intOf x).toNat)
  case atStart => exact ⟨0, rfl, by omega, rfl⟩
  case round =>
    obtain ⟨y, rfl, hy, hs⟩ := hrel
    have HS := Lib.hid hs
    have HBEL := Lib.hid (((Below.refl _ _).alloc (Nat.le_refl _) _).trans (hb1.mono (by simp <;> omega)))
    clear hs hc hf
    by_cases hlt : (y : Int) < 2 ^ n
    · have hyn : y < 2 ^ n := by rw [up2] at hlt; omega
      have HYN := Lib.hid hyn
      have hand := and64 y m (by omega) (by omega)
      have HY63 : Hid (y ≤ 63) := Lib.hid (by omega)
      clear hyn
      by_cases he : y &&& m = v
      · have HE := Lib.hid he
        rw [he] at hand
        clear he
        by_cases hne : bitN a y = bitN a v
        · have HT := Lib.hid (cubX_miss HS.out (fun h => h.2 hne))
          have HNE := Lib.hid hne
          clear hne
          go_wp2_with fail
          refine (Tab.at a y (by omega) HY63.out _).mono ?_
          rintro e w2 ⟨rfl, rfl⟩
          go_wp2_with fail
          refine (Tab.at a v (by omega) HVN.out _).mono ?_
          rintro e w2 ⟨rfl, rfl⟩
          rw [HNE.out]
          go_wp2
          go_round
          case rel => exact ⟨y + 1, by go_num, by omega, HT.out⟩
          case measure => simp [intOf]; omega
        · have HT := Lib.hid (cubV_mixed (cubX_hit HYN.out HE.out hne))
          have hnb : (((bitN a y : Nat) : Int) == ((bitN a v : Nat) : Int)) = false := by rw [beq_eq_false_iff_ne]; omega
          clear hne
          go_wp2_with fail
          refine (Tab.at a y (by omega) HY63.out _).mono ?_
          rintro e w2 ⟨rfl, rfl⟩
          go_wp2_with fail
          refine (Tab.at a v (by omega) HVN.out _).mono ?_
          rintro e w2 ⟨rfl, rfl⟩
          go_wp2
          go_ret
          exact ⟨ret_int HT.out.symm, HBEL.out⟩
      · have HT := Lib.hid (cubX_miss HS.out (fun h => he h.1))
        have hnb : (((y &&& m : Nat) : Int) == (v : Int)) = false := by rw [beq_eq_false_iff_ne]; omega
        clear he
        go_wp2
        go_round
        case rel => exact ⟨y + 1, by go_num, by omega, HT.out⟩
        case measure => simp [intOf]; omega
    · have he : y = 2 ^ n := by rw [up2] at hy hlt; omega
      have HF : Hid (cubV n a m v = (bitN a v : Int)) := Lib.hid (cubV_same (by rw [← he]; exact HS.out))
      clear he
      go_wp2_with fail
      refine (Tab.at a v (by omega) HVN.out _).mono ?_
      rintro e w2 ⟨rfl, rfl⟩
      go_wp2
      go_ret
      exact ⟨ret_int HF.out.symm, HBEL.out⟩

/-- CubeValue of the program. -/
theorem Tab.cubI (n a m v : Int) (h64 : -9223372036854775808 ≤ a ∧ a ≤ 9223372036854775807) (hv64 : -9223372036854775808 ≤ v ∧ v ≤ 9223372036854775807) (w : World) :
    Calls Try.prog 132 #[.agg #[.int .i64 n, .int .i64 a], .int .i64 m, .int .i64 v] w fun e w' => e = .returned (.int .i64 (cubT n a m v)) ∧ Below w.heap.size w w' := by
  by_cases ht : isT n a = true
  · obtain ⟨k, x, rfl, rfl, hk, hx⟩ := isT_nat ht
    have hl : (x : Int) ≤ 4294967295 := by have := fullN_le k hk; omega
    by_cases hm : 0 ≤ m ∧ m < 2 ^ k
    · obtain ⟨m, rfl⟩ := Int.eq_ofNat_of_zero_le hm.1
      by_cases hv : 0 ≤ v ∧ v.toNat &&& m = v.toNat
      · obtain ⟨v, rfl⟩ := Int.eq_ofNat_of_zero_le hv.1
        have hv2 : v &&& m = v := by simpa using hv.2
        rw [cubT_yes ht hm.2 hv2]
        exact Tab.cubI_yes k x m v ht hk hl hm.2 hv2 w
      · rw [cubT_no fun h => hv h.2.2]
        exact Tab.cubI_no3 k x ht hk hl m v hm.2 hv64 hv w
    · rw [cubT_no fun h => hm h.2.1]
      exact Tab.cubI_no2 k x ht hk hl m v hm w
  · rw [cubT_no fun h => ht h.1]
    exact Tab.cubI_no1 n a m v h64 (by simpa using ht) w

end Go.Proofs.Ytlmhdocfdpbhmaa
