/-
  ClassSize of the model; CountTableClasses of both.
-/
import Derived.Test.YtecakbjcnabpnaaClsQ
namespace Go.Proofs.Ytecakbjcnabpnaa
open Go.RowKit Plain
set_option linter.unusedVariables false

/-- How many ways there are. -/
def Plain.allN : Nat → Nat
  | 0 => 2
  | k + 1 => allN k * 2 * (k + 1)
theorem all_ways {n : Nat} (hn : n ≤ 4) (a : Nat) : allN n = (waysL n a).length := by
  rw [waysL_len]
  rcases perms_len n hn with ⟨h, rfl⟩ | ⟨h, rfl⟩ | ⟨h, rfl⟩ | ⟨h, rfl⟩ | ⟨h, rfl⟩ <;> rw [h] <;> rfl
theorem wrap64_small (x : Int) (h0 : -9223372036854775808 ≤ x) (h1 : x ≤ 9223372036854775807) : wrap64 x = x := by unfold wrap64; omega
theorem all_le {k : Nat} (h : k ≤ 4) : allN k ≤ 768 := by
  rcases lt5 h with rfl | rfl | rfl | rfl | rfl <;> decide

theorem Cls.sizM_no (n a : Int) (h : clsB n a = false) (w : World) :
    Calls Try.prog 43 #[.agg #[.int .i64 n, .int .i64 a]] w fun e w' => e = .returned (.int .i64 (-1)) ∧ Below w.heap.size w w' := by
  have H := Lib.hid (fun w => Cls.symM_no n a h w)
  clear h
  go_enter Try.func43, Try.ntmps43
  go_wp2_with fail
  refine (H.out _).mono ?_
  rintro e w1 ⟨rfl, hb1⟩
  go_wp2
  go_ret
  exact ⟨rfl, bB hb1 (by simp) ((Below.refl _ _).alloc (Nat.le_refl _) _)⟩

theorem Cls.sizM_yes (n a : Nat) (hn : n ≤ 4) (ha : a ≤ fullN n) (ht : isT n a = true) (w : World) :
    Calls Try.prog 43 #[.agg #[.int .i64 n, .int .i64 a]] w fun e w' => e = .returned (.int .i64 (sizT n a)) ∧ Below w.heap.size w w' := by
  have H := Lib.hid (fun w => Cls.symM_yes n a hn ha ht w)
  rw [symT_yes ht hn] at H
  have HN := Lib.hid hn
  have hnz : (n : Int) ≤ 4 := by omega
  have HS := Lib.hid (sizT_yes ht hn)
  have hc0 := count_pos hn (fullN_lt a ha)
  have HAL := Lib.hid (all_ways hn a)
  have hcz : 1 ≤ ((waysL n a).count a : Int) := by omega
  have HQ : Hid (∀ c : Nat, Int.tdiv ((allN n : Nat) : Int) (c : Int) = ((allN n / c : Nat) : Int)) := Lib.hid (fun c => (Int.ofNat_tdiv _ _).symm)
  have hq : (((allN n / (waysL n a).count a : Nat) : Nat) : Int) ≤ 768 := by
    have h1 := all_le hn
    have h2 := Nat.div_le_self (allN n) ((waysL n a).count a)
    omega
  clear hn ha ht hc0
  rw [← HAL.out] at HS
  generalize (waysL n a).count a = c at H HS hcz hq
  go_enter Try.func43, Try.ntmps43
  go_wp2_with fail
  refine (H.out _).mono ?_
  rintro e w1 ⟨rfl, hb1⟩
  have k0 : w1.cell? ⟨w.heap.size, 0, none⟩ = some (.int .i64 n) := keepB hb1 (keepN rfl rfl)
  have HB1 := Lib.hid (bB hb1 (by simp) ((Below.refl w.heap.size w).alloc (Nat.le_refl _) (.cells #[.int .i64 (n : Int), .int .i64 (a : Int)] 25)))
  clear hb1
  go_wp2
  go_loopw [4, 5] (fun m x wr => ∃ k : Nat, x = .int .i64 ((k : Int) + 1) ∧ k ≤ n ∧ m = .int .i64 (allN k : Int) ∧ wr = w1) (fun _ x _ => n + 1 - (intOf x).toNat)
  case atStart => exact ⟨0, rfl, by omega, rfl, rfl⟩
  case round =>
    obtain ⟨k, rfl, hk, rfl, rfl⟩ := hrel
    by_cases hlt : k < n
    · have hkz : (k : Int) + 1 ≤ (n : Int) := by omega
      have h1 := all_le (k := k) (by omega)
      have h2 := all_le (k := k + 1) (by omega)
      have h3 : ((allN (k + 1) : Nat) : Int) = (allN k : Int) * 2 * ((k : Int) + 1) := by show ((allN k * 2 * (k + 1) : Nat) : Int) = _; push_cast; rfl
      have h4 : (allN k : Int) ≤ 768 := by omega
      have h5 : (allN k : Int) * 2 * ((k : Int) + 1) ≤ 768 := by omega
      have h6 : 0 ≤ (allN k : Int) * 2 * ((k : Int) + 1) := by omega
      have H3 := Lib.hid h3
      clear h1 h2 h3
      go_wp2
      go_roundw
      case rel => exact ⟨k + 1, by go_num, by omega, by rw [H3.out], trivial⟩
      case measure => simp [intOf] <;> omega
    · obtain rfl : k = n := by omega
      have HQZ := Lib.hid hq
      clear hq
      go_wp2
      go_ret
      refine ⟨?_, HB1.out⟩
      have e1 : ((allN k : Nat) : Int) / (c : Int) = ((allN k / c : Nat) : Int) := (Int.natCast_ediv _ _).symm
      have e2 : wrap64 (((allN k / c : Nat)) : Int) = ((allN k / c : Nat) : Int) := by
        have h := HQZ.out
        generalize allN k / c = z at h ⊢
        exact wrap64_small _ (by omega) (by omega)
      rw [HS.out]
      show Ending.returned (Value.int .i64 (wrap64 (((allN k : Nat) : Int) / (c : Int)))) = _
      rw [e1, e2]

theorem Cls.sizM (n a : Int) (w : World) :
    Calls Try.prog 43 #[.agg #[.int .i64 n, .int .i64 a]] w fun e w' => e = .returned (.int .i64 (sizT n a)) ∧ Below w.heap.size w w' := by
  cases h : clsB n a with
  | true =>
    obtain ⟨m, c, rfl, rfl, hm, hc, ht⟩ := clsB_yes h
    exact Cls.sizM_yes m c hm hc ht w
  | false => rw [sizT_no (clsB_no h)]; exact Cls.sizM_no n a h w

/-! CountTableClasses -/
def Plain.clsN (n k : Nat) : Nat := ((List.range k).filter (fun x => leastW n x == x)).length
theorem clsN_yes {n k : Nat} (h : leastW n k = k) : clsN n (k + 1) = clsN n k + 1 := by
  unfold clsN; rw [List.range_succ, List.filter_append]; simp [h]
theorem clsN_no {n k : Nat} (h : leastW n k ≠ k) : clsN n (k + 1) = clsN n k := by
  unfold clsN; rw [List.range_succ, List.filter_append]; simp [h]
theorem clsN_le (n k : Nat) : clsN n k ≤ k := by
  unfold clsN
  have := List.length_filter_le (fun x => leastW n x == x) (List.range k)
  rw [List.length_range] at this
  exact this
def Plain.ctcT (n : Int) : Int := if 0 ≤ n ∧ n ≤ 3 then (clsN n.toNat (fullN n.toNat + 1) : Int) else -1
theorem ctcT_yes {n : Nat} (h : n ≤ 3) : ctcT n = (clsN n (fullN n + 1) : Int) := by unfold ctcT; rw [if_pos ⟨by omega, by omega⟩]; rfl
theorem ctcT_no {n : Int} (h : ¬ (0 ≤ n ∧ n ≤ 3)) : ctcT n = -1 := if_neg h
theorem full3 {n : Nat} (h : n ≤ 3) : fullN n ≤ 255 := by
  rcases (show n = 0 ∨ n = 1 ∨ n = 2 ∨ n = 3 by omega) with rfl | rfl | rfl | rfl <;> decide

theorem Cls.ctcM_no (n : Int) (h : ¬ (0 ≤ n ∧ n ≤ 3)) (w : World) :
    Calls Try.prog 45 #[.int .i64 n] w fun e w' => e = .returned (.int .i64 (-1)) ∧ Below w.heap.size w w' := by
  have H := Lib.hid h
  clear h
  go_enter Try.func45, Try.ntmps45
  go_wp2_with fail
  refine (Widths.in_no _ _ _ H.out _).mono ?_
  rintro e w1 ⟨rfl, rfl⟩
  go_wp2
  go_ret
  exact ⟨rfl, Below.refl _ _⟩

set_option maxRecDepth 100000 in
theorem Cls.ctcM_yes (n : Nat) (h : n ≤ 3) (w : World) :
    Calls Try.prog 45 #[.int .i64 n] w fun e w' => e = .returned (.int .i64 (clsN n (fullN n + 1) : Int)) ∧ Below w.heap.size w w' := by
  have H := Lib.hid h
  have hnz : (n : Int) ≤ 3 := by omega
  have hf := full3 h
  have HF := Lib.hid hf
  have hfz : (fullN n : Int) ≤ 255 := by omega
  clear h hf
  go_enter Try.func45, Try.ntmps45
  go_wp2_with fail
  refine (Widths.in_yes _ _ _ ⟨by omega, by omega⟩ _).mono ?_
  rintro e w1 ⟨rfl, rfl⟩
  go_wp2
  go_loopw [3, 4, 5, 6] (fun m x _ _ wr => ∃ k : Nat, x = .int .i64 (k : Int) ∧ k ≤ fullN n + 1 ∧ m = .int .i64 (clsN n k : Int) ∧ Below w.heap.size w wr) (fun _ x _ _ _ => fullN n + 1 - (intOf x).toNat)
  case atStart => exact ⟨0, rfl, by omega, rfl, Below.refl _ _⟩
  case round =>
    obtain ⟨k, rfl, hk, rfl, hbel⟩ := hrel
    have HB := Lib.hid hbel
    have hkz : (k : Int) ≤ 256 := by omega
    go_wp2_with fail
    refine (Tab.fullM n (by have := H.out; omega) _).mono ?_
    rintro e w1 ⟨rfl, rfl⟩
    by_cases hlt : k < fullN n + 1
    · have hltz : (k : Int) ≤ (fullN n : Int) := by omega
      have hcl := clsN_le n k
      have hcz : (clsN n k : Int) ≤ 256 := by omega
      have HK : Hid (k ≤ fullN n) := Lib.hid (by omega)
      clear hcl hbel
      by_cases he : leastW n k = k
      · have HN := Lib.hid (clsN_yes he)
        have HE := Lib.hid he
        clear he
        go_wp2_with fail
        refine (Cls.leastM n k (by have := H.out; omega) HK.out _).mono ?_
        rintro e w2 ⟨rfl, hb2⟩
        rw [HE.out]
        have HB2 := Lib.hid (bstep HB.out hb2)
        clear hb2
        go_wp2
        go_roundw
        case rel => exact ⟨k + 1, by go_num, by have := HK.out; omega, by rw [HN.out]; go_num, HB2.out⟩
        case measure => simp [intOf] <;> omega
      · have HN := Lib.hid (clsN_no he)
        have hne : (((leastW n k : Nat) : Int) == (k : Int)) = false := by rw [beq_eq_false_iff_ne]; omega
        have hlz : ((leastW n k : Nat) : Int) ≤ 255 := by have := least_full n k HK.out; omega
        clear he
        go_wp2_with fail
        refine (Cls.leastM n k (by have := H.out; omega) HK.out _).mono ?_
        rintro e w2 ⟨rfl, hb2⟩
        have HB2 := Lib.hid (bstep HB.out hb2)
        clear hb2
        go_wp2
        go_roundw
        case rel => exact ⟨k + 1, by go_num, by have := HK.out; omega, by rw [HN.out], HB2.out⟩
        case measure => simp [intOf] <;> omega
    · obtain rfl : k = fullN n + 1 := by omega
      have hgt : (fullN n : Int) < ((fullN n + 1 : Nat) : Int) := by omega
      clear hbel
      go_wp2
      go_ret
      exact ⟨rfl, HB.out⟩
theorem Cls.ctcM (n : Int) (w : World) :
    Calls Try.prog 45 #[.int .i64 n] w fun e w' => e = .returned (.int .i64 (ctcT n)) ∧ Below w.heap.size w w' := by
  by_cases h : 0 ≤ n ∧ n ≤ 3
  · obtain ⟨m, rfl⟩ := Int.eq_ofNat_of_zero_le h.1
    rw [show ((m : Nat) : Int) = Int.ofNat m from rfl] at *
    have hm : m ≤ 3 := by have := h.2; simp at this; omega
    have := Cls.ctcM_yes m hm w
    rw [← ctcT_yes hm] at this
    exact this
  · rw [ctcT_no h]; exact Cls.ctcM_no n h w
end Go.Proofs.Ytecakbjcnabpnaa
