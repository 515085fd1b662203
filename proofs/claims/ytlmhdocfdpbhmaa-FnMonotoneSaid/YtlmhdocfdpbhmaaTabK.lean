/-
  VariableTable of the program and of its model: both set the bits of the inputs whose bit i is 1, one after the other.
-/
import Derived.Test.YtlmhdocfdpbhmaaTabE
namespace Go.Proofs.Ytlmhdocfdpbhmaa
open Go.RowKit Plain
set_option linter.unusedVariables false

/-- The word after x inputs. -/
def Plain.varW (i : Nat) : Nat → Nat
  | 0 => 0
  | x + 1 => if bitN x i = 1 then varW i x ||| 2 ^ x else varW i x
theorem varW_lt (i x : Nat) : varW i x < 2 ^ x := by
  induction x with
  | zero => exact Nat.one_pos
  | succ x ih =>
    unfold varW
    have hx : 2 ^ x < 2 ^ (x + 1) := Nat.pow_lt_pow_right (by decide) (by omega)
    split
    · exact Nat.or_lt_two_pow (by omega) hx
    · omega
theorem varW_yes {i x : Nat} (h : bitN x i = 1) : varW i (x + 1) = varW i x ||| 2 ^ x := by show (if _ then _ else _) = _; rw [if_pos h]
theorem varW_no {i x : Nat} (h : bitN x i ≠ 1) : varW i (x + 1) = varW i x := by show (if _ then _ else _) = _; rw [if_neg h]
theorem varW_bound (i x : Nat) (hx : x ≤ 32) : (varW i x : Int) ≤ 4294967295 := by
  have h1 := varW_lt i x
  have h2 : 2 ^ x ≤ 2 ^ 32 := Nat.pow_le_pow_right (by decide) hx
  omega
theorem pow_bound (x : Nat) (hx : x ≤ 32) : ((2 ^ x : Nat) : Int) ≤ 4294967296 := by
  have h2 : 2 ^ x ≤ 2 ^ 32 := Nat.pow_le_pow_right (by decide) hx
  omega

theorem up2 (y : Nat) : ((2 : Int) ^ y) = ((2 ^ y : Nat) : Int) := (Int.natCast_pow 2 y).symm
theorem orbit_i64 (a y : Nat) (ha : (a : Int) ≤ 4294967295) (hy : y ≤ 32) : Go.bits .or .i64 (a : Int) (wrap64 ((2 : Int) ^ y)) = ((a ||| 2 ^ y : Nat) : Int) := by
  have hp := pow_bound y hy
  rw [up2]
  generalize 2 ^ y = p at hp ⊢
  rw [IntWalk.wrap64_in _ ⟨by omega, by omega⟩]
  exact or64 a p (by omega) (by omega)
theorem orbit_u64 (a y : Nat) (ha : (a : Int) ≤ 4294967295) (hy : y ≤ 32) : Go.bits .or .u64 (a : Int) (IntKind.u64.wrap ((2 : Int) ^ y)) = ((a ||| 2 ^ y : Nat) : Int) := by
  have hp := pow_bound y hy
  rw [up2]
  generalize 2 ^ y = p at hp ⊢
  rw [show IntKind.u64.wrap (p : Int) = (p : Int) by rw [IntKind.wrap_u64]; omega]
  exact orU64 a p (by omega) (by omega)

theorem Tab.withBit (a x : Nat) (ha : (a : Int) ≤ 4294967295) (hx : x ≤ 32) (w : World) :
    Calls Try.prog 92 #[.int .u64 a, .int .i64 x] w fun e w' => e = .returned (.int .u64 ((a ||| 2 ^ x : Nat) : Int)) ∧ w = w' := by
  have H := Lib.hid (orbit_u64 a x ha hx)
  go_enter Try.func92, Try.ntmps92
  go_wp2
  go_ret
  exact ⟨ret_int H.out, rfl⟩

set_option maxRecDepth 100000 in
theorem Tab.varM_loop (n i : Nat) (hn : n ≤ 5) (hi : i ≤ 5) (w : World) :
    Calls Try.prog 138 #[.int .i64 n, .int .i64 i] w fun e w' => e = .returned (.int .i64 (varW i (2 ^ n) : Int)) ∧ w = w' := by
  obtain ⟨hp1, hp2⟩ := two_pow_int n hn
  go_enter Try.func138, Try.ntmps138
  go_wp2
  go_loop [5, 6] (fun a x => ∃ y : Nat, x = .int .i64 (y : Int) ∧ a = .int .i64 (varW i y : Int) ∧ (y : Int) ≤ 2 ^ n) (fun _ x => 32 - (intOf x).toNat)
  case atStart => exact ⟨0, rfl, rfl, by omega⟩
  case round =>
    obtain ⟨y, rfl, rfl, hy⟩ := hrel
    by_cases hlt : (y : Int) < 2 ^ n
    · have hbit := bit_i64 y i (by omega)
      have HO := Lib.hid (orbit_i64 (varW i y) y (varW_bound i y (by omega)) (by omega))
      rcases bitN_cases y i with hb | hb
      · have HV := Lib.hid (varW_no (i := i) (x := y) (by omega))
        rw [hb] at hbit
        clear hb
        go_wp2
        go_round
        case rel => exact ⟨y + 1, by go_num, by rw [HV.out], by omega⟩
        case measure => simp [intOf]; omega
      · have HV := Lib.hid (varW_yes hb)
        rw [hb] at hbit
        clear hb
        go_wp2
        go_round
        case rel => exact ⟨y + 1, by go_num, by rw [HV.out, HO.out], by omega⟩
        case measure => simp [intOf]; omega
    · have he : y = 2 ^ n := by rw [up2] at hy hlt; omega
      have HE : Hid (varW i y = varW i (2 ^ n)) := Lib.hid (by rw [he])
      clear he
      go_wp2
      go_ret
      exact ⟨ret_int (by rw [HE.out]), rfl⟩

/-- word.table makes one box. -/
theorem Tab.tableX' (n a : Nat) (ha : (a : Int) ≤ 9223372036854775807) (w : World) :
    Calls Try.prog 93 #[.int .u64 a, .int .i64 n] w fun e w' => e = .returned (.agg #[.int .i64 n, .int .i64 a]) ∧ w.alloc (.cells #[.int .i64 n, .int .i64 a] 27) = w' := by
  go_enter Try.func93, Try.ntmps93
  go_wp2
  exact bodyPost_ret (v := .agg #[.int .i64 n, .int .i64 a]) (by simp [results, Try.results93, go_sem]) rfl ⟨rfl, rfl⟩

/-- What VariableTable answers. -/
def Plain.varT (n i : Int) : Int × Int × Bool := if (0 ≤ n ∧ n ≤ 5) ∧ 0 ≤ i ∧ i ≤ n - 1 then (n, (varW i.toNat (2 ^ n.toNat) : Int), true) else (0, 0, false)

theorem Tab.isVar (n i : Int) (w : World) :
    Calls Try.prog 125 #[.int .i64 n, .int .i64 i] w fun e w' => e = .returned (.bool (decide (0 ≤ i ∧ i < n))) ∧ w = w' := by
  by_cases h1 : 0 ≤ i
  · by_cases h2 : i < n
    · have H : Hid (decide (0 ≤ i ∧ i < n) = true) := Lib.hid (decide_eq_true ⟨h1, h2⟩)
      rw [H.out]
      go_enter Try.func125, Try.ntmps125
      go_wp2
      go_ret
      exact ⟨rfl, rfl⟩
    · have H : Hid (decide (0 ≤ i ∧ i < n) = false) := Lib.hid (decide_eq_false (by omega))
      rw [H.out]
      go_enter Try.func125, Try.ntmps125
      go_wp2
      go_ret
      exact ⟨rfl, rfl⟩
  · have H : Hid (decide (0 ≤ i ∧ i < n) = false) := Lib.hid (decide_eq_false (by omega))
    rw [H.out]
    go_enter Try.func125, Try.ntmps125
    go_wp2
    go_ret
    exact ⟨rfl, rfl⟩

theorem Tab.isVar_yes (n i : Int) (h : 0 ≤ i ∧ i < n) (w : World) :
    Calls Try.prog 125 #[.int .i64 n, .int .i64 i] w fun e w' => e = .returned (.bool true) ∧ w = w' :=
  (Tab.isVar n i w).mono fun e w'' ⟨h1, h2⟩ => ⟨by rw [h1, decide_eq_true h], h2⟩

theorem Tab.isVar_no (n i : Int) (h : ¬ (0 ≤ i ∧ i < n)) (w : World) :
    Calls Try.prog 125 #[.int .i64 n, .int .i64 i] w fun e w' => e = .returned (.bool false) ∧ w = w' :=
  (Tab.isVar n i w).mono fun e w'' ⟨h1, h2⟩ => ⟨by rw [h1, decide_eq_false h], h2⟩

theorem Tab.bits_yes (n : Int) (h : 0 ≤ n ∧ n ≤ 5) (w : World) :
    Calls Try.prog 68 #[.int .i64 n] w fun e w' => e = .returned (.bool true) ∧ w = w' :=
  (Tab.bits n w).mono fun e w'' ⟨h1, h2⟩ => ⟨by rw [h1, inB_yes h], h2⟩

theorem Tab.bits_no (n : Int) (h : ¬ (0 ≤ n ∧ n ≤ 5)) (w : World) :
    Calls Try.prog 68 #[.int .i64 n] w fun e w' => e = .returned (.bool false) ∧ w = w' :=
  (Tab.bits n w).mono fun e w'' ⟨h1, h2⟩ => ⟨by rw [h1, inB_no h], h2⟩

theorem varT_yes (n i : Nat) (hn : n ≤ 5) (hi : (i : Int) ≤ (n : Int) - 1) : varT n i = ((n : Int), (varW i (2 ^ n) : Int), true) := by
  unfold varT; rw [if_pos ⟨⟨by omega, by omega⟩, by omega, hi⟩]; rfl
theorem varT_no {n i : Int} (h : ¬ ((0 ≤ n ∧ n ≤ 5) ∧ 0 ≤ i ∧ i ≤ n - 1)) : varT n i = (0, 0, false) := if_neg h
end Go.Proofs.Ytlmhdocfdpbhmaa
