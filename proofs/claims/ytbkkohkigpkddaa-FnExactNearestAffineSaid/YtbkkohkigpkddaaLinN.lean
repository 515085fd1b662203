/-
  Chapter 14, the model: IsAffine, TestRejects, IsJunta; what NearestAffine answers at any two ints.
-/
import Derived.Test.YtbkkohkigpkddaaLinM
import Derived.BigQuiet
import Derived.Deep.QuietTactic
namespace Go.Proofs.Ytbkkohkigpkddaa
open Go.RowKit Plain
set_option linter.unusedVariables false
set_option linter.unusedSimpArgs false
attribute [local go_sem ↓] Go.wp_at_zero Go.wp_at_succ

def nrV (t : Int × Int × Int × Bool) : Value := .tuple #[.int .i64 t.1, .int .i64 t.2.1, .int .i64 t.2.2.1, .bool t.2.2.2]
theorem Nea.model (n a : Int) (w : World) :
    Calls Try.prog 15 #[.agg #[.int .i64 n, .int .i64 a]] w fun e w' => e = .returned (nrV (nrT n a)) ∧ Below w.heap.size w w' := by
  cases ht : isT n a with
  | false => rw [nrT_no ht]; exact Nea.model_no n a ht w
  | true =>
    obtain ⟨n, a, rfl, rfl, hn, ha⟩ := isT_nat ht
    rw [nrT_yes ht]
    exact Nea.model_yes n a hn ht (fullN_lt a ha) (by have := fullN_le n hn; omega) w

/-- What IsAffine answers. -/
def Plain.isaT (n a : Int) : Bool := (nrT n a).2.2.2 && decide ((nrT n a).2.2.1 = 0)
theorem Isa.model (n a : Int) (w : World) :
    Calls Try.prog 9 #[.agg #[.int .i64 n, .int .i64 a]] w fun e w' => e = .returned (.bool (isaT n a)) ∧ Below w.heap.size w w' := by
  have HN := Lib.hid (Nea.model n a)
  unfold Plain.isaT
  generalize nrT n a = t at *
  obtain ⟨u, b, d, k⟩ := t
  unfold nrV at HN
  dsimp only at HN ⊢
  go_enter Try.func9, Try.ntmps9
  go_wp2_with fail
  refine (HN.out _).mono ?_
  rintro e w1 ⟨rfl, hb1⟩
  cases k with
  | false =>
    go_wp2
    go_ret
    exact ⟨rfl, ((Below.refl _ _).alloc (Nat.le_refl _) _).trans (hb1.mono (by simp))⟩
  | true =>
    by_cases hd : d = 0
    · subst hd
      go_wp2
      go_ret
      exact ⟨rfl, ((Below.refl _ _).alloc (Nat.le_refl _) _).trans (hb1.mono (by simp))⟩
    · have hdb : (d == 0) = false := by simpa using hd
      go_wp2
      go_ret
      exact ⟨by simp [hd], ((Below.refl _ _).alloc (Nat.le_refl _) _).trans (hb1.mono (by simp))⟩

/-- What TestRejects answers. -/
def Plain.rejT (n a : Int) : Int := if isT n a = true then (rejN a.toNat (2 ^ n.toNat) (2 ^ n.toNat) : Int) else -1
theorem rejT_yes {n a : Nat} (h : isT n a = true) : rejT n a = (rejN a (2 ^ n) (2 ^ n) : Int) := if_pos h
theorem rejT_no {n a : Int} (h : isT n a = false) : rejT n a = -1 := if_neg (by rw [h]; decide)
theorem rej_i64 (a x y : Nat) (ha : (a : Int) ≤ 4294967295) : Go.bits .and .i64 (Go.bits .xor .i64 (Go.bits .xor .i64 ((a : Int) / 2 ^ x) ((a : Int) / 2 ^ y)) ((a : Int) / 2 ^ (x ^^^ y))) 1 = ((rejB a x y : Nat) : Int) := by
  have hd : ∀ z : Nat, ((a : Int) / 2 ^ z) = ((a / 2 ^ z : Nat) : Int) ∧ a / 2 ^ z ≤ a := fun z => ⟨by rw [up2]; omega, Nat.div_le_self _ _⟩
  have l := (hd x).2
  have l2 := (hd y).2
  have l3 := (hd (x ^^^ y)).2
  have hx : (a / 2 ^ x) ^^^ (a / 2 ^ y) < 2 ^ 32 := Nat.xor_lt_two_pow (by omega) (by omega)
  have hx2 : (a / 2 ^ x) ^^^ (a / 2 ^ y) ^^^ (a / 2 ^ (x ^^^ y)) < 2 ^ 32 := Nat.xor_lt_two_pow hx (by omega)
  rw [(hd x).1, (hd y).1, (hd (x ^^^ y)).1, xor64 _ _ (by omega) (by omega), xor64 _ _ (by omega) (by omega), show (1 : Int) = ((1 : Nat) : Int) from rfl, and64 _ _ (by omega) (by omega), rej_bits]

theorem Rej.model_no (n a : Int) (ht : isT n a = false) (w : World) :
    Calls Try.prog 17 #[.agg #[.int .i64 n, .int .i64 a]] w fun e w' => e = .returned (.int .i64 (-1)) ∧ Below w.heap.size w w' := by
  have H := Lib.hid ht
  clear ht
  go_enter Try.func17, Try.ntmps17
  go_wp2_with fail
  refine (Tab.model _ _ _).mono ?_
  rintro e w1 ⟨rfl, hb1⟩
  rw [H.out]
  go_wp2
  go_ret
  exact ⟨rfl, ((Below.refl _ _).alloc (Nat.le_refl _) _).trans (hb1.mono (by simp))⟩

set_option maxRecDepth 100000 in
set_option maxHeartbeats 4000000 in
theorem Rej.model_yes (n a : Nat) (hn : n ≤ 5) (ht : isT n a = true) (ha : (a : Int) ≤ 4294967295) (w : World) :
    Calls Try.prog 17 #[.agg #[.int .i64 n, .int .i64 a]] w fun e w' => e = .returned (.int .i64 (rejN a (2 ^ n) (2 ^ n) : Int)) ∧ Below w.heap.size w w' := by
  have H := Lib.hid ht
  obtain ⟨hp1, hp2⟩ := two_pow_int n hn
  have hM : (2 : Int) ^ n = ((2 ^ n : Nat) : Int) := up2 n
  have hsh : IntKind.i64.wrap ((2 : Int) ^ n) = ((2 ^ n : Nat) : Int) := by rw [IntKind.wrap_i64]; omega
  have hsh64 : wrap64 ((2 : Int) ^ n) = ((2 ^ n : Nat) : Int) := by rw [hM]; exact IntWalk.wrap64_in _ ⟨by omega, by omega⟩
  have hM32 : ((2 ^ n : Nat) : Int) ≤ 32 := by omega
  have hM1 : 1 ≤ ((2 ^ n : Nat) : Int) := by omega
  have hn5 : (n : Int) ≤ 5 := by omega
  clear ht hn hp1 hp2 hM
  generalize hMM : 2 ^ n = M at *
  go_enter Try.func17, Try.ntmps17
  go_wp2_with fail
  refine (Tab.model _ _ _).mono ?_
  rintro e w1 ⟨rfl, hb1⟩
  rw [H.out]
  have c0 : w1.cell? ⟨w.heap.size, 0, none⟩ = some (.int .i64 n) := (hb1.cell (by simp)).trans (keepN rfl rfl)
  have c1 : w1.cell? ⟨w.heap.size, 1, none⟩ = some (.int .i64 a) := (hb1.cell (by simp)).trans (keepN rfl rfl)
  have HB := Lib.hid (((Below.refl w.heap.size w).alloc (Nat.le_refl _) _).trans (hb1.mono (by simp)))
  clear hb1
  go_wp2_with fail
  go_loopw [3, 4] (fun s x wr => ∃ k : Nat, x = .int .i64 (k : Int) ∧ k ≤ M ∧ s = .int .i64 (rejN a M k : Int) ∧ wr.cell? ⟨w.heap.size, 0, none⟩ = some (.int .i64 n) ∧ wr.cell? ⟨w.heap.size, 1, none⟩ = some (.int .i64 a) ∧ Below w.heap.size w wr) (fun _ x _ => M - (intOf x).toNat)
  case atStart => exact ⟨0, rfl, by omega, rfl, c0, c1, HB.out⟩
  case round =>
    obtain ⟨k, rfl, hk, rfl, d0, d1, hbel⟩ := hrel
    have HBR := Lib.hid hbel
    clear hbel c0 c1
    by_cases hlt : k < M
    · have hlz : (k : Int) < (M : Int) := by omega
      have hNk : rejN a M k ≤ 1024 := Nat.le_trans (rejN_le a M k) (Nat.le_trans (Nat.mul_le_mul (show M ≤ 32 by omega) (show k ≤ 32 by omega)) (by decide))
      have HSUC : Hid (rejN a M (k + 1) = rejN a M k + rejR a k M) := Lib.hid rfl
      generalize hR1 : rejN a M (k + 1) = R1 at *
      generalize rejN a M k = R at *
      go_wp2_with fail
      go_loopw [3, 5] (fun s y wx => ∃ j : Nat, y = .int .i64 (j : Int) ∧ j ≤ M ∧ s = .int .i64 ((R + rejR a k j : Nat) : Int) ∧ wx.cell? ⟨w.heap.size, 0, none⟩ = some (.int .i64 n) ∧ wx.cell? ⟨w.heap.size, 1, none⟩ = some (.int .i64 a) ∧ Below w.heap.size w wx) (fun _ y _ => M - (intOf y).toNat)
      case atStart => exact ⟨0, rfl, by omega, by simp [Plain.rejR, Plain.sumN], d0, d1, HBR.out⟩
      case round =>
        obtain ⟨j, rfl, hj, rfl, e0, e1, hbel⟩ := hrel
        have HBX := Lib.hid hbel
        clear hbel d0 d1
        by_cases hjl : j < M
        · have hjz : (j : Int) < (M : Int) := by omega
          have hxor := xor64 k j (by omega) (by omega)
          have hxl : k ^^^ j < 2 ^ 5 := Nat.xor_lt_two_pow (by omega) (by omega)
          have hrj := rej_i64 a k j ha
          have hrl := rejB_lt a k j
          have hrr := rejR_le a k j
          have HV : Hid (rejR a k (j + 1) = rejR a k j + rejB a k j) := Lib.hid rfl
          generalize hV1 : rejR a k (j + 1) = V1 at *
          generalize rejR a k j = V at *
          generalize rejB a k j = z at *
          generalize k ^^^ j = kj at *
          go_wp2
          go_quiet (fail)
          go_wp2
          go_roundw
          case rel => exact ⟨j + 1, by go_num, by omega, by rw [hV1, HV.out]; congr 1; omega, e0, e1, below_drewN HBX.out _⟩
          case measure => simp [intOf] <;> omega
        · obtain rfl : j = M := by omega
          have hjz : ¬ (j : Int) < (j : Int) := by omega
          go_wp2
          go_roundw
          case rel => exact ⟨k + 1, by go_num, by omega, by rw [hR1, HSUC.out], e0, e1, HBX.out⟩
          case measure => simp [intOf] <;> omega
    · obtain rfl : k = M := by omega
      have hlz : ¬ (k : Int) < (k : Int) := by omega
      generalize hG : rejN a k k = G at *
      go_wp2
      go_ret
      exact ⟨by simp [hG], HBR.out⟩

theorem Rej.model (n a : Int) (w : World) :
    Calls Try.prog 17 #[.agg #[.int .i64 n, .int .i64 a]] w fun e w' => e = .returned (.int .i64 (rejT n a)) ∧ Below w.heap.size w w' := by
  cases ht : isT n a with
  | false => rw [rejT_no ht]; exact Rej.model_no n a ht w
  | true =>
    obtain ⟨n, a, rfl, rfl, hn, ha⟩ := isT_nat ht
    rw [rejT_yes ht]
    exact Rej.model_yes n a hn ht (by have := fullN_le n hn; omega) w

/-- A row's length. -/
theorem row_len {w : World} {B : Nat} {v : Value} {l : List Int} (h : IntRow w B v l) : ∃ o cap, v = .slice o l.length cap := by
  rcases h.shape with ⟨rfl, rfl⟩ | ⟨g, cap, rfl, _, _⟩
  · exact ⟨none, 0, rfl⟩
  · exact ⟨_, cap, rfl⟩
/-- What IsJunta answers. -/
def Plain.junT (n a k : Int) : Bool := isT n a && (decide (0 ≤ k) && decide (((varsT n a).length : Int) ≤ k))

set_option maxRecDepth 100000 in
theorem Jun.model (n a k : Int) (w : World) :
    Calls Try.prog 21 #[.agg #[.int .i64 n, .int .i64 a], .int .i64 k] w fun e w' => e = .returned (.bool (junT n a k)) ∧ Below w.heap.size w w' := by
  have HV := Lib.hid (Tab.vosM n a)
  cases ht : isT n a with
  | false =>
    rw [show junT n a k = false by unfold Plain.junT; rw [ht]; rfl]
    have H := Lib.hid ht
    clear ht
    go_enter Try.func21, Try.ntmps21
    go_wp2_with fail
    refine (Tab.model _ _ _).mono ?_
    rintro e w1 ⟨rfl, hb1⟩
    rw [H.out]
    go_wp2
    go_ret
    exact ⟨rfl, ((Below.refl _ _).alloc (Nat.le_refl _) _).trans (hb1.mono (by simp))⟩
  | true =>
    have HJ : Hid (junT n a k = (decide (0 ≤ k) && decide (((varsT n a).length : Int) ≤ k))) := Lib.hid (by unfold Plain.junT; rw [ht]; rfl)
    rw [HJ.out]
    have H := Lib.hid ht
    clear ht HJ
    generalize varsT n a = l at *
    by_cases hk : 0 ≤ k
    · go_enter Try.func21, Try.ntmps21
      go_wp2_with fail
      refine (Tab.model _ _ _).mono ?_
      rintro e w1 ⟨rfl, hb1⟩
      obtain ⟨hc1, hf1⟩ := bcell hb1
      have hz : w.heap.size < w1.heap.size := by have := hb1.size; simp at this; omega
      rw [H.out]
      go_wp2_with fail
      refine (HV.out _).mono ?_
      rintro e w2 ⟨v, rfl, hrow, hb2⟩
      obtain ⟨o, cap, rfl⟩ := row_len hrow
      clear hrow
      go_wp2
      go_ret
      exact ⟨by by_cases hlk : (l.length : Int) ≤ k <;> simp [hk, hlk], (((Below.refl _ _).alloc (Nat.le_refl _) _).trans (hb1.mono (by simp))).trans (hb2.mono (by omega))⟩
    · go_enter Try.func21, Try.ntmps21
      go_wp2_with fail
      refine (Tab.model _ _ _).mono ?_
      rintro e w1 ⟨rfl, hb1⟩
      rw [H.out]
      go_wp2
      go_ret
      exact ⟨by simp; omega, ((Below.refl _ _).alloc (Nat.le_refl _) _).trans (hb1.mono (by simp))⟩

end Go.Proofs.Ytbkkohkigpkddaa
