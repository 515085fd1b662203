/-
  RestrictTable of the program and of its model.
  RestrictTable of the program.
  RestrictTable of the model, and both at every argument.
-/
import Derived.Test.YtlmhdocfdpbhmaaResB

namespace Go.Proofs.Ytlmhdocfdpbhmaa
open Go.RowKit Plain
set_option linter.unusedVariables false

/-- The word of the restriction. -/
def Plain.restW (n a i b : Nat) : Nat := tabN (fun x => bitN a (insN x i b)) (2 ^ (n - 1))
/-- What RestrictTable answers. -/
def Plain.resT (n a i b : Int) : Int × Int × Bool :=
  if isT n a = true ∧ (0 ≤ i ∧ i ≤ n - 1) ∧ (0 ≤ b ∧ b ≤ 1) then (n - 1, (restW n.toNat a.toNat i.toNat b.toNat : Int), true) else (0, 0, false)
theorem resT_yes {n a i b : Nat} (ht : isT n a = true) (hi : (i : Int) ≤ (n : Int) - 1) (hb : (b : Int) ≤ 1) : resT n a i b = ((n : Int) - 1, (restW n a i b : Int), true) := by
  unfold resT; rw [if_pos ⟨ht, ⟨by omega, hi⟩, by omega, hb⟩]; rfl
theorem resT_no {n a i b : Int} (h : ¬ (isT n a = true ∧ (0 ≤ i ∧ i ≤ n - 1) ∧ (0 ≤ b ∧ b ≤ 1))) : resT n a i b = (0, 0, false) := if_neg h

theorem Tab.isVal_yes (b : Int) (h : 0 ≤ b ∧ b ≤ 1) (w : World) :
    Calls Try.prog 126 #[.int .i64 b] w fun e w' => e = .returned (.bool true) ∧ w = w' := by
  rcases (show b = 0 ∨ b = 1 by omega) with rfl | rfl
  all_goals
    clear h
    go_enter Try.func126, Try.ntmps126
    go_wp2
    go_ret
    exact ⟨rfl, rfl⟩

theorem Tab.isVal_no (b : Int) (h : ¬ (0 ≤ b ∧ b ≤ 1)) (w : World) :
    Calls Try.prog 126 #[.int .i64 b] w fun e w' => e = .returned (.bool false) ∧ w = w' := by
  have h0 : (b == 0) = false := by rw [beq_eq_false_iff_ne]; omega
  have h1 : (b == 1) = false := by rw [beq_eq_false_iff_ne]; omega
  clear h
  go_enter Try.func126, Try.ntmps126
  go_wp2
  go_ret
  exact ⟨rfl, rfl⟩

theorem bitN_any {a x : Nat} : bitN a x < 2 := bitN_lt a x
theorem restW_bound (n a i b : Nat) (hn : n ≤ 5) : (restW n a i b : Int) ≤ 4294967295 :=
  tabN_bound _ _ (by have := two_pow_le n hn; have h2 : 2 ^ (n - 1) ≤ 2 ^ n := Nat.pow_le_pow_right (by decide) (by omega); omega)

/-- The function value of RestrictTable: the value of f where bit i is b. -/
theorem Clo.res (p q r a i b x : Nat) (hx : x < 2 ^ 5) (hi : i < 6) (hb : b < 2) (ha : (a : Int) ≤ 4294967295) (W : World)
    (hp : W.cell? ⟨p, 0, none⟩ = some (.int .u64 (a : Int))) (hq : W.cell? ⟨q, 0, none⟩ = some (.int .i64 (i : Int))) (hr : W.cell? ⟨r, 0, none⟩ = some (.int .i64 (b : Int))) :
    Calls Try.prog 127 #[.int .i64 x, .pointer (some ⟨p, 0, none⟩), .pointer (some ⟨q, 0, none⟩), .pointer (some ⟨r, 0, none⟩)] W fun e w' => e = .returned (.int .i64 (bitN a (insN x i b) : Int)) ∧ ∃ m, w' = W.drewN m := by
  have HX := Lib.hid hx
  have HI := Lib.hid hi
  have HB := Lib.hid hb
  have HL := Lib.hid (ins_all x hx i hi b hb).1
  clear hx hi hb
  go_enter Try.func127, Try.ntmps127
  go_wp2_with fail
  go_quiet (first | (go_at_call 128; exact quiet_eq (Tab.insI x i b HX.out HI.out HB.out _)) | (go_at_call 91; exact quiet_eq (Tab.at a _ (by omega) (by have := HL.out; omega) _)))
  go_wp2
  go_ret
  exact ⟨rfl, _, rfl⟩

end Go.Proofs.Ytlmhdocfdpbhmaa

namespace Go.Proofs.Ytlmhdocfdpbhmaa
open Go.RowKit Plain
set_option linter.unusedVariables false

theorem Tab.resI_no1 (n a i b : Int) (hb : -9223372036854775808 ≤ a ∧ a ≤ 9223372036854775807) (ht : isT n a = false) (w : World) :
    Calls Try.prog 108 #[.agg #[.int .i64 n, .int .i64 a], .int .i64 i, .int .i64 b] w fun e w' => e = .returned (.tuple #[.agg #[.int .i64 0, .int .i64 0], .bool false]) ∧ Below w.heap.size w w' := by
  have H := Lib.hid ht
  have HB := Lib.hid hb
  clear ht hb
  go_enter Try.func108, Try.ntmps108
  go_wp2_with fail
  refine (Tab.impl _ _ HB.out _).mono ?_
  rintro e w1 ⟨rfl, hb1⟩
  obtain ⟨hc, hf⟩ := bcell hb1
  have hz : w.heap.size < w1.heap.size ∧ w.heap.size + 1 < w1.heap.size ∧ w.heap.size + 1 + 1 < w1.heap.size ∧ w.heap.size + 1 + 1 + 1 < w1.heap.size := by have := hb1.size; simp at this; omega
  obtain ⟨hz0, hz1, hz2, hz3⟩ := hz
  rw [H.out]
  go_wp2
  exact bodyPost_ret (v := .tuple #[.agg #[.int .i64 0, .int .i64 0], .bool false]) (by simp [results, Try.results108, go_sem, hc]) rfl ⟨rfl, bS (by simp; omega) (bS (by simp; omega) ((((((Below.refl _ _).alloc (Nat.le_refl _) _).alloc (by simp) _).alloc (by simp; omega) _).alloc (by simp; omega) _).trans (hb1.mono (by simp; omega))))⟩

theorem Tab.resI_no2 (n a : Nat) (i b : Int) (ht : isT n a = true) (ha : (a : Int) ≤ 4294967295) (hi : ¬ (0 ≤ i ∧ i ≤ (n : Int) - 1)) (w : World) :
    Calls Try.prog 108 #[.agg #[.int .i64 n, .int .i64 a], .int .i64 i, .int .i64 b] w fun e w' => e = .returned (.tuple #[.agg #[.int .i64 0, .int .i64 0], .bool false]) ∧ Below w.heap.size w w' := by
  have H := Lib.hid ht
  have HI : Hid (¬ (0 ≤ i ∧ i < (n : Int))) := Lib.hid (by omega)
  clear ht hi
  go_enter Try.func108, Try.ntmps108
  go_wp2_with fail
  refine (Tab.impl _ _ (by omega) _).mono ?_
  rintro e w1 ⟨rfl, hb1⟩
  obtain ⟨hc, hf⟩ := bcell hb1
  have hz : w.heap.size < w1.heap.size ∧ w.heap.size + 1 < w1.heap.size ∧ w.heap.size + 1 + 1 < w1.heap.size ∧ w.heap.size + 1 + 1 + 1 < w1.heap.size := by have := hb1.size; simp at this; omega
  obtain ⟨hz0, hz1, hz2, hz3⟩ := hz
  rw [H.out]
  go_wp2_with fail
  refine (Tab.isVar_no _ _ HI.out _).mono ?_
  rintro e w2 ⟨rfl, rfl⟩
  go_wp2
  exact bodyPost_ret (v := .tuple #[.agg #[.int .i64 0, .int .i64 0], .bool false]) (by simp [results, Try.results108, go_sem, hc]) rfl ⟨rfl, bS (by simp; omega) (bS (by simp; omega) ((((((Below.refl _ _).alloc (Nat.le_refl _) _).alloc (by simp) _).alloc (by simp; omega) _).alloc (by simp; omega) _).trans (hb1.mono (by simp; omega))))⟩

theorem Tab.resI_no3 (n a i : Nat) (b : Int) (ht : isT n a = true) (ha : (a : Int) ≤ 4294967295) (hi : (i : Int) ≤ (n : Int) - 1) (hb : ¬ (0 ≤ b ∧ b ≤ 1)) (w : World) :
    Calls Try.prog 108 #[.agg #[.int .i64 n, .int .i64 a], .int .i64 i, .int .i64 b] w fun e w' => e = .returned (.tuple #[.agg #[.int .i64 0, .int .i64 0], .bool false]) ∧ Below w.heap.size w w' := by
  have H := Lib.hid ht
  have HB := Lib.hid hb
  clear ht hb
  go_enter Try.func108, Try.ntmps108
  go_wp2_with fail
  refine (Tab.impl _ _ (by omega) _).mono ?_
  rintro e w1 ⟨rfl, hb1⟩
  obtain ⟨hc, hf⟩ := bcell hb1
  have hz : w.heap.size < w1.heap.size ∧ w.heap.size + 1 < w1.heap.size ∧ w.heap.size + 1 + 1 < w1.heap.size ∧ w.heap.size + 1 + 1 + 1 < w1.heap.size := by have := hb1.size; simp at this; omega
  obtain ⟨hz0, hz1, hz2, hz3⟩ := hz
  rw [H.out]
  go_wp2_with fail
  refine (Tab.isVar_yes _ _ (by omega) _).mono ?_
  rintro e w2 ⟨rfl, rfl⟩
  go_wp2_with fail
  refine (Tab.isVal_no _ HB.out _).mono ?_
  rintro e w2 ⟨rfl, rfl⟩
  go_wp2
  exact bodyPost_ret (v := .tuple #[.agg #[.int .i64 0, .int .i64 0], .bool false]) (by simp [results, Try.results108, go_sem, hc]) rfl ⟨rfl, bS (by simp; omega) (bS (by simp; omega) ((((((Below.refl _ _).alloc (Nat.le_refl _) _).alloc (by simp) _).alloc (by simp; omega) _).alloc (by simp; omega) _).trans (hb1.mono (by simp; omega))))⟩

set_option maxRecDepth 100000 in
set_option maxHeartbeats 800000 in
theorem Tab.resI_yes (n a i b : Nat) (hn : n ≤ 5) (ht : isT n a = true) (ha : (a : Int) ≤ 4294967295) (hi : (i : Int) ≤ (n : Int) - 1) (hb : (b : Int) ≤ 1) (w : World) :
    Calls Try.prog 108 #[.agg #[.int .i64 n, .int .i64 a], .int .i64 i, .int .i64 b] w fun e w' => e = .returned (.tuple #[.agg #[.int .i64 ((n : Int) - 1), .int .i64 (restW n a i b : Int)], .bool true]) ∧ Below w.heap.size w w' := by
  have H := Lib.hid ht
  have HN := Lib.hid hn
  have HE : Hid (((n - 1 : Nat) : Int) = (n : Int) - 1) := Lib.hid (by omega)
  have hn5 : (n : Int) ≤ 5 := by omega
  have hn1 : 1 ≤ (n : Int) := by omega
  clear ht hn
  go_enter Try.func108, Try.ntmps108
  go_wp2_with fail
  refine (Tab.impl _ _ (by omega) _).mono ?_
  rintro e w1 ⟨rfl, hb1⟩
  obtain ⟨hc, hf⟩ := bcell hb1
  have hz : w.heap.size < w1.heap.size ∧ w.heap.size + 1 < w1.heap.size ∧ w.heap.size + 1 + 1 < w1.heap.size ∧ w.heap.size + 1 + 1 + 1 < w1.heap.size := by have := hb1.size; simp at this; omega
  obtain ⟨hz0, hz1, hz2, hz3⟩ := hz
  rw [H.out]
  go_wp2_with fail
  refine (Tab.isVar_yes _ _ (by omega) _).mono ?_
  rintro e w2 ⟨rfl, rfl⟩
  go_wp2_with fail
  refine (Tab.isVal_yes _ (by omega) _).mono ?_
  rintro e w2 ⟨rfl, rfl⟩
  go_wp2_with fail
  rw [← HE.out]
  refine (Tab.from_any (n - 1) (by have := HN.out; omega) (fun x => bitN a (insN x i b)) 127 #[.pointer (some ⟨w1.heap.size, 0, none⟩), .pointer (some ⟨w.heap.size + 1, 0, none⟩), .pointer (some ⟨w.heap.size + 1 + 1, 0, none⟩)] (enters_of Try.func127 (by kernel_rfl) rfl) _ ?gv).mono ?_
  case gv => exact .of_drew fun W x hx hbb => Clo.res _ _ _ a i b x (pow5 (by have := HN.out; omega) hx) (by have := HN.out; omega) (by omega) ha W (cellOn hbb (by simp)) (cellOn hbb (keepA (keepB hb1 (keepA (keepA (keepN (by simp) rfl)))))) (cellOn hbb (keepA (keepB hb1 (keepA (keepN (by simp) rfl)))))
  rw [HE.out]
  rintro e w3 ⟨rfl, hb3⟩
  obtain ⟨hc3, hf3⟩ := bcell hb3
  have hy3 : w1.heap.size < w3.heap.size := by have := hb3.size; simp at this; omega
  go_wp2
  obtain ⟨k0, k1⟩ := keepT (Y := w3) (g := w.heap.size + 1 + 1 + 1) (u := .int .i64 ((n : Int) - 1)) (v := .int .i64 (tabN (fun x => bitN a (insN x i b)) (2 ^ (n - 1)) : Int)) (keepB hb3 (keepA (keepB hb1 (keepN (by simp) rfl)))) (keepB hb3 (keepA (keepB hb1 (keepN (by simp) rfl))))
  exact bodyPost_ret (v := .tuple #[.agg #[.int .i64 ((n : Int) - 1), .int .i64 (tabN (fun x => bitN a (insN x i b)) (2 ^ (n - 1)) : Int)], .bool true]) (by simp [results, Try.results108, go_sem, k0, k1]) rfl ⟨rfl, bS (by simp; omega) (bS (by simp; omega) ((((((((Below.refl _ _).alloc (Nat.le_refl _) _).alloc (by simp) _).alloc (by simp; omega) _).alloc (by simp; omega) _).trans (hb1.mono (by simp; omega))).alloc (by omega) _).trans (hb3.mono (by simp; omega))))⟩

end Go.Proofs.Ytlmhdocfdpbhmaa

namespace Go.Proofs.Ytlmhdocfdpbhmaa
open Go.RowKit Plain
set_option linter.unusedVariables false

theorem mulbit_i64 (a u y : Nat) (ha : (a : Int) ≤ 4294967295) (hu : u < 2) (hy : y ≤ 32) : Go.bits .or .i64 (a : Int) (wrap64 ((u : Int) * (2 : Int) ^ y)) = ((a ||| u * 2 ^ y : Nat) : Int) := by
  have hp := pow_bound y hy
  rw [up2]
  generalize 2 ^ y = p at hp ⊢
  rcases (show u = 0 ∨ u = 1 by omega) with rfl | rfl
  · simp only [Nat.zero_mul]
    rw [show wrap64 (((0 : Nat) : Int) * (p : Int)) = ((0 : Nat) : Int) by rw [IntWalk.wrap64_in _ ⟨by omega, by omega⟩]; omega]
    exact or64 a 0 (by omega) (by omega)
  · rw [show wrap64 (((1 : Nat) : Int) * (p : Int)) = ((1 * p : Nat) : Int) by rw [IntWalk.wrap64_in _ ⟨by omega, by omega⟩]; omega]
    exact or64 a _ (by omega) (by omega)

set_option maxRecDepth 100000 in
set_option maxHeartbeats 1000000 in
theorem Tab.resM_loop (n a i b : Nat) (hn : n ≤ 5) (ha : (a : Int) ≤ 4294967295) (hi : (i : Int) ≤ (n : Int) - 1) (hb : b < 2) (w : World) :
    Calls Try.prog 110 #[.agg #[.int .i64 n, .int .i64 a], .int .i64 i, .int .i64 b] w fun e w' => e = .returned (.agg #[.int .i64 ((n : Int) - 1), .int .i64 (restW n a i b : Int)]) ∧ Below w.heap.size w w' := by
  obtain ⟨hp1, hp2⟩ := two_pow_int (n - 1) (by omega)
  have HB := Lib.hid hb
  have hn5 : (n : Int) ≤ 5 := by omega
  have hn1 : 1 ≤ (n : Int) := by omega
  have HE : Hid (((n : Int) - 1).toNat = n - 1) := Lib.hid (by omega)
  clear hn hb
  go_enter Try.func110, Try.ntmps110
  go_wp2
  go_loopw [7, 8] (fun a' x wr => ∃ y : Nat, x = .int .i64 (y : Int) ∧ a' = .int .i64 (tabN (fun x => bitN a (insN x i b)) y : Int) ∧ (y : Int) ≤ 2 ^ (n - 1) ∧ Below w.heap.size w wr ∧ wr.heap[w.heap.size]? = some (.cells #[.int .i64 n, .int .i64 a] 27 (0, 0)) ∧ wr.heap[w.heap.size + 1]? = some (.cells #[.int .i64 0, .int .i64 0] 27 (0, 0))) (fun _ x _ => 32 - (intOf x).toNat)
  case atStart => exact ⟨0, rfl, rfl, by omega, ((Below.refl _ _).alloc (Nat.le_refl _) _).alloc (by simp) _, heap_alloc2_old w _ _, heap_alloc2_new w _ _⟩
  case round =>
    obtain ⟨y, rfl, rfl, hy, hbel, hx0, hx1⟩ := hrel
    obtain ⟨c0, c1, _, _⟩ := cells2 hx0
    obtain ⟨d0, d1, g0, g1⟩ := cells2 hx1
    have HBEL := Lib.hid hbel
    have HX0 := Lib.hid hx0
    have HX1 := Lib.hid hx1
    have hsz : w.heap.size + 1 < wr.heap.size := lt_of_block hx1
    clear hbel hx0 hx1
    by_cases hlt : (y : Int) < 2 ^ (n - 1)
    · have hvy := tabN_bound (fun x => bitN a (insN x i b)) y (by omega)
      have HO := Lib.hid (mulbit_i64 (tabN (fun x => bitN a (insN x i b)) y) (bitN a (insN y i b)) y hvy bitN_any (by omega))
      have HV := Lib.hid (tabN_mul (v := fun x => bitN a (insN x i b)) (x := y) bitN_any)
      have HA := Lib.hid (bit_i64 a (insN y i b) (by omega))
      have HL := Lib.hid (ins_all y (by omega) i (by omega) b HB.out).1
      have hlb : (insN y i b : Int) ≤ 63 := by have := HL.out; omega
      have hy31 : y < 32 := by omega
      have HY := Lib.hid hy31
      clear hy31
      go_wp2
      go_quiet ((go_at_call 130; exact quiet_more (Tab.insM y i b HY.out (by omega) HB.out _)))
      go_wp2
      go_roundw
      case rel => exact ⟨y + 1, by go_num, by rw [HV.out, ← HO.out, ← HA.out], by omega, below_drewN HBEL.out _, by simpa using HX0.out, by simpa using HX1.out⟩
      case measure => simp [intOf]; omega
    · have he : y = 2 ^ (n - 1) := by rw [up2] at hy hlt; omega
      have HF : Hid (tabN (fun x => bitN a (insN x i b)) y = restW n a i b) := Lib.hid (by rw [he]; rfl)
      clear he
      go_wp2
      obtain ⟨k0, k1⟩ := keepT (Y := wr) (g := w.heap.size + 1) (u := .int .i64 ((n : Int) - 1)) (v := .int .i64 (tabN (fun x => bitN a (insN x i b)) y : Int)) d0 d1
      rw [← HF.out]
      exact bodyPost_ret (v := .agg #[.int .i64 ((n : Int) - 1), .int .i64 (tabN (fun x => bitN a (insN x i b)) y : Int)]) (by simp [results, Try.results110, go_sem, k0, k1]) rfl ⟨rfl, bS (by simp) (bS (by simp) HBEL.out)⟩

/-- RestrictTable of the program. -/
theorem Tab.resI (n a i b : Int) (h64 : -9223372036854775808 ≤ a ∧ a ≤ 9223372036854775807) (w : World) :
    Calls Try.prog 108 #[.agg #[.int .i64 n, .int .i64 a], .int .i64 i, .int .i64 b] w fun e w' => e = .returned (.tuple #[.agg #[.int .i64 (resT n a i b).1, .int .i64 (resT n a i b).2.1], .bool (resT n a i b).2.2]) ∧ Below w.heap.size w w' := by
  by_cases ht : isT n a = true
  · obtain ⟨m, x, rfl, rfl, hm, hx⟩ := isT_nat ht
    have hl : (x : Int) ≤ 4294967295 := by have := fullN_le m hm; omega
    by_cases hi : 0 ≤ i ∧ i ≤ (m : Int) - 1
    · obtain ⟨j, rfl⟩ := Int.eq_ofNat_of_zero_le hi.1
      by_cases hb : 0 ≤ b ∧ b ≤ 1
      · obtain ⟨c, rfl⟩ := Int.eq_ofNat_of_zero_le hb.1
        rw [resT_yes ht hi.2 hb.2]
        exact Tab.resI_yes m x j c hm ht hl hi.2 hb.2 w
      · rw [resT_no fun h => hb h.2.2]
        exact Tab.resI_no3 m x j b ht hl hi.2 hb w
    · rw [resT_no fun h => hi h.2.1]
      exact Tab.resI_no2 m x i b ht hl hi w
  · rw [resT_no fun h => ht h.1]
    exact Tab.resI_no1 n a i b h64 (by simpa using ht) w

end Go.Proofs.Ytlmhdocfdpbhmaa
