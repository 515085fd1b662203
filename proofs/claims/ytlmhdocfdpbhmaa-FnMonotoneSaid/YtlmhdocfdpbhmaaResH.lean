/-
  ShiftTable of the program and of its model.
-/
import Derived.Test.YtlmhdocfdpbhmaaResE
namespace Go.Proofs.Ytlmhdocfdpbhmaa
open Go.RowKit Plain
set_option linter.unusedVariables false

/-- The word of the shifted table. -/
def Plain.shiV (a s : Nat) : Nat → Nat := fun y => bitN a (y ^^^ s)
def Plain.shiW (n a s : Nat) : Nat := tabN (shiV a s) (2 ^ n)
def Plain.shiS (a s : Nat) : Nat → Nat := scN (fun x => x ^^^ s) (bitN a)
theorem xor_back (x s : Nat) : (x ^^^ s) ^^^ s = x := by rw [Nat.xor_assoc, Nat.xor_self, Nat.xor_zero]
theorem shiS_succ (a s y : Nat) : shiS a s (y + 1) = shiS a s y ||| bitN a y * 2 ^ (y ^^^ s) := rfl
theorem shiS_lt (n a s k : Nat) (hs : s < 2 ^ n) (hk : k ≤ 2 ^ n) : shiS a s k < 2 ^ 2 ^ n :=
  scN_lt _ _ k _ (fun _ _ => bitN_any) (fun x hx => Nat.xor_lt_two_pow (by omega) hs)
theorem shi_eq (n a s : Nat) (hs : s < 2 ^ n) : shiS a s (2 ^ n) = shiW n a s :=
  scN_gather _ (fun x => x ^^^ s) _ _ (fun _ _ => bitN_any) (fun x hx => Nat.xor_lt_two_pow hx hs) (fun x hx => Nat.xor_lt_two_pow hx hs) (fun x _ => xor_back x s) (fun x _ => xor_back x s)

/-- What ShiftTable answers. -/
def Plain.shiT (n a x : Int) : Int × Int × Bool :=
  if isT n a = true ∧ (0 ≤ x ∧ x < 2 ^ n.toNat) then (n, (shiW n.toNat a.toNat x.toNat : Int), true) else (0, 0, false)
theorem shiT_yes {n a x : Nat} (ht : isT n a = true) (hx : (x : Int) < 2 ^ n) : shiT n a x = ((n : Int), (shiW n a x : Int), true) := by
  unfold shiT; rw [if_pos ⟨ht, by omega, hx⟩]; rfl
theorem shiT_no {n a x : Int} (h : ¬ (isT n a = true ∧ (0 ≤ x ∧ x < 2 ^ n.toNat))) : shiT n a x = (0, 0, false) := if_neg h

/-- The function value of ShiftTable. -/
theorem Clo.shi (p q a s x : Nat) (hx : x < 2 ^ 5) (hs : s < 2 ^ 5) (ha : (a : Int) ≤ 4294967295) (W : World)
    (hp : W.cell? ⟨p, 0, none⟩ = some (.int .u64 (a : Int))) (hq : W.cell? ⟨q, 0, none⟩ = some (.int .i64 (s : Int))) :
    Calls Try.prog 111 #[.int .i64 x, .pointer (some ⟨p, 0, none⟩), .pointer (some ⟨q, 0, none⟩)] W fun e w' => e = .returned (.int .i64 (shiV a s x : Int)) ∧ W = w' := by
  have HX := Lib.hid (xor64 x s (by omega) (by omega))
  have hl : x ^^^ s < 2 ^ 5 := Nat.xor_lt_two_pow hx hs
  have HL : Hid (x ^^^ s ≤ 63) := Lib.hid (by omega)
  clear hx hs hl
  go_enter Try.func111, Try.ntmps111
  go_wp2_with fail
  rw [HX.out]
  refine (Tab.at a _ (by omega) HL.out _).mono ?_
  rintro e w1 ⟨rfl, rfl⟩
  go_wp2
  go_ret
  exact ⟨rfl, rfl⟩

theorem Tab.shiI_no1 (n a x : Int) (h64 : -9223372036854775808 ≤ a ∧ a ≤ 9223372036854775807) (ht : isT n a = false) (w : World) :
    Calls Try.prog 87 #[.agg #[.int .i64 n, .int .i64 a], .int .i64 x] w fun e w' => e = .returned (.tuple #[.agg #[.int .i64 0, .int .i64 0], .bool false]) ∧ Below w.heap.size w w' := by
  have H := Lib.hid ht
  have HB := Lib.hid h64
  clear ht h64
  go_enter Try.func87, Try.ntmps87
  go_wp2_with fail
  refine (Tab.impl _ _ HB.out _).mono ?_
  rintro e w1 ⟨rfl, hb1⟩
  obtain ⟨hc, hf⟩ := bcell hb1
  obtain ⟨hz0_w1, hz1_w1, hz2_w1⟩ : w.heap.size < w1.heap.size ∧ w.heap.size + 1 < w1.heap.size ∧ w.heap.size + 1 + 1 < w1.heap.size := by have := hb1.size; simp at this; omega
  rw [H.out]
  go_wp2
  exact bodyPost_ret (v := .tuple #[.agg #[.int .i64 0, .int .i64 0], .bool false]) (by simp [results, Try.results87, go_sem, hc]) rfl ⟨rfl, bS (by simp <;> omega) (bS (by simp <;> omega) (((((Below.refl _ _).alloc (Nat.le_refl _) _).alloc (by simp <;> omega) _).alloc (by simp <;> omega) _).trans (hb1.mono (by simp <;> omega))))⟩

theorem Tab.shiI_no2 (n a : Nat) (x : Int) (ht : isT n a = true) (hn : n ≤ 5) (ha : (a : Int) ≤ 4294967295) (hx : ¬ (0 ≤ x ∧ x < 2 ^ n)) (w : World) :
    Calls Try.prog 87 #[.agg #[.int .i64 n, .int .i64 a], .int .i64 x] w fun e w' => e = .returned (.tuple #[.agg #[.int .i64 0, .int .i64 0], .bool false]) ∧ Below w.heap.size w w' := by
  have HX := Lib.hid (inpB_no hx)
  clear hx
  have H := Lib.hid ht
  have HN := Lib.hid hn
  have hn5 : (n : Int) ≤ 5 := by omega
  clear ht hn
  go_enter Try.func87, Try.ntmps87
  go_wp2_with fail
  refine (Tab.impl _ _ (by omega) _).mono ?_
  rintro e w1 ⟨rfl, hb1⟩
  obtain ⟨hc, hf⟩ := bcell hb1
  obtain ⟨hz0_w1, hz1_w1, hz2_w1⟩ : w.heap.size < w1.heap.size ∧ w.heap.size + 1 < w1.heap.size ∧ w.heap.size + 1 + 1 < w1.heap.size := by have := hb1.size; simp at this; omega
  rw [H.out]
  go_wp2_with fail
  refine (Tab.input _ _ HN.out _).mono ?_
  rintro e w2 ⟨rfl, rfl⟩
  rw [HX.out]
  go_wp2
  exact bodyPost_ret (v := .tuple #[.agg #[.int .i64 0, .int .i64 0], .bool false]) (by simp [results, Try.results87, go_sem, hc]) rfl ⟨rfl, bS (by simp <;> omega) (bS (by simp <;> omega) (((((Below.refl _ _).alloc (Nat.le_refl _) _).alloc (by simp <;> omega) _).alloc (by simp <;> omega) _).trans (hb1.mono (by simp <;> omega))))⟩

set_option maxRecDepth 100000 in
set_option maxHeartbeats 1000000 in
theorem Tab.shiI_yes (n a x : Nat) (ht : isT n a = true) (hn : n ≤ 5) (ha : (a : Int) ≤ 4294967295) (hx : (x : Int) < 2 ^ n) (w : World) :
    Calls Try.prog 87 #[.agg #[.int .i64 n, .int .i64 a], .int .i64 x] w fun e w' => e = .returned (.tuple #[.agg #[.int .i64 n, .int .i64 (shiW n a x : Int)], .bool true]) ∧ Below w.heap.size w w' := by
  have HX := Lib.hid (inpB_yes (n := n) (x := (x : Int)) ⟨by omega, hx⟩)
  have HX5 : Hid (x < 2 ^ 5) := Lib.hid (pow5 hn (by rw [up2] at hx; omega))
  clear hx
  have H := Lib.hid ht
  have HN := Lib.hid hn
  have hn5 : (n : Int) ≤ 5 := by omega
  clear ht hn
  go_enter Try.func87, Try.ntmps87
  go_wp2_with fail
  refine (Tab.impl _ _ (by omega) _).mono ?_
  rintro e w1 ⟨rfl, hb1⟩
  obtain ⟨hc, hf⟩ := bcell hb1
  obtain ⟨hz0_w1, hz1_w1, hz2_w1⟩ : w.heap.size < w1.heap.size ∧ w.heap.size + 1 < w1.heap.size ∧ w.heap.size + 1 + 1 < w1.heap.size := by have := hb1.size; simp at this; omega
  rw [H.out]
  go_wp2_with fail
  refine (Tab.input _ _ HN.out _).mono ?_
  rintro e w2 ⟨rfl, rfl⟩
  rw [HX.out]
  go_wp2_with fail
  refine (Tab.from_any n HN.out (shiV a x) 111 #[.pointer (some ⟨w1.heap.size, 0, none⟩), .pointer (some ⟨w.heap.size + 1, 0, none⟩)] (enters_of Try.func111 (by kernel_rfl) rfl) _ ?gv).mono ?_
  case gv => exact .of_same fun W y hy hbb => Clo.shi _ _ a x y (pow5 HN.out hy) HX5.out ha W (cellOn hbb (keepN rfl rfl)) (cellOn hbb (keepA (keepB hb1 (keepA (keepN (by simp) rfl)))))
  rintro e w3 ⟨rfl, hb3⟩
  obtain ⟨hc3, hf3⟩ := bcell hb3
  have hy3 : w1.heap.size < w3.heap.size := by have := hb3.size; simp at this; omega
  go_wp2
  obtain ⟨k0, k1⟩ := keepT (Y := w3) (g := w.heap.size + 1 + 1) (u := .int .i64 (n : Int)) (v := .int .i64 (tabN (shiV a x) (2 ^ n) : Int)) (keepB hb3 (keepA (keepB hb1 (keepN (by simp) rfl)))) (keepB hb3 (keepA (keepB hb1 (keepN (by simp) rfl))))
  exact bodyPost_ret (v := .tuple #[.agg #[.int .i64 n, .int .i64 (tabN (shiV a x) (2 ^ n) : Int)], .bool true]) (by simp [results, Try.results87, go_sem, k0, k1]) rfl ⟨rfl, bS (by simp <;> omega) (bS (by simp <;> omega) (((((((Below.refl _ _).alloc (Nat.le_refl _) _).alloc (by simp <;> omega) _).alloc (by simp <;> omega) _).trans (hb1.mono (by simp <;> omega))).alloc (by omega) _).trans (hb3.mono (by simp <;> omega))))⟩

set_option maxRecDepth 100000 in
set_option maxHeartbeats 1000000 in
theorem Tab.shiM_loop (n a s : Nat) (hn : n ≤ 5) (ha : (a : Int) ≤ 4294967295) (hs : s < 2 ^ n) (w : World) :
    Calls Try.prog 76 #[.agg #[.int .i64 n, .int .i64 a], .int .i64 s] w fun e w' => e = .returned (.agg #[.int .i64 n, .int .i64 (shiW n a s : Int)]) ∧ Below w.heap.size w w' := by
  obtain ⟨hp1, hp2⟩ := two_pow_int n hn
  have HS := Lib.hid hs
  have HN := Lib.hid hn
  have HE := Lib.hid (shi_eq n a s hs)
  have hn5 : (n : Int) ≤ 5 := by omega
  clear hn hs
  go_enter Try.func76, Try.ntmps76
  go_wp2
  go_loopw [5, 6] (fun a' x wr => ∃ y : Nat, x = .int .i64 (y : Int) ∧ a' = .int .i64 (shiS a s y : Int) ∧ (y : Int) ≤ 2 ^ n ∧ Below w.heap.size w wr ∧ wr.heap[w.heap.size]? = some (.cells #[.int .i64 n, .int .i64 a] 27 (0, 0)) ∧ wr.heap[w.heap.size + 1]? = some (.cells #[.int .i64 0, .int .i64 0] 27 (0, 0))) (fun _ x _ => 32 - (intOf x).toNat)
  case atStart => exact ⟨0, rfl, rfl, by omega, ((Below.refl _ _).alloc (Nat.le_refl _) _).alloc (by simp) _, heap_alloc2_old w _ _, heap_alloc2_new w _ _⟩
  case round =>
    obtain ⟨y, rfl, rfl, hy, hbel, hx0, hx1⟩ := hrel
    obtain ⟨c0, c1, _, _⟩ := cells2 hx0
    obtain ⟨d0, d1, g0, g1⟩ := cells2 hx1
    have HBEL := Lib.hid hbel
    have HX0 := Lib.hid hx0
    have HX1 := Lib.hid hx1
    have hsz : w.heap.size + 1 < wr.heap.size := lt_of_block hx1
    clear hbel hx0 hx1
    by_cases hlt : (y : Int) < 2 ^ n
    · have hyn : y < 2 ^ n := by rw [up2] at hlt; omega
      have hq := two_pow_le n HN.out
      have hpw : 2 ^ 2 ^ n ≤ 2 ^ 32 := Nat.pow_le_pow_right (by decide) (by omega)
      have hs0 := shiS_lt n a s y HS.out (by omega)
      have hs31 := HS.out
      have hvy : (shiS a s y : Int) ≤ 4294967295 := by omega
      have hxl : y ^^^ s < 2 ^ n := Nat.xor_lt_two_pow hyn HS.out
      have HXX := Lib.hid (xor64 y s (by omega) (by omega))
      have HO := Lib.hid (mulbit_i64 (shiS a s y) (bitN a y) (y ^^^ s) hvy bitN_any (by omega))
      have HA := Lib.hid (bit_i64 a y (by omega))
      have HV := Lib.hid (shiS_succ a s y)
      have hxb : ((y ^^^ s : Nat) : Int) ≤ 63 := by omega
      have hxp : (0 : Int) ≤ Go.bits .xor .i64 (y : Int) (s : Int) ∧ Go.bits .xor .i64 (y : Int) (s : Int) ≤ 63 := by rw [HXX.out]; omega
      have hxt : Hid ((Go.bits .xor .i64 (y : Int) (s : Int)).toNat = y ^^^ s) := Lib.hid (by rw [HXX.out]; rfl)
      obtain ⟨hxp0, hxp1⟩ := hxp
      clear hyn hq hpw hs0 hs31 hxl
      go_wp2
      go_roundw
      case rel => exact ⟨y + 1, by go_num, by rw [HV.out, ← HO.out, ← HA.out, hxt.out], by omega, HBEL.out, HX0.out, HX1.out⟩
      case measure => simp [intOf]; omega
    · have he : y = 2 ^ n := by rw [up2] at hy hlt; omega
      have HF : Hid (shiS a s y = shiW n a s) := Lib.hid (by rw [he]; exact HE.out)
      clear he
      go_wp2
      obtain ⟨k0, k1⟩ := keepT (Y := wr) (g := w.heap.size + 1) (u := .int .i64 (n : Int)) (v := .int .i64 (shiS a s y : Int)) d0 d1
      rw [← HF.out]
      exact bodyPost_ret (v := .agg #[.int .i64 n, .int .i64 (shiS a s y : Int)]) (by simp [results, Try.results76, go_sem, k0, k1]) rfl ⟨rfl, bS (by simp) (bS (by simp) HBEL.out)⟩

/-- ShiftTable of the program. -/
theorem Tab.shiI (n a x : Int) (h64 : -9223372036854775808 ≤ a ∧ a ≤ 9223372036854775807) (w : World) :
    Calls Try.prog 87 #[.agg #[.int .i64 n, .int .i64 a], .int .i64 x] w fun e w' => e = .returned (.tuple #[.agg #[.int .i64 (shiT n a x).1, .int .i64 (shiT n a x).2.1], .bool (shiT n a x).2.2]) ∧ Below w.heap.size w w' := by
  by_cases ht : isT n a = true
  · obtain ⟨m, y, rfl, rfl, hm, hy⟩ := isT_nat ht
    have hl : (y : Int) ≤ 4294967295 := by have := fullN_le m hm; omega
    by_cases hx : 0 ≤ x ∧ x < 2 ^ m
    · obtain ⟨j, rfl⟩ := Int.eq_ofNat_of_zero_le hx.1
      rw [shiT_yes ht hx.2]
      exact Tab.shiI_yes m y j ht hm hl hx.2 w
    · rw [shiT_no fun h => hx h.2]
      exact Tab.shiI_no2 m y x ht hm hl hx w
  · rw [shiT_no fun h => ht h.1]
    exact Tab.shiI_no1 n a x h64 (by simpa using ht) w

end Go.Proofs.Ytlmhdocfdpbhmaa
