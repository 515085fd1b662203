/-
  PermuteTable of the program.
-/
import Derived.Test.YtecakbjcnabpnaaResI
namespace Go.Proofs.Ytecakbjcnabpnaa
open Go.RowKit Plain
set_option linter.unusedVariables false

/-- What PermuteTable answers. -/
def Plain.perT (n a : Int) (l : List Int) : Int × Int × Bool :=
  if isT n a = true ∧ permB l n.toNat = true then (n, (perW n.toNat a.toNat l : Int), true) else (0, 0, false)
theorem perT_yes {n a : Nat} {l : List Int} (ht : isT n a = true) (hp : permB l n = true) : perT n a l = ((n : Int), (perW n a l : Int), true) := by
  unfold perT; rw [if_pos ⟨ht, hp⟩]; rfl
theorem perT_no {n a : Int} {l : List Int} (h : ¬ (isT n a = true ∧ permB l n.toNat = true)) : perT n a l = (0, 0, false) := if_neg h

set_option maxRecDepth 100000 in
set_option maxHeartbeats 1000000 in
/-- The function value of PermuteTable. -/
theorem Clo.per (p q a n y : Nat) (v : Value) (l : List Int) (hn : n ≤ 5) (hy : y < 2 ^ 5) (hp : permB l n = true) (ha : (a : Int) ≤ 4294967295) (W : World)
    (hv : IntsIn W v l) (hpc : W.cell? ⟨p, 0, none⟩ = some v) (hq : W.cell? ⟨q, 0, none⟩ = some (.int .u64 (a : Int))) :
    Calls Try.prog 77 #[.int .i64 y, .pointer (some ⟨p, 0, none⟩), .pointer (some ⟨q, 0, none⟩)] W fun e w' => e = .returned (.int .i64 (perV a l n y : Int)) ∧ W = w' := by
  obtain ⟨hlen, hr, hpt, _, _⟩ := permB_facts hn hp
  have HR := Lib.hid hr
  have HP := Lib.hid hpt
  have HN := Lib.hid hn
  have HL := Lib.hid hlen
  have hy5 : (y : Int) ≤ 31 := by omega
  have hn5 : (n : Int) ≤ 5 := by omega
  obtain ⟨ad, cap, rfl, hl, _, hrd⟩ := hv
  rw [hlen] at hrd hpc
  have HRD := Lib.hid hrd
  clear hr hpt hn hlen hrd hy hp hl
  go_enter Try.func77, Try.ntmps77
  go_wp2
  go_loop [5, 6, 7, 10] (fun x _ _ i => ∃ k : Nat, i = .int .i64 (k : Int) ∧ k ≤ n ∧ x = .int .i64 (tabN (fun i => bitN y (pAt l i)) k : Int)) (fun _ _ _ i => n - (intOf i).toNat)
  case atStart => exact ⟨0, rfl, by omega, rfl⟩
  case round =>
    obtain ⟨k, rfl, hk, rfl⟩ := hrel
    by_cases hlt : k < n
    · obtain ⟨b, off, rfl, hbw, hcl⟩ := HRD.out (by omega)
      have hcp := hcl k hlt
      have hp := pAt_int (HR.out k hlt)
      rw [← hp.1] at hcp
      have hpk := hp.2
      have hx := tabN_lt (fun i => bitN y (pAt l i)) k
      have hx2 : 2 ^ k ≤ 2 ^ 5 := Nat.pow_le_pow_right (by decide) (by have := HN.out; omega)
      have hxz : (tabN (fun i => bitN y (pAt l i)) k : Int) ≤ 31 := by omega
      have HO := Lib.hid (mulbit_i64 (tabN (fun i => bitN y (pAt l i)) k) (bitN y (pAt l k)) k (by omega) bitN_any (by have := HN.out; omega))
      have HV := Lib.hid (tabN_mul (v := fun i => bitN y (pAt l i)) (x := k) bitN_any)
      have HA := Lib.hid (bit_i64 y (pAt l k) (by omega))
      have hpz : (pAt l k : Int) ≤ 4 := by omega
      have hkz : (k : Int) < (n : Int) := by omega
      clear hcl hp hpk hx hx2
      generalize pAt l k = j at hcp HO HA hpz HV
      generalize tabN (fun i => bitN y (pAt l i)) k = t at HO hxz HV ⊢
      go_wp2
      go_round
      case rel => exact ⟨k + 1, by go_num, by omega, by rw [HV.out, ← HO.out, ← HA.out]⟩
      case measure => simp [intOf] <;> omega
    · obtain rfl : k = n := by omega
      have hx := tabN_lt (fun i => bitN y (pAt l i)) k
      have hx2 : 2 ^ k ≤ 2 ^ 5 := Nat.pow_le_pow_right (by decide) HN.out
      have HX : Hid (tabN (fun i => bitN y (pAt l i)) k ≤ 63) := Lib.hid (by omega)
      clear hx hx2
      go_wp2_with fail
      refine (Tab.at a _ (by omega) HX.out _).mono ?_
      rintro e w1 ⟨rfl, rfl⟩
      go_wp2
      go_ret
      exact ⟨rfl, rfl⟩

theorem Tab.perI_no1 (n a : Int) (ad : Option Addr) (cl cap : Nat) (l : List Int) (h64 : -9223372036854775808 ≤ a ∧ a ≤ 9223372036854775807) (ht : isT n a = false) (w : World) (hv : IntsIn w (.slice ad cl cap) l) :
    Calls Try.prog 19 #[.agg #[.int .i64 n, .int .i64 a], .slice ad cl cap] w fun e w' => e = .returned (.tuple #[.agg #[.int .i64 0, .int .i64 0], .bool false]) ∧ Below w.heap.size w w' := by
  have H := Lib.hid ht
  have HB := Lib.hid h64
  clear ht h64
  go_enter Try.func19, Try.ntmps19
  go_wp2_with fail
  refine (Tab.impl _ _ HB.out _).mono ?_
  rintro e w1 ⟨rfl, hb1⟩
  obtain ⟨hc, hf⟩ := bcell hb1
  obtain ⟨hz0_w1, hz1_w1, hz2_w1⟩ : w.heap.size < w1.heap.size ∧ w.heap.size + 1 < w1.heap.size ∧ w.heap.size + 1 + 1 < w1.heap.size := by have := hb1.size; simp at this; omega
  rw [H.out]
  go_wp2
  exact bodyPost_ret (v := .tuple #[.agg #[.int .i64 0, .int .i64 0], .bool false]) (by simp [results, Try.results19, go_sem, hc]) rfl ⟨rfl, bS (by simp <;> omega) (bS (by simp <;> omega) (((((Below.refl _ _).alloc (Nat.le_refl _) _).alloc (by simp <;> omega) _).alloc (by simp <;> omega) _).trans (hb1.mono (by simp <;> omega))))⟩

set_option maxRecDepth 100000 in
set_option maxHeartbeats 1000000 in
theorem Tab.perI_no2 (n a : Nat) (ad : Option Addr) (cl cap : Nat) (l : List Int) (ht : isT n a = true) (hn : n ≤ 5) (ha : (a : Int) ≤ 4294967295) (hp : permB l n = false) (w : World) (hv : IntsIn w (.slice ad cl cap) l) :
    Calls Try.prog 19 #[.agg #[.int .i64 n, .int .i64 a], .slice ad cl cap] w fun e w' => e = .returned (.tuple #[.agg #[.int .i64 0, .int .i64 0], .bool false]) ∧ Below w.heap.size w w' := by
  have H := Lib.hid ht
  have HN := Lib.hid hn
  have HP := Lib.hid hp
  have hn5 : (n : Int) ≤ 5 := by omega
  have HVI : Hid (∀ w1 : World, Below (((w.alloc (.cells #[.int .i64 n, .int .i64 a] 25)).alloc (.cells #[.slice ad cl cap] 34)).alloc (.cells #[.int .i64 0, .int .i64 0] 25)).heap.size (((w.alloc (.cells #[.int .i64 n, .int .i64 a] 25)).alloc (.cells #[.slice ad cl cap] 34)).alloc (.cells #[.int .i64 0, .int .i64 0] 25)) w1 → IntsIn w1 (.slice ad cl cap) l) :=
    Lib.hid fun w1 hb => hv.below (((((Below.refl _ _).alloc (Nat.le_refl _) _).alloc (by simp) _).alloc (by simp <;> omega) _).trans (hb.mono (by simp <;> omega)))
  clear ht hn hp hv
  go_enter Try.func19, Try.ntmps19
  go_wp2_with fail
  refine (Tab.impl _ _ (by omega) _).mono ?_
  rintro e w1 ⟨rfl, hb1⟩
  obtain ⟨hc, hf⟩ := bcell hb1
  obtain ⟨hz0_w1, hz1_w1, hz2_w1⟩ : w.heap.size < w1.heap.size ∧ w.heap.size + 1 < w1.heap.size ∧ w.heap.size + 1 + 1 < w1.heap.size := by have := hb1.size; simp at this; omega
  rw [H.out]
  go_wp2_with fail
  refine (Tab.ord n HN.out (.slice ad cl cap) l _ (HVI.out _ hb1)).mono ?_
  rintro e w2 ⟨rfl, hb2⟩
  rw [HP.out]
  obtain ⟨hc2, hf2⟩ := bcell hb2
  have hs2 := hb2.size
  have HB2 := Lib.hid (((((Below.refl _ _).alloc (Nat.le_refl _) _).alloc (by simp <;> omega) _).alloc (by simp <;> omega) _).trans (hb1.mono (by simp <;> omega)) |>.trans (hb2.mono (by omega)))
  obtain ⟨hy0, hy1, hy2⟩ : w.heap.size < w2.heap.size ∧ w.heap.size + 1 < w2.heap.size ∧ w.heap.size + 1 + 1 < w2.heap.size := by omega
  go_wp2
  obtain ⟨k0, k1⟩ := keepT (Y := w2) (g := w.heap.size + 1 + 1) (u := .int .i64 0) (v := .int .i64 0) (keepB hb2 (keepB hb1 (keepN (by simp) rfl))) (keepB hb2 (keepB hb1 (keepN (by simp) rfl)))
  exact bodyPost_ret (v := .tuple #[.agg #[.int .i64 0, .int .i64 0], .bool false]) (by simp [results, Try.results19, go_sem, k0, k1]) rfl ⟨rfl, bS (by simp <;> omega) (bS (by simp <;> omega) HB2.out)⟩

set_option maxRecDepth 100000 in
set_option maxHeartbeats 1000000 in
theorem Tab.perI_yes (n a : Nat) (ad : Option Addr) (cl cap : Nat) (l : List Int) (ht : isT n a = true) (hn : n ≤ 5) (ha : (a : Int) ≤ 4294967295) (hp : permB l n = true) (w : World) (hv : IntsIn w (.slice ad cl cap) l) :
    Calls Try.prog 19 #[.agg #[.int .i64 n, .int .i64 a], .slice ad cl cap] w fun e w' => e = .returned (.tuple #[.agg #[.int .i64 n, .int .i64 (perW n a l : Int)], .bool true]) ∧ Below w.heap.size w w' := by
  have H := Lib.hid ht
  have HN := Lib.hid hn
  have HP := Lib.hid hp
  have hn5 : (n : Int) ≤ 5 := by omega
  have HVI : Hid (∀ w1 : World, Below (((w.alloc (.cells #[.int .i64 n, .int .i64 a] 25)).alloc (.cells #[.slice ad cl cap] 34)).alloc (.cells #[.int .i64 0, .int .i64 0] 25)).heap.size (((w.alloc (.cells #[.int .i64 n, .int .i64 a] 25)).alloc (.cells #[.slice ad cl cap] 34)).alloc (.cells #[.int .i64 0, .int .i64 0] 25)) w1 → IntsIn w1 (.slice ad cl cap) l) :=
    Lib.hid fun w1 hb => hv.below (((((Below.refl _ _).alloc (Nat.le_refl _) _).alloc (by simp) _).alloc (by simp <;> omega) _).trans (hb.mono (by simp <;> omega)))
  clear ht hn hp hv
  go_enter Try.func19, Try.ntmps19
  go_wp2_with fail
  refine (Tab.impl _ _ (by omega) _).mono ?_
  rintro e w1 ⟨rfl, hb1⟩
  obtain ⟨hc, hf⟩ := bcell hb1
  obtain ⟨hz0_w1, hz1_w1, hz2_w1⟩ : w.heap.size < w1.heap.size ∧ w.heap.size + 1 < w1.heap.size ∧ w.heap.size + 1 + 1 < w1.heap.size := by have := hb1.size; simp at this; omega
  rw [H.out]
  go_wp2_with fail
  refine (Tab.ord n HN.out (.slice ad cl cap) l _ (HVI.out _ hb1)).mono ?_
  rintro e w2 ⟨rfl, hb2⟩
  rw [HP.out]
  obtain ⟨hc2, hf2⟩ := bcell hb2
  have hs2 := hb2.size
  have HB2 := Lib.hid (((((Below.refl _ _).alloc (Nat.le_refl _) _).alloc (by simp <;> omega) _).alloc (by simp <;> omega) _).trans (hb1.mono (by simp <;> omega)) |>.trans (hb2.mono (by omega)))
  obtain ⟨hy0, hy1, hy2⟩ : w.heap.size < w2.heap.size ∧ w.heap.size + 1 < w2.heap.size ∧ w.heap.size + 1 + 1 < w2.heap.size := by omega
  have c1 : w2.cell? ⟨w.heap.size + 1, 0, none⟩ = some (.slice ad cl cap) := keepB hb2 (keepB hb1 (keepA (keepN (by simp) rfl)))
  have HV2 := Lib.hid ((HVI.out _ hb1).below hb2)
  go_wp2_with fail
  refine (Tab.from_any n HN.out (perV a l n) 77 #[.pointer (some ⟨w.heap.size + 1, 0, none⟩), .pointer (some ⟨w2.heap.size, 0, none⟩)] (enters_of Try.func77 (by kernel_rfl) rfl) _ ?gv).mono ?_
  case gv => exact .of_same fun W y hy hbb => Clo.per _ _ a n y (.slice ad cl cap) l HN.out (pow5 HN.out hy) HP.out ha W ((HV2.out.below ((Below.refl _ _).alloc (Nat.le_refl _) _)).below hbb) (cellOn hbb (keepA c1)) (cellOn hbb (keepN rfl rfl))
  rintro e w3 ⟨rfl, hb3⟩
  obtain ⟨hc3, hf3⟩ := bcell hb3
  have hs3 := hb3.size
  simp only [World.size_alloc] at hs3
  go_wp2
  obtain ⟨k0, k1⟩ := keepT (Y := w3) (g := w.heap.size + 1 + 1) (u := .int .i64 (n : Int)) (v := .int .i64 (tabN (perV a l n) (2 ^ n) : Int)) (keepB hb3 (keepA (keepB hb2 (keepB hb1 (keepN (by simp) rfl))))) (keepB hb3 (keepA (keepB hb2 (keepB hb1 (keepN (by simp) rfl)))))
  exact bodyPost_ret (v := .tuple #[.agg #[.int .i64 n, .int .i64 (tabN (perV a l n) (2 ^ n) : Int)], .bool true]) (by simp [results, Try.results19, go_sem, k0, k1]) rfl ⟨rfl, bS (by simp <;> omega) (bS (by simp <;> omega) ((HB2.out.alloc (by omega) _).trans (hb3.mono (by simp <;> omega))))⟩

/-- PermuteTable of the program. -/
theorem Tab.perI (n a : Int) (ad : Option Addr) (cl cap : Nat) (l : List Int) (h64 : -9223372036854775808 ≤ a ∧ a ≤ 9223372036854775807) (w : World) (hv : IntsIn w (.slice ad cl cap) l) :
    Calls Try.prog 19 #[.agg #[.int .i64 n, .int .i64 a], .slice ad cl cap] w fun e w' => e = .returned (.tuple #[.agg #[.int .i64 (perT n a l).1, .int .i64 (perT n a l).2.1], .bool (perT n a l).2.2]) ∧ Below w.heap.size w w' := by
  by_cases ht : isT n a = true
  · obtain ⟨m, y, rfl, rfl, hm, hy⟩ := isT_nat ht
    have hl : (y : Int) ≤ 4294967295 := by have := fullN_le m hm; omega
    cases hp : permB l m with
    | true =>
      rw [perT_yes ht hp]
      exact Tab.perI_yes m y ad cl cap l ht hm hl hp w hv
    | false =>
      rw [perT_no fun h => by have := h.2; rw [Int.toNat_natCast, hp] at this; cases this]
      exact Tab.perI_no2 m y ad cl cap l ht hm hl hp w hv
  · rw [perT_no fun h => ht h.1]
    exact Tab.perI_no1 n a ad cl cap l h64 (by simpa using ht) w hv
end Go.Proofs.Ytecakbjcnabpnaa
