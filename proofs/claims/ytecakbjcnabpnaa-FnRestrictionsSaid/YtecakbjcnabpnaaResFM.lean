/-
  JoinTables of the model, and both at every argument.
-/
import Derived.Test.YtecakbjcnabpnaaResFI
namespace Go.Proofs.Ytecakbjcnabpnaa
open Go.RowKit Plain
set_option linter.unusedVariables false

theorem blocks3 (w : World) (A B C : Obj) : (((w.alloc A).alloc B).alloc C).heap[w.heap.size]? = some A ∧ (((w.alloc A).alloc B).alloc C).heap[w.heap.size + 1]? = some B ∧ (((w.alloc A).alloc B).alloc C).heap[w.heap.size + 1 + 1]? = some C := by
  refine ⟨?_, ?_, ?_⟩
  · exact (((Below.refl _ _).alloc (Nat.le_refl _) C).block _ (by simp; omega)).trans (heap_alloc2_old w A B)
  · exact heap_alloc2_old (w.alloc A) B C |> fun h => by simpa using h
  · exact heap_alloc2_new (w.alloc A) B C |> fun h => by simpa using h

theorem Tab.insM0 (x i : Nat) (hx : x < 32) (hi : i < 6) (w : World) :
    Calls Try.prog 87 #[.int .i64 x, .int .i64 i, .int .i64 0] w fun e w' => e = .returned (.int .i64 (insN x i 0 : Int)) ∧ ∃ m, w' = w.drewN m := Tab.insM x i 0 hx hi (by decide) w
theorem Tab.insM1 (x i : Nat) (hx : x < 32) (hi : i < 6) (w : World) :
    Calls Try.prog 87 #[.int .i64 x, .int .i64 i, .int .i64 1] w fun e w' => e = .returned (.int .i64 (insN x i 1 : Int)) ∧ ∃ m, w' = w.drewN m := Tab.insM x i 1 hx hi (by decide) w

theorem Tab.joinM_no1 (n a m b i : Int) (hf : fitB n a m b = false) (w : World) :
    Calls Try.prog 30 #[.agg #[.int .i64 n, .int .i64 a], .agg #[.int .i64 m, .int .i64 b], .int .i64 i] w fun e w' => e = .returned (.tuple #[.agg #[.int .i64 0, .int .i64 0], .bool false]) ∧ Below w.heap.size w w' := by
  have H := Lib.hid hf
  clear hf
  go_enter Try.func30, Try.ntmps30
  go_wp2_with fail
  refine (Tab.fitM _ _ _ _ _).mono ?_
  rintro e w1 ⟨rfl, hb1⟩
  obtain ⟨hc, hf⟩ := bcell hb1
  obtain ⟨hz0_w1, hz1_w1, hz2_w1⟩ : w.heap.size < w1.heap.size ∧ w.heap.size + 1 < w1.heap.size ∧ w.heap.size + 1 + 1 < w1.heap.size := by have := hb1.size; simp at this; omega
  rw [H.out]
  go_wp2
  exact bodyPost_ret (v := .tuple #[.agg #[.int .i64 0, .int .i64 0], .bool false]) (by simp [results, Try.results30, go_sem, hc]) rfl ⟨rfl, bS (by simp <;> omega) (bS (by simp <;> omega) (((((Below.refl _ _).alloc (Nat.le_refl _) _).alloc (by simp <;> omega) _).alloc (by simp <;> omega) _).trans (hb1.mono (by simp <;> omega))))⟩

theorem Tab.joinM_no2 (a b : Nat) (i : Int) (hf : fitB 5 a 5 b = true) (w : World) :
    Calls Try.prog 30 #[.agg #[.int .i64 5, .int .i64 a], .agg #[.int .i64 5, .int .i64 b], .int .i64 i] w fun e w' => e = .returned (.tuple #[.agg #[.int .i64 0, .int .i64 0], .bool false]) ∧ Below w.heap.size w w' := by
  have H := Lib.hid hf
  clear hf
  go_enter Try.func30, Try.ntmps30
  go_wp2_with fail
  refine (Tab.fitM _ _ _ _ _).mono ?_
  rintro e w1 ⟨rfl, hb1⟩
  obtain ⟨hc, hf⟩ := bcell hb1
  obtain ⟨hz0_w1, hz1_w1, hz2_w1⟩ : w.heap.size < w1.heap.size ∧ w.heap.size + 1 < w1.heap.size ∧ w.heap.size + 1 + 1 < w1.heap.size := by have := hb1.size; simp at this; omega
  rw [H.out]
  go_wp2
  exact bodyPost_ret (v := .tuple #[.agg #[.int .i64 0, .int .i64 0], .bool false]) (by simp [results, Try.results30, go_sem, hc]) rfl ⟨rfl, bS (by simp <;> omega) (bS (by simp <;> omega) (((((Below.refl _ _).alloc (Nat.le_refl _) _).alloc (by simp <;> omega) _).alloc (by simp <;> omega) _).trans (hb1.mono (by simp <;> omega))))⟩

theorem Tab.joinM_no3 (n a b : Nat) (i : Int) (hn : n ≤ 4) (hf : fitB n a n b = true) (hi : ¬ (0 ≤ i ∧ i ≤ (n : Int))) (w : World) :
    Calls Try.prog 30 #[.agg #[.int .i64 n, .int .i64 a], .agg #[.int .i64 n, .int .i64 b], .int .i64 i] w fun e w' => e = .returned (.tuple #[.agg #[.int .i64 0, .int .i64 0], .bool false]) ∧ Below w.heap.size w w' := by
  have H := Lib.hid hf
  have h5 : ((n : Int) == 5) = false := by rw [beq_eq_false_iff_ne]; omega
  have hn4 : (n : Int) ≤ 4 := by omega
  clear hf
  have HI := Lib.hid hi
  clear hi hn
  go_enter Try.func30, Try.ntmps30
  go_wp2_with fail
  refine (Tab.fitM _ _ _ _ _).mono ?_
  rintro e w1 ⟨rfl, hb1⟩
  obtain ⟨hc, hf⟩ := bcell hb1
  obtain ⟨hz0_w1, hz1_w1, hz2_w1⟩ : w.heap.size < w1.heap.size ∧ w.heap.size + 1 < w1.heap.size ∧ w.heap.size + 1 + 1 < w1.heap.size := by have := hb1.size; simp at this; omega
  rw [H.out]
  go_wp2_with fail
  refine (Widths.in_no _ _ _ HI.out _).mono ?_
  rintro e w2 ⟨rfl, rfl⟩
  go_wp2
  exact bodyPost_ret (v := .tuple #[.agg #[.int .i64 0, .int .i64 0], .bool false]) (by simp [results, Try.results30, go_sem, hc]) rfl ⟨rfl, bS (by simp <;> omega) (bS (by simp <;> omega) (((((Below.refl _ _).alloc (Nat.le_refl _) _).alloc (by simp <;> omega) _).alloc (by simp <;> omega) _).trans (hb1.mono (by simp <;> omega))))⟩

set_option maxRecDepth 100000 in
set_option maxHeartbeats 1000000 in
theorem Tab.joinM_yes (n a b i : Nat) (hn : n ≤ 4) (ha : (a : Int) ≤ 4294967295) (hb : (b : Int) ≤ 4294967295) (hf : fitB n a n b = true) (hi : (i : Int) ≤ (n : Int)) (w : World) :
    Calls Try.prog 30 #[.agg #[.int .i64 n, .int .i64 a], .agg #[.int .i64 n, .int .i64 b], .int .i64 i] w fun e w' => e = .returned (.tuple #[.agg #[.int .i64 ((n : Int) + 1), .int .i64 (joinW n a b i : Int)], .bool true]) ∧ Below w.heap.size w w' := by
  have H := Lib.hid hf
  have h5 : ((n : Int) == 5) = false := by rw [beq_eq_false_iff_ne]; omega
  have hn4 : (n : Int) ≤ 4 := by omega
  clear hf
  have HN := Lib.hid hn
  have HS := fun y (h : y ≤ 2 ^ n) => joinS_lt n a b i y hn (by omega) h
  have HSS := Lib.hid HS
  have HJ := Lib.hid (join_eq n a b i hn (by omega))
  obtain ⟨hp1, hp2⟩ := two_pow_int n (by omega)
  have HI6 : Hid (i < 6) := Lib.hid (by omega)
  clear hn HS
  go_enter Try.func30, Try.ntmps30
  go_wp2_with fail
  refine (Tab.fitM _ _ _ _ _).mono ?_
  rintro e w1 ⟨rfl, hb1⟩
  obtain ⟨hc, hf⟩ := bcell hb1
  obtain ⟨hz0_w1, hz1_w1, hz2_w1⟩ : w.heap.size < w1.heap.size ∧ w.heap.size + 1 < w1.heap.size ∧ w.heap.size + 1 + 1 < w1.heap.size := by have := hb1.size; simp at this; omega
  rw [H.out]
  go_wp2_with fail
  refine (Widths.in_yes _ _ _ (by omega) _).mono ?_
  rintro e w2 ⟨rfl, rfl⟩
  go_wp2_with fail
  go_loopw [8, 9] (fun a' x wr => ∃ y : Nat, x = .int .i64 (y : Int) ∧ a' = .int .i64 (joinS a b i y : Int) ∧ (y : Int) ≤ 2 ^ n ∧ Below w.heap.size w wr ∧ wr.heap[w.heap.size]? = some (.cells #[.int .i64 n, .int .i64 a] 25 (0, 0)) ∧ wr.heap[w.heap.size + 1]? = some (.cells #[.int .i64 n, .int .i64 b] 25 (0, 0)) ∧ wr.heap[w.heap.size + 1 + 1]? = some (.cells #[.int .i64 0, .int .i64 0] 25 (0, 0))) (fun _ x _ => 32 - (intOf x).toNat)
  case atStart =>
    obtain ⟨b0, b1, b2⟩ := blocks3 w (.cells #[.int .i64 n, .int .i64 a] 25) (.cells #[.int .i64 n, .int .i64 b] 25) (.cells #[.int .i64 0, .int .i64 0] 25)
    exact ⟨0, rfl, rfl, by omega, ((((Below.refl _ _).alloc (Nat.le_refl _) _).alloc (by simp <;> omega) _).alloc (by simp <;> omega) _).trans (hb1.mono (by simp <;> omega)), blockOn b0 hb1, blockOn b1 hb1, blockOn b2 hb1⟩
  case round =>
    obtain ⟨y, rfl, rfl, hy, hbel, hx0, hx1, hx2⟩ := hrel
    obtain ⟨c0, c1, _, _⟩ := cells2 hx0
    obtain ⟨d0, d1, _, _⟩ := cells2 hx1
    obtain ⟨e0, e1, g0, g1⟩ := cells2 hx2
    have HBEL := Lib.hid hbel
    have HX0 := Lib.hid hx0
    have HX1 := Lib.hid hx1
    have HX2 := Lib.hid hx2
    have hsz : w.heap.size + 1 + 1 < wr.heap.size := lt_of_block hx2
    clear hbel hx0 hx1 hx2 hc hf
    by_cases hlt : (y : Int) < 2 ^ n
    · have hyn : y < 2 ^ n := by rw [up2] at hlt; omega
      have hs := HSS.out y (by omega)
      have hs1 := HSS.out (y + 1) (by omega)
      have hpw : 2 ^ 2 ^ (n + 1) ≤ 2 ^ 32 := Nat.pow_le_pow_right (by decide) (by have := two_pow_le (n + 1) (by have := HN.out; omega); omega)
      have hvy : (joinS a b i y : Int) ≤ 4294967295 := by omega
      have hy31 : y < 32 := by omega
      have z0 := ins_size n (by have := HN.out; omega) y hyn hy31 i (by omega) 0 (by decide)
      have z1 := ins_size n (by have := HN.out; omega) y hyn hy31 i (by omega) 1 (by decide)
      have hq := two_pow_le (n + 1) (by have := HN.out; omega)
      have hor : (joinS a b i y ||| bitN a y * 2 ^ insN y i 0 : Nat) < 2 ^ 32 := Nat.or_lt_two_pow (by omega) (by
        have := bitN_lt a y
        have h32 : 2 ^ insN y i 0 < 2 ^ 32 := Nat.pow_lt_pow_right (by decide) (by omega)
        rcases bitN_cases a y with h | h <;> rw [h] <;> omega)
      have O1 := Lib.hid (mulbit_i64 (joinS a b i y) (bitN a y) (insN y i 0) hvy bitN_any (by omega))
      have O2 := Lib.hid (mulbit_i64 (joinS a b i y ||| bitN a y * 2 ^ insN y i 0) (bitN b y) (insN y i 1) (by omega) bitN_any (by omega))
      have A1 := Lib.hid (bit_i64 a y (by omega))
      have A2 := Lib.hid (bit_i64 b y (by omega))
      have HY := Lib.hid hy31
      have l0 : (insN y i 0 : Int) ≤ 63 := by omega
      have l1 : (insN y i 1 : Int) ≤ 63 := by omega
      have HV : Hid (joinS a b i (y + 1) = (joinS a b i y ||| bitN a y * 2 ^ insN y i 0) ||| bitN b y * 2 ^ insN y i 1) := Lib.hid rfl
      clear hyn hs hs1 hpw z0 z1 hq hor hy31
      go_wp2
      go_quiet ((go_at_call 87; (first | (with_reducible exact quiet_more (Tab.insM0 y i HY.out HI6.out _)) | (with_reducible exact quiet_more (Tab.insM1 y i HY.out HI6.out _)))))
      go_wp2
      go_roundw
      case rel => exact ⟨y + 1, by go_num, by rw [HV.out, ← O2.out, ← O1.out, ← A1.out, ← A2.out], by omega, below_drewN HBEL.out _, by simpa using HX0.out, by simpa using HX1.out, by simpa using HX2.out⟩
      case measure => simp [intOf]; omega
    · have he : y = 2 ^ n := by rw [up2] at hy hlt; omega
      have HF : Hid (joinS a b i y = joinW n a b i) := Lib.hid (by rw [he]; exact HJ.out)
      clear he
      go_wp2
      obtain ⟨k0, k1⟩ := keepT (Y := wr) (g := w.heap.size + 1 + 1) (u := .int .i64 ((n : Int) + 1)) (v := .int .i64 (joinS a b i y : Int)) e0 e1
      rw [← HF.out]
      exact bodyPost_ret (v := .tuple #[.agg #[.int .i64 ((n : Int) + 1), .int .i64 (joinS a b i y : Int)], .bool true]) (by simp [results, Try.results30, go_sem, k0, k1]) rfl ⟨rfl, bS (by simp <;> omega) (bS (by simp <;> omega) HBEL.out)⟩

/-- JoinTables of the model. -/
theorem Tab.joinM (n a m b i : Int) (w : World) :
    Calls Try.prog 30 #[.agg #[.int .i64 n, .int .i64 a], .agg #[.int .i64 m, .int .i64 b], .int .i64 i] w fun e w' => e = .returned (.tuple #[.agg #[.int .i64 (joinT n a m b i).1, .int .i64 (joinT n a m b i).2.1], .bool (joinT n a m b i).2.2]) ∧ Below w.heap.size w w' := by
  by_cases hf : fitB n a m b = true
  · obtain ⟨ht, ht', rfl⟩ := fitB_yes hf
    obtain ⟨k, x, rfl, rfl, hk, hx⟩ := isT_nat ht
    obtain ⟨k', y, hkk, rfl, _, hy⟩ := isT_nat ht'
    obtain rfl : k = k' := by omega
    have hl : (x : Int) ≤ 4294967295 := by have := fullN_le k hk; omega
    have hl' : (y : Int) ≤ 4294967295 := by have := fullN_le k hk; omega
    by_cases h5 : (k : Int) = 5
    · rw [h5] at hf ⊢
      rw [joinT_no fun h => h.2.1 rfl]
      exact Tab.joinM_no2 x y i hf w
    · by_cases hi : 0 ≤ i ∧ i ≤ (k : Int)
      · obtain ⟨j, rfl⟩ := Int.eq_ofNat_of_zero_le hi.1
        rw [joinT_yes hf h5 hi.2]
        exact Tab.joinM_yes k x y j (by omega) hl hl' hf hi.2 w
      · rw [joinT_no fun h => hi h.2.2]
        exact Tab.joinM_no3 k x y i (by omega) hf hi w
  · rw [joinT_no fun h => hf h.1]
    exact Tab.joinM_no1 n a m b i (by simpa using hf) w

/-- JoinTables of the program. -/
theorem Tab.joinI (n a m b i : Int) (ha : -9223372036854775808 ≤ a ∧ a ≤ 9223372036854775807) (hb : -9223372036854775808 ≤ b ∧ b ≤ 9223372036854775807) (w : World) :
    Calls Try.prog 14 #[.agg #[.int .i64 n, .int .i64 a], .agg #[.int .i64 m, .int .i64 b], .int .i64 i] w fun e w' => e = .returned (.tuple #[.agg #[.int .i64 (joinT n a m b i).1, .int .i64 (joinT n a m b i).2.1], .bool (joinT n a m b i).2.2]) ∧ Below w.heap.size w w' := by
  by_cases hf : fitB n a m b = true
  · obtain ⟨ht, ht', rfl⟩ := fitB_yes hf
    obtain ⟨k, x, rfl, rfl, hk, hx⟩ := isT_nat ht
    obtain ⟨k', y, hkk, rfl, _, hy⟩ := isT_nat ht'
    obtain rfl : k = k' := by omega
    have hl : (x : Int) ≤ 4294967295 := by have := fullN_le k hk; omega
    have hl' : (y : Int) ≤ 4294967295 := by have := fullN_le k hk; omega
    by_cases h5 : (k : Int) = 5
    · rw [h5] at hf ⊢
      rw [joinT_no fun h => h.2.1 rfl]
      exact Tab.joinI_no2 x y i hl hl' hf w
    · by_cases hi : 0 ≤ i ∧ i ≤ (k : Int)
      · obtain ⟨j, rfl⟩ := Int.eq_ofNat_of_zero_le hi.1
        rw [joinT_yes hf h5 hi.2]
        exact Tab.joinI_yes k x y j (by omega) hl hl' hf hi.2 w
      · rw [joinT_no fun h => hi h.2.2]
        exact Tab.joinI_no3 k x y i (by omega) hl hl' hf hi w
  · rw [joinT_no fun h => hf h.1]
    exact Tab.joinI_no1 n a m b i ha hb (by simpa using hf) w

end Go.Proofs.Ytecakbjcnabpnaa
