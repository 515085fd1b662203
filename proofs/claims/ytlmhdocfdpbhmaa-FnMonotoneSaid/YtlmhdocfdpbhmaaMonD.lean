/-
  Chapter 15: DualTable, IsSelfDual of both.
-/
import Derived.Test.YtlmhdocfdpbhmaaMonM
namespace Go.Proofs.Ytlmhdocfdpbhmaa
open Go.RowKit Plain
set_option linter.unusedVariables false
set_option linter.unusedSimpArgs false
attribute [local go_sem ↓] Go.wp_at_zero Go.wp_at_succ

theorem below_of_drew {w w' : World} (h : Below w.drew.heap.size w.drew w') : Below w.heap.size w w' := ⟨h.os, h.tape, h.output, h.size, h.block⟩
/-- The word of the dual. -/
def Plain.dulW (n a : Nat) : Nat := fullN n - shiW n a (2 ^ n - 1)
/-- What DualTable answers. -/
def Plain.dulT (n a : Int) : Int × Int × Bool := if isT n a = true then (n, (dulW n.toNat a.toNat : Int), true) else (0, 0, false)
theorem dulT_yes {n a : Nat} (h : isT n a = true) : dulT n a = ((n : Int), (dulW n a : Int), true) := if_pos h
theorem dulT_no {n a : Int} (h : isT n a = false) : dulT n a = (0, 0, false) := if_neg (by rw [h]; decide)

theorem Dua.impl_no (n a : Int) (hb : -9223372036854775808 ≤ a ∧ a ≤ 9223372036854775807) (ht : isT n a = false) (w : World) :
    Calls Try.prog 44 #[.agg #[.int .i64 n, .int .i64 a]] w fun e w' => e = .returned (.tuple #[.agg #[.int .i64 0, .int .i64 0], .bool false]) ∧ Below w.heap.size w w' := by
  have H := Lib.hid ht
  have HB := Lib.hid hb
  clear ht hb
  go_enter Try.func44, Try.ntmps44
  go_wp2_with fail
  refine (Tab.impl _ _ HB.out _).mono ?_
  rintro e w1 ⟨rfl, hb1⟩
  obtain ⟨hc1, hf1⟩ := bcell hb1
  have hz : w.heap.size + 1 < w1.heap.size := by have := hb1.size; simp at this; omega
  rw [H.out]
  go_wp2
  exact bodyPost_ret (v := .tuple #[.agg #[.int .i64 0, .int .i64 0], .bool false]) (by simp [results, Try.results44, go_sem, hc1]) rfl ⟨rfl, by exact (((((Below.refl _ _).alloc (Nat.le_refl _) _).alloc (by simp) _).trans (hb1.mono (by simp; omega))).setCell (by simp) _).setCell (by simp) _⟩

theorem Dua.model_no (n a : Int) (ht : isT n a = false) (w : World) :
    Calls Try.prog 22 #[.agg #[.int .i64 n, .int .i64 a]] w fun e w' => e = .returned (.tuple #[.agg #[.int .i64 0, .int .i64 0], .bool false]) ∧ Below w.heap.size w w' := by
  have H := Lib.hid ht
  clear ht
  go_enter Try.func22, Try.ntmps22
  go_wp2_with fail
  refine (Tab.model _ _ _).mono ?_
  rintro e w1 ⟨rfl, hb1⟩
  obtain ⟨hc1, hf1⟩ := bcell hb1
  have hz : w.heap.size + 1 < w1.heap.size := by have := hb1.size; simp at this; omega
  rw [H.out]
  go_wp2
  exact bodyPost_ret (v := .tuple #[.agg #[.int .i64 0, .int .i64 0], .bool false]) (by simp [results, Try.results22, go_sem, hc1]) rfl ⟨rfl, by exact (((((Below.refl _ _).alloc (Nat.le_refl _) _).alloc (by simp) _).trans (hb1.mono (by simp; omega))).setCell (by simp) _).setCell (by simp) _⟩

set_option maxRecDepth 100000 in
set_option maxHeartbeats 2000000 in
theorem Dua.impl_yes (n a : Nat) (hn : n ≤ 5) (ht : isT n a = true) (ha : (a : Int) ≤ 4294967295) (w : World) :
    Calls Try.prog 44 #[.agg #[.int .i64 n, .int .i64 a]] w fun e w' => e = .returned (.tuple #[.agg #[.int .i64 n, .int .i64 (dulW n a : Int)], .bool true]) ∧ Below w.heap.size w w' := by
  have H := Lib.hid ht
  have hn5 : (n : Int) ≤ 5 := by omega
  have h32 := two_pow_le n hn
  have hpos : 0 < 2 ^ n := Nat.pow_pos (by decide)
  have HC := Lib.hid (Tab.count n hn)
  have HS := Lib.hid (Tab.shiI_yes n a (2 ^ n - 1) ht hn ha (by rw [up2]; omega))
  have hsf : shiW n a (2 ^ n - 1) ≤ fullN n := tabN_full _ _
  have HNT := Lib.hid (Tab.notI_yes n (shiW n a (2 ^ n - 1)) hn hsf)
  have HD : Hid (fullN n - shiW n a (2 ^ n - 1) = dulW n a) := Lib.hid rfl
  generalize dulW n a = D at *
  generalize fullN n - shiW n a (2 ^ n - 1) = D2 at *
  obtain ⟨M, hM⟩ : ∃ M, 2 ^ n = M := ⟨_, rfl⟩
  rw [hM] at h32 HC hpos HS HNT
  have hsub : ((M - 1 : Nat) : Int) = (M : Int) - 1 := by omega
  have hwm : IntKind.i64.wrap ((M : Int) - 1) = (M : Int) - 1 := by rw [IntKind.wrap_i64]; omega
  rw [hsub] at HS
  generalize shiW n a (M - 1) = s at *
  clear hM ht hn hsf hsub
  go_enter Try.func44, Try.ntmps44
  go_wp2_with fail
  refine (Tab.impl _ _ (by omega) _).mono ?_
  rintro e w1 ⟨rfl, hb1⟩
  rw [H.out]
  have hz : w.heap.size + 2 ≤ w1.heap.size := by simpa using hb1.size
  have HT := Lib.hid (blockOn (b := w.heap.size) (heap_alloc2_old w _ _) hb1)
  have HZ := Lib.hid (blockOn (b := w.heap.size + 1) (heap_alloc2_new w _ _) hb1)
  have HB1 := Lib.hid (bB hb1 (by simp; omega) (bA (by simp) (bA (Nat.le_refl _) (Below.refl w.heap.size w))))
  clear hb1
  obtain ⟨c0, c1, f0, f1⟩ := cells2 HT.out
  go_upto_region 3 with fail
  go_cut [4, 5] (fun s4 s5 wx => ∃ g : Nat, s4 = .pointer (some ⟨g, 0, none⟩) ∧ s5 = .bool true ∧ wx.cell? ⟨g, 0, none⟩ = some (.int .i64 n) ∧ wx.cell? ⟨g, 1, none⟩ = some (.int .i64 s) ∧ w1.heap.size ≤ g ∧ g < wx.heap.size ∧ Below w1.heap.size w1 wx)
  case first =>
    go_region_held3 (fun w' => w'.cell? ⟨w.heap.size, 0, none⟩ = some (.int .i64 n) ∧ w'.cell? ⟨w.heap.size, 1, none⟩ = some (.int .i64 a)) ((first | (go_split_ands; (try dsimp only); (refine ⟨?_, ?_⟩ <;> (repeat (first | with_reducible assumption | ((with_reducible refine keepU ?_); (with_reducible assumption)) | (with_reducible refine keepD ?_) | ((with_reducible refine keepN ?_ ?_); (focus (simp; done)); (focus rfl)) | (with_reducible refine keepA ?_) | ((with_reducible refine keepS ?_ ?_); (focus (dsimp only; omega))) | (with_reducible refine keepB hb ?_)))); done) | go_keep))
      (first
        | (go_at_call 88; refine (HC.out _).mono ?_; rintro e w' ⟨rfl, rfl⟩)
        | (go_at_call 87; refine (HS.out _).mono ?_; rintro e w14 ⟨rfl, hb⟩; obtain ⟨hc, hf⟩ := bcell hb; have hs := hb.size; simp only [World.size_alloc, World.size_drew] at hs))
    all_goals
      go_wp2_with fail
      go_meet
      refine ⟨_, rfl, rfl, ?_, ?_, ?_, ?_, ?_⟩
      · first | exact keepN rfl rfl | (refine (keepT (a := .int .i64 0) (b := .int .i64 0) ?_ ?_).1 <;> (repeat (first | with_reducible assumption | ((with_reducible refine keepU ?_); (with_reducible assumption)) | (with_reducible refine keepD ?_) | ((with_reducible refine keepN ?_ ?_); (focus (simp; done)); (focus rfl)) | (with_reducible refine keepA ?_) | ((with_reducible refine keepS ?_ ?_); (focus (dsimp only; omega))) | (with_reducible refine keepB hb ?_))))
      · first | exact keepN rfl rfl | (refine (keepT (a := .int .i64 0) (b := .int .i64 0) ?_ ?_).2 <;> (repeat (first | with_reducible assumption | ((with_reducible refine keepU ?_); (with_reducible assumption)) | (with_reducible refine keepD ?_) | ((with_reducible refine keepN ?_ ?_); (focus (simp; done)); (focus rfl)) | (with_reducible refine keepA ?_) | ((with_reducible refine keepS ?_ ?_); (focus (dsimp only; omega))) | (with_reducible refine keepB hb ?_))))
      · first | omega | (simp; done) | (simp; omega)
      · first | omega | (simp; done) | (simp; omega)
      · repeat (first | (with_reducible exact Below.refl _ _) | (with_reducible assumption) | ((with_reducible refine bS ?_ ?_); (focus (dsimp only; first | omega | (simp; done) | (simp; omega)))) | ((with_reducible refine bA ?_ ?_); (focus (first | omega | (simp; done) | (simp; omega)))) | (with_reducible refine bD ?_) | ((with_reducible refine bB hb ?_ ?_); (focus (first | omega | (simp; done) | (simp; omega)))))
  case rest =>
    obtain ⟨g, rfl, rfl, d0, d1, hg1, hg2, hbx⟩ := hcut
    have HZ3 := Lib.hid (blockOn (b := w.heap.size + 1) HZ.out hbx)
    have HB2 := Lib.hid (bB hbx (by omega) HB1.out)
    have hz2 := hbx.size
    clear hbx c0 c1 f0 f1
    go_wp2_with fail
    refine (HNT.out _).mono ?_
    rintro e w3 ⟨rfl, hb3⟩
    obtain ⟨y0, y1, e1, e2⟩ := cells2 (blockOn HZ3.out hb3)
    have HB3 := Lib.hid (bB hb3 (by omega) HB2.out)
    clear hb3
    rw [HD.out]
    go_wp2
    obtain ⟨k0, k1⟩ := keepT (Y := w3) (g := w.heap.size + 1) (u := .int .i64 n) (v := .int .i64 (D : Int)) y0 y1
    exact bodyPost_ret (v := .tuple #[.agg #[.int .i64 n, .int .i64 (D : Int)], .bool true]) (by simp [results, Try.results44, go_sem, k0, k1]) rfl ⟨rfl, bS (by simp) (bS (by simp) HB3.out)⟩

set_option maxRecDepth 100000 in
set_option maxHeartbeats 2000000 in
theorem Dua.model_yes (n a : Nat) (hn : n ≤ 5) (ht : isT n a = true) (ha : (a : Int) ≤ 4294967295) (w : World) :
    Calls Try.prog 22 #[.agg #[.int .i64 n, .int .i64 a]] w fun e w' => e = .returned (.tuple #[.agg #[.int .i64 n, .int .i64 (dulW n a : Int)], .bool true]) ∧ Below w.heap.size w w' := by
  have H := Lib.hid ht
  have hn5 : (n : Int) ≤ 5 := by omega
  have h32 := two_pow_le n hn
  have hpos : 0 < 2 ^ n := Nat.pow_pos (by decide)
  have HS := Lib.hid (Tab.shiM_loop n a (2 ^ n - 1) hn ha (by omega))
  have hsf : shiW n a (2 ^ n - 1) ≤ fullN n := tabN_full _ _
  have hfl := fullN_le n hn
  have HF := Lib.hid (fun w => Tab.fullM n hn w)
  have hD : ((dulW n a : Nat) : Int) = (fullN n : Int) - (shiW n a (2 ^ n - 1) : Int) := by unfold Plain.dulW; omega
  have hsb : (shiW n a (2 ^ n - 1) : Int) ≤ (fullN n : Int) := by omega
  generalize dulW n a = D at *
  generalize fullN n = F at *
  obtain ⟨hsh1, hsh2, _⟩ := shl_at n (by omega)
  obtain ⟨M, hM⟩ : ∃ M, 2 ^ n = M := ⟨_, rfl⟩
  rw [hM] at h32 hpos HS hsb hD hsh1 hsh2
  have hsub : ((M - 1 : Nat) : Int) = (M : Int) - 1 := by omega
  have hwm : IntKind.i64.wrap ((M : Int) - 1) = (M : Int) - 1 := by rw [IntKind.wrap_i64]; omega
  rw [hsub] at HS
  generalize shiW n a (M - 1) = s at *
  rw [hD]
  have hwd : IntKind.i64.wrap ((F : Int) - (s : Int)) = (F : Int) - (s : Int) := by rw [IntKind.wrap_i64]; omega
  clear hM ht hn hsf hsub hD
  go_enter Try.func22, Try.ntmps22
  go_wp2_with fail
  refine (Tab.model _ _ _).mono ?_
  rintro e w1 ⟨rfl, hb1⟩
  rw [H.out]
  have hz : w.heap.size + 2 ≤ w1.heap.size := by simpa using hb1.size
  have HT := Lib.hid (blockOn (b := w.heap.size) (heap_alloc2_old w _ _) hb1)
  have HZ := Lib.hid (blockOn (b := w.heap.size + 1) (heap_alloc2_new w _ _) hb1)
  have HB1 := Lib.hid (bB hb1 (by simp; omega) (bA (by simp) (bA (Nat.le_refl _) (Below.refl w.heap.size w))))
  clear hb1
  obtain ⟨c0, c1, f0, f1⟩ := cells2 HT.out
  go_upto_region 3 with fail
  go_cut [4] (fun s4 wx => ∃ g : Nat, s4 = .pointer (some ⟨g, 0, none⟩) ∧ wx.cell? ⟨g, 0, none⟩ = some (.int .i64 n) ∧ wx.cell? ⟨g, 1, none⟩ = some (.int .i64 s) ∧ w1.heap.size ≤ g ∧ g < wx.heap.size ∧ Below w1.heap.size w1 wx)
  case first =>
    go_region_held3 (fun w' => w'.cell? ⟨w.heap.size, 0, none⟩ = some (.int .i64 n) ∧ w'.cell? ⟨w.heap.size, 1, none⟩ = some (.int .i64 a)) ((first | (go_split_ands; (try dsimp only); (refine ⟨?_, ?_⟩ <;> (repeat (first | with_reducible assumption | ((with_reducible refine keepU ?_); (with_reducible assumption)) | (with_reducible refine keepD ?_) | ((with_reducible refine keepN ?_ ?_); (focus (simp; done)); (focus rfl)) | (with_reducible refine keepA ?_) | ((with_reducible refine keepS ?_ ?_); (focus (dsimp only; omega))) | (with_reducible refine keepB hb ?_)))); done) | go_keep))
      (first
        | (go_at_call 76; refine (HS.out _).mono ?_; rintro e w14 ⟨rfl, hb⟩; obtain ⟨hc, hf⟩ := bcell hb; have hs := hb.size; simp only [World.size_alloc, World.size_drew] at hs))
    all_goals
      go_wp2_with fail
      go_meet
      refine ⟨_, rfl, ?_, ?_, ?_, ?_, ?_⟩
      · first | exact keepN rfl rfl | (refine (keepT (a := .int .i64 0) (b := .int .i64 0) ?_ ?_).1 <;> (repeat (first | with_reducible assumption | ((with_reducible refine keepU ?_); (with_reducible assumption)) | (with_reducible refine keepD ?_) | ((with_reducible refine keepN ?_ ?_); (focus (simp; done)); (focus rfl)) | (with_reducible refine keepA ?_) | ((with_reducible refine keepS ?_ ?_); (focus (dsimp only; omega))) | (with_reducible refine keepB hb ?_))))
      · first | exact keepN rfl rfl | (refine (keepT (a := .int .i64 0) (b := .int .i64 0) ?_ ?_).2 <;> (repeat (first | with_reducible assumption | ((with_reducible refine keepU ?_); (with_reducible assumption)) | (with_reducible refine keepD ?_) | ((with_reducible refine keepN ?_ ?_); (focus (simp; done)); (focus rfl)) | (with_reducible refine keepA ?_) | ((with_reducible refine keepS ?_ ?_); (focus (dsimp only; omega))) | (with_reducible refine keepB hb ?_))))
      · first | omega | (simp; done) | (simp; omega)
      · first | omega | (simp; done) | (simp; omega)
      · repeat (first | (with_reducible exact Below.refl _ _) | (with_reducible assumption) | ((with_reducible refine bS ?_ ?_); (focus (dsimp only; first | omega | (simp; done) | (simp; omega)))) | ((with_reducible refine bA ?_ ?_); (focus (first | omega | (simp; done) | (simp; omega)))) | (with_reducible refine bD ?_) | ((with_reducible refine bB hb ?_ ?_); (focus (first | omega | (simp; done) | (simp; omega)))))
  case rest =>
    obtain ⟨b, rfl, d0, d1, hg1, hg2, hbx⟩ := hcut
    obtain ⟨X, rfl⟩ : ∃ X, X = wc := ⟨_, rfl⟩
    have HT2 := Lib.hid (blockOn (b := w.heap.size) HT.out hbx)
    have HZ2 := Lib.hid (blockOn (b := w.heap.size + 1) HZ.out hbx)
    have HB2 := Lib.hid (bB hbx (by omega) HB1.out)
    have hz2 := hbx.size
    clear hbx c0 c1 f0 f1
    obtain ⟨c0, c1, f0, f1⟩ := cells2 HT2.out
    obtain ⟨z0, z1, i0, i1⟩ := cells2 HZ2.out
    go_wp2_with fail
    go_region_held3 (fun w' => w'.cell? ⟨w.heap.size, 0, none⟩ = some (.int .i64 n) ∧ w'.cell? ⟨b, 1, none⟩ = some (.int .i64 s)) ((first | (go_split_ands; (try dsimp only); (refine ⟨?_, ?_⟩ <;> (repeat (first | with_reducible assumption | ((with_reducible refine keepU ?_); (with_reducible assumption)) | (with_reducible refine keepD ?_) | ((with_reducible refine keepN ?_ ?_); (focus (simp; done)); (focus rfl)) | (with_reducible refine keepA ?_) | ((with_reducible refine keepS ?_ ?_); (focus (dsimp only; omega))) | (fail)))); done) | go_keep))
      (first
        | (go_at_call 77; refine (HF.out _).mono ?_; rintro e w' ⟨rfl, rfl⟩))
    all_goals
      go_wp2
      obtain ⟨k0, k1⟩ := keepT (Y := X) (g := w.heap.size + 1) (u := .int .i64 n) (v := .int .i64 ((F : Int) - (s : Int))) z0 z1
      exact bodyPost_ret (v := .tuple #[.agg #[.int .i64 n, .int .i64 ((F : Int) - (s : Int))], .bool true]) (by simp [results, Try.results22, go_sem, k0, k1, hwd]) rfl ⟨rfl, bS (by simp) (bS (by simp) (bD HB2.out))⟩

/-- DualTable. -/
theorem Dua.impl (n a : Int) (hb : -9223372036854775808 ≤ a ∧ a ≤ 9223372036854775807) (w : World) :
    Calls Try.prog 44 #[.agg #[.int .i64 n, .int .i64 a]] w fun e w' => e = .returned (tbV (dulT n a)) ∧ Below w.heap.size w w' := by
  cases ht : isT n a with
  | false => rw [dulT_no ht]; exact Dua.impl_no n a hb ht w
  | true =>
    obtain ⟨n, a, rfl, rfl, hn, ha⟩ := isT_nat ht
    rw [dulT_yes ht]
    exact Dua.impl_yes n a hn ht (by have := fullN_le n hn; omega) w
theorem Dua.model (n a : Int) (w : World) :
    Calls Try.prog 22 #[.agg #[.int .i64 n, .int .i64 a]] w fun e w' => e = .returned (tbV (dulT n a)) ∧ Below w.heap.size w w' := by
  cases ht : isT n a with
  | false => rw [dulT_no ht]; exact Dua.model_no n a ht w
  | true =>
    obtain ⟨n, a, rfl, rfl, hn, ha⟩ := isT_nat ht
    rw [dulT_yes ht]
    exact Dua.model_yes n a hn ht (by have := fullN_le n hn; omega) w

/-- What IsSelfDual answers. -/
def Plain.sdT (n a : Int) : Bool := (dulT n a).2.2 && decide ((dulT n a).2.1 = a)
theorem dulT_same (n a : Int) : (dulT n a).2.2 = true → (dulT n a).1 = n := by
  cases ht : isT n a with
  | false => rw [dulT_no ht]; intro h; exact absurd h (by decide)
  | true =>
    intro _
    unfold Plain.dulT
    rw [if_pos ht]

set_option maxRecDepth 100000 in
theorem Sdl.impl (n a : Int) (hb : -9223372036854775808 ≤ a ∧ a ≤ 9223372036854775807) (w : World) :
    Calls Try.prog 47 #[.agg #[.int .i64 n, .int .i64 a]] w fun e w' => e = .returned (.bool (sdT n a)) ∧ Below w.heap.size w w' := by
  have HI := Lib.hid (Dua.impl n a hb)
  have h1 := dulT_same n a
  have HS : Hid (sdT n a = ((dulT n a).2.2 && decide ((dulT n a).2.1 = a))) := Lib.hid rfl
  unfold tbV at HI
  generalize sdT n a = q at *
  generalize dulT n a = r at *
  obtain ⟨r1, r2, r3⟩ := r
  dsimp only at *
  clear hb
  cases r3 with
  | false =>
    clear h1
    go_enter Try.func47, Try.ntmps47
    go_wp2_with fail
    refine (HI.out _).mono ?_
    rintro e w1 ⟨rfl, hb1⟩
    obtain ⟨hc, hf⟩ := bcell hb1
    have hz : w.heap.size < w1.heap.size := by have := hb1.size; simp at this; omega
    go_wp2
    go_ret
    exact ⟨by rw [HS.out]; rfl, bA (by omega) (bB hb1 (by simp) (bA (Nat.le_refl _) (Below.refl _ _)))⟩
  | true =>
    obtain rfl := h1 rfl
    go_enter Try.func47, Try.ntmps47
    go_wp2_with fail
    refine (HI.out _).mono ?_
    rintro e w1 ⟨rfl, hb1⟩
    obtain ⟨hc, hf⟩ := bcell hb1
    have hz : w.heap.size < w1.heap.size := by have := hb1.size; simp at this; omega
    have HB1 := Lib.hid (bA (o := .cells #[.int .i64 r1, .int .i64 r2] 27) (by omega) (bB hb1 (by simp) (bA (Nat.le_refl _) (Below.refl w.heap.size w))))
    clear hb1 h1
    by_cases hq : r2 = a
    · subst hq
      have HQ : Hid (q = true) := Lib.hid (by rw [HS.out]; simp)
      go_wp2
      go_ret
      exact ⟨by rw [HQ.out]; rfl, HB1.out⟩
    · have HQ : Hid (q = false) := Lib.hid (by rw [HS.out]; simp [hq])
      go_wp2
      go_ret
      exact ⟨by rw [HQ.out]; rfl, HB1.out⟩

set_option maxRecDepth 100000 in
theorem Sdl.model (n a : Int) (w : World) :
    Calls Try.prog 57 #[.agg #[.int .i64 n, .int .i64 a]] w fun e w' => e = .returned (.bool (sdT n a)) ∧ Below w.heap.size w w' := by
  have HI := Lib.hid (Dua.model n a)
  have HS : Hid (sdT n a = ((dulT n a).2.2 && decide ((dulT n a).2.1 = a))) := Lib.hid rfl
  unfold tbV at HI
  generalize sdT n a = q at *
  generalize dulT n a = r at *
  obtain ⟨r1, r2, r3⟩ := r
  dsimp only at *
  cases r3 with
  | false =>
    go_enter Try.func57, Try.ntmps57
    go_wp2_with fail
    refine (HI.out _).mono ?_
    rintro e w1 ⟨rfl, hb1⟩
    obtain ⟨hc, hf⟩ := bcell hb1
    have hz : w.heap.size < w1.heap.size := by have := hb1.size; simp at this; omega
    go_wp2
    go_ret
    exact ⟨by rw [HS.out]; rfl, bA (by omega) (bB hb1 (by simp) (bA (Nat.le_refl _) (Below.refl _ _)))⟩
  | true =>
    go_enter Try.func57, Try.ntmps57
    go_wp2_with fail
    refine (HI.out _).mono ?_
    rintro e w1 ⟨rfl, hb1⟩
    obtain ⟨hc, hf⟩ := bcell hb1
    have hz : w.heap.size < w1.heap.size := by have := hb1.size; simp at this; omega
    have HB1 := Lib.hid (bA (o := .cells #[.int .i64 r1, .int .i64 r2] 27) (by omega) (bB hb1 (by simp) (bA (Nat.le_refl _) (Below.refl w.heap.size w))))
    clear hb1
    by_cases hq : r2 = a
    · subst hq
      have HQ : Hid (q = true) := Lib.hid (by rw [HS.out]; simp)
      go_wp2
      go_ret
      exact ⟨by rw [HQ.out]; rfl, HB1.out⟩
    · have HQ : Hid (q = false) := Lib.hid (by rw [HS.out]; simp [hq])
      go_wp2
      go_ret
      exact ⟨by rw [HQ.out]; show Ending.returned (.bool (r2 == a)) = _; rw [beq_eq_false_iff_ne.2 hq], HB1.out⟩
end Go.Proofs.Ytlmhdocfdpbhmaa
