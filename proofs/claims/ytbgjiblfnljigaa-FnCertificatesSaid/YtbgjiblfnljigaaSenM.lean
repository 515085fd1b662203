/-
  Chapter 10, the model: l10At, l10Blocks, l10Pack.
-/
import Derived.Test.YtbgjiblfnljigaaSenK
namespace Go.Proofs.Ytbgjiblfnljigaa
open Go.RowKit Plain
set_option linter.unusedVariables false

theorem xor_mod (p q : Nat) : (p ^^^ q) % 2 = if (p % 2 != q % 2) = true then 1 else 0 := by
  have h := Nat.testBit_xor p q 0
  simp only [Nat.testBit_zero] at h
  have h1 : (p ^^^ q) % 2 < 2 := Nat.mod_lt _ (by decide)
  have h2 : p % 2 < 2 := Nat.mod_lt _ (by decide)
  have h3 : q % 2 < 2 := Nat.mod_lt _ (by decide)
  generalize (p ^^^ q) % 2 = z at *
  generalize p % 2 = c at *
  generalize q % 2 = d at *
  have hz : z = 0 ∨ z = 1 := by omega
  have hc : c = 0 ∨ c = 1 := by omega
  have hd : d = 0 ∨ d = 1 := by omega
  rcases hz with rfl | rfl <;> rcases hc with rfl | rfl <;> rcases hd with rfl | rfl <;> first | rfl | (exact absurd h (by decide))

theorem div_lim (a x : Nat) (ha : (a : Int) ≤ 4294967295) : ((a / 2 ^ x : Nat) : Int) ≤ 4294967295 := down_le a x _ ha

/-- The bit that tells whether the value changes. -/
theorem chg_bit (a x y : Nat) (ha : (a : Int) ≤ 4294967295) : ∃ z : Nat, Go.bits .xor .i64 ((a : Int) / 2 ^ x) ((a : Int) / 2 ^ y) = (z : Int) ∧ Go.bits .and .i64 (z : Int) 1 = (((if (bitN a x != bitN a y) = true then 1 else 0 : Nat)) : Int) := by
  have h1 := div_lim a x ha
  have h2 := div_lim a y ha
  refine ⟨(a / 2 ^ x) ^^^ (a / 2 ^ y), ?_, ?_⟩
  · rw [down2, down2]; exact xor64 _ _ (by omega) (by omega)
  · have hl : (a / 2 ^ x) ^^^ (a / 2 ^ y) < 2 ^ 32 := Nat.xor_lt_two_pow (by omega) (by omega)
    rw [and1_i64 _ (by omega), xor_mod]
    rfl

set_option maxRecDepth 100000 in
set_option maxHeartbeats 1000000 in
/-- l10At. -/
theorem L10At.any (n a x : Nat) (hn : n ≤ 5) (ha : (a : Int) ≤ 4294967295) (hx : (x : Int) < 2 ^ n) (w : World) :
    Calls Try.prog 52 #[.agg #[.int .i64 n, .int .i64 a], .int .i64 x] w fun e w' => e = .returned (.int .i64 (senN a x n : Int)) ∧ Below w.heap.size w w' := by
  have HN := Lib.hid hn
  have HA := Lib.hid ha
  have hn5 : (n : Int) ≤ 5 := by omega
  obtain ⟨hp1, hp2⟩ := two_pow_int n hn
  have HX := Lib.hid hx
  have hx32 : (x : Int) ≤ 31 := by omega
  clear hn hx hp1 hp2
  go_enter Try.func52, Try.ntmps52
  go_wp2_with fail
  go_loopw [5, 6] (fun c i wr => ∃ k : Nat, i = .int .i64 (k : Int) ∧ c = .int .i64 (senN a x k : Int) ∧ k ≤ n ∧ wr.heap[w.heap.size]? = some (.cells #[.int .i64 n, .int .i64 a] 25 (0, 0)) ∧ Below w.heap.size w wr) (fun _ i _ => n - (intOf i).toNat)
  case atStart => exact ⟨0, rfl, rfl, by omega, heap_alloc_new w _, bA (Nat.le_refl _) (Below.refl _ _)⟩
  case round =>
    obtain ⟨k, rfl, rfl, hk, hblk, hbel⟩ := hrel
    obtain ⟨c0, c1, f0, f1⟩ := cells2 hblk
    have HBLK := Lib.hid hblk
    have HBEL := Lib.hid hbel
    have hlz : w.heap.size < wr.heap.size := lt_of_block hblk
    clear hblk hbel
    by_cases hlt : k < n
    · have hkn : (k : Int) < (n : Int) := by omega
      have hk5 : k < 5 := by omega
      have hsh := shl_one k hk5
      have hsh64 := shl_one64 k hk5
      have hg := senN_le a x k
      have hP : ((2 ^ k : Nat) : Int) ≤ 16 := by
        rcases (show k = 0 ∨ k = 1 ∨ k = 2 ∨ k = 3 ∨ k = 4 by omega) with rfl | rfl | rfl | rfl | rfl <;> decide
      have hxor := xor64 x (2 ^ k) (by omega) (by omega)
      have hyl : x ^^^ 2 ^ k < 2 ^ 5 := Nat.xor_lt_two_pow (by omega) (by omega)
      have hy32 : ((x ^^^ 2 ^ k : Nat) : Int) ≤ 31 := by omega
      obtain ⟨z, hz1, hz2⟩ := chg_bit a x (x ^^^ 2 ^ k) ha
      cases hd : senB a x (2 ^ k) with
      | true =>
        have HT := Lib.hid (senN_yes hd)
        have hd2 : (bitN a x != bitN a (x ^^^ 2 ^ k)) = true := hd
        rw [if_pos hd2] at hz2
        generalize hg1 : senN a x (k + 1) = g1 at *
        generalize senN a x k = g at *
        generalize x ^^^ 2 ^ k = y at *
        generalize 2 ^ k = P at *
        clear hd hd2 hyl
        go_wp2_with fail
        go_quiet (fail)
        go_wp2_with fail
        go_roundw
        case rel => exact ⟨k + 1, by go_num, by rw [hg1, HT.out]; go_num, by omega, HBLK.out, below_drewN HBEL.out _⟩
        case measure => simp [intOf]; omega
      | false =>
        have HT := Lib.hid (senN_no hd)
        have hd2 : ¬ (bitN a x != bitN a (x ^^^ 2 ^ k)) = true := by
          intro q
          have hd3 : (bitN a x != bitN a (x ^^^ 2 ^ k)) = false := hd
          rw [hd3] at q; exact absurd q (by decide)
        rw [if_neg hd2] at hz2
        generalize hg1 : senN a x (k + 1) = g1 at *
        generalize senN a x k = g at *
        generalize x ^^^ 2 ^ k = y at *
        generalize 2 ^ k = P at *
        clear hd hd2 hyl
        go_wp2_with fail
        go_quiet (fail)
        go_wp2_with fail
        go_roundw
        case rel => exact ⟨k + 1, by go_num, by rw [hg1, HT.out], by omega, HBLK.out, below_drewN HBEL.out _⟩
        case measure => simp [intOf]; omega
    · obtain rfl : k = n := by omega
      go_wp2
      go_ret
      exact ⟨rfl, HBEL.out⟩

set_option maxRecDepth 100000 in
set_option maxHeartbeats 1000000 in
theorem Pack.step (l : List Nat) (from_ u : Nat) (v : Value) (w : World) (hf : from_ ≤ l.length) (hl : l.length ≤ 32) (hx : ∀ b ∈ l, b < 32) (hu : u < 32) (hin : NtIn w v l)
    (ih : ∀ k u' : Nat, from_ ≤ k → k < l.length → u' < 32 → Calls Try.prog 61 #[v, .int .i64 ((k : Int) + 1), .int .i64 u'] w fun e w' => e = .returned (.int .i64 (pck (l.drop (k + 1)) u' : Int)) ∧ w = w') :
    Calls Try.prog 61 #[v, .int .i64 from_, .int .i64 u] w fun e w' => e = .returned (.int .i64 (pck (l.drop from_) u : Int)) ∧ w = w' := by
  obtain ⟨ad, cap, rfl, hcap, hcap2, hrd⟩ := hin
  have HRD := Lib.hid hrd
  have HIH := Lib.hid ih
  have HXL := Lib.hid hx
  have hlz : (l.length : Int) ≤ 32 := by omega
  obtain ⟨r, hr⟩ : ∃ r, pck (l.drop from_) u = r := ⟨_, rfl⟩
  have HR := Lib.hid hr
  rw [hr]
  have HR0 : Hid (max 0 (pck (l.drop from_) u) = r) := Lib.hid (by rw [pck_start]; exact hr)
  have HF := Lib.hid hf
  clear ih hx hl hrd hr hf
  go_enter Try.func61, Try.ntmps61
  go_wp2_with fail
  go_loop [7, 8] (fun m i => ∃ k q : Nat, i = .int .i64 (k : Int) ∧ m = .int .i64 (q : Int) ∧ from_ ≤ k ∧ k ≤ l.length ∧ q ≤ 33 ∧ max q (pck (l.drop k) u) = r) (fun _ i => l.length - (intOf i).toNat)
  case atStart => exact ⟨from_, 0, rfl, rfl, by omega, HF.out, by omega, HR0.out⟩
  case round =>
    obtain ⟨k, q, rfl, rfl, hfk, hk, hq, hmx⟩ := hrel
    have HM := Lib.hid hmx
    clear hmx
    by_cases hlt : k < l.length
    · obtain ⟨b, off, rfl, hbw, hcl⟩ := HRD.out (by omega)
      have ck := hcl k hlt
      have hkz : (k : Int) < (l.length : Int) := by omega
      have hxk := HXL.out _ (getD_memN hlt)
      have hand := and64 (l.getD k 0) u (by omega) (by omega)
      have hor := or64 u (l.getD k 0) (by omega) (by omega)
      by_cases hz : l.getD k 0 &&& u = 0
      · have HY := Lib.hid (pck_yes hlt hz HM.out)
        have hul : u ||| l.getD k 0 < 32 := Nat.or_lt_two_pow (n := 5) hu hxk
        have hwrap : IntKind.i64.wrap ((k : Int) + 1) = (k : Int) + 1 := IntWalk.i64_in _ ⟨by omega, by omega⟩
        have HC := Lib.hid (HIH.out k (u ||| l.getD k 0) hfk hlt hul)
        have hpl := pck_le (l.drop (k + 1)) (u ||| l.getD k 0)
        rw [List.length_drop] at hpl
        rw [hz] at hand
        generalize pck (l.drop (k + 1)) (u ||| l.getD k 0) = p at *
        generalize u ||| l.getD k 0 = u2 at *
        generalize l.getD k 0 = x at *
        have hp33 : (p : Int) ≤ 32 := by omega
        clear hcl hlt hz
        go_wp2_with fail
        refine (HC.out).mono ?_
        rintro e w2 ⟨rfl, rfl⟩
        go_wp2_with fail
        all_goals
          go_round
          case rel => exact ⟨k + 1, max q (1 + p), by go_num, by (congr 1; (first | omega | (split <;> omega))), by omega, by omega, by omega, HY.out⟩
          case measure => simp [intOf] <;> omega
      · have HY := Lib.hid (pck_no hlt hz HM.out)
        have hbz : (((l.getD k 0 &&& u : Nat) : Int) == 0) = false := by rw [beq_eq_false_iff_ne]; omega
        generalize l.getD k 0 &&& u = y at *
        generalize l.getD k 0 = x at *
        clear hcl hlt hz hor
        go_wp2_with fail
        go_round
        case rel => exact ⟨k + 1, q, by go_num, rfl, by omega, by omega, by omega, HY.out⟩
        case measure => simp [intOf] <;> omega
    · obtain rfl : k = l.length := by omega
      have HE := Lib.hid (pck_end HM.out)
      go_wp2
      go_ret
      exact ⟨ret_int (by rw [HE.out]), rfl⟩

/-- l10Pack. -/
theorem Pack.any (l : List Nat) (v : Value) (w : World) (hl : l.length ≤ 32) (hx : ∀ b ∈ l, b < 32) (hin : NtIn w v l) (N : Nat) : ∀ from_ u : Nat, l.length - from_ ≤ N → from_ ≤ l.length → u < 32 →
    Calls Try.prog 61 #[v, .int .i64 from_, .int .i64 u] w fun e w' => e = .returned (.int .i64 (pck (l.drop from_) u : Int)) ∧ w = w' := by
  induction N with
  | zero =>
    intro from_ u h0 h1 h3
    exact Pack.step l from_ u v w h1 hl hx h3 hin fun k u' hf hk => absurd hk (by omega)
  | succ N ih =>
    intro from_ u h0 h1 h3
    refine Pack.step l from_ u v w h1 hl hx h3 hin fun k u' hf hk hu' => ?_
    have h := ih (k + 1) u' (by omega) (by omega) hu'
    rwa [show (((k + 1 : Nat)) : Int) = (k : Int) + 1 by omega] at h

end Go.Proofs.Ytbgjiblfnljigaa
